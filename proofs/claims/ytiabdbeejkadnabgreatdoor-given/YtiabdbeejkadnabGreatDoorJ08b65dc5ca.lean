import Derived.Test.YtiabdbeejkadnabGreatDoorJ33110ff27c
/- The keeps: Given as a plain model: a queue without one of the requests. Own work of the verifier. -/
namespace Go.Proofs.YtiabdbeejkadnabGreatDoor

/-- a request without what it carries -/
def er (r : Rq) : Rq := { r with data := ⟨#[]⟩, answer := ⟨#[]⟩ }
/-- numbers above n are greater by one -/
def sh (n m : Int) : Int := if n < m then m + 1 else m
theorem sh_lt (n a b : Int) : sh n a < sh n b ↔ a < b := by unfold sh; split <;> split <;> omega
theorem sh_inj {n a b : Int} (h : sh n a = sh n b) : a = b := by unfold sh at h; split at h <;> split at h <;> omega
def ren (n : Int) (r : Rq) : Rq := { r with num := sh n r.num }
def renC (n : Int) (c : Cmd) : Cmd := { c with requests := c.requests.map (sh n) }
/-- a change of requests that keeps what the next command hangs on -/
structure Pres (f : Rq → Rq) (σ : Int → Int) : Prop where
  num : ∀ r, (f r).num = σ r.num
  write : ∀ r, (f r).write = r.write
  page : ∀ r, (f r).page = r.page
  state : ∀ r, (f r).state = r.state
  after : ∀ r, (f r).after = r.after
  alone : ∀ r, (f r).alone = r.alone
  air : ∀ r, (f r).inAir = r.inAir
  lt : ∀ a b, σ a < σ b ↔ a < b
theorem pres_er : Pres er id := ⟨fun _ => rfl, fun _ => rfl, fun _ => rfl, fun _ => rfl, fun _ => rfl, fun _ => rfl, fun _ => rfl, fun _ _ => Iff.rfl⟩
theorem pres_ren (n : Int) : Pres (fun r => er (ren n r)) (sh n) := ⟨fun _ => rfl, fun _ => rfl, fun _ => rfl, fun _ => rfl, fun _ => rfl, fun _ => rfl, fun _ => rfl, sh_lt n⟩
section
variable {f : Rq → Rq} {σ : Int → Int} {S T : St}
theorem map_ready (hf : Pres f σ) (hr : T.reqs = S.reqs.map f) (hn : T.now = S.now) (r : Rq) : readyB T (f r) = readyB S r := by
  unfold readyB blocksB
  rw [hr, hn, List.any_map, hf.state, hf.after]
  have e : ((fun x => decide (x.num < (f r).num) && (x.page == (f r).page && (x.write || (f r).write) && (x.state == 0 || x.inAir))) ∘ f) = fun x => decide (x.num < r.num) && (x.page == r.page && (x.write || r.write) && (x.state == 0 || x.inAir)) := by
    funext x
    simp only [Function.comp, hf.num, hf.page, hf.write, hf.state, hf.air, hf.lt]
  rw [e]
theorem map_first (hf : Pres f σ) (hr : T.reqs = S.reqs.map f) (hn : T.now = S.now) (p : Int) : firstM T p = firstM S p := by
  unfold firstM
  rw [hr, List.findIdx?_map]
  congr 1
  funext r
  simp only [Function.comp, map_ready hf hr hn, hf.page]
theorem map_pageGo (hf : Pres f σ) (hr : T.reqs = S.reqs.map f) (hn : T.now = S.now) (hh : T.head = S.head) : ∀ n i, pageGo T i n = pageGo S i n := by
  intro n
  induction n with
  | zero => intro i; rfl
  | succ n ih => intro i; unfold pageGo; rw [map_first hf hr hn, hh, ih]
theorem map_group (hf : Pres f σ) (hr : T.reqs = S.reqs.map f) (hn : T.now = S.now) (p : Int) (w : Bool) : groupM T p w = (groupM S p w).map σ := by
  unfold groupM
  rw [hr, List.filter_map, List.map_map, List.map_map]
  have e : (fun r => readyB T r && r.page == p && r.write == w && !r.alone) ∘ f = fun r => readyB S r && r.page == p && r.write == w && !r.alone := by
    funext r
    simp only [Function.comp, map_ready hf hr hn, hf.page, hf.write, hf.alone]
  rw [e]
  apply List.map_congr_left
  intro r _
  exact hf.num r
theorem map_grow (hf : Pres f σ) (hr : T.reqs = S.reqs.map f) (hn : T.now = S.now) (p : Int) (w : Bool) : ∀ n c l, growM T p w n c (l.map σ) = ((growM S p w n c l).1, (growM S p w n c l).2.map σ) := by
  intro n
  induction n with
  | zero => intro c l; rfl
  | succ n ih =>
    intro c l
    unfold growM
    rw [map_group hf hr hn]
    by_cases h1 : c < 4 ∧ p + c < 16
    · rw [if_pos h1, if_pos h1]
      by_cases h2 : groupM S (p + c) w = []
      · rw [if_pos h2, if_pos (by rw [h2]; rfl)]
      · rw [if_neg h2, if_neg (by rw [List.map_eq_nil_iff]; exact h2), ← List.map_append, ih]
    · rw [if_neg h1, if_neg h1]
def mapC (σ : Int → Int) (c : Cmd) : Cmd := { c with requests := c.requests.map σ }
theorem map_cmd (hf : Pres f σ) (hr : T.reqs = S.reqs.map f) (hn : T.now = S.now) (p : Int) (r : Rq) : cmdAt T p (f r) = mapC σ (cmdAt S p r) := by
  unfold cmdAt
  rw [hf.alone, hf.write]
  split
  · simp only [mapC, List.map_cons, List.map_nil, hf.num]
  · rw [map_group hf hr hn, map_grow hf hr hn]
    rfl
theorem map_next (hf : Pres f σ) (hr : T.reqs = S.reqs.map f) (hn : T.now = S.now) (hh : T.head = S.head) (hd : T.depth = S.depth) (hl : T.flights.length = S.flights.length) : nextM T = (nextM S).map (mapC σ) := by
  unfold nextM
  rw [hd, hl]
  split
  · rfl
  · unfold pageM
    rw [map_pageGo hf hr hn hh]
    cases hp : pageGo S 0 16 with
    | none => rfl
    | some p =>
      simp only [Option.map_some, Option.some.injEq]
      obtain ⟨j, _, hj, hpj, hs, _⟩ := pageGo_some hp
      cases hf1 : firstM S p with
      | none => rw [hf1] at hs; cases hs
      | some k =>
        obtain ⟨hk, _⟩ := firstM_some hf1
        rw [map_first hf hr hn, hf1, ← map_cmd hf hr hn]
        congr 1
        simp only [Option.getD_some, hr, getD_of hk, getD_of (show k < (S.reqs.map f).length by simpa using hk), List.getElem_map]
/-- it is sent: marked -/
theorem map_mark (R : List Rq) (l : List Int) (hn : ∀ r, (f r).num = σ r.num) (hi : ∀ a b, σ a = σ b → a = b) (hm : ∀ r, f { r with state := 1, inAir := true } = { f r with state := 1, inAir := true }) : markM (R.map f) (l.map σ) = (markM R l).map f := by
  unfold markM
  rw [List.map_map, List.map_map]
  apply List.map_congr_left
  intro r _
  simp only [Function.comp]
  have e : (l.map σ).contains (f r).num = l.contains r.num := by
    rw [Bool.eq_iff_iff, List.contains_iff_mem, List.contains_iff_mem, List.mem_map, hn]
    exact ⟨fun ⟨a, h1, h2⟩ => hi _ _ h2 ▸ h1, fun h => ⟨_, h, rfl⟩⟩
  rw [e]
  split
  · rw [hm]
  · rfl
end
/-- Sa is Sb with its numbers above n greater by one, whatever is carried -/
structure Like (n : Int) (A B : St) : Prop where
  depth : A.depth = B.depth
  now : A.now = B.now
  head : A.head = B.head
  ta : A.told = []
  tb : B.told = []
  fl : A.flights = B.flights.map (renC n)
  rq : A.reqs.map er = B.reqs.map fun r => er (ren n r)
section
variable {n : Int} {A B : St}
theorem mapC_id (c : Cmd) : mapC id c = c := by simp [mapC]
theorem Like.next (h : Like n A B) : nextM A = (nextM B).map (renC n) := by
  have e1 : nextM { A with reqs := A.reqs.map er } = (nextM A).map (mapC id) := map_next pres_er rfl rfl rfl rfl rfl
  have e2 : nextM { A with reqs := A.reqs.map er } = (nextM B).map (mapC (sh n)) := map_next (pres_ren n) h.rq h.now h.head h.depth (by show A.flights.length = _; rw [h.fl, List.length_map])
  have e3 : (nextM A).map (mapC id) = nextM A := by
    cases nextM A with
    | none => rfl
    | some c => simp [mapC_id]
  rw [← e3, ← e1, e2]
  rfl
theorem Like.step (h : Like n A B) : Like n (stepM A).2 (stepM B).2 := by
  have hx := h.next
  unfold stepM
  cases hb : nextM B with
  | none =>
    rw [hb] at hx
    rw [hx]
    exact h
  | some c =>
    rw [hb] at hx
    rw [hx]
    refine ⟨h.depth, h.now, rfl, h.ta, h.tb, ?_, ?_⟩
    · show A.flights ++ [renC n c] = (B.flights ++ [c]).map (renC n)
      rw [h.fl, List.map_append]; rfl
    · show (markM A.reqs (c.requests.map (sh n))).map er = (markM B.reqs c.requests).map fun r => er (ren n r)
      have e1 := map_mark (f := er) (σ := id) A.reqs (c.requests.map (sh n)) (fun _ => rfl) (fun _ _ e => e) (fun _ => rfl)
      rw [List.map_id] at e1
      rw [← e1, h.rq]
      exact map_mark (f := fun r => er (ren n r)) (σ := sh n) B.reqs c.requests (fun _ => rfl) (fun _ _ e => sh_inj e) (fun _ => rfl)
theorem find_map {f : Rq → Rq} {σ : Int → Int} (R : List Rq) (m : Int) (hn : ∀ r, (f r).num = σ r.num) (hi : ∀ a b, σ a = σ b → a = b) : findR (R.map f) (σ m) = findR R m := by
  unfold findR
  rw [List.findIdx?_map]
  congr 1
  funext r
  simp only [Function.comp, hn]
  rw [Bool.eq_iff_iff, beq_iff_eq, beq_iff_eq]
  exact ⟨fun e => hi _ _ e, fun e => by rw [e]⟩
/-- the end of a try without a fault, but for what is carried -/
def endE (r : Rq) : Rq := { r with tries := r.tries + 1, inAir := false, state := if r.state = 1 then 2 else r.state }
theorem er_tried (S : St) (r : Rq) : er (triedR S false r) = endE (er r) := by
  unfold triedR er endE
  simp
theorem er_ren_tried (S : St) (r : Rq) : er (ren n (triedR S false r)) = endE (er (ren n r)) := by
  unfold triedR er endE ren
  simp
theorem Like.tried (h : Like n A B) (m : Int) : Like n (triedM A (sh n m) false) (triedM B m false) := by
  have hA : toldHas A.told (sh n m) = false := by rw [h.ta]; rfl
  have hB : toldHas B.told m = false := by rw [h.tb]; rfl
  have hf : findR A.reqs (sh n m) = findR B.reqs m := by
    have e1 := find_map (f := er) (σ := id) A.reqs (sh n m) (fun _ => rfl) (fun _ _ e => e)
    have e2 := find_map (f := fun r => er (ren n r)) (σ := sh n) B.reqs m (fun _ => rfl) (fun _ _ e => sh_inj e)
    rw [← e2, ← h.rq]; exact e1.symm
  have hlen : A.reqs.length = B.reqs.length := by have := congrArg List.length h.rq; simpa using this
  unfold triedM
  rw [if_neg (by simp [hA]), if_neg (by simp [hB]), hf]
  generalize (findR B.reqs m).getD 0 = k
  refine ⟨h.depth, h.now, h.head, h.ta, h.tb, h.fl, ?_⟩
  show (A.reqs.set k (triedR A false (A.reqs.getD k Rq.zero))).map er = (B.reqs.set k (triedR B false (B.reqs.getD k Rq.zero))).map fun r => er (ren n r)
  rw [List.map_set, List.map_set, h.rq, er_tried]
  by_cases hk : k < B.reqs.length
  · rw [getD_of hk, getD_of (show k < A.reqs.length by omega), er_ren_tried]
    have : er (A.reqs[k]'(by omega)) = er (ren n B.reqs[k]) := by
      have := congrArg (fun l => l[k]?) h.rq
      simpa [hk, show k < A.reqs.length by omega] using this
    rw [this]
  · rw [List.set_eq_of_length_le (by simp; omega), List.set_eq_of_length_le (by simp; omega)]
theorem Like.ends (h : Like n A B) (l : List Int) : Like n (endM A (l.map (sh n)) false) (endM B l false) := by
  induction l generalizing A B with
  | nil => exact h
  | cons m l ih => exact ih (h.tried m)
theorem Like.complete (h : Like n A B) : (completeM A 0 false).1 = (completeM B 0 false).1 ∧ Like n (completeM A 0 false).2 (completeM B 0 false).2 := by
  have hl : A.flights.length = B.flights.length := by rw [h.fl, List.length_map]
  unfold completeM
  rw [hl]
  split
  · exact ⟨rfl, h⟩
  · rename_i hne
    have h0 : 0 < B.flights.length := by omega
    refine ⟨rfl, ?_⟩
    have e : (A.flights.getD (0 : Int).toNat ⟨false, 0, 0, []⟩).requests = (B.flights.getD (0 : Int).toNat ⟨false, 0, 0, []⟩).requests.map (sh n) := by
      rw [h.fl]
      cases hb : B.flights with
      | nil => rw [hb] at h0; simp at h0
      | cons c l => rfl
    show Like n (endM { A with flights := A.flights.eraseIdx (0 : Int).toNat } (A.flights.getD (0 : Int).toNat ⟨false, 0, 0, []⟩).requests false) (endM { B with flights := B.flights.eraseIdx (0 : Int).toNat } (B.flights.getD (0 : Int).toNat ⟨false, 0, 0, []⟩).requests false)
    rw [e]
    refine Like.ends (A := { A with flights := A.flights.eraseIdx (0 : Int).toNat }) (B := { B with flights := B.flights.eraseIdx (0 : Int).toNat }) ⟨h.depth, h.now, h.head, h.ta, h.tb, ?_, h.rq⟩ _
    show A.flights.eraseIdx 0 = (B.flights.eraseIdx 0).map (renC n)
    rw [h.fl]
    cases B.flights with
    | nil => rfl
    | cons c l => rfl
end
/-! ### how long it goes on -/
def waitN (S : St) : Nat := (S.reqs.filter (fun r => r.state == 0)).length
def restN (S : St) : Nat := 2 * waitN S + S.flights.length
theorem filt_map_le (g : Rq → Rq) (R : List Rq) (h : ∀ r ∈ R, (g r).state = 0 → r.state = 0) : ((R.map g).filter (fun r => r.state == 0)).length ≤ (R.filter (fun r => r.state == 0)).length := by
  induction R with
  | nil => simp
  | cons a R ih =>
    have i1 := ih (fun r hr => h r (by simp [hr]))
    have i2 := h a (by simp)
    simp only [List.map_cons, List.filter_cons]
    by_cases e : (g a).state = 0
    · simp only [e, i2 e, beq_self_eq_true, if_true, List.length_cons]; omega
    · by_cases e2 : a.state = 0 <;> simp [e, e2] <;> omega
theorem filt_map_lt (g : Rq → Rq) (R : List Rq) (h : ∀ r ∈ R, (g r).state = 0 → r.state = 0) {x : Rq} (hx : x ∈ R) (h0 : x.state = 0) (h1 : (g x).state ≠ 0) : ((R.map g).filter (fun r => r.state == 0)).length + 1 ≤ (R.filter (fun r => r.state == 0)).length := by
  induction R with
  | nil => simp at hx
  | cons a R ih =>
    have i2 := h a (by simp)
    have hR : ∀ r ∈ R, (g r).state = 0 → r.state = 0 := fun r hr => h r (by simp [hr])
    simp only [List.map_cons, List.filter_cons]
    rcases List.mem_cons.1 hx with rfl | hx
    · have := filt_map_le g R hR
      simp [h0, h1]; omega
    · have i1 := ih hR hx
      by_cases e : (g a).state = 0
      · simp only [e, i2 e, beq_self_eq_true, if_true, List.length_cons]; omega
      · by_cases e2 : a.state = 0 <;> simp [e, e2] <;> omega
section
variable {S : St}
theorem step_rest (hw : Wf S) {c : Cmd} (hn : nextM S = some c) : restN (stepM S).2 + 1 ≤ restN S := by
  obtain ⟨g, _⟩ := next_all hw hn
  unfold stepM
  rw [hn]
  have hne : 0 < c.requests.length := by have := g.len.1; have := g.c1; omega
  obtain ⟨m, hm⟩ := List.exists_mem_of_length_pos hne
  obtain ⟨x, hx, e, hr, _⟩ := g.mem m hm
  have key := filt_map_lt (fun r => if c.requests.contains r.num then { r with state := 1, inAir := true } else r) S.reqs (fun r _ h => by
    split at h
    · cases h
    · exact h) hx (ready_zero hr) (by
    have : c.requests.contains x.num = true := by rw [List.contains_iff_mem, e]; exact hm
    simp only [this, if_true]; decide)
  show 2 * ((markM S.reqs c.requests).filter _).length + (S.flights ++ [c]).length + 1 ≤ _
  unfold markM restN waitN
  rw [List.length_append]
  simp only [List.length_singleton]
  omega
theorem filt_set_le (R : List Rq) (k : Nat) (x : Rq) (h : x.state = 0 → (R.getD k Rq.zero).state = 0) : ((R.set k x).filter (fun r => r.state == 0)).length ≤ (R.filter (fun r => r.state == 0)).length := by
  induction R generalizing k with
  | nil => simp
  | cons a R ih =>
    cases k with
    | zero =>
      simp only [List.set_cons_zero, List.filter_cons]
      by_cases e : x.state = 0
      · have : a.state = 0 := h e
        simp [e, this]
      · by_cases e2 : a.state = 0 <;> simp [e, e2]
    | succ k =>
      have := ih k (by simpa using h)
      simp only [List.set_cons_succ, List.filter_cons]
      split <;> simp <;> omega
theorem tried_wait (S : St) (m : Int) (ht : S.told = []) : waitN (triedM S m false) ≤ waitN S ∧ (triedM S m false).told = [] := by
  unfold triedM
  rw [if_neg (by rw [ht]; simp [toldHas])]
  refine ⟨?_, ht⟩
  refine filt_set_le _ _ _ (fun h => ?_)
  have h : (if (S.reqs.getD ((findR S.reqs m).getD 0) Rq.zero).state = 1 then (2 : Int) else (S.reqs.getD ((findR S.reqs m).getD 0) Rq.zero).state) = 0 := by simpa [triedR] using h
  split at h
  · cases h
  · exact h
theorem end_wait (l : List Int) : ∀ S : St, S.told = [] → waitN (endM S l false) ≤ waitN S ∧ (endM S l false).told = [] := by
  induction l with
  | nil => intro S ht; exact ⟨Nat.le_refl _, ht⟩
  | cons m l ih =>
    intro S ht
    obtain ⟨h1, h2⟩ := tried_wait S m ht
    obtain ⟨h3, h4⟩ := ih (triedM S m false) h2
    exact ⟨Nat.le_trans h3 h1, h4⟩
theorem complete_rest (ht : S.told = []) (hc : (completeM S 0 false).1 = true) : restN (completeM S 0 false).2 + 1 ≤ restN S := by
  unfold completeM at hc ⊢
  split at hc
  · cases hc
  · rename_i hne
    rw [if_neg hne]
    have h0 : 0 < S.flights.length := by omega
    obtain ⟨h1, _⟩ := end_wait (S.flights.getD (0 : Int).toNat ⟨false, 0, 0, []⟩).requests { S with flights := S.flights.eraseIdx (0 : Int).toNat } ht
    have h2 := (endM_same (S.flights.getD (0 : Int).toNat ⟨false, 0, 0, []⟩).requests { S with flights := S.flights.eraseIdx (0 : Int).toNat } false).2.2.2.2
    show 2 * waitN (endM { S with flights := S.flights.eraseIdx (0 : Int).toNat } (S.flights.getD (0 : Int).toNat ⟨false, 0, 0, []⟩).requests false) + List.length (endM { S with flights := S.flights.eraseIdx (0 : Int).toNat } (S.flights.getD (0 : Int).toNat ⟨false, 0, 0, []⟩).requests false).flights + 1 ≤ 2 * waitN S + S.flights.length
    rw [h2]
    have h3 : (S.flights.eraseIdx (0 : Int).toNat).length + 1 = S.flights.length := by
      rw [List.length_eraseIdx, if_pos (by simpa using h0)]; omega
    have h4 : waitN { S with flights := S.flights.eraseIdx (0 : Int).toNat } = waitN S := rfl
    rw [h4] at h1
    show _ + (S.flights.eraseIdx (0 : Int).toNat).length + 1 ≤ _
    omega
/-- nothing is sent, nothing is under way: nothing waits -/
theorem none_waits (hw : Wf S) (hn : nextM S = none) (hf : S.flights = []) (ha : ∀ r ∈ S.reqs, r.after ≤ S.now) : waitM S = [] := by
  obtain ⟨L, hL⟩ := ready_exists S hw.sorted
  have hd : ¬ S.depth ≤ S.flights.length := by rw [hf]; have := hw.depth; simp; omega
  have hLe : L = [] := by
    cases L with
    | nil => rfl
    | cons a l =>
      obtain ⟨c, hc, _⟩ := next_sends hw hL hd (by simp)
      rw [hn] at hc; cases hc
  subst hLe
  unfold waitM
  rw [List.map_eq_nil_iff]
  cases hF : S.reqs.filter (fun r => r.state == 0) with
  | nil => rfl
  | cons x l =>
    exfalso
    have hx : x ∈ S.reqs.filter (fun r => r.state == 0) := by rw [hF]; simp
    obtain ⟨hx1, hx2⟩ := List.mem_filter.1 hx
    have hs : (S.reqs.filter (fun r => r.state == 0)).Pairwise (fun a b => a.num < b.num) := hw.sorted.filter _
    rw [hF, List.pairwise_cons] at hs
    have hr : readyB S x = true := by
      unfold readyB
      simp only [Bool.and_eq_true, hx2, decide_eq_true_eq, ha x hx1, true_and, Bool.not_eq_true', List.any_eq_false]
      intro y hy
      unfold blocksB
      simp only [Bool.and_eq_true, Bool.or_eq_true, beq_iff_eq]
      rintro ⟨hlt, _, hst⟩
      rcases hst with hst | hst
      · have hym : y ∈ S.reqs.filter (fun r => r.state == 0) := List.mem_filter.2 ⟨hy, by simp [hst]⟩
        rw [hF] at hym
        rcases List.mem_cons.1 hym with rfl | hym
        · omega
        · have := hs.1 y hym; omega
      · have := (hw.rq y hy).air.1 hst
        simp [airs, hf] at this
    have := (hL.mem x).2 ⟨hx1, hr⟩
    simp at this
end
end Go.Proofs.YtiabdbeejkadnabGreatDoor

/- The keeps: Given: while requests are asked for; one of them is given up. Own work of the verifier. -/
namespace Go.Proofs.YtiabdbeejkadnabGreatDoor

/-- i requests were asked for, of B but for the one at place n -/
structure Asked (n i : Nat) (A B : St) (D : Int) : Prop where
  wa : Wf A
  wb : Wf B
  da : A.depth = D
  db : B.depth = D
  ta : A.told = []
  tb : B.told = []
  fa : A.flights = []
  fb : B.flights = []
  na : A.now = 0
  nb : B.now = 0
  ha : A.head = 0
  hb : B.head = 0
  la : A.reqs.length = i
  lb : B.reqs.length = if n < i then i - 1 else i
  sa : A.last = i
  sb : B.last = B.reqs.length
  num : ∀ k (hk : k < A.reqs.length), (A.reqs[k]).num = k + 1
  za : ∀ r ∈ A.reqs, r.state = 0 ∧ r.tries = 0 ∧ r.after = 0 ∧ r.inAir = false
  rq : (A.reqs.eraseIdx n).map er = B.reqs.map fun r => er (ren n r)
theorem Asked.new (n : Nat) (D : Int) (hD : 1 ≤ D ∧ D ≤ 4) : Asked n 0 (St.new D) (St.new D) D where
  wa := Wf.new D hD
  wb := Wf.new D hD
  da := rfl
  db := rfl
  ta := rfl
  tb := rfl
  fa := rfl
  fb := rfl
  na := rfl
  nb := rfl
  ha := rfl
  hb := rfl
  la := rfl
  lb := by rw [if_neg (by omega)]; rfl
  sa := rfl
  sb := rfl
  num := fun k (hk : k < 0) => by omega
  za := fun r (hr : r ∈ []) => by simp at hr
  rq := rfl
section
variable {n i : Nat} {A B : St} {D : Int}
theorem Asked.roomA (h : Asked n i A B D) (hi : i < 40) : ¬ 40 ≤ (A.reqs.length : Int) - A.told.length := by rw [h.ta, h.la]; simp; omega
theorem Asked.roomB (h : Asked n i A B D) (hi : i < 40) : ¬ 40 ≤ (B.reqs.length : Int) - B.told.length := by
  have := h.lb
  rw [h.tb]; simp only [List.length_nil]
  split at this <;> omega
theorem askA_num (A : St) (w : Bool) (p : Int) (d : ByteArray) (i : Nat) (hl : A.reqs.length = i) (hs : A.last = i) (h : ∀ k (hk : k < A.reqs.length), (A.reqs[k]).num = k + 1) : ∀ k (hk : k < (askOk A w p d).reqs.length), ((askOk A w p d).reqs[k]).num = k + 1 := by
  intro k hk
  have hk' : k < (A.reqs ++ [(⟨A.last + 1, w, p, d, 0, 0, 0, false, false, ⟨#[]⟩⟩ : Rq)]).length := hk
  show ((A.reqs ++ [(⟨A.last + 1, w, p, d, 0, 0, 0, false, false, ⟨#[]⟩⟩ : Rq)])[k]).num = k + 1
  by_cases e : k < A.reqs.length
  · rw [List.getElem_append_left e]; exact h k e
  · have e2 : k = A.reqs.length := by simp at hk'; omega
    subst e2
    rw [List.getElem_append_right (by omega)]
    simp [hs, hl]
theorem askA_za (A : St) (w : Bool) (p : Int) (d : ByteArray) (h : ∀ r ∈ A.reqs, r.state = 0 ∧ r.tries = 0 ∧ r.after = 0 ∧ r.inAir = false) : ∀ r ∈ (askOk A w p d).reqs, r.state = 0 ∧ r.tries = 0 ∧ r.after = 0 ∧ r.inAir = false := by
  intro r hr
  rcases List.mem_append.1 (show r ∈ A.reqs ++ [_] from hr) with e | e
  · exact h r e
  · rw [List.mem_singleton.1 e]; exact ⟨rfl, rfl, rfl, rfl⟩
/-- asked of both -/
theorem Asked.both (h : Asked n i A B D) (hne : i ≠ n) (hi : i < 40) (w : Bool) (p : Int) (d d' : ByteArray) (hp : 0 ≤ p ∧ p < 16) (hd : w = true → d.size = 4) (hd' : w = true → d'.size = 4) : Asked n (i + 1) (askOk A w p d) (askOk B w p d') D where
  wa := h.wa.ask (h.roomA hi) w p d hp hd
  wb := h.wb.ask (h.roomB hi) w p d' hp hd'
  da := h.da
  db := h.db
  ta := h.ta
  tb := h.tb
  fa := h.fa
  fb := h.fb
  na := h.na
  nb := h.nb
  ha := h.ha
  hb := h.hb
  la := by show (A.reqs ++ [_]).length = _; rw [List.length_append, h.la]; rfl
  lb := by
    show (B.reqs ++ [_]).length = _
    have := h.lb
    rw [List.length_append]
    simp only [List.length_singleton]
    split at this
    · rw [if_pos (by omega)]; omega
    · rw [if_neg (by omega)]; omega
  sa := by show A.last + 1 = _; rw [h.sa]; omega
  sb := by show B.last + 1 = ((B.reqs ++ [_]).length : Int); rw [h.sb, List.length_append]; simp
  num := askA_num A w p d i h.la h.sa h.num
  za := askA_za A w p d h.za
  rq := by
    show ((A.reqs ++ [_]).eraseIdx n).map er = (B.reqs ++ [_]).map _
    have hlb := h.lb
    have hsb := h.sb
    have hsa := h.sa
    rw [List.map_append]
    by_cases e : n < A.reqs.length
    · rw [List.eraseIdx_append_of_lt_length e, List.map_append, h.rq]
      congr 1
      simp only [List.map_cons, List.map_nil, List.cons.injEq, and_true, er, ren, sh]
      have e2 : (n : Int) < B.last + 1 := by rw [hsb, hlb, if_pos (by have := h.la; omega)]; have := h.la; omega
      rw [if_pos e2, hsa, hsb, hlb, if_pos (by have := h.la; omega)]
      have := h.la
      congr 1
      omega
    · have e' : A.reqs.length ≤ n := by omega
      have hrq := h.rq
      rw [List.eraseIdx_of_length_le e'] at hrq
      have e3 : (A.reqs ++ [(⟨A.last + 1, w, p, d, 0, 0, 0, false, false, ⟨#[]⟩⟩ : Rq)]).eraseIdx n = A.reqs ++ [⟨A.last + 1, w, p, d, 0, 0, 0, false, false, ⟨#[]⟩⟩] := List.eraseIdx_of_length_le (by rw [List.length_append]; simp; have := h.la; omega)
      rw [e3, List.map_append, hrq]
      congr 1
      simp only [List.map_cons, List.map_nil, List.cons.injEq, and_true, er, ren, sh]
      have hla := h.la
      have e2 : ¬ (n : Int) < B.last + 1 := by rw [hsb, hlb, if_neg (by omega)]; omega
      rw [if_neg e2, hsa, hsb, hlb, if_neg (by omega)]
/-- asked of the first alone -/
theorem Asked.one (h : Asked n n A B D) (hi : n < 40) (w : Bool) (p : Int) (d : ByteArray) (hp : 0 ≤ p ∧ p < 16) (hd : w = true → d.size = 4) : Asked n (n + 1) (askOk A w p d) B D where
  wa := h.wa.ask (h.roomA hi) w p d hp hd
  wb := h.wb
  da := h.da
  db := h.db
  ta := h.ta
  tb := h.tb
  fa := h.fa
  fb := h.fb
  na := h.na
  nb := h.nb
  ha := h.ha
  hb := h.hb
  la := by show (A.reqs ++ [_]).length = _; rw [List.length_append, h.la]; rfl
  lb := by
    have := h.lb
    rw [if_neg (by omega)] at this
    rw [if_pos (by omega)]; omega
  sa := by show A.last + 1 = _; rw [h.sa]; omega
  sb := h.sb
  num := askA_num A w p d n h.la h.sa h.num
  za := askA_za A w p d h.za
  rq := by
    show ((A.reqs ++ [_]).eraseIdx n).map er = _
    have hrq := h.rq
    have hla := h.la
    rw [List.eraseIdx_of_length_le (by omega)] at hrq
    rw [List.eraseIdx_append_of_length_le (by omega), hla, Nat.sub_self]
    simpa using hrq
theorem Asked.find (h : Asked n i A B D) (hn : n < i) : findR A.reqs (n + 1) = some n := by
  have hk : n < A.reqs.length := by rw [h.la]; exact hn
  have := findR_at h.wa.sorted hk
  rwa [h.num n hk] at this
/-- given up, told -/
def gone (A : St) (n : Nat) : St := { A with reqs := A.reqs.eraseIdx n }
def given4 (A : St) (n : Nat) : St := { A with reqs := setState A.reqs n 4 }
theorem Asked.cancel (h : Asked n i A B D) (hn : n < i) : cancelM A (n + 1) = (0, 0, given4 A n) := by
  have hk : n < A.reqs.length := by rw [h.la]; exact hn
  have hp : placeM A (n + 1) = n := by
    unfold placeM
    rw [h.ta, h.find hn]; rfl
  unfold cancelM
  rw [hp, if_neg (by omega)]
  simp only [Int.toNat_natCast, getD_of hk]
  rw [if_neg (by rw [(h.za _ (List.getElem_mem hk)).1]; decide)]
  rfl
theorem Asked.place4 (h : Asked n i A B D) (hn : n < i) : placeM (given4 A n) (n + 1) = n ∧ (given4 A n).reqs.getD n Rq.zero = { A.reqs.getD n Rq.zero with state := 4 } := by
  have hk : n < A.reqs.length := by rw [h.la]; exact hn
  constructor
  · unfold placeM
    show (if toldHas A.told (n + 1) then (-1 : Int) else intOr (findR (setState A.reqs n 4) (n + 1))) = n
    rw [h.ta]
    have : findR (setState A.reqs n 4) (n + 1) = some n := by
      have hs : (setState A.reqs n 4).Pairwise (fun a b => a.num < b.num) := by
        rw [setState_eq _ _ _ hk]; exact sorted_setR h.wa.sorted n _ hk rfl
      have hl : n < (setState A.reqs n 4).length := by simpa [setState] using hk
      have := findR_at hs hl
      have e : ((setState A.reqs n 4)[n]).num = n + 1 := by
        simp only [setState, List.getElem_set_self, getD_of hk]
        exact h.num n hk
      rwa [e] at this
    rw [this]; rfl
  · show (setState A.reqs n 4).getD n Rq.zero = _
    rw [getD_of (by simpa [setState] using hk)]
    simp [setState]
theorem Asked.cancel2 (h : Asked n i A B D) (hn : n < i) : cancelM (given4 A n) (n + 1) = (9, 0, given4 A n) := by
  have hk : n < A.reqs.length := by rw [h.la]; exact hn
  obtain ⟨h1, h2⟩ := h.place4 hn
  unfold cancelM
  rw [h1, if_neg (by omega)]
  simp only [Int.toNat_natCast, h2]
  rw [if_pos (by decide)]
  simp only [getD_of hk, (h.za _ (List.getElem_mem hk)).2.1]
theorem Asked.poll (h : Asked n i A B D) (hn : n < i) : pollM (given4 A n) (n + 1) = (⟨#[]⟩, 0, 8, gone A n) := by
  have hk : n < A.reqs.length := by rw [h.la]; exact hn
  obtain ⟨h1, h2⟩ := h.place4 hn
  have h3 : dropM (given4 A n) n = gone A n := by
    unfold dropM
    rw [h2, if_neg (by rw [getD_of hk]; simp [(h.za _ (List.getElem_mem hk)).2.2.2])]
    show ({ A with reqs := (setState A.reqs n 4).eraseIdx n } : St) = _
    unfold setState
    rw [erase_set]; rfl
  unfold pollM
  rw [h1, if_neg (by omega)]
  simp only [Int.toNat_natCast, h2, h3]
  have ht : (A.reqs.getD n Rq.zero).tries = 0 := by rw [getD_of hk]; exact (h.za _ (List.getElem_mem hk)).2.1
  rw [ht]
  rfl
theorem Asked.poll2 (h : Asked n i A B D) (hn : n < i) : pollM (gone A n) (n + 1) = (⟨#[]⟩, 0, 5, gone A n) := by
  have hk : n < A.reqs.length := by rw [h.la]; exact hn
  have hp : placeM (gone A n) (n + 1) = -1 := by
    unfold placeM
    show (if toldHas A.told (n + 1) then (-1 : Int) else intOr (findR (A.reqs.eraseIdx n) (n + 1))) = -1
    rw [h.ta]
    have : findR (A.reqs.eraseIdx n) (n + 1) = none := findR_none_of (fun r hr e => by
      have := ((mem_erase h.wa.sorted hk r).1 hr).2
      rw [h.num n hk] at this
      exact this e)
    rw [this]; rfl
  unfold pollM
  rw [hp, if_pos (by decide)]
theorem Asked.like (h : Asked n i A B D) (_hn : n < i) : Like n (gone A n) B := ⟨h.da.trans h.db.symm, h.na.trans h.nb.symm, h.ha.trans h.hb.symm, h.ta, h.tb, by show A.flights = _; rw [h.fa, h.fb]; rfl, h.rq⟩
theorem Asked.wfG (h : Asked n i A B D) (hn : n < i) : Wf (gone A n) := by
  have h1 := Wf.cancelM h.wa (n + 1)
  rw [h.cancel hn] at h1
  have h2 := Wf.poll h1 (n + 1)
  rwa [h.poll hn] at h2
theorem Asked.rest (h : Asked n i A B D) (hn : n < i) (hi : i ≤ 40) : restN (gone A n) ≤ 78 := by
  have hk : n < A.reqs.length := by rw [h.la]; exact hn
  have h1 : waitN (gone A n) ≤ (A.reqs.eraseIdx n).length := List.length_filter_le _ _
  have h2 : (A.reqs.eraseIdx n).length + 1 = i := by rw [List.length_eraseIdx, if_pos hk, h.la]; omega
  show 2 * waitN (gone A n) + A.flights.length ≤ 78
  rw [h.fa]; simp; omega
end
/-! ### the loop -/
/-- what stands at the head of a round -/
structure LoopG (n : Nat) (A B : St) (D : Int) : Prop where
  like : Like n A B
  wa : Wf A
  wb : Wf B
  af : ∀ r ∈ A.reqs, r.after ≤ A.now
  now : A.now = 0
theorem Asked.loop {n i : Nat} {A B : St} {D : Int} (h : Asked n i A B D) (hn : n < i) : LoopG n (gone A n) B D := by
  refine ⟨h.like hn, h.wfG hn, h.wb, fun r hr => ?_, h.na⟩
  have := (h.za r (List.mem_of_mem_eraseIdx hr)).2.2.1
  show r.after ≤ A.now
  rw [this, h.na]; decide
theorem tried_after (S : St) (m : Int) (ht : S.told = []) (h : ∀ r ∈ S.reqs, r.after ≤ S.now) : ∀ r ∈ (triedM S m false).reqs, r.after ≤ S.now := by
  intro r hr
  unfold triedM at hr
  rw [if_neg (by rw [ht]; simp [toldHas])] at hr
  have hr : r ∈ S.reqs.set ((findR S.reqs m).getD 0) (triedR S false (S.reqs.getD ((findR S.reqs m).getD 0) Rq.zero)) := hr
  by_cases hk : (findR S.reqs m).getD 0 < S.reqs.length
  · rcases List.mem_or_eq_of_mem_set hr with e | e
    · exact h r e
    · rw [e]
      have := h _ (List.getElem_mem hk)
      rw [getD_of hk]
      simpa [triedR] using this
  · rw [List.set_eq_of_length_le (by omega)] at hr
    exact h r hr
theorem end_after (l : List Int) : ∀ S : St, S.told = [] → (∀ r ∈ S.reqs, r.after ≤ S.now) → ∀ r ∈ (endM S l false).reqs, r.after ≤ S.now := by
  induction l with
  | nil => intro S _ h; exact h
  | cons m l ih =>
    intro S ht h
    have := ih (triedM S m false) (tried_wait S m ht).2 (by
      have e := (triedM_same S m false).2.1
      rw [e]; exact tried_after S m ht h)
    rw [(triedM_same S m false).2.1] at this
    exact this
section
variable {n : Nat} {A B : St} {D : Int}
theorem LoopG.step (h : LoopG n A B D) : LoopG n (stepM A).2 (stepM B).2 D := by
  refine ⟨h.like.step, h.wa.step, h.wb.step, ?_, by rw [(stepM_same A).2]; exact h.now⟩
  rw [(stepM_same A).2]
  unfold stepM
  cases nextM A with
  | none => exact h.af
  | some c =>
    intro r hr
    obtain ⟨x, hx, e⟩ := List.mem_map.1 (show r ∈ markM A.reqs c.requests from hr)
    split at e
    · rw [← e]; exact h.af x hx
    · rw [← e]; exact h.af x hx
theorem LoopG.complete (h : LoopG n A B D) : LoopG n (completeM A 0 false).2 (completeM B 0 false).2 D := by
  refine ⟨h.like.complete.2, Wf.complete h.wa 0 false, Wf.complete h.wb 0 false, ?_, by rw [(completeM_same A 0 false).2]; exact h.now⟩
  rw [(completeM_same A 0 false).2]
  unfold completeM
  split
  · exact h.af
  · exact end_after _ { A with flights := A.flights.eraseIdx (0 : Int).toNat } h.like.ta h.af
end
end Go.Proofs.YtiabdbeejkadnabGreatDoor
