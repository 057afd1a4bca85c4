import Derived.Test.YtiabdbeejkadnabGreatDoorJ583fcfdf84
import Derived.Test.YtiabdbeejkadnabGreatDoorChecked
import Derived.Test.YtiabdbeejkadnabGreatDoorJ56e98afef6
/- Stage 2: the next command as a plain function, and that a search through the sorted ready requests finds it. Own work of the verifier. -/
namespace Go.Proofs.YtiabdbeejkadnabGreatDoor

def blocksB (r x : Rq) : Bool := x.page == r.page && (x.write || r.write) && (x.state == 0 || x.inAir)
/-- is a request ready? -/
def readyB (S : St) (r : Rq) : Bool := r.state == 0 && decide (r.after ≤ S.now) && !(S.reqs.any fun x => decide (x.num < r.num) && blocksB r x)
/-- the ready request with the lowest number of a page -/
def firstM (S : St) (p : Int) : Option Nat := S.reqs.findIdx? fun r => readyB S r && r.page == p
def pageGo (S : St) (i : Nat) : Nat → Option Int
  | 0 => none
  | n + 1 => if (firstM S ((S.head + i) % 16)).isSome then some ((S.head + i) % 16) else pageGo S (i + 1) n
/-- the page where the next command begins -/
def pageM (S : St) : Option Int := pageGo S 0 16
def groupM (S : St) (p : Int) (w : Bool) : List Int := (S.reqs.filter fun r => readyB S r && r.page == p && r.write == w && !r.alone).map (·.num)
def growM (S : St) (p : Int) (w : Bool) : Nat → Int → List Int → Int × List Int
  | 0, c, l => (c, l)
  | n + 1, c, l => if c < 4 ∧ p + c < 16 then (if groupM S (p + c) w = [] then (c, l) else growM S p w n (c + 1) (l ++ groupM S (p + c) w)) else (c, l)
def cmdAt (S : St) (p : Int) (f : Rq) : Cmd :=
  if f.alone = true then ⟨f.write, p, 1, [f.num]⟩ else ⟨f.write, p, (growM S p f.write 3 1 (groupM S p f.write)).1, (growM S p f.write 3 1 (groupM S p f.write)).2⟩
def nextM (S : St) : Option Cmd :=
  if S.depth ≤ S.flights.length then none else (pageM S).map fun p => cmdAt S p (S.reqs.getD ((firstM S p).getD 0) Rq.zero)
def markM (R : List Rq) (l : List Int) : List Rq := R.map fun r => if l.contains r.num then { r with state := 1, inAir := true } else r
def sendM (S : St) (c : Cmd) : St := { S with reqs := markM S.reqs c.requests, flights := S.flights ++ [c], head := c.page + c.count }
def stepM (S : St) : Option Cmd × St := match nextM S with | none => (none, S) | some c => (some c, sendM S c)

theorem firstM_some {S : St} {p : Int} {k : Nat} (h : firstM S p = some k) : ∃ hk : k < S.reqs.length, readyB S S.reqs[k] = true ∧ (S.reqs[k]).page = p ∧ ∀ j (hj : j < k), ¬ (readyB S (S.reqs[j]'(by omega)) = true ∧ (S.reqs[j]'(by omega)).page = p) := by
  unfold firstM at h
  rw [List.findIdx?_eq_some_iff_getElem] at h
  obtain ⟨hk, h1, h2⟩ := h
  simp only [Bool.and_eq_true, beq_iff_eq] at h1
  exact ⟨hk, h1.1, h1.2, fun j hj => by simpa using h2 j hj⟩
theorem firstM_isSome {S : St} {p : Int} : (firstM S p).isSome = true ↔ ∃ r ∈ S.reqs, readyB S r = true ∧ r.page = p := by
  unfold firstM
  rw [List.findIdx?_isSome, List.any_eq_true]
  simp
theorem firstM_none {S : St} {p : Int} : (firstM S p).isSome = false ↔ ∀ r ∈ S.reqs, readyB S r = true → r.page ≠ p := by
  rw [Bool.eq_false_iff, ne_eq, firstM_isSome]
  constructor
  · intro h r hr h1 h2; exact h ⟨r, hr, h1, h2⟩
  · rintro h ⟨r, hr, h1, h2⟩; exact h r hr h1 h2
theorem pageGo_none {S : St} {i n : Nat} (h : pageGo S i n = none) : ∀ j, i ≤ j → j < i + n → (firstM S ((S.head + j) % 16)).isSome = false := by
  induction n generalizing i with
  | zero => intro j h1 h2; omega
  | succ n ih =>
    intro j h1 h2
    unfold pageGo at h
    split at h
    · cases h
    · rename_i hne
      by_cases e : j = i
      · subst e; simpa using hne
      · exact ih h j (by omega) (by omega)
theorem pageGo_some {S : St} {i n : Nat} {p : Int} (h : pageGo S i n = some p) : ∃ j, i ≤ j ∧ j < i + n ∧ p = (S.head + j) % 16 ∧ (firstM S p).isSome = true ∧ ∀ t, i ≤ t → t < j → (firstM S ((S.head + t) % 16)).isSome = false := by
  induction n generalizing i with
  | zero => cases h
  | succ n ih =>
    unfold pageGo at h
    split at h
    · rename_i hy
      simp only [Option.some.injEq] at h
      exact ⟨i, Nat.le_refl _, by omega, h.symm, by rw [← h]; exact hy, fun t h1 h2 => by omega⟩
    · rename_i hne
      obtain ⟨j, h1, h2, h3, h4, h5⟩ := ih h
      refine ⟨j, by omega, by omega, h3, h4, fun t h6 h7 => ?_⟩
      by_cases e : t = i
      · subst e; simpa using hne
      · exact h5 t (by omega) h7

/-! ### rows in order -/
theorem sorted_ext {α : Type} {R : α → α → Prop} (hR : ∀ a b, R a b → ¬ R b a) {l m : List α} (hl : l.Pairwise R) (hm : m.Pairwise R) (h : ∀ x, x ∈ l ↔ x ∈ m) : l = m := by
  induction l generalizing m with
  | nil =>
    cases m with
    | nil => rfl
    | cons b m => exact absurd ((h b).2 (by simp)) (by simp)
  | cons a l ih =>
    cases m with
    | nil => exact absurd ((h a).1 (by simp)) (by simp)
    | cons b m =>
      rw [List.pairwise_cons] at hl hm
      have hab : a = b := by
        rcases List.mem_cons.1 ((h a).1 (by simp)) with e | e
        · exact e
        · rcases List.mem_cons.1 ((h b).2 (by simp)) with e' | e'
          · exact e'.symm
          · exact absurd (hl.1 b e') (hR _ _ (hm.1 a e))
      subst hab
      rw [ih hl.2 hm.2 (fun x => ⟨fun hx => ?_, fun hx => ?_⟩)]
      · rcases List.mem_cons.1 ((h x).1 (by simp [hx])) with e | e
        · subst e; exact absurd (hl.1 x hx) (hR _ _ (hl.1 x hx))
        · exact e
      · rcases List.mem_cons.1 ((h x).2 (by simp [hx])) with e | e
        · subst e; exact absurd (hm.1 x hx) (hR _ _ (hm.1 x hx))
        · exact e
/-- how requests stand: page by page, those of a page by their numbers -/
def Lt2 (a b : Rq) : Prop := a.page < b.page ∨ (a.page = b.page ∧ a.num < b.num)
theorem Lt2.asymm (a b : Rq) (h : Lt2 a b) : ¬ Lt2 b a := by unfold Lt2 at *; omega
theorem Lt2.trans {a b c : Rq} (h : Lt2 a b) (k : Lt2 b c) : Lt2 a c := by unfold Lt2 at *; omega
/-- the ready requests in their order -/
structure IsReady (S : St) (L : List Rq) : Prop where
  sorted : L.Pairwise Lt2
  mem : ∀ r, r ∈ L ↔ r ∈ S.reqs ∧ readyB S r = true
def from_ (L : List Rq) (q : Int) : List Rq := L.filter fun r => decide (q ≤ r.page)
def on_ (L : List Rq) (q : Int) : List Rq := L.filter fun r => r.page == q
theorem from_split {L : List Rq} (h : L.Pairwise Lt2) (q : Int) : from_ L q = on_ L q ++ from_ L (q + 1) := by
  refine sorted_ext Lt2.asymm (h.filter _) ?_ (fun x => ?_)
  · rw [List.pairwise_append]
    refine ⟨h.filter _, h.filter _, fun a ha b hb => ?_⟩
    simp only [on_, from_, List.mem_filter, beq_iff_eq, decide_eq_true_eq] at ha hb
    unfold Lt2; omega
  · simp only [on_, from_, List.mem_filter, List.mem_append, beq_iff_eq, decide_eq_true_eq]
    constructor
    · rintro ⟨h1, h2⟩
      by_cases e : x.page = q
      · exact Or.inl ⟨h1, e⟩
      · exact Or.inr ⟨h1, by omega⟩
    · rintro (⟨h1, h2⟩ | ⟨h1, h2⟩) <;> exact ⟨h1, by omega⟩
def isAlone (r : Rq) : Bool := decide (0 < r.tries)
def togo (w : Bool) (fin : Int) (page : Int) : List Rq → List Rq
  | [] => []
  | e :: l => if page + 1 < e.page ∨ fin ≤ e.page then [] else if e.write = w ∧ isAlone e = false then e :: togo w fin e.page l else togo w fin page l
def fits (w : Bool) (e : Rq) : Bool := e.write == w && !isAlone e
theorem togo_same {w : Bool} {fin q : Int} (hq : q < fin) (G rest : List Rq) (hG : ∀ e ∈ G, e.page = q) : togo w fin q (G ++ rest) = G.filter (fits w) ++ togo w fin q rest := by
  induction G with
  | nil => rfl
  | cons e G ih =>
    have he := hG e (by simp)
    have ih := ih (fun x hx => hG x (by simp [hx]))
    rw [List.cons_append, togo, if_neg (by omega)]
    by_cases hf : e.write = w ∧ isAlone e = false
    · rw [if_pos hf, he, ih, List.filter_cons_of_pos (by simp [fits, hf])]; rfl
    · rw [if_neg hf, ih, List.filter_cons_of_neg (by simp [fits]; simpa using hf)]
theorem togo_page {w : Bool} {fin q : Int} (hq : q < fin) (G rest : List Rq) (hG : ∀ e ∈ G, e.page = q) (hr : ∀ e ∈ rest, q + 1 ≤ e.page) : togo w fin (q - 1) (G ++ rest) = if G.filter (fits w) = [] then [] else G.filter (fits w) ++ togo w fin q rest := by
  induction G with
  | nil =>
    rw [List.filter_nil, if_pos rfl]
    cases rest with
    | nil => rfl
    | cons e l => have := hr e (by simp); rw [List.nil_append, togo, if_pos (by omega)]
  | cons e G ih =>
    have he := hG e (by simp)
    have hG' : ∀ x ∈ G, x.page = q := fun x hx => hG x (by simp [hx])
    rw [List.cons_append, togo, if_neg (by omega)]
    by_cases hf : e.write = w ∧ isAlone e = false
    · rw [if_pos hf, he, togo_same hq G rest hG', List.filter_cons_of_pos (by simp [fits, hf]), if_neg (by simp)]; rfl
    · rw [if_neg hf, ih hG', List.filter_cons_of_neg (by simp [fits]; simpa using hf)]
theorem togo_end {w : Bool} {fin page : Int} {l : List Rq} (h : ∀ e ∈ l, fin ≤ e.page) : togo w fin page l = [] := by
  cases l with
  | nil => rfl
  | cons e l => rw [togo, if_pos (Or.inr (h e (by simp)))]

section
variable {S : St} {L : List Rq}
theorem group_eq (hw : Wf S) (h : IsReady S L) (p : Int) (w : Bool) : groupM S p w = ((on_ L p).filter (fits w)).map (·.num) := by
  unfold groupM
  congr 1
  refine sorted_ext (R := fun a b => a.num < b.num) (fun a b h1 h2 => by omega) (hw.sorted.filter _) ?_ (fun x => ?_)
  · have h1 : ((on_ L p).filter (fits w)).Pairwise Lt2 := (h.sorted.filter _).filter _
    refine h1.imp_of_mem (fun ha hb hlt => ?_)
    simp only [on_, List.mem_filter, beq_iff_eq] at ha hb
    unfold Lt2 at hlt; omega
  · simp only [on_, List.mem_filter, h.mem, Bool.and_eq_true, beq_iff_eq, Bool.not_eq_true', fits]
    constructor
    · rintro ⟨h1, ⟨⟨h2, h3⟩, h4⟩, h5⟩
      refine ⟨⟨⟨h1, h2⟩, h3⟩, h4, ?_⟩
      have hs : x.state = 0 := by simp only [readyB, Bool.and_eq_true, beq_iff_eq] at h2; exact h2.1.1
      rw [← h5, (hw.rq x h1).alone hs]; rfl
    · rintro ⟨⟨⟨h1, h2⟩, h3⟩, h4, h5⟩
      refine ⟨h1, ⟨⟨h2, h3⟩, h4⟩, ?_⟩
      have hs : x.state = 0 := by simp only [readyB, Bool.and_eq_true, beq_iff_eq] at h2; exact h2.1.1
      rw [(hw.rq x h1).alone hs, ← h5]; rfl
theorem grow_eq (hw : Wf S) (h : IsReady S L) (p : Int) (w : Bool) (fin : Int) (hfin : fin = min (p + 4) 16) :
    ∀ (n : Nat) (c : Int) (l : List Int), 1 ≤ c → c + n = 4 → ∃ c', growM S p w n c l = (c', l ++ (togo w fin (p + c - 1) (from_ L (p + c))).map (·.num)) ∧ c ≤ c' ∧ c' ≤ 4 ∧ (p + c ≤ 16 → p + c' ≤ 16) ∧ (togo w fin (p + c - 1) (from_ L (p + c)) = [] → c' = c) ∧ ∀ e, (togo w fin (p + c - 1) (from_ L (p + c))).getLast? = some e → e.page = p + c' - 1 := by
  intro n
  induction n with
  | zero =>
    intro c l h1 h2
    have hc : c = 4 := by omega
    subst hc
    have e : togo w fin (p + 4 - 1) (from_ L (p + 4)) = [] := togo_end (fun e he => by simp only [from_, List.mem_filter, decide_eq_true_eq] at he; omega)
    rw [e]
    exact ⟨4, by simp [growM], by omega, by omega, fun h => h, fun _ => rfl, fun e he => by simp at he⟩
  | succ n ih =>
    intro c l h1 h2
    have hc4 : c < 4 := by omega
    by_cases hp : p + c < 16
    · have hq : p + c < fin := by omega
      have hG : ∀ e ∈ on_ L (p + c), e.page = p + c := fun e he => by simpa [on_, List.mem_filter] using (List.mem_filter.1 he).2
      have hr : ∀ e ∈ from_ L (p + c + 1), p + c + 1 ≤ e.page := fun e he => by simpa [from_] using (List.mem_filter.1 he).2
      have ht := togo_page (w := w) hq (on_ L (p + c)) (from_ L (p + c + 1)) hG hr
      rw [← from_split h.sorted] at ht
      have hg := group_eq hw h (p + c) w
      unfold growM
      rw [if_pos ⟨hc4, hp⟩]
      by_cases he : (on_ L (p + c)).filter (fits w) = []
      · rw [if_pos he] at ht
        rw [if_pos (by rw [hg, he]; rfl), ht]
        exact ⟨c, by simp, Int.le_refl _, by omega, fun h => h, fun _ => rfl, fun e he => by simp at he⟩
      · rw [if_neg he] at ht
        rw [if_neg (by rw [hg]; simpa using he), hg]
        obtain ⟨c', e1, e2, e3, e4, e5, e6⟩ := ih (c + 1) (l ++ ((on_ L (p + c)).filter (fits w)).map (·.num)) (by omega) (by omega)
        have ep : p + (c + 1) - 1 = p + c := by omega
        have ep2 : p + (c + 1) = p + c + 1 := by omega
        rw [ep, ep2] at e1 e5 e6
        refine ⟨c', ?_, by omega, e3, fun _ => e4 (by omega), ?_, ?_⟩
        · rw [e1, ht, List.map_append, List.append_assoc]
        · rw [ht]; intro hx; exact absurd (List.append_eq_nil_iff.1 hx).1 he
        · rw [ht]
          intro e hx
          cases hrest : togo w fin (p + c) (from_ L (p + c + 1)) with
          | nil =>
            rw [hrest, List.append_nil] at hx
            have := hG e ((List.mem_filter.1 (List.mem_of_getLast? hx)).1)
            rw [e5 hrest]; omega
          | cons a t =>
            rw [List.getLast?_append, hrest] at hx
            refine e6 e ?_
            rw [hrest]
            cases hg2 : (a :: t).getLast? with
            | none => simp at hg2
            | some z => rw [hg2] at hx; simpa using hx
    · have e : togo w fin (p + c - 1) (from_ L (p + c)) = [] := togo_end (fun e he => by simp only [from_, List.mem_filter, decide_eq_true_eq] at he; omega)
      rw [e]
      unfold growM
      rw [if_neg (by omega)]
      exact ⟨c, by simp, Int.le_refl _, by omega, fun h => h, fun _ => rfl, fun e he => by simp at he⟩
/-- the requests that go together -/
def togetherM (L : List Rq) : List Rq := match L with | [] => [] | f :: l => if isAlone f then [f] else togo f.write (min (f.page + 4) 16) f.page (f :: l)
/-- THE NEXT COMMAND by the sorted ready requests -/
theorem cmd_eq (hw : Wf S) (h : IsReady S L) {f : Rq} {l : List Rq} (hl : from_ L f.page = f :: l) (hf : f ∈ L) :
    ∃ c, cmdAt S f.page f = c ∧ c.write = f.write ∧ c.page = f.page ∧ c.requests = (togetherM (f :: l)).map (·.num) ∧ (togetherM (f :: l)).head? = some f ∧ 1 ≤ c.count ∧ c.count ≤ 4 ∧ c.page + c.count ≤ 16 ∧ ∀ e, (togetherM (f :: l)).getLast? = some e → e.page = c.page + c.count - 1 := by
  obtain ⟨hm, hr⟩ := (h.mem f).1 hf
  have o := hw.rq f hm
  have hs : f.state = 0 := by simp only [readyB, Bool.and_eq_true, beq_iff_eq] at hr; exact hr.1.1
  have ha : f.alone = isAlone f := o.alone hs
  have hpg := o.page
  have eT : togetherM (f :: l) = if isAlone f then [f] else togo f.write (min (f.page + 4) 16) f.page (f :: l) := rfl
  unfold cmdAt
  rw [ha, eT]
  by_cases hA : isAlone f = true
  · rw [if_pos hA, if_pos hA]
    refine ⟨_, rfl, rfl, rfl, rfl, rfl, by show (1 : Int) ≤ 1; omega, by show (1 : Int) ≤ 4; omega, by show f.page + 1 ≤ 16; omega, fun e he => ?_⟩
    simp at he
    subst he
    show f.page = f.page + 1 - 1
    omega
  · rw [if_neg hA, if_neg hA]
    have hA' : isAlone f = false := by simpa using hA
    have hG : ∀ e ∈ on_ L f.page, e.page = f.page := fun e he => by simpa [on_] using (List.mem_filter.1 he).2
    have ht := togo_same (w := f.write) (fin := min (f.page + 4) 16) (q := f.page) (by omega) (on_ L f.page) (from_ L (f.page + 1)) hG
    rw [← from_split h.sorted, hl] at ht
    have hg := group_eq hw h f.page f.write
    obtain ⟨c', e1, e2, e3, e4, e5, e6⟩ := grow_eq hw h f.page f.write (min (f.page + 4) 16) rfl 3 1 (groupM S f.page f.write) (by omega) (by omega)
    have ep : f.page + 1 - 1 = f.page := by omega
    rw [ep] at e1 e5 e6
    rw [e1]
    have hff : f ∈ (on_ L f.page).filter (fits f.write) := by simp [on_, fits, hf, hA']
    have hne : (on_ L f.page).filter (fits f.write) ≠ [] := fun e => by rw [e] at hff; simp at hff
    refine ⟨_, rfl, rfl, rfl, ?_, ?_, ?_, e3, ?_, ?_⟩
    · show _ ++ _ = _
      rw [ht, List.map_append, hg]
    · rw [togo, if_neg (by omega), if_pos ⟨rfl, hA'⟩]; rfl
    · show 1 ≤ c'; omega
    · show f.page + c' ≤ 16; exact e4 (by omega)
    · rw [ht]
      intro e hx
      show e.page = f.page + c' - 1
      cases hrest : togo f.write (min (f.page + 4) 16) f.page (from_ L (f.page + 1)) with
      | nil =>
        rw [hrest, List.append_nil] at hx
        have := hG e ((List.mem_filter.1 (List.mem_of_getLast? hx)).1)
        rw [e5 hrest]; omega
      | cons a t =>
        rw [List.getLast?_append, hrest] at hx
        refine e6 e ?_
        rw [hrest]
        cases hg2 : (a :: t).getLast? with
        | none => simp at hg2
        | some z => rw [hg2] at hx; simpa using hx
end
end Go.Proofs.YtiabdbeejkadnabGreatDoor

/- Stage 2: where the next command begins, by the sorted ready requests; what sending keeps. Own work of the verifier. -/
namespace Go.Proofs.YtiabdbeejkadnabGreatDoor
section
variable {S : St} {L : List Rq}
theorem pageM_of {p : Int} (hp : 0 ≤ p ∧ p < 16) (hs : (firstM S p).isSome = true) (hm : ∀ q, 0 ≤ q → q < 16 → (firstM S q).isSome = true → (p - S.head) % 16 ≤ (q - S.head) % 16) : pageM S = some p := by
  obtain ⟨j, hj⟩ : ∃ j : Nat, (j : Int) = (p - S.head) % 16 := ⟨((p - S.head) % 16).toNat, by omega⟩
  have ej : (S.head + j) % 16 = p := by omega
  unfold pageM
  cases hg : pageGo S 0 16 with
  | none =>
    have := pageGo_none hg j (by omega) (by omega)
    rw [ej, hs] at this; cases this
  | some p' =>
    obtain ⟨j', h1, h2, h3, h4, h5⟩ := pageGo_some hg
    have h6 := hm p' (by omega) (by omega) h4
    by_cases e : j = j'
    · subst e; rw [h3, ej]
    · have := h5 j (by omega) (by omega)
      rw [ej, hs] at this; cases this
theorem pageM_none (hn : ∀ r ∈ S.reqs, readyB S r = false) : pageM S = none := by
  cases hg : pageM S with
  | none => rfl
  | some p =>
    obtain ⟨j, _, _, _, h4, _⟩ := pageGo_some hg
    obtain ⟨r, hr, h1, _⟩ := firstM_isSome.1 h4
    rw [hn r hr] at h1; cases h1
def startM (S : St) (L : List Rq) : Nat := (L.findIdx? fun r => decide (S.head ≤ r.page)).getD 0
theorem first_is (hw : Wf S) (h : IsReady S L) {f : Rq} {l : List Rq} (hl : from_ L f.page = f :: l) (hf : f ∈ L) : S.reqs.getD ((firstM S f.page).getD 0) Rq.zero = f := by
  obtain ⟨hm, hr⟩ := (h.mem f).1 hf
  have hs : (firstM S f.page).isSome = true := firstM_isSome.2 ⟨f, hm, hr, rfl⟩
  obtain ⟨k, hk⟩ := Option.isSome_iff_exists.1 hs
  obtain ⟨hkl, h1, h2, h3⟩ := firstM_some hk
  rw [hk, Option.getD_some, getD_of hkl]
  have hin : S.reqs[k] ∈ f :: l := by
    rw [← hl]
    simp only [from_, List.mem_filter, decide_eq_true_eq]
    exact ⟨(h.mem _).2 ⟨List.getElem_mem _, h1⟩, by omega⟩
  rcases List.mem_cons.1 hin with e | e
  · exact e
  · exfalso
    have hp : (f :: l).Pairwise Lt2 := by rw [← hl]; exact h.sorted.filter _
    have hlt := (List.pairwise_cons.1 hp).1 _ e
    obtain ⟨i, hi, rfl⟩ := List.getElem_of_mem hm
    have hnum : (S.reqs[i]).num < (S.reqs[k]).num := by unfold Lt2 at hlt; omega
    have hik : i < k := by
      have hs := hw.sorted
      rw [List.pairwise_iff_getElem] at hs
      rcases Nat.lt_trichotomy i k with h | h | h
      · exact h
      · subst h; omega
      · have := hs k i hkl hi h; omega
    exact h3 i hik ⟨hr, rfl⟩
theorem next_eq (hw : Wf S) (h : IsReady S L) (hne : L ≠ []) : ∃ f l, L.drop (startM S L) = f :: l ∧ from_ L f.page = f :: l ∧ f ∈ L ∧ pageM S = some f.page := by
  have hpg : ∀ x ∈ L, 0 ≤ x.page ∧ x.page < 16 := fun x hx => (hw.rq x ((h.mem x).1 hx).1).page
  have hh := hw.head
  have fin : ∀ f l (A : List Rq), L = A ++ f :: l → (∀ x ∈ A, x.page < f.page) → (∀ q, 0 ≤ q → q < 16 → (∃ x ∈ L, x.page = q) → (f.page - S.head) % 16 ≤ (q - S.head) % 16) → from_ L f.page = f :: l ∧ f ∈ L ∧ pageM S = some f.page := by
    intro f l A e hA hmin
    have hf : f ∈ L := by rw [e]; simp
    have hpw := h.sorted
    rw [e, List.pairwise_append] at hpw
    refine ⟨?_, hf, ?_⟩
    · refine sorted_ext Lt2.asymm (h.sorted.filter _) hpw.2.1 (fun x => ?_)
      simp only [from_, List.mem_filter, decide_eq_true_eq]
      constructor
      · rintro ⟨h1, h2⟩
        rw [e, List.mem_append] at h1
        rcases h1 with h1 | h1
        · have := hA x h1; omega
        · exact h1
      · intro hx
        refine ⟨by rw [e, List.mem_append]; exact Or.inr hx, ?_⟩
        rcases List.mem_cons.1 hx with e' | e'
        · rw [e']; exact Int.le_refl _
        · have := (List.pairwise_cons.1 hpw.2.1).1 x e'
          unfold Lt2 at this; omega
    · obtain ⟨hm, hr⟩ := (h.mem f).1 hf
      refine pageM_of (hpg f hf) (firstM_isSome.2 ⟨f, hm, hr, rfl⟩) (fun q h0 h1 hq => ?_)
      obtain ⟨x, hx, h2, h3⟩ := firstM_isSome.1 hq
      exact hmin q h0 h1 ⟨x, (h.mem x).2 ⟨hx, h2⟩, h3⟩
  unfold startM
  cases hi : L.findIdx? (fun r => decide (S.head ≤ r.page)) with
  | none =>
    rw [List.findIdx?_eq_none_iff] at hi
    cases L with
    | nil => exact absurd rfl hne
    | cons f l =>
      have hlt := (List.pairwise_cons.1 h.sorted).1
      refine ⟨f, l, rfl, fin f l [] rfl (fun x hx => by cases hx) (fun q h0 h1 hq => ?_)⟩
      obtain ⟨x, hx, rfl⟩ := hq
      have h1 := hi x hx
      have h2 := hi f (by simp)
      simp at h1 h2
      have h3 := hpg f (by simp)
      have h4 : f.page ≤ x.page := by
        rcases List.mem_cons.1 hx with e | e
        · rw [e]; exact Int.le_refl _
        · have := hlt x e; unfold Lt2 at this; omega
      omega
  | some i =>
    rw [List.findIdx?_eq_some_iff_getElem] at hi
    obtain ⟨hil, h1, h2⟩ := hi
    rw [Option.getD_some]
    have e : L = L.take i ++ L[i] :: L.drop (i + 1) := by rw [← List.drop_eq_getElem_cons hil, List.take_append_drop]
    refine ⟨L[i], L.drop (i + 1), List.drop_eq_getElem_cons hil, fin _ _ _ e (fun x hx => ?_) (fun q h0 hq1 hq => ?_)⟩
    · obtain ⟨j, hj, rfl⟩ := List.mem_take_iff_getElem.1 hx
      have := h2 j (by omega)
      simp at this h1
      omega
    · obtain ⟨x, hx, rfl⟩ := hq
      have h3 := hpg _ (List.getElem_mem hil)
      simp at h1
      by_cases hb : S.head ≤ x.page
      · have h4 : (L[i]).page ≤ x.page := by
          rw [e, List.mem_append] at hx
          rcases hx with hx | hx
          · obtain ⟨j, hj, rfl⟩ := List.mem_take_iff_getElem.1 hx
            have := h2 j (by omega)
            simp at this
            omega
          · rcases List.mem_cons.1 hx with e' | e'
            · rw [e']; exact Int.le_refl _
            · have hpw := h.sorted
              rw [e, List.pairwise_append] at hpw
              have := (List.pairwise_cons.1 hpw.2.1).1 x e'
              unfold Lt2 at this; omega
        omega
      · omega
theorem togo_mem {w : Bool} {fin page : Int} {l : List Rq} {e : Rq} (h : e ∈ togo w fin page l) : e ∈ l ∧ e.write = w := by
  induction l generalizing page with
  | nil => simp [togo] at h
  | cons x l ih =>
    rw [togo] at h
    split at h
    · simp at h
    · split at h
      · rename_i hx
        rcases List.mem_cons.1 h with e' | e'
        · subst e'; exact ⟨by simp, hx.1⟩
        · have := ih e'; exact ⟨by simp [this.1], this.2⟩
      · have := ih h; exact ⟨by simp [this.1], this.2⟩
theorem togo_sub (w : Bool) (fin page : Int) (l : List Rq) : (togo w fin page l).Sublist l := by
  induction l generalizing page with
  | nil => exact List.Sublist.slnil
  | cons x l ih =>
    rw [togo]
    split
    · exact List.nil_sublist _
    · split
      · exact (ih _).cons_cons _
      · exact (ih _).cons _
theorem together_sub (L : List Rq) : (togetherM L).Sublist L := by
  unfold togetherM
  split
  · exact List.Sublist.refl _
  · split
    · exact (List.nil_sublist _).cons_cons _
    · exact togo_sub _ _ _ _
theorem together_write {f : Rq} {l : List Rq} {e : Rq} (h : e ∈ togetherM (f :: l)) : e.write = f.write := by
  have eT : togetherM (f :: l) = if isAlone f then [f] else togo f.write (min (f.page + 4) 16) f.page (f :: l) := rfl
  rw [eT] at h
  split at h
  · rw [List.mem_singleton.1 h]
  · exact (togo_mem h).2
/-- what goes next: the chosen requests, the command -/
structure Sends (S : St) (c : Cmd) (C : List Rq) : Prop where
  nums : c.requests = C.map (·.num)
  ne : C ≠ []
  mem : ∀ r ∈ C, r ∈ S.reqs ∧ readyB S r = true ∧ r.write = c.write
  sorted : C.Pairwise Lt2
  fst : ∀ r, C.head? = some r → r.page = c.page
  lst : ∀ r, C.getLast? = some r → r.page = c.page + c.count - 1
  cnt : 1 ≤ c.count ∧ c.count ≤ 4 ∧ 0 ≤ c.page ∧ c.page + c.count ≤ 16
theorem next_sends (hw : Wf S) (h : IsReady S L) (hd : ¬ S.depth ≤ S.flights.length) (hne : L ≠ []) : ∃ c, nextM S = some c ∧ Sends S c (togetherM (L.drop (startM S L))) := by
  obtain ⟨f, l, h1, h2, h3, h4⟩ := next_eq hw h hne
  obtain ⟨c, e1, e2, e3, e4, e5, e6, e7, e8, e9⟩ := cmd_eq hw h h2 h3
  have hsub : (togetherM (f :: l)).Sublist L := (together_sub _).trans (by rw [← h1]; exact List.drop_sublist _ _)
  refine ⟨c, ?_, ?_⟩
  · unfold nextM
    rw [if_neg hd, h4, Option.map_some, first_is hw h h2 h3, e1]
  · rw [h1]
    refine ⟨e4, fun e => (by rw [e] at e5; cases e5), fun r hr => ?_, h.sorted.sublist hsub, fun r hr => ?_, e9, e6, e7, ?_, e8⟩
    · have := (h.mem r).1 (hsub.subset hr)
      exact ⟨this.1, this.2, by rw [together_write hr, e2]⟩
    · rw [e5] at hr; cases hr; exact e3.symm
    · rw [e3]; exact (hw.rq f ((h.mem f).1 h3).1).page.1
theorem next_none (h : IsReady S L) (he : L = []) : nextM S = none := by
  have := pageM_none (S := S) (fun r hr => by
    cases hb : readyB S r with
    | false => rfl
    | true => have := (h.mem r).2 ⟨hr, hb⟩; rw [he] at this; cases this)
  unfold nextM
  split
  · rfl
  · rw [this]; rfl
theorem nextM_full (hd : S.depth ≤ S.flights.length) : nextM S = none := by unfold nextM; rw [if_pos hd]
/-- marked one by one -/
theorem mark_one (R : List Rq) (hs : R.Pairwise (fun a b => a.num < b.num)) (l : List Int) (n : Int) {k : Nat} (hk : k < R.length) (hn : (R[k]).num = n) : markM R (l ++ [n]) = (markM R l).set k { (R[k]) with state := 1, inAir := true } := by
  apply List.ext_getElem
  · simp [markM]
  · intro i h1 h2
    have hi : i < R.length := by simpa [markM] using h1
    rw [List.getElem_set]
    by_cases e : k = i
    · subst e
      rw [if_pos rfl]
      simp [markM, hn]
    · rw [if_neg e]
      have : (R[i]).num ≠ n := fun e' => e (nums_inj hs hk hi (by rw [hn, e']))
      simp [markM, this]
theorem mark_nil (R : List Rq) : markM R [] = R := by simp [markM]
theorem mark_len (R : List Rq) (l : List Int) : (markM R l).length = R.length := by simp [markM]
theorem mark_get (R : List Rq) (l : List Int) {k : Nat} (hk : k < R.length) (hl : (R[k]).num ∉ l) : (markM R l)[k]'(by rw [mark_len]; exact hk) = R[k] := by simp [markM, hl]
theorem mark_nums (R : List Rq) (l : List Int) : (markM R l).map (·.num) = R.map (·.num) := by
  unfold markM
  rw [List.map_map]
  apply List.map_congr_left
  intro r _
  show (if _ then _ else _ : Rq).num = _
  split <;> rfl
/-- what is sent is in order -/
theorem Sends.nodup {c : Cmd} {C : List Rq} (h : Sends S c C) (hw : Wf S) : c.requests.Nodup := by
  rw [h.nums]
  show (C.map (·.num)).Pairwise _
  rw [List.pairwise_map]
  refine h.sorted.imp_of_mem (fun ha hb hlt e => ?_)
  have := num_uniq hw.sorted (h.mem _ ha).1 (h.mem _ hb).1 e
  subst this
  exact Lt2.asymm _ _ hlt hlt
theorem Sends.marked {c : Cmd} {C : List Rq} (h : Sends S c C) (hw : Wf S) (i : Nat) (hi : i ≤ c.requests.length) : WfE { S with reqs := markM S.reqs (c.requests.take i) } (c.requests.take i) := by
  induction i with
  | zero => rw [List.take_zero, mark_nil]; exact hw
  | succ i ih =>
    have hi' : i < c.requests.length := by omega
    have ih := ih (by omega)
    have hnd := h.nodup hw
    obtain ⟨r, hr, hrn⟩ : ∃ r ∈ C, r.num = c.requests[i] := by
      have : c.requests[i] ∈ C.map (·.num) := by rw [← h.nums]; exact List.getElem_mem _
      obtain ⟨r, hr, e⟩ := List.mem_map.1 this
      exact ⟨r, hr, e⟩
    obtain ⟨hm, hrd, _⟩ := h.mem r hr
    obtain ⟨k, hk, hkr⟩ := List.getElem_of_mem hm
    have hnot : c.requests[i] ∉ c.requests.take i := by
      intro hx
      obtain ⟨j, hj, e⟩ := List.mem_take_iff_getElem.1 hx
      have := (List.pairwise_iff_getElem.1 hnd) j i (by omega) hi' (by omega)
      exact this e
    have hkn : (S.reqs[k]).num = c.requests[i] := by rw [hkr]; exact hrn
    have hst : (S.reqs[k]).state = 0 := by rw [hkr]; simp only [readyB, Bool.and_eq_true, beq_iff_eq] at hrd; exact hrd.1.1
    have hg := mark_get S.reqs (c.requests.take i) hk (by rw [hkn]; exact hnot)
    rw [List.take_succ_eq_append_getElem hi', mark_one S.reqs hw.sorted _ _ hk hkn]
    have hk2 : k < ({ S with reqs := markM S.reqs (c.requests.take i) } : St).reqs.length := by show k < (markM _ _).length; rw [mark_len]; exact hk
    have hg2 : ({ S with reqs := markM S.reqs (c.requests.take i) } : St).reqs[k]'hk2 = S.reqs[k] := hg
    have := ih.mark hk2 (by rw [hg2]; exact hst)
    rw [hg2, hkn] at this
    exact this
theorem Sends.wf {c : Cmd} {C : List Rq} (h : Sends S c C) (hw : Wf S) (hd : ¬ S.depth ≤ S.flights.length) : Wf (sendM S c) := by
  have h1 := h.marked hw c.requests.length (Nat.le_refl _)
  rw [List.take_length] at h1
  have hc := h.cnt
  refine h1.land c rfl ?_ (by show (S.flights.length : Int) < S.depth; omega) (c.page + c.count) (by omega)
  have hin : ∀ r ∈ markM S.reqs c.requests, ∀ x ∈ C, x.num = r.num → x.write = r.write ∧ x.page = r.page := by
    intro r hr x hx e
    unfold markM at hr
    obtain ⟨y, hy, rfl⟩ := List.mem_map.1 hr
    have hyn : x = y := num_uniq hw.sorted (h.mem x hx).1 hy (by rw [e]; split <;> rfl)
    subst hyn
    split <;> exact ⟨rfl, rfl⟩
  refine ⟨fun e => h.ne (by rw [h.nums] at e; simpa using e), fun r hr hn => ?_, fun r hr hn => ?_, fun r hr hn => ?_⟩
  · rw [h.nums] at hn
    obtain ⟨x, hx, e⟩ := List.mem_map.1 hn
    rw [← (hin r hr x hx e).1]; exact (h.mem x hx).2.2
  · rw [h.nums, List.head?_map] at hn
    cases hC : C.head? with
    | none => rw [hC] at hn; cases hn
    | some x =>
      rw [hC] at hn
      simp at hn
      rw [← (hin r hr x (List.mem_of_head? hC) hn).2]; exact h.fst x hC
  · rw [h.nums, List.getLast?_map] at hn
    cases hC : C.getLast? with
    | none => rw [hC] at hn; cases hn
    | some x =>
      rw [hC] at hn
      simp at hn
      rw [← (hin r hr x (List.mem_of_getLast? hC) hn).2]; exact h.lst x hC
/-- the ready requests, sorted: there they are -/
theorem ready_exists (S : St) (hs : S.reqs.Pairwise (fun a b => a.num < b.num)) : ∃ L, IsReady S L := by
  have key : ∀ (n : Nat) (R : List Rq), R.length ≤ n → (∀ a ∈ R, ∀ b ∈ R, a.num = b.num → a = b) → ∃ L : List Rq, L.Pairwise Lt2 ∧ ∀ r, r ∈ L ↔ r ∈ R := by
    intro n
    induction n with
    | zero => intro R h _; exact ⟨[], List.Pairwise.nil, fun r => by have := List.length_eq_zero_iff.1 (by omega : R.length = 0); subst this; simp⟩
    | succ n ih =>
      intro R h hu
      cases R with
      | nil => exact ⟨[], List.Pairwise.nil, fun r => by simp⟩
      | cons a R =>
        obtain ⟨L1, p1, m1⟩ := ih (R.filter fun b => decide (b.page < a.page ∨ (b.page = a.page ∧ b.num < a.num))) (by have := List.length_filter_le (fun b => decide (b.page < a.page ∨ (b.page = a.page ∧ b.num < a.num))) R; simp at h; omega) (fun x hx y hy => hu x (by simp [(List.mem_filter.1 hx).1]) y (by simp [(List.mem_filter.1 hy).1]))
        obtain ⟨L2, p2, m2⟩ := ih (R.filter fun b => decide (a.page < b.page ∨ (a.page = b.page ∧ a.num < b.num))) (by have := List.length_filter_le (fun b => decide (a.page < b.page ∨ (a.page = b.page ∧ a.num < b.num))) R; simp at h; omega) (fun x hx y hy => hu x (by simp [(List.mem_filter.1 hx).1]) y (by simp [(List.mem_filter.1 hy).1]))
        refine ⟨L1 ++ a :: L2, ?_, fun r => ?_⟩
        · rw [List.pairwise_append, List.pairwise_cons]
          have b1 : ∀ x ∈ L1, Lt2 x a := fun x hx => by have := (List.mem_filter.1 ((m1 x).1 hx)).2; simpa [Lt2] using this
          have b2 : ∀ x ∈ L2, Lt2 a x := fun x hx => by have := (List.mem_filter.1 ((m2 x).1 hx)).2; simpa [Lt2] using this
          refine ⟨p1, ⟨b2, p2⟩, fun x hx y hy => ?_⟩
          rcases List.mem_cons.1 hy with e | e
          · subst e; exact b1 x hx
          · exact (b1 x hx).trans (b2 y e)
        · rw [List.mem_append, List.mem_cons, List.mem_cons, m1, m2, List.mem_filter, List.mem_filter]
          simp only [decide_eq_true_eq]
          constructor
          · rintro (⟨h, _⟩ | h | ⟨h, _⟩)
            · exact Or.inr h
            · exact Or.inl h
            · exact Or.inr h
          · rintro (h | h)
            · exact Or.inr (Or.inl h)
            · by_cases h1 : r.page < a.page ∨ (r.page = a.page ∧ r.num < a.num)
              · exact Or.inl ⟨h, h1⟩
              · by_cases h2 : a.page < r.page ∨ (a.page = r.page ∧ a.num < r.num)
                · exact Or.inr (Or.inr ⟨h, h2⟩)
                · exact Or.inr (Or.inl (hu r (by simp [h]) a (by simp) (by omega)))
  obtain ⟨L, h1, h2⟩ := key _ (S.reqs.filter fun r => readyB S r) (Nat.le_refl _) (fun a ha b hb => num_uniq hs (List.mem_filter.1 ha).1 (List.mem_filter.1 hb).1)
  exact ⟨L, h1, fun r => by rw [h2, List.mem_filter]⟩
theorem Wf.step (hw : Wf S) : Wf (stepM S).2 := by
  unfold stepM
  cases hn : nextM S with
  | none => exact hw
  | some c =>
    obtain ⟨L, hL⟩ := ready_exists S hw.sorted
    by_cases hd : S.depth ≤ S.flights.length
    · rw [nextM_full hd] at hn; cases hn
    · by_cases he : L = []
      · rw [next_none hL he] at hn; cases hn
      · obtain ⟨c', h1, h2⟩ := next_sends hw hL hd he
        rw [h1] at hn
        cases hn
        exact h2.wf hw hd
theorem stepM_same (S : St) : (stepM S).2.last = S.last ∧ (stepM S).2.now = S.now := by
  unfold stepM
  split <;> exact ⟨rfl, rfl⟩
end
end Go.Proofs.YtiabdbeejkadnabGreatDoor

/- Sizes of the plain types. Own work of the verifier. -/
namespace Go.Proofs.YtiabdbeejkadnabGreatDoor
open Go.RowKit
theorem info_int : (Tryz.prog.info? 3).map (fun i => (i.zero, i.size, i.bytes)) = some (some (.int .i64 0), 1, 8) := by kernel_rfl
theorem info_byte : (Tryz.prog.info? 5).map (fun i => (i.zero, i.size, i.bytes)) = some (some (.int .u8 0), 1, 1) := by kernel_rfl
end Go.Proofs.YtiabdbeejkadnabGreatDoor
