/- Stage 2: the next command as a plain function, and that a search through the sorted ready requests finds it. Own work of the verifier. -/
import Derived.Test.YtiabdbeejkadnaaGreatDoorModT
namespace Go.Proofs.YtiabdbeejkadnaaGreatDoor

def blocksB (r x : Rq) : Bool := x.page == r.page && (x.write || r.write) && (x.state == 0 || x.inAir)
/-- is a request ready? -/
def readyB (S : St) (r : Rq) : Bool := r.state == 0 && decide (r.after ≤ S.now) && !(S.reqs.any fun x => decide (x.num < r.num) && blocksB r x)
/-- the ready request with the lowest number of a page -/
def firstM (S : St) (p : Int) : Option Nat := S.reqs.findIdx? fun r => readyB S r && r.page == p
def pageGo (S : St) (i : Nat) : Nat → Option Int
  | 0 => none
  | n + 1 => if (firstM S ((S.head + i) % 16)).isSome then some ((S.head + i) % 16) else pageGo S (i + 1) n
/-- the page where the next command begins -/
def pageM (S : St) : Option Int := pageGo S 0 16
def groupM (S : St) (p : Int) (w : Bool) : List Int := (S.reqs.filter fun r => readyB S r && r.page == p && r.write == w && !r.alone).map (·.num)
def growM (S : St) (p : Int) (w : Bool) : Nat → Int → List Int → Int × List Int
  | 0, c, l => (c, l)
  | n + 1, c, l => if c < 4 ∧ p + c < 16 then (if groupM S (p + c) w = [] then (c, l) else growM S p w n (c + 1) (l ++ groupM S (p + c) w)) else (c, l)
def cmdAt (S : St) (p : Int) (f : Rq) : Cmd :=
  if f.alone = true then ⟨f.write, p, 1, [f.num]⟩ else ⟨f.write, p, (growM S p f.write 3 1 (groupM S p f.write)).1, (growM S p f.write 3 1 (groupM S p f.write)).2⟩
def nextM (S : St) : Option Cmd :=
  if S.depth ≤ S.flights.length then none else (pageM S).map fun p => cmdAt S p (S.reqs.getD ((firstM S p).getD 0) Rq.zero)
def markM (R : List Rq) (l : List Int) : List Rq := R.map fun r => if l.contains r.num then { r with state := 1, inAir := true } else r
def sendM (S : St) (c : Cmd) : St := { S with reqs := markM S.reqs c.requests, flights := S.flights ++ [c], head := c.page + c.count }
def stepM (S : St) : Option Cmd × St := match nextM S with | none => (none, S) | some c => (some c, sendM S c)

theorem firstM_some {S : St} {p : Int} {k : Nat} (h : firstM S p = some k) : ∃ hk : k < S.reqs.length, readyB S S.reqs[k] = true ∧ (S.reqs[k]).page = p ∧ ∀ j (hj : j < k), ¬ (readyB S (S.reqs[j]'(by omega)) = true ∧ (S.reqs[j]'(by omega)).page = p) := by
  unfold firstM at h
  rw [List.findIdx?_eq_some_iff_getElem] at h
  obtain ⟨hk, h1, h2⟩ := h
  simp only [Bool.and_eq_true, beq_iff_eq] at h1
  exact ⟨hk, h1.1, h1.2, fun j hj => by simpa using h2 j hj⟩
theorem firstM_isSome {S : St} {p : Int} : (firstM S p).isSome = true ↔ ∃ r ∈ S.reqs, readyB S r = true ∧ r.page = p := by
  unfold firstM
  rw [List.findIdx?_isSome, List.any_eq_true]
  simp
theorem firstM_none {S : St} {p : Int} : (firstM S p).isSome = false ↔ ∀ r ∈ S.reqs, readyB S r = true → r.page ≠ p := by
  rw [Bool.eq_false_iff, ne_eq, firstM_isSome]
  constructor
  · intro h r hr h1 h2; exact h ⟨r, hr, h1, h2⟩
  · rintro h ⟨r, hr, h1, h2⟩; exact h r hr h1 h2
theorem pageGo_none {S : St} {i n : Nat} (h : pageGo S i n = none) : ∀ j, i ≤ j → j < i + n → (firstM S ((S.head + j) % 16)).isSome = false := by
  induction n generalizing i with
  | zero => intro j h1 h2; omega
  | succ n ih =>
    intro j h1 h2
    unfold pageGo at h
    split at h
    · cases h
    · rename_i hne
      by_cases e : j = i
      · subst e; simpa using hne
      · exact ih h j (by omega) (by omega)
theorem pageGo_some {S : St} {i n : Nat} {p : Int} (h : pageGo S i n = some p) : ∃ j, i ≤ j ∧ j < i + n ∧ p = (S.head + j) % 16 ∧ (firstM S p).isSome = true ∧ ∀ t, i ≤ t → t < j → (firstM S ((S.head + t) % 16)).isSome = false := by
  induction n generalizing i with
  | zero => cases h
  | succ n ih =>
    unfold pageGo at h
    split at h
    · rename_i hy
      simp only [Option.some.injEq] at h
      exact ⟨i, Nat.le_refl _, by omega, h.symm, by rw [← h]; exact hy, fun t h1 h2 => by omega⟩
    · rename_i hne
      obtain ⟨j, h1, h2, h3, h4, h5⟩ := ih h
      refine ⟨j, by omega, by omega, h3, h4, fun t h6 h7 => ?_⟩
      by_cases e : t = i
      · subst e; simpa using hne
      · exact h5 t (by omega) h7

/-! ### rows in order -/
theorem sorted_ext {α : Type} {R : α → α → Prop} (hR : ∀ a b, R a b → ¬ R b a) {l m : List α} (hl : l.Pairwise R) (hm : m.Pairwise R) (h : ∀ x, x ∈ l ↔ x ∈ m) : l = m := by
  induction l generalizing m with
  | nil =>
    cases m with
    | nil => rfl
    | cons b m => exact absurd ((h b).2 (by simp)) (by simp)
  | cons a l ih =>
    cases m with
    | nil => exact absurd ((h a).1 (by simp)) (by simp)
    | cons b m =>
      rw [List.pairwise_cons] at hl hm
      have hab : a = b := by
        rcases List.mem_cons.1 ((h a).1 (by simp)) with e | e
        · exact e
        · rcases List.mem_cons.1 ((h b).2 (by simp)) with e' | e'
          · exact e'.symm
          · exact absurd (hl.1 b e') (hR _ _ (hm.1 a e))
      subst hab
      rw [ih hl.2 hm.2 (fun x => ⟨fun hx => ?_, fun hx => ?_⟩)]
      · rcases List.mem_cons.1 ((h x).1 (by simp [hx])) with e | e
        · subst e; exact absurd (hl.1 x hx) (hR _ _ (hl.1 x hx))
        · exact e
      · rcases List.mem_cons.1 ((h x).2 (by simp [hx])) with e | e
        · subst e; exact absurd (hm.1 x hx) (hR _ _ (hm.1 x hx))
        · exact e
/-- how requests stand: page by page, those of a page by their numbers -/
def Lt2 (a b : Rq) : Prop := a.page < b.page ∨ (a.page = b.page ∧ a.num < b.num)
theorem Lt2.asymm (a b : Rq) (h : Lt2 a b) : ¬ Lt2 b a := by unfold Lt2 at *; omega
theorem Lt2.trans {a b c : Rq} (h : Lt2 a b) (k : Lt2 b c) : Lt2 a c := by unfold Lt2 at *; omega
/-- the ready requests in their order -/
structure IsReady (S : St) (L : List Rq) : Prop where
  sorted : L.Pairwise Lt2
  mem : ∀ r, r ∈ L ↔ r ∈ S.reqs ∧ readyB S r = true
def from_ (L : List Rq) (q : Int) : List Rq := L.filter fun r => decide (q ≤ r.page)
def on_ (L : List Rq) (q : Int) : List Rq := L.filter fun r => r.page == q
theorem from_split {L : List Rq} (h : L.Pairwise Lt2) (q : Int) : from_ L q = on_ L q ++ from_ L (q + 1) := by
  refine sorted_ext Lt2.asymm (h.filter _) ?_ (fun x => ?_)
  · rw [List.pairwise_append]
    refine ⟨h.filter _, h.filter _, fun a ha b hb => ?_⟩
    simp only [on_, from_, List.mem_filter, beq_iff_eq, decide_eq_true_eq] at ha hb
    unfold Lt2; omega
  · simp only [on_, from_, List.mem_filter, List.mem_append, beq_iff_eq, decide_eq_true_eq]
    constructor
    · rintro ⟨h1, h2⟩
      by_cases e : x.page = q
      · exact Or.inl ⟨h1, e⟩
      · exact Or.inr ⟨h1, by omega⟩
    · rintro (⟨h1, h2⟩ | ⟨h1, h2⟩) <;> exact ⟨h1, by omega⟩
def isAlone (r : Rq) : Bool := decide (0 < r.tries)
def togo (w : Bool) (fin : Int) (page : Int) : List Rq → List Rq
  | [] => []
  | e :: l => if page + 1 < e.page ∨ fin ≤ e.page then [] else if e.write = w ∧ isAlone e = false then e :: togo w fin e.page l else togo w fin page l
def fits (w : Bool) (e : Rq) : Bool := e.write == w && !isAlone e
theorem togo_same {w : Bool} {fin q : Int} (hq : q < fin) (G rest : List Rq) (hG : ∀ e ∈ G, e.page = q) : togo w fin q (G ++ rest) = G.filter (fits w) ++ togo w fin q rest := by
  induction G with
  | nil => rfl
  | cons e G ih =>
    have he := hG e (by simp)
    have ih := ih (fun x hx => hG x (by simp [hx]))
    rw [List.cons_append, togo, if_neg (by omega)]
    by_cases hf : e.write = w ∧ isAlone e = false
    · rw [if_pos hf, he, ih, List.filter_cons_of_pos (by simp [fits, hf])]; rfl
    · rw [if_neg hf, ih, List.filter_cons_of_neg (by simp [fits]; simpa using hf)]
theorem togo_page {w : Bool} {fin q : Int} (hq : q < fin) (G rest : List Rq) (hG : ∀ e ∈ G, e.page = q) (hr : ∀ e ∈ rest, q + 1 ≤ e.page) : togo w fin (q - 1) (G ++ rest) = if G.filter (fits w) = [] then [] else G.filter (fits w) ++ togo w fin q rest := by
  induction G with
  | nil =>
    rw [List.filter_nil, if_pos rfl]
    cases rest with
    | nil => rfl
    | cons e l => have := hr e (by simp); rw [List.nil_append, togo, if_pos (by omega)]
  | cons e G ih =>
    have he := hG e (by simp)
    have hG' : ∀ x ∈ G, x.page = q := fun x hx => hG x (by simp [hx])
    rw [List.cons_append, togo, if_neg (by omega)]
    by_cases hf : e.write = w ∧ isAlone e = false
    · rw [if_pos hf, he, togo_same hq G rest hG', List.filter_cons_of_pos (by simp [fits, hf]), if_neg (by simp)]; rfl
    · rw [if_neg hf, ih hG', List.filter_cons_of_neg (by simp [fits]; simpa using hf)]
theorem togo_end {w : Bool} {fin page : Int} {l : List Rq} (h : ∀ e ∈ l, fin ≤ e.page) : togo w fin page l = [] := by
  cases l with
  | nil => rfl
  | cons e l => rw [togo, if_pos (Or.inr (h e (by simp)))]

section
variable {S : St} {L : List Rq}
theorem group_eq (hw : Wf S) (h : IsReady S L) (p : Int) (w : Bool) : groupM S p w = ((on_ L p).filter (fits w)).map (·.num) := by
  unfold groupM
  congr 1
  refine sorted_ext (R := fun a b => a.num < b.num) (fun a b h1 h2 => by omega) (hw.sorted.filter _) ?_ (fun x => ?_)
  · have h1 : ((on_ L p).filter (fits w)).Pairwise Lt2 := (h.sorted.filter _).filter _
    refine h1.imp_of_mem (fun ha hb hlt => ?_)
    simp only [on_, List.mem_filter, beq_iff_eq] at ha hb
    unfold Lt2 at hlt; omega
  · simp only [on_, List.mem_filter, h.mem, Bool.and_eq_true, beq_iff_eq, Bool.not_eq_true', fits]
    constructor
    · rintro ⟨h1, ⟨⟨h2, h3⟩, h4⟩, h5⟩
      refine ⟨⟨⟨h1, h2⟩, h3⟩, h4, ?_⟩
      have hs : x.state = 0 := by simp only [readyB, Bool.and_eq_true, beq_iff_eq] at h2; exact h2.1.1
      rw [← h5, (hw.rq x h1).alone hs]; rfl
    · rintro ⟨⟨⟨h1, h2⟩, h3⟩, h4, h5⟩
      refine ⟨h1, ⟨⟨h2, h3⟩, h4⟩, ?_⟩
      have hs : x.state = 0 := by simp only [readyB, Bool.and_eq_true, beq_iff_eq] at h2; exact h2.1.1
      rw [(hw.rq x h1).alone hs, ← h5]; rfl
theorem grow_eq (hw : Wf S) (h : IsReady S L) (p : Int) (w : Bool) (fin : Int) (hfin : fin = min (p + 4) 16) :
    ∀ (n : Nat) (c : Int) (l : List Int), 1 ≤ c → c + n = 4 → ∃ c', growM S p w n c l = (c', l ++ (togo w fin (p + c - 1) (from_ L (p + c))).map (·.num)) ∧ c ≤ c' ∧ c' ≤ 4 ∧ (p + c ≤ 16 → p + c' ≤ 16) ∧ (togo w fin (p + c - 1) (from_ L (p + c)) = [] → c' = c) ∧ ∀ e, (togo w fin (p + c - 1) (from_ L (p + c))).getLast? = some e → e.page = p + c' - 1 := by
  intro n
  induction n with
  | zero =>
    intro c l h1 h2
    have hc : c = 4 := by omega
    subst hc
    have e : togo w fin (p + 4 - 1) (from_ L (p + 4)) = [] := togo_end (fun e he => by simp only [from_, List.mem_filter, decide_eq_true_eq] at he; omega)
    rw [e]
    exact ⟨4, by simp [growM], by omega, by omega, fun h => h, fun _ => rfl, fun e he => by simp at he⟩
  | succ n ih =>
    intro c l h1 h2
    have hc4 : c < 4 := by omega
    by_cases hp : p + c < 16
    · have hq : p + c < fin := by omega
      have hG : ∀ e ∈ on_ L (p + c), e.page = p + c := fun e he => by simpa [on_, List.mem_filter] using (List.mem_filter.1 he).2
      have hr : ∀ e ∈ from_ L (p + c + 1), p + c + 1 ≤ e.page := fun e he => by simpa [from_] using (List.mem_filter.1 he).2
      have ht := togo_page (w := w) hq (on_ L (p + c)) (from_ L (p + c + 1)) hG hr
      rw [← from_split h.sorted] at ht
      have hg := group_eq hw h (p + c) w
      unfold growM
      rw [if_pos ⟨hc4, hp⟩]
      by_cases he : (on_ L (p + c)).filter (fits w) = []
      · rw [if_pos he] at ht
        rw [if_pos (by rw [hg, he]; rfl), ht]
        exact ⟨c, by simp, Int.le_refl _, by omega, fun h => h, fun _ => rfl, fun e he => by simp at he⟩
      · rw [if_neg he] at ht
        rw [if_neg (by rw [hg]; simpa using he), hg]
        obtain ⟨c', e1, e2, e3, e4, e5, e6⟩ := ih (c + 1) (l ++ ((on_ L (p + c)).filter (fits w)).map (·.num)) (by omega) (by omega)
        have ep : p + (c + 1) - 1 = p + c := by omega
        have ep2 : p + (c + 1) = p + c + 1 := by omega
        rw [ep, ep2] at e1 e5 e6
        refine ⟨c', ?_, by omega, e3, fun _ => e4 (by omega), ?_, ?_⟩
        · rw [e1, ht, List.map_append, List.append_assoc]
        · rw [ht]; intro hx; exact absurd (List.append_eq_nil_iff.1 hx).1 he
        · rw [ht]
          intro e hx
          cases hrest : togo w fin (p + c) (from_ L (p + c + 1)) with
          | nil =>
            rw [hrest, List.append_nil] at hx
            have := hG e ((List.mem_filter.1 (List.mem_of_getLast? hx)).1)
            rw [e5 hrest]; omega
          | cons a t =>
            rw [List.getLast?_append, hrest] at hx
            refine e6 e ?_
            rw [hrest]
            cases hg2 : (a :: t).getLast? with
            | none => simp at hg2
            | some z => rw [hg2] at hx; simpa using hx
    · have e : togo w fin (p + c - 1) (from_ L (p + c)) = [] := togo_end (fun e he => by simp only [from_, List.mem_filter, decide_eq_true_eq] at he; omega)
      rw [e]
      unfold growM
      rw [if_neg (by omega)]
      exact ⟨c, by simp, Int.le_refl _, by omega, fun h => h, fun _ => rfl, fun e he => by simp at he⟩
/-- the requests that go together -/
def togetherM (L : List Rq) : List Rq := match L with | [] => [] | f :: l => if isAlone f then [f] else togo f.write (min (f.page + 4) 16) f.page (f :: l)
/-- THE NEXT COMMAND by the sorted ready requests -/
theorem cmd_eq (hw : Wf S) (h : IsReady S L) {f : Rq} {l : List Rq} (hl : from_ L f.page = f :: l) (hf : f ∈ L) :
    ∃ c, cmdAt S f.page f = c ∧ c.write = f.write ∧ c.page = f.page ∧ c.requests = (togetherM (f :: l)).map (·.num) ∧ (togetherM (f :: l)).head? = some f ∧ 1 ≤ c.count ∧ c.count ≤ 4 ∧ c.page + c.count ≤ 16 ∧ ∀ e, (togetherM (f :: l)).getLast? = some e → e.page = c.page + c.count - 1 := by
  obtain ⟨hm, hr⟩ := (h.mem f).1 hf
  have o := hw.rq f hm
  have hs : f.state = 0 := by simp only [readyB, Bool.and_eq_true, beq_iff_eq] at hr; exact hr.1.1
  have ha : f.alone = isAlone f := o.alone hs
  have hpg := o.page
  have eT : togetherM (f :: l) = if isAlone f then [f] else togo f.write (min (f.page + 4) 16) f.page (f :: l) := rfl
  unfold cmdAt
  rw [ha, eT]
  by_cases hA : isAlone f = true
  · rw [if_pos hA, if_pos hA]
    refine ⟨_, rfl, rfl, rfl, rfl, rfl, by show (1 : Int) ≤ 1; omega, by show (1 : Int) ≤ 4; omega, by show f.page + 1 ≤ 16; omega, fun e he => ?_⟩
    simp at he
    subst he
    show f.page = f.page + 1 - 1
    omega
  · rw [if_neg hA, if_neg hA]
    have hA' : isAlone f = false := by simpa using hA
    have hG : ∀ e ∈ on_ L f.page, e.page = f.page := fun e he => by simpa [on_] using (List.mem_filter.1 he).2
    have ht := togo_same (w := f.write) (fin := min (f.page + 4) 16) (q := f.page) (by omega) (on_ L f.page) (from_ L (f.page + 1)) hG
    rw [← from_split h.sorted, hl] at ht
    have hg := group_eq hw h f.page f.write
    obtain ⟨c', e1, e2, e3, e4, e5, e6⟩ := grow_eq hw h f.page f.write (min (f.page + 4) 16) rfl 3 1 (groupM S f.page f.write) (by omega) (by omega)
    have ep : f.page + 1 - 1 = f.page := by omega
    rw [ep] at e1 e5 e6
    rw [e1]
    have hff : f ∈ (on_ L f.page).filter (fits f.write) := by simp [on_, fits, hf, hA']
    have hne : (on_ L f.page).filter (fits f.write) ≠ [] := fun e => by rw [e] at hff; simp at hff
    refine ⟨_, rfl, rfl, rfl, ?_, ?_, ?_, e3, ?_, ?_⟩
    · show _ ++ _ = _
      rw [ht, List.map_append, hg]
    · rw [togo, if_neg (by omega), if_pos ⟨rfl, hA'⟩]; rfl
    · show 1 ≤ c'; omega
    · show f.page + c' ≤ 16; exact e4 (by omega)
    · rw [ht]
      intro e hx
      show e.page = f.page + c' - 1
      cases hrest : togo f.write (min (f.page + 4) 16) f.page (from_ L (f.page + 1)) with
      | nil =>
        rw [hrest, List.append_nil] at hx
        have := hG e ((List.mem_filter.1 (List.mem_of_getLast? hx)).1)
        rw [e5 hrest]; omega
      | cons a t =>
        rw [List.getLast?_append, hrest] at hx
        refine e6 e ?_
        rw [hrest]
        cases hg2 : (a :: t).getLast? with
        | none => simp at hg2
        | some z => rw [hg2] at hx; simpa using hx
end
end Go.Proofs.YtiabdbeejkadnaaGreatDoor
