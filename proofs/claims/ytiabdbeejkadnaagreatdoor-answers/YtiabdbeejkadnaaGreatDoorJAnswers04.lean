import Derived.Test.YtiabdbeejkadnaaGreatDoorJAnswers03
import Derived.Test.YtiabdbeejkadnaaGreatDoorChecked
import Derived.WalkKit
import Derived.LaidEql
import Derived.Stop.Asserts
import Derived.RowKitTokens
/- Stage 2: where the next command begins, by the sorted ready requests; what sending keeps. Own work of the verifier. -/
namespace Go.Proofs.YtiabdbeejkadnaaGreatDoor
section
variable {S : St} {L : List Rq}
theorem pageM_of {p : Int} (hp : 0 ≤ p ∧ p < 16) (hs : (firstM S p).isSome = true) (hm : ∀ q, 0 ≤ q → q < 16 → (firstM S q).isSome = true → (p - S.head) % 16 ≤ (q - S.head) % 16) : pageM S = some p := by
  obtain ⟨j, hj⟩ : ∃ j : Nat, (j : Int) = (p - S.head) % 16 := ⟨((p - S.head) % 16).toNat, by omega⟩
  have ej : (S.head + j) % 16 = p := by omega
  unfold pageM
  cases hg : pageGo S 0 16 with
  | none =>
    have := pageGo_none hg j (by omega) (by omega)
    rw [ej, hs] at this; cases this
  | some p' =>
    obtain ⟨j', h1, h2, h3, h4, h5⟩ := pageGo_some hg
    have h6 := hm p' (by omega) (by omega) h4
    by_cases e : j = j'
    · subst e; rw [h3, ej]
    · have := h5 j (by omega) (by omega)
      rw [ej, hs] at this; cases this
theorem pageM_none (hn : ∀ r ∈ S.reqs, readyB S r = false) : pageM S = none := by
  cases hg : pageM S with
  | none => rfl
  | some p =>
    obtain ⟨j, _, _, _, h4, _⟩ := pageGo_some hg
    obtain ⟨r, hr, h1, _⟩ := firstM_isSome.1 h4
    rw [hn r hr] at h1; cases h1
def startM (S : St) (L : List Rq) : Nat := (L.findIdx? fun r => decide (S.head ≤ r.page)).getD 0
theorem first_is (hw : Wf S) (h : IsReady S L) {f : Rq} {l : List Rq} (hl : from_ L f.page = f :: l) (hf : f ∈ L) : S.reqs.getD ((firstM S f.page).getD 0) Rq.zero = f := by
  obtain ⟨hm, hr⟩ := (h.mem f).1 hf
  have hs : (firstM S f.page).isSome = true := firstM_isSome.2 ⟨f, hm, hr, rfl⟩
  obtain ⟨k, hk⟩ := Option.isSome_iff_exists.1 hs
  obtain ⟨hkl, h1, h2, h3⟩ := firstM_some hk
  rw [hk, Option.getD_some, getD_of hkl]
  have hin : S.reqs[k] ∈ f :: l := by
    rw [← hl]
    simp only [from_, List.mem_filter, decide_eq_true_eq]
    exact ⟨(h.mem _).2 ⟨List.getElem_mem _, h1⟩, by omega⟩
  rcases List.mem_cons.1 hin with e | e
  · exact e
  · exfalso
    have hp : (f :: l).Pairwise Lt2 := by rw [← hl]; exact h.sorted.filter _
    have hlt := (List.pairwise_cons.1 hp).1 _ e
    obtain ⟨i, hi, rfl⟩ := List.getElem_of_mem hm
    have hnum : (S.reqs[i]).num < (S.reqs[k]).num := by unfold Lt2 at hlt; omega
    have hik : i < k := by
      have hs := hw.sorted
      rw [List.pairwise_iff_getElem] at hs
      rcases Nat.lt_trichotomy i k with h | h | h
      · exact h
      · subst h; omega
      · have := hs k i hkl hi h; omega
    exact h3 i hik ⟨hr, rfl⟩
theorem next_eq (hw : Wf S) (h : IsReady S L) (hne : L ≠ []) : ∃ f l, L.drop (startM S L) = f :: l ∧ from_ L f.page = f :: l ∧ f ∈ L ∧ pageM S = some f.page := by
  have hpg : ∀ x ∈ L, 0 ≤ x.page ∧ x.page < 16 := fun x hx => (hw.rq x ((h.mem x).1 hx).1).page
  have hh := hw.head
  have fin : ∀ f l (A : List Rq), L = A ++ f :: l → (∀ x ∈ A, x.page < f.page) → (∀ q, 0 ≤ q → q < 16 → (∃ x ∈ L, x.page = q) → (f.page - S.head) % 16 ≤ (q - S.head) % 16) → from_ L f.page = f :: l ∧ f ∈ L ∧ pageM S = some f.page := by
    intro f l A e hA hmin
    have hf : f ∈ L := by rw [e]; simp
    have hpw := h.sorted
    rw [e, List.pairwise_append] at hpw
    refine ⟨?_, hf, ?_⟩
    · refine sorted_ext Lt2.asymm (h.sorted.filter _) hpw.2.1 (fun x => ?_)
      simp only [from_, List.mem_filter, decide_eq_true_eq]
      constructor
      · rintro ⟨h1, h2⟩
        rw [e, List.mem_append] at h1
        rcases h1 with h1 | h1
        · have := hA x h1; omega
        · exact h1
      · intro hx
        refine ⟨by rw [e, List.mem_append]; exact Or.inr hx, ?_⟩
        rcases List.mem_cons.1 hx with e' | e'
        · rw [e']; exact Int.le_refl _
        · have := (List.pairwise_cons.1 hpw.2.1).1 x e'
          unfold Lt2 at this; omega
    · obtain ⟨hm, hr⟩ := (h.mem f).1 hf
      refine pageM_of (hpg f hf) (firstM_isSome.2 ⟨f, hm, hr, rfl⟩) (fun q h0 h1 hq => ?_)
      obtain ⟨x, hx, h2, h3⟩ := firstM_isSome.1 hq
      exact hmin q h0 h1 ⟨x, (h.mem x).2 ⟨hx, h2⟩, h3⟩
  unfold startM
  cases hi : L.findIdx? (fun r => decide (S.head ≤ r.page)) with
  | none =>
    rw [List.findIdx?_eq_none_iff] at hi
    cases L with
    | nil => exact absurd rfl hne
    | cons f l =>
      have hlt := (List.pairwise_cons.1 h.sorted).1
      refine ⟨f, l, rfl, fin f l [] rfl (fun x hx => by cases hx) (fun q h0 h1 hq => ?_)⟩
      obtain ⟨x, hx, rfl⟩ := hq
      have h1 := hi x hx
      have h2 := hi f (by simp)
      simp at h1 h2
      have h3 := hpg f (by simp)
      have h4 : f.page ≤ x.page := by
        rcases List.mem_cons.1 hx with e | e
        · rw [e]; exact Int.le_refl _
        · have := hlt x e; unfold Lt2 at this; omega
      omega
  | some i =>
    rw [List.findIdx?_eq_some_iff_getElem] at hi
    obtain ⟨hil, h1, h2⟩ := hi
    rw [Option.getD_some]
    have e : L = L.take i ++ L[i] :: L.drop (i + 1) := by rw [← List.drop_eq_getElem_cons hil, List.take_append_drop]
    refine ⟨L[i], L.drop (i + 1), List.drop_eq_getElem_cons hil, fin _ _ _ e (fun x hx => ?_) (fun q h0 hq1 hq => ?_)⟩
    · obtain ⟨j, hj, rfl⟩ := List.mem_take_iff_getElem.1 hx
      have := h2 j (by omega)
      simp at this h1
      omega
    · obtain ⟨x, hx, rfl⟩ := hq
      have h3 := hpg _ (List.getElem_mem hil)
      simp at h1
      by_cases hb : S.head ≤ x.page
      · have h4 : (L[i]).page ≤ x.page := by
          rw [e, List.mem_append] at hx
          rcases hx with hx | hx
          · obtain ⟨j, hj, rfl⟩ := List.mem_take_iff_getElem.1 hx
            have := h2 j (by omega)
            simp at this
            omega
          · rcases List.mem_cons.1 hx with e' | e'
            · rw [e']; exact Int.le_refl _
            · have hpw := h.sorted
              rw [e, List.pairwise_append] at hpw
              have := (List.pairwise_cons.1 hpw.2.1).1 x e'
              unfold Lt2 at this; omega
        omega
      · omega
theorem togo_mem {w : Bool} {fin page : Int} {l : List Rq} {e : Rq} (h : e ∈ togo w fin page l) : e ∈ l ∧ e.write = w := by
  induction l generalizing page with
  | nil => simp [togo] at h
  | cons x l ih =>
    rw [togo] at h
    split at h
    · simp at h
    · split at h
      · rename_i hx
        rcases List.mem_cons.1 h with e' | e'
        · subst e'; exact ⟨by simp, hx.1⟩
        · have := ih e'; exact ⟨by simp [this.1], this.2⟩
      · have := ih h; exact ⟨by simp [this.1], this.2⟩
theorem togo_sub (w : Bool) (fin page : Int) (l : List Rq) : (togo w fin page l).Sublist l := by
  induction l generalizing page with
  | nil => exact List.Sublist.slnil
  | cons x l ih =>
    rw [togo]
    split
    · exact List.nil_sublist _
    · split
      · exact (ih _).cons_cons _
      · exact (ih _).cons _
theorem together_sub (L : List Rq) : (togetherM L).Sublist L := by
  unfold togetherM
  split
  · exact List.Sublist.refl _
  · split
    · exact (List.nil_sublist _).cons_cons _
    · exact togo_sub _ _ _ _
theorem together_write {f : Rq} {l : List Rq} {e : Rq} (h : e ∈ togetherM (f :: l)) : e.write = f.write := by
  have eT : togetherM (f :: l) = if isAlone f then [f] else togo f.write (min (f.page + 4) 16) f.page (f :: l) := rfl
  rw [eT] at h
  split at h
  · rw [List.mem_singleton.1 h]
  · exact (togo_mem h).2
/-- what goes next: the chosen requests, the command -/
structure Sends (S : St) (c : Cmd) (C : List Rq) : Prop where
  nums : c.requests = C.map (·.num)
  ne : C ≠ []
  mem : ∀ r ∈ C, r ∈ S.reqs ∧ readyB S r = true ∧ r.write = c.write
  sorted : C.Pairwise Lt2
  fst : ∀ r, C.head? = some r → r.page = c.page
  lst : ∀ r, C.getLast? = some r → r.page = c.page + c.count - 1
  cnt : 1 ≤ c.count ∧ c.count ≤ 4 ∧ 0 ≤ c.page ∧ c.page + c.count ≤ 16
theorem next_sends (hw : Wf S) (h : IsReady S L) (hd : ¬ S.depth ≤ S.flights.length) (hne : L ≠ []) : ∃ c, nextM S = some c ∧ Sends S c (togetherM (L.drop (startM S L))) := by
  obtain ⟨f, l, h1, h2, h3, h4⟩ := next_eq hw h hne
  obtain ⟨c, e1, e2, e3, e4, e5, e6, e7, e8, e9⟩ := cmd_eq hw h h2 h3
  have hsub : (togetherM (f :: l)).Sublist L := (together_sub _).trans (by rw [← h1]; exact List.drop_sublist _ _)
  refine ⟨c, ?_, ?_⟩
  · unfold nextM
    rw [if_neg hd, h4, Option.map_some, first_is hw h h2 h3, e1]
  · rw [h1]
    refine ⟨e4, fun e => (by rw [e] at e5; cases e5), fun r hr => ?_, h.sorted.sublist hsub, fun r hr => ?_, e9, e6, e7, ?_, e8⟩
    · have := (h.mem r).1 (hsub.subset hr)
      exact ⟨this.1, this.2, by rw [together_write hr, e2]⟩
    · rw [e5] at hr; cases hr; exact e3.symm
    · rw [e3]; exact (hw.rq f ((h.mem f).1 h3).1).page.1
theorem next_none (h : IsReady S L) (he : L = []) : nextM S = none := by
  have := pageM_none (S := S) (fun r hr => by
    cases hb : readyB S r with
    | false => rfl
    | true => have := (h.mem r).2 ⟨hr, hb⟩; rw [he] at this; cases this)
  unfold nextM
  split
  · rfl
  · rw [this]; rfl
theorem nextM_full (hd : S.depth ≤ S.flights.length) : nextM S = none := by unfold nextM; rw [if_pos hd]
/-- marked one by one -/
theorem mark_one (R : List Rq) (hs : R.Pairwise (fun a b => a.num < b.num)) (l : List Int) (n : Int) {k : Nat} (hk : k < R.length) (hn : (R[k]).num = n) : markM R (l ++ [n]) = (markM R l).set k { (R[k]) with state := 1, inAir := true } := by
  apply List.ext_getElem
  · simp [markM]
  · intro i h1 h2
    have hi : i < R.length := by simpa [markM] using h1
    rw [List.getElem_set]
    by_cases e : k = i
    · subst e
      rw [if_pos rfl]
      simp [markM, hn]
    · rw [if_neg e]
      have : (R[i]).num ≠ n := fun e' => e (nums_inj hs hk hi (by rw [hn, e']))
      simp [markM, this]
theorem mark_nil (R : List Rq) : markM R [] = R := by simp [markM]
theorem mark_len (R : List Rq) (l : List Int) : (markM R l).length = R.length := by simp [markM]
theorem mark_get (R : List Rq) (l : List Int) {k : Nat} (hk : k < R.length) (hl : (R[k]).num ∉ l) : (markM R l)[k]'(by rw [mark_len]; exact hk) = R[k] := by simp [markM, hl]
theorem mark_nums (R : List Rq) (l : List Int) : (markM R l).map (·.num) = R.map (·.num) := by
  unfold markM
  rw [List.map_map]
  apply List.map_congr_left
  intro r _
  show (if _ then _ else _ : Rq).num = _
  split <;> rfl
/-- what is sent is in order -/
theorem Sends.nodup {c : Cmd} {C : List Rq} (h : Sends S c C) (hw : Wf S) : c.requests.Nodup := by
  rw [h.nums]
  show (C.map (·.num)).Pairwise _
  rw [List.pairwise_map]
  refine h.sorted.imp_of_mem (fun ha hb hlt e => ?_)
  have := num_uniq hw.sorted (h.mem _ ha).1 (h.mem _ hb).1 e
  subst this
  exact Lt2.asymm _ _ hlt hlt
theorem Sends.marked {c : Cmd} {C : List Rq} (h : Sends S c C) (hw : Wf S) (i : Nat) (hi : i ≤ c.requests.length) : WfE { S with reqs := markM S.reqs (c.requests.take i) } (c.requests.take i) := by
  induction i with
  | zero => rw [List.take_zero, mark_nil]; exact hw
  | succ i ih =>
    have hi' : i < c.requests.length := by omega
    have ih := ih (by omega)
    have hnd := h.nodup hw
    obtain ⟨r, hr, hrn⟩ : ∃ r ∈ C, r.num = c.requests[i] := by
      have : c.requests[i] ∈ C.map (·.num) := by rw [← h.nums]; exact List.getElem_mem _
      obtain ⟨r, hr, e⟩ := List.mem_map.1 this
      exact ⟨r, hr, e⟩
    obtain ⟨hm, hrd, _⟩ := h.mem r hr
    obtain ⟨k, hk, hkr⟩ := List.getElem_of_mem hm
    have hnot : c.requests[i] ∉ c.requests.take i := by
      intro hx
      obtain ⟨j, hj, e⟩ := List.mem_take_iff_getElem.1 hx
      have := (List.pairwise_iff_getElem.1 hnd) j i (by omega) hi' (by omega)
      exact this e
    have hkn : (S.reqs[k]).num = c.requests[i] := by rw [hkr]; exact hrn
    have hst : (S.reqs[k]).state = 0 := by rw [hkr]; simp only [readyB, Bool.and_eq_true, beq_iff_eq] at hrd; exact hrd.1.1
    have hg := mark_get S.reqs (c.requests.take i) hk (by rw [hkn]; exact hnot)
    rw [List.take_succ_eq_append_getElem hi', mark_one S.reqs hw.sorted _ _ hk hkn]
    have hk2 : k < ({ S with reqs := markM S.reqs (c.requests.take i) } : St).reqs.length := by show k < (markM _ _).length; rw [mark_len]; exact hk
    have hg2 : ({ S with reqs := markM S.reqs (c.requests.take i) } : St).reqs[k]'hk2 = S.reqs[k] := hg
    have := ih.mark hk2 (by rw [hg2]; exact hst)
    rw [hg2, hkn] at this
    exact this
theorem Sends.wf {c : Cmd} {C : List Rq} (h : Sends S c C) (hw : Wf S) (hd : ¬ S.depth ≤ S.flights.length) : Wf (sendM S c) := by
  have h1 := h.marked hw c.requests.length (Nat.le_refl _)
  rw [List.take_length] at h1
  have hc := h.cnt
  refine h1.land c rfl ?_ (by show (S.flights.length : Int) < S.depth; omega) (c.page + c.count) (by omega)
  have hin : ∀ r ∈ markM S.reqs c.requests, ∀ x ∈ C, x.num = r.num → x.write = r.write ∧ x.page = r.page := by
    intro r hr x hx e
    unfold markM at hr
    obtain ⟨y, hy, rfl⟩ := List.mem_map.1 hr
    have hyn : x = y := num_uniq hw.sorted (h.mem x hx).1 hy (by rw [e]; split <;> rfl)
    subst hyn
    split <;> exact ⟨rfl, rfl⟩
  refine ⟨fun e => h.ne (by rw [h.nums] at e; simpa using e), fun r hr hn => ?_, fun r hr hn => ?_, fun r hr hn => ?_⟩
  · rw [h.nums] at hn
    obtain ⟨x, hx, e⟩ := List.mem_map.1 hn
    rw [← (hin r hr x hx e).1]; exact (h.mem x hx).2.2
  · rw [h.nums, List.head?_map] at hn
    cases hC : C.head? with
    | none => rw [hC] at hn; cases hn
    | some x =>
      rw [hC] at hn
      simp at hn
      rw [← (hin r hr x (List.mem_of_head? hC) hn).2]; exact h.fst x hC
  · rw [h.nums, List.getLast?_map] at hn
    cases hC : C.getLast? with
    | none => rw [hC] at hn; cases hn
    | some x =>
      rw [hC] at hn
      simp at hn
      rw [← (hin r hr x (List.mem_of_getLast? hC) hn).2]; exact h.lst x hC
/-- the ready requests, sorted: there they are -/
theorem ready_exists (S : St) (hs : S.reqs.Pairwise (fun a b => a.num < b.num)) : ∃ L, IsReady S L := by
  have key : ∀ (n : Nat) (R : List Rq), R.length ≤ n → (∀ a ∈ R, ∀ b ∈ R, a.num = b.num → a = b) → ∃ L : List Rq, L.Pairwise Lt2 ∧ ∀ r, r ∈ L ↔ r ∈ R := by
    intro n
    induction n with
    | zero => intro R h _; exact ⟨[], List.Pairwise.nil, fun r => by have := List.length_eq_zero_iff.1 (by omega : R.length = 0); subst this; simp⟩
    | succ n ih =>
      intro R h hu
      cases R with
      | nil => exact ⟨[], List.Pairwise.nil, fun r => by simp⟩
      | cons a R =>
        obtain ⟨L1, p1, m1⟩ := ih (R.filter fun b => decide (b.page < a.page ∨ (b.page = a.page ∧ b.num < a.num))) (by have := List.length_filter_le (fun b => decide (b.page < a.page ∨ (b.page = a.page ∧ b.num < a.num))) R; simp at h; omega) (fun x hx y hy => hu x (by simp [(List.mem_filter.1 hx).1]) y (by simp [(List.mem_filter.1 hy).1]))
        obtain ⟨L2, p2, m2⟩ := ih (R.filter fun b => decide (a.page < b.page ∨ (a.page = b.page ∧ a.num < b.num))) (by have := List.length_filter_le (fun b => decide (a.page < b.page ∨ (a.page = b.page ∧ a.num < b.num))) R; simp at h; omega) (fun x hx y hy => hu x (by simp [(List.mem_filter.1 hx).1]) y (by simp [(List.mem_filter.1 hy).1]))
        refine ⟨L1 ++ a :: L2, ?_, fun r => ?_⟩
        · rw [List.pairwise_append, List.pairwise_cons]
          have b1 : ∀ x ∈ L1, Lt2 x a := fun x hx => by have := (List.mem_filter.1 ((m1 x).1 hx)).2; simpa [Lt2] using this
          have b2 : ∀ x ∈ L2, Lt2 a x := fun x hx => by have := (List.mem_filter.1 ((m2 x).1 hx)).2; simpa [Lt2] using this
          refine ⟨p1, ⟨b2, p2⟩, fun x hx y hy => ?_⟩
          rcases List.mem_cons.1 hy with e | e
          · subst e; exact b1 x hx
          · exact (b1 x hx).trans (b2 y e)
        · rw [List.mem_append, List.mem_cons, List.mem_cons, m1, m2, List.mem_filter, List.mem_filter]
          simp only [decide_eq_true_eq]
          constructor
          · rintro (⟨h, _⟩ | h | ⟨h, _⟩)
            · exact Or.inr h
            · exact Or.inl h
            · exact Or.inr h
          · rintro (h | h)
            · exact Or.inr (Or.inl h)
            · by_cases h1 : r.page < a.page ∨ (r.page = a.page ∧ r.num < a.num)
              · exact Or.inl ⟨h, h1⟩
              · by_cases h2 : a.page < r.page ∨ (a.page = r.page ∧ a.num < r.num)
                · exact Or.inr (Or.inr ⟨h, h2⟩)
                · exact Or.inr (Or.inl (hu r (by simp [h]) a (by simp) (by omega)))
  obtain ⟨L, h1, h2⟩ := key _ (S.reqs.filter fun r => readyB S r) (Nat.le_refl _) (fun a ha b hb => num_uniq hs (List.mem_filter.1 ha).1 (List.mem_filter.1 hb).1)
  exact ⟨L, h1, fun r => by rw [h2, List.mem_filter]⟩
theorem Wf.step (hw : Wf S) : Wf (stepM S).2 := by
  unfold stepM
  cases hn : nextM S with
  | none => exact hw
  | some c =>
    obtain ⟨L, hL⟩ := ready_exists S hw.sorted
    by_cases hd : S.depth ≤ S.flights.length
    · rw [nextM_full hd] at hn; cases hn
    · by_cases he : L = []
      · rw [next_none hL he] at hn; cases hn
      · obtain ⟨c', h1, h2⟩ := next_sends hw hL hd he
        rw [h1] at hn
        cases hn
        exact h2.wf hw hd
theorem stepM_same (S : St) : (stepM S).2.last = S.last ∧ (stepM S).2.now = S.now := by
  unfold stepM
  split <;> exact ⟨rfl, rfl⟩
end
end Go.Proofs.YtiabdbeejkadnaaGreatDoor

/- errors.As AND errors.Is AT THE ERRORS OF PACKAGE api: contracts, by walking Go's own text (after the guide's worked toys for errors.As and errors.Is). Own work of the verifier. -/
namespace Go
section
variable {P : Program} (w : World)
theorem run_equalIn_iface_int (d : Nat) {ti tn : TypeId} {ms : Array (String × TypeId)} {i : TypeInfo} {k : IntKind} (a b : Int)
    (hi : P.underlying ti = some (.interface ms)) (hn : P.underlying tn = some (.int k)) (hinfo : P.info? tn = some i) (hcomp : i.comparable = true) :
    (Op.equalIn (d + 2) ti (.iface tn (.int k a)) (.iface tn (.int k b))).run P w = .ok (a == b) w := by
  simp [Op.equalIn, run_underlying hi, run_underlying hn, typeInfo, hinfo, hcomp]
theorem run_eql_iface_int {ti tn : TypeId} {ms : Array (String × TypeId)} {i : TypeInfo} {k : IntKind} (a b : Int)
    (hi : P.underlying ti = some (.interface ms)) (hn : P.underlying tn = some (.int k)) (hinfo : P.info? tn = some i) (hcomp : i.comparable = true) :
    (binOp .eql ti (.iface tn (.int k a)) (.iface tn (.int k b))).run P w = .ok (.bool (a == b)) w := by
  simp only [binOp]
  simp [Op.equal, Op.maxDepth, run_equalIn_iface_int w 9998 a b hi hn hinfo hcomp]
end
end Go
namespace Go.Proofs.YtiabdbeejkadnaaGreatDoor
open Go.RowKit Go.Extern.Stop Go.Stop Go.Extern

/-! ### closed facts on reflectlite's entries -/
theorem rlm (z : Sem Value) (f : TypeId → Addr → Nat → Nat → Sem Value) (v : Value) :
    ReflectliteValue.method z f #[v] = (do match ← ReflectliteValue.parts v with | none => z | some (t, a, fl) => f t a fl (fl % 32)) := rfl
theorem rls (v x : Value) : ReflectliteValue.set #[v, x] = (do
    let (some (dst, a, fl), some (src, b, _)) := (← ReflectliteValue.parts v, ← ReflectliteValue.parts x)
      | unsupported (.noEntry "extern/(internal/reflectlite.Value).Set.zeroValue")
    if fl / ReflectliteValue.flagAddr % 2 == 0 then unsupported (.noEntry "extern/(internal/reflectlite.Value).Set.unaddressable")
    let val ← loadVar src b
    if ← Rtype.directlyAssignable dst src then storeVar dst a val
    else if ← Rtype.implements dst src then
      if (← Rtype.kind src) == 20 then
        match val with
        | .nilIface => unsupported (.noEntry "extern/reflectlite: a nil value of one interface type handed on as a value of another")
        | _ => storeVar dst a val
      else storeVar dst a (.iface src val)
    else panicString ("reflectlite.Set: value of type " ++ (← Rtype.spelt src) ++ " is not assignable to type " ++ (← Rtype.spelt dst))
    pure (.tuple #[])) := rfl

theorem vof_pp (t : Addr) (w : World) : (ReflectliteValue.unpack (.iface 181 (.pointer (some t)))).run Tryz.prog w
    = .ok (.agg #[.pointer (some ⟨1, 181, none⟩), .pointer (some ⟨w.heap.size, 0, none⟩), .int .u64 150]) (w.alloc (.cells #[.pointer (some t)] 181)) := by kernel_rfl
theorem vof_pk (t : Addr) (w : World) : (ReflectliteValue.unpack (.iface 184 (.pointer (some t)))).run Tryz.prog w
    = .ok (.agg #[.pointer (some ⟨1, 184, none⟩), .pointer (some ⟨w.heap.size, 0, none⟩), .int .u64 150]) (w.alloc (.cells #[.pointer (some t)] 184)) := by kernel_rfl
theorem vof_p (t : Addr) (w : World) : (ReflectliteValue.unpack (.iface 179 (.pointer (some t)))).run Tryz.prog w
    = .ok (.agg #[.pointer (some ⟨1, 179, none⟩), .pointer (some ⟨w.heap.size, 0, none⟩), .int .u64 150]) (w.alloc (.cells #[.pointer (some t)] 179)) := by kernel_rfl
theorem vof_k (n : Int) (w : World) : (ReflectliteValue.unpack (.iface 55 (.int .i64 n))).run Tryz.prog w
    = .ok (.agg #[.pointer (some ⟨1, 55, none⟩), .pointer (some ⟨w.heap.size, 0, none⟩), .int .u64 130]) (w.alloc (.cells #[.int .i64 n] 55)) := by kernel_rfl
theorem type_pp (a : Addr) (w : World) : (ReflectliteValue.methodAny (ReflectliteValue.valueError "reflectlite.Value.Type" 0) (fun t _ _ _ => ReflectliteType.toType t) #[.agg #[.pointer (some ⟨1, 181, none⟩), .pointer (some a), .int .u64 150]]).run Tryz.prog w
    = .ok (.iface 212 (.agg #[.pointer (some ⟨1, 181, none⟩)])) w := by kernel_rfl
theorem type_pk (a : Addr) (w : World) : (ReflectliteValue.methodAny (ReflectliteValue.valueError "reflectlite.Value.Type" 0) (fun t _ _ _ => ReflectliteType.toType t) #[.agg #[.pointer (some ⟨1, 184, none⟩), .pointer (some a), .int .u64 150]]).run Tryz.prog w
    = .ok (.iface 212 (.agg #[.pointer (some ⟨1, 184, none⟩)])) w := by kernel_rfl
theorem m_Kind (h : Value) (w : World) : (Go.method 372 212 (.agg #[h]) "Kind").run Tryz.prog w = .ok (180, h) w := by kernel_rfl
theorem m_Elem (h : Value) (w : World) : (Go.method 372 212 (.agg #[h]) "Elem").run Tryz.prog w = .ok (192, .agg #[h]) w := by kernel_rfl
theorem m_Impl (h : Value) (w : World) : (Go.method 372 212 (.agg #[h]) "Implements").run Tryz.prog w = .ok (193, .agg #[h]) w := by kernel_rfl
theorem m_Assn (h : Value) (w : World) : (Go.method 372 212 (.agg #[h]) "AssignableTo").run Tryz.prog w = .ok (190, .agg #[h]) w := by kernel_rfl
theorem m_Comp (v : Value) (w : World) : (Go.method 372 212 v "Comparable").run Tryz.prog w = .ok (191, v) w := by kernel_rfl
theorem m_Unwrap (v : Value) (w : World) : (Go.method 372 179 v "Unwrap").run Tryz.prog w = .ok (185, v) w := by kernel_rfl
theorem kind_pp (w : World) : ((ReflectliteType.abiMethod fun t => (fun a : Nat => Value.int IntKind.u8 (a : Int)) <$> Rtype.kind t) #[.pointer (some ⟨1, 181, none⟩)]).run Tryz.prog w = .ok (.int .u8 22) w := by kernel_rfl
theorem kind_pk (w : World) : ((ReflectliteType.abiMethod fun t => (fun a : Nat => Value.int IntKind.u8 (a : Int)) <$> Rtype.kind t) #[.pointer (some ⟨1, 184, none⟩)]).run Tryz.prog w = .ok (.int .u8 22) w := by kernel_rfl
theorem kind_p (w : World) : ((ReflectliteType.abiMethod fun t => (fun a : Nat => Value.int IntKind.u8 (a : Int)) <$> Rtype.kind t) #[.pointer (some ⟨1, 179, none⟩)]).run Tryz.prog w = .ok (.int .u8 22) w := by kernel_rfl
theorem kind_k (w : World) : ((ReflectliteType.abiMethod fun t => (fun a : Nat => Value.int IntKind.u8 (a : Int)) <$> Rtype.kind t) #[.pointer (some ⟨1, 55, none⟩)]).run Tryz.prog w = .ok (.int .u8 2) w := by kernel_rfl
theorem parts_pp (a : Addr) (w : World) : (ReflectliteValue.parts (.agg #[.pointer (some ⟨1, 181, none⟩), .pointer (some a), .int .u64 150])).run Tryz.prog w = .ok (some (181, a, 150)) w := by kernel_rfl
theorem parts_pk (a : Addr) (w : World) : (ReflectliteValue.parts (.agg #[.pointer (some ⟨1, 184, none⟩), .pointer (some a), .int .u64 150])).run Tryz.prog w = .ok (some (184, a, 150)) w := by kernel_rfl
theorem isNil_pp (a p : Addr) (W : World) (ha : W.cell? a = some (.pointer (some p))) :
    (ReflectliteValue.method (ReflectliteValue.valueError "reflectlite.Value.IsNil" 0) ReflectliteValue.isNil #[.agg #[.pointer (some ⟨1, 181, none⟩), .pointer (some a), .int .u64 150]]).run Tryz.prog W = .ok (.bool false) W := by
  rw [rlm]
  simp only [Sem.run_bind, parts_pp, Result.andThen]
  simp [ReflectliteValue.isNil, loadVar, isAgg, underlying, Tryz.underlying181, ha, Result.andThen]
theorem isNil_pk (a p : Addr) (W : World) (ha : W.cell? a = some (.pointer (some p))) :
    (ReflectliteValue.method (ReflectliteValue.valueError "reflectlite.Value.IsNil" 0) ReflectliteValue.isNil #[.agg #[.pointer (some ⟨1, 184, none⟩), .pointer (some a), .int .u64 150]]).run Tryz.prog W = .ok (.bool false) W := by
  rw [rlm]
  simp only [Sem.run_bind, parts_pk, Result.andThen]
  simp [ReflectliteValue.isNil, loadVar, isAgg, underlying, Tryz.underlying184, ha, Result.andThen]
theorem elem_pp (w : World) : (ReflectliteType.method ReflectliteType.elem #[.agg #[.pointer (some ⟨1, 181, none⟩)]]).run Tryz.prog w = .ok (.iface 212 (.agg #[.pointer (some ⟨1, 179, none⟩)])) w := by kernel_rfl
theorem elem_pk (w : World) : (ReflectliteType.method ReflectliteType.elem #[.agg #[.pointer (some ⟨1, 184, none⟩)]]).run Tryz.prog w = .ok (.iface 212 (.agg #[.pointer (some ⟨1, 55, none⟩)])) w := by kernel_rfl
theorem impl_p (w : World) : (ReflectliteType.relation "Implements" ReflectliteType.implements_ #[.agg #[.pointer (some ⟨1, 179, none⟩)], .iface 212 (.agg #[.pointer (some ⟨1, 109, none⟩)])]).run Tryz.prog w = .ok (.bool true) w := by kernel_rfl
theorem impl_k (w : World) : (ReflectliteType.relation "Implements" ReflectliteType.implements_ #[.agg #[.pointer (some ⟨1, 55, none⟩)], .iface 212 (.agg #[.pointer (some ⟨1, 109, none⟩)])]).run Tryz.prog w = .ok (.bool true) w := by kernel_rfl
theorem typeOf_p (v : Value) (w : World) : (ReflectliteType.typeOf #[.iface 179 v]).run Tryz.prog w = .ok (.iface 212 (.agg #[.pointer (some ⟨1, 179, none⟩)])) w := by kernel_rfl
theorem typeOf_k (v : Value) (w : World) : (ReflectliteType.typeOf #[.iface 55 v]).run Tryz.prog w = .ok (.iface 212 (.agg #[.pointer (some ⟨1, 55, none⟩)])) w := by kernel_rfl
def compEntry : Array Value → Sem Value := ReflectliteType.method fun t => do Rtype.noPackHeld "Comparable" t; pure (.bool (← typeInfo t).comparable)
theorem comp_k (w : World) : (compEntry #[.agg #[.pointer (some ⟨1, 55, none⟩)]]).run Tryz.prog w = .ok (.bool true) w := by kernel_rfl
theorem assn_pp (w : World) : (ReflectliteType.relation "AssignableTo" ReflectliteType.assignableTo #[.agg #[.pointer (some ⟨1, 179, none⟩)], .iface 212 (.agg #[.pointer (some ⟨1, 179, none⟩)])]).run Tryz.prog w = .ok (.bool true) w := by kernel_rfl
theorem assn_kp (w : World) : (ReflectliteType.relation "AssignableTo" ReflectliteType.assignableTo #[.agg #[.pointer (some ⟨1, 55, none⟩)], .iface 212 (.agg #[.pointer (some ⟨1, 179, none⟩)])]).run Tryz.prog w = .ok (.bool false) w := by kernel_rfl
theorem assn_kk (w : World) : (ReflectliteType.relation "AssignableTo" ReflectliteType.assignableTo #[.agg #[.pointer (some ⟨1, 55, none⟩)], .iface 212 (.agg #[.pointer (some ⟨1, 55, none⟩)])]).run Tryz.prog w = .ok (.bool true) w := by kernel_rfl
theorem elemOf_pp (w : World) : (Rtype.elem? 181).run Tryz.prog w = .ok (some 179) w := by kernel_rfl
theorem elemOf_pk (w : World) : (Rtype.elem? 184).run Tryz.prog w = .ok (some 55) w := by kernel_rfl
theorem mk_p (p : Addr) (w : World) : (ReflectliteValue.mk 179 p ReflectliteValue.flagAddr).run Tryz.prog w = .ok (.agg #[.pointer (some ⟨1, 179, none⟩), .pointer (some p), .int .u64 406]) w := by kernel_rfl
theorem mk_k (p : Addr) (w : World) : (ReflectliteValue.mk 55 p ReflectliteValue.flagAddr).run Tryz.prog w = .ok (.agg #[.pointer (some ⟨1, 55, none⟩), .pointer (some p), .int .u64 386]) w := by kernel_rfl
theorem elemV_pp (a p : Addr) (W : World) (ha : W.cell? a = some (.pointer (some p))) :
    (ReflectliteValue.method (ReflectliteValue.valueError "reflectlite.Value.Elem" 0) ReflectliteValue.elem #[.agg #[.pointer (some ⟨1, 181, none⟩), .pointer (some a), .int .u64 150]]).run Tryz.prog W
      = .ok (.agg #[.pointer (some ⟨1, 179, none⟩), .pointer (some p), .int .u64 406]) W := by
  rw [rlm]
  simp only [Sem.run_bind, parts_pp, Result.andThen]
  simp [ReflectliteValue.elem, loadVar, isAgg, underlying, Tryz.underlying181, ha, Result.andThen, elemOf_pp, mk_p]
theorem elemV_pk (a p : Addr) (W : World) (ha : W.cell? a = some (.pointer (some p))) :
    (ReflectliteValue.method (ReflectliteValue.valueError "reflectlite.Value.Elem" 0) ReflectliteValue.elem #[.agg #[.pointer (some ⟨1, 184, none⟩), .pointer (some a), .int .u64 150]]).run Tryz.prog W
      = .ok (.agg #[.pointer (some ⟨1, 55, none⟩), .pointer (some p), .int .u64 386]) W := by
  rw [rlm]
  simp only [Sem.run_bind, parts_pk, Result.andThen]
  simp [ReflectliteValue.elem, loadVar, isAgg, underlying, Tryz.underlying184, ha, Result.andThen, elemOf_pk, mk_k]
theorem parts_pa (a : Addr) (w : World) : (ReflectliteValue.parts (.agg #[.pointer (some ⟨1, 179, none⟩), .pointer (some a), .int .u64 406])).run Tryz.prog w = .ok (some (179, a, 406)) w := by kernel_rfl
theorem parts_p (a : Addr) (w : World) : (ReflectliteValue.parts (.agg #[.pointer (some ⟨1, 179, none⟩), .pointer (some a), .int .u64 150])).run Tryz.prog w = .ok (some (179, a, 150)) w := by kernel_rfl
theorem parts_ka (a : Addr) (w : World) : (ReflectliteValue.parts (.agg #[.pointer (some ⟨1, 55, none⟩), .pointer (some a), .int .u64 386])).run Tryz.prog w = .ok (some (55, a, 386)) w := by kernel_rfl
theorem parts_k (a : Addr) (w : World) : (ReflectliteValue.parts (.agg #[.pointer (some ⟨1, 55, none⟩), .pointer (some a), .int .u64 130])).run Tryz.prog w = .ok (some (55, a, 130)) w := by kernel_rfl
theorem direct_p (w : World) : (Rtype.directlyAssignable 179 179).run Tryz.prog w = .ok true w := by kernel_rfl
theorem direct_k (w : World) : (Rtype.directlyAssignable 55 55).run Tryz.prog w = .ok true w := by kernel_rfl
theorem set_p (ta b e : Addr) (old : Value) (W : World) (hb : W.cell? b = some (.pointer (some e))) (ht : W.cell? ta = some old) (hf : W.frozen? ta = false) :
    (ReflectliteValue.set #[.agg #[.pointer (some ⟨1, 179, none⟩), .pointer (some ta), .int .u64 406], .agg #[.pointer (some ⟨1, 179, none⟩), .pointer (some b), .int .u64 150]]).run Tryz.prog W
      = .ok (.tuple #[]) (W.setCell ta (.pointer (some e))) := by
  rw [rls]
  simp only [Sem.run_bind, parts_pa, parts_p, Result.andThen]
  simp [ReflectliteValue.flagAddr, loadVar, isAgg, underlying, Tryz.underlying179, hb, Result.andThen, direct_p, storeVar, Value.cells, storeCells, Addr.add]
  rw [run_store Tryz.prog W ta _ _ (by rfl)]
  simp [ht, hf]
theorem set_k (ta b : Addr) (n : Int) (old : Value) (W : World) (hb : W.cell? b = some (.int .i64 n)) (ht : W.cell? ta = some old) (hf : W.frozen? ta = false) :
    (ReflectliteValue.set #[.agg #[.pointer (some ⟨1, 55, none⟩), .pointer (some ta), .int .u64 386], .agg #[.pointer (some ⟨1, 55, none⟩), .pointer (some b), .int .u64 130]]).run Tryz.prog W
      = .ok (.tuple #[]) (W.setCell ta (.int .i64 n)) := by
  rw [rls]
  simp only [Sem.run_bind, parts_ka, parts_k, Result.andThen]
  simp [ReflectliteValue.flagAddr, loadVar, isAgg, underlying, Tryz.underlying55, hb, Result.andThen, direct_k, storeVar, Value.cells, storeCells, Addr.add]
  rw [run_store Tryz.prog W ta _ _ (by rfl)]
  simp [ht, hf]
theorem noAs_k (v : Value) (xT : TypeId) (w : World) : (Instr.typeAssert (.iface 55 v) xT 232 true).run Tryz.prog w = .ok (.tuple #[.nilIface, .bool false]) w := run_typeAssert_lacksB Tryz.underlying232 (by kernel_rfl) (by kernel_rfl) v xT w
theorem noIs_k (v : Value) (xT : TypeId) (w : World) : (Instr.typeAssert (.iface 55 v) xT 214 true).run Tryz.prog w = .ok (.tuple #[.nilIface, .bool false]) w := run_typeAssert_lacksB Tryz.underlying214 (by kernel_rfl) (by kernel_rfl) v xT w
theorem noUnw_k (v : Value) (xT : TypeId) (w : World) : (Instr.typeAssert (.iface 55 v) xT 217 true).run Tryz.prog w = .ok (.tuple #[.nilIface, .bool false]) w := run_typeAssert_lacksB Tryz.underlying217 (by kernel_rfl) (by kernel_rfl) v xT w
theorem noUnws_k (v : Value) (xT : TypeId) (w : World) : (Instr.typeAssert (.iface 55 v) xT 219 true).run Tryz.prog w = .ok (.tuple #[.nilIface, .bool false]) w := run_typeAssert_lacksB Tryz.underlying219 (by kernel_rfl) (by kernel_rfl) v xT w
theorem noIs_p (v : Value) (xT : TypeId) (w : World) : (Instr.typeAssert (.iface 179 v) xT 214 true).run Tryz.prog w = .ok (.tuple #[.nilIface, .bool false]) w := run_typeAssert_lacksB Tryz.underlying214 (by kernel_rfl) (by kernel_rfl) v xT w
theorem unw_p (v : Value) (xT : TypeId) (w : World) : (Instr.typeAssert (.iface 179 v) xT 217 true).run Tryz.prog w = .ok (.tuple #[.iface 179 v, .bool true]) w := run_typeAssert_hasB Tryz.underlying217 (by kernel_rfl) v xT w
theorem comp_info : (Tryz.prog.info? 55).map (·.comparable) = some true := by kernel_rfl
end Go.Proofs.YtiabdbeejkadnaaGreatDoor

/- errors.As and errors.Is by contracts; api.Told; plain.told. Own work of the verifier. -/
namespace Go.Proofs.YtiabdbeejkadnaaGreatDoor
open Go.RowKit Go.Extern.Stop Go.Stop Go.Extern

theorem bcell {W w1 : World} (hb : Below W.heap.size W w1) : (∀ b o, b < W.heap.size → w1.cell? ⟨b, o, none⟩ = W.cell? ⟨b, o, none⟩) ∧ (∀ b o, b < W.heap.size → w1.frozen? ⟨b, o, none⟩ = W.frozen? ⟨b, o, none⟩) :=
  ⟨fun b o h => hb.cell (p := ⟨b, o, none⟩) h, fun b o h => hb.frozen (p := ⟨b, o, none⟩) h⟩
theorem lt_of_cell {w : World} {a : Addr} {v : Value} (h : w.cell? a = some v) : a.block < w.heap.size := by
  rcases Nat.lt_or_ge a.block w.heap.size with h' | h'
  · exact h'
  · simp [World.cell?, Array.getElem?_eq_none h'] at h

theorem as_nil (t : Value) (w : World) :
    Calls Tryz.prog 115 #[.nilIface, t] w fun e w' => e = .returned (.bool false) ∧ w' = w := by
  go_enter Tryz.func115, Tryz.ntmps115
  go_wp2
  go_ret
  exact ⟨rfl, rfl⟩

set_option maxHeartbeats 4000000 in
theorem as_pp (e t : Addr) (old : Value) (w : World) (hg : w.cell? ⟨0, 0, none⟩ = some (.iface 212 (.agg #[.pointer (some ⟨1, 109, none⟩)]))) (ht0 : w.cell? t = some old) (hf0 : w.frozen? t = false) :
    Calls Tryz.prog 115 #[.iface 179 (.pointer (some e)), .iface 181 (.pointer (some t))] w fun ev w' => ev = .returned (.bool true) ∧ ∃ w1, w' = w1.setCell t (.pointer (some e)) ∧ Below w.heap.size w w1 := by
  have h6 := @run_callFunc_extern Tryz.prog 137 _ (fun args => ReflectliteValue.unpack (args.getD 0 (.tuple #[]))) Tryz.func137 (by kernel_rfl) (by kernel_rfl) (by kernel_rfl) (by kernel_rfl)
  have h7 := @run_callFunc_extern Tryz.prog 138 _ (ReflectliteValue.methodAny (ReflectliteValue.valueError "reflectlite.Value.Type" 0) (fun t _ _ _ => ReflectliteType.toType t)) Tryz.func138 (by kernel_rfl) (by kernel_rfl) (by kernel_rfl) (by kernel_rfl)
  have h8 := @run_callFunc_extern Tryz.prog 139 _ (ReflectliteValue.method (ReflectliteValue.valueError "reflectlite.Value.IsNil" 0) ReflectliteValue.isNil) Tryz.func139 (by kernel_rfl) (by kernel_rfl) (by kernel_rfl) (by kernel_rfl)
  have h27 := @run_callFunc_extern Tryz.prog 180 _ (ReflectliteType.abiMethod fun t => do pure (.int .u8 (← Rtype.kind t))) Tryz.func180 (by kernel_rfl) (by kernel_rfl) (by kernel_rfl) (by kernel_rfl)
  have h37 := @run_callFunc_extern Tryz.prog 192 _ (ReflectliteType.method ReflectliteType.elem) Tryz.func192 (by kernel_rfl) (by kernel_rfl) (by kernel_rfl) (by kernel_rfl)
  have h38 := @run_callFunc_extern Tryz.prog 193 _ (ReflectliteType.relation "Implements" ReflectliteType.implements_) Tryz.func193 (by kernel_rfl) (by kernel_rfl) (by kernel_rfl) (by kernel_rfl)
  have h10 := @run_callFunc_extern Tryz.prog 116 _ ReflectliteType.typeOf Tryz.func116 (by kernel_rfl) (by kernel_rfl) (by kernel_rfl) (by kernel_rfl)
  have h35 := @run_callFunc_extern Tryz.prog 190 _ (ReflectliteType.relation "AssignableTo" ReflectliteType.assignableTo) Tryz.func190 (by kernel_rfl) (by kernel_rfl) (by kernel_rfl) (by kernel_rfl)
  have h11 := @run_callFunc_extern Tryz.prog 149 _ (ReflectliteValue.method (ReflectliteValue.valueError "reflectlite.Value.Elem" 0) ReflectliteValue.elem) Tryz.func149 (by kernel_rfl) (by kernel_rfl) (by kernel_rfl) (by kernel_rfl)
  have h12 := @run_callFunc_extern Tryz.prog 150 _ ReflectliteValue.set Tryz.func150 (by kernel_rfl) (by kernel_rfl) (by kernel_rfl) (by kernel_rfl)
  have tO := typeOf_p
  have mA := m_Assn
  have a25 := assn_pp
  have v25 := vof_p
  have f6 := vof_pp
  have f7 := type_pp
  have mK := m_Kind
  have mE := m_Elem
  have mI := m_Impl
  have k27 := kind_pp
  have k25 := kind_p
  have e27 := elem_pp
  have i25 := impl_p
  have n8 := isNil_pp ⟨w.heap.size, 0, none⟩ t ((w.alloc (.cells #[.pointer (some t)] 181)).alloc (.cells #[.pointer (some ⟨1, 181, none⟩), .pointer (some ⟨w.heap.size, 0, none⟩), .int .u64 150] 204)) (by simp)
  have hlt : 0 < w.heap.size := lt_of_cell hg
  have hg2 : ((w.alloc (.cells #[.pointer (some t)] 181)).alloc (.cells #[.pointer (some ⟨1, 181, none⟩), .pointer (some ⟨w.heap.size, 0, none⟩), .int .u64 150] 204)).cell? ⟨0, 0, none⟩ = some (.iface 212 (.agg #[.pointer (some ⟨1, 109, none⟩)])) := by
    rw [World.cell?_alloc_lt _ _ ⟨0, 0, none⟩ (by simp), World.cell?_alloc_lt _ _ ⟨0, 0, none⟩ hlt]; exact hg
  have htl : t.block < w.heap.size := lt_of_cell ht0
  have el := elemV_pp ⟨w.heap.size, 0, none⟩ t (((w.alloc (.cells #[.pointer (some t)] 181)).alloc (.cells #[.pointer (some ⟨1, 181, none⟩), .pointer (some ⟨w.heap.size, 0, none⟩), .int .u64 150] 204)).alloc (.cells #[.pointer (some ⟨1, 181, none⟩), .pointer (some ⟨w.heap.size, 0, none⟩), .int .u64 150] 204)) (by rw [World.cell?_alloc_lt _ _ ⟨w.heap.size, 0, none⟩ (by simp; omega)]; simp)
  have st := set_p t ⟨w.heap.size + 1 + 1 + 1, 0, none⟩ e old ((((w.alloc (.cells #[.pointer (some t)] 181)).alloc (.cells #[.pointer (some ⟨1, 181, none⟩), .pointer (some ⟨w.heap.size, 0, none⟩), .int .u64 150] 204)).alloc (.cells #[.pointer (some ⟨1, 181, none⟩), .pointer (some ⟨w.heap.size, 0, none⟩), .int .u64 150] 204)).alloc (.cells #[.pointer (some e)] 179))
    (by rw [World.cell?_alloc_at _ _ _ _ (by simp)]; rfl)
    (by rw [World.cell?_alloc_lt _ _ t (by simp; omega), World.cell?_alloc_lt _ _ t (by simp; omega), World.cell?_alloc_lt _ _ t (by simp; omega), World.cell?_alloc_lt _ _ t htl]; exact ht0)
    (by rw [World.frozen?_alloc_old _ _ t (by simp; omega), World.frozen?_alloc_old _ _ t (by simp; omega), World.frozen?_alloc_old _ _ t (by simp; omega), World.frozen?_alloc_old _ _ t (Nat.ne_of_lt htl)]; exact hf0)
  go_enter Tryz.func115, Tryz.ntmps115
  go_wp2
  refine wp_loop_rounds 1 ?_
  rw [rounds_succ]
  go_wp2
  go_ret
  exact ⟨rfl, _, rfl, ((((Below.refl _ _).alloc (Nat.le_refl _) _).alloc (by simp) _).alloc (by simp; omega) _).alloc (by simp; omega) _⟩

set_option maxHeartbeats 4000000 in
theorem as_kp (n : Int) (t : Addr) (w : World) (hg : w.cell? ⟨0, 0, none⟩ = some (.iface 212 (.agg #[.pointer (some ⟨1, 109, none⟩)]))) :
    Calls Tryz.prog 115 #[.iface 55 (.int .i64 n), .iface 181 (.pointer (some t))] w fun ev w' => ev = .returned (.bool false) ∧ Below w.heap.size w w' := by
  have h6 := @run_callFunc_extern Tryz.prog 137 _ (fun args => ReflectliteValue.unpack (args.getD 0 (.tuple #[]))) Tryz.func137 (by kernel_rfl) (by kernel_rfl) (by kernel_rfl) (by kernel_rfl)
  have h7 := @run_callFunc_extern Tryz.prog 138 _ (ReflectliteValue.methodAny (ReflectliteValue.valueError "reflectlite.Value.Type" 0) (fun t _ _ _ => ReflectliteType.toType t)) Tryz.func138 (by kernel_rfl) (by kernel_rfl) (by kernel_rfl) (by kernel_rfl)
  have h8 := @run_callFunc_extern Tryz.prog 139 _ (ReflectliteValue.method (ReflectliteValue.valueError "reflectlite.Value.IsNil" 0) ReflectliteValue.isNil) Tryz.func139 (by kernel_rfl) (by kernel_rfl) (by kernel_rfl) (by kernel_rfl)
  have h27 := @run_callFunc_extern Tryz.prog 180 _ (ReflectliteType.abiMethod fun t => do pure (.int .u8 (← Rtype.kind t))) Tryz.func180 (by kernel_rfl) (by kernel_rfl) (by kernel_rfl) (by kernel_rfl)
  have h37 := @run_callFunc_extern Tryz.prog 192 _ (ReflectliteType.method ReflectliteType.elem) Tryz.func192 (by kernel_rfl) (by kernel_rfl) (by kernel_rfl) (by kernel_rfl)
  have h38 := @run_callFunc_extern Tryz.prog 193 _ (ReflectliteType.relation "Implements" ReflectliteType.implements_) Tryz.func193 (by kernel_rfl) (by kernel_rfl) (by kernel_rfl) (by kernel_rfl)
  have h10 := @run_callFunc_extern Tryz.prog 116 _ ReflectliteType.typeOf Tryz.func116 (by kernel_rfl) (by kernel_rfl) (by kernel_rfl) (by kernel_rfl)
  have h35 := @run_callFunc_extern Tryz.prog 190 _ (ReflectliteType.relation "AssignableTo" ReflectliteType.assignableTo) Tryz.func190 (by kernel_rfl) (by kernel_rfl) (by kernel_rfl) (by kernel_rfl)
  have tO := typeOf_k
  have mA := m_Assn
  have a25 := assn_kp
  have f6 := vof_pp
  have f7 := type_pp
  have mK := m_Kind
  have mE := m_Elem
  have mI := m_Impl
  have k27 := kind_pp
  have k25 := kind_p
  have e27 := elem_pp
  have i25 := impl_p
  have nA := noAs_k
  have nU := noUnw_k
  have nV := noUnws_k
  have n8 := isNil_pp ⟨w.heap.size, 0, none⟩ t ((w.alloc (.cells #[.pointer (some t)] 181)).alloc (.cells #[.pointer (some ⟨1, 181, none⟩), .pointer (some ⟨w.heap.size, 0, none⟩), .int .u64 150] 204)) (by simp)
  have hlt : 0 < w.heap.size := lt_of_cell hg
  have hg2 : ((w.alloc (.cells #[.pointer (some t)] 181)).alloc (.cells #[.pointer (some ⟨1, 181, none⟩), .pointer (some ⟨w.heap.size, 0, none⟩), .int .u64 150] 204)).cell? ⟨0, 0, none⟩ = some (.iface 212 (.agg #[.pointer (some ⟨1, 109, none⟩)])) := by
    rw [World.cell?_alloc_lt _ _ ⟨0, 0, none⟩ (by simp), World.cell?_alloc_lt _ _ ⟨0, 0, none⟩ hlt]; exact hg
  go_enter Tryz.func115, Tryz.ntmps115
  go_wp2
  refine wp_loop_rounds 1 ?_
  rw [rounds_succ]
  go_wp2
  go_ret
  exact ⟨rfl, (((Below.refl _ _).alloc (Nat.le_refl _) _).alloc (by simp) _).alloc (by simp; omega) _⟩

set_option maxHeartbeats 4000000 in
theorem as_kk (n : Int) (t : Addr) (old : Value) (w : World) (hg : w.cell? ⟨0, 0, none⟩ = some (.iface 212 (.agg #[.pointer (some ⟨1, 109, none⟩)]))) (ht0 : w.cell? t = some old) (hf0 : w.frozen? t = false) :
    Calls Tryz.prog 115 #[.iface 55 (.int .i64 n), .iface 184 (.pointer (some t))] w fun ev w' => ev = .returned (.bool true) ∧ ∃ w1, w' = w1.setCell t (.int .i64 n) ∧ Below w.heap.size w w1 := by
  have h6 := @run_callFunc_extern Tryz.prog 137 _ (fun args => ReflectliteValue.unpack (args.getD 0 (.tuple #[]))) Tryz.func137 (by kernel_rfl) (by kernel_rfl) (by kernel_rfl) (by kernel_rfl)
  have h7 := @run_callFunc_extern Tryz.prog 138 _ (ReflectliteValue.methodAny (ReflectliteValue.valueError "reflectlite.Value.Type" 0) (fun t _ _ _ => ReflectliteType.toType t)) Tryz.func138 (by kernel_rfl) (by kernel_rfl) (by kernel_rfl) (by kernel_rfl)
  have h8 := @run_callFunc_extern Tryz.prog 139 _ (ReflectliteValue.method (ReflectliteValue.valueError "reflectlite.Value.IsNil" 0) ReflectliteValue.isNil) Tryz.func139 (by kernel_rfl) (by kernel_rfl) (by kernel_rfl) (by kernel_rfl)
  have h27 := @run_callFunc_extern Tryz.prog 180 _ (ReflectliteType.abiMethod fun t => do pure (.int .u8 (← Rtype.kind t))) Tryz.func180 (by kernel_rfl) (by kernel_rfl) (by kernel_rfl) (by kernel_rfl)
  have h37 := @run_callFunc_extern Tryz.prog 192 _ (ReflectliteType.method ReflectliteType.elem) Tryz.func192 (by kernel_rfl) (by kernel_rfl) (by kernel_rfl) (by kernel_rfl)
  have h38 := @run_callFunc_extern Tryz.prog 193 _ (ReflectliteType.relation "Implements" ReflectliteType.implements_) Tryz.func193 (by kernel_rfl) (by kernel_rfl) (by kernel_rfl) (by kernel_rfl)
  have h10 := @run_callFunc_extern Tryz.prog 116 _ ReflectliteType.typeOf Tryz.func116 (by kernel_rfl) (by kernel_rfl) (by kernel_rfl) (by kernel_rfl)
  have h35 := @run_callFunc_extern Tryz.prog 190 _ (ReflectliteType.relation "AssignableTo" ReflectliteType.assignableTo) Tryz.func190 (by kernel_rfl) (by kernel_rfl) (by kernel_rfl) (by kernel_rfl)
  have h11 := @run_callFunc_extern Tryz.prog 149 _ (ReflectliteValue.method (ReflectliteValue.valueError "reflectlite.Value.Elem" 0) ReflectliteValue.elem) Tryz.func149 (by kernel_rfl) (by kernel_rfl) (by kernel_rfl) (by kernel_rfl)
  have h12 := @run_callFunc_extern Tryz.prog 150 _ ReflectliteValue.set Tryz.func150 (by kernel_rfl) (by kernel_rfl) (by kernel_rfl) (by kernel_rfl)
  have tO := typeOf_k
  have mA := m_Assn
  have a25 := assn_kk
  have v25 := vof_k
  have f6 := vof_pk
  have f7 := type_pk
  have mK := m_Kind
  have mE := m_Elem
  have mI := m_Impl
  have k27 := kind_pk
  have k25 := kind_k
  have e27 := elem_pk
  have i25 := impl_k
  have n8 := isNil_pk ⟨w.heap.size, 0, none⟩ t ((w.alloc (.cells #[.pointer (some t)] 184)).alloc (.cells #[.pointer (some ⟨1, 184, none⟩), .pointer (some ⟨w.heap.size, 0, none⟩), .int .u64 150] 204)) (by simp)
  have hlt : 0 < w.heap.size := lt_of_cell hg
  have hg2 : ((w.alloc (.cells #[.pointer (some t)] 184)).alloc (.cells #[.pointer (some ⟨1, 184, none⟩), .pointer (some ⟨w.heap.size, 0, none⟩), .int .u64 150] 204)).cell? ⟨0, 0, none⟩ = some (.iface 212 (.agg #[.pointer (some ⟨1, 109, none⟩)])) := by
    rw [World.cell?_alloc_lt _ _ ⟨0, 0, none⟩ (by simp), World.cell?_alloc_lt _ _ ⟨0, 0, none⟩ hlt]; exact hg
  have htl : t.block < w.heap.size := lt_of_cell ht0
  have el := elemV_pk ⟨w.heap.size, 0, none⟩ t (((w.alloc (.cells #[.pointer (some t)] 184)).alloc (.cells #[.pointer (some ⟨1, 184, none⟩), .pointer (some ⟨w.heap.size, 0, none⟩), .int .u64 150] 204)).alloc (.cells #[.pointer (some ⟨1, 184, none⟩), .pointer (some ⟨w.heap.size, 0, none⟩), .int .u64 150] 204)) (by rw [World.cell?_alloc_lt _ _ ⟨w.heap.size, 0, none⟩ (by simp; omega)]; simp)
  have st := set_k t ⟨w.heap.size + 1 + 1 + 1, 0, none⟩ n old ((((w.alloc (.cells #[.pointer (some t)] 184)).alloc (.cells #[.pointer (some ⟨1, 184, none⟩), .pointer (some ⟨w.heap.size, 0, none⟩), .int .u64 150] 204)).alloc (.cells #[.pointer (some ⟨1, 184, none⟩), .pointer (some ⟨w.heap.size, 0, none⟩), .int .u64 150] 204)).alloc (.cells #[.int .i64 n] 55))
    (by rw [World.cell?_alloc_at _ _ _ _ (by simp)]; rfl)
    (by rw [World.cell?_alloc_lt _ _ t (by simp; omega), World.cell?_alloc_lt _ _ t (by simp; omega), World.cell?_alloc_lt _ _ t (by simp; omega), World.cell?_alloc_lt _ _ t htl]; exact ht0)
    (by rw [World.frozen?_alloc_old _ _ t (by simp; omega), World.frozen?_alloc_old _ _ t (by simp; omega), World.frozen?_alloc_old _ _ t (by simp; omega), World.frozen?_alloc_old _ _ t (Nat.ne_of_lt htl)]; exact hf0)
  go_enter Tryz.func115, Tryz.ntmps115
  go_wp2
  refine wp_loop_rounds 1 ?_
  rw [rounds_succ]
  go_wp2
  go_ret
  exact ⟨rfl, _, rfl, ((((Below.refl _ _).alloc (Nat.le_refl _) _).alloc (by simp) _).alloc (by simp; omega) _).alloc (by simp; omega) _⟩

end Go.Proofs.YtiabdbeejkadnaaGreatDoor

/- errors.Is by contracts, the target a Kind. Own work of the verifier. -/
namespace Go.Proofs.YtiabdbeejkadnaaGreatDoor
open Go.RowKit Go.Extern.Stop Go.Stop Go.Extern

/-! ### errors.Is, the target a Kind -/
theorem is_nil (n : Int) (w : World) :
    Calls Tryz.prog 85 #[.nilIface, .iface 55 (.int .i64 n)] w fun e w' => e = .returned (.bool false) ∧ w' = w := by
  have hn := run_eql_iface_nil_left (P := Tryz.prog) w 55 (.int .i64 n) Tryz.underlying109
  go_enter Tryz.func85, Tryz.ntmps85
  go_wp2
  go_ret
  exact ⟨rfl, rfl⟩

theorem is_kind (a n : Int) (w : World) :
    Calls Tryz.prog 85 #[.iface 55 (.int .i64 a), .iface 55 (.int .i64 n)] w fun e w' => e = .returned (.bool (a == n)) ∧ w' = w := by
  obtain ⟨i, hi, hcmp⟩ := Option.map_eq_some_iff.1 comp_info
  have h8 := @run_callFunc_extern Tryz.prog 116 _ ReflectliteType.typeOf Tryz.func116 (by kernel_rfl) (by kernel_rfl) (by kernel_rfl) (by kernel_rfl)
  have h32 := @run_callFunc_extern Tryz.prog 191 _ compEntry Tryz.func191 (by kernel_rfl) (by kernel_rfl) (by kernel_rfl) (by kernel_rfl)
  have tT := typeOf_k
  have cT := comp_k
  have mR := m_Comp
  have nI := noIs_k
  have nU := noUnw_k
  have nV := noUnws_k
  have heq := run_eql_iface_int (P := Tryz.prog) w a n Tryz.underlying109 Tryz.underlying55 hi hcmp
  by_cases h : a = n
  · have hb : (a == n) = true := beq_iff_eq.2 h
    clear h
    rw [hb] at heq
    rw [hb]
    go_enter Tryz.func85, Tryz.ntmps85
    go_wp2
    refine wp_loop_rounds 1 ?_
    rw [rounds_succ]
    go_wp2
    go_ret
    exact ⟨rfl, rfl⟩
  · have hb : (a == n) = false := beq_eq_false_iff_ne.2 h
    clear h
    rw [hb] at heq
    rw [hb]
    go_enter Tryz.func85, Tryz.ntmps85
    go_wp2
    refine wp_loop_rounds 1 ?_
    rw [rounds_succ]
    go_wp2
    go_ret
    exact ⟨rfl, rfl⟩

theorem is_req (pb po : Nat) (a n : Int) (w : World) (h1 : w.cell? ⟨pb, po + 2, none⟩ = some (.int .i64 a)) :
    Calls Tryz.prog 85 #[.iface 179 (.pointer (some ⟨pb, po, none⟩)), .iface 55 (.int .i64 n)] w fun e w' => e = .returned (.bool (a == n)) ∧ w' = w := by
  obtain ⟨i, hi, hcmp⟩ := Option.map_eq_some_iff.1 comp_info
  have h8 := @run_callFunc_extern Tryz.prog 116 _ ReflectliteType.typeOf Tryz.func116 (by kernel_rfl) (by kernel_rfl) (by kernel_rfl) (by kernel_rfl)
  have h32 := @run_callFunc_extern Tryz.prog 191 _ compEntry Tryz.func191 (by kernel_rfl) (by kernel_rfl) (by kernel_rfl) (by kernel_rfl)
  have tT := typeOf_k
  have cT := comp_k
  have mR := m_Comp
  have nI := noIs_k
  have nU := noUnw_k
  have nV := noUnws_k
  have nP := noIs_p
  have uP := unw_p
  have mU := m_Unwrap
  have hty := run_eql_iface_types (P := Tryz.prog) 179 55 (.pointer (some ⟨pb, po, none⟩)) (.int .i64 n) Tryz.underlying109 (by decide) w
  have heq := run_eql_iface_int (P := Tryz.prog) w a n Tryz.underlying109 Tryz.underlying55 hi hcmp
  by_cases h : a = n
  · have hb : (a == n) = true := beq_iff_eq.2 h
    clear h
    rw [hb] at heq
    rw [hb]
    go_enter Tryz.func85, Tryz.ntmps85
    go_wp2
    refine wp_loop_rounds 2 ?_
    rw [rounds_succ]
    go_wp2
    rw [rounds_succ]
    go_wp2
    go_ret
    exact ⟨rfl, rfl⟩
  · have hb : (a == n) = false := beq_eq_false_iff_ne.2 h
    clear h
    rw [hb] at heq
    rw [hb]
    go_enter Tryz.func85, Tryz.ntmps85
    go_wp2
    refine wp_loop_rounds 2 ?_
    rw [rounds_succ]
    go_wp2
    rw [rounds_succ]
    go_wp2
    go_ret
    exact ⟨rfl, rfl⟩
end Go.Proofs.YtiabdbeejkadnaaGreatDoor
