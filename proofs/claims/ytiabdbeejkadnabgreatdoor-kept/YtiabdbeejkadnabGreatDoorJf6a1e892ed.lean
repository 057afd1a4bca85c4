import Derived.Test.YtiabdbeejkadnabGreatDoorJ0c3df23578
import Derived.Test.YtiabdbeejkadnabGreatDoorJ5e46982a77
/- The keeps: what was asked, and what stands in the queue, as a plain model. Own work of the verifier. -/
namespace Go.Proofs.YtiabdbeejkadnabGreatDoor

structure SameRq (r r' : Rq) : Prop where
  num : r'.num = r.num
  write : r'.write = r.write
  page : r'.page = r.page
  data : r'.data = r.data
theorem SameRq.refl (r : Rq) : SameRq r r := ⟨rfl, rfl, rfl, rfl⟩
theorem SameRq.trans {a b c : Rq} (h : SameRq a b) (k : SameRq b c) : SameRq a c := ⟨k.num.trans h.num, k.write.trans h.write, k.page.trans h.page, k.data.trans h.data⟩
def TrOk (r : Rq) : Prop := (r.state = 2 → 1 ≤ r.tries) ∧ (r.state = 3 → r.tries = 4)
/-- S' has what S had, further on -/
structure Follows (S S' : St) : Prop where
  last : S'.last = S.last
  back : ∀ r' ∈ S'.reqs, ∃ r ∈ S.reqs, SameRq r r' ∧ (r'.state = 4 ↔ r.state = 4) ∧ (r'.num ∉ S'.told → r.num ∉ S.told) ∧ (TrOk r → TrOk r')
  fwd : ∀ r ∈ S.reqs, r.num ∉ S.told → ∃ r' ∈ S'.reqs, r'.num ∉ S'.told ∧ SameRq r r' ∧ (r'.state = 4 ↔ r.state = 4)
theorem Follows.refl (S : St) : Follows S S := ⟨rfl, fun r hr => ⟨r, hr, .refl r, Iff.rfl, id, id⟩, fun r hr h => ⟨r, hr, h, .refl r, Iff.rfl⟩⟩
theorem Follows.trans {A B C : St} (h : Follows A B) (k : Follows B C) : Follows A C := by
  refine ⟨k.last.trans h.last, fun r hr => ?_, fun r hr hn => ?_⟩
  · obtain ⟨r1, h1, s1, e1, t1, o1⟩ := k.back r hr
    obtain ⟨r2, h2, s2, e2, t2, o2⟩ := h.back r1 h1
    exact ⟨r2, h2, s2.trans s1, e1.trans e2, fun x => t2 (t1 x), fun x => o1 (o2 x)⟩
  · obtain ⟨r1, h1, n1, s1, e1⟩ := h.fwd r hr hn
    obtain ⟨r2, h2, n2, s2, e2⟩ := k.fwd r1 h1 n1
    exact ⟨r2, h2, n2, s1.trans s2, e2.trans e1⟩
/-- nothing more is under way, or waits that did not -/
structure Calms (S S' : St) : Prop where
  back : ∀ r' ∈ S'.reqs, ∃ r ∈ S.reqs, SameRq r r' ∧ (r'.inAir = true → r.inAir = true) ∧ (r'.state = 0 → r.state = 0 ∨ r.inAir = true)
theorem Calms.refl (S : St) : Calms S S := ⟨fun r hr => ⟨r, hr, .refl r, id, Or.inl⟩⟩
theorem Calms.trans {A B C : St} (h : Calms A B) (k : Calms B C) : Calms A C := ⟨fun r hr => by
  obtain ⟨r1, h1, s1, a1, z1⟩ := k.back r hr
  obtain ⟨r2, h2, s2, a2, z2⟩ := h.back r1 h1
  exact ⟨r2, h2, s2.trans s1, fun x => a2 (a1 x), fun x => (z1 x).elim z2 (fun y => Or.inr (a2 y))⟩⟩

section
variable {S : St} {E : List Int}
theorem follows_mark (l : List Int) (hf : List Cmd) (hd : Int) (h1 : ∀ r ∈ S.reqs, r.num ∈ l → r.state = 0) : Follows S { S with reqs := markM S.reqs l, flights := hf, head := hd } := by
  have hm : ∀ r ∈ S.reqs, SameRq r (if l.contains r.num then { r with state := 1, inAir := true } else r) ∧ ((if l.contains r.num then { r with state := 1, inAir := true } else r).state = 4 ↔ r.state = 4) ∧ (TrOk r → TrOk (if l.contains r.num then { r with state := 1, inAir := true } else r)) := fun r hr => by
    by_cases hc : l.contains r.num = true
    · rw [if_pos hc]
      have := h1 r hr (by simpa using hc)
      exact ⟨⟨rfl, rfl, rfl, rfl⟩, by simp [this], fun _ => ⟨fun e => (by cases e), fun e => (by cases e)⟩⟩
    · rw [if_neg hc]; exact ⟨.refl r, Iff.rfl, id⟩
  refine ⟨rfl, fun r' hr' => ?_, fun r hr hn => ?_⟩
  · obtain ⟨r, hr, rfl⟩ := List.mem_map.1 hr'
    obtain ⟨a, b, c⟩ := hm r hr
    exact ⟨r, hr, a, b, fun x => by rw [a.num] at x; exact x, c⟩
  · obtain ⟨a, b, c⟩ := hm r hr
    exact ⟨_, List.mem_map.2 ⟨r, hr, rfl⟩, by rw [a.num]; exact hn, a, b⟩
theorem tried_same (S : St) (fault : Bool) (r : Rq) : SameRq r (triedR S fault r) ∧ ((triedR S fault r).state = 4 ↔ r.state = 4) ∧ (0 ≤ r.tries → TrOk r → r.state = 1 ∨ r.state = 4 → TrOk (triedR S fault r)) ∧ (triedR S fault r).inAir = false ∧ ((triedR S fault r).state = 0 → r.state = 0 ∨ r.state = 1) := by
  have hst : (triedR S fault r).state = if r.state = 1 then (if fault = false then 2 else if r.tries + 1 = 4 then 3 else 0) else r.state := rfl
  refine ⟨⟨rfl, rfl, rfl, rfl⟩, ?_, fun h0 ht hs => ?_, rfl, fun e => ?_⟩
  · rw [hst]
    by_cases h : r.state = 1
    · rw [if_pos h, h]
      cases fault
      · simp
      · by_cases h4 : r.tries + 1 = 4 <;> simp [h4]
    · rw [if_neg h]
  · unfold TrOk
    rw [hst]
    show (_ → 1 ≤ r.tries + 1) ∧ (_ → r.tries + 1 = 4)
    refine ⟨fun _ => by omega, fun e => ?_⟩
    rcases hs with h | h
    · rw [if_pos h] at e
      cases fault
      · simp at e
      · by_cases h4 : r.tries + 1 = 4
        · exact h4
        · simp [h4] at e
    · rw [if_neg (by omega)] at e; omega
  · rw [hst] at e
    by_cases h : r.state = 1
    · exact Or.inr h
    · rw [if_neg h] at e; exact Or.inl e
theorem tried_all {n : Int} (h : WfE S (n :: E)) (fault : Bool) : Follows S (triedM S n fault) ∧ Calms S (triedM S n fault) := by
  obtain ⟨k, hk, hf, hn, ha⟩ := h.found (n := n) (by simp)
  have hrk := h.rq _ (List.getElem_mem hk)
  by_cases ht : toldHas S.told n = true
  · have htm : n ∈ S.told := by simpa [toldHas] using ht
    rw [triedM_told hf ht]
    refine ⟨⟨rfl, fun r' hr' => ?_, fun r hr hnt => ?_⟩, ⟨fun r' hr' => ?_⟩⟩
    · obtain ⟨h1, h2⟩ := (mem_erase h.sorted hk r').1 hr'
      refine ⟨r', h1, .refl r', Iff.rfl, fun x y => x ?_, id⟩
      rw [hn] at h2
      exact (untold_mem _ _ _).2 ⟨y, h2⟩
    · have hne : r.num ≠ n := fun e => hnt (by rw [e]; exact htm)
      refine ⟨r, (mem_erase h.sorted hk r).2 ⟨hr, by rw [hn]; exact hne⟩, fun x => hnt ((untold_mem _ _ _).1 x).1, .refl r, Iff.rfl⟩
    · obtain ⟨h1, h2⟩ := (mem_erase h.sorted hk r').1 hr'
      exact ⟨r', h1, .refl r', id, Or.inl⟩
  · have ht' : toldHas S.told n = false := by simpa using ht
    rw [triedM_not hf ht', getD_of hk]
    obtain ⟨s1, s2, s3, s4, s5⟩ := tried_same S fault S.reqs[k]
    have hset : ∀ r' ∈ S.reqs.set k (triedR S fault S.reqs[k]), r' = triedR S fault S.reqs[k] ∨ (r' ∈ S.reqs ∧ r'.num ≠ (S.reqs[k]).num) := fun r' hr' => mem_setR h.sorted hk _ r' hr'
    have hin : triedR S fault S.reqs[k] ∈ S.reqs.set k (triedR S fault S.reqs[k]) := List.mem_set hk _
    refine ⟨⟨rfl, fun r' hr' => ?_, fun r hr hnt => ?_⟩, ⟨fun r' hr' => ?_⟩⟩
    · rcases hset r' hr' with rfl | ⟨h1, h2⟩
      · exact ⟨S.reqs[k], List.getElem_mem hk, s1, s2, id, fun t => s3 hrk.tries.1 t (hrk.air14 ha)⟩
      · exact ⟨r', h1, .refl r', Iff.rfl, id, id⟩
    · by_cases e : r.num = (S.reqs[k]).num
      · have := num_uniq h.sorted hr (List.getElem_mem hk) e
        subst this
        exact ⟨_, hin, hnt, s1, s2⟩
      · refine ⟨r, ?_, hnt, .refl r, Iff.rfl⟩
        obtain ⟨j, hj, rfl⟩ := List.getElem_of_mem hr
        rw [List.mem_iff_getElem]
        refine ⟨j, by simpa using hj, ?_⟩
        rw [List.getElem_set, if_neg (fun e' => e (by subst e'; rfl))]
    · rcases hset r' hr' with rfl | ⟨h1, h2⟩
      · exact ⟨S.reqs[k], List.getElem_mem hk, s1, fun x => (by rw [s4] at x; cases x), fun _ => Or.inr ha⟩
      · exact ⟨r', h1, .refl r', id, Or.inl⟩
theorem end_all (l : List Int) (fault : Bool) : ∀ S : St, WfE S (l ++ E) → Follows S (endM S l fault) ∧ Calms S (endM S l fault) := by
  induction l with
  | nil => intro S _; exact ⟨.refl S, .refl S⟩
  | cons n l ih =>
    intro S h
    obtain ⟨a1, a2⟩ := tried_all (n := n) (E := l ++ E) h fault
    obtain ⟨b1, b2⟩ := ih (triedM S n fault) (h.tried fault)
    exact ⟨a1.trans b1, a2.trans b2⟩
theorem complete_all (h : Wf S) (k : Int) (fault : Bool) : Follows S (completeM S k fault).2 ∧ Calms S (completeM S k fault).2 := by
  unfold completeM
  split
  · exact ⟨.refl S, .refl S⟩
  · rename_i hk
    have hkl : k.toNat < S.flights.length := by omega
    have hg : S.flights.getD k.toNat ⟨false, 0, 0, []⟩ = S.flights[k.toNat] := by simp [hkl]
    rw [hg]
    have hl := WfE.lift h hkl
    obtain ⟨a, b⟩ := end_all (E := []) (S.flights[k.toNat]).requests fault { S with flights := S.flights.eraseIdx k.toNat } (by rw [List.append_nil]; exact hl)
    exact ⟨⟨a.last, a.back, a.fwd⟩, ⟨b.back⟩⟩
end
/-! ### the next command, of any queue -/
section
variable {S : St}
theorem mem_group {q : Int} {w : Bool} {n : Int} : n ∈ groupM S q w ↔ ∃ r ∈ S.reqs, r.num = n ∧ readyB S r = true ∧ r.page = q ∧ r.write = w ∧ r.alone = false := by
  unfold groupM
  rw [List.mem_map]
  constructor
  · rintro ⟨r, h, rfl⟩
    obtain ⟨h1, h2⟩ := List.mem_filter.1 h
    simp only [Bool.and_eq_true, beq_iff_eq, Bool.not_eq_true'] at h2
    exact ⟨r, h1, rfl, h2.1.1.1, h2.1.1.2, h2.1.2, h2.2⟩
  · rintro ⟨r, h1, rfl, h2, h3, h4, h5⟩
    exact ⟨r, List.mem_filter.2 ⟨h1, by simp [h2, h3, h4, h5]⟩, rfl⟩
theorem ready_zero {r : Rq} (h : readyB S r = true) : r.state = 0 := by
  unfold readyB at h
  simp only [Bool.and_eq_true, beq_iff_eq] at h
  exact h.1.1
theorem ready_clear {r x : Rq} (h : readyB S r = true) (hx : x ∈ S.reqs) (hn : x.num < r.num) (hp : x.page = r.page) (hs : x.state = 0 ∨ x.inAir = true) : x.write = false ∧ r.write = false := by
  unfold readyB at h
  simp only [Bool.and_eq_true, Bool.not_eq_true', List.any_eq_false] at h
  have := h.2 x hx
  unfold blocksB at this
  simp only [Bool.and_eq_true, decide_eq_true_eq, beq_iff_eq, Bool.or_eq_true, not_and] at this
  have h2 := this hn
  by_cases hw : x.write = true ∨ r.write = true
  · exact absurd hs (h2 ⟨hp, hw⟩)
  · cases hx1 : x.write <;> cases hr1 : r.write <;> simp [hx1, hr1] at hw ⊢
theorem ready_pair {a b : Rq} (ha : a ∈ S.reqs) (hb : b ∈ S.reqs) (h1 : readyB S a = true) (h2 : readyB S b = true) (hp : a.page = b.page) (hne : a.num ≠ b.num) : a.write = false ∧ b.write = false := by
  rcases Int.lt_or_gt_of_ne hne with h | h
  · exact ready_clear h2 ha h hp (Or.inl (ready_zero h1))
  · have := ready_clear h1 hb h hp.symm (Or.inl (ready_zero h2))
    exact ⟨this.2, this.1⟩
theorem group_one (hs : S.reqs.Pairwise (fun a b => a.num < b.num)) (q : Int) : (groupM S q true).length ≤ 1 := by
  have hnd : (groupM S q true).Pairwise (· < ·) := by
    unfold groupM
    rw [List.pairwise_map]
    exact hs.filter _
  cases hl : groupM S q true with
  | nil => simp
  | cons a t =>
    cases t with
    | nil => simp
    | cons b t =>
      exfalso
      rw [hl, List.pairwise_cons] at hnd
      have hab := hnd.1 b (by simp)
      obtain ⟨x, hx, x1, x2, x3, x4, x5⟩ := mem_group.1 (show a ∈ groupM S q true by rw [hl]; simp)
      obtain ⟨y, hy, y1, y2, y3, y4, y5⟩ := mem_group.1 (show b ∈ groupM S q true by rw [hl]; simp)
      have := ready_pair hx hy x2 y2 (by rw [x3, y3]) (by omega)
      rw [x4] at this; cases this.1
structure GrownG (S : St) (p : Int) (w : Bool) (c : Int) (l : List Int) : Prop where
  c1 : 1 ≤ c ∧ c ≤ 4 ∧ p + c ≤ 16
  mem : ∀ n ∈ l, ∃ r ∈ S.reqs, r.num = n ∧ readyB S r = true ∧ r.write = w ∧ p ≤ r.page ∧ r.page < p + c
  full : ∀ q, p ≤ q → q < p + c → ∃ r ∈ S.reqs, r.num ∈ l ∧ r.page = q
  len : c ≤ l.length ∧ (w = true → (l.length : Int) = c)
theorem grow_all (hs : S.reqs.Pairwise (fun a b => a.num < b.num)) (p : Int) (w : Bool) : ∀ (n : Nat) (c : Int) (l : List Int), c + n = 4 → GrownG S p w c l → GrownG S p w (growM S p w n c l).1 (growM S p w n c l).2 := by
  intro n
  induction n with
  | zero => intro c l _ hg; exact hg
  | succ n ih =>
    intro c l hc hg
    unfold growM
    obtain ⟨g1, g2, g3⟩ := hg.c1
    split
    · split
      · exact hg
      · rename_i hlt hne
        have hpos := List.length_pos_iff.2 hne
        refine ih (c + 1) _ (by omega) ⟨by omega, fun m hm => ?_, fun q h1 h2 => ?_, ?_⟩
        · rcases List.mem_append.1 hm with e | e
          · obtain ⟨r, a1, a2, a3, a4, a5, a6⟩ := hg.mem m e
            exact ⟨r, a1, a2, a3, a4, a5, by omega⟩
          · obtain ⟨r, a1, a2, a3, a4, a5, a6⟩ := mem_group.1 e
            exact ⟨r, a1, a2, a3, a5, by omega, by omega⟩
        · by_cases e : q = p + c
          · obtain ⟨m, hm⟩ := List.exists_mem_of_ne_nil _ hne
            obtain ⟨r, a1, a2, a3, a4, a5, a6⟩ := mem_group.1 hm
            exact ⟨r, a1, by rw [a2]; exact List.mem_append.2 (Or.inr hm), by omega⟩
          · obtain ⟨r, a1, a2, a3⟩ := hg.full q h1 (by omega)
            exact ⟨r, a1, List.mem_append.2 (Or.inl a2), a3⟩
        · rw [List.length_append]
          refine ⟨by have := hg.len.1; omega, fun hw => ?_⟩
          have h1 := hg.len.2 hw
          subst hw
          have := group_one hs (p + c)
          omega
    · exact hg
theorem next_all (hw : Wf S) {c : Cmd} (hn : nextM S = some c) : GrownG S c.page c.write c.count c.requests ∧ 0 ≤ c.page ∧ c.page < 16 := by
  unfold nextM at hn
  split at hn
  · cases hn
  · cases hp : pageM S with
    | none => rw [hp] at hn; cases hn
    | some p =>
      rw [hp, Option.map_some, Option.some.injEq] at hn
      obtain ⟨j, _, hj, hpj, hs, _⟩ := pageGo_some hp
      have hh := hw.head
      have hp16 : 0 ≤ p ∧ p < 16 := by omega
      cases hf : firstM S p with
      | none => rw [hf] at hs; cases hs
      | some k =>
        obtain ⟨hk, k1, k2, _⟩ := firstM_some hf
        rw [hf] at hn
        simp only [Option.getD_some, getD_of hk] at hn
        unfold cmdAt at hn
        cases ha : (S.reqs[k]).alone with
        | true =>
          rw [ha, if_pos rfl] at hn
          subst hn
          refine ⟨⟨by simp only; omega, fun n hn => ?_, fun q h1 h2 => ⟨S.reqs[k], List.getElem_mem hk, by simp, by simp only at h1 h2; omega⟩, by simp⟩, hp16⟩
          rw [List.mem_singleton.1 hn]
          exact ⟨S.reqs[k], List.getElem_mem hk, rfl, k1, rfl, by simp only; omega, by simp only; omega⟩
        | false =>
          rw [ha, if_neg (by decide)] at hn
          subst hn
          have hmem : (S.reqs[k]).num ∈ groupM S p (S.reqs[k]).write := mem_group.2 ⟨_, List.getElem_mem hk, rfl, k1, k2, rfl, ha⟩
          refine ⟨grow_all hw.sorted p _ 3 1 _ (by omega) ⟨by omega, fun n hn => ?_, fun q h1 h2 => ⟨S.reqs[k], List.getElem_mem hk, hmem, by omega⟩, ?_⟩, hp16⟩
          · obtain ⟨r, a1, a2, a3, a4, a5, a6⟩ := mem_group.1 hn
            exact ⟨r, a1, a2, a3, a5, by omega, by omega⟩
          · have hpos := List.length_pos_of_mem hmem
            refine ⟨by omega, fun e => ?_⟩
            replace e : (S.reqs[k]).write = true := e
            rw [e] at hpos ⊢
            have := group_one hw.sorted p
            omega
theorem step_follows (hw : Wf S) : Follows S (stepM S).2 := by
  unfold stepM
  cases hn : nextM S with
  | none => exact .refl S
  | some c =>
    refine follows_mark _ _ _ (fun r hr hm => ?_)
    obtain ⟨x, hx, e, h1, _⟩ := (next_all hw hn).1.mem _ hm
    have := num_uniq hw.sorted hx hr e
    subst this
    exact ready_zero h1
/-! ### what is under way keeps apart -/
def Excl (S : St) : Prop := ∀ a ∈ S.reqs, ∀ b ∈ S.reqs, a.inAir = true → (b.inAir = true ∨ (b.state = 0 ∧ b.num < a.num)) → a.num ≠ b.num → a.page = b.page → a.write = false ∧ b.write = false
structure FlInv (S : St) : Prop where
  ok : ∀ c ∈ S.flights, 1 ≤ c.count ∧ c.count ≤ 4 ∧ 0 ≤ c.page ∧ c.page + c.count ≤ 16 ∧ c.count ≤ c.requests.length ∧ (c.write = true → (c.requests.length : Int) = c.count)
  full : ∀ c ∈ S.flights, ∀ q, c.page ≤ q → q < c.page + c.count → ∃ r ∈ S.reqs, r.num ∈ c.requests ∧ r.page = q
  apart : S.flights.Pairwise (fun a b => (a.write || b.write) = true → a.page + a.count ≤ b.page ∨ b.page + b.count ≤ a.page)
  ex : Excl S
theorem Excl.calms {S' : St} (h : Excl S) (k : Calms S S') : Excl S' := by
  intro a ha b hb h1 h2 h3 h4
  obtain ⟨x, hx, sx, ax, zx⟩ := k.back a ha
  obtain ⟨y, hy, sy, ay, zy⟩ := k.back b hb
  have := h x hx y hy (ax h1) (by
    rcases h2 with e | ⟨e, e'⟩
    · exact Or.inl (ay e)
    · rcases zy e with z | z
      · exact Or.inr ⟨z, by rw [← sx.num, ← sy.num]; exact e'⟩
      · exact Or.inl z) (by rw [← sx.num, ← sy.num]; exact h3) (by rw [← sx.page, ← sy.page]; exact h4)
  rw [sx.write, sy.write]; exact this
/-- fewer flights, nothing else under way -/
theorem FlInv.less {S' : St} (h : FlInv S) (hw : Wf S) (hw' : Wf S') (k : Calms S S') (hf : S'.flights.Sublist S.flights) : FlInv S' := by
  refine ⟨fun c hc => h.ok c (hf.subset hc), fun c hc q h1 h2 => ?_, h.apart.sublist hf, h.ex.calms k⟩
  obtain ⟨r, hr, hn, hp⟩ := h.full c (hf.subset hc) q h1 h2
  obtain ⟨r', hr', e⟩ := hw'.airIn r.num (by simp only [airs, List.append_nil, List.mem_flatMap]; exact ⟨c, hc, hn⟩)
  obtain ⟨x, hx, sx, _⟩ := k.back r' hr'
  have := num_uniq hw.sorted hx hr (by rw [← sx.num, e])
  subst this
  exact ⟨r', hr', by rw [e]; exact hn, by rw [sx.page]; exact hp⟩
theorem FlInv.step (h : FlInv S) (hw : Wf S) : FlInv (stepM S).2 := by
  unfold stepM
  cases hn : nextM S with
  | none => exact h
  | some c =>
    obtain ⟨g, g0, g16⟩ := next_all hw hn
    have hback : ∀ r' ∈ markM S.reqs c.requests, ∃ r ∈ S.reqs, SameRq r r' ∧ (r'.inAir = true → r.inAir = true ∨ (r.num ∈ c.requests)) ∧ (r'.state = 0 → r.state = 0 ∧ r.num ∉ c.requests) := fun r' hr' => by
      obtain ⟨r, hr, rfl⟩ := List.mem_map.1 hr'
      refine ⟨r, hr, ?_⟩
      by_cases hc : c.requests.contains r.num = true
      · rw [if_pos hc]; exact ⟨⟨rfl, rfl, rfl, rfl⟩, fun _ => Or.inr (by simpa using hc), fun e => (by cases e)⟩
      · rw [if_neg hc]; exact ⟨.refl r, Or.inl, fun e => ⟨e, by simpa using hc⟩⟩
    have hfwd : ∀ r ∈ S.reqs, ∃ r' ∈ markM S.reqs c.requests, SameRq r r' := fun r hr => by
      refine ⟨_, List.mem_map.2 ⟨r, hr, rfl⟩, ?_⟩
      split <;> exact ⟨rfl, rfl, rfl, rfl⟩
    have hrd : ∀ r ∈ S.reqs, r.num ∈ c.requests → readyB S r = true ∧ r.write = c.write := fun r hr hm => by
      obtain ⟨x, hx, e, h1, h2, _⟩ := g.mem _ hm
      have := num_uniq hw.sorted hx hr e
      subst this
      exact ⟨h1, h2⟩
    refine ⟨fun d hd => ?_, fun d hd q h1 h2 => ?_, ?_, ?_⟩
    · rcases List.mem_append.1 hd with e | e
      · exact h.ok d e
      · rw [List.mem_singleton.1 e]
        exact ⟨g.c1.1, g.c1.2.1, g0, g.c1.2.2, g.len⟩
    · have : ∃ r ∈ S.reqs, r.num ∈ d.requests ∧ r.page = q := by
        rcases List.mem_append.1 hd with e | e
        · exact h.full d e q h1 h2
        · rw [List.mem_singleton.1 e] at h1 h2 ⊢
          exact g.full q h1 h2
      obtain ⟨r, hr, e1, e2⟩ := this
      obtain ⟨r', hr', s⟩ := hfwd r hr
      exact ⟨r', hr', by rw [s.num]; exact e1, by rw [s.page]; exact e2⟩
    · show (S.flights ++ [c]).Pairwise _
      rw [List.pairwise_append]
      refine ⟨h.apart, by simp, fun a ha b hb hwr => ?_⟩
      rw [List.mem_singleton.1 hb] at hwr ⊢
      obtain ⟨o1, o2, o3, o4, o5, o6⟩ := h.ok a ha
      by_cases hd : a.page + a.count ≤ c.page ∨ c.page + c.count ≤ a.page
      · exact hd
      · exfalso
        have hc1 := g.c1
        obtain ⟨q, q1, q2, q3, q4⟩ : ∃ q, a.page ≤ q ∧ q < a.page + a.count ∧ c.page ≤ q ∧ q < c.page + c.count := by
          by_cases e : a.page ≤ c.page
          · exact ⟨c.page, by omega, by omega, by omega, by omega⟩
          · exact ⟨a.page, by omega, by omega, by omega, by omega⟩
        obtain ⟨x, hx, x1, x2⟩ := h.full a ha q q1 q2
        obtain ⟨y, hy, y1, y2⟩ := g.full q q3 q4
        have xa : x.inAir = true := (hw.rq x hx).air.2 (by simp only [airs, List.append_nil, List.mem_flatMap]; exact ⟨a, ha, x1⟩)
        have xw := (hw.fl a ha).wr x hx x1
        obtain ⟨yr, yw⟩ := hrd y hy y1
        have y0 := ready_zero yr
        have hne : x.num ≠ y.num := fun e => by
          have := num_uniq hw.sorted hx hy e
          subst this
          rcases (hw.rq x hx).air14 xa with e | e <;> omega
        have : x.write = false ∧ y.write = false := by
          rcases Int.lt_or_gt_of_ne hne with e | e
          · exact ready_clear yr hx e (by rw [x2, y2]) (Or.inr xa)
          · exact h.ex x hx y hy xa (Or.inr ⟨y0, e⟩) hne (by rw [x2, y2])
        rw [← xw, ← yw, this.1, this.2] at hwr
        cases hwr
    · intro a' ha' b' hb' h1 h2 h3 h4
      obtain ⟨a, ha, sa, aa, az⟩ := hback a' ha'
      obtain ⟨b, hb, sb, ba, bz⟩ := hback b' hb'
      rw [sa.write, sb.write]
      rw [sa.num, sb.num] at h3
      rw [sa.page, sb.page] at h4
      have hb2 : b.inAir = true ∨ b.num ∈ c.requests ∨ (b.state = 0 ∧ b.num < a.num) := by
        rcases h2 with e | ⟨e, e'⟩
        · rcases ba e with e | e
          · exact Or.inl e
          · exact Or.inr (Or.inl e)
        · rw [sa.num, sb.num] at e'
          exact Or.inr (Or.inr ⟨(bz e).1, e'⟩)
      rcases aa h1 with e | e
      · rcases hb2 with f | f | f
        · exact h.ex a ha b hb e (Or.inl f) h3 h4
        · obtain ⟨br, _⟩ := hrd b hb f
          rcases Int.lt_or_gt_of_ne h3 with g1 | g1
          · exact ready_clear br ha g1 h4 (Or.inr e)
          · exact h.ex a ha b hb e (Or.inr ⟨ready_zero br, g1⟩) h3 h4
        · exact h.ex a ha b hb e (Or.inr f) h3 h4
      · obtain ⟨ar, _⟩ := hrd a ha e
        rcases hb2 with f | f | f
        · rcases Int.lt_or_gt_of_ne h3 with g1 | g1
          · have := h.ex b hb a ha f (Or.inr ⟨ready_zero ar, g1⟩) (fun x => h3 x.symm) h4.symm
            exact ⟨this.2, this.1⟩
          · have := ready_clear ar hb g1 h4.symm (Or.inr f)
            exact ⟨this.2, this.1⟩
        · exact ready_pair ha hb ar (hrd b hb f).1 h4 h3
        · have := ready_clear ar hb f.2 h4.symm (Or.inl f.1)
          exact ⟨this.2, this.1⟩
theorem FlInv.complete (h : FlInv S) (hw : Wf S) (k : Int) (fault : Bool) : FlInv (completeM S k fault).2 := by
  refine h.less hw (Wf.complete hw k fault) (complete_all hw k fault).2 ?_
  unfold completeM
  split
  · exact List.Sublist.refl _
  · rw [(endM_same _ _ _).2.2.2.2]
    exact List.eraseIdx_sublist _ _
end
end Go.Proofs.YtiabdbeejkadnabGreatDoor

/- The keeps: what was asked stands in the queue. Own work of the verifier. -/
namespace Go.Proofs.YtiabdbeejkadnabGreatDoor

def HowOk (S : St) (k : KR) : Prop :=
  (k.how = 0 ∧ ∃ r ∈ S.reqs, r.num = k.num ∧ r.num ∉ S.told ∧ r.state ≠ 4) ∨ ((k.how = 1 ∨ k.how = 2) ∧ ∀ r ∈ S.reqs, r.num = k.num → r.num ∈ S.told) ∨ ((k.how = 3 ∨ k.how = 4) ∧ ∀ r ∈ S.reqs, r.num = k.num → r.num ∉ S.told → r.state = 4)
structure KInv (S : St) (rs : List KR) : Prop where
  wf : Wf S
  fi : FlInv S
  tr : ∀ r ∈ S.reqs, TrOk r
  last : S.last = rs.length
  num : ∀ i (h : i < rs.length), (rs[i]).num = i + 1
  src : ∀ r ∈ S.reqs, ∃ k ∈ rs, k.num = r.num ∧ k.write = r.write ∧ k.page = r.page ∧ k.data = r.data
  how : ∀ k ∈ rs, HowOk S k
section
variable {S S' : St} {rs : List KR}
theorem KInv.uniq (h : KInv S rs) {a b : KR} (ha : a ∈ rs) (hb : b ∈ rs) (e : a.num = b.num) : a = b := by
  obtain ⟨i, hi, rfl⟩ := List.getElem_of_mem ha
  obtain ⟨j, hj, rfl⟩ := List.getElem_of_mem hb
  rw [h.num, h.num] at e
  have : i = j := by omega
  subst this; rfl
theorem HowOk.follows {k : KR} (h : HowOk S k) (f : Follows S S') : HowOk S' k := by
  rcases h with ⟨h1, r, hr, e1, e2, e3⟩ | ⟨h1, h2⟩ | ⟨h1, h2⟩
  · obtain ⟨r', hr', n', s, e⟩ := f.fwd r hr e2
    exact Or.inl ⟨h1, r', hr', s.num.trans e1, n', fun x => e3 (e.1 x)⟩
  · refine Or.inr (Or.inl ⟨h1, fun r' hr' e => ?_⟩)
    obtain ⟨r, hr, s, _, t, _⟩ := f.back r' hr'
    by_cases hn : r'.num ∈ S'.told
    · exact hn
    · exact absurd (h2 r hr (by rw [← s.num]; exact e)) (t hn)
  · refine Or.inr (Or.inr ⟨h1, fun r' hr' e hn => ?_⟩)
    obtain ⟨r, hr, s, e4, t, _⟩ := f.back r' hr'
    exact e4.2 (h2 r hr (by rw [← s.num]; exact e) (t hn))
theorem KInv.follows (h : KInv S rs) (hw : Wf S') (hf : FlInv S') (f : Follows S S') : KInv S' rs := by
  refine ⟨hw, hf, fun r' hr' => ?_, f.last.trans h.last, h.num, fun r' hr' => ?_, fun k hk => (h.how k hk).follows f⟩
  · obtain ⟨r, hr, _, _, _, t⟩ := f.back r' hr'
    exact t (h.tr r hr)
  · obtain ⟨r, hr, s, _⟩ := f.back r' hr'
    obtain ⟨k, hk, e1, e2, e3, e4⟩ := h.src r hr
    exact ⟨k, hk, e1.trans s.num.symm, e2.trans s.write.symm, e3.trans s.page.symm, e4.trans s.data.symm⟩
theorem KInv.step (h : KInv S rs) : KInv (stepM S).2 rs := h.follows h.wf.step (h.fi.step h.wf) (step_follows h.wf)
theorem KInv.complete (h : KInv S rs) (k : Int) (fault : Bool) : KInv (completeM S k fault).2 rs := h.follows (Wf.complete h.wf k fault) (h.fi.complete h.wf k fault) (complete_all h.wf k fault).1
theorem KInv.tick (h : KInv S rs) : KInv { S with now := S.now + 1 } rs := h.follows (WfE.tick h.wf) (h.fi.less h.wf (WfE.tick h.wf) ⟨fun r hr => ⟨r, hr, .refl r, id, Or.inl⟩⟩ (List.Sublist.refl _)) ⟨rfl, fun r hr => ⟨r, hr, .refl r, Iff.rfl, id, id⟩, fun r hr hn => ⟨r, hr, hn, .refl r, Iff.rfl⟩⟩
theorem KInv.new (depth : Int) (hd : 1 ≤ depth ∧ depth ≤ 4) : KInv (St.new depth) [] := by
  have hr : ∀ r, r ∈ (St.new depth).reqs → False := fun r (hr : r ∈ []) => absurd hr (by simp)
  have hf : ∀ r, r ∈ (St.new depth).flights → False := fun r (hr : r ∈ []) => absurd hr (by simp)
  exact ⟨Wf.new depth hd, ⟨fun c hc => (hf c hc).elim, fun c hc => (hf c hc).elim, List.Pairwise.nil, fun a ha => (hr a ha).elim⟩, fun r h => (hr r h).elim, rfl, fun i h => absurd h (by simp), fun r h => (hr r h).elim, fun k h => absurd h (by simp)⟩
/-- a request more -/
theorem KInv.ask (h : KInv S rs) (write : Bool) (page : Int) (data : ByteArray) (hp : 0 ≤ page ∧ page < 16) (hd : write = true → data.size = 4) (hf : ¬ 40 ≤ (S.reqs.length : Int) - S.told.length) : KInv (askOk S write page data) (rs ++ [⟨rs.length + 1, write, page, data, 0, ⟨#[]⟩⟩]) := by
  have hl := h.last
  have hmem : ∀ r ∈ (askOk S write page data).reqs, r ∈ S.reqs ∨ r = ⟨S.last + 1, write, page, data, 0, 0, 0, false, false, ⟨#[]⟩⟩ := fun r hr => by
    rcases List.mem_append.1 hr with e | e
    · exact Or.inl e
    · exact Or.inr (List.mem_singleton.1 e)
  have hold : ∀ r ∈ S.reqs, r ∈ (askOk S write page data).reqs := fun r hr => List.mem_append.2 (Or.inl hr)
  have hw := h.wf.ask hf write page data hp hd
  have hkn : ∀ k ∈ rs, k.num ≤ rs.length := fun k hk => by
    obtain ⟨i, hi, rfl⟩ := List.getElem_of_mem hk
    rw [h.num]; omega
  refine ⟨hw, ⟨h.fi.ok, fun c hc q h1 h2 => ?_, h.fi.apart, fun a ha b hb h1 h2 h3 h4 => ?_⟩, fun r hr => ?_, ?_, fun i hi => ?_, fun r hr => ?_, fun k hk => ?_⟩
  · obtain ⟨r, hr, e⟩ := h.fi.full c hc q h1 h2
    exact ⟨r, hold r hr, e⟩
  · rcases hmem a ha with ea | ea
    · rcases hmem b hb with eb | eb
      · exact h.fi.ex a ea b eb h1 h2 h3 h4
      · subst eb
        have := (h.wf.rq a ea).num
        rcases h2 with e | ⟨_, e⟩
        · cases e
        · simp only at e; omega
    · subst ea; cases h1
  · rcases hmem r hr with e | e
    · exact h.tr r e
    · subst e; exact ⟨fun e => (by cases e), fun e => (by cases e)⟩
  · show S.last + 1 = _
    rw [hl]; simp
  · by_cases hlt : i < rs.length
    · rw [List.getElem_append_left hlt, h.num]
    · have : i = rs.length := by simp at hi; omega
      subst this
      rw [List.getElem_append_right (by omega)]; simp
  · rcases hmem r hr with e | e
    · obtain ⟨k, hk, x⟩ := h.src r e
      exact ⟨k, List.mem_append.2 (Or.inl hk), x⟩
    · subst e
      exact ⟨_, List.mem_append.2 (Or.inr (List.mem_singleton.2 rfl)), by simp [hl], rfl, rfl, rfl⟩
  · have hnt : S.last + 1 ∉ S.told := fun e => by
      obtain ⟨r, hr, hn⟩ := h.wf.toldIn _ e
      have := (h.wf.rq r hr).num
      omega
    rcases List.mem_append.1 hk with e | e
    · have hk1 := hkn k e
      rcases h.how k e with ⟨h1, r, hr, e1, e2, e3⟩ | ⟨h1, h2⟩ | ⟨h1, h2⟩
      · exact Or.inl ⟨h1, r, hold r hr, e1, e2, e3⟩
      · refine Or.inr (Or.inl ⟨h1, fun r hr e1 => ?_⟩)
        rcases hmem r hr with e | e
        · exact h2 r e e1
        · subst e; simp only at e1; omega
      · refine Or.inr (Or.inr ⟨h1, fun r hr e1 e2 => ?_⟩)
        rcases hmem r hr with e | e
        · exact h2 r e e1 e2
        · subst e; simp only at e1; omega
    · rw [List.mem_singleton.1 e]
      exact Or.inl ⟨rfl, _, List.mem_append.2 (Or.inr (List.mem_singleton.2 rfl)), by simp [hl], hnt, (by show (0 : Int) ≠ 4; decide)⟩
theorem live_place (hs : S.reqs.Pairwise (fun a b => a.num < b.num)) {r : Rq} (hr : r ∈ S.reqs) (hn : r.num ∉ S.told) : ∃ k, ∃ hk : k < S.reqs.length, placeM S r.num = k ∧ S.reqs[k] = r := by
  obtain ⟨k, hk, rfl⟩ := List.getElem_of_mem hr
  refine ⟨k, hk, ?_, rfl⟩
  unfold placeM
  rw [if_neg (by simpa [toldHas] using hn), findR_at hs hk]
  rfl
theorem none_place {n : Int} (h : ∀ r ∈ S.reqs, r.num = n → r.num ∈ S.told) : placeM S n = -1 := by
  unfold placeM
  by_cases ht : toldHas S.told n = true
  · rw [if_pos ht]
  · rw [if_neg ht, findR_none_of (fun r hr e => ht (by have := h r hr e; rw [e] at this; simpa [toldHas] using this))]
    rfl
/-- it is told: behind that -/
theorem drop_live (hw : Wf S) {k : Nat} (hk : k < S.reqs.length) : (dropM S k).last = S.last ∧ (dropM S k).flights = S.flights ∧ (∀ r ∈ (dropM S k).reqs, r ∈ S.reqs) ∧ (∀ r ∈ (dropM S k).reqs, r.num ∉ (dropM S k).told → r.num ∉ S.told ∧ r.num ≠ (S.reqs[k]).num) ∧ (∀ r ∈ S.reqs, r.num ∉ S.told → r.num ≠ (S.reqs[k]).num → r ∈ (dropM S k).reqs ∧ r.num ∉ (dropM S k).told) := by
  unfold dropM
  rw [getD_of hk]
  split
  · refine ⟨rfl, rfl, fun r hr => hr, fun r hr hn => ?_, fun r hr hn hne => ⟨hr, fun e => ?_⟩⟩
    · simp only [List.mem_append, List.mem_singleton, not_or] at hn
      exact hn
    · simp only [List.mem_append, List.mem_singleton] at e
      exact e.elim hn hne
  · refine ⟨rfl, rfl, fun r hr => ((mem_erase hw.sorted hk r).1 hr).1, fun r hr hn => ⟨hn, ((mem_erase hw.sorted hk r).1 hr).2⟩, fun r hr hn hne => ⟨(mem_erase hw.sorted hk r).2 ⟨hr, hne⟩, hn⟩⟩
theorem KInv.drop (h : KInv S rs) {k i : Nat} (hk : k < S.reqs.length) (hi : i < rs.length) (h2 : 2 ≤ (S.reqs[k]).state) (ht : (S.reqs[k]).num ∉ S.told) (hn : (S.reqs[k]).num = (rs[i]).num) (r' : KR) (hr : r'.num = (rs[i]).num ∧ r'.write = (rs[i]).write ∧ r'.page = (rs[i]).page ∧ r'.data = (rs[i]).data) (hh : r'.how = 1 ∨ r'.how = 2 ∨ ((r'.how = 3 ∨ r'.how = 4))) : KInv (dropM S k) (rs.set i r') := by
  obtain ⟨d1, d0, d2, d3, d4⟩ := drop_live h.wf hk
  have hw := h.wf.dropped hk h2 (by simpa [toldHas] using ht)
  have hset : ∀ x ∈ rs.set i r', x = r' ∨ (x ∈ rs ∧ x.num ≠ (rs[i]).num) := fun x hx => by
    obtain ⟨j, hj, rfl⟩ := List.getElem_of_mem hx
    rw [List.getElem_set]
    split
    · exact Or.inl rfl
    · rename_i hne
      simp only [List.length_set] at hj
      refine Or.inr ⟨List.getElem_mem _, ?_⟩
      rw [h.num, h.num]; omega
  refine ⟨hw, h.fi.less h.wf hw ⟨fun r hr => ⟨r, d2 r hr, .refl r, id, Or.inl⟩⟩ (by rw [d0]; exact List.Sublist.refl _), fun r hr => h.tr r (d2 r hr), by rw [d1, h.last]; simp, fun j hj => ?_, fun r hr' => ?_, fun x hx => ?_⟩
  · simp only [List.length_set] at hj
    rw [List.getElem_set]
    split
    · rename_i e; subst e; rw [hr.1, h.num]
    · rw [h.num]
  · obtain ⟨x, hx, e1, e2, e3, e4⟩ := h.src r (d2 r hr')
    by_cases e : x.num = (rs[i]).num
    · have := h.uniq hx (List.getElem_mem hi) e
      subst this
      exact ⟨r', List.mem_set hi _, hr.1.trans e1, hr.2.1.trans e2, hr.2.2.1.trans e3, hr.2.2.2.trans e4⟩
    · obtain ⟨j, hj, rfl⟩ := List.getElem_of_mem hx
      refine ⟨rs[j], ?_, e1, e2, e3, e4⟩
      rw [List.mem_iff_getElem]
      refine ⟨j, by simpa using hj, ?_⟩
      rw [List.getElem_set, if_neg (fun e' => e (by subst e'; rfl))]
  · rcases hset x hx with e | ⟨e, hne⟩
    · subst e
      have key : ∀ r ∈ (dropM S k).reqs, r.num = x.num → r.num ∈ (dropM S k).told := fun r hr' e1 => by
        by_cases hc : r.num ∈ (dropM S k).told
        · exact hc
        · exact absurd (e1.trans (hr.1.trans hn.symm)) (d3 r hr' hc).2
      rcases hh with e | e | e
      · exact Or.inr (Or.inl ⟨Or.inl e, key⟩)
      · exact Or.inr (Or.inl ⟨Or.inr e, key⟩)
      · exact Or.inr (Or.inr ⟨e, fun r hr' e1 e2 => absurd (key r hr' e1) e2⟩)
    · rcases h.how x e with ⟨h1, r, hr', e1, e2, e3⟩ | ⟨h1, h2'⟩ | ⟨h1, h2'⟩
      · obtain ⟨a, b⟩ := d4 r hr' e2 (by rw [e1, hn]; exact hne)
        exact Or.inl ⟨h1, r, a, e1, b, e3⟩
      · refine Or.inr (Or.inl ⟨h1, fun r hr' e1 => ?_⟩)
        by_cases hc : r.num ∈ (dropM S k).told
        · exact hc
        · exact absurd (h2' r (d2 r hr') e1) (d3 r hr' hc).1
      · exact Or.inr (Or.inr ⟨h1, fun r hr' e1 e2 => h2' r (d2 r hr') e1 (d3 r hr' e2).1⟩)
/-- a request is given up -/
theorem KInv.cancel (h : KInv S rs) {k i : Nat} (hk : k < S.reqs.length) (hi : i < rs.length) (h2 : (S.reqs[k]).state ≤ 1) (hn : (S.reqs[k]).num = (rs[i]).num) (r' : KR) (hr : r'.num = (rs[i]).num ∧ r'.write = (rs[i]).write ∧ r'.page = (rs[i]).page ∧ r'.data = (rs[i]).data) (hh : r'.how = 3 ∨ r'.how = 4) : KInv { S with reqs := setState S.reqs k 4 } (rs.set i r') := by
  have hw := h.wf.cancel hk h2
  rw [setState_eq _ _ _ hk] at hw ⊢
  have hset : ∀ x ∈ rs.set i r', x = r' ∨ (x ∈ rs ∧ x.num ≠ (rs[i]).num) := fun x hx => by
    obtain ⟨j, hj, rfl⟩ := List.getElem_of_mem hx
    rw [List.getElem_set]
    split
    · exact Or.inl rfl
    · rename_i hne
      simp only [List.length_set] at hj
      refine Or.inr ⟨List.getElem_mem _, ?_⟩
      rw [h.num, h.num]; omega
  have hb : ∀ r ∈ S.reqs.set k { S.reqs[k] with state := 4 }, r = { S.reqs[k] with state := 4 } ∨ (r ∈ S.reqs ∧ r.num ≠ (S.reqs[k]).num) := fun r hr => mem_setR h.wf.sorted hk _ r hr
  have hold : ∀ r ∈ S.reqs, r.num ≠ (S.reqs[k]).num → r ∈ S.reqs.set k { S.reqs[k] with state := 4 } := fun r hr hne => by
    obtain ⟨j, hj, rfl⟩ := List.getElem_of_mem hr
    rw [List.mem_iff_getElem]
    refine ⟨j, by simpa using hj, ?_⟩
    rw [List.getElem_set, if_neg (fun e' => hne (by subst e'; rfl))]
  refine ⟨hw, h.fi.less h.wf hw ⟨fun r hr => ?_⟩ (List.Sublist.refl _), fun r hr => ?_, by show S.last = _; rw [h.last]; simp, fun j hj => ?_, fun r hr' => ?_, fun x hx => ?_⟩
  · rcases hb r hr with e | ⟨e, _⟩
    · subst e
      exact ⟨S.reqs[k], List.getElem_mem hk, ⟨rfl, rfl, rfl, rfl⟩, id, fun e => (by cases e)⟩
    · exact ⟨r, e, .refl r, id, Or.inl⟩
  · rcases hb r hr with e | ⟨e, _⟩
    · subst e; exact ⟨fun e => (by cases e), fun e => (by cases e)⟩
    · exact h.tr r e
  · simp only [List.length_set] at hj
    rw [List.getElem_set]
    split
    · rename_i e; subst e; rw [hr.1, h.num]
    · rw [h.num]
  · have hx : ∃ y ∈ S.reqs, SameRq y r := by
      rcases hb r hr' with e | ⟨e, _⟩
      · subst e; exact ⟨S.reqs[k], List.getElem_mem hk, ⟨rfl, rfl, rfl, rfl⟩⟩
      · exact ⟨r, e, .refl r⟩
    obtain ⟨y, hy, s⟩ := hx
    obtain ⟨x, hx, e1, e2, e3, e4⟩ := h.src y hy
    by_cases e : x.num = (rs[i]).num
    · have := h.uniq hx (List.getElem_mem hi) e
      subst this
      exact ⟨r', List.mem_set hi _, hr.1.trans (e1.trans s.num.symm), hr.2.1.trans (e2.trans s.write.symm), hr.2.2.1.trans (e3.trans s.page.symm), hr.2.2.2.trans (e4.trans s.data.symm)⟩
    · obtain ⟨j, hj, rfl⟩ := List.getElem_of_mem hx
      refine ⟨rs[j], ?_, e1.trans s.num.symm, e2.trans s.write.symm, e3.trans s.page.symm, e4.trans s.data.symm⟩
      rw [List.mem_iff_getElem]
      refine ⟨j, by simpa using hj, ?_⟩
      rw [List.getElem_set, if_neg (fun e' => e (by subst e'; rfl))]
  · rcases hset x hx with e | ⟨e, hne⟩
    · subst e
      refine Or.inr (Or.inr ⟨hh, fun r hr' e1 _ => ?_⟩)
      rcases hb r hr' with e | ⟨_, e⟩
      · subst e; rfl
      · exact absurd (e1.trans (hr.1.trans hn.symm)) e
    · rcases h.how x e with ⟨h1, r, hr', e1, e2, e3⟩ | ⟨h1, h2'⟩ | ⟨h1, h2'⟩
      · exact Or.inl ⟨h1, r, hold r hr' (by rw [e1, hn]; exact hne), e1, e2, e3⟩
      · refine Or.inr (Or.inl ⟨h1, fun r hr' e1 => ?_⟩)
        rcases hb r hr' with e | ⟨e, _⟩
        · subst e; exact absurd (e1.symm.trans hn) hne
        · exact h2' r e e1
      · refine Or.inr (Or.inr ⟨h1, fun r hr' e1 e2 => ?_⟩)
        rcases hb r hr' with e | ⟨e, _⟩
        · subst e; rfl
        · exact h2' r e e1 e2
end
end Go.Proofs.YtiabdbeejkadnabGreatDoor
