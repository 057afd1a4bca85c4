/- The law: a queue on both sides; cancelled, polled, asked (Read). Own work of the verifier. -/
import Derived.Test.YtiabdbeejkadnaaGreatDoorRefI
import Derived.Test.YtiabdbeejkadnaaGreatDoorLawD
import Derived.Test.YtiabdbeejkadnaaGreatDoorPD
import Derived.Test.YtiabdbeejkadnaaGreatDoorPH
import Derived.Test.YtiabdbeejkadnaaGreatDoorPI
import Derived.Test.YtiabdbeejkadnaaGreatDoorPL
import Derived.Test.YtiabdbeejkadnaaGreatDoorPK
namespace Go.Proofs.YtiabdbeejkadnaaGreatDoor
open Go.RowKit Go.Maps

/-- A QUEUE ON BOTH SIDES holds the state S; F: all its blocks. -/
def PairAt (w : World) (F : Nat → Prop) (x m : Nat) (S : St) : Prop := ∃ Fx Fm, ProgAt w Fx x S ∧ RefAt w Fm m S ∧ (∀ k, Fx k → ¬ Fm k) ∧ ∀ k, F k ↔ (Fx k ∨ Fm k)
theorem PairAt.lt {w : World} {F : Nat → Prop} {x m : Nat} {S : St} (h : PairAt w F x m S) : ∀ k, F k → k < w.heap.size := by
  obtain ⟨Fx, Fm, hP, hM, hd, hF⟩ := h
  exact fun k hk => ((hF k).1 hk).elim (hP.lt k) (hM.lt k)
theorem PairAt.same {w w' : World} {F : Nat → Prop} {x m : Nat} {S : St} (h : PairAt w F x m S) (hs : ∀ k, F k → k < w.heap.size → w'.heap[k]? = w.heap[k]?) (hz : w.heap.size ≤ w'.heap.size) : PairAt w' F x m S := by
  obtain ⟨Fx, Fm, hP, hM, hd, hF⟩ := h
  exact ⟨Fx, Fm, hP.same (fun k hk hl => hs k ((hF k).2 (Or.inl hk)) hl) hz, hM.same (fun k hk hl => hs k ((hF k).2 (Or.inr hk)) hl) hz, hd, hF⟩
theorem PairAt.kept {w w' : World} {F G : Nat → Prop} {x m : Nat} {S : St} (h : PairAt w F x m S) (hk : Kept G w w') (hn : ∀ k, F k → ¬ G k) : PairAt w' F x m S :=
  h.same (fun k hFk hlt => hk.block k hlt (hn k hFk)) hk.size
theorem PairAt.below {w w' : World} {F : Nat → Prop} {x m : Nat} {S : St} (h : PairAt w F x m S) (hb : Below w.heap.size w w') : PairAt w' F x m S :=
  h.same (fun k _ hlt => hb.block k hlt) hb.size
theorem PairAt.wf {w : World} {F : Nat → Prop} {x m : Nat} {S : St} (h : PairAt w F x m S) : Wf S := by
  obtain ⟨Fx, Fm, hP, _⟩ := h
  exact hP.wf

section
variable {w w0 w1 w2 w3 w4 : World} {F Fx Fm : Nat → Prop} {x m : Nat} {S S' : St}
theorem ProgE.below {E : List Int} (h : ProgE w Fx x S E) (hb : Below w.heap.size w w0) : ProgE w0 Fx x S E := h.same (fun k _ hlt => hb.block k hlt) hb.size
theorem RefAt.below (h : RefAt w Fm m S) (hb : Below w.heap.size w w0) : RefAt w0 Fm m S := h.same (fun k _ hlt => hb.block k hlt) hb.size
/-- behind the program's call the reference's queue stands -/
theorem pair_mid (hM : RefAt w Fm m S) (hd : ∀ k, Fx k → ¬ Fm k) (hb0 : Below w.heap.size w w0) (hK1 : Kept Fx w0 w1) (hb1 : Below w1.heap.size w1 w2) : RefAt w2 Fm m S :=
  (((hM.below hb0).kept hK1 (fun k hk hx => hd k hx hk))).below hb1
/-- behind both calls -/
theorem pair_fin (hM : RefAt w Fm m S) (hPl : ∀ k, Fx k → k < w.heap.size) (hd : ∀ k, Fx k → ¬ Fm k) (hF : ∀ k, F k ↔ (Fx k ∨ Fm k)) (hb0 : Below w.heap.size w w0) (hP1 : ProgAt w1 (Foot Fx w0 w1) x S') (hK1 : Kept Fx w0 w1) (hb1 : Below w1.heap.size w1 w2)
    (hM2 : RefAt w3 (Foot Fm w2 w3) m S') (hK2 : Kept Fm w2 w3) (hb2 : Below w3.heap.size w3 w4) : PairAt w4 (Foot F w w4) x m S' ∧ Kept F w w4 := by
  have z0 := hb0.size
  have z1 := hK1.size
  have z2 := hb1.size
  have z3 := hK2.size
  have z4 := hb2.size
  have hMl := hM.lt
  refine ⟨⟨Foot Fx w w1, fun k => Foot Fm w w4 k ∧ ¬ Foot Fx w w1 k, ?_, ?_, fun k hk hn => hn.2 hk, fun k => ⟨fun hk => ?_, fun hk => ?_⟩⟩, ?_⟩
  · refine (((hP1.below hb1).kept hK2 ?_).below hb2).wid (fun k hk => ?_) (fun k hk => ?_)
    · rintro k (hk | hk) hn
      · exact hd k hk hn
      · have := hMl k hn; omega
    · exact hk.elim Or.inl (fun e => Or.inr ⟨by omega, e.2⟩)
    · rcases hk with hk | hk
      · have := hPl k hk; omega
      · omega
  · refine (hM2.below hb2).wid (fun k hk => ?_) (fun k hk => ?_)
    · rcases hk with hk | hk
      · exact ⟨Or.inl hk, fun e => e.elim (fun e => hd k e hk) (fun e => by have := hMl k hk; omega)⟩
      · exact ⟨Or.inr ⟨by omega, by omega⟩, fun e => e.elim (fun e => by have := hPl k e; omega) (fun e => by omega)⟩
    · rcases hk.1 with hk | hk
      · have := hMl k hk; omega
      · omega
  · by_cases hx : Foot Fx w w1 k
    · exact Or.inl hx
    · rcases hk with hk | hk
      · rcases (hF k).1 hk with h | h
        · exact absurd (Or.inl h) hx
        · exact Or.inr ⟨Or.inl h, hx⟩
      · exact Or.inr ⟨Or.inr hk, hx⟩
  · rcases hk with (hk | hk) | ⟨hk | hk, _⟩
    · exact Or.inl ((hF k).2 (Or.inl hk))
    · exact Or.inr ⟨hk.1, by omega⟩
    · exact Or.inl ((hF k).2 (Or.inr hk))
    · exact Or.inr hk
  · have k1 : Kept F w w1 := (Go.Proofs.YtiabdbeejkadnaaGreatDoor.Below.kept hb0 F).then (hK1.mono fun k _ hk => (hF k).2 (Or.inl hk))
    have k2 : Kept F w w3 := (k1.below hb1).then (hK2.mono fun k _ hk => (hF k).2 (Or.inr hk))
    exact k2.below hb2
end

/-- what a call on one queue does to it: true; the other blocks are kept -/
def Does (w : World) (F : Nat → Prop) (x m : Nat) (S : St) (e : Ending) (w' : World) : Prop :=
  e = .returned (.bool true) ∧ ∃ S', PairAt w' (Foot F w w') x m S' ∧ S'.last ≤ S.last + 1 ∧ S'.now = S.now ∧ Kept F w w'

theorem cancelM_last (S : St) (n : Int) : (cancelM S n).2.2.last = S.last ∧ (cancelM S n).2.2.now = S.now := by
  unfold cancelM
  split
  · exact ⟨rfl, rfl⟩
  · simp only []
    split <;> exact ⟨rfl, rfl⟩

theorem law_cancelled (S : St) (F : Nat → Prop) (x m : Nat) (num : Int) (w : World) (h : PairAt w F x m S) (hg : GCell w) (h0 : ¬ F 0) (hw : (Lit.int .i64 num).wf = true) (hl : S.last ≤ 1000000) :
    Calls Tryz.prog 44 #[.agg #[.pointer (some ⟨x, 0, none⟩), .pointer (some ⟨m, 0, none⟩)], .int .i64 num] w fun e w' => Does w F x m S e w' := by
  have hwf := h.wf
  obtain ⟨Fx, Fm, hP, hM, hd, hF⟩ := h
  have h0x : ¬ Fx 0 := fun e => h0 ((hF 0).2 (Or.inl e))
  have hPl := hP.lt
  have HM := hide hM
  have HD := hide hd
  have HF := hide hF
  have HG := hide hg
  have HPl := hide hPl
  have hnx : ¬ Fx w.heap.size := fun e => by have := hPl _ e; omega
  have hP0 := hide (hP.below (alloc_below w (.cells #[.pointer (some ⟨x, 0, none⟩), .pointer (some ⟨m, 0, none⟩)] 99)))
  clear hM hd hF hg hPl hP
  have hc : Hid (cancelErr S num = if (cancelM S num).1 = 9 then (9, num, (cancelM S num).2.1) else ((cancelM S num).1, -1, 0)) := rfl
  have hla := hide (cancelM_last S num)
  generalize hA : cancelM S num = r at *
  obtain ⟨k, t, S'⟩ := r
  have HA : Hid (cancelM S num = (k, t, S')) := hA
  clear hA
  generalize hA : cancelErr S num = r at *
  obtain ⟨e1, e2, e3⟩ := r
  have HE : Hid (cancelErr S num = (e1, e2, e3)) := hA
  clear hA
  go_enter Tryz.func44, Tryz.ntmps44
  go_wp2_with fail
  refine (plain_cancel S Fx x num _ hP0.out (HG.out.below (alloc_below _ _)) h0x hw).mono ?_
  rintro e w1 ⟨rfl, hP1, hK1⟩
  rw [HA.out] at hP1
  rw [HE.out]
  have HP1 := hide hP1
  have HK1 := hide hK1
  have hz1 : w.heap.size < w1.heap.size := by have := hK1.size; simp at this; omega
  have p1 : w1.cell? ⟨w.heap.size, 1, none⟩ = some (.pointer (some ⟨m, 0, none⟩)) := (hK1.cell (p := ⟨w.heap.size, 1, none⟩) (by simp) hnx).trans (by simp)
  clear hP1 hK1
  have hb1 := alloc_below w1 (.cells #[.int .i64 e1, .int .i64 e2, .int .i64 e3, .bool true] 57)
  have hM1 := hide (pair_mid HM.out HD.out (alloc_below _ _) HK1.out hb1)
  have hnm : ¬ Fm w1.heap.size := fun e => by have := HM.out.lt _ e; omega
  clear hb1
  go_wp2_with fail
  refine (ref_cancel S Fm m num _ hM1.out (by have := hwf.toldLen; have := hwf.reqsLen; omega) (by have := hwf.reqsLen; omega)).mono ?_
  rintro e w2 ⟨rfl, hM2, hK2⟩
  rw [HA.out] at hM2
  rw [HA.out]
  have HM2 := hide hM2
  have HK2 := hide hK2
  have hz2 : w1.heap.size < w2.heap.size := by have := hK2.size; simp at this; omega
  have q : w2.heap[w1.heap.size]? = some (.cells #[.int .i64 e1, .int .i64 e2, .int .i64 e3, .bool true] 57 (0, 0)) := (hK2.block _ (by simp) hnm).trans (heap_alloc_new w1 _)
  obtain ⟨⟨q0, q1, q2, q3⟩, _⟩ := cells4 q
  clear hM2 hK2 q
  have fin : Hid (∀ w3, Below w2.heap.size w2 w3 → Does w F x m S (.returned (.bool true)) w3) := fun w3 hb3 => by
    obtain ⟨r1, r2⟩ := pair_fin HM.out HPl.out HD.out HF.out (alloc_below _ _) HP1.out HK1.out (alloc_below w1 (.cells #[.int .i64 e1, .int .i64 e2, .int .i64 e3, .bool true] 57)) HM2.out HK2.out hb3
    exact ⟨rfl, S', r1, by have := hla.out.1; omega, hla.out.2, r2⟩
  have hce := hc.out
  by_cases hk : k = 9
  · subst hk
    simp only [if_true] at hce
    cases hce
    clear hc
    go_wp2_with fail
    refine (law_wrong 9 num t _).mono ?_
    rintro e w3 ⟨rfl, hb3⟩
    go_wp2
    go_ret
    exact fin.out _ hb3
  · have hk' : (k == 9) = false := beq_eq_false_iff_ne.2 hk
    simp only [hk, if_false] at hce
    cases hce
    clear hc hk
    go_wp2_with fail
    refine (law_none k _).mono ?_
    rintro e w3 ⟨rfl, hb3⟩
    go_wp2
    go_ret
    exact fin.out _ hb3
end Go.Proofs.YtiabdbeejkadnaaGreatDoor
