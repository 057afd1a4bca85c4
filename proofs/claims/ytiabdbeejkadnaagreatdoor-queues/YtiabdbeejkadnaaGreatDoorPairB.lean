/- The law: polled, where there is no answer. Own work of the verifier. -/
import Derived.Test.YtiabdbeejkadnaaGreatDoorPairA
namespace Go.Proofs.YtiabdbeejkadnaaGreatDoor
open Go.RowKit Go.Maps

theorem nil_eql (w : World) : (binOp .eql 86 (.slice none 0 0) (.slice none 0 0)).run Tryz.prog w = .ok (.bool true) w := by kernel_rfl

set_option maxHeartbeats 1000000 in
set_option maxRecDepth 1000000 in
theorem law_polled_no (S : St) (F : Nat → Prop) (x m : Nat) (wv : Value) (num : Int) (w : World) (h : PairAt w F x m S) (hg : GCell w) (h0 : ¬ F 0) (hw : (Lit.int .i64 num).wf = true) (hl : S.last ≤ 1000000) (hk0 : (pollM S num).2.2.1 ≠ 0) :
    Calls Tryz.prog 43 #[wv, .agg #[.pointer (some ⟨x, 0, none⟩), .pointer (some ⟨m, 0, none⟩)], .int .i64 num] w fun e w' => Does w F x m S e w' := by
  have hwf := h.wf
  obtain ⟨Fx, Fm, hP, hM, hd, hF⟩ := h
  have h0x : ¬ Fx 0 := fun e => h0 ((hF 0).2 (Or.inl e))
  have hPl := hP.lt
  have HM := hide hM
  have HD := hide hd
  have HF := hide hF
  have HG := hide hg
  have HPl := hide hPl
  have hnx : ¬ Fx w.heap.size := fun e => by have := hPl _ e; omega
  have hP0 := hide (hP.below (alloc_below w (.cells #[.pointer (some ⟨x, 0, none⟩), .pointer (some ⟨m, 0, none⟩)] 99)))
  clear hM hd hF hg hPl hP
  have hc : Hid (plainErr S num = if (pollM S num).2.2.1 = 5 then (5, -1, 0) else ((pollM S num).2.2.1, num, (pollM S num).2.1)) := by unfold plainErr; rw [Hid, if_neg hk0]; rfl
  have hla := hide (And.intro hk0 (pollM_same S num))
  clear hk0
  generalize hA : pollM S num = r at *
  obtain ⟨s, t, k, S'⟩ := r
  have HA : Hid (pollM S num = (s, t, k, S')) := hA
  clear hA
  generalize hA : plainErr S num = r at *
  obtain ⟨e1, e2, e3⟩ := r
  have HE : Hid (plainErr S num = (e1, e2, e3)) := hA
  clear hA
  go_enter Tryz.func43, Tryz.ntmps43
  go_wp2_with fail
  refine (plain_poll S Fx x num _ hP0.out (HG.out.below (alloc_below _ _)) h0x hw).mono ?_
  rintro e w1 ⟨ao, n, cap, t', rfl, hans, hP1, hK1⟩
  rw [HA.out] at hP1 hans
  rw [HE.out]
  rcases hans with ⟨_, rfl, rfl, rfl, rfl⟩ | ⟨hz, _⟩
  rotate_left
  · exact absurd hz hla.out.1
  have HP1 := hide (hP1.wid (fun k hk => Foot.of (w := w.alloc (.cells #[.pointer (some ⟨x, 0, none⟩), .pointer (some ⟨m, 0, none⟩)] 99)) (w' := w1) k hk) (Foot.lt (fun k hk => by have := HPl.out k hk; simp; omega) hK1.size))
  have HK1 := hide hK1
  have hz1 : w.heap.size < w1.heap.size := by have := hK1.size; simp at this; omega
  have p1 : w1.cell? ⟨w.heap.size, 1, none⟩ = some (.pointer (some ⟨m, 0, none⟩)) := (hK1.cell (p := ⟨w.heap.size, 1, none⟩) (by simp) hnx).trans (by simp)
  clear hP1 hK1
  obtain ⟨wa, hwa⟩ : ∃ wa, wa = (w1.alloc (.cells #[.slice none 0 0, .int .i64 0] 88)).alloc (.cells #[.int .i64 e1, .int .i64 e2, .int .i64 e3, .bool true] 57) := ⟨_, rfl⟩
  have HWA := hide hwa
  have hb1 : Below w1.heap.size w1 wa := by rw [hwa]; exact (alloc_below _ _).trans ((alloc_below _ _).mono (by simp))
  have HB1 := hide hb1
  have hM1 := hide (pair_mid HM.out HD.out (alloc_below _ _) HK1.out hb1)
  have hma : wa.heap.size = w1.heap.size + 2 := by rw [hwa]; simp
  have hnm : ¬ Fm w1.heap.size := fun e => by have := HM.out.lt _ e; omega
  have hnm2 : ¬ Fm (w1.heap.size + 1) := fun e => by have := HM.out.lt _ e; omega
  have ha1 : Hid (wa.heap[w1.heap.size]? = some (.cells #[.slice none 0 0, .int .i64 0] 88 (0, 0))) := by rw [hwa]; exact (Below.heap_alloc _ _ _ (by simp)).trans (heap_alloc_new w1 _)
  have ha2 : Hid (wa.heap[w1.heap.size + 1]? = some (.cells #[.int .i64 e1, .int .i64 e2, .int .i64 e3, .bool true] 57 (0, 0))) := by
    rw [hwa]
    have := heap_alloc_new (w1.alloc (.cells #[.slice none 0 0, .int .i64 0] 88)) (.cells #[.int .i64 e1, .int .i64 e2, .int .i64 e3, .bool true] 57)
    simp only [World.size_alloc] at this
    exact this
  clear hb1 hwa
  go_wp2_with fail
  rw [← HWA.out]
  refine (ref_poll_g S Fm m num _ hM1.out (by have := hwf.toldLen; have := hwf.reqsLen; omega) (by have := hwf.reqsLen; omega) (fun r hr => (hwf.rq r hr).st)).mono ?_
  rintro e w2 ⟨rfl, hM2, hK2⟩
  rw [HA.out] at hM2
  rw [HA.out]
  have HM2 := hide hM2
  have HK2 := hide hK2
  have hz2 : w1.heap.size + 1 < w2.heap.size := by have := hK2.size; omega
  have qa : w2.heap[w1.heap.size]? = some (.cells #[.slice none 0 0, .int .i64 0] 88 (0, 0)) := (hK2.block _ (by omega) hnm).trans ha1.out
  have q : w2.heap[w1.heap.size + 1]? = some (.cells #[.int .i64 e1, .int .i64 e2, .int .i64 e3, .bool true] 57 (0, 0)) := (hK2.block _ (by omega) hnm2).trans ha2.out
  obtain ⟨⟨q0, q1, q2, q3⟩, _⟩ := cells4 q
  obtain ⟨qa0, qa1, _⟩ := cells2 qa
  clear hM2 hK2 q qa
  have fin : Hid (∀ w3, Below w2.heap.size w2 w3 → Does w F x m S (.returned (.bool true)) w3) := fun w3 hb3 => by
    obtain ⟨r1, r2⟩ := pair_fin HM.out HPl.out HD.out HF.out (alloc_below _ _) HP1.out HK1.out HB1.out HM2.out HK2.out hb3
    exact ⟨rfl, S', r1, by have := hla.out.2.1; omega, hla.out.2.2, r2⟩
  have hce := hc.out
  by_cases hk : k = 5
  · subst hk
    simp only [if_true] at hce
    cases hce
    clear hc
    go_wp2_with fail
    refine (law_none 5 _).mono ?_
    rintro e w3 ⟨rfl, hb3⟩
    have r0 := (hb3.cell (p := ⟨w1.heap.size, 0, none⟩) (by show w1.heap.size < _; omega)).trans qa0
    have r1 := (hb3.cell (p := ⟨w1.heap.size, 1, none⟩) (by show w1.heap.size < _; omega)).trans qa1
    have HB3 := hide hb3
    clear hb3
    have hsn := nil_eql w3
    go_wp2
    go_ret
    exact fin.out _ HB3.out
  · have hk' : (k == 5) = false := beq_eq_false_iff_ne.2 hk
    have hk0 : (k != 0) = true := by have := hla.out.1; simpa using this
    simp only [hk, if_false] at hce
    cases hce
    clear hc hk
    go_wp2_with fail
    refine (law_wrong k num t _).mono ?_
    rintro e w3 ⟨rfl, hb3⟩
    have r0 := (hb3.cell (p := ⟨w1.heap.size, 0, none⟩) (by show w1.heap.size < _; omega)).trans qa0
    have r1 := (hb3.cell (p := ⟨w1.heap.size, 1, none⟩) (by show w1.heap.size < _; omega)).trans qa1
    have HB3 := hide hb3
    clear hb3
    have hsn := nil_eql w3
    go_wp2
    go_ret
    exact fin.out _ HB3.out
end Go.Proofs.YtiabdbeejkadnaaGreatDoor
