/- The law: step. Own work of the verifier. -/
import Derived.Test.YtiabdbeejkadnaaGreatDoorPairM
namespace Go.Proofs.YtiabdbeejkadnaaGreatDoor
open Go.RowKit Go.Maps

theorem encQ_at (qs : List (Nat × Nat)) (j : Nat) (h : j < qs.length) : (encQ qs)[j * 2]? = some (.pointer (some ⟨(qs[j]).1, 0, none⟩)) ∧ (encQ qs)[j * 2 + 1]? = some (.pointer (some ⟨(qs[j]).2, 0, none⟩)) := by
  unfold encQ
  induction qs generalizing j with
  | nil => simp at h
  | cons q l ih =>
    cases j with
    | zero => simp
    | succ j =>
      have := ih j (by simpa using h)
      have e1 : (j + 1) * 2 = j * 2 + 2 := by omega
      rw [e1]
      simpa using this

theorem Does.steps {w w' : World} {wb B N : Nat} {FW : Nat → Prop} {ps : List PQ} {bs is : List (Option Addr × Nat)} {j : Nat} {e : Ending} (h : AllAt w wb FW ps bs is B N) (hj : j < ps.length) (hd : Does w (ps[j]).F (ps[j]).x (ps[j]).m (ps[j]).S e w') : Steps w wb B N e w' := by
  obtain ⟨he, S', hP, hl, hn, hK⟩ := hd
  have := h.pairOp j hj hP hl (by have := h.st j hj; rw [hn]; omega) hK
  exact ⟨he, ⟨_, _, _, _, this.1⟩, this.2⟩
theorem Steps.after {w w0 w' : World} {wb B N : Nat} {e : Ending} (h : Steps w0 wb B N e w') (hb : Below B w w0) : Steps w wb B N e w' := ⟨h.1, h.2.1, hb.trans h.2.2⟩
theorem RefAt.tick {w : World} {F : Nat → Prop} {m : Nat} {S : St} (h : RefAt w F m S) (x : Int) : RefAt (w.setCell ⟨m, 4, none⟩ (.int .i64 x)) (Foot F w (w.setCell ⟨m, 4, none⟩ (.int .i64 x))) m { S with now := x } ∧ Kept F w (w.setCell ⟨m, 4, none⟩ (.int .i64 x)) := by
  obtain ⟨G, ar, cr, at_, ct, af, cf, ad, cd, h⟩ := h
  exact ⟨⟨G, ar, cr, at_, ct, af, cf, ad, cd, (h.setNow x).wid Foot.of (Foot.lt h.ltF (by simp [World.setCell]))⟩, (Kept.refl _ _).setCell (p := ⟨m, 4, none⟩) (Or.inl h.own) _⟩
theorem RefAt.nowF {w : World} {F : Nat → Prop} {m : Nat} {S : St} (h : RefAt w F m S) : w.frozen? ⟨m, 4, none⟩ = false := by
  obtain ⟨G, ar, cr, at_, ct, af, cf, ad, cd, h⟩ := h
  exact h.fz 4

theorem law_polled (wb B N : Nat) (FW : Nat → Prop) (ps : List PQ) (bs is : List (Option Addr × Nat)) (i : Nat) (num : Int) (w : World) (h : AllAt w wb FW ps bs is B N) (hi : i < ps.length) (hN : N ≤ 100000) (hw : (Lit.int .i64 num).wf = true) (h0F : ¬ (ps[i]).F 0) :
    Calls Tryz.prog 43 #[.pointer (some ⟨wb, 0, none⟩), .agg #[.pointer (some ⟨(ps[i]).x, 0, none⟩), .pointer (some ⟨(ps[i]).m, 0, none⟩)], .int .i64 num] w fun e w' => Steps w wb B N e w' := by
  by_cases hk0 : (pollM (ps[i]).S num).2.2.1 = 0
  · exact law_polled_ok wb B N FW ps bs is i num w h hi hN hw h0F hk0
  · refine (law_polled_no _ _ _ _ _ num w (h.pair i hi) h.g h0F hw (by have := h.st i hi; omega) hk0).mono ?_
    rintro e w1 hD
    exact Does.steps h hi hD
/-- a step of a kind that is played -/
structure OpOk (k a b : Int) (s : ByteArray) : Prop where
  k9 : k ≠ 9
  k10 : k ≠ 10
  k11 : k ≠ 11
  k12 : k ≠ 12
  k13 : k ≠ 13
  a : -9223372036854775808 ≤ a ∧ a ≤ 9223372036854775807
  b : (Lit.int .i64 b).wf = true
  s : s.size ≤ 1000000

set_option maxHeartbeats 1000000 in
set_option maxRecDepth 1000000 in
theorem law_step_new (wb B N : Nat) (a b c : Int) (s : ByteArray) (w : World) (h : Inv w wb B N) (hN : N ≤ 100000) :
    Calls Tryz.prog 21 #[.pointer (some ⟨wb, 0, none⟩), opV 1 a b c s] w fun e w' => Steps w wb B N e w' := by
  have HI := hide (h.below (alloc_below w (.cells #[.int .i64 1, .int .i64 a, .int .i64 b, .int .i64 c, .string s] 52)))
  clear h
  unfold opV
  go_enter Tryz.func21, Tryz.ntmps21
  go_wp2_with fail
  refine (law_opened wb B N 1 a b c s _ HI.out.1 hN).mono ?_
  rintro e w1 ⟨rfl, hI, hb⟩
  have HX := hide (And.intro hI (HI.out.2.trans hb))
  clear hI hb
  go_wp2
  go_ret
  exact ⟨rfl, HX.out.1, HX.out.2⟩

set_option maxHeartbeats 1000000 in
set_option maxRecDepth 1000000 in
theorem law_step_old (wb B N : Nat) (k a b c : Int) (s : ByteArray) (w : World) (h : Inv w wb B N) (hN : N ≤ 100000) (hk : k ≠ 1) (hO : OpOk k a b s) :
    Calls Tryz.prog 21 #[.pointer (some ⟨wb, 0, none⟩), opV k a b c s] w fun e w' => Steps w wb B N e w' := by
  obtain ⟨FW, ps, bs, is, hA0⟩ := h
  have hA := hA0.below (alloc_below w (.cells #[.int .i64 k, .int .i64 a, .int .i64 b, .int .i64 c, .string s] 52))
  have HB0 := hide ((alloc_below w (.cells #[.int .i64 k, .int .i64 a, .int .i64 b, .int .i64 c, .string s] 52)).mono hA0.low)
  have HA := hide hA
  have HA0 := hide hA0
  have HO := hide hO
  have b1 : (k == 1) = false := beq_eq_false_iff_ne.2 hk
  obtain ⟨R, L, aq, cq, ab, cb, ai, ci, hW, hFW⟩ := hA.wat
  have HW := hide hW
  have c0 := hW.c0
  rw [List.length_map] at c0
  have hwl : wb < w.heap.size := by
    obtain ⟨R, L, aq, cq, ab, cb, ai, ci, hW0, _⟩ := hA0.wat
    exact hW0.lt
  have c0' : w.cell? ⟨wb, 0, none⟩ = some (.slice aq ps.length cq) := by
    rw [← World.cell?_alloc_lt w (.cells #[.int .i64 k, .int .i64 a, .int .i64 b, .int .i64 c, .string s] 52) ⟨wb, 0, none⟩ hwl]
    exact c0
  clear hA hA0 hO hk hW hFW c0
  unfold opV
  by_cases hz : ps.length = 0
  · rw [hz] at c0'
    go_enter Tryz.func21, Tryz.ntmps21
    go_wp2
    go_ret
    exact ⟨rfl, Inv.more ⟨_, _, _, _, HA.out⟩ (by omega), HB0.out⟩
  · have hnb : ((ps.length : Int) == 0) = false := beq_eq_false_iff_ne.2 (by omega)
    obtain ⟨j, hj⟩ : ∃ j : Nat, pickM a (ps.length : Int) = (j : Int) := ⟨(pickM a (ps.length : Int)).toNat, by have := pickM_lt a (ps.length : Int) (by omega); omega⟩
    have hjl : j < ps.length := by have := pickM_lt a (ps.length : Int) (by omega); omega
    have HPick : Hid (∀ W, Calls Tryz.prog 41 #[.int .i64 a, .int .i64 (ps.length : Int)] W fun e w' => e = .returned (.int .i64 (j : Int)) ∧ w' = W) := fun W => by
      have := law_pick a (ps.length : Int) W HO.out.a (by omega) (by have := HA.out.lens; omega)
      rw [hj] at this
      exact this
    obtain ⟨g, cur, hg, _, hgb, _, _⟩ := Row.some HW.out.rq (by rw [List.length_map]; omega)
    subst hg
    obtain ⟨x, hx⟩ : ∃ x, x = (ps[j]).x := ⟨_, rfl⟩
    obtain ⟨m, hm⟩ : ∃ m, m = (ps[j]).m := ⟨_, rfl⟩
    have r0 : (w.alloc (.cells #[.int .i64 k, .int .i64 a, .int .i64 b, .int .i64 c, .string s] 52)).cell? ⟨g, j * 2, none⟩ = some (.pointer (some ⟨x, 0, none⟩)) := by
      rw [Row.cellAt HW.out.rq (j * 2) (by rw [List.length_map]; omega), (encQ_at _ j (by rw [List.length_map]; omega)).1, hx]; simp
    have r1 : (w.alloc (.cells #[.int .i64 k, .int .i64 a, .int .i64 b, .int .i64 c, .string s] 52)).cell? ⟨g, j * 2 + 1, none⟩ = some (.pointer (some ⟨m, 0, none⟩)) := by
      rw [Row.cellAt HW.out.rq (j * 2 + 1) (by rw [List.length_map]; omega), (encQ_at _ j (by rw [List.length_map]; omega)).2, hm]; simp
    have c0 : (w.alloc (.cells #[.int .i64 k, .int .i64 a, .int .i64 b, .int .i64 c, .string s] 52)).cell? ⟨wb, 0, none⟩ = some (.slice (some ⟨g, 0, none⟩) ps.length cq) := (World.cell?_alloc_lt _ _ ⟨wb, 0, none⟩ hwl).trans c0'
    obtain ⟨o0, o1, o2, o3, o4⟩ := cells5 (heap_alloc_new w (.cells #[.int .i64 k, .int .i64 a, .int .i64 b, .int .i64 c, .string s] 52))
    have hw0 : w.heap.size < (w.alloc (.cells #[.int .i64 k, .int .i64 a, .int .i64 b, .int .i64 c, .string s] 52)).heap.size := by simp
    have HX := hide hx
    have HM := hide hm
    have HJ := hide hj
    have hi1 : (0 : Int) ≤ (j : Int) := by omega
    have hi2 : (j : Int) < (ps.length : Int) := by omega
    have HJL := hide hjl
    clear hx hm hj hgb hz
    go_enter Tryz.func21, Tryz.ntmps21
    go_wp2
    clear c0' hwl
    generalize w.alloc (.cells #[.int .i64 k, .int .i64 a, .int .i64 b, .int .i64 c, .string s] 52) = w0 at *
    have ne0 := World.new_ne w0 _ c0
    have ne1 := World.new_ne w0 _ o1
    have ne2 := World.new_ne w0 _ r0
    have ne3 := World.new_ne w0 _ r1
    go_cut [5] from 8 (fun vp wx => ∃ pb, vp = .pointer (some ⟨pb, 0, none⟩) ∧ Hid (Below w0.heap.size w0 wx ∧ wx.heap[pb]? = some (.cells #[.pointer (some ⟨x, 0, none⟩), .pointer (some ⟨m, 0, none⟩)] 99 (0, 0)) ∧ w0.heap.size ≤ pb))
    case first =>
      go_region_held3 (fun W => W.cell? ⟨wb, 0, none⟩ = some (.slice (some ⟨g, 0, none⟩) ps.length cq) ∧ W.cell? ⟨w.heap.size, 1, none⟩ = some (.int .i64 a) ∧ W.cell? ⟨g, j * 2, none⟩ = some (.pointer (some ⟨x, 0, none⟩)) ∧ W.cell? ⟨g, j * 2 + 1, none⟩ = some (.pointer (some ⟨m, 0, none⟩))) (go_keep)
        (first | (go_at_call 41; refine (HPick.out _).mono ?_; rintro e w1 ⟨rfl, hw1⟩; have hw1 := hw1.symm; subst hw1))
      all_goals go_wp2_with fail
      all_goals go_meet
      all_goals exact ⟨_, rfl, (alloc_below _ _).drew, heap_alloc_new w0 _, Nat.le_refl _⟩
    case rest =>
      obtain ⟨pb, rfl, hmid⟩ := hcut
      have hx := HX.out
      have hm := HM.out
      subst hx hm
      clear HX HM HPick ne0 ne1 ne2 ne3 r0 r1 c0
      have HAc := hide (HA.out.below hmid.out.1)
      have HBc := hide (HB0.out.trans (hmid.out.1.mono HA.out.low))
      obtain ⟨p0, p1, _⟩ := cells2 hmid.out.2.1
      have q0 := (hmid.out.1.cell (p := ⟨w.heap.size, 0, none⟩) hw0).trans o0
      have q1 := (hmid.out.1.cell (p := ⟨w.heap.size, 1, none⟩) hw0).trans o1
      have q2 := (hmid.out.1.cell (p := ⟨w.heap.size, 2, none⟩) hw0).trans o2
      have q3 := (hmid.out.1.cell (p := ⟨w.heap.size, 3, none⟩) hw0).trans o3
      have q4 := (hmid.out.1.cell (p := ⟨w.heap.size, 4, none⟩) hw0).trans o4
      have hpl : pb < wc.heap.size := lt_of_heap hmid.out.2.1
      have HPL := hide hmid.out.2.2
      have hwc : w.heap.size < wc.heap.size := by have := hmid.out.1.size; omega
      clear o0 o1 o2 o3 o4 hmid hi1 hi2
      have hs1 := hide (HAc.out.st j HJL.out)
      have h0F : Hid (¬ (ps[j]).F 0) := fun e => by have := HAc.out.geP j HJL.out 0 e; have := HAc.out.pos; omega
      by_cases hk2 : k = 2
      · subst hk2
        go_wp2_with fail
        refine (law_asked_read _ _ _ _ a b c s wc (HAc.out.pair j HJL.out) HAc.out.g h0F.out (by have := hs1.out; omega)).mono ?_
        rintro e w1 hD
        have HD := hide ((Does.steps HAc.out HJL.out hD).after HBc.out)
        obtain ⟨rfl, _⟩ := hD
        go_wp2
        go_ret
        exact HD.out
      have b2 : (k == 2) = false := beq_eq_false_iff_ne.2 hk2
      by_cases hk3 : k = 3
      · subst hk3
        go_wp2_with fail
        refine (law_asked_write _ _ _ _ a b c s wc (HAc.out.pair j HJL.out) HAc.out.g h0F.out (by have := hs1.out; omega) HO.out.s).mono ?_
        rintro e w1 hD
        have HD := hide ((Does.steps HAc.out HJL.out hD).after HBc.out)
        obtain ⟨rfl, _⟩ := hD
        go_wp2
        go_ret
        exact HD.out
      have b3 : (k == 3) = false := beq_eq_false_iff_ne.2 hk3
      by_cases hk4 : k = 4
      · subst hk4
        go_wp2_with fail
        refine (law_polled wb B N FW ps bs is j b wc HAc.out HJL.out hN HO.out.b h0F.out).mono ?_
        rintro e w1 hD
        have HD := hide (hD.after HBc.out)
        obtain ⟨rfl, _⟩ := hD
        go_wp2
        go_ret
        exact HD.out
      have b4 : (k == 4) = false := beq_eq_false_iff_ne.2 hk4
      by_cases hk5 : k = 5
      · subst hk5
        go_wp2_with fail
        refine (law_cancelled _ _ _ _ b wc (HAc.out.pair j HJL.out) HAc.out.g h0F.out HO.out.b (by have := hs1.out; omega)).mono ?_
        rintro e w1 hD
        have HD := hide ((Does.steps HAc.out HJL.out hD).after HBc.out)
        obtain ⟨rfl, _⟩ := hD
        go_wp2
        go_ret
        exact HD.out
      have b5 : (k == 5) = false := beq_eq_false_iff_ne.2 hk5
      have b10 : (k == 10) = false := beq_eq_false_iff_ne.2 HO.out.k10
      have b11 : (k == 11) = false := beq_eq_false_iff_ne.2 HO.out.k11
      by_cases hk7 : k = 7
      · subst hk7
        obtain ⟨Fx, Fm, hP, hM, hd, hF⟩ := HAc.out.pair j HJL.out
        have HM := hide hM
        have HD := hide hd
        have HF := hide hF
        have HPl := hide hP.lt
        have hnx : ¬ Fx pb := fun e => by have := HA.out.geP; have := (HA.out.pair j HJL.out).lt pb ((HF.out pb).2 (Or.inl e)); have := HPL.out; omega
        have hlF : Hid (∀ k, (ps[j]).F k → k < w.heap.size) := (HA0.out.pair j HJL.out).lt
        have hnx2 : ¬ Fx w.heap.size := fun e => by have := hlF.out _ ((HF.out _).2 (Or.inl e)); omega
        have hmF : Fm (ps[j]).m := by obtain ⟨G, ar, cr, at_, ct, af, cf, ad, cd, h⟩ := hM; exact h.own
        have hml : (ps[j]).m < w.heap.size := hlF.out _ ((HF.out _).2 (Or.inr hmF))
        have hpw : w.heap.size < pb := by have := HPL.out; omega
        have nm1 : (ps[j]).m ≠ pb := by omega
        have nm2 : (ps[j]).m ≠ w.heap.size := by omega
        have nm3 : pb ≠ (ps[j]).m := by omega
        have nm4 : w.heap.size ≠ (ps[j]).m := by omega
        clear hd hF
        go_wp2_with fail
        refine (prog_tick _ Fx _ wc hP (by have := hs1.out; omega)).mono ?_
        rintro e w1 ⟨rfl, hP1, hK1⟩
        have HP1 := hide hP1
        have HK1 := hide hK1
        have t0 := (hK1.cell (p := ⟨pb, 0, none⟩) hpl hnx).trans p0
        have t1 := (hK1.cell (p := ⟨pb, 1, none⟩) hpl hnx).trans p1
        have s0 := (hK1.cell (p := ⟨w.heap.size, 0, none⟩) hwc hnx2).trans q0
        have s1 := (hK1.cell (p := ⟨w.heap.size, 1, none⟩) hwc hnx2).trans q1
        have s2 := (hK1.cell (p := ⟨w.heap.size, 2, none⟩) hwc hnx2).trans q2
        have s3 := (hK1.cell (p := ⟨w.heap.size, 3, none⟩) hwc hnx2).trans q3
        have s4 := (hK1.cell (p := ⟨w.heap.size, 4, none⟩) hwc hnx2).trans q4
        have HM1 := hide (pair_mid HM.out HD.out (Below.refl _ _) hK1 (Below.refl _ _))
        have n4 := HM1.out.now
        have f4 := HM1.out.nowF
        have hnow : -1000000 ≤ (ps[j]).S.now ∧ (ps[j]).S.now ≤ 1000000 := by have := hs1.out; omega
        have hz1 := hide hK1.size
        clear hP1 hK1 p0 p1 q0 q1 q2 q3 q4 hP hM
        have HM2 := hide (HM1.out.tick ((ps[j]).S.now + 1))
        have HPF := hide (pair_fin HM.out HPl.out HD.out HF.out (Below.refl _ _) HP1.out HK1.out (Below.refl _ _) HM2.out.1 HM2.out.2 (Below.refl _ _))
        have HNX := hide (HAc.out.pairOp j HJL.out HPF.out.1 (by show (ps[j]).S.last ≤ _; omega) (by have := hs1.out; show 0 ≤ (ps[j]).S.now + 1 ∧ (ps[j]).S.now + 1 ≤ _; omega) HPF.out.2)
        go_wp2_with fail
        refine (law_told_none wb B (N + 1) _ _ 7 a b c s _ ⟨_, _, _, _, HNX.out.1⟩ (by omega) (by omega) (by omega) (by omega) (by omega)).mono ?_
        rintro e w2 ⟨rfl, hI2, hb2⟩
        have HR : Hid (Steps w wb B N (.returned (.bool true)) w2) := ⟨rfl, hI2, HBc.out.trans (HNX.out.2.trans hb2)⟩
        clear hI2 hb2
        go_wp2
        go_ret
        exact HR.out
      · have b7 : (k == 7) = false := beq_eq_false_iff_ne.2 hk7
        go_wp2_with fail
        refine (law_told wb B N FW ps bs is j k a b c s wc HAc.out HJL.out hN HO.out.k9 HO.out.k12 HO.out.k13).mono ?_
        rintro e w1 hD
        have HD := hide (hD.after HBc.out)
        obtain ⟨rfl, _⟩ := hD
        go_wp2
        go_ret
        exact HD.out

theorem law_step (wb B N : Nat) (k a b c : Int) (s : ByteArray) (w : World) (h : Inv w wb B N) (hN : N ≤ 100000) (hO : OpOk k a b s) :
    Calls Tryz.prog 21 #[.pointer (some ⟨wb, 0, none⟩), opV k a b c s] w fun e w' => Steps w wb B N e w' := by
  by_cases hk : k = 1
  · subst hk; exact law_step_new wb B N a b c s w h hN
  · exact law_step_old wb B N k a b c s w h hN hk hO
end Go.Proofs.YtiabdbeejkadnaaGreatDoor
