import Derived.Test.YtiabdbeejkadnaaGreatDoorJb5280ac993
import Derived.Test.YtiabdbeejkadnaaGreatDoorJ625f4259f7
import Derived.Test.YtiabdbeejkadnaaGreatDoorJc95d3b618c
import Derived.Test.YtiabdbeejkadnaaGreatDoorJ6f47aa9e97
import Derived.Test.YtiabdbeejkadnaaGreatDoorJea7c02b8cc
import Derived.Test.YtiabdbeejkadnaaGreatDoorCards
import Derived.Test.YtiabdbeejkadnaaGreatDoorTie
import Derived.ProofKit
import Derived.OpenShut
import Derived.Carry
import Derived.Deep.DeepHandedRow
import Derived.LaidLaws
import Derived.LaidHandle
import Derived.Stop.Joined
import Derived.SevenTiedAt
/- The law: step, with commands and their ends. Own work of the verifier. -/
namespace Go.Proofs.YtiabdbeejkadnaaGreatDoor
open Go.RowKit Go.Maps

/-- a step of a kind that is played -/
structure OpOkA (k a b : Int) (s : ByteArray) : Prop where
  k12 : k ≠ 12
  a : -9223372036854775808 ≤ a ∧ a ≤ 9223372036854775807
  b : (Lit.int .i64 b).wf = true
  s : s.size ≤ 1000000

set_option maxHeartbeats 4000000 in
set_option maxRecDepth 1000000 in
theorem law_stepA_old (wb B N : Nat) (k a b c : Int) (s : ByteArray) (w : World) (h : Inv w wb B N) (hN : N ≤ 100000) (hk : k ≠ 1) (hO : OpOkA k a b s) :
    Calls Tryz.prog 21 #[.pointer (some ⟨wb, 0, none⟩), opV k a b c s] w fun e w' => Steps w wb B N e w' := by
  obtain ⟨FW, ps, bs, is, hA0⟩ := h
  have hA := hA0.below (alloc_below w (.cells #[.int .i64 k, .int .i64 a, .int .i64 b, .int .i64 c, .string s] 52))
  have HB0 := hide ((alloc_below w (.cells #[.int .i64 k, .int .i64 a, .int .i64 b, .int .i64 c, .string s] 52)).mono hA0.low)
  have HA := hide hA
  have HA0 := hide hA0
  have HO := hide hO
  have b1 : (k == 1) = false := beq_eq_false_iff_ne.2 hk
  obtain ⟨R, L, aq, cq, ab, cb, ai, ci, hW, hFW⟩ := hA.wat
  have HW := hide hW
  have c0 := hW.c0
  rw [List.length_map] at c0
  have hwl : wb < w.heap.size := by
    obtain ⟨R, L, aq, cq, ab, cb, ai, ci, hW0, _⟩ := hA0.wat
    exact hW0.lt
  have c0' : w.cell? ⟨wb, 0, none⟩ = some (.slice aq ps.length cq) := by
    rw [← World.cell?_alloc_lt w (.cells #[.int .i64 k, .int .i64 a, .int .i64 b, .int .i64 c, .string s] 52) ⟨wb, 0, none⟩ hwl]
    exact c0
  clear hA hA0 hO hk hW hFW c0
  unfold opV
  by_cases hz : ps.length = 0
  · rw [hz] at c0'
    go_enter Tryz.func21, Tryz.ntmps21
    go_wp2
    go_ret
    exact ⟨rfl, Inv.more ⟨_, _, _, _, HA.out⟩ (by omega), HB0.out⟩
  · have hnb : ((ps.length : Int) == 0) = false := beq_eq_false_iff_ne.2 (by omega)
    obtain ⟨j, hj⟩ : ∃ j : Nat, pickM a (ps.length : Int) = (j : Int) := ⟨(pickM a (ps.length : Int)).toNat, by have := pickM_lt a (ps.length : Int) (by omega); omega⟩
    have hjl : j < ps.length := by have := pickM_lt a (ps.length : Int) (by omega); omega
    have HPick : Hid (∀ W, Calls Tryz.prog 41 #[.int .i64 a, .int .i64 (ps.length : Int)] W fun e w' => e = .returned (.int .i64 (j : Int)) ∧ w' = W) := fun W => by
      have := law_pick a (ps.length : Int) W HO.out.a (by omega) (by have := HA.out.lens; omega)
      rw [hj] at this
      exact this
    obtain ⟨g, cur, hg, _, hgb, _, _⟩ := Row.some HW.out.rq (by rw [List.length_map]; omega)
    subst hg
    obtain ⟨x, hx⟩ : ∃ x, x = (ps[j]).x := ⟨_, rfl⟩
    obtain ⟨m, hm⟩ : ∃ m, m = (ps[j]).m := ⟨_, rfl⟩
    have r0 : (w.alloc (.cells #[.int .i64 k, .int .i64 a, .int .i64 b, .int .i64 c, .string s] 52)).cell? ⟨g, j * 2, none⟩ = some (.pointer (some ⟨x, 0, none⟩)) := by
      rw [Row.cellAt HW.out.rq (j * 2) (by rw [List.length_map]; omega), (encQ_at _ j (by rw [List.length_map]; omega)).1, hx]; simp
    have r1 : (w.alloc (.cells #[.int .i64 k, .int .i64 a, .int .i64 b, .int .i64 c, .string s] 52)).cell? ⟨g, j * 2 + 1, none⟩ = some (.pointer (some ⟨m, 0, none⟩)) := by
      rw [Row.cellAt HW.out.rq (j * 2 + 1) (by rw [List.length_map]; omega), (encQ_at _ j (by rw [List.length_map]; omega)).2, hm]; simp
    have c0 : (w.alloc (.cells #[.int .i64 k, .int .i64 a, .int .i64 b, .int .i64 c, .string s] 52)).cell? ⟨wb, 0, none⟩ = some (.slice (some ⟨g, 0, none⟩) ps.length cq) := (World.cell?_alloc_lt _ _ ⟨wb, 0, none⟩ hwl).trans c0'
    obtain ⟨o0, o1, o2, o3, o4⟩ := cells5 (heap_alloc_new w (.cells #[.int .i64 k, .int .i64 a, .int .i64 b, .int .i64 c, .string s] 52))
    have hw0 : w.heap.size < (w.alloc (.cells #[.int .i64 k, .int .i64 a, .int .i64 b, .int .i64 c, .string s] 52)).heap.size := by simp
    have HX := hide hx
    have HM := hide hm
    have HJ := hide hj
    have hi1 : (0 : Int) ≤ (j : Int) := by omega
    have hi2 : (j : Int) < (ps.length : Int) := by omega
    have HJL := hide hjl
    clear hx hm hj hgb hz
    go_enter Tryz.func21, Tryz.ntmps21
    go_wp2
    clear c0' hwl
    generalize w.alloc (.cells #[.int .i64 k, .int .i64 a, .int .i64 b, .int .i64 c, .string s] 52) = w0 at *
    have ne0 := World.new_ne w0 _ c0
    have ne1 := World.new_ne w0 _ o1
    have ne2 := World.new_ne w0 _ r0
    have ne3 := World.new_ne w0 _ r1
    go_cut [5] from 8 (fun vp wx => ∃ pb, vp = .pointer (some ⟨pb, 0, none⟩) ∧ Hid (Below w0.heap.size w0 wx ∧ wx.heap[pb]? = some (.cells #[.pointer (some ⟨x, 0, none⟩), .pointer (some ⟨m, 0, none⟩)] 99 (0, 0)) ∧ w0.heap.size ≤ pb))
    case first =>
      go_region_held3 (fun W => W.cell? ⟨wb, 0, none⟩ = some (.slice (some ⟨g, 0, none⟩) ps.length cq) ∧ W.cell? ⟨w.heap.size, 1, none⟩ = some (.int .i64 a) ∧ W.cell? ⟨g, j * 2, none⟩ = some (.pointer (some ⟨x, 0, none⟩)) ∧ W.cell? ⟨g, j * 2 + 1, none⟩ = some (.pointer (some ⟨m, 0, none⟩))) (go_keep)
        (first | (go_at_call 41; refine (HPick.out _).mono ?_; rintro e w1 ⟨rfl, hw1⟩; have hw1 := hw1.symm; subst hw1))
      all_goals go_wp2_with fail
      all_goals go_meet
      all_goals exact ⟨_, rfl, (alloc_below _ _).drew, heap_alloc_new w0 _, Nat.le_refl _⟩
    case rest =>
      obtain ⟨pb, rfl, hmid⟩ := hcut
      have hx := HX.out
      have hm := HM.out
      subst hx hm
      clear HX HM HPick ne0 ne1 ne2 ne3 r0 r1 c0
      have HAc := hide (HA.out.below hmid.out.1)
      have HBc := hide (HB0.out.trans (hmid.out.1.mono HA.out.low))
      obtain ⟨p0, p1, _⟩ := cells2 hmid.out.2.1
      have q0 := (hmid.out.1.cell (p := ⟨w.heap.size, 0, none⟩) hw0).trans o0
      have q1 := (hmid.out.1.cell (p := ⟨w.heap.size, 1, none⟩) hw0).trans o1
      have q2 := (hmid.out.1.cell (p := ⟨w.heap.size, 2, none⟩) hw0).trans o2
      have q3 := (hmid.out.1.cell (p := ⟨w.heap.size, 3, none⟩) hw0).trans o3
      have q4 := (hmid.out.1.cell (p := ⟨w.heap.size, 4, none⟩) hw0).trans o4
      have hpl : pb < wc.heap.size := lt_of_heap hmid.out.2.1
      have HPL := hide hmid.out.2.2
      have hwc : w.heap.size < wc.heap.size := by have := hmid.out.1.size; omega
      clear o0 o1 o2 o3 o4 hmid hi1 hi2
      have hs1 := hide (HAc.out.st j HJL.out)
      have h0F : Hid (¬ (ps[j]).F 0) := fun e => by have := HAc.out.geP j HJL.out 0 e; have := HAc.out.pos; omega
      by_cases hk2 : k = 2
      · subst hk2
        go_wp2_with fail
        refine (law_asked_read _ _ _ _ a b c s wc (HAc.out.pair j HJL.out) HAc.out.g h0F.out (by have := hs1.out; omega)).mono ?_
        rintro e w1 hD
        have HD := hide ((Does.steps HAc.out HJL.out hD).after HBc.out)
        obtain ⟨rfl, _⟩ := hD
        go_wp2
        go_ret
        exact HD.out
      have b2 : (k == 2) = false := beq_eq_false_iff_ne.2 hk2
      by_cases hk3 : k = 3
      · subst hk3
        go_wp2_with fail
        refine (law_asked_write _ _ _ _ a b c s wc (HAc.out.pair j HJL.out) HAc.out.g h0F.out (by have := hs1.out; omega) HO.out.s).mono ?_
        rintro e w1 hD
        have HD := hide ((Does.steps HAc.out HJL.out hD).after HBc.out)
        obtain ⟨rfl, _⟩ := hD
        go_wp2
        go_ret
        exact HD.out
      have b3 : (k == 3) = false := beq_eq_false_iff_ne.2 hk3
      by_cases hk4 : k = 4
      · subst hk4
        go_wp2_with fail
        refine (law_polled wb B N FW ps bs is j b wc HAc.out HJL.out hN HO.out.b h0F.out).mono ?_
        rintro e w1 hD
        have HD := hide (hD.after HBc.out)
        obtain ⟨rfl, _⟩ := hD
        go_wp2
        go_ret
        exact HD.out
      have b4 : (k == 4) = false := beq_eq_false_iff_ne.2 hk4
      by_cases hk5 : k = 5
      · subst hk5
        go_wp2_with fail
        refine (law_cancelled _ _ _ _ b wc (HAc.out.pair j HJL.out) HAc.out.g h0F.out HO.out.b (by have := hs1.out; omega)).mono ?_
        rintro e w1 hD
        have HD := hide ((Does.steps HAc.out HJL.out hD).after HBc.out)
        obtain ⟨rfl, _⟩ := hD
        go_wp2
        go_ret
        exact HD.out
      have b5 : (k == 5) = false := beq_eq_false_iff_ne.2 hk5
      by_cases hk10 : k = 10
      · subst hk10
        go_wp2_with fail
        refine (law_flown wb B N FW ps bs is j wc HAc.out HJL.out hN).mono ?_
        rintro e w1 hD
        have HD := hide (hD.after HBc.out)
        obtain ⟨rfl, _⟩ := hD
        go_wp2
        go_ret
        exact HD.out
      have b10 : (k == 10) = false := beq_eq_false_iff_ne.2 hk10
      by_cases hk11 : k = 11
      · subst hk11
        obtain ⟨Fx, Fm, hP, hM, hd, hF⟩ := HAc.out.pair j HJL.out
        have HM := hide hM
        have HD := hide hd
        have HF := hide hF
        have HPl := hide hP.lt
        have HP := hide hP
        have hwf := hide hP.wf
        have hnx : ¬ Fx pb := fun e => by have := HA.out.geP; have := (HA.out.pair j HJL.out).lt pb ((HF.out pb).2 (Or.inl e)); have := HPL.out; omega
        have hlF : Hid (∀ k, (ps[j]).F k → k < w.heap.size) := (HA0.out.pair j HJL.out).lt
        have hnx2 : ¬ Fx w.heap.size := fun e => by have := hlF.out _ ((HF.out _).2 (Or.inl e)); omega
        have hnm2 : ¬ Fm w.heap.size := fun e => by have := hlF.out _ ((HF.out _).2 (Or.inr e)); omega
        have h0x : Hid (¬ Fx 0) := fun e => h0F.out ((HF.out 0).2 (Or.inl e))
        have hnow : (ps[j]).S.now ≤ 1000000000 := by have := hs1.out; omega
        have hlast : (ps[j]).S.last ≤ 1000000 := by have := hs1.out; omega
        clear hd hF hP hM
        have HCS := hide (completeM_same (ps[j]).S b (c.tmod 2 != 0))
        have HPC := hide (plain_complete (ps[j]).S Fx (ps[j]).x b (c.tmod 2 != 0) wc HP.out HAc.out.g h0x.out hnow hlast)
        have HRC : Hid (∀ W, RefAt W Fm (ps[j]).m (ps[j]).S → Calls Tryz.prog 46 #[.pointer (some ⟨(ps[j]).m, 0, none⟩), .int .i64 b, .bool (c.tmod 2 != 0)] W fun e w' => e = .returned (.bool (completeM (ps[j]).S b (c.tmod 2 != 0)).1) ∧ RefAt w' (Foot Fm W w') (ps[j]).m (completeM (ps[j]).S b (c.tmod 2 != 0)).2 ∧ Kept Fm W w') := fun W hW => ref_complete (ps[j]).S Fm (ps[j]).m b (c.tmod 2 != 0) W hW hwf.out hlast hnow
        generalize hfb : (c.tmod 2 != 0) = fb at *
        generalize hcm : completeM (ps[j]).S b fb = r at *
        obtain ⟨ok, S'⟩ := r
        go_wp2_with fail
        refine HPC.out.mono ?_
        rintro e w1 ⟨rfl, hP1, hK1⟩
        have HP1 := hide hP1
        have HK1 := hide hK1
        have hz1 := hK1.size
        have t1 := (hK1.cell (p := ⟨pb, 1, none⟩) hpl hnx).trans p1
        have s2 := (hK1.cell (p := ⟨w.heap.size, 2, none⟩) hwc hnx2).trans q2
        have s3 := (hK1.cell (p := ⟨w.heap.size, 3, none⟩) hwc hnx2).trans q3
        have hpl1 : pb < w1.heap.size := by omega
        have hwl1 : w.heap.size < w1.heap.size := by omega
        generalize hev : (if ok then 0 else 10 : Int) = ev at *
        have HM1 := hide (pair_mid HM.out HD.out (Below.refl _ _) hK1 (alloc_below w1 (.cells #[.int .i64 ev, .int .i64 (-1), .int .i64 0, .bool true] 57)))
        have hnm : ¬ Fm w1.heap.size := fun e => by have := hlF.out _ ((HF.out _).2 (Or.inr e)); omega
        clear hP1 hK1 p0 p1 q0 q1 q2 q3 q4
        go_wp2_with fail
        refine (HRC.out _ HM1.out).mono ?_
        rintro e w2 ⟨rfl, hM2, hK2⟩
        have HM2 := hide hM2
        have HK2 := hide hK2
        have hz2 : w1.heap.size < w2.heap.size := by have := hK2.size; simp at this; omega
        have q : w2.heap[w1.heap.size]? = some (.cells #[.int .i64 ev, .int .i64 (-1), .int .i64 0, .bool true] 57 (0, 0)) := (hK2.block _ (by simp) hnm).trans (heap_alloc_new w1 _)
        obtain ⟨⟨q0, q1, q2, q3⟩, _⟩ := cells4 q
        clear hM2 hK2 q
        have fin : Hid (∀ w3, Below w2.heap.size w2 w3 → Steps w wb B N (.returned (.bool true)) w3) := fun w3 hb3 => by
          obtain ⟨r1, r2⟩ := pair_fin HM.out HPl.out HD.out HF.out (Below.refl _ _) HP1.out HK1.out (alloc_below w1 (.cells #[.int .i64 ev, .int .i64 (-1), .int .i64 0, .bool true] 57)) HM2.out HK2.out hb3
          exact (Does.steps HAc.out HJL.out ⟨rfl, S', r1, by have := HCS.out.1; omega, HCS.out.2, r2⟩).after HBc.out
        cases ok with
        | true =>
          have hev0 : ev = 0 := by simpa using hev.symm
          subst hev0
          clear hev
          go_wp2_with fail
          refine (law_fine _).mono ?_
          rintro e w3 ⟨rfl, hb3⟩
          go_wp2
          go_ret
          exact fin.out _ hb3
        | false =>
          have hev0 : ev = 10 := by simpa using hev.symm
          subst hev0
          clear hev
          go_wp2_with fail
          refine (law_none 10 _).mono ?_
          rintro e w3 ⟨rfl, hb3⟩
          go_wp2
          go_ret
          exact fin.out _ hb3
      have b11 : (k == 11) = false := beq_eq_false_iff_ne.2 hk11
      by_cases hk7 : k = 7
      · subst hk7
        obtain ⟨Fx, Fm, hP, hM, hd, hF⟩ := HAc.out.pair j HJL.out
        have HM := hide hM
        have HD := hide hd
        have HF := hide hF
        have HPl := hide hP.lt
        have hnx : ¬ Fx pb := fun e => by have := HA.out.geP; have := (HA.out.pair j HJL.out).lt pb ((HF.out pb).2 (Or.inl e)); have := HPL.out; omega
        have hlF : Hid (∀ k, (ps[j]).F k → k < w.heap.size) := (HA0.out.pair j HJL.out).lt
        have hnx2 : ¬ Fx w.heap.size := fun e => by have := hlF.out _ ((HF.out _).2 (Or.inl e)); omega
        have hmF : Fm (ps[j]).m := by obtain ⟨G, ar, cr, at_, ct, af, cf, ad, cd, h⟩ := hM; exact h.own
        have hml : (ps[j]).m < w.heap.size := hlF.out _ ((HF.out _).2 (Or.inr hmF))
        have hpw : w.heap.size < pb := by have := HPL.out; omega
        have nm1 : (ps[j]).m ≠ pb := by omega
        have nm2 : (ps[j]).m ≠ w.heap.size := by omega
        have nm3 : pb ≠ (ps[j]).m := by omega
        have nm4 : w.heap.size ≠ (ps[j]).m := by omega
        clear hd hF
        go_wp2_with fail
        refine (prog_tick _ Fx _ wc hP (by have := hs1.out; omega)).mono ?_
        rintro e w1 ⟨rfl, hP1, hK1⟩
        have HP1 := hide hP1
        have HK1 := hide hK1
        have t0 := (hK1.cell (p := ⟨pb, 0, none⟩) hpl hnx).trans p0
        have t1 := (hK1.cell (p := ⟨pb, 1, none⟩) hpl hnx).trans p1
        have s0 := (hK1.cell (p := ⟨w.heap.size, 0, none⟩) hwc hnx2).trans q0
        have s1 := (hK1.cell (p := ⟨w.heap.size, 1, none⟩) hwc hnx2).trans q1
        have s2 := (hK1.cell (p := ⟨w.heap.size, 2, none⟩) hwc hnx2).trans q2
        have s3 := (hK1.cell (p := ⟨w.heap.size, 3, none⟩) hwc hnx2).trans q3
        have s4 := (hK1.cell (p := ⟨w.heap.size, 4, none⟩) hwc hnx2).trans q4
        have HM1 := hide (pair_mid HM.out HD.out (Below.refl _ _) hK1 (Below.refl _ _))
        have n4 := HM1.out.now
        have f4 := HM1.out.nowF
        have hnow : -1000000 ≤ (ps[j]).S.now ∧ (ps[j]).S.now ≤ 1000000 := by have := hs1.out; omega
        have hz1 := hide hK1.size
        clear hP1 hK1 p0 p1 q0 q1 q2 q3 q4 hP hM
        have HM2 := hide (HM1.out.tick ((ps[j]).S.now + 1))
        have HPF := hide (pair_fin HM.out HPl.out HD.out HF.out (Below.refl _ _) HP1.out HK1.out (Below.refl _ _) HM2.out.1 HM2.out.2 (Below.refl _ _))
        have HNX := hide (HAc.out.pairOp j HJL.out HPF.out.1 (by show (ps[j]).S.last ≤ _; omega) (by have := hs1.out; show 0 ≤ (ps[j]).S.now + 1 ∧ (ps[j]).S.now + 1 ≤ _; omega) HPF.out.2)
        go_wp2_with fail
        refine (law_told_none wb B (N + 1) _ _ 7 a b c s _ ⟨_, _, _, _, HNX.out.1⟩ (by omega) (by omega) (by omega) (by omega) (by omega)).mono ?_
        rintro e w2 ⟨rfl, hI2, hb2⟩
        have HR : Hid (Steps w wb B N (.returned (.bool true)) w2) := ⟨rfl, hI2, HBc.out.trans (HNX.out.2.trans hb2)⟩
        clear hI2 hb2
        go_wp2
        go_ret
        exact HR.out
      · have b7 : (k == 7) = false := beq_eq_false_iff_ne.2 hk7
        have HTOLD : Hid (Calls Tryz.prog 49 #[.pointer (some ⟨wb, 0, none⟩), .agg #[.pointer (some ⟨(ps[j]).x, 0, none⟩), .pointer (some ⟨(ps[j]).m, 0, none⟩)], opV k a b c s] wc fun e w' => Steps wc wb B N e w') := by
          by_cases hk9 : k = 9
          · rw [hk9]; exact law_told_step wb B N FW ps bs is j a b c s wc HAc.out HJL.out hN
          · by_cases hk13 : k = 13
            · rw [hk13]; exact law_told_crash wb B N FW ps bs is j a b c s wc HAc.out HJL.out hN HO.out.s
            · exact law_told wb B N FW ps bs is j k a b c s wc HAc.out HJL.out hN hk9 HO.out.k12 hk13
        unfold opV at HTOLD
        go_wp2_with fail
        refine HTOLD.out.mono ?_
        rintro e w1 hD
        have HD := hide (hD.after HBc.out)
        obtain ⟨rfl, _⟩ := hD
        go_wp2
        go_ret
        exact HD.out

theorem law_stepA (wb B N : Nat) (k a b c : Int) (s : ByteArray) (w : World) (h : Inv w wb B N) (hN : N ≤ 100000) (hO : OpOkA k a b s) :
    Calls Tryz.prog 21 #[.pointer (some ⟨wb, 0, none⟩), opV k a b c s] w fun e w' => Steps w wb B N e w' := by
  by_cases hk : k = 1
  · subst hk; exact law_step_new wb B N a b c s w h hN
  · exact law_stepA_old wb B N k a b c s w h hN hk hO
end Go.Proofs.YtiabdbeejkadnaaGreatDoor

/- The law's step at the kinds that Answers plays. Own work of the verifier. -/
namespace Go.Proofs.YtiabdbeejkadnaaGreatDoor
open Go.RowKit Go.Maps
theorem step_answers : StepOk [10, 6, 12, 13] := fun B j k a b c s wr hI hj hk ha hb hs => law_stepA B B j k a b c s wr hI hj ⟨hk 12 (by simp), ha, hb, hs⟩
theorem step_commands : StepOk [4, 8, 12, 13] := fun B j k a b c s wr hI hj hk ha hb hs => law_stepA B B j k a b c s wr hI hj ⟨hk 12 (by simp), ha, hb, hs⟩
theorem step_crashes : StepOk [12, 6] := fun B j k a b c s wr hI hj hk ha hb hs => law_stepA B B j k a b c s wr hI hj ⟨hk 12 (by simp), ha, hb, hs⟩
end Go.Proofs.YtiabdbeejkadnaaGreatDoor

/- The law Crashes: the row and its tied card. Own work of the verifier. -/
namespace Go.Proofs.YtiabdbeejkadnaaGreatDoor
open Go.ChangeShapes Go.WideShapes Go.RowKit Go.Maps

set_option maxHeartbeats 1000000 in
set_option maxRecDepth 1000000 in
theorem crashes_nil (ao : Option Addr) (cap : Nat) (w : World) :
    Calls Tryz.prog 7 #[.slice ao 0 cap] w fun e w' => e = .returned (.bool true) ∧ Below w.heap.size w w' := by
  go_enter Tryz.func7, Tryz.ntmps7
  go_wp2_with fail
  refine (plays_nil ao cap _ _).mono ?_
  rintro e w1 ⟨rfl, hb⟩
  have HB := hide hb
  clear hb
  go_wp2
  go_ret
  exact ⟨rfl, (alloc_below _ _).trans (HB.out.mono (by simp))⟩

set_option maxHeartbeats 1000000 in
set_option maxRecDepth 1000000 in
theorem crashes_some (blk off n cap : Nat) (O : Nat → OpD) (w : World) (h : Script w blk off n O) (hs : ∀ i, i < n → (O i).s.size ≤ 2 ^ 48) (hn : n ≤ 2 ^ 48) (hO : ∀ i, i < n → (-9223372036854775808 ≤ (O i).a ∧ (O i).a ≤ 9223372036854775807) ∧ (Lit.int .i64 (O i).b).wf = true)
    (hg : GCell w) (hb : blk < w.heap.size) :
    Calls Tryz.prog 7 #[.slice (some ⟨blk, off, none⟩) n cap] w fun e w' => e = .returned (.bool true) ∧ Below w.heap.size w w' := by
  have HC := hide (plays_gen [12, 6] step_crashes (some ⟨w.heap.size, 0, none⟩) blk off n cap 2 O (w.alloc (.cells #[.int .i64 12, .int .i64 6] 3)) (h.below (alloc_below _ _) hb) hs hn hO (hg.below (alloc_below _ _)) (by simp; omega) (by decide) (fun t ht => ⟨w.heap.size, rfl, by simp, by
    have ht : t < 2 := ht
    have h5 : t = 0 ∨ t = 1 := by omega
    rcases h5 with rfl | rfl <;> simp⟩))
  clear h hs hO hg
  go_enter Tryz.func7, Tryz.ntmps7
  go_wp2_with fail
  refine HC.out.mono ?_
  rintro e w1 ⟨rfl, hb⟩
  have HB := hide hb
  clear hb
  go_wp2
  go_ret
  exact ⟨rfl, (alloc_below _ _).trans (HB.out.mono (by simp))⟩

theorem kOwn : ownKnob Tryz.prog.godebug = none := by kernel_rfl
theorem kEt : Tryz.prog.globalNamed "errors.errorType" = some 0 := by kernel_rfl
theorem kRt : (Tryz.prog.cutTypes.find? (·.1 == "internal/reflectlite.rtype")).map (·.2) = some 212 := by kernel_rfl
theorem kOneRow : ((List.range 272).filter fun t => Tryz.prog.rowNamed t [101, 114, 114, 111, 114]) = [109] := by kernel_rfl
theorem kSize : Tryz.prog.types.size = 272 := by kernel_rfl

theorem handle_of_laid {W : World} (h : laidMetH Tryz.prog Rows.crashesRow.laid W) : W.cell? ⟨0, 0, none⟩ = some (.iface 212 (.agg #[.pointer (some ⟨1, 109, none⟩)])) := by
  have h' : laidMet Tryz.prog [] W ∧ handlesMet Tryz.prog Rows.crashesRow.laid W := h
  obtain ⟨name, u, ty, e1, e2, e3, e4, e5⟩ := h'.2 _ (List.mem_singleton.2 rfl)
  have en : name = [101, 114, 114, 111, 114] := (Option.some.inj e1).symm
  subst en
  obtain rfl := Option.some.inj (kRt.symm.trans e2)
  have hm : ty ∈ (List.range 272).filter fun t => Tryz.prog.rowNamed t [101, 114, 114, 111, 114] := List.mem_filter.2 ⟨List.mem_range.2 (by rw [← kSize]; exact e3), e4⟩
  rw [kOneRow] at hm
  obtain rfl := List.mem_singleton.1 hm
  have hh : typeHandle Tryz.prog 109 = .pointer (some ⟨1, 109, none⟩) := by kernel_rfl
  rw [hh] at e5
  simpa using World.var?_cell kEt e5 0

noncomputable def laidWorld (os : Os) : World :=
  let w0 := World.holding Tryz.prog os ⟨#[], #[], []⟩
  { w0 with heap := w0.heap.modify 0 fun
      | .cells _ t frozen => .cells #[.iface 212 (.agg #[.pointer (some ⟨1, 109, none⟩)])] t frozen
      | o => o }
theorem laidWorld_met (os : Os) (args : Array Value) : laidMetH Tryz.prog Rows.crashesRow.laid ((laidWorld os).forCall (fun _ _ => 0) ⟨#[], args, []⟩).memory :=
  laidMetH_of_parts (laidMet_nil _ _) (by kernel_rfl)

theorem wf_range {x : Int} (h : (Lit.int .i64 x).wf = true) : -9223372036854775808 ≤ x ∧ x ≤ 9223372036854775807 := by
  simp only [Lit.wf, Bool.and_eq_true, decide_eq_true_eq] at h
  have e1 : IntKind.i64.min = -9223372036854775808 := by decide
  have e2 : IntKind.i64.max = 9223372036854775807 := by decide
  rw [e1, e2] at h
  exact h
theorem laidOut : laidOutB Tryz.prog = true := by kernel_rfl
set_option maxRecDepth 100000 in
theorem crashes_lifted (os : Os) (started : os.Started) (H : Type) (enc : TypeId × Value → H) :
    ReturnsInHanded {} Tryz.checked os 7 .any (fun w args => (Rows.crashesSpec.pre enc Tryz.prog Tryz.f7 [] false w args ∧ laidMetH Tryz.prog Rows.crashesRow.laid w) ∧ sizedMet enc Tryz.prog Tryz.f7 (OpenSpec.ofChange Rows.crashesSpec) false w args)
      (Rows.crashesSpec.post enc Tryz.prog Tryz.f7 false true false false) := by
  refine returnsInHanded_of_change_and (C := Tryz.checked) (X := fun w _ => laidMetH Tryz.prog Rows.crashesRow.laid w) (fun _ _ _ hh h => h.of_heap hh) kOwn started (by kernel_rfl) Tryz.func7
    (ChangeSpec.witness_at (enc := enc) (C := Tryz.checked) (os := os) (X := fun w _ => laidMetH Tryz.prog Rows.crashesRow.laid w) false (laidWorld os) #[.slice none 0 0] 8 rfl (by kernel_rfl) (by kernel_rfl) (by kernel_rfl) (by kernel_rfl) (by kernel_rfl) (laidWorld_met os _)) ?_
  intro W base args ds gs before hval0 hW _ hsz0 hL _
  have hsz : (DataW.weightsEach Tryz.prog (Tryz.f7.params.toList ++ Rows.crashesSpec.plain.varTypes Tryz.prog) (ds ++ gs)).all (· ≤ reachBytes) = true := hsz0
  have hval : ∀ (j : Nat) t v, Tryz.f7.params[j]? = some t → args[j]? = some v → Value.okWide Tryz.prog W .any base t v := hval0
  clear hsz0 hval0
  have hW' := hW
  obtain ⟨p, q, hA0, hV, rfl, hfz, hnd⟩ := hW
  have hA : DataW.TrodAll enc Tryz.prog W 0 (fun _ => true) true Tryz.f7.params.toList args.toList ds p := hA0
  rw [Tryz.params7] at hA hsz hval
  obtain ⟨v0, d0, rfl, rfl, h0⟩ := trodAll_one hA
  obtain ⟨a0, len0, cap0, rfl⟩ := okWide_slice Tryz.underlying22 (hval 0 _ _ rfl rfl)
  obtain ⟨rfl, rfl⟩ := trodVars_none hV
  have h0k := h0
  obtain ⟨fuel, hf⟩ := h0
  clear hA0 hA
  simp only [List.append_nil] at hW' hsz
  have hlt : ∀ x ∈ p, x.block < W.heap.size := fun x hx => hW'.lt x (by simp [hx])
  have hg : GCell W := handle_of_laid hL
  have tail : ∀ (e : Ending) (W' : World), (e = .returned (.bool true) ∧ Below W.heap.size W W') → ∃ v, e = .returned v ∧ Rows.crashesSpec.post enc Tryz.checked.prog Tryz.f7 false true false false W #[.slice a0 len0 cap0] v W' := by
    rintro e W' ⟨rfl, hb⟩
    have e1 : Rows.crashesSpec.fn H ([d0] ++ []) = { results := [.lit (.bool true)], args := [d0] } := by simp [Rows.crashesSpec]
    have ARG : DataW.Trod enc Tryz.prog W' 0 (fun x => decide (x < W.heap.size)) true 22 (.slice a0 len0 cap0) d0 p :=
      Below.trod laidOut (by kernel_rfl) (of_decide_eq_true (by kernel_rfl)) h0k hb hlt
    refine ⟨_, rfl, _, _, _, [], p, [], hW', ?_, ?_, ?_, hb.frame _, fun h => by cases h⟩
    · rw [e1]; exact trodAll_mk1 (shut_bool Tryz.underlying4 true)
    · rw [e1]; exact trodAll_mk1 ARG
    · rw [e1]; rfl
  rcases open_script hf with ⟨hcs, hx⟩ | ⟨a, len, cap, O, rest, hcs, hx, hO⟩
  · simp [Value.cells] at hcs
    obtain ⟨rfl, rfl, rfl⟩ := hcs
    exact (crashes_nil none 0 W).mono tail
  · simp [Value.cells] at hcs
    obtain ⟨rfl, rfl, rfl⟩ := hcs
    by_cases hz : len0 = 0
    · subst hz
      exact (crashes_nil (some a) cap0 W).mono tail
    · obtain ⟨blk, off, spot⟩ := a
      have h00 := (hO 0 (by omega)).1.1
      have hsp : spot = none := by
        cases spot with
        | none => rfl
        | some k =>
          exfalso
          simp only [World.cell?, Addr.add] at h00
          split at h00 <;> simp at h00
      subst hsp
      have hd : d0 = .slice ((List.range len0).map fun i => opDatum (O i)) rest := hx
      obtain ⟨hn, hs⟩ := script_sized (O := O) (len := len0) (rest := rest) hsz rfl (by rw [hd]; rfl)
      have hS : Script W blk off len0 O := fun i hi => by
        obtain ⟨⟨c0, c1, c2, c3, c4⟩, _⟩ := hO i hi
        rw [Addr.add_lit] at c0 c1 c2 c3 c4
        exact ⟨c0, by rw [Nat.add_assoc]; exact c1, by rw [Nat.add_assoc]; exact c2, by rw [Nat.add_assoc]; exact c3, by rw [Nat.add_assoc]; exact c4⟩
      have hbl : blk < W.heap.size := lt_of_cell (hS 0 (by omega)).1
      exact (crashes_some blk off len0 cap0 O W hS hs hn (fun i hi => ⟨wf_range (hO i hi).2.1, (hO i hi).2.2⟩) hg hbl).mono tail

theorem crashes_said : Rows.CrashesSaid :=
  OpenClaim.holds_of_wide 7 Tryz.f7 rfl rfl rfl rfl rfl rfl rfl ⟨rfl, rfl, rfl, rfl, rfl⟩ rfl rfl rfl rfl rfl (by kernel_rfl) Tryz.func7 (by kernel_rfl)
    (of_decide_eq_true (by kernel_rfl)) (by unfold Func.isWrapper; first | (rw [if_pos (by decide +kernel)]; kernel_rfl) | (rw [if_neg (by decide +kernel)]; exact ⟨rfl, rfl⟩))
    (fun os started H enc _ => crashes_lifted os started H enc)

theorem crashes_plain (f : FuncId) (fn : Func) (hf : Tryz.pinned.checked.prog.funcNamed "elevator/elevatorlaw.Crashes" = some f) (hfn : Tryz.pinned.checked.prog.funcs[f]? = some fn) :
    true = Tryz.pinned.checked.prog.looks [] ∧ ∀ (j : Nat) t, fn.params[j]? = some t → Tryz.pinned.checked.prog.wantsStandIn t = false := by
  obtain rfl : f = 7 := Option.some.inj ((show Tryz.prog.funcNamed "elevator/elevatorlaw.Crashes" = some 7 by kernel_rfl).symm.trans hf) |>.symm
  obtain rfl : fn = Tryz.f7 := (Option.some.inj (Tryz.func7.symm.trans hfn)).symm
  refine ⟨by kernel_rfl, fun j t ht => ?_⟩
  rw [Tryz.params7] at ht
  cases j with
  | zero =>
    have e : t = 22 := by simpa using ht.symm
    subst e
    show Tryz.prog.wantsStandIn 22 = false
    kernel_rfl
  | succ j => simp at ht

/-- a tied card, whatever its cell 'goes' -/
theorem tied_at (Lk : Looks) {p : Pinned} {s : OpenSpec} {c : OpenClaim} (g : Bool) (kinds : List LaidKind) (tests : Bool) (har : Bool × String) (lk : Bool)
    (hc : c.holds p s) (hw : c.wfByText s = true) (htie : c.laidByTextAt Lk p kinds tests)
    (hst : c.start = .entering) (hnb : c.noBlocks = false ∧ c.again = false) (hm : p.checked.prog.mainIs = some (har.1, har.2.toList)) (hn : (!har.1 && har.2.isEmpty && !lk) = false)
    (hl : ∀ f fn, p.checked.prog.funcNamed c.func = some f → p.checked.prog.funcs[f]? = some fn → lk = p.checked.prog.looks [] ∧ ∀ (j : Nat) t, fn.params[j]? = some t → p.checked.prog.wantsStandIn t = false)
    (hg : g = c.goesBy p.checked.prog) :
    Claim7.holds p (.plain s) { stood := { row := c, standIns := [], harness := har, looks := lk }, kinds := [], alts := [], goes := g, laidByText := true, laidKinds := kinds, laidTests := tests, laidLooks := Lk } := by
  have h6 : ∀ r : OpenClaim, Claim7.isSixth { stood := { row := r, standIns := [], harness := har, looks := lk }, kinds := [] } = false := fun r => by simpa [Claim7.isSixth] using hn
  exact ⟨Claim7.tied_new_at Lk kinds tests (Claim7.new_of_sixth hc har lk hst hnb hm (h6 c) hl) hw, (fun D hD => by cases hD), htie, (fun h => by cases h), hg⟩
theorem crashes_card : Rows.CrashesCardSaid :=
  tied_at .later _ _ _ _ _ crashes_said (by kernel_rfl) crashes_row_tie rfl ⟨rfl, rfl⟩ (by kernel_rfl) rfl crashes_plain (by kernel_rfl)
#print axioms crashes_card
end Go.Proofs.YtiabdbeejkadnaaGreatDoor
