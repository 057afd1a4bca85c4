import Derived.Test.YtiabdbeejkadnaaGreatDoorJe466359bcb
import Derived.Deep.SlicePairs
import Derived.SizedLaws
/- The law: step. Own work of the verifier. -/
namespace Go.Proofs.YtiabdbeejkadnaaGreatDoor
open Go.RowKit Go.Maps

theorem encQ_at (qs : List (Nat × Nat)) (j : Nat) (h : j < qs.length) : (encQ qs)[j * 2]? = some (.pointer (some ⟨(qs[j]).1, 0, none⟩)) ∧ (encQ qs)[j * 2 + 1]? = some (.pointer (some ⟨(qs[j]).2, 0, none⟩)) := by
  unfold encQ
  induction qs generalizing j with
  | nil => simp at h
  | cons q l ih =>
    cases j with
    | zero => simp
    | succ j =>
      have := ih j (by simpa using h)
      have e1 : (j + 1) * 2 = j * 2 + 2 := by omega
      rw [e1]
      simpa using this

theorem Does.steps {w w' : World} {wb B N : Nat} {FW : Nat → Prop} {ps : List PQ} {bs is : List (Option Addr × Nat)} {j : Nat} {e : Ending} (h : AllAt w wb FW ps bs is B N) (hj : j < ps.length) (hd : Does w (ps[j]).F (ps[j]).x (ps[j]).m (ps[j]).S e w') : Steps w wb B N e w' := by
  obtain ⟨he, S', hP, hl, hn, hK⟩ := hd
  have := h.pairOp j hj hP hl (by have := h.st j hj; rw [hn]; omega) hK
  exact ⟨he, ⟨_, _, _, _, this.1⟩, this.2⟩
theorem Steps.after {w w0 w' : World} {wb B N : Nat} {e : Ending} (h : Steps w0 wb B N e w') (hb : Below B w w0) : Steps w wb B N e w' := ⟨h.1, h.2.1, hb.trans h.2.2⟩
theorem RefAt.tick {w : World} {F : Nat → Prop} {m : Nat} {S : St} (h : RefAt w F m S) (x : Int) : RefAt (w.setCell ⟨m, 4, none⟩ (.int .i64 x)) (Foot F w (w.setCell ⟨m, 4, none⟩ (.int .i64 x))) m { S with now := x } ∧ Kept F w (w.setCell ⟨m, 4, none⟩ (.int .i64 x)) := by
  obtain ⟨G, ar, cr, at_, ct, af, cf, ad, cd, h⟩ := h
  exact ⟨⟨G, ar, cr, at_, ct, af, cf, ad, cd, (h.setNow x).wid Foot.of (Foot.lt h.ltF (by simp [World.setCell]))⟩, (Kept.refl _ _).setCell (p := ⟨m, 4, none⟩) (Or.inl h.own) _⟩
theorem RefAt.nowF {w : World} {F : Nat → Prop} {m : Nat} {S : St} (h : RefAt w F m S) : w.frozen? ⟨m, 4, none⟩ = false := by
  obtain ⟨G, ar, cr, at_, ct, af, cf, ad, cd, h⟩ := h
  exact h.fz 4

theorem law_polled (wb B N : Nat) (FW : Nat → Prop) (ps : List PQ) (bs is : List (Option Addr × Nat)) (i : Nat) (num : Int) (w : World) (h : AllAt w wb FW ps bs is B N) (hi : i < ps.length) (hN : N ≤ 100000) (hw : (Lit.int .i64 num).wf = true) (h0F : ¬ (ps[i]).F 0) :
    Calls Tryz.prog 43 #[.pointer (some ⟨wb, 0, none⟩), .agg #[.pointer (some ⟨(ps[i]).x, 0, none⟩), .pointer (some ⟨(ps[i]).m, 0, none⟩)], .int .i64 num] w fun e w' => Steps w wb B N e w' := by
  by_cases hk0 : (pollM (ps[i]).S num).2.2.1 = 0
  · exact law_polled_ok wb B N FW ps bs is i num w h hi hN hw h0F hk0
  · refine (law_polled_no _ _ _ _ _ num w (h.pair i hi) h.g h0F hw (by have := h.st i hi; omega) hk0).mono ?_
    rintro e w1 hD
    exact Does.steps h hi hD
/-- a step of a kind that is played -/
structure OpOk (k a b : Int) (s : ByteArray) : Prop where
  k9 : k ≠ 9
  k10 : k ≠ 10
  k11 : k ≠ 11
  k12 : k ≠ 12
  k13 : k ≠ 13
  a : -9223372036854775808 ≤ a ∧ a ≤ 9223372036854775807
  b : (Lit.int .i64 b).wf = true
  s : s.size ≤ 1000000

set_option maxHeartbeats 1000000 in
set_option maxRecDepth 1000000 in
theorem law_step_new (wb B N : Nat) (a b c : Int) (s : ByteArray) (w : World) (h : Inv w wb B N) (hN : N ≤ 100000) :
    Calls Tryz.prog 21 #[.pointer (some ⟨wb, 0, none⟩), opV 1 a b c s] w fun e w' => Steps w wb B N e w' := by
  have HI := hide (h.below (alloc_below w (.cells #[.int .i64 1, .int .i64 a, .int .i64 b, .int .i64 c, .string s] 52)))
  clear h
  unfold opV
  go_enter Tryz.func21, Tryz.ntmps21
  go_wp2_with fail
  refine (law_opened wb B N 1 a b c s _ HI.out.1 hN).mono ?_
  rintro e w1 ⟨rfl, hI, hb⟩
  have HX := hide (And.intro hI (HI.out.2.trans hb))
  clear hI hb
  go_wp2
  go_ret
  exact ⟨rfl, HX.out.1, HX.out.2⟩

set_option maxHeartbeats 1000000 in
set_option maxRecDepth 1000000 in
theorem law_step_old (wb B N : Nat) (k a b c : Int) (s : ByteArray) (w : World) (h : Inv w wb B N) (hN : N ≤ 100000) (hk : k ≠ 1) (hO : OpOk k a b s) :
    Calls Tryz.prog 21 #[.pointer (some ⟨wb, 0, none⟩), opV k a b c s] w fun e w' => Steps w wb B N e w' := by
  obtain ⟨FW, ps, bs, is, hA0⟩ := h
  have hA := hA0.below (alloc_below w (.cells #[.int .i64 k, .int .i64 a, .int .i64 b, .int .i64 c, .string s] 52))
  have HB0 := hide ((alloc_below w (.cells #[.int .i64 k, .int .i64 a, .int .i64 b, .int .i64 c, .string s] 52)).mono hA0.low)
  have HA := hide hA
  have HA0 := hide hA0
  have HO := hide hO
  have b1 : (k == 1) = false := beq_eq_false_iff_ne.2 hk
  obtain ⟨R, L, aq, cq, ab, cb, ai, ci, hW, hFW⟩ := hA.wat
  have HW := hide hW
  have c0 := hW.c0
  rw [List.length_map] at c0
  have hwl : wb < w.heap.size := by
    obtain ⟨R, L, aq, cq, ab, cb, ai, ci, hW0, _⟩ := hA0.wat
    exact hW0.lt
  have c0' : w.cell? ⟨wb, 0, none⟩ = some (.slice aq ps.length cq) := by
    rw [← World.cell?_alloc_lt w (.cells #[.int .i64 k, .int .i64 a, .int .i64 b, .int .i64 c, .string s] 52) ⟨wb, 0, none⟩ hwl]
    exact c0
  clear hA hA0 hO hk hW hFW c0
  unfold opV
  by_cases hz : ps.length = 0
  · rw [hz] at c0'
    go_enter Tryz.func21, Tryz.ntmps21
    go_wp2
    go_ret
    exact ⟨rfl, Inv.more ⟨_, _, _, _, HA.out⟩ (by omega), HB0.out⟩
  · have hnb : ((ps.length : Int) == 0) = false := beq_eq_false_iff_ne.2 (by omega)
    obtain ⟨j, hj⟩ : ∃ j : Nat, pickM a (ps.length : Int) = (j : Int) := ⟨(pickM a (ps.length : Int)).toNat, by have := pickM_lt a (ps.length : Int) (by omega); omega⟩
    have hjl : j < ps.length := by have := pickM_lt a (ps.length : Int) (by omega); omega
    have HPick : Hid (∀ W, Calls Tryz.prog 41 #[.int .i64 a, .int .i64 (ps.length : Int)] W fun e w' => e = .returned (.int .i64 (j : Int)) ∧ w' = W) := fun W => by
      have := law_pick a (ps.length : Int) W HO.out.a (by omega) (by have := HA.out.lens; omega)
      rw [hj] at this
      exact this
    obtain ⟨g, cur, hg, _, hgb, _, _⟩ := Row.some HW.out.rq (by rw [List.length_map]; omega)
    subst hg
    obtain ⟨x, hx⟩ : ∃ x, x = (ps[j]).x := ⟨_, rfl⟩
    obtain ⟨m, hm⟩ : ∃ m, m = (ps[j]).m := ⟨_, rfl⟩
    have r0 : (w.alloc (.cells #[.int .i64 k, .int .i64 a, .int .i64 b, .int .i64 c, .string s] 52)).cell? ⟨g, j * 2, none⟩ = some (.pointer (some ⟨x, 0, none⟩)) := by
      rw [Row.cellAt HW.out.rq (j * 2) (by rw [List.length_map]; omega), (encQ_at _ j (by rw [List.length_map]; omega)).1, hx]; simp
    have r1 : (w.alloc (.cells #[.int .i64 k, .int .i64 a, .int .i64 b, .int .i64 c, .string s] 52)).cell? ⟨g, j * 2 + 1, none⟩ = some (.pointer (some ⟨m, 0, none⟩)) := by
      rw [Row.cellAt HW.out.rq (j * 2 + 1) (by rw [List.length_map]; omega), (encQ_at _ j (by rw [List.length_map]; omega)).2, hm]; simp
    have c0 : (w.alloc (.cells #[.int .i64 k, .int .i64 a, .int .i64 b, .int .i64 c, .string s] 52)).cell? ⟨wb, 0, none⟩ = some (.slice (some ⟨g, 0, none⟩) ps.length cq) := (World.cell?_alloc_lt _ _ ⟨wb, 0, none⟩ hwl).trans c0'
    obtain ⟨o0, o1, o2, o3, o4⟩ := cells5 (heap_alloc_new w (.cells #[.int .i64 k, .int .i64 a, .int .i64 b, .int .i64 c, .string s] 52))
    have hw0 : w.heap.size < (w.alloc (.cells #[.int .i64 k, .int .i64 a, .int .i64 b, .int .i64 c, .string s] 52)).heap.size := by simp
    have HX := hide hx
    have HM := hide hm
    have HJ := hide hj
    have hi1 : (0 : Int) ≤ (j : Int) := by omega
    have hi2 : (j : Int) < (ps.length : Int) := by omega
    have HJL := hide hjl
    clear hx hm hj hgb hz
    go_enter Tryz.func21, Tryz.ntmps21
    go_wp2
    clear c0' hwl
    generalize w.alloc (.cells #[.int .i64 k, .int .i64 a, .int .i64 b, .int .i64 c, .string s] 52) = w0 at *
    have ne0 := World.new_ne w0 _ c0
    have ne1 := World.new_ne w0 _ o1
    have ne2 := World.new_ne w0 _ r0
    have ne3 := World.new_ne w0 _ r1
    go_cut [5] from 8 (fun vp wx => ∃ pb, vp = .pointer (some ⟨pb, 0, none⟩) ∧ Hid (Below w0.heap.size w0 wx ∧ wx.heap[pb]? = some (.cells #[.pointer (some ⟨x, 0, none⟩), .pointer (some ⟨m, 0, none⟩)] 99 (0, 0)) ∧ w0.heap.size ≤ pb))
    case first =>
      go_region_held3 (fun W => W.cell? ⟨wb, 0, none⟩ = some (.slice (some ⟨g, 0, none⟩) ps.length cq) ∧ W.cell? ⟨w.heap.size, 1, none⟩ = some (.int .i64 a) ∧ W.cell? ⟨g, j * 2, none⟩ = some (.pointer (some ⟨x, 0, none⟩)) ∧ W.cell? ⟨g, j * 2 + 1, none⟩ = some (.pointer (some ⟨m, 0, none⟩))) (go_keep)
        (first | (go_at_call 41; refine (HPick.out _).mono ?_; rintro e w1 ⟨rfl, hw1⟩; have hw1 := hw1.symm; subst hw1))
      all_goals go_wp2_with fail
      all_goals go_meet
      all_goals exact ⟨_, rfl, (alloc_below _ _).drew, heap_alloc_new w0 _, Nat.le_refl _⟩
    case rest =>
      obtain ⟨pb, rfl, hmid⟩ := hcut
      have hx := HX.out
      have hm := HM.out
      subst hx hm
      clear HX HM HPick ne0 ne1 ne2 ne3 r0 r1 c0
      have HAc := hide (HA.out.below hmid.out.1)
      have HBc := hide (HB0.out.trans (hmid.out.1.mono HA.out.low))
      obtain ⟨p0, p1, _⟩ := cells2 hmid.out.2.1
      have q0 := (hmid.out.1.cell (p := ⟨w.heap.size, 0, none⟩) hw0).trans o0
      have q1 := (hmid.out.1.cell (p := ⟨w.heap.size, 1, none⟩) hw0).trans o1
      have q2 := (hmid.out.1.cell (p := ⟨w.heap.size, 2, none⟩) hw0).trans o2
      have q3 := (hmid.out.1.cell (p := ⟨w.heap.size, 3, none⟩) hw0).trans o3
      have q4 := (hmid.out.1.cell (p := ⟨w.heap.size, 4, none⟩) hw0).trans o4
      have hpl : pb < wc.heap.size := lt_of_heap hmid.out.2.1
      have HPL := hide hmid.out.2.2
      have hwc : w.heap.size < wc.heap.size := by have := hmid.out.1.size; omega
      clear o0 o1 o2 o3 o4 hmid hi1 hi2
      have hs1 := hide (HAc.out.st j HJL.out)
      have h0F : Hid (¬ (ps[j]).F 0) := fun e => by have := HAc.out.geP j HJL.out 0 e; have := HAc.out.pos; omega
      by_cases hk2 : k = 2
      · subst hk2
        go_wp2_with fail
        refine (law_asked_read _ _ _ _ a b c s wc (HAc.out.pair j HJL.out) HAc.out.g h0F.out (by have := hs1.out; omega)).mono ?_
        rintro e w1 hD
        have HD := hide ((Does.steps HAc.out HJL.out hD).after HBc.out)
        obtain ⟨rfl, _⟩ := hD
        go_wp2
        go_ret
        exact HD.out
      have b2 : (k == 2) = false := beq_eq_false_iff_ne.2 hk2
      by_cases hk3 : k = 3
      · subst hk3
        go_wp2_with fail
        refine (law_asked_write _ _ _ _ a b c s wc (HAc.out.pair j HJL.out) HAc.out.g h0F.out (by have := hs1.out; omega) HO.out.s).mono ?_
        rintro e w1 hD
        have HD := hide ((Does.steps HAc.out HJL.out hD).after HBc.out)
        obtain ⟨rfl, _⟩ := hD
        go_wp2
        go_ret
        exact HD.out
      have b3 : (k == 3) = false := beq_eq_false_iff_ne.2 hk3
      by_cases hk4 : k = 4
      · subst hk4
        go_wp2_with fail
        refine (law_polled wb B N FW ps bs is j b wc HAc.out HJL.out hN HO.out.b h0F.out).mono ?_
        rintro e w1 hD
        have HD := hide (hD.after HBc.out)
        obtain ⟨rfl, _⟩ := hD
        go_wp2
        go_ret
        exact HD.out
      have b4 : (k == 4) = false := beq_eq_false_iff_ne.2 hk4
      by_cases hk5 : k = 5
      · subst hk5
        go_wp2_with fail
        refine (law_cancelled _ _ _ _ b wc (HAc.out.pair j HJL.out) HAc.out.g h0F.out HO.out.b (by have := hs1.out; omega)).mono ?_
        rintro e w1 hD
        have HD := hide ((Does.steps HAc.out HJL.out hD).after HBc.out)
        obtain ⟨rfl, _⟩ := hD
        go_wp2
        go_ret
        exact HD.out
      have b5 : (k == 5) = false := beq_eq_false_iff_ne.2 hk5
      have b10 : (k == 10) = false := beq_eq_false_iff_ne.2 HO.out.k10
      have b11 : (k == 11) = false := beq_eq_false_iff_ne.2 HO.out.k11
      by_cases hk7 : k = 7
      · subst hk7
        obtain ⟨Fx, Fm, hP, hM, hd, hF⟩ := HAc.out.pair j HJL.out
        have HM := hide hM
        have HD := hide hd
        have HF := hide hF
        have HPl := hide hP.lt
        have hnx : ¬ Fx pb := fun e => by have := HA.out.geP; have := (HA.out.pair j HJL.out).lt pb ((HF.out pb).2 (Or.inl e)); have := HPL.out; omega
        have hlF : Hid (∀ k, (ps[j]).F k → k < w.heap.size) := (HA0.out.pair j HJL.out).lt
        have hnx2 : ¬ Fx w.heap.size := fun e => by have := hlF.out _ ((HF.out _).2 (Or.inl e)); omega
        have hmF : Fm (ps[j]).m := by obtain ⟨G, ar, cr, at_, ct, af, cf, ad, cd, h⟩ := hM; exact h.own
        have hml : (ps[j]).m < w.heap.size := hlF.out _ ((HF.out _).2 (Or.inr hmF))
        have hpw : w.heap.size < pb := by have := HPL.out; omega
        have nm1 : (ps[j]).m ≠ pb := by omega
        have nm2 : (ps[j]).m ≠ w.heap.size := by omega
        have nm3 : pb ≠ (ps[j]).m := by omega
        have nm4 : w.heap.size ≠ (ps[j]).m := by omega
        clear hd hF
        go_wp2_with fail
        refine (prog_tick _ Fx _ wc hP (by have := hs1.out; omega)).mono ?_
        rintro e w1 ⟨rfl, hP1, hK1⟩
        have HP1 := hide hP1
        have HK1 := hide hK1
        have t0 := (hK1.cell (p := ⟨pb, 0, none⟩) hpl hnx).trans p0
        have t1 := (hK1.cell (p := ⟨pb, 1, none⟩) hpl hnx).trans p1
        have s0 := (hK1.cell (p := ⟨w.heap.size, 0, none⟩) hwc hnx2).trans q0
        have s1 := (hK1.cell (p := ⟨w.heap.size, 1, none⟩) hwc hnx2).trans q1
        have s2 := (hK1.cell (p := ⟨w.heap.size, 2, none⟩) hwc hnx2).trans q2
        have s3 := (hK1.cell (p := ⟨w.heap.size, 3, none⟩) hwc hnx2).trans q3
        have s4 := (hK1.cell (p := ⟨w.heap.size, 4, none⟩) hwc hnx2).trans q4
        have HM1 := hide (pair_mid HM.out HD.out (Below.refl _ _) hK1 (Below.refl _ _))
        have n4 := HM1.out.now
        have f4 := HM1.out.nowF
        have hnow : -1000000 ≤ (ps[j]).S.now ∧ (ps[j]).S.now ≤ 1000000 := by have := hs1.out; omega
        have hz1 := hide hK1.size
        clear hP1 hK1 p0 p1 q0 q1 q2 q3 q4 hP hM
        have HM2 := hide (HM1.out.tick ((ps[j]).S.now + 1))
        have HPF := hide (pair_fin HM.out HPl.out HD.out HF.out (Below.refl _ _) HP1.out HK1.out (Below.refl _ _) HM2.out.1 HM2.out.2 (Below.refl _ _))
        have HNX := hide (HAc.out.pairOp j HJL.out HPF.out.1 (by show (ps[j]).S.last ≤ _; omega) (by have := hs1.out; show 0 ≤ (ps[j]).S.now + 1 ∧ (ps[j]).S.now + 1 ≤ _; omega) HPF.out.2)
        go_wp2_with fail
        refine (law_told_none wb B (N + 1) _ _ 7 a b c s _ ⟨_, _, _, _, HNX.out.1⟩ (by omega) (by omega) (by omega) (by omega) (by omega)).mono ?_
        rintro e w2 ⟨rfl, hI2, hb2⟩
        have HR : Hid (Steps w wb B N (.returned (.bool true)) w2) := ⟨rfl, hI2, HBc.out.trans (HNX.out.2.trans hb2)⟩
        clear hI2 hb2
        go_wp2
        go_ret
        exact HR.out
      · have b7 : (k == 7) = false := beq_eq_false_iff_ne.2 hk7
        go_wp2_with fail
        refine (law_told wb B N FW ps bs is j k a b c s wc HAc.out HJL.out hN HO.out.k9 HO.out.k12 HO.out.k13).mono ?_
        rintro e w1 hD
        have HD := hide (hD.after HBc.out)
        obtain ⟨rfl, _⟩ := hD
        go_wp2
        go_ret
        exact HD.out

theorem law_step (wb B N : Nat) (k a b c : Int) (s : ByteArray) (w : World) (h : Inv w wb B N) (hN : N ≤ 100000) (hO : OpOk k a b s) :
    Calls Tryz.prog 21 #[.pointer (some ⟨wb, 0, none⟩), opV k a b c s] w fun e w' => Steps w wb B N e w' := by
  by_cases hk : k = 1
  · subst hk; exact law_step_new wb B N a b c s w h hN
  · exact law_step_old wb B N k a b c s w h hN hk hO
end Go.Proofs.YtiabdbeejkadnaaGreatDoor

/- The law: small. Own work of the verifier. -/
namespace Go.Proofs.YtiabdbeejkadnaaGreatDoor
open Go.RowKit Go.Maps

structure OpD where
  k : Int
  a : Int
  b : Int
  c : Int
  s : ByteArray
/-- the script, as it lies in memory: n steps -/
def Script (w : World) (blk off n : Nat) (O : Nat → OpD) : Prop := ∀ i, i < n →
  w.cell? ⟨blk, off + i * 5, none⟩ = some (.int .i64 (O i).k) ∧ w.cell? ⟨blk, off + i * 5 + 1, none⟩ = some (.int .i64 (O i).a) ∧ w.cell? ⟨blk, off + i * 5 + 2, none⟩ = some (.int .i64 (O i).b) ∧ w.cell? ⟨blk, off + i * 5 + 3, none⟩ = some (.int .i64 (O i).c) ∧ w.cell? ⟨blk, off + i * 5 + 4, none⟩ = some (.string (O i).s)
theorem Script.below {w w' : World} {blk off n : Nat} {O : Nat → OpD} {B : Nat} (h : Script w blk off n O) (hb : Below B w w') (hB : blk < B) : Script w' blk off n O := fun i hi => by
  obtain ⟨h0, h1, h2, h3, h4⟩ := h i hi
  exact ⟨(hb.cell (p := ⟨blk, _, none⟩) hB).trans h0, (hb.cell (p := ⟨blk, _, none⟩) hB).trans h1, (hb.cell (p := ⟨blk, _, none⟩) hB).trans h2, (hb.cell (p := ⟨blk, _, none⟩) hB).trans h3, (hb.cell (p := ⟨blk, _, none⟩) hB).trans h4⟩

theorem small_nil (ao : Option Addr) (cap : Nat) (w : World) : Calls Tryz.prog 20 #[.slice ao 0 cap] w fun e w' => e = .returned (.bool true) ∧ w' = w := by
  go_enter Tryz.func20, Tryz.ntmps20
  go_wp2
  refine wp_loop_rounds 1 ?_
  rw [rounds_succ]
  go_wp2
  go_ret
  exact ⟨rfl, rfl⟩

/-- what small tells -/
def Smalls (w : World) (n : Nat) (O : Nat → OpD) (e : Ending) (w' : World) : Prop := ∃ r, e = .returned (.bool r) ∧ w' = w ∧ (r = true → n ≤ 65536 ∧ ∀ i, i < n → (O i).s.size ≤ 65536)
set_option maxHeartbeats 1000000 in
set_option maxRecDepth 1000000 in
theorem small_some (blk off n cap : Nat) (O : Nat → OpD) (w : World) (h : Script w blk off n O) (hs : ∀ i, i < n → (O i).s.size ≤ 2 ^ 48) (hn : n ≤ 2 ^ 48) :
    Calls Tryz.prog 20 #[.slice (some ⟨blk, off, none⟩) n cap] w fun e w' => Smalls w n O e w' := by
  have H := hide h
  have HS := hide hs
  clear h hs
  by_cases hbig : 65536 < n
  · have hb : (65536 : Int) < (n : Int) := by omega
    go_enter Tryz.func20, Tryz.ntmps20
    go_wp2
    go_ret
    exact ⟨false, rfl, rfl, fun h => by cases h⟩
  · have hb : ¬ (65536 : Int) < (n : Int) := by omega
    go_enter Tryz.func20, Tryz.ntmps20
    go_wp2
    go_loop [3, 4] (fun v i => ∃ (j : Nat) (nv : Int), j ≤ n ∧ i = .int .i64 j ∧ v = .int .i64 nv ∧ 0 ≤ nv ∧ nv ≤ 65536 ∧ Hid (∀ i, i < j → (O i).s.size ≤ 65536)) (fun _ i => n - (intOf i).toNat)
    case atStart => exact ⟨0, n, Nat.zero_le _, rfl, rfl, by omega, by omega, fun i hi => by omega⟩
    case round =>
      obtain ⟨j, nv, hj, rfl, rfl, h0, h1, hall⟩ := hrel
      by_cases hlt : j < n
      · have q := (H.out j hlt).2.2.2.2
        have hsz := HS.out j hlt
        have hi2 : (j : Int) < (n : Int) := by omega
        by_cases hov : 65536 < nv + ((O j).s.size : Int)
        · go_wp2
          go_ret
          exact ⟨false, rfl, rfl, fun h => by cases h⟩
        · have HOV := hide hov
          go_wp2
          go_round
          case rel => exact ⟨j + 1, nv + ((O j).s.size : Int), by omega, by go_num, by go_num, by omega, by omega, fun i hi => by
            rcases Nat.lt_or_ge i j with h | h
            · exact hall.out i h
            · have : i = j := by omega
              subst this; omega⟩
          case measure => simp [intOf]; omega
      · have HJ : Hid (j = n) := by show j = n; omega
        go_wp2
        go_ret
        exact ⟨true, rfl, rfl, fun _ => ⟨by omega, fun i hi => hall.out i (by rw [HJ.out]; exact hi)⟩⟩
end Go.Proofs.YtiabdbeejkadnaaGreatDoor

/- The law: plays, Queues. Own work of the verifier. -/
namespace Go.Proofs.YtiabdbeejkadnaaGreatDoor
open Go.RowKit Go.Maps

/-- is a step of this kind played, as far as the first t kinds that are left out say? -/
def inB (k : Int) (t : Nat) : Bool := (List.range t).all fun u => k != 9 + (u : Int)
theorem inB_succ (k : Int) (t : Nat) : inB k (t + 1) = (inB k t && (k != 9 + (t : Int))) := by simp [inB, List.range_succ]
theorem inB_5 {k : Int} (h : inB k 5 = true) : k ≠ 9 ∧ k ≠ 10 ∧ k ≠ 11 ∧ k ≠ 12 ∧ k ≠ 13 := by
  simp [inB, List.range_succ] at h
  omega
theorem inv_start {w : World} (hg : GCell w) (h0 : 0 < w.heap.size) : Inv (w.alloc (.cells #[.slice none 0 0, .slice none 0 0, .slice none 0 0] 50)) w.heap.size w.heap.size 0 := by
  refine ⟨fun k => k = w.heap.size, [], [], [], ⟨⟨fun k => k = w.heap.size, fun _ => False, none, 0, none, 0, none, 0, ⟨heap_alloc_new w _, rfl, Row.nil _ _ _ _, Row.nil _ _ _ _, Row.nil _ _ _ _, fun i hi => by simp at hi, fun i hi => by simp at hi, fun _ _ h => h, fun k hk => by subst hk; simp, fun _ h => h.elim⟩, fun k => by simp⟩, fun i hi => by simp at hi, fun i hi => by simp at hi, fun i j hi => by simp at hi, fun k hk => by omega, fun i hi => by simp at hi, hg.below (alloc_below _ _), h0, by simp, by simp, fun i hi => by simp at hi, ⟨fun x hx => by simp at hx, fun x hx => by simp at hx⟩⟩⟩
theorem inv_looks {w : World} {wb B N : Nat} (h : Inv w wb B N) (hN : N ≤ 100000) : Calls Tryz.prog 22 #[.pointer (some ⟨wb, 0, none⟩)] w fun e w' => e = .returned (.bool true) ∧ w' = w := by
  obtain ⟨FW, ps, bs, is, h⟩ := h
  exact law_looks FW wb _ bs is w h.wat (by have := h.lens; omega) (by have := h.lens; omega) h.caps

set_option maxHeartbeats 1000000 in
set_option maxRecDepth 1000000 in
theorem plays_some (blk off n cap wo : Nat) (O : Nat → OpD) (w : World) (h : Script w blk off n O) (hs : ∀ i, i < n → (O i).s.size ≤ 2 ^ 48) (hn : n ≤ 2 ^ 48) (hO : ∀ i, i < n → (-9223372036854775808 ≤ (O i).a ∧ (O i).a ≤ 9223372036854775807) ∧ (Lit.int .i64 (O i).b).wf = true)
    (hg : GCell w) (hb : blk < w.heap.size) (hwo : w.heap[wo]? = some (.cells #[.int .i64 9, .int .i64 10, .int .i64 11, .int .i64 12, .int .i64 13] 3 (0, 0))) :
    Calls Tryz.prog 11 #[.slice (some ⟨blk, off, none⟩) n cap, .slice (some ⟨wo, 0, none⟩) 5 5] w fun e w' => e = .returned (.bool true) ∧ Below w.heap.size w w' := by
  have HSC := hide h
  have HO := hide hO
  have HG := hide hg
  have HWO := hide hwo
  have HW5 : Hid (∀ t : Nat, t < 5 → w.cell? ⟨wo, t, none⟩ = some (.int .i64 (9 + (t : Int)))) := fun t ht => by
    have h5 : t = 0 ∨ t = 1 ∨ t = 2 ∨ t = 3 ∨ t = 4 := by omega
    rcases h5 with rfl | rfl | rfl | rfl | rfl <;> simp [World.cell?, hwo]
  have hwol : wo < w.heap.size := lt_of_heap hwo
  have HSM := hide (small_some blk off n cap O w h hs hn)
  clear h hs hO hg hwo
  go_enter Tryz.func11, Tryz.ntmps11
  go_wp2_with fail
  refine HSM.out.mono ?_
  rintro e w1 ⟨r, rfl, hw1, hr⟩
  have hw1 := hw1.symm
  subst hw1
  cases r with
  | false =>
    go_wp2
    go_ret
    exact ⟨rfl, Below.refl _ _⟩
  | true =>
    have HR := hide (hr rfl)
    have hnn : n ≤ 65536 := (hr rfl).1
    clear hr
    have HI0 := hide (inv_start HG.out (Nat.lt_of_le_of_lt (Nat.zero_le _) hb))
    go_wp2
    go_loopw [7, 8, 9, 10] (fun i _ _ _ wr => ∃ j : Nat, j ≤ n ∧ i = .int .i64 j ∧ Hid (Inv wr w.heap.size w.heap.size j) ∧ Hid (Below w.heap.size w wr)) (fun i _ _ _ _ => n - (intOf i).toNat)
    case atStart => exact ⟨0, Nat.zero_le _, rfl, HI0, alloc_below _ _⟩
    case round =>
      obtain ⟨j, hj, rfl, hI, hB⟩ := hrel
      obtain ⟨w6, hw6⟩ : ∃ w6, w6 = wr := ⟨_, rfl⟩
      subst hw6
      by_cases hlt : j < n
      · have hjn : (j : Int) < (n : Int) := by omega
        obtain ⟨o0, o1, o2, o3, o4⟩ := HSC.out.below hB.out hb j hlt
        have HOP := hide (HO.out j hlt)
        have HSZ := hide (HR.out.2 j hlt)
        generalize O j = o at *
        obtain ⟨k, a, b, c, s⟩ := o
        simp only at o0 o1 o2 o3 o4
        have HC0 := hide o0
        have HC1 := hide (And.intro o1 (And.intro o2 (And.intro o3 o4)))
        clear o0 o1 o2 o3 o4
        have HK0 : Hid (inB k 0 = true) := rfl
        go_wp2
        go_loopw [8, 9] (fun vi vt wx => ∃ (t nd : Nat), t ≤ 5 ∧ vt = .int .i64 t ∧ vi = .bool (inB k t) ∧ Hid (wx = w6.drewN nd)) (fun _ vt _ => 5 - (intOf vt).toNat)
        case atStart => exact ⟨0, 0, by omega, rfl, by rw [HK0.out], rfl⟩
        case round =>
          obtain ⟨t, nd, ht, rfl, rfl, hwx⟩ := hrel
          by_cases ht5 : t < 5
          · have htn : (t : Int) < 5 := by omega
            have HSU := hide (inB_succ k t)
            generalize hbv : inB k t = bv at *
            cases bv with
            | true =>
              have d0 : wr.cell? ⟨blk, off + j * 5, none⟩ = some (.int .i64 k) := by rw [hwx.out]; exact HC0.out
              have d1 : wr.cell? ⟨wo, t, none⟩ = some (.int .i64 (9 + (t : Int))) := by rw [hwx.out]; exact (hB.out.cell (p := ⟨wo, t, none⟩) hwol).trans (HW5.out t ht5)
              clear hbv
              go_wp2
              go_quiet (fail)
              go_wp2
              go_roundw
              case rel => exact ⟨t + 1, nd + nq, by omega, by go_num, by rw [HSU.out]; rfl, by rw [Hid, hwx.out]; simp [World.drewN, Nat.add_assoc]⟩
              case measure => simp [intOf]; omega
            | false =>
              clear hbv
              go_wp2
              go_quiet (fail)
              go_wp2
              go_roundw
              case rel => exact ⟨t + 1, nd + nq, by omega, by go_num, by rw [HSU.out]; rfl, by rw [Hid, hwx.out]; simp [World.drewN, Nat.add_assoc]⟩
              case measure => simp [intOf]; omega
          · have ht' : t = 5 := by omega
            subst ht'
            have HIx : Hid (Inv wr w.heap.size w.heap.size j) := by rw [hwx.out]; exact (hI.out.below (below_drewN (Below.refl _ _) nd)).1
            have HBx : Hid (Below w.heap.size w wr) := by rw [hwx.out]; exact below_drewN hB.out nd
            generalize hbv : inB k 5 = bv at *
            cases bv with
            | false =>
              clear hbv
              go_wp2
              go_roundw
              case rel => exact ⟨j + 1, by omega, by go_num, HIx.out.more (by omega), HBx⟩
              case measure => simp [intOf]; omega
            | true =>
              have HOK : Hid (OpOk k a b s) := by
                obtain ⟨h9, h10, h11, h12, h13⟩ := inB_5 hbv
                exact ⟨h9, h10, h11, h12, h13, HOP.out.1, HOP.out.2, by have := HSZ.out; show s.size ≤ _; have e : ({ k := k, a := a, b := b, c := c, s := s } : OpD).s.size = s.size := rfl; omega⟩
              have d0 : wr.cell? ⟨blk, off + j * 5, none⟩ = some (.int .i64 k) := by rw [hwx.out]; exact HC0.out
              have d1 : wr.cell? ⟨blk, off + j * 5 + 1, none⟩ = some (.int .i64 a) := by rw [hwx.out]; exact HC1.out.1
              have d2 : wr.cell? ⟨blk, off + j * 5 + 2, none⟩ = some (.int .i64 b) := by rw [hwx.out]; exact HC1.out.2.1
              have d3 : wr.cell? ⟨blk, off + j * 5 + 3, none⟩ = some (.int .i64 c) := by rw [hwx.out]; exact HC1.out.2.2.1
              have d4 : wr.cell? ⟨blk, off + j * 5 + 4, none⟩ = some (.string s) := by rw [hwx.out]; exact HC1.out.2.2.2
              clear hbv
              go_wp2_with fail
              refine (law_step w.heap.size w.heap.size j k a b c s wr HIx.out (by omega) HOK.out).mono ?_
              rintro e w7 ⟨rfl, hI7, hB7⟩
              have HI7 := hide hI7
              have HB7 := hide (HBx.out.trans hB7)
              clear hI7 hB7 d0 d1 d2 d3 d4
              go_wp2_with fail
              refine (inv_looks HI7.out (by omega)).mono ?_
              rintro e w8 ⟨rfl, hw8⟩
              have hw8 := hw8.symm
              subst hw8
              go_wp2
              go_roundw
              case rel => exact ⟨j + 1, by omega, by go_num, HI7, HB7⟩
              case measure => simp [intOf]; omega
      · go_wp2
        go_ret
        exact ⟨rfl, hB.out⟩
end Go.Proofs.YtiabdbeejkadnaaGreatDoor

/- The law Queues, walked. Own work of the verifier. -/
namespace Go.Proofs.YtiabdbeejkadnaaGreatDoor
open Go.RowKit Go.Maps

set_option maxHeartbeats 1000000 in
set_option maxRecDepth 1000000 in
theorem plays_nil (ao : Option Addr) (cap : Nat) (wv : Value) (w : World) :
    Calls Tryz.prog 11 #[.slice ao 0 cap, wv] w fun e w' => e = .returned (.bool true) ∧ Below w.heap.size w w' := by
  go_enter Tryz.func11, Tryz.ntmps11
  go_wp2_with fail
  refine (small_nil ao cap w).mono ?_
  rintro e w1 ⟨rfl, hw1⟩
  have hw1 := hw1.symm
  subst hw1
  go_wp2
  refine wp_loop_rounds 1 ?_
  rw [rounds_succ]
  go_wp2
  go_ret
  exact ⟨rfl, alloc_below _ _⟩

set_option maxHeartbeats 1000000 in
set_option maxRecDepth 1000000 in
theorem queues_nil (ao : Option Addr) (cap : Nat) (w : World) :
    Calls Tryz.prog 3 #[.slice ao 0 cap] w fun e w' => e = .returned (.bool true) ∧ Below w.heap.size w w' := by
  go_enter Tryz.func3, Tryz.ntmps3
  go_wp2_with fail
  refine (plays_nil ao cap _ _).mono ?_
  rintro e w1 ⟨rfl, hb⟩
  have HB := hide hb
  clear hb
  go_wp2
  go_ret
  exact ⟨rfl, (alloc_below _ _).trans (HB.out.mono (by simp))⟩

set_option maxHeartbeats 1000000 in
set_option maxRecDepth 1000000 in
theorem queues_some (blk off n cap : Nat) (O : Nat → OpD) (w : World) (h : Script w blk off n O) (hs : ∀ i, i < n → (O i).s.size ≤ 2 ^ 48) (hn : n ≤ 2 ^ 48) (hO : ∀ i, i < n → (-9223372036854775808 ≤ (O i).a ∧ (O i).a ≤ 9223372036854775807) ∧ (Lit.int .i64 (O i).b).wf = true)
    (hg : GCell w) (hb : blk < w.heap.size) :
    Calls Tryz.prog 3 #[.slice (some ⟨blk, off, none⟩) n cap] w fun e w' => e = .returned (.bool true) ∧ Below w.heap.size w w' := by
  have HC := hide (plays_some blk off n cap w.heap.size O (w.alloc (.cells #[.int .i64 9, .int .i64 10, .int .i64 11, .int .i64 12, .int .i64 13] 3)) (h.below (alloc_below _ _) hb) hs hn hO (hg.below (alloc_below _ _)) (by simp; omega) (heap_alloc_new w _))
  clear h hs hO hg
  go_enter Tryz.func3, Tryz.ntmps3
  go_wp2_with fail
  refine HC.out.mono ?_
  rintro e w1 ⟨rfl, hb⟩
  have HB := hide hb
  clear hb
  go_wp2
  go_ret
  exact ⟨rfl, (alloc_below _ _).trans (HB.out.mono (by simp))⟩
end Go.Proofs.YtiabdbeejkadnaaGreatDoor

/- The law Queues: the script opened. Own work of the verifier. -/
namespace Go.Proofs.YtiabdbeejkadnaaGreatDoor
open Go.ChangeShapes Go.WideShapes Go.RowKit Go.Deep

theorem ce33 : Tryz.prog.cellsOf 52 = 5 := by kernel_rfl
theorem ci : Tryz.prog.cellsOf 3 = 1 := by kernel_rfl
theorem cst : Tryz.prog.cellsOf 9 = 1 := by kernel_rfl
def opDatum {H : Type} (o : OpD) : DataW H := .agg [.lit (.int .i64 o.k), .lit (.int .i64 o.a), .lit (.int .i64 o.b), .lit (.int .i64 o.c), .lit (.string o.s.data.toList)]
/-- one step, from its five cells -/
theorem open_five {H : Type} {enc : TypeId × Value → H} {P : Program} {W : World} {base : Nat} {sp : Nat → Bool} {held : Bool} {n : Nat} {e : TypeId} {f0 f1 f2 f3 f4 : Field} {cs : List Value} {x : DataW H × List MemPlace} (he : P.underlying e = some (.struct #[f0, f1, f2, f3, f4]))
    (o0 : f0.offset = 0) (o1 : f1.offset = 1) (o2 : f2.offset = 2) (o3 : f3.offset = 3) (o4 : f4.offset = 4) (c0 : P.cellsOf f0.type = 1) (c1 : P.cellsOf f1.type = 1) (c2 : P.cellsOf f2.type = 1) (c3 : P.cellsOf f3.type = 1) (c4 : P.cellsOf f4.type = 1)
    (u0 : P.underlying f0.type = some (.int .i64)) (u1 : P.underlying f1.type = some (.int .i64)) (u2 : P.underlying f2.type = some (.int .i64)) (u3 : P.underlying f3.type = some (.int .i64)) (u4 : P.underlying f4.type = some .string)
    (h : DataW.trod enc P W base sp held n e cs = some x) (hlen : cs.length = 5) :
    ∃ o : OpD, cs = [.int .i64 o.k, .int .i64 o.a, .int .i64 o.b, .int .i64 o.c, .string o.s] ∧ (Lit.int .i64 o.a).wf = true ∧ (Lit.int .i64 o.b).wf = true ∧ x.1 = opDatum o := by
  obtain ⟨xs, k, hk, hxy, _, hxl, hf⟩ := DataW.trod_struct he h
  match xs, hxl, cs, hlen with
  | [y0, y1, y2, y3, y4], _, [v0, v1, v2, v3, v4], _ =>
    have g0 := hf 0 f0 rfl
    have g1 := hf 1 f1 rfl
    have g2 := hf 2 f2 rfl
    have g3 := hf 3 f3 rfl
    have g4 := hf 4 f4 rfl
    simp [o0, o1, o2, o3, o4, c0, c1, c2, c3, c4] at g0 g1 g2 g3 g4
    obtain ⟨n0, e0, rfl, w0⟩ := DataW.trod_int u0 g0
    obtain ⟨n1, e1, rfl, w1⟩ := DataW.trod_int u1 g1
    obtain ⟨n2, e2, rfl, w2⟩ := DataW.trod_int u2 g2
    obtain ⟨n3, e3, rfl, w3⟩ := DataW.trod_int u3 g3
    obtain ⟨s, e4, rfl, w4⟩ := DataW.trod_string u4 g4
    simp only [List.cons.injEq, and_true] at e0 e1 e2 e3 e4
    subst e0 e1 e2 e3 e4
    exact ⟨⟨n0, n1, n2, n3, s⟩, rfl, w1, w2, by rw [hxy]; simp [opDatum]⟩
theorem open_script {H : Type} {enc : TypeId × Value → H} {W : World} {base : Nat} {sp : Nat → Bool} {held : Bool} {fuel : Nat} {cs : List Value} {x : DataW H × List MemPlace} (h : DataW.trod enc Tryz.prog W base sp held fuel 22 cs = some x) :
    (cs = [.slice none 0 0] ∧ x = (.nil, [])) ∨
    ∃ (a : Addr) (len cap : Nat) (O : Nat → OpD) (rest : List (DataW H)), cs = [.slice (some a) len cap] ∧ x.1 = .slice ((List.range len).map fun i => opDatum (O i)) rest ∧
      ∀ i, i < len → (W.cell? (a.add (i * 5)) = some (.int .i64 (O i).k) ∧ W.cell? (a.add (i * 5 + 1)) = some (.int .i64 (O i).a) ∧ W.cell? (a.add (i * 5 + 2)) = some (.int .i64 (O i).b) ∧ W.cell? (a.add (i * 5 + 3)) = some (.int .i64 (O i).c) ∧ W.cell? (a.add (i * 5 + 4)) = some (.string (O i).s)) ∧
        (Lit.int .i64 (O i).a).wf = true ∧ (Lit.int .i64 (O i).b).wf = true := by
  rcases open_slice Tryz.underlying22 h with h0 | ⟨a, len, cap, m, n, D, Pl, rfl, hb, hl, hm, hmm, rfl, hx⟩
  · exact Or.inl h0
  right
  have hlm : len ≤ m := by rw [hmm]; split <;> omega
  have each : ∀ i, i < len → ∃ o : OpD, (W.cell? (a.add (i * 5)) = some (.int .i64 o.k) ∧ W.cell? (a.add (i * 5 + 1)) = some (.int .i64 o.a) ∧ W.cell? (a.add (i * 5 + 2)) = some (.int .i64 o.b) ∧ W.cell? (a.add (i * 5 + 3)) = some (.int .i64 o.c) ∧ W.cell? (a.add (i * 5 + 4)) = some (.string o.s)) ∧
      (Lit.int .i64 o.a).wf = true ∧ (Lit.int .i64 o.b).wf = true ∧ D i = opDatum o := by
    intro i hi
    obtain ⟨cs', h1, h2⟩ := hx i (by omega)
    rw [ce33] at h1
    obtain ⟨_, hlen, hcell⟩ := World.cells?_some h1
    obtain ⟨o, rfl, wa, wb, hd⟩ := open_five Tryz.underlying52 rfl rfl rfl rfl rfl ci ci ci ci cst Tryz.underlying3 Tryz.underlying3 Tryz.underlying3 Tryz.underlying3 Tryz.underlying9 h2 hlen
    have c0 := hcell 0 (by omega)
    have c1 := hcell 1 (by omega)
    have c2 := hcell 2 (by omega)
    have c3 := hcell 3 (by omega)
    have c4 := hcell 4 (by omega)
    rw [add_add] at c0 c1 c2 c3 c4
    exact ⟨o, ⟨c0, c1, c2, c3, c4⟩, wa, wb, hd⟩
  have hinh : Inhabited OpD := ⟨⟨0, 0, 0, 0, ⟨#[]⟩⟩⟩
  obtain ⟨O, hO⟩ := choose_lt each
  refine ⟨a, len, cap, O, (List.range (m - len)).map (fun j => D (len + j)), rfl, ?_, fun i hi => ⟨(hO i hi).1, (hO i hi).2.1, (hO i hi).2.2.1⟩⟩
  show DataW.slice ((List.range len).map D) _ = _
  rw [List.map_congr_left (fun i hi => (hO i (List.mem_range.1 hi)).2.2.2)]

theorem weightsAll_in {H : Type} {P : Program} {e : TypeId} : ∀ {l : List (DataW H)} {d : DataW H}, d ∈ l → ∀ n ∈ d.weights P e, n ∈ DataW.weightsAll P e l
  | d' :: r, d, hd, n, hn => by
    simp only [DataW.weightsAll, List.mem_append]
    rcases List.mem_cons.1 hd with rfl | h
    · exact Or.inl hn
    · exact Or.inr (weightsAll_in h n hn)
/-- how far the form's reach goes: the steps, and each step's text -/
theorem script_sized {H : Type} {ts : List TypeId} {ds : List (DataW H)} {len : Nat} {O : Nat → OpD} {rest : List (DataW H)} (h : (DataW.weightsEach Tryz.prog ts ds).all (· ≤ reachBytes) = true) (ht : ts[0]? = some 22) (hd : ds[0]? = some (.slice ((List.range len).map fun i => opDatum (O i)) rest)) :
    len ≤ 2 ^ 48 ∧ ∀ i, i < len → (O i).s.size ≤ 2 ^ 48 := by
  have hr : reachBytes ≤ 2 ^ 47 := Nat.le_of_lt reachBytes_lt
  refine ⟨?_, fun i hi => ?_⟩
  · have h1 := sized_slice h ht hd Tryz.underlying22
    have hb : Tryz.prog.bytesOf 52 = 48 := by kernel_rfl
    rw [hb, List.length_map, List.length_range] at h1
    omega
  · have h1 : (O i).s.data.toList.length ≤ reachBytes := by
      refine of_decide_eq_true (List.all_eq_true.1 h _ (DataW.weights_mem_each ht hd _ ?_))
      simp only [DataW.weights, Tryz.underlying22, List.mem_cons, List.mem_append]
      refine Or.inr (Or.inl (weightsAll_in (List.mem_map.2 ⟨i, List.mem_range.2 hi, rfl⟩) _ ?_))
      simp [opDatum, DataW.weights, DataW.weightsEach, Tryz.underlying52]
    rw [blen] at h1
    omega
end Go.Proofs.YtiabdbeejkadnaaGreatDoor
