/- The law: told (Disk, none). Own work of the verifier. -/
import Derived.Test.YtiabdbeejkadnaaGreatDoorPairG
namespace Go.Proofs.YtiabdbeejkadnaaGreatDoor
open Go.RowKit Go.Maps

theorem RefAt.now {w : World} {F : Nat → Prop} {m : Nat} {S : St} (h : RefAt w F m S) : w.cell? ⟨m, 4, none⟩ = some (.int .i64 S.now) := by
  obtain ⟨G, ar, cr, at_, ct, af, cf, ad, cd, h⟩ := h
  exact h.c4

set_option maxHeartbeats 1000000 in
set_option maxRecDepth 1000000 in
theorem law_told_disk (wb B N : Nat) (FW : Nat → Prop) (ps : List PQ) (bs is : List (Option Addr × Nat)) (i : Nat) (a b c : Int) (s : ByteArray) (w : World) (h : AllAt w wb FW ps bs is B N) (hi : i < ps.length) (hN : N ≤ 100000) :
    Calls Tryz.prog 49 #[.pointer (some ⟨wb, 0, none⟩), .agg #[.pointer (some ⟨(ps[i]).x, 0, none⟩), .pointer (some ⟨(ps[i]).m, 0, none⟩)], opV 8 a b c s] w fun e w' => Steps w wb B N e w' := by
  unfold opV
  have HA := hide h
  have hpair := h.pair i hi
  clear h
  generalize (ps[i]).x = x at *
  generalize (ps[i]).m = m at *
  generalize (ps[i]).S = S at *
  generalize (ps[i]).F = F at *
  have hwf := hpair.wf
  obtain ⟨Fx, Fm, hP, hM, hd, hF⟩ := hpair
  have hb0 := hide (askW_below x m 8 a b c s w)
  have HP := hide (hP.below hb0.out)
  have HM := hide (hM.below hb0.out)
  have hsz := askW_size x m 8 a b c s w
  have HO := hide (askW_p x m 8 a b c s w)
  have hdl : Hid (S.disk.length = 64) := hwf.disk
  clear hP hM hd hF
  go_enter Tryz.func49, Tryz.ntmps49
  go_wp2_with fail
  refine (prog_disk S Fx x (askW x m 8 a b c s w) HP.out).mono ?_
  rintro e w1 ⟨ao, cap, rfl, hrow, hb1⟩
  obtain ⟨g, cur, rfl, hg, hgb, hcap, hcs⟩ := Row.some hrow (by omega)
  have hz1 : w.heap.size + 1 < w1.heap.size := by have := hb1.size; omega
  have hz1' : w.heap.size < w1.heap.size := by omega
  obtain ⟨p0, p1, _⟩ := cells2 ((hb1.block w.heap.size (by omega)).trans HO.out)
  have HB1 := hide (hb0.out.trans (hb1.mono (by omega)))
  have HROW := hide hrow
  have HP1 := hide (HP.out.below hb1)
  have HM1 := hide (HM.out.below hb1)
  have n4 := HM1.out.now
  have hcv : (convert 86 9 (.slice (some ⟨g, 0, none⟩) 64 cap)).run Tryz.prog w1 = .ok (.string ⟨S.disk.toArray⟩) w1 := by
    have := run_convert_bytes_back (P := Tryz.prog) w1 86 9 5 ⟨g, 0, none⟩ cap S.disk Tryz.underlying86 Tryz.underlying5 Tryz.underlying9 (fun i hi => by
      rw [Addr.add_lit, Nat.zero_add]
      show w1.cell? _ = _
      rw [Row.cellAt HROW.out i (by have := hdl.out; omega)]
      simp [encB, hi])
    rw [hdl.out] at this
    exact this
  have hnow : (S.now == S.now) = true := by simp
  have HCV := hide hcv
  clear hb1 hrow hcv hgb hcs hg hcap
  generalize hDD : S.disk.toArray = DD at *
  have HDD : Hid (S.disk.toArray = DD) := hDD
  clear hDD
  go_wp2_with fail
  refine (prog_now S _ x w1 HP1.out).mono ?_
  rintro e w2 ⟨rfl, hw2⟩
  have hw2 := hw2.symm
  subst hw2
  go_wp2_with fail
  refine (ref_disk S Fm m w1 HM1.out (by have := hdl.out; omega)).mono ?_
  rintro e w2 ⟨rfl, hw2⟩
  have hw2 := hw2.symm
  subst hw2
  rw [HDD.out]
  have hcv := HCV.out
  go_wp2_with fail
  have hl1 : Hid (Row w1 (fun k => w.heap.size ≤ k) 5 1 (some ⟨g, 0, none⟩) 64 cap (encB S.disk)) := HROW.out.mono (fun k hk => by omega)
  refine (law_mine_row ((HA.out.below HB1.out).wat) hl1.out HA.out.wat.lt HB1.out.size (by have := HA.out.lens; omega) HA.out.caps.1).mono ?_
  rintro e w4 ⟨rfl, FW', G, bs', hW, hK, hG, hF', hl', hc'⟩
  have HX := hide (HA.out.wOp HB1.out hW hK hG hF' (by have := HA.out.lens; omega) ⟨hc', HA.out.caps.2⟩)
  clear hW hK hG hF' hl' hc'
  go_wp2
  go_ret
  exact ⟨rfl, ⟨_, _, _, _, HX.out.1⟩, HX.out.2⟩

set_option maxHeartbeats 1000000 in
set_option maxRecDepth 1000000 in
theorem law_told_none (wb B N : Nat) (x m : Nat) (k a b c : Int) (s : ByteArray) (w : World) (h : Inv w wb B N) (h6 : k ≠ 6) (h8 : k ≠ 8) (h9 : k ≠ 9) (h12 : k ≠ 12) (h13 : k ≠ 13) :
    Calls Tryz.prog 49 #[.pointer (some ⟨wb, 0, none⟩), .agg #[.pointer (some ⟨x, 0, none⟩), .pointer (some ⟨m, 0, none⟩)], opV k a b c s] w fun e w' => e = .returned (.bool true) ∧ Inv w' wb B N ∧ Below B w w' := by
  unfold opV
  have b6 : (k == 6) = false := beq_eq_false_iff_ne.2 h6
  have b8 : (k == 8) = false := beq_eq_false_iff_ne.2 h8
  have b9 : (k == 9) = false := beq_eq_false_iff_ne.2 h9
  have b12 : (k == 12) = false := beq_eq_false_iff_ne.2 h12
  have b13 : (k == 13) = false := beq_eq_false_iff_ne.2 h13
  have HI := hide (h.below (askW_below x m k a b c s w))
  clear h h6 h8 h9 h12 h13
  go_enter Tryz.func49, Tryz.ntmps49
  go_wp2
  go_ret
  exact ⟨rfl, HI.out.1, HI.out.2⟩

theorem law_told (wb B N : Nat) (FW : Nat → Prop) (ps : List PQ) (bs is : List (Option Addr × Nat)) (i : Nat) (k a b c : Int) (s : ByteArray) (w : World) (h : AllAt w wb FW ps bs is B N) (hi : i < ps.length) (hN : N ≤ 100000) (h9 : k ≠ 9) (h12 : k ≠ 12) (h13 : k ≠ 13) :
    Calls Tryz.prog 49 #[.pointer (some ⟨wb, 0, none⟩), .agg #[.pointer (some ⟨(ps[i]).x, 0, none⟩), .pointer (some ⟨(ps[i]).m, 0, none⟩)], opV k a b c s] w fun e w' => Steps w wb B N e w' := by
  by_cases h6 : k = 6
  · subst h6; exact law_told_waiting wb B N FW ps bs is i a b c s w h hi hN
  · by_cases h8 : k = 8
    · subst h8; exact law_told_disk wb B N FW ps bs is i a b c s w h hi hN
    · refine (law_told_none wb B N _ _ k a b c s w ⟨_, _, _, _, h⟩ h6 h8 h9 h12 h13).mono ?_
      rintro e w' ⟨rfl, h1, h2⟩
      exact ⟨rfl, h1.more (by omega), h2⟩
end Go.Proofs.YtiabdbeejkadnaaGreatDoor
