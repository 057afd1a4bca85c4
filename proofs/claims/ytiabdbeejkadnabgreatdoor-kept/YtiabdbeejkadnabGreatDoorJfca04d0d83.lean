import Derived.Test.YtiabdbeejkadnabGreatDoorJ82fa0ef6cd
import Derived.Deep.AppendLies
import Derived.Deep.Cut
import Derived.Deep.CutRange
import Derived.Deep.RegionHeld3
import Derived.Deep.RegionWith
import Derived.Deep.RegionLaw
import Derived.Deep.Light
import Derived.BigQuiet
/- The keeps: Kept, the walk. Own work of the verifier. -/
namespace Go.Proofs.YtiabdbeejkadnabGreatDoor
open Go.RowKit Go.Maps

set_option maxHeartbeats 40000000 in
set_option maxRecDepth 1000000 in
theorem kept_walk (depth : Int) (s kp : ByteArray) (w : World) (hg : GCell w) (h1 : -9223372036854775808 ≤ depth ∧ depth ≤ 9223372036854775807) (hs0 : s.size ≤ maxLen) (hk0 : kp.size ≤ maxLen) :
    Calls Tryz.prog 5 #[.int .i64 depth, .string s, .string kp] w fun e w' => e = .returned (.bool true) ∧ Below w.heap.size w w' := by
  have hsz : s.size ≤ 9223372036854775807 := hs0
  have hkz : kp.size ≤ 9223372036854775807 := hk0
  by_cases hbig : 65536 < s.size
  · have hbi : (65536 : Int) < (s.size : Int) := by omega
    go_enter Tryz.func5, Tryz.ntmps5
    go_wp2
    go_ret
    exact ⟨rfl, Below.refl _ _⟩
  by_cases hbig2 : 65536 < kp.size
  · have hbi : ¬ (65536 : Int) < (s.size : Int) := by omega
    have hbi2 : (65536 : Int) < (kp.size : Int) := by omega
    go_enter Tryz.func5, Tryz.ntmps5
    go_wp2
    go_ret
    exact ⟨rfl, Below.refl _ _⟩
  have hbi : ¬ (65536 : Int) < (s.size : Int) := by omega
  have hbi2 : ¬ (65536 : Int) < (kp.size : Int) := by omega
  obtain ⟨i0, hi, hi0, hi1, hi2⟩ := info_parts info_bool
  have hq := kpickM_lt depth 4 (by omega)
  have HBG := hide (kw_begun w depth hg h1)
  generalize kpickM depth 4 = dp at *
  clear h1 hg hs0 hk0 hsz hkz
  go_enter Tryz.func5, Tryz.ntmps5
  go_wp2_with fail
  refine HBG.out.mono ?_
  rintro e w1 ⟨wb, xb, rfl, F1, hk1⟩
  have HA0 : Hid (ActTo w w1 wb xb 0 0 (1 + dp)) := ⟨F1, _, [], hk1, KInv.new (1 + dp) (by omega), by simp, by show (0 : Int) ≤ 0; omega, rfl⟩
  clear hk1 HBG
  go_wp2
  go_loopw [8, 9] (fun _ vi wr => ∃ i : Nat, i ≤ s.size ∧ vi = .int .i64 i ∧ Hid (ActTo w wr wb xb i i (1 + dp))) (fun _ vi _ => s.size - (intOf vi).toNat)
  case atStart => exact ⟨0, by omega, rfl, HA0⟩
  case round =>
    clear HA0
    obtain ⟨i, hi', rfl, hA⟩ := hrel
    by_cases hlt : i < s.size
    · have hlti : (i : Int) < (s.size : Int) := by omega
      obtain ⟨F2, S2, rs2, hk2, hI2, hl2, hn2, hD2⟩ := hA.out
      have HACT := hide (kw_act w wr F2 wb xb S2 rs2 s[i] (i + 1) (i + 1) (1 + dp) hk2 hI2 (by omega) (by omega) (by omega) (by omega) hD2)
      clear hA hk2 hI2 hn2 hD2
      go_wp2_with fail
      refine HACT.out.mono ?_
      rintro e w2 ⟨rfl, hto⟩
      have HTO := hide hto
      clear hto HACT
      go_wp2
      go_roundw
      case rel => exact ⟨i + 1, by omega, by go_num, by push_cast; exact HTO⟩
      case measure => simp [intOf]; omega
    · obtain ⟨F, S, rs, hk, hI, hl, hn, hD⟩ := hA.out
      have HI := hide hI
      have hlast : S.last ≤ 1000000 := by rw [hI.last]; omega
      have hrl : rs.length ≤ 65536 := by omega
      have hO : One w wr wb xb S rs (fun _ => False) := ⟨F, hk, fun k hk => hk.elim⟩
      obtain ⟨q0, qz⟩ := hO.q
      have HDI := hide (o_disk hO)
      clear hA hk hI hD hO
      go_wp2_with fail
      refine HDI.out.mono ?_
      rintro e w2 ⟨a1, c1, rfl, hR1, hO2, hb2⟩
      clear q0 qz HDI
      obtain ⟨q0, qz⟩ := hO2.q
      have HFL := hide (o_flights hO2 hlast)
      have HR1 := hide hR1
      clear hO2 hR1
      go_wp2_with fail
      refine HFL.out.mono ?_
      rintro e w3 ⟨a2, c2, vs, rfl, hA3, hO3, hb3⟩
      have HR3 := hide (HR1.out.more hb3)
      have HA3 := hide hA3
      have HO3 := hide hO3
      clear q0 qz HFL HR1 hb2 hb3 hA3 hO3
      generalize XNew (XNew (fun _ => False) wr w2) w2 w3 = X at *
      go_wp2
      go_loopw [12, 13] (fun vl vi w4 => ∃ (j cap : Nat) (ao : Option Addr), j ≤ kp.size ∧ vi = .int .i64 j ∧ vl = .slice ao j cap ∧ Hid (Row w4 (fun b => w3.heap.size ≤ b) 4 1 ao j cap (encO ((bitsM kp).take j))) ∧ Hid (Below w3.heap.size w3 w4)) (fun _ vi _ => kp.size - (intOf vi).toNat)
      case atStart => exact ⟨0, 0, none, Nat.zero_le _, rfl, rfl, Row.nil _ _ _ _, Below.refl _ _⟩
      case round =>
        obtain ⟨j, cap, ao, hj, rfl, rfl, hrow, hb⟩ := hrel
        by_cases hlt : j < kp.size
        · have hji : (j : Int) < (kp.size : Int) := by omega
          have HTK := hide (bits_take hlt)
          have HOW : Hid ((wr.alloc (.cells #[.bool (bitB kp[j])] 4)).ownsRow 0 4 1 (.slice ao j cap) j (encO ((bitsM kp).take j))) := (hrow.out.alloc _).1
          have HW : Hid (∀ (t : Nat) (u : Value), [Value.bool (bitB kp[j])][t]? = some u → (wr.alloc (.cells #[.bool (bitB kp[j])] 4)).cell? ((⟨wr.heap.size, 0, none⟩ : Addr).add t) = some u) := fun t u => news_new t u
          go_wp2_with (at_builtin; go_must (refine wpList_append_lies _ rfl (.tmp 79) (.tmp 85) 52 rfl 0 4 i0 (.bool false) 1 1 Tryz.underlying52 hi hi0 hi1 hi2 rfl (by decide) (.slice ao j cap) j (encO ((bitsM kp).take j)) rfl HOW.out ⟨wr.heap.size, 0, none⟩ 1 1 [Value.bool (bitB kp[j])] rfl rfl HW.out (by intro u hu; simp at hu; subst hu; rfl) (by decide) (by unfold maxLen; omega) (by omega) (Nat.zero_le _) (wr.heap.size + 1) (by simp) ?_; intro g cap' w2 hown hgrow hat hlt3; have HX := hide (own_rel hb.out hrow.out hgrow hown hat); clear hown hgrow hat hlt3))
          go_roundw
          case rel => exact ⟨j + 1, cap', some ⟨g, 0, none⟩, by omega, by go_num, rfl, by rw [HTK.out]; simpa [Hid, encO] using HX.out.2, HX.out.1⟩
          case measure => simp [intOf]; omega
        · have hjs : j = kp.size := by omega
          subst hjs
          have hkl : (bitsM kp).length = kp.size := bitsM_len kp
          have hrow4 : Row wr (XNew X w3 wr) 4 1 ao (bitsM kp).length cap (encO (bitsM kp)) := by
            have := hrow.out.news X
            rw [List.take_of_length_le (by omega)] at this
            rw [hkl]; exact this
          have HO4 := hide (HO3.out.below hb.out)
          have HR4 := hide (HR3.out.more hb.out)
          have HA4 := hide (HA3.out.more hb.out)
          have HC := hide (o_crash (bitsM kp) ao cap HO4.out hlast hrow4)
          have HK4 := hide hrow4
          rw [hkl] at HC HK4
          obtain ⟨q0, qz⟩ := HO4.out.q
          generalize bitsM kp = K at *
          clear HR3 HA3 HO3 hrow hb hrow4 hi hi0 hi1 hi2
          generalize XNew X w3 wr = X4 at *
          go_wp2_with fail
          refine HC.out.mono ?_
          rintro e w5 ⟨rfl, hO5, hs5⟩
          have HR5 := hide (HR4.out.mine hs5)
          have HA5 := hide (HA4.out.mine hs5)
          have HK5 := hide (HK4.out.mine hs5)
          clear q0 qz HC hs5 HR4 HA4 HK4 HO4
          obtain ⟨q0, qz⟩ := hO5.q
          have HDI := hide (o_disk hO5)
          clear hO5
          go_wp2_with fail
          refine HDI.out.mono ?_
          rintro e w6 ⟨a3, c3, rfl, hR6, hO6, hb6⟩
          have HIS := hide hR6
          have HR6 := hide (HR5.out.more hb6)
          have HA6 := hide (HA5.out.more hb6)
          have HK6 := hide (HK5.out.more hb6)
          clear q0 qz HDI hR6 HR5 HA5 HK5 hb6
          generalize XNew X4 w5 w6 = X6 at *
          obtain ⟨q0, qz⟩ := hO6.q
          have HWA := hide (o_wait hO6)
          rw [show (waitM (crashM S K)).length = 0 from rfl] at HWA
          clear hO6
          go_wp2_with fail
          refine HWA.out.mono ?_
          rintro e w7 ⟨a4, c4, rfl, hO7, hb7⟩
          have HIS7 := hide (HIS.out.more hb7)
          have HR7 := hide (HR6.out.more hb7)
          have HA7 := hide (HA6.out.more hb7)
          have HK7 := hide (HK6.out.more hb7)
          clear q0 qz HWA HIS HR6 HA6 HK6 hb7
          generalize XNew X6 w6 w7 = X7 at *
          obtain ⟨q0, qz⟩ := hO7.q
          have HFL := hide (o_flights hO7 hlast)
          rw [show (crashM S K).flights.length = 0 from rfl] at HFL
          clear hO7
          go_wp2_with fail
          refine HFL.out.mono ?_
          rintro e w8 ⟨a5, c5, vs5, rfl, _, hO8, hb8⟩
          have HO8 := hide hO8
          have HIS8 := hide (HIS7.out.more hb8)
          have HR8 := hide (HR7.out.more hb8)
          have HA8 := hide (HA7.out.more hb8)
          have HK8 := hide (HK7.out.more hb8)
          clear q0 qz HFL HIS7 HR7 HA7 HK7 hb8 hO8
          generalize XNew X7 w7 w8 = X8 at *
          have hcv := conv_disk HR8.out (by rw [HI.out.wf.disk])
          have hfl4 : S.flights.length ≤ 4 := by have := HI.out.wf.flLen; have := HI.out.wf.depth; omega
          have hwl : ∀ i, (wrNums (S.flights.take i)).length ≤ 1000000 := fun i => by
            have h1 := wrNums_len HI.out.wf
            have h2 := HI.out.wf.reqsLen
            have h3 := wr_take_len S.flights i
            omega
          go_wp2
          clear hcv HR8
          go_loopw [17, 18, 19, 20, 21] (fun vw vn vi _ _ wz => ∃ i2 : Nat, i2 ≤ S.flights.length ∧ vi = .int .i64 i2 ∧ vn = .int .i64 (wrNums (S.flights.take i2)).length ∧ vw = .string (txt (crashD S K (wrNums (S.flights.take i2)) 0 S.disk)) ∧ Hid (Below w8.heap.size w8 wz)) (fun _ _ vi _ _ _ => S.flights.length - (intOf vi).toNat)
          case atStart => exact ⟨0, by omega, rfl, rfl, rfl, Below.refl _ _⟩
          case round =>
            obtain ⟨i2, hi2', rfl, rfl, rfl, hbz⟩ := hrel
            by_cases hlt2 : i2 < S.flights.length
            · have hlt2i : (i2 : Int) < (S.flights.length : Int) := by omega
              obtain ⟨g, av, cv, rfl, hgX, hgz, k0, k1, k2, k3, krow⟩ := HA8.out.cells hlt2
              have z8 := hbz.out.size
              have d0 := (hbz.out.cell (p := ⟨g, i2 * 4, none⟩) hgz).trans k0
              have d3 := (hbz.out.cell (p := ⟨g, i2 * 4 + 3, none⟩) hgz).trans k3
              have hgw : g < wr.heap.size := by omega
              have HROW := hide krow
              have HK0 := hide k0
              have HK3 := hide k3
              obtain ⟨o1, o2, o3, o4, o5, o6⟩ := HI.out.fi.ok _ (List.getElem_mem hlt2)
              have hmem := List.getElem_mem hlt2
              have HNR := hide (wr_next hlt2)
              have hwn := hwl i2
              have hwn1 := hwl (i2 + 1)
              have HKW : Hid ((S.flights[i2]).write = true → ∀ n ∈ (S.flights[i2]).requests, n ∈ airs S ∧ (rqOf S n).write = true) := fun hw n hn => kept_write HI.out hmem hw hn
              clear k0 k1 k2 k3 krow hmem
              generalize hfw : (S.flights[i2]).write = fw at *
              generalize hfr : (S.flights[i2]).requests = ns at *
              clear hfw hfr
              generalize hwq : wrNums (S.flights.take i2) = wn at *
              clear hwq
              have hn0 : (0 : Int) < (ns.length : Int) := by omega
              cases fw with
              | false =>
                have HN2 : Hid (wrNums (S.flights.take (i2 + 1)) = wn) := HNR.out
                clear HNR o1 o2 o3 o4 o5 o6
                go_wp2
                obtain ⟨w9, hw9⟩ : ∃ w9, w9 = wr := ⟨_, rfl⟩
                subst hw9
                go_loopw [17, 18, 20, 21] (fun vw vn vk _ wy => vk = .int .i64 0 ∧ vn = .int .i64 wn.length ∧ vw = .string (txt (crashD S K wn 0 S.disk)) ∧ Hid (wy = w9)) (fun _ _ _ _ _ => 0)
                case atStart => exact ⟨rfl, rfl, rfl, rfl⟩
                case round =>
                  obtain ⟨rfl, rfl, rfl, hwy⟩ := hrel
                  have hwy := hwy.out.symm
                  subst hwy
                  go_wp2
                  go_roundw
                  case rel => exact ⟨i2 + 1, by omega, by go_num, by rw [HN2.out], by rw [HN2.out], hbz⟩
                  case measure => simp [intOf]; omega
              | true =>
                have HN2 : Hid (wrNums (S.flights.take (i2 + 1)) = wn ++ ns) := HNR.out
                have hnl : wn.length + ns.length ≤ 1000000 := by rw [HN2.out, List.length_append] at hwn1; exact hwn1
                have HKN : Hid (∀ n ∈ ns, n ∈ airs S ∧ (rqOf S n).write = true) := HKW.out rfl
                clear HNR o1 o2 o3 o4 o5 o6 HKW
                go_wp2
                clear d0 d3
                go_loopw [17, 18, 20, 21] (fun vw vn vk _ wy => ∃ k : Nat, k ≤ ns.length ∧ vk = .int .i64 k ∧ vn = .int .i64 ((wn.length : Int) + k) ∧ vw = .string (txt (crashD S K (wn ++ ns.take k) 0 S.disk)) ∧ Hid (Below w8.heap.size w8 wy)) (fun _ _ vk _ _ => ns.length - (intOf vk).toNat)
                case atStart => exact ⟨0, by omega, rfl, by simp, by simp, hbz⟩
                case round =>
                  clear hbz z8 hgw
                  obtain ⟨k, hkn, rfl, rfl, rfl, hby⟩ := hrel
                  have z8 := hby.out.size
                  have d0 := (hby.out.cell (p := ⟨g, i2 * 4, none⟩) hgz).trans HK0.out
                  have d3 := (hby.out.cell (p := ⟨g, i2 * 4 + 3, none⟩) hgz).trans HK3.out
                  have hgw : g < wr.heap.size := by omega
                  by_cases hkl : k < ns.length
                  · have hkli : (k : Int) < (ns.length : Int) := by omega
                    obtain ⟨hair, hwrt⟩ := HKN.out _ (List.getElem_mem hkl)
                    obtain ⟨ir, hir, hnum, hpg, hdt, hp16, hsz4, _, _⟩ := kept_rq HI.out hair
                    have hds := hsz4 hwrt
                    have HCR : Hid (crashD S K (wn ++ ns.take (k + 1)) 0 S.disk = if keptAt K (wn.length + k) then putR S (crashD S K (wn ++ ns.take k) 0 S.disk) ns[k] else crashD S K (wn ++ ns.take k) 0 S.disk) := by
                      rw [Hid, List.take_succ_eq_append_getElem hkl, ← List.append_assoc, crashD_snoc, List.length_append, List.length_take, Nat.min_eq_left (by omega)]
                    have hwk : (wn.length : Int) + (k : Int) ≤ 1000000 := by omega
                    have hwk1 : IntKind.i64.wrap ((wn.length : Int) + (k : Int) + 1) = (wn.length : Int) + (k : Int) + 1 := by rw [IntKind.wrap_i64]; omega
                    have hwk2 : (wn.length : Int) + ((k + 1 : Nat) : Int) = (wn.length : Int) + (k : Int) + 1 := by omega
                    clear hair hwrt hsz4
                    by_cases hnk : wn.length + k < kp.size
                    · obtain ⟨gl, _, hgl, _, hglb, _, _⟩ := Row.some HK8.out (by omega)
                      subst hgl
                      have hglz := lt_of_heap hglb
                      have ck : wr.cell? ⟨gl, wn.length + k, none⟩ = some (.bool (keptAt K (wn.length + k))) := by
                        rw [hby.out.cell (p := ⟨gl, wn.length + k, none⟩) hglz, Row.cellAt HK8.out (wn.length + k) (by omega)]
                        have hkK : wn.length + k < K.length := by omega
                        simp [encO, keptAt, hkK]
                      have hglw : gl < wr.heap.size := by omega
                      have hni : (wn.length : Int) + (k : Int) < (kp.size : Int) := by omega
                      have hta : ((wn.length : Int) + (k : Int)).toNat = wn.length + k := by omega
                      have hge0 : (0 : Int) ≤ (wn.length : Int) + (k : Int) := by omega
                      clear hglb hglz
                      cases hkb : keptAt K (wn.length + k) with
                      | true =>
                        rw [hkb] at ck HCR
                        obtain ⟨gr, cr, r1, r2, r3, r4⟩ := (HO8.out.below hby.out).rs_cells hir
                        have q0 := r4 0 (by omega)
                        have q1 := r4 1 (by omega)
                        have q2 := r4 2 (by omega)
                        have q3 := r4 3 (by omega)
                        have q4 := r4 4 (by omega)
                        have q5 := r4 5 (by omega)
                        simp only [encK, Nat.add_zero, List.getElem?_cons_zero, List.getElem?_cons_succ] at q0 q1 q2 q3 q4 q5
                        obtain ⟨gi, _, hgi, _, hgib, _, _⟩ := Row.some HROW.out (by omega)
                        subst hgi
                        have hgiz := lt_of_heap hgib
                        have ci : wr.cell? ⟨gi, k, none⟩ = some (.int .i64 ((ir : Int) + 1)) := by
                          rw [hby.out.cell (p := ⟨gi, k, none⟩) hgiz, Row.cellAt HROW.out k (by omega), ← hnum]; simp [encI, hkl]
                        have hgiw : gi < wr.heap.size := by omega
                        have hiri : (ir : Int) < (rs.length : Int) := by omega
                        have hir0 : (0 : Int) ≤ (ir : Int) := by omega
                        have hirw : IntKind.i64.wrap (ir : Int) = (ir : Int) := by rw [IntKind.wrap_i64]; omega
                        have ne1 : wr.heap.size ≠ wb := by omega
                        have ne2 : wr.heap.size ≠ g := by omega
                        have ne3 : wr.heap.size ≠ gi := by omega
                        have ne4 : wr.heap.size ≠ gr := by omega
                        have ne5 := ne1.symm
                        have ne6 := ne2.symm
                        have ne7 := ne3.symm
                        have ne8 := ne4.symm
                        clear r4 hgib hgiz hnum
                        have HPG := hide hpg
                        have HDT := hide hdt
                        have HPS := hide hp16
                        have HDS := hide hds
                        clear hpg hdt hp16 hds
                        go_wp2_with fail
                        obtain ⟨w6, hw6⟩ : ∃ w6, w6 = wr := ⟨_, rfl⟩
                        subst hw6
                        go_cut [21] from 134 to 192 (fun vp wx => ∃ fb, vp = .pointer (some ⟨fb, 0, none⟩) ∧ Hid (Below w6.heap.size w6 wx ∧ wx.heap[fb]? = some (.cells (encK rs[ir]).toArray 28 (0, 0)) ∧ w6.heap.size ≤ fb))
                        case first =>
                          go_region_held3 (fun W => (W.cell? ⟨wb, 1, none⟩ = some (.slice (some ⟨gr, 0, none⟩) rs.length cr) ∧ W.cell? ⟨g, i2 * 4 + 3, none⟩ = some (.slice (some ⟨gi, 0, none⟩) ns.length cv) ∧ W.cell? ⟨gi, k, none⟩ = some (.int .i64 ((ir : Int) + 1))) ∧ (W.cell? ⟨gr, ir * 6, none⟩ = some (.int .i64 (rs[ir]).num) ∧ W.cell? ⟨gr, ir * 6 + 1, none⟩ = some (.bool (rs[ir]).write) ∧ W.cell? ⟨gr, ir * 6 + 2, none⟩ = some (.int .i64 (rs[ir]).page)) ∧ W.cell? ⟨gr, ir * 6 + 3, none⟩ = some (.string (rs[ir]).data) ∧ W.cell? ⟨gr, ir * 6 + 4, none⟩ = some (.int .i64 (rs[ir]).how) ∧ W.cell? ⟨gr, ir * 6 + 5, none⟩ = some (.string (rs[ir]).read)) (go_keep) (fail)
                          all_goals go_wp2_with fail
                          all_goals go_meet
                          all_goals go_light
                          all_goals exact ⟨_, rfl, (alloc_below _ _).drew, heap_alloc_new _ _, Nat.le_refl _⟩
                        case rest =>
                          obtain ⟨fb, rfl, hmid⟩ := hcut
                          have hfb := hmid.out.2.1
                          have f2 : wc.cell? ⟨fb, 2, none⟩ = some (.int .i64 (rs[ir]).page) := by simp [World.cell?, hfb, encK]
                          have f3 : wc.cell? ⟨fb, 3, none⟩ = some (.string (rs[ir]).data) := by simp [World.cell?, hfb, encK]
                          have hfz := lt_of_heap hfb
                          have HBC := hide (hby.out.trans (hmid.out.1.mono hby.out.size))
                          obtain ⟨pn, hpn⟩ : ∃ pn : Nat, (rs[ir]).page = pn := ⟨(rs[ir]).page.toNat, by have := HPS.out; rw [HPG.out]; omega⟩
                          have hpn16 : pn < 16 := by have := HPS.out; rw [← HPG.out, hpn] at this; omega
                          rw [hpn] at f2
                          have HDL : Hid ((crashD S K (wn ++ ns.take k) 0 S.disk).length = 64) := by rw [Hid, crashD_len]; exact HI.out.wf.disk
                          have hts : (txt (crashD S K (wn ++ ns.take k) 0 S.disk)).size = 64 := by rw [txt_size]; exact HDL.out
                          have hts1 : 4 * (pn : Int) ≤ ((txt (crashD S K (wn ++ ns.take k) 0 S.disk)).size : Int) := by omega
                          have hts2 : 4 * (pn : Int) + 4 ≤ ((txt (crashD S K (wn ++ ns.take k) 0 S.disk)).size : Int) := by omega
                          have hm1 : IntKind.i64.wrap (4 * (pn : Int)) = 4 * (pn : Int) := by rw [IntKind.wrap_i64]; omega
                          have hm2 : IntKind.i64.wrap (4 * (pn : Int) + 4) = 4 * (pn : Int) + 4 := by rw [IntKind.wrap_i64]; omega
                          have hp0 : (0 : Int) ≤ 4 * (pn : Int) := by omega
                          have hp4 : (0 : Int) ≤ 4 * (pn : Int) + 4 := by omega
                          have ht1 : (4 * (pn : Int)).toNat = 4 * pn := by omega
                          have ht2 : (4 * (pn : Int) + 4).toNat = 4 * pn + 4 := by omega
                          have hl1 : 4 * (pn : Int) ≤ 64 := by omega
                          have hl2 : 4 * (pn : Int) + 4 ≤ 64 := by omega
                          have hds4 : (rs[ir]).data.size = 4 := by rw [HDT.out]; exact HDS.out
                          obtain ⟨P1, hP1⟩ : ∃ P1, (txt (crashD S K (wn ++ ns.take k) 0 S.disk)).extract 0 (4 * pn) = P1 := ⟨_, rfl⟩
                          obtain ⟨P2, hP2⟩ : ∃ P2, (txt (crashD S K (wn ++ ns.take k) 0 S.disk)).extract (4 * pn + 4) 64 = P2 := ⟨_, rfl⟩
                          have hs1 : P1.size ≤ 64 := by rw [← hP1, ByteArray.size_extract]; omega
                          have hs2 : P2.size ≤ 64 := by rw [← hP2, ByteArray.size_extract]; omega
                          have hc1 : ¬ 9223372036854775807 < P1.size + (rs[ir]).data.size := by omega
                          have hc2 : ¬ 9223372036854775807 < P1.size + (rs[ir]).data.size + P2.size := by omega
                          have HCAT : Hid (txt (putR S (crashD S K (wn ++ ns.take k) 0 S.disk) ns[k]) = P1 ++ (rs[ir]).data ++ P2) := by
                            have hu : putR S (crashD S K (wn ++ ns.take k) 0 S.disk) ns[k] = putM (crashD S K (wn ++ ns.take k) 0 S.disk) (4 * pn) (rs[ir]).data.data.toList := by
                              unfold putR
                              rw [← HPG.out, ← HDT.out, hpn, ht1]
                            rw [Hid, hu, ← hP1, ← hP2]
                            exact (cat_txt HDL.out hpn16 _ hds4).symm
                          clear hds4
                          clear hmid hfb q0 q1 q2 q3 q4 q5 ci ck d0 d3 r1
                          go_wp2_with fail
                          go_quiet (fail)
                          go_wp2
                          go_roundw
                          case rel => exact ⟨k + 1, by omega, by go_num, by rw [hwk2], by rw [HCR.out, if_pos trivial, HCAT.out], below_drewN HBC.out nq⟩
                          case measure => simp [intOf]; omega
                      | false =>
                        rw [hkb] at ck HCR
                        clear hds hdt hpg hp16 hnum
                        go_wp2
                        go_roundw
                        case rel => exact ⟨k + 1, by omega, by go_num, by rw [hwk2], by rw [HCR.out]; rfl, hby⟩
                        case measure => simp [intOf]; omega
                    · have hkb : keptAt K (wn.length + k) = false := by
                        unfold keptAt
                        rw [List.getD_eq_getElem?_getD, List.getElem?_eq_none (by omega)]; rfl
                      rw [hkb] at HCR
                      have hni : ¬ (wn.length : Int) + (k : Int) < (kp.size : Int) := by omega
                      clear hds hdt hpg hp16 hnum
                      go_wp2
                      go_roundw
                      case rel => exact ⟨k + 1, by omega, by go_num, by rw [hwk2], by rw [HCR.out]; rfl, hby⟩
                      case measure => simp [intOf]; omega
                  · have hke : k = ns.length := by omega
                    subst hke
                    go_wp2
                    go_roundw
                    case rel => exact ⟨i2 + 1, by omega, by go_num, by rw [HN2.out, List.length_append]; push_cast; rfl, by rw [HN2.out, List.take_of_length_le (Nat.le_refl _)], hby⟩
                    case measure => simp [intOf]; omega
            · have hie : i2 = S.flights.length := by omega
              subst hie
              have hdk : crashD S K (wrNums (S.flights.take S.flights.length)) 0 S.disk = (crashM S K).disk := by rw [List.take_of_length_le (Nat.le_refl _)]; rfl
              rw [hdk, List.take_of_length_le (Nat.le_refl S.flights.length)]
              have HO9 := hide (HO8.out.below hbz.out)
              have HIS9 := hide (HIS8.out.more hbz.out)
              have HPE := hide (crash_err S K)
              have HPL := hide (crash_poll S K)
              have hCl : (crashM S K).last = S.last := rfl
              have hCn : (crashM S K).now = S.now := rfl
              have HCR := hide (crash_read S K)
              have HCN := hide (crash_next HI.out.wf K)
              have HCD := hide (crash_done HI.out.wf K)
              have hdl : (crashM S K).disk.length = 64 := by show (crashD S K _ 0 S.disk).length = 64; rw [crashD_len]; exact HI.out.wf.disk
              have HNW : Hid (∀ i (h : i < rs.length), (Lit.int .i64 (rs[i]).num).wf = true) := fun i h => HI.out.numWf h (by omega)
              have HSL : Hid (S.last = rs.length) := HI.out.last
              have hl0 : 0 ≤ S.last := HI.out.wf.last
              have hl6 : S.last ≤ 65536 := by rw [HSL.out]; omega
              clear HO8 HIS8 HA8 HK8 hdk hwl hfl4
              generalize XNew X8 w8 wr = X9 at *
              go_wp2
              go_loopw [22, 23, 24] (fun vi _ _ wz => ∃ i3 : Nat, i3 ≤ rs.length ∧ vi = .int .i64 i3 ∧ Hid (One w wz wb xb (crashM S K) rs X9 ∧ Row wz X9 5 1 a3 64 c3 (encB (crashM S K).disk))) (fun vi _ _ _ => rs.length - (intOf vi).toNat)
              case atStart => exact ⟨0, by omega, rfl, HO9.out, HIS9.out⟩
              case round =>
                clear HO9 HIS9 hbz
                obtain ⟨i3, hi3, rfl, hZ⟩ := hrel
                obtain ⟨ar, cr, c1'⟩ := hZ.out.1.rs_len
                obtain ⟨c0', hwz⟩ := hZ.out.1.q
                by_cases hlt3 : i3 < rs.length
                · have hlt3i : (i3 : Int) < (rs.length : Int) := by omega
                  have HISZ := hide hZ.out.2
                  obtain ⟨F, hkw, hXF⟩ := hZ.out.1
                  obtain ⟨gr, crr, r1, r2, r3, r4⟩ := hZ.out.1.rs_cells hlt3
                  have qn := r4 0 (by omega)
                  simp only [encK, Nat.add_zero, List.getElem?_cons_zero] at qn
                  have HCall : Hid (∀ WW, Below wr.heap.size wr WW → Calls Tryz.prog 10 #[.pointer (some ⟨xb, 0, none⟩), .int .i64 (rs[i3]).num] WW fun e w1 => (∃ ao n cap t, e = .returned (.tuple #[.agg #[.slice ao n cap, .int .i64 t], .agg #[.int .i64 5, .int .i64 (-1), .int .i64 0, .bool true]])) ∧ (w1.cell? ⟨wb, 0, none⟩ = some (.pointer (some ⟨xb, 0, none⟩)) ∧ w1.cell? ⟨wb, 1, none⟩ = some (.slice (some ⟨gr, 0, none⟩) rs.length crr) ∧ w1.cell? ⟨gr, i3 * 6, none⟩ = some (.int .i64 (rs[i3]).num)) ∧ (KWF w w1 (Foot F WW w1) wb xb (crashM S K) rs ∧ Kept F WW w1)) := fun WW hb => by
                    refine (pm_call _ hkw (HNW.out i3 hlt3) gr crr r1 WW hb).mono ?_
                    rintro e w1 ⟨x1, ⟨x2, x3, x4⟩, x5⟩
                    exact ⟨x1, ⟨x2, x3, (x4 _).trans qn⟩, x5⟩
                  have HN : Hid (∀ k, wr.heap.size ≤ k → ¬ F k) := fun k hk e => by have := hkw.at_.lt k e; omega
                  have HKW := hide hkw
                  have HXF := hide hXF
                  have ne0 : wr.heap.size ≠ wb := by omega
                  have ne1 : wr.heap.size ≠ gr := by omega
                  have ne2 : wr.heap.size + 1 ≠ wb := by omega
                  have ne3 : wr.heap.size + 1 ≠ gr := by omega
                  have ne4 := ne0.symm
                  have ne5 := ne1.symm
                  have ne6 := ne2.symm
                  have ne7 := ne3.symm
                  clear hkw hXF r4 hZ c1'
                  go_wp2_with fail
                  obtain ⟨w6, hw6⟩ : ∃ w6, w6 = wr := ⟨_, rfl⟩
                  subst hw6
                  go_cut [23, 24] from 193 to 220 (fun _ ve wx => ∃ eb, ve = .pointer (some ⟨eb, 0, none⟩) ∧ Hid (PMid w w6 wb xb (crashM S K) rs X9 wx eb))
                  case first =>
                    go_region_held3 (fun W => W.cell? ⟨wb, 0, none⟩ = some (.pointer (some ⟨xb, 0, none⟩)) ∧ W.cell? ⟨wb, 1, none⟩ = some (.slice (some ⟨gr, 0, none⟩) rs.length crr) ∧ W.cell? ⟨gr, i3 * 6, none⟩ = some (.int .i64 (rs[i3]).num)) (go_keep)
                      (first | (go_at_call 10; refine (HCall.out _ ?_).mono ?_; (first | exact (Below.refl _ _).drew | exact (alloc_below _ _).drew | exact ((alloc_below _ _).trans ((alloc_below _ _).mono (by simp))).drew); rintro e w1 ⟨⟨ao, n, cap, t', rfl⟩, ⟨hc0, hc1, hc2⟩, hR⟩; have HR := hide hR; clear hR; (first | (obtain ⟨pa, pe, pz⟩ := pcAE HR.out.2 HN.out; obtain ⟨a0, a1, a2, a3⟩ := cells2 pa; obtain ⟨⟨b0, b1, b2, b3⟩, b4, b5, b6, b7⟩ := cells4 pe; have PA := hide pa; have PE := hide pe; clear pa pe) | (obtain ⟨pa, pe, pz⟩ := pcEA HR.out.2 HN.out; obtain ⟨a0, a1, a2, a3⟩ := cells2 pa; obtain ⟨⟨b0, b1, b2, b3⟩, b4, b5, b6, b7⟩ := cells4 pe; have PA := hide pa; have PE := hide pe; clear pa pe) | (obtain ⟨pa, pz⟩ := pcA HR.out.2 HN.out; obtain ⟨a0, a1, a2, a3⟩ := cells2 pa; have PA := hide pa; clear pa) | (obtain ⟨pe, pz⟩ := pcE HR.out.2 HN.out; obtain ⟨⟨b0, b1, b2, b3⟩, b4, b5, b6, b7⟩ := cells4 pe; have PE := hide pe; clear pe) | skip)))
                    all_goals go_wp2_with fail
                    all_goals go_meet
                    all_goals go_light
                    all_goals clear HCall
                    all_goals refine ⟨_, rfl, ?_⟩
                    · exact pm_AE HKW.out HXF.out (Below.refl _ _).drew HR.out (kput_alloc rfl) (kput_alloc (by simp)) ⟨by have := HR.out.2.size; exact this, Or.inr (Nat.le_refl _)⟩ ⟨by have := HR.out.2.size; exact Nat.le_succ_of_le this, Or.inr (by omega)⟩
                    · exact pm_EA (b2 := w1.heap.size + 1) HKW.out HXF.out (Below.refl _ _).drew HR.out (kput_alloc rfl) (kput_alloc (by simp)) ⟨by have := HR.out.2.size; exact this, Or.inr (Nat.le_refl _)⟩ ⟨by have := HR.out.2.size; exact Nat.le_succ_of_le this, Or.inr (by omega)⟩ (by omega)
                    · exact pm_AE HKW.out HXF.out (alloc_below _ _).drew HR.out (kput2 PA.out) (kput_alloc (by simp [World.setCell])) ⟨Nat.le_refl _, Or.inl (lt_alloc1 _ _)⟩ ⟨by omega, Or.inr (Nat.le_refl _)⟩
                    · exact pm_AE HKW.out HXF.out ((alloc_below _ _).trans ((alloc_below _ _).mono (by simp))).drew HR.out (kput2 PA.out) (kput4 (((kput2 PA.out).rest _ pz (by omega)).trans PE.out)) ⟨Nat.le_refl _, Or.inl (lt_alloc2 _ _ _).1⟩ ⟨by omega, Or.inl (lt_alloc2 _ _ _).2⟩
                    · exact pm_EA (b2 := w1.heap.size) HKW.out HXF.out (alloc_below _ _).drew HR.out (kput4 PE.out) (kput_alloc (by simp [World.setCell])) ⟨Nat.le_refl _, Or.inl (lt_alloc1 _ _)⟩ ⟨by omega, Or.inr (Nat.le_refl _)⟩ (by omega)
                    · exact pm_AE HKW.out HXF.out ((alloc_below _ _).trans ((alloc_below _ _).mono (by simp))).drew HR.out (kput2 PA.out) (kput4 (((kput2 PA.out).rest _ (by omega) (by omega)).trans PE.out)) ⟨by omega, Or.inl (lt_alloc2 _ _ _).2⟩ ⟨Nat.le_refl _, Or.inl (lt_alloc2 _ _ _).1⟩
                  case rest =>
                    obtain ⟨eb, rfl, hmid⟩ := hcut
                    obtain ⟨⟨b0, _, _, _⟩, _⟩ := cells4 hmid.out.2
                    have hebz := lt_of_heap hmid.out.2
                    have HZ : Hid (One w wc wb xb (crashM S K) rs X9 ∧ Row wc X9 5 1 a3 64 c3 (encB (crashM S K).disk)) := ⟨hmid.out.1.1, HISZ.out.mine hmid.out.1.2⟩
                    clear hmid HISZ HKW HXF HCall
                    go_wp2
                    go_roundw
                    case rel => exact ⟨i3 + 1, by omega, by go_num, HZ⟩
                    case measure => simp [intOf]; omega
                · have hie3 : i3 = rs.length := by omega
                  subst hie3
                  have HRD : Hid (Calls Tryz.prog 22 #[.pointer (some ⟨xb, 0, none⟩), .int .i64 3] wr fun e w' => e = .returned (.tuple #[.int .i64 (S.last + 1), .agg #[.int .i64 0, .int .i64 (-1), .int .i64 0, .bool true]]) ∧ One w w' wb xb (askOk (crashM S K) false 3 ⟨#[]⟩) rs X9 ∧ ∀ k, X9 k → w'.heap[k]? = wr.heap[k]?) := by
                    have h := o_read 3 hZ.out.1 (by rw [hCl]; exact hlast)
                    rw [HCR.out] at h
                    exact h
                  have HIS := hide hZ.out.2
                  clear hZ HNW HPE HPL HCR
                  go_wp2_with fail
                  refine HRD.out.mono ?_
                  rintro e w10 ⟨rfl, h10, s10⟩
                  have HIS10 := hide ((HIS.out.mine s10).alloc (.cells #[.int .i64 0, .int .i64 (-1), .int .i64 0, .bool true] 35))
                  clear c0' hwz c1' HRD s10 HIS
                  obtain ⟨q0, qz⟩ := h10.q
                  have HST0 := hide (o_step (h10.alloc (.cells #[.int .i64 0, .int .i64 (-1), .int .i64 0, .bool true] 35)) (by show S.last + 1 ≤ 1000000; omega))
                  rw [HCN.out] at HST0
                  have HST : Hid (Calls Tryz.prog 12 #[.pointer (some ⟨xb, 0, none⟩)] (w10.alloc (.cells #[.int .i64 0, .int .i64 (-1), .int .i64 0, .bool true] 35)) fun e w' => (∃ ao cap, e = .returned (.tuple #[.agg #[.bool false, .int .i64 3, .int .i64 1, .slice ao 1 cap], .bool true])) ∧ One w w' wb xb (stepM (askOk (crashM S K) false 3 ⟨#[]⟩)).2 rs (fun k => X9 k ∨ k = w10.heap.size) ∧ ∀ k, (X9 k ∨ k = w10.heap.size) → w'.heap[k]? = (w10.alloc (.cells #[.int .i64 0, .int .i64 (-1), .int .i64 0, .bool true] 35)).heap[k]?) := HST0
                  have H26 := hide (heap_alloc_new w10 (.cells #[.int .i64 0, .int .i64 (-1), .int .i64 0, .bool true] 35))
                  clear h10 HST0 HCN
                  go_wp2_with fail
                  refine HST.out.mono ?_
                  rintro e w11 ⟨⟨ao1, cap1, rfl⟩, h11, s11⟩
                  have hA26 := (s11 _ (Or.inr rfl)).trans H26.out
                  have H26a := hide ((Below.heap_alloc w11 (.cells #[.bool false, .int .i64 3, .int .i64 1, .slice ao1 1 cap1] 45) _ (lt_of_heap hA26)).trans hA26)
                  have H27 := hide (heap_alloc_new w11 (.cells #[.bool false, .int .i64 3, .int .i64 1, .slice ao1 1 cap1] 45))
                  have HIS11 := hide ((HIS10.out.mine (fun k hk => s11 k (Or.inl hk))).alloc (.cells #[.bool false, .int .i64 3, .int .i64 1, .slice ao1 1 cap1] 45))
                  clear q0 qz HST s11 HIS10 H26 hA26
                  obtain ⟨q0, qz⟩ := h11.q
                  have HCO0 := hide (o_complete (h11.alloc (.cells #[.bool false, .int .i64 3, .int .i64 1, .slice ao1 1 cap1] 45)) (by rw [(stepM_same _).2]; show S.now ≤ 1000000000; omega) (by rw [(stepM_same _).1]; show S.last + 1 ≤ 1000000; omega))
                  rw [HCD.out.1] at HCO0
                  have HCO : Hid (Calls Tryz.prog 13 #[.pointer (some ⟨xb, 0, none⟩), .int .i64 0, .bool false] (w11.alloc (.cells #[.bool false, .int .i64 3, .int .i64 1, .slice ao1 1 cap1] 45)) fun e w' => e = .returned (.agg #[.int .i64 0, .int .i64 (-1), .int .i64 0, .bool true]) ∧ One w w' wb xb (completeM (stepM (askOk (crashM S K) false 3 ⟨#[]⟩)).2 0 false).2 rs (fun k => (X9 k ∨ k = w10.heap.size) ∨ k = w11.heap.size) ∧ ∀ k, ((X9 k ∨ k = w10.heap.size) ∨ k = w11.heap.size) → w'.heap[k]? = (w11.alloc (.cells #[.bool false, .int .i64 3, .int .i64 1, .slice ao1 1 cap1] 45)).heap[k]?) := HCO0
                  clear h11 HCO0
                  go_wp2_with fail
                  refine HCO.out.mono ?_
                  rintro e w12 ⟨rfl, h12, s12⟩
                  have hA26 := (s12 _ (Or.inl (Or.inr rfl))).trans H26a.out
                  have hA27 := (s12 _ (Or.inr rfl)).trans H27.out
                  have H26b := hide ((Below.heap_alloc w12 (.cells #[.int .i64 0, .int .i64 (-1), .int .i64 0, .bool true] 35) _ (lt_of_heap hA26)).trans hA26)
                  have H27b := hide ((Below.heap_alloc w12 (.cells #[.int .i64 0, .int .i64 (-1), .int .i64 0, .bool true] 35) _ (lt_of_heap hA27)).trans hA27)
                  have H29 := hide (heap_alloc_new w12 (.cells #[.int .i64 0, .int .i64 (-1), .int .i64 0, .bool true] 35))
                  have HIS12 := hide ((HIS11.out.mine (fun k hk => s12 k (Or.inl (Or.inl hk)))).alloc (.cells #[.int .i64 0, .int .i64 (-1), .int .i64 0, .bool true] 35))
                  clear q0 qz HCO s12 HIS11 H26a H27 hA26 hA27
                  obtain ⟨q0, qz⟩ := h12.q
                  have HPO : Hid (Calls Tryz.prog 10 #[.pointer (some ⟨xb, 0, none⟩), .int .i64 (S.last + 1)] (w12.alloc (.cells #[.int .i64 0, .int .i64 (-1), .int .i64 0, .bool true] 35)) fun e w' => (∃ ao cap t, e = .returned (.tuple #[.agg #[.slice ao 4 cap, .int .i64 t], .agg #[.int .i64 0, .int .i64 (-1), .int .i64 0, .bool true]]) ∧ Row w' (fun k => (w12.alloc (.cells #[.int .i64 0, .int .i64 (-1), .int .i64 0, .bool true] 35)).heap.size ≤ k) 5 1 ao 4 cap (encB (getM (crashM S K).disk 12).data.toList)) ∧ (∃ C2, One w w' wb xb C2 rs (fun k => ((X9 k ∨ k = w10.heap.size) ∨ k = w11.heap.size) ∨ k = w12.heap.size)) ∧ ∀ k, (((X9 k ∨ k = w10.heap.size) ∨ k = w11.heap.size) ∨ k = w12.heap.size) → w'.heap[k]? = (w12.alloc (.cells #[.int .i64 0, .int .i64 (-1), .int .i64 0, .bool true] 35)).heap[k]?) := by
                    refine (o_poll (S.last + 1) (h12.alloc (.cells #[.int .i64 0, .int .i64 (-1), .int .i64 0, .bool true] 35)) (by
                      simp only [Lit.wf, Bool.and_eq_true, decide_eq_true_eq]
                      have e1 : IntKind.i64.min = -9223372036854775808 := by decide
                      have e2 : IntKind.i64.max = 9223372036854775807 := by decide
                      rw [e1, e2]; omega)).mono ?_
                    rintro e w1 ⟨⟨ao, n, cap, t, x1, x2⟩, x3, x4⟩
                    have hz := HCD.out.2.2
                    have he : plainErr (completeM (stepM (askOk (crashM S K) false 3 ⟨#[]⟩)).2 0 false).2 (S.last + 1) = (0, -1, 0) := by unfold plainErr; rw [if_pos hz]
                    rw [he] at x1
                    have hg4 : (getM (crashM S K).disk 12).size = 4 := by simp [getM, ByteArray.size]; omega
                    rcases x2 with ⟨y, _⟩ | ⟨_, _, hn', _, hrow⟩
                    · exact absurd hz y
                    · rw [HCD.out.2.1] at hn' hrow
                      rw [hg4] at hn'
                      subst hn'
                      exact ⟨⟨ao, cap, t, x1, hrow⟩, ⟨_, x3⟩, x4⟩
                  clear h12 HCD
                  go_wp2_with fail
                  refine HPO.out.mono ?_
                  rintro e w13 ⟨⟨ao2, cap2, t2, rfl, hrow2⟩, ⟨C2, h13⟩, s13⟩
                  have H26c := hide ((s13 _ (Or.inl (Or.inl (Or.inr rfl)))).trans H26b.out)
                  have H27c := hide ((s13 _ (Or.inl (Or.inr rfl))).trans H27b.out)
                  have H29c := hide ((s13 _ (Or.inr rfl)).trans H29.out)
                  have HIS13 := hide (HIS12.out.mine (fun k hk => s13 k (Or.inl (Or.inl (Or.inl hk)))))
                  have HRW2 := hide hrow2
                  have H30 := hide (heap_alloc_new w13 (.cells #[.slice ao2 4 cap2, .int .i64 t2] 39))
                  have H31 := hide (heap_alloc_new (w13.alloc (.cells #[.slice ao2 4 cap2, .int .i64 t2] 39)) (.cells #[.int .i64 0, .int .i64 (-1), .int .i64 0, .bool true] 35))
                  have HO14 := hide ((h13.alloc (.cells #[.slice ao2 4 cap2, .int .i64 t2] 39)).alloc (.cells #[.int .i64 0, .int .i64 (-1), .int .i64 0, .bool true] 35))
                  clear q0 qz HPO s13 HIS12 H26b H27b H29 hrow2 h13
                  obtain ⟨⟨c0, c1, c2, c3⟩, _⟩ := cells4 H26c.out
                  have hz26 := lt_of_heap H26c.out
                  go_wp2_with fail
                  refine (keep_fine 0 (-1) 0 _).mono ?_
                  rintro e w15 ⟨rfl, hb15⟩
                  have ef : fineB 0 (-1) 0 = true := rfl
                  rw [ef]
                  have H27d := hide (lift2v H27c.out hb15)
                  have h29 := lift2v H29c.out hb15
                  have H30d : Hid (w15.heap[w13.heap.size]? = some (.cells #[.slice ao2 4 cap2, .int .i64 t2] 39 (0, 0))) := by
                    have hz : w13.heap.size < (w13.alloc (.cells #[.slice ao2 4 cap2, .int .i64 t2] 39)).heap.size := by simp
                    rw [Hid, hb15.block _ (by simp; omega), Below.heap_alloc _ _ _ hz]; exact H30.out
                  have H31d : Hid (w15.heap[w13.heap.size + 1]? = some (.cells #[.int .i64 0, .int .i64 (-1), .int .i64 0, .bool true] 35 (0, 0))) := by
                    have := (hb15.block _ (lt_of_heap H31.out)).trans H31.out
                    rw [World.size_alloc] at this
                    exact this
                  have HIS15 := hide (((HIS13.out.alloc (.cells #[.slice ao2 4 cap2, .int .i64 t2] 39)).alloc (.cells #[.int .i64 0, .int .i64 (-1), .int .i64 0, .bool true] 35)).more hb15)
                  have HRW15 := hide (((HRW2.out.alloc (.cells #[.slice ao2 4 cap2, .int .i64 t2] 39)).alloc (.cells #[.int .i64 0, .int .i64 (-1), .int .i64 0, .bool true] 35)).more hb15)
                  have HO15 := hide (HO14.out.below hb15)
                  clear hb15 H26c H27c H29c H30 H31 HIS13 HRW2 HO14 c0 c1 c2 c3 hz26
                  obtain ⟨⟨c0, c1, c2, c3⟩, _⟩ := cells4 h29
                  have hz29 := lt_of_heap h29
                  clear h29
                  go_wp2_with fail
                  refine (keep_fine 0 (-1) 0 _).mono ?_
                  rintro e w16 ⟨rfl, hb16⟩
                  rw [ef]
                  have H27e := hide ((hb16.block _ (lt_of_heap H27d.out)).trans H27d.out)
                  have H30e := hide ((hb16.block _ (lt_of_heap H30d.out)).trans H30d.out)
                  have h31 := (hb16.block _ (lt_of_heap H31d.out)).trans H31d.out
                  have HIS16 := hide (HIS15.out.more hb16)
                  have HRW16 := hide (HRW15.out.more hb16)
                  have HO16 := hide (HO15.out.below hb16)
                  clear hb16 H27d H30d H31d HIS15 HRW15 HO15 c0 c1 c2 c3 hz29
                  obtain ⟨⟨c0, c1, c2, c3⟩, _⟩ := cells4 h31
                  have hz31 := lt_of_heap h31
                  clear h31
                  go_wp2_with fail
                  refine (keep_fine 0 (-1) 0 _).mono ?_
                  rintro e w17 ⟨rfl, hb17⟩
                  rw [ef]
                  have h27 := (hb17.block _ (lt_of_heap H27e.out)).trans H27e.out
                  have h30 := (hb17.block _ (lt_of_heap H30e.out)).trans H30e.out
                  have hR17 := HIS16.out.more hb17
                  have hS17 := HRW16.out.more hb17
                  have hO17 := HO16.out.below hb17
                  clear hb17 H27e H30e HIS16 HRW16 HO16 c0 c1 c2 c3 hz31 ef
                  obtain ⟨⟨_, d1, _, _⟩, _⟩ := cells4 h27
                  obtain ⟨e0, _⟩ := cells2 h30
                  have hz27 := lt_of_heap h27
                  have hz30 := lt_of_heap h30
                  obtain ⟨ar, cr, k1⟩ := hO17.rs_len
                  have hwz := hO17.q.2
                  have HEND := hide hO17.bel
                  have hcA : ∀ m, (convert 37 9 (.slice a3 64 c3)).run Tryz.prog (w17.drewN m) = .ok (.string (txt (crashM S K).disk)) (w17.drewN m) := fun m => conv_disk (hR17.same (fun _ _ => rfl)) (by rw [hdl])
                  have hcA0 : (convert 37 9 (.slice a3 64 c3)).run Tryz.prog w17 = .ok (.string (txt (crashM S K).disk)) w17 := conv_disk hR17 (by rw [hdl])
                  have hg4 : 4 = (getM (crashM S K).disk 12).size := by simp [getM, ByteArray.size]; omega
                  have hcB : ∀ m, (convert 37 9 (.slice ao2 4 cap2)).run Tryz.prog (w17.drewN m) = .ok (.string (getM (crashM S K).disk 12)) (w17.drewN m) := fun m => kconv_row (hS17.same (fun _ _ => rfl)) hg4
                  have hcB0 : (convert 37 9 (.slice ao2 4 cap2)).run Tryz.prog w17 = .ok (.string (getM (crashM S K).disk 12)) w17 := kconv_row hS17 hg4
                  have hget : (txt (crashM S K).disk).extract 12 16 = getM (crashM S K).disk 12 := get_txt
                  have hts : (txt (crashM S K).disk).size = 64 := by rw [txt_size]; exact hdl
                  have hml : (S.last + 1 == (rs.length : Int) + 1) = true := by rw [HSL.out]; simp
                  have hml2 : S.last = (rs.length : Int) := HSL.out
                  clear h27 h30 hR17 hS17 hO17 hg4
                  go_wp2_with fail
                  go_quiet (fail)
                  go_wp2
                  go_ret
                  exact ⟨rfl, below_drewN HEND.out nq⟩
end Go.Proofs.YtiabdbeejkadnabGreatDoor
