import Derived.Test.YtiabdbeejkadnaaGreatDoorJ78bb2e3fd1
import Derived.Deep.AppendLies
import Derived.Deep.RegionLaw
import Derived.Deep.Upon
import Derived.BigQuiet
import Derived.Test.YtiabdbeejkadnaaGreatDoorCards
import Derived.Test.YtiabdbeejkadnaaGreatDoorTie
import Derived.ProofKit
import Derived.OpenShut
import Derived.Carry
import Derived.ChangeMaps5
import Derived.Deep.DeepHandedRow
import Derived.LaidLaws
import Derived.LaidHandle
import Derived.Stop.Joined
import Derived.SevenTiedAt
/- The keeps: Bounded. Own work of the verifier. -/
namespace Go.Proofs.YtiabdbeejkadnaaGreatDoor
open Go.RowKit Go.Maps

def seenTo (S : St) (k : Nat) : List Int := waitM S ++ (S.flights.take k).flatMap (·.requests)
section
variable {S : St}
theorem seen_all (S : St) : seenTo S S.flights.length = waitM S ++ airs S := by
  unfold seenTo airs; rw [List.take_of_length_le (Nat.le_refl _)]
theorem seen_next {k : Nat} (hk : k < S.flights.length) : seenTo S (k + 1) = seenTo S k ++ (S.flights[k]).requests := by
  unfold seenTo
  rw [List.take_succ_eq_append_getElem hk, List.flatMap_append, List.append_assoc]; simp
theorem seen_nodup (h : Wf S) : (waitM S ++ airs S).Nodup := by
  rw [List.nodup_append]
  have hn := h.nodup
  simp only [List.append_nil] at hn
  refine ⟨?_, hn, fun a ha b hb e => ?_⟩
  · unfold waitM
    rw [List.nodup_iff_pairwise_ne, List.pairwise_map]
    exact (h.sorted.filter _).imp (fun h => by omega)
  · subst e
    unfold waitM at ha
    obtain ⟨r, hr, rfl⟩ := List.mem_map.1 ha
    obtain ⟨hr1, hr2⟩ := List.mem_filter.1 hr
    have hr0 : r.state = 0 := by simpa using hr2
    have hair := (h.rq r hr1).air.2 (by simpa using hb)
    rcases (h.rq r hr1).air14 hair with e | e <;> omega
theorem seen_len (h : Wf S) (k : Nat) : (seenTo S k).length ≤ S.reqs.length := by
  have h1 : (seenTo S k).Sublist (waitM S ++ airs S) := by
    unfold seenTo airs
    refine (List.Sublist.refl _).append ?_
    conv => rhs; rw [← List.take_append_drop k S.flights, List.flatMap_append]
    exact List.sublist_append_left _ _
  have h2 := nodup_len ((seen_nodup h).sublist h1) (m := S.reqs.map (·.num)) (fun n hn => by
    rcases List.mem_append.1 (h1.subset hn) with e | e
    · unfold waitM at e
      obtain ⟨r, hr, rfl⟩ := List.mem_map.1 e
      exact List.mem_map.2 ⟨r, (List.mem_filter.1 hr).1, rfl⟩
    · obtain ⟨r, hr, e'⟩ := h.airIn n (by simpa using e)
      exact List.mem_map.2 ⟨r, hr, e'⟩)
  simpa using h2
end
/-- numbers more, be they none -/
theorem kb_append {ops : Array Oper} {rest : List Oper} {o : Oper} {a : Act} {Q : Exit → Act → World → Prop} (hgd : o.guard = none) (s x : Operand) (ho : o.op = .call { callee := .builtin .append, args := #[s, x], argTypes := #[24, 24] }) {w wr : World} (hb : Below w.heap.size w wr) {ag : Option Addr} {n cs : Nat} {xs : List Int} (hs : a.eval s = .slice ag n cs) (hrow : Row wr (fun b => w.heap.size ≤ b) 3 1 ag n cs (encI xs)) {xo : Option Addr} {m xc : Nat} {ys : List Int} {G : Nat → Prop} (hx : a.eval x = .slice xo m xc) (hsrc : Row wr G 3 1 xo m xc (encI ys)) (hsm : n + m ≤ 1000000)
    (h : ∀ ag' cs' w', Row w' (fun b => w.heap.size ≤ b) 3 1 ag' (n + m) cs' (encI (xs ++ ys)) → Below w.heap.size w w' → wpList Tryz.prog ops Q rest (a.put o.dst (.slice ag' (n + m) cs')) w') : wpList Tryz.prog ops Q (o :: rest) a wr := by
  obtain ⟨i0, hi, hi0, hi1, hi2⟩ := info_parts info_int
  by_cases hm : m = 0
  · subst hm
    have hy : ys = [] := by
      have := hsrc.len
      simp [encI] at this
      exact this
    subst hy
    have hle : n ≤ cs := by
      by_cases h0 : n = 0
      · omega
      · obtain ⟨_, _, _, _, _, h1, _⟩ := Row.some hrow (by omega)
        exact h1
    have hr := run_append_nothing (P := Tryz.prog) wr 24 24 o.type 3 i0 Tryz.underlying24 hi ag n cs hle (.slice xo 0 xc) ⟨Or.inl ⟨_, Tryz.underlying24⟩, fun _ => by simp [Builtin.lenOf], by cases xo <;> simp [Builtin.firstCells, loadCells, loadCellsFrom], by cases xo <;> simp [Builtin.firstCells, loadCells, loadCellsFrom], by simp, by simp⟩
    refine wpList_plain hgd fun _ hK => ?_
    unfold Oper.wp execOp
    simp only [ho, resolve, invoke, builtin, Sem.run_bind, Sem.run_pure, Result.andThen_ok, List.map_toArray, List.map_cons, List.map_nil, hs, hx, hr]
    have := h ag cs wr (by simpa using hrow) hb
    exact hK _ _ this
  · obtain ⟨gx, cur, rfl, _, hgb, _, _⟩ := Row.some hsrc (by omega)
    refine wpList_append_lies wr hgd s x 24 ho 0 3 i0 (.int .i64 0) 1 8 Tryz.underlying24 hi hi0 hi1 hi2 rfl (by decide) (.slice ag n cs) n (encI xs) hs hrow.1 ⟨gx, 0, none⟩ m xc (encI ys) hx hsrc.len (fun j u hj => ?_) (fun u hu => ?_) (by omega) (by unfold maxLen; omega) (by omega) (Nat.zero_le _) _ rfl ?_
    · have hjl : j < m := by
        have h1 := hsrc.len
        have h2 := (List.getElem?_eq_some_iff.1 hj).1
        omega
      rw [Addr.add_lit, Nat.zero_add, Row.cellAt hsrc j (by omega)]; exact hj
    · unfold encI at hu
      obtain ⟨_, _, rfl⟩ := List.mem_map.1 hu
      rfl
    · intro g cap' w' hown hgrow hat _
      obtain ⟨r1, r2⟩ := own_rel0 hb hrow hgrow hown hat
      refine h _ _ _ ?_ r1
      have e : encI (xs ++ ys) = encI xs ++ encI ys := by simp [encI]
      rw [e]; exact r2
set_option maxHeartbeats 4000000 in
set_option maxRecDepth 1000000 in
theorem bounded_walk (depth : Int) (s : ByteArray) (w : World) (hg : GCell w) (h1 : -9223372036854775808 ≤ depth ∧ depth ≤ 9223372036854775807) (hs0 : s.size ≤ maxLen) :
    Calls Tryz.prog 10 #[.int .i64 depth, .string s] w fun e w' => e = .returned (.bool true) ∧ Below w.heap.size w w' := by
  have hsz : s.size ≤ 9223372036854775807 := hs0
  by_cases hbig : 65536 < s.size
  · have hbi : (65536 : Int) < (s.size : Int) := by omega
    go_enter Tryz.func10, Tryz.ntmps10
    go_wp2
    go_ret
    exact ⟨rfl, Below.refl _ _⟩
  · have hbi : ¬ (65536 : Int) < (s.size : Int) := by omega
    have HP1 : Hid (∀ W, Calls Tryz.prog 18 #[.int .i64 depth, .int .i64 4] W fun e w' => e = .returned (.int .i64 (kpickM depth 4)) ∧ w' = W) := fun W => keep_pick depth 4 W h1 (by omega) (by omega)
    have hq := kpickM_lt depth 4 (by omega)
    have HBG := hide (kw_begun w depth hg h1)
    generalize kpickM depth 4 = dp at *
    clear h1 hg hs0 hsz
    go_enter Tryz.func10, Tryz.ntmps10
    go_wp2_with fail
    refine HBG.out.mono ?_
    rintro e w1 ⟨wb, xb, rfl, F1, hk1⟩
    have HA0 : Hid (ActTo w w1 wb xb 0 0 (1 + dp)) := ⟨F1, _, [], hk1, KInv.new (1 + dp) (by omega), by simp, by show (0 : Int) ≤ 0; omega, rfl⟩
    clear hk1 HBG
    go_wp2
    go_loopw [6, 7, 8, 9, 10, 11, 12, 13, 14, 15, 16] (fun _ vi _ _ _ _ _ _ _ _ _ wr => ∃ i : Nat, i ≤ s.size ∧ vi = .int .i64 i ∧ Hid (ActTo w wr wb xb i i (1 + dp))) (fun _ vi _ _ _ _ _ _ _ _ _ _ => s.size - (intOf vi).toNat)
    case atStart => exact ⟨0, by omega, rfl, HA0⟩
    case round =>
      clear HA0
      obtain ⟨i, hi, rfl, hA⟩ := hrel
      by_cases hlt : i < s.size
      · have hlti : (i : Int) < (s.size : Int) := by omega
        obtain ⟨F2, S2, rs2, hk2, hI2, hl2, hn2, hD2⟩ := hA.out
        have HACT := hide (kw_act w wr F2 wb xb S2 rs2 s[i] (i + 1) (i + 1) (1 + dp) hk2 hI2 (by omega) (by omega) (by omega) (by omega) hD2)
        clear hA hk2 hI2 hn2 hD2
        go_wp2_with fail
        refine HACT.out.mono ?_
        rintro e w2 ⟨rfl, F, S, rs, hk, hI, hl, hn, hD⟩
        clear HACT
        have HI := hide hI
        obtain ⟨q0, qz⟩ := hk.q
        have HFL := hide (kw_flights hk (by rw [hI.last]; omega))
        have hfl : (S.flights.length : Int) ≤ 1 + dp := by have := hI.wf.flLen; omega
        have hrl : S.reqs.length ≤ 65536 := by have := hI.wf.reqsLen; have := hI.last; omega
        clear hk hI
        go_wp2_with fail
        refine HFL.out.mono ?_
        clear q0 qz HFL
        rintro e w3 ⟨⟨ao, cap, vs, rfl, hFO⟩, hk⟩
        obtain ⟨q0, qz⟩ := hk.q
        have HFO := hide hFO
        have HK := hide hk
        clear hFO hk
        have hfd : decide (1 + dp < (S.flights.length : Int)) = false := decide_eq_false (by omega)
        go_wp2_with fail
        refine (HP1.out _).mono ?_
        rintro e w4 ⟨rfl, hw4⟩
        have hw4 := hw4.symm
        subst hw4
        have HWA := hide (kw_waiting HK.out)
        go_wp2_with fail
        refine HWA.out.mono ?_
        rintro e w4 ⟨⟨aw, cw, rfl, hrw⟩, hk4, hb4⟩
        have HRW := hide hrw
        have HFO4 := hide (HFO.out.below hb4)
        have HK4 := hide hk4
        clear hrw hb4 hk4 HK HFO HWA q0 qz
        have hsl := seen_len HI.out.wf
        have hr0 : Hid (Row w4 (fun b => w4.heap.size ≤ b) 3 1 none 0 0 (encI [])) := Row.nil _ _ _ _
        have hwl : (waitM S).length ≤ 1000000 := by have := hsl 0; simp [seenTo] at this; omega
        go_wp2_with (at_builtin; go_must (refine kb_append rfl (.tmp 58) (.tmp 59) rfl (Below.refl _ w4) rfl hr0.out rfl HRW.out (by omega) ?_; intro as1 cs1 w5 hrow5 hb5; have HR5 := hide hrow5; have HB5 := hide hb5; clear hrow5 hb5))
        have HS0 : Hid (Row w5 (fun b => w4.heap.size ≤ b) 3 1 as1 (seenTo S 0).length cs1 (encI (seenTo S 0))) := by
          have := HR5.out
          simp only [Nat.zero_add, List.nil_append] at this
          simpa [Hid, seenTo] using this
        clear HR5 HRW hr0
        go_wp2
        go_loopw [10, 11, 12, 13, 14] (fun vs vk _ _ _ wk => ∃ k : Nat, k ≤ S.flights.length ∧ vk = .int .i64 k ∧ (∃ ag cg, vs = .slice ag (seenTo S k).length cg ∧ Hid (Row wk (fun b => w4.heap.size ≤ b) 3 1 ag (seenTo S k).length cg (encI (seenTo S k)))) ∧ Hid (Below w4.heap.size w4 wk)) (fun _ vk _ _ _ _ => S.flights.length - (intOf vk).toNat)
        case atStart => exact ⟨0, by omega, rfl, ⟨as1, cs1, by simp [seenTo], HS0⟩, HB5⟩
        case round =>
          clear HS0 HB5
          obtain ⟨k, hk, rfl, ⟨ag, cg, rfl, hRw⟩, hBw⟩ := hrel
          by_cases hkl : k < S.flights.length
          · have hkli : (k : Int) < (S.flights.length : Int) := by omega
            obtain ⟨g, cc, av, cv, rfl, _, hgl, hgz, rfl, k0, k1, k2, k3, krow⟩ := HFO4.out.cells hkl
            have z4 := hBw.out.size
            have d0 := (hBw.out.cell (p := ⟨g, k * 4, none⟩) hgz).trans k0
            have d1 := (hBw.out.cell (p := ⟨g, k * 4 + 1, none⟩) hgz).trans k1
            have d2 := (hBw.out.cell (p := ⟨g, k * 4 + 2, none⟩) hgz).trans k2
            have d3 := (hBw.out.cell (p := ⟨g, k * 4 + 3, none⟩) hgz).trans k3
            have hgk : g < wr.heap.size := by omega
            obtain ⟨o1, o2, o3, o4, o5, o6⟩ := HI.out.fi.ok _ (List.getElem_mem hkl)
            have hsk := hsl (k + 1)
            rw [seen_next hkl, List.length_append] at hsk
            have HNX := hide (seen_next hkl)
            have HKR := hide krow
            have HAP : Hid (∀ j (hj : j < S.flights.length), j < k → ((S.flights[j]).write || (S.flights[k]).write) = true → (S.flights[j]).page + (S.flights[j]).count ≤ (S.flights[k]).page ∨ (S.flights[k]).page + (S.flights[k]).count ≤ (S.flights[j]).page) := fun j hj hjk => (List.pairwise_iff_getElem.1 HI.out.fi.apart) j k hj hkl hjk
            clear k0 k1 k2 k3 krow
            generalize hfw : (S.flights[k]).write = fw at *
            generalize hfp : (S.flights[k]).page = fp at *
            generalize hfc : (S.flights[k]).count = fc at *
            generalize hfr : (S.flights[k]).requests = fr at *
            clear hfw hfp hfc hfr
            have n1 : ¬ fc < 1 := by omega
            have n2 : ¬ 4 < fc := by omega
            have n3 : ¬ fp < 0 := by omega
            have n4 : ¬ 16 < fp + fc := by omega
            have n5 : ¬ (fr.length : Int) < fc := by omega
            have n6 : (fw && ((fr.length : Int) != fc)) = false := by
              cases hfw : fw with
              | false => rfl
              | true => simp [o6 hfw]
            have HW1 : Hid (Below w4.heap.size w4 (wr.alloc (.cells #[.bool fw, .int .i64 fp, .int .i64 fc, .slice av fr.length cv] 44))) := hBw.out.trans ((alloc_below _ _).mono z4)
            have HC1 : Hid ((wr.alloc (.cells #[.bool fw, .int .i64 fp, .int .i64 fc, .slice av fr.length cv] 44)).heap[wr.heap.size]? = some (.cells #[.bool fw, .int .i64 fp, .int .i64 fc, .slice av fr.length cv] 44 (0, 0))) := heap_alloc_new wr _
            have HR1 : Hid (Row (wr.alloc (.cells #[.bool fw, .int .i64 fp, .int .i64 fc, .slice av fr.length cv] 44)) (fun b => w4.heap.size ≤ b) 3 1 ag (seenTo S k).length cg (encI (seenTo S k))) := hRw.out.alloc _
            have HZ1 : Hid ((wr.alloc (.cells #[.bool fw, .int .i64 fp, .int .i64 fc, .slice av fr.length cv] 44)).heap.size = wr.heap.size + 1) := by simp [Hid]
            clear o6 hRw hBw
            cases fw with
            | true =>
              have n7 : ((fr.length : Int) != fc) = false := by simpa using n6
              go_wp2
              generalize wr.alloc (.cells #[.bool true, .int .i64 fp, .int .i64 fc, .slice av fr.length cv] 44) = W1 at *
              generalize hb1e : wr.heap.size = b1 at *
              clear d0 d1 d2 d3
              go_loopw [13, 14] (fun vj _ wj => ∃ j : Nat, j ≤ k ∧ vj = .int .i64 j ∧ Hid (Below W1.heap.size W1 wj)) (fun vj _ _ => k - (intOf vj).toNat)
              case atStart => exact ⟨0, by omega, rfl, Below.refl _ _⟩
              case round =>
                obtain ⟨j, hj, rfl, hbj⟩ := hrel
                have hzj := hbj.out.size
                have hz1 := HZ1.out
                have HCj : Hid (wr.heap[b1]? = some (.cells #[.bool true, .int .i64 fp, .int .i64 fc, .slice av fr.length cv] 44 (0, 0))) := (hbj.out.block _ (by omega)).trans HC1.out
                obtain ⟨⟨e0, e1, e2, e3⟩, _⟩ := cells4 HCj.out
                have hb1z : b1 < wr.heap.size := by omega
                have HWj : Hid (Below w4.heap.size w4 wr) := HW1.out.trans (hbj.out.mono HW1.out.size)
                by_cases hjk : j < k
                · have hjki : (j : Int) < (k : Int) := by omega
                  obtain ⟨g', cc', aj, cj, hgg, hcc1, hcc2, hgz', hcc3, j0, j1, j2, hcc4, hcc5⟩ := HFO4.out.cells (i := j) (by omega)
                  clear hcc1 hcc2 hcc3 hcc4 hcc5
                  have hgg' : g' = g := by simpa using hgg.symm
                  subst hgg'
                  have m0 := (HWj.out.cell (p := ⟨g', j * 4, none⟩) hgz').trans j0
                  have m1 := (HWj.out.cell (p := ⟨g', j * 4 + 1, none⟩) hgz').trans j1
                  have m2 := (HWj.out.cell (p := ⟨g', j * 4 + 2, none⟩) hgz').trans j2
                  have hgzw : g' < wr.heap.size := by have := HWj.out.size; omega
                  have hjl : (j : Int) < (S.flights.length : Int) := by omega
                  obtain ⟨p1, p2, p3, p4, _, _⟩ := HI.out.fi.ok _ (List.getElem_mem (show j < S.flights.length by omega))
                  have HAJ := hide (HAP.out j (by omega) hjk)
                  clear j0 j1 j2 hgg
                  generalize (S.flights[j]'(by omega)).write = jw at *
                  generalize (S.flights[j]'(by omega)).page = jp at *
                  generalize (S.flights[j]'(by omega)).count = jc at *
                  by_cases c1 : jp < fp + fc
                  · have hd1 : decide (jp < fp + fc) = true := by simp [c1]
                    by_cases c2 : fp < jp + jc
                    · have hd2 : decide (fp < jp + jc) = true := by simp [c2]
                      have hx := HAJ.out (by simp)
                      omega
                    · have hd2 : decide (fp < jp + jc) = false := decide_eq_false c2
                      go_wp2
                      go_quiet (fail)
                      go_wp2
                      go_roundw
                      case rel => exact ⟨j + 1, by omega, by go_num, below_drewN hbj.out nq⟩
                      case measure => simp [intOf]; omega
                  · have hd1 : decide (jp < fp + fc) = false := decide_eq_false c1
                    go_wp2
                    go_quiet (fail)
                    go_wp2
                    go_roundw
                    case rel => exact ⟨j + 1, by omega, by go_num, below_drewN hbj.out nq⟩
                    case measure => simp [intOf]; omega
                · have hje : j = k := by omega
                  subst hje
                  have HSRC : Hid (Row wr (fun b => w2.heap.size ≤ b) 3 1 av fr.length cv (encI fr)) := HKR.out.same (fun a ha => by obtain ⟨c, hc, _⟩ := HKR.out.block ha; exact HWj.out.block _ (lt_of_heap hc))
                  have HDST : Hid (Row wr (fun b => w4.heap.size ≤ b) 3 1 ag (seenTo S j).length cg (encI (seenTo S j))) := HR1.out.same (fun a ha => by obtain ⟨c, hc, _⟩ := HR1.out.block ha; exact hbj.out.block _ (lt_of_heap hc))
                  go_wp2_with (at_builtin; go_must (refine kb_append rfl (.tmp 156) (.tmp 158) rfl HWj.out rfl HDST.out rfl HSRC.out (by omega) ?_; intro ag2 cg2 w6 hrow6 hb6; have HR6 := hide hrow6; have HB6 := hide hb6; clear hrow6 hb6))
                  rw [← HNX.out] at HR6
                  go_wp2
                  go_roundw
                  case rel => exact ⟨j + 1, by omega, by go_num, ⟨ag2, cg2, by rw [HNX.out, List.length_append], by rw [Hid, HNX.out, List.length_append, ← HNX.out]; exact HR6.out⟩, HB6⟩
                  case measure => simp [intOf]; omega
            | false =>
              go_wp2
              generalize wr.alloc (.cells #[.bool false, .int .i64 fp, .int .i64 fc, .slice av fr.length cv] 44) = W1 at *
              generalize hb1e : wr.heap.size = b1 at *
              clear d0 d1 d2 d3
              go_loopw [13, 14] (fun vj _ wj => ∃ j : Nat, j ≤ k ∧ vj = .int .i64 j ∧ Hid (Below W1.heap.size W1 wj)) (fun vj _ _ => k - (intOf vj).toNat)
              case atStart => exact ⟨0, by omega, rfl, Below.refl _ _⟩
              case round =>
                obtain ⟨j, hj, rfl, hbj⟩ := hrel
                have hzj := hbj.out.size
                have hz1 := HZ1.out
                have HCj : Hid (wr.heap[b1]? = some (.cells #[.bool false, .int .i64 fp, .int .i64 fc, .slice av fr.length cv] 44 (0, 0))) := (hbj.out.block _ (by omega)).trans HC1.out
                obtain ⟨⟨e0, e1, e2, e3⟩, _⟩ := cells4 HCj.out
                have hb1z : b1 < wr.heap.size := by omega
                have HWj : Hid (Below w4.heap.size w4 wr) := HW1.out.trans (hbj.out.mono HW1.out.size)
                by_cases hjk : j < k
                · have hjki : (j : Int) < (k : Int) := by omega
                  obtain ⟨g', cc', aj, cj, hgg, hcc1, hcc2, hgz', hcc3, j0, j1, j2, hcc4, hcc5⟩ := HFO4.out.cells (i := j) (by omega)
                  clear hcc1 hcc2 hcc3 hcc4 hcc5
                  have hgg' : g' = g := by simpa using hgg.symm
                  subst hgg'
                  have m0 := (HWj.out.cell (p := ⟨g', j * 4, none⟩) hgz').trans j0
                  have m1 := (HWj.out.cell (p := ⟨g', j * 4 + 1, none⟩) hgz').trans j1
                  have m2 := (HWj.out.cell (p := ⟨g', j * 4 + 2, none⟩) hgz').trans j2
                  have hgzw : g' < wr.heap.size := by have := HWj.out.size; omega
                  have hjl : (j : Int) < (S.flights.length : Int) := by omega
                  obtain ⟨p1, p2, p3, p4, _, _⟩ := HI.out.fi.ok _ (List.getElem_mem (show j < S.flights.length by omega))
                  have HAJ := hide (HAP.out j (by omega) hjk)
                  clear j0 j1 j2 hgg
                  generalize (S.flights[j]'(by omega)).write = jw at *
                  generalize (S.flights[j]'(by omega)).page = jp at *
                  generalize (S.flights[j]'(by omega)).count = jc at *
                  by_cases c1 : jp < fp + fc
                  · have hd1 : decide (jp < fp + fc) = true := by simp [c1]
                    by_cases c2 : fp < jp + jc
                    · have hd2 : decide (fp < jp + jc) = true := by simp [c2]
                      have hjw : jw = false := by
                        cases hjw : jw with
                        | false => rfl
                        | true =>
                          have hx := HAJ.out (by rw [hjw]; rfl)
                          omega
                      subst hjw
                      go_wp2
                      go_quiet (fail)
                      go_wp2
                      go_roundw
                      case rel => exact ⟨j + 1, by omega, by go_num, below_drewN hbj.out nq⟩
                      case measure => simp [intOf]; omega
                    · have hd2 : decide (fp < jp + jc) = false := decide_eq_false c2
                      go_wp2
                      go_quiet (fail)
                      go_wp2
                      go_roundw
                      case rel => exact ⟨j + 1, by omega, by go_num, below_drewN hbj.out nq⟩
                      case measure => simp [intOf]; omega
                  · have hd1 : decide (jp < fp + fc) = false := decide_eq_false c1
                    go_wp2
                    go_quiet (fail)
                    go_wp2
                    go_roundw
                    case rel => exact ⟨j + 1, by omega, by go_num, below_drewN hbj.out nq⟩
                    case measure => simp [intOf]; omega
                · have hje : j = k := by omega
                  subst hje
                  have HSRC : Hid (Row wr (fun b => w2.heap.size ≤ b) 3 1 av fr.length cv (encI fr)) := HKR.out.same (fun a ha => by obtain ⟨c, hc, _⟩ := HKR.out.block ha; exact HWj.out.block _ (lt_of_heap hc))
                  have HDST : Hid (Row wr (fun b => w4.heap.size ≤ b) 3 1 ag (seenTo S j).length cg (encI (seenTo S j))) := HR1.out.same (fun a ha => by obtain ⟨c, hc, _⟩ := HR1.out.block ha; exact hbj.out.block _ (lt_of_heap hc))
                  go_wp2_with (at_builtin; go_must (refine kb_append rfl (.tmp 156) (.tmp 158) rfl HWj.out rfl HDST.out rfl HSRC.out (by omega) ?_; intro ag2 cg2 w6 hrow6 hb6; have HR6 := hide hrow6; have HB6 := hide hb6; clear hrow6 hb6))
                  rw [← HNX.out] at HR6
                  go_wp2
                  go_roundw
                  case rel => exact ⟨j + 1, by omega, by go_num, ⟨ag2, cg2, by rw [HNX.out, List.length_append], by rw [Hid, HNX.out, List.length_append, ← HNX.out]; exact HR6.out⟩, HB6⟩
                  case measure => simp [intOf]; omega
          · have hke : k = S.flights.length := by omega
            subst hke
            have HND : Hid ((seenTo S S.flights.length).Nodup) := by rw [Hid, seen_all]; exact seen_nodup HI.out.wf
            have hsk := hsl S.flights.length
            clear HFO4 hsl
            generalize seenTo S S.flights.length = sn at *
            go_wp2
            go_loopw [15, 16] (fun va _ wa => ∃ a : Nat, a ≤ sn.length ∧ va = .int .i64 a ∧ Hid (Below w4.heap.size w4 wa) ∧ Hid (Row wa (fun b => w4.heap.size ≤ b) 3 1 ag sn.length cg (encI sn))) (fun va _ _ => sn.length - (intOf va).toNat)
            case atStart => exact ⟨0, by omega, rfl, hBw, hRw⟩
            case round =>
              clear hBw hRw
              obtain ⟨a, ha, rfl, hBa, hRa⟩ := hrel
              by_cases hal : a < sn.length
              · have hali : (a : Int) < (sn.length : Int) := by omega
                go_wp2
                go_loopw [16] (fun vb wv => ∃ b : Nat, b ≤ a ∧ vb = .int .i64 b ∧ Hid (Below w4.heap.size w4 wv) ∧ Hid (Row wv (fun b => w4.heap.size ≤ b) 3 1 ag sn.length cg (encI sn))) (fun vb _ => a - (intOf vb).toNat)
                case atStart => exact ⟨0, by omega, rfl, hBa, hRa⟩
                case round =>
                  clear hBa hRa
                  obtain ⟨b, hb, rfl, hBb, hRb⟩ := hrel
                  by_cases hba : b < a
                  · have hbai : (b : Int) < (a : Int) := by omega
                    have hbl : (b : Int) < (sn.length : Int) := by omega
                    obtain ⟨gi, cur, hga, _, hgib, _, _⟩ := Row.some hRb.out (by omega)
                    subst hga
                    have e1 : wr.cell? ⟨gi, a, none⟩ = some (.int .i64 sn[a]) := by
                      rw [Row.cellAt hRb.out a (by omega)]; simp [encI, hal]
                    have e2 : wr.cell? ⟨gi, b, none⟩ = some (.int .i64 (sn[b]'(by omega))) := by
                      rw [Row.cellAt hRb.out b (by omega)]; simp [encI, show b < sn.length by omega]
                    have hne : (sn[a] == sn[b]'(by omega)) = false := by
                      have := (show sn.Pairwise (fun x y => x ≠ y) from HND.out)
                      rw [List.pairwise_iff_getElem] at this
                      have := this b a (by omega) hal hba
                      simp only [beq_eq_false_iff_ne, ne_eq]
                      exact fun e => this e.symm
                    have hgz := lt_of_heap hgib
                    clear hgib
                    generalize sn[a] = ya at *
                    generalize (sn[b]'(by omega)) = yb at *
                    go_wp2
                    go_quiet (fail)
                    go_wp2
                    go_roundw
                    case rel => exact ⟨b + 1, by omega, by go_num, below_drewN hBb.out nq, hRb.out.same (fun _ _ => rfl)⟩
                    case measure => simp [intOf]; omega
                  · have hbe : b = a := by omega
                    subst hbe
                    go_wp2
                    go_roundw
                    case rel => exact ⟨b + 1, by omega, by go_num, hBb, hRb⟩
                    case measure => simp [intOf]; omega
              · go_wp2
                go_roundw
                case rel => exact ⟨i + 1, by omega, by go_num, _, _, _, HK4.out.below hBa.out, HI.out, hl, by push_cast; omega, hD⟩
                case measure => simp [intOf]; omega
      · go_wp2
        go_ret
        obtain ⟨F2, S2, rs2, hk2, _⟩ := hA.out
        exact ⟨rfl, hk2.bel⟩
end Go.Proofs.YtiabdbeejkadnaaGreatDoor

/- The keep Bounded: the row and its tied card. Own work of the verifier. -/
namespace Go.Proofs.YtiabdbeejkadnaaGreatDoor
open Go.ChangeMaps Go.ChangeShapes Go.WideShapes Go.RowKit

theorem kOwn : ownKnob Tryz.prog.godebug = none := by kernel_rfl
theorem kEt : Tryz.prog.globalNamed "errors.errorType" = some 0 := by kernel_rfl
theorem kRt : (Tryz.prog.cutTypes.find? (·.1 == "internal/reflectlite.rtype")).map (·.2) = some 212 := by kernel_rfl
theorem kOneRow : ((List.range 272).filter fun t => Tryz.prog.rowNamed t [101, 114, 114, 111, 114]) = [109] := by kernel_rfl
theorem kSize : Tryz.prog.types.size = 272 := by kernel_rfl

theorem handle_of_laid {W : World} (h : laidMetH Tryz.prog Rows.boundedRow.laid W) : W.cell? ⟨0, 0, none⟩ = some (.iface 212 (.agg #[.pointer (some ⟨1, 109, none⟩)])) := by
  have h' : laidMet Tryz.prog [] W ∧ handlesMet Tryz.prog Rows.boundedRow.laid W := h
  obtain ⟨name, u, ty, e1, e2, e3, e4, e5⟩ := h'.2 _ (List.mem_singleton.2 rfl)
  have en : name = [101, 114, 114, 111, 114] := (Option.some.inj e1).symm
  subst en
  obtain rfl := Option.some.inj (kRt.symm.trans e2)
  have hm : ty ∈ (List.range 272).filter fun t => Tryz.prog.rowNamed t [101, 114, 114, 111, 114] := List.mem_filter.2 ⟨List.mem_range.2 (by rw [← kSize]; exact e3), e4⟩
  rw [kOneRow] at hm
  obtain rfl := List.mem_singleton.1 hm
  have hh : typeHandle Tryz.prog 109 = .pointer (some ⟨1, 109, none⟩) := by kernel_rfl
  rw [hh] at e5
  simpa using World.var?_cell kEt e5 0

noncomputable def laidWorld (os : Os) : World :=
  let w0 := World.holding Tryz.prog os ⟨#[], #[], []⟩
  { w0 with heap := w0.heap.modify 0 fun
      | .cells _ t frozen => .cells #[.iface 212 (.agg #[.pointer (some ⟨1, 109, none⟩)])] t frozen
      | o => o }
theorem laidWorld_met (os : Os) (args : Array Value) : laidMetH Tryz.prog Rows.boundedRow.laid ((laidWorld os).forCall (fun _ _ => 0) ⟨#[], args, []⟩).memory :=
  laidMetH_of_parts (laidMet_nil _ _) (by kernel_rfl)

theorem wf_range {x : Int} (h : (Lit.int .i64 x).wf = true) : -9223372036854775808 ≤ x ∧ x ≤ 9223372036854775807 := by
  simp only [Lit.wf, Bool.and_eq_true, decide_eq_true_eq] at h
  have e1 : IntKind.i64.min = -9223372036854775808 := by decide
  have e2 : IntKind.i64.max = 9223372036854775807 := by decide
  rw [e1, e2] at h
  exact h
theorem laidOut : laidOutB Tryz.prog = true := by kernel_rfl
set_option maxRecDepth 100000 in
theorem bounded_lifted (os : Os) (started : os.Started) (H : Type) (enc : TypeId × Value → H) :
    ReturnsInHanded {} Tryz.checked os 10 .any (fun w args => (Rows.boundedSpec.pre enc Tryz.prog Tryz.f10 [] false w args ∧ laidMetH Tryz.prog Rows.boundedRow.laid w) ∧ sizedMet enc Tryz.prog Tryz.f10 (OpenSpec.ofChange Rows.boundedSpec) false w args)
      (Rows.boundedSpec.post enc Tryz.prog Tryz.f10 false true false false) := by
  refine returnsInHanded_of_change_and (C := Tryz.checked) (X := fun w _ => laidMetH Tryz.prog Rows.boundedRow.laid w) (fun _ _ _ hh h => h.of_heap hh) kOwn started (by kernel_rfl) Tryz.func10
    (ChangeSpec.witness_at (enc := enc) (C := Tryz.checked) (os := os) (X := fun w _ => laidMetH Tryz.prog Rows.boundedRow.laid w) false (laidWorld os) #[.int .i64 0, .string ⟨#[]⟩] 8 rfl (by kernel_rfl) (by kernel_rfl) (by kernel_rfl) (by kernel_rfl) (by kernel_rfl) (laidWorld_met os _)) ?_
  intro W base args ds gs before hval0 hW _ hsz0 hL _
  have hsz : (DataW.weightsEach Tryz.prog (Tryz.f10.params.toList ++ Rows.boundedSpec.plain.varTypes Tryz.prog) (ds ++ gs)).all (· ≤ reachBytes) = true := hsz0
  have hval : ∀ (j : Nat) t v, Tryz.f10.params[j]? = some t → args[j]? = some v → Value.okWide Tryz.prog W .any base t v := hval0
  clear hsz0 hval0
  have hW' := hW
  obtain ⟨p, q, hA0, hV, rfl, hfz, hnd⟩ := hW
  have hA : DataW.TrodAll enc Tryz.prog W 0 (fun _ => true) true Tryz.f10.params.toList args.toList ds p := hA0
  rw [Tryz.params10] at hA hsz hval
  obtain ⟨v0, v1, d0, d1, p0, p1, rfl, rfl, rfl, h0, h1⟩ := trodAll_two hA
  obtain ⟨x0, rfl, rfl, rfl, hw0⟩ := open_int Tryz.underlying3 (hval 0 _ _ rfl rfl) h0
  obtain ⟨x1, rfl, rfl, rfl, hs1⟩ := open_string Tryz.underlying9 (hval 1 _ _ rfl rfl) h1
  obtain ⟨rfl, rfl⟩ := trodVars_none hV
  clear hA0 hA
  simp only [List.append_nil] at hW' hsz
  have hg : GCell W := handle_of_laid hL
  refine (bounded_walk x0 x1 W hg (wf_range hw0) hs1).mono ?_
  rintro e W' ⟨rfl, hb⟩
  have e1 : Rows.boundedSpec.fn H ([.lit (.int .i64 x0), .lit (.string x1.data.toList)] ++ []) = { results := [.lit (.bool true)], args := [.lit (.int .i64 x0), .lit (.string x1.data.toList)] } := by simp [Rows.boundedSpec]
  refine ⟨_, rfl, _, _, _, [], [], [], hW', ?_, ?_, ?_, hb.frame _, fun h => by cases h⟩
  · rw [e1]; exact trodAll_mk1 (shut_bool Tryz.underlying4 true)
  · rw [e1]; exact trodAll_mk2 (shut_int Tryz.underlying3 hw0) (shut_string Tryz.underlying9 hs1)
  · rw [e1]; rfl

theorem bounded_said : Rows.BoundedSaid :=
  OpenClaim.holds_of_wide 10 Tryz.f10 rfl rfl rfl rfl rfl rfl rfl ⟨rfl, rfl, rfl, rfl, rfl⟩ rfl rfl rfl rfl rfl (by kernel_rfl) Tryz.func10 (by kernel_rfl)
    (of_decide_eq_true (by kernel_rfl)) (by unfold Func.isWrapper; first | (rw [if_pos (by decide +kernel)]; kernel_rfl) | (rw [if_neg (by decide +kernel)]; exact ⟨rfl, rfl⟩))
    (fun os started H enc _ => bounded_lifted os started H enc)

theorem bounded_plain (f : FuncId) (fn : Func) (hf : Tryz.pinned.checked.prog.funcNamed "elevator/elevatorkeep.Bounded" = some f) (hfn : Tryz.pinned.checked.prog.funcs[f]? = some fn) :
    true = Tryz.pinned.checked.prog.looks [] ∧ ∀ (j : Nat) t, fn.params[j]? = some t → Tryz.pinned.checked.prog.wantsStandIn t = false := by
  obtain rfl : f = 10 := Option.some.inj ((show Tryz.prog.funcNamed "elevator/elevatorkeep.Bounded" = some 10 by kernel_rfl).symm.trans hf) |>.symm
  obtain rfl : fn = Tryz.f10 := (Option.some.inj (Tryz.func10.symm.trans hfn)).symm
  refine ⟨by kernel_rfl, fun j t ht => ?_⟩
  rw [Tryz.params10] at ht
  cases j with
  | zero =>
    have e : t = 3 := by simpa using ht.symm
    subst e
    show Tryz.prog.wantsStandIn 3 = false
    kernel_rfl
  | succ j =>
    cases j with
    | zero =>
      have e : t = 9 := by simpa using ht.symm
      subst e
      show Tryz.prog.wantsStandIn 9 = false
      kernel_rfl
    | succ j =>
      simp at ht

/-- a tied card, whatever its cell 'goes' -/
theorem tied_at (Lk : Looks) {p : Pinned} {s : OpenSpec} {c : OpenClaim} (g : Bool) (kinds : List LaidKind) (tests : Bool) (har : Bool × String) (lk : Bool)
    (hc : c.holds p s) (hw : c.wfByText s = true) (htie : c.laidByTextAt Lk p kinds tests)
    (hst : c.start = .entering) (hnb : c.noBlocks = false ∧ c.again = false) (hm : p.checked.prog.mainIs = some (har.1, har.2.toList)) (hn : (!har.1 && har.2.isEmpty && !lk) = false)
    (hl : ∀ f fn, p.checked.prog.funcNamed c.func = some f → p.checked.prog.funcs[f]? = some fn → lk = p.checked.prog.looks [] ∧ ∀ (j : Nat) t, fn.params[j]? = some t → p.checked.prog.wantsStandIn t = false)
    (hg : g = c.goesBy p.checked.prog) :
    Claim7.holds p (.plain s) { stood := { row := c, standIns := [], harness := har, looks := lk }, kinds := [], alts := [], goes := g, laidByText := true, laidKinds := kinds, laidTests := tests, laidLooks := Lk } := by
  have h6 : ∀ r : OpenClaim, Claim7.isSixth { stood := { row := r, standIns := [], harness := har, looks := lk }, kinds := [] } = false := fun r => by simpa [Claim7.isSixth] using hn
  exact ⟨Claim7.tied_new_at Lk kinds tests (Claim7.new_of_sixth hc har lk hst hnb hm (h6 c) hl) hw, (fun D hD => by cases hD), htie, (fun h => by cases h), hg⟩
theorem bounded_card : Rows.BoundedCardSaid :=
  tied_at .later _ _ _ _ _ bounded_said (by kernel_rfl) bounded_row_tie rfl ⟨rfl, rfl⟩ (by kernel_rfl) rfl bounded_plain (by kernel_rfl)
#print axioms bounded_card
end Go.Proofs.YtiabdbeejkadnaaGreatDoor
