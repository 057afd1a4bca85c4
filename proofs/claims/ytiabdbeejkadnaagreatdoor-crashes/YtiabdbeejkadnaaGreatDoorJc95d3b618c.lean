import Derived.Test.YtiabdbeejkadnaaGreatDoorJ6f47aa9e97
import Derived.Test.YtiabdbeejkadnaaGreatDoorJ625f4259f7
import Derived.Deep.CutRange
import Derived.Deep.RegionWith
import Derived.Test.YtiabdbeejkadnaaGreatDoorJ2748aa994a
import Derived.Test.YtiabdbeejkadnaaGreatDoorJc29dca4cb7
import Derived.Test.YtiabdbeejkadnaaGreatDoorJ97fed9c167
/- The reference queue: Crash. Own work of the verifier. -/
namespace Go.Proofs.YtiabdbeejkadnaaGreatDoor
open Go.RowKit

section
variable {w : World} {F G : Nat → Prop} {mb : Nat} {S : St} {ar : Option Addr} {cr : Nat} {at_ : Option Addr} {ct : Nat} {af : Option Addr} {cf : Nat} {ad : Option Addr} {cd : Nat}
/-- the queue's four stores at the end -/
theorem RefBlk.cleared (h : RefBlk w F G mb S ar cr at_ ct af cf ad cd) :
    RefBlk ((((w.setCell ⟨mb, 1, none⟩ (.slice none 0 0)).setCell ⟨mb, 2, none⟩ (.slice none 0 0)).setCell ⟨mb, 3, none⟩ (.slice none 0 0)).setCell ⟨mb, 5, none⟩ (.int .i64 0)) F (fun _ => False) mb { S with reqs := [], told := [], flights := [], head := 0 } none 0 none 0 none 0 ad cd := by
  have h1 := heap_setCell_at (j := 1) h.blk (.slice none 0 0)
  have h2 := heap_setCell_at (j := 2) h1 (.slice none 0 0)
  have h3 := heap_setCell_at (j := 3) h2 (.slice none 0 0)
  have h5 := heap_setCell_at (j := 5) h3 (.int .i64 0)
  have hne : ∀ a, ad = some a → a.block ≠ mb := h.disk.ne h.blk (by decide)
  refine ⟨h.own, ?_, Row.nil _ _ _ _, Row.nil _ _ _ _, ?_, ⟨[], rfl, Row.nil _ _ _ _, fun x hx => by simp at hx⟩, fun _ e => e.elim, fun e => e, fun _ e => (by cases e), fun _ e => (by cases e), fun _ _ e => e, fun k hk => by have := h.ltF k hk; simpa [World.setCell] using this⟩
  · rw [h5]; rfl
  · exact (((h.disk.setCell_other (p := ⟨mb, 1, none⟩) hne _).setCell_other (p := ⟨mb, 2, none⟩) hne _).setCell_other (p := ⟨mb, 3, none⟩) hne _).setCell_other (p := ⟨mb, 5, none⟩) hne _
end
theorem ten_other {w : World} {b : Nat} {v0 v1 v2 v3 v4 v5 v6 v7 v8 v9 : Value} {a : Addr} (h : a.block ≠ b) : ((((((((((w.setCell ⟨b, 0, none⟩ v0).setCell ⟨b, 1, none⟩ v1).setCell ⟨b, 2, none⟩ v2).setCell ⟨b, 3, none⟩ v3).setCell ⟨b, 4, none⟩ v4).setCell ⟨b, 5, none⟩ v5).setCell ⟨b, 6, none⟩ v6).setCell ⟨b, 7, none⟩ v7).setCell ⟨b, 8, none⟩ v8).setCell ⟨b, 9, none⟩ v9).cell? a = w.cell? a := by
  have e : ∀ (W : World) (j : Nat) (v : Value), (W.setCell ⟨b, j, none⟩ v).cell? a = W.cell? a := fun W j v => World.cell?_of_block (Below.heap_setCell _ _ _ _ h)
  rw [e, e, e, e, e, e, e, e, e, e]
theorem wrNums_take {fl : List Cmd} {i : Nat} (h : i < fl.length) : wrNums (fl.take (i + 1)) = if (fl[i]).write then wrNums (fl.take i) ++ (fl[i]).requests else wrNums (fl.take i) := by
  rw [List.take_succ_eq_append_getElem h]
  cases hw : (fl[i]).write with
  | true => rw [wrNums_write _ _ hw]; rfl
  | false => rw [wrNums_read _ _ hw]; rfl
theorem wrNums_take_le (fl : List Cmd) (i : Nat) : (wrNums (fl.take i)).length ≤ (wrNums fl).length := by
  have h := List.take_append_drop i fl
  have : wrNums fl = wrNums (fl.take i) ++ wrNums (fl.drop i) := by
    conv => lhs; rw [← h]
    unfold wrNums; rw [List.filter_append, List.flatMap_append]
  rw [this, List.length_append]; omega

set_option maxHeartbeats 4000000 in
set_option maxRecDepth 1000000 in
theorem ref_crash (S : St) (F P : Nat → Prop) (mb : Nat) (K : List Bool) (ao : Option Addr) (n cap : Nat) (w : World) (h : RefAt w F mb S) (hw : Wf S) (hl : S.last ≤ 1000000) (hrow : Row w P 4 1 ao n cap (encO K)) (hn : n = K.length) (hK : K.length ≤ 1000000) (hPF : ∀ k, P k → ¬ F k) :
    Calls Tryz.prog 83 #[.pointer (some ⟨mb, 0, none⟩), .slice ao n cap] w fun e w' => e = .returned (.tuple #[]) ∧ RefAt w' (Foot F w w') mb (crashM S K) ∧ Kept F w w' := by
  subst hn
  obtain ⟨G, ar, cr, at_, ct, af, cf, ad, cd, hB⟩ := h
  have HLT := hide hB.ltF
  have hmbl := hB.lt
  have hf4 : S.flights.length ≤ 4 := by have := hw.flLen; have := hw.depth; omega
  have hrl : S.reqs.length ≤ 1000000 := by have := hw.reqsLen; omega
  have hwl := wrNums_len hw
  have HW := hide hw
  have HROW := hide hrow
  have HPF := hide hPF
  have HG0 : Hid (RefG w F G mb (sD S (crashD S K (wrNums (S.flights.take 0)) 0 S.disk))) := ⟨_, _, _, _, _, _, _, _, hB⟩
  clear hB hw hrow hPF
  go_enter Tryz.func83, Tryz.ntmps83
  go_wp2
  go_loopw [4, 5, 6, 7, 8] (fun vn vi _ _ _ wr => ∃ i : Nat, i ≤ S.flights.length ∧ vi = .int .i64 i ∧ vn = .int .i64 ((wrNums (S.flights.take i)).length : Int) ∧ Hid (RefG wr F G mb (sD S (crashD S K (wrNums (S.flights.take i)) 0 S.disk))) ∧ Hid (Kept (fun k => F k ∧ ¬ G k) w wr)) (fun _ vi _ _ _ _ => S.flights.length - (intOf vi).toNat)
  case atStart => exact ⟨0, Nat.zero_le _, rfl, rfl, HG0.out, Kept.refl _ _⟩
  case round =>
    clear HG0
    obtain ⟨i, hi, rfl, rfl, HG, HK⟩ := hrel
    obtain ⟨ar1, cr1, at1, ct1, af1, cf1, ad1, cd1, hB1⟩ := HG.out
    have c3 : wr.cell? ⟨mb, 3, none⟩ = some (.slice af1 S.flights.length cf1) := hB1.c3
    have HB1 := hide hB1
    by_cases hlt : i < S.flights.length
    · have hii : (i : Int) < (S.flights.length : Int) := by omega
      obtain ⟨vs, hvl, hRf, hins⟩ := hB1.flights
      replace hRf : Row wr G 44 4 af1 S.flights.length cf1 ((S.flights.zip vs).flatMap encC) := hRf
      obtain ⟨gf, cur, hgf, hgG, hgb, _, _⟩ := Row.some hRf (by omega)
      subst hgf
      have hvl' : vs.length = S.flights.length := hvl
      have hiz : i < (S.flights.zip vs).length := by rw [List.length_zip, hvl', Nat.min_self]; exact hlt
      have hiv : i < vs.length := by omega
      have hzi : (S.flights.zip vs)[i] = (S.flights[i], vs[i]) := by simp
      have hcel : ∀ t, t < 4 → wr.cell? ⟨gf, i * 4 + t, none⟩ = (encC (S.flights[i], vs[i]))[t]? := fun t ht => by
        rw [Row.cellAt hRf (i * 4 + t) (by omega), encC_at _ i t hiz ht, hzi]
      have HIN : Hid (Row wr G 3 1 (vs[i]).1 (S.flights[i]).requests.length (vs[i]).2 (encI (S.flights[i]).requests)) := by
        have := hins _ (List.getElem_mem hiz)
        rw [hzi] at this; exact this
      have HNX := hide (wrNums_take hlt)
      have hcok := HW.out.fl _ (List.getElem_mem hlt)
      have hpos : 0 < (S.flights[i]).requests.length := List.length_pos_iff.2 hcok.ne
      have HAIR : Hid (∀ x ∈ (S.flights[i]).requests, ∃ k, ∃ hk : k < S.reqs.length, findR S.reqs x = some k ∧ (S.reqs[k]).num = x) := fun x hx => by
        obtain ⟨k, hk, h1, h2, _⟩ := HW.out.found (n := x) (List.mem_append_left _ (List.mem_flatMap.2 ⟨_, List.getElem_mem hlt, hx⟩))
        exact ⟨k, hk, h1, h2⟩
      have hln : (wrNums (S.flights.take (i + 1))).length ≤ S.reqs.length := Nat.le_trans (wrNums_take_le _ _) hwl
      have HCW : Hid (∀ r ∈ S.reqs, r.num ∈ (S.flights[i]).requests → r.write = (S.flights[i]).write) := hcok.wr
      generalize hcm : S.flights[i] = cm at *
      generalize vs[i] = v at *
      obtain ⟨va, vc⟩ := v
      have x0 : wr.cell? ⟨gf, i * 4, none⟩ = some (.bool cm.write) := hcel 0 (by omega)
      have x1 : wr.cell? ⟨gf, i * 4 + 1, none⟩ = some (.int .i64 cm.page) := hcel 1 (by omega)
      have x2 : wr.cell? ⟨gf, i * 4 + 2, none⟩ = some (.int .i64 cm.count) := hcel 2 (by omega)
      have x3 : wr.cell? ⟨gf, i * 4 + 3, none⟩ = some (.slice va cm.requests.length vc) := hcel 3 (by omega)
      clear hcel hRf hins hB1 hgb hcm hcok
      cases hwr : cm.write with
      | false =>
        rw [hwr] at x0
        have HNX2 : Hid (wrNums (S.flights.take (i + 1)) = wrNums (S.flights.take i)) := by rw [Hid, HNX.out, hwr]; rfl
        have HFIN : Hid (RefG (wr.alloc (.cells #[.bool false, .int .i64 cm.page, .int .i64 cm.count, .slice va cm.requests.length vc] 44)) F G mb (sD S (crashD S K (wrNums (S.flights.take i)) 0 S.disk)) ∧ Kept (fun k => F k ∧ ¬ G k) w (wr.alloc (.cells #[.bool false, .int .i64 cm.page, .int .i64 cm.count, .slice va cm.requests.length vc] 44))) := ⟨HG.out.same (fun b _ hb => Below.heap_alloc _ _ _ hb) (by simp), HK.out.alloc _⟩
        clear hwr HNX
        go_wp2
        refine wp_loop_rounds 1 ?_
        rw [rounds_succ]
        go_wp2
        go_roundw
        case rel => exact ⟨i + 1, by omega, by go_num, by rw [HNX2.out], by rw [HNX2.out]; exact HFIN.out.1, HFIN.out.2⟩
        case measure => simp [intOf]; omega
      | true =>
        rw [hwr] at x0
        have HNX2 : Hid (wrNums (S.flights.take (i + 1)) = wrNums (S.flights.take i) ++ cm.requests) := by rw [Hid, HNX.out, hwr]; rfl
        rw [HNX2.out, List.length_append] at hln
        have HC0 : Hid ((wr.alloc (.cells #[.bool true, .int .i64 cm.page, .int .i64 cm.count, .slice va cm.requests.length vc] 44)).heap[wr.heap.size]? = some (.cells #[.bool true, .int .i64 cm.page, .int .i64 cm.count, .slice va cm.requests.length vc] 44 (0, 0))) := heap_alloc_new wr _
        have HG1 : Hid (RefG (wr.alloc (.cells #[.bool true, .int .i64 cm.page, .int .i64 cm.count, .slice va cm.requests.length vc] 44)) F G mb (sD S (crashD S K (wrNums (S.flights.take i)) 0 S.disk))) := HG.out.same (fun b _ hb => Below.heap_alloc _ _ _ hb) (by simp)
        have HK1 : Hid (Kept (fun k => F k ∧ ¬ G k) w (wr.alloc (.cells #[.bool true, .int .i64 cm.page, .int .i64 cm.count, .slice va cm.requests.length vc] 44))) := HK.out.alloc _
        have hcbF : ¬ F wr.heap.size := fun e => by have := HLT.out _ e; have := HK.out.size; omega
        have HI1 : Hid (Row (wr.alloc (.cells #[.bool true, .int .i64 cm.page, .int .i64 cm.count, .slice va cm.requests.length vc] 44)) G 3 1 va cm.requests.length vc (encI cm.requests)) := HIN.out.alloc _
        have HCW2 : Hid (∀ r ∈ S.reqs, r.num ∈ cm.requests → r.write = true) := fun r h1 h2 => (HCW.out r h1 h2).trans hwr
        clear hwr HNX HG HK HIN HB1 HCW
        go_wp2
        obtain ⟨w0, hw0⟩ : ∃ w0, w0 = wr.alloc (.cells #[.bool true, .int .i64 cm.page, .int .i64 cm.count, .slice va cm.requests.length vc] 44) := ⟨_, rfl⟩
        rw [← hw0] at HC0 HG1 HK1 HI1 ⊢
        clear hw0 x0 x1 x2 x3 c3
        generalize hcb : wr.heap.size = cb at *
        generalize hns : cm.requests = ns at *
        generalize hwn : wrNums (S.flights.take i) = wn at *
        go_loopw [4, 7, 8] (fun vn vk _ wx => ∃ k : Nat, k ≤ ns.length ∧ vk = .int .i64 k ∧ vn = .int .i64 ((wn.length : Int) + (k : Int)) ∧ Hid (RefG wx F G mb (sD S (crashD S K (wn ++ ns.take k) 0 S.disk))) ∧ Hid (Kept (fun k => F k ∧ ¬ G k) w wx) ∧ Hid (Kept (fun k => F k ∧ ¬ G k) w0 wx)) (fun _ vk _ _ => ns.length - (intOf vk).toNat)
        case atStart => exact ⟨0, Nat.zero_le _, rfl, by go_num, by rw [List.take_zero, List.append_nil]; exact HG1.out, HK1.out, Kept.refl _ _⟩
        case round =>
          obtain ⟨k, hk, rfl, rfl, HG, HK, HKW⟩ := hrel
          have hcbw : wr.heap[cb]? = _ := (HKW.out.block cb (lt_of_heap HC0.out) (fun e => hcbF e.1)).trans HC0.out
          obtain ⟨⟨c0, c1, c2, c3⟩, _⟩ := quad hcbw
          have HCB := hide hcbw
          clear hcbw
          by_cases hkl : k < ns.length
          · have hkli : (k : Int) < (ns.length : Int) := by omega
            have hrow2 : Row wr G 3 1 va ns.length vc (encI ns) := HI1.out.same fun a ha => by
              obtain ⟨cu, hcu, _⟩ := HI1.out.block ha
              exact HKW.out.block _ (lt_of_heap hcu) (fun e => e.2 (HI1.out.2 a ha))
            obtain ⟨g4, cur4, hg4, hg4G, _, _, _⟩ := Row.some hrow2 (by omega)
            subst hg4
            have ck : wr.cell? ⟨g4, k, none⟩ = some (.int .i64 ns[k]) := by rw [Row.cellAt hrow2 k (by omega)]; simp [encI, hkl]
            obtain ⟨k2, hk2, hf2, hn2⟩ := HAIR.out _ (List.getElem_mem hkl)
            obtain ⟨ar2, cr2, at2, ct2, af2, cf2, ad2, cd2, hB2⟩ := HG.out
            obtain ⟨g1, cur1, hg1, hg1F, _, _, _⟩ := Row.some hB2.reqs (by show 0 < S.reqs.length; omega)
            subst hg1
            have d1 : wr.cell? ⟨mb, 1, none⟩ = some (.slice (some ⟨g1, 0, none⟩) S.reqs.length cr2) := hB2.c1
            have HRQ := hide (rqOf_found hk2 hf2)
            have hpgr := (HW.out.rq _ (List.getElem_mem hk2)).page
            have hdat := (HW.out.rq _ (List.getElem_mem hk2)).data (HCW2.out _ (List.getElem_mem hk2) (by rw [hn2]; exact List.getElem_mem hkl))
            have hq : ∀ t, t < 10 → wr.cell? ⟨g1, k2 * 10 + t, none⟩ = (encR S.reqs[k2])[t]? := fun t ht => by
              rw [← getD_of hk2]
              exact Row.req hB2.reqs rfl k2 t hk2 ht
            have HAT : Hid (∀ w', Below wr.heap.size wr w' → Calls Tryz.prog 110 #[.pointer (some ⟨mb, 0, none⟩), .int .i64 ns[k]] w' fun e w'' => e = .returned (.int .i64 (k2 : Int)) ∧ Below w'.heap.size w' w'' ∧ w''.cell? ⟨mb, 1, none⟩ = some (.slice (some ⟨g1, 0, none⟩) S.reqs.length cr2) ∧ w''.cell? ⟨cb, 3, none⟩ = some (.slice (some ⟨g4, 0, none⟩) ns.length vc) ∧ w''.cell? ⟨g4, k, none⟩ = some (.int .i64 ns[k]) ∧ ∀ t, t < 10 → w''.cell? ⟨g1, k2 * 10 + t, none⟩ = (encR S.reqs[k2])[t]?) := fun w' hb => by
              have := ref_at (sD S (crashD S K (wn ++ ns.take k) 0 S.disk)) F mb ns[k] w' (HG.out.at_.same (fun b _ hb' => hb.block b hb') hb.size) hrl
              rw [show intOr (findR (sD S (crashD S K (wn ++ ns.take k) 0 S.disk)).reqs ns[k]) = (k2 : Int) by show intOr (findR S.reqs ns[k]) = _; rw [hf2]; rfl] at this
              refine this.mono ?_
              rintro e w2 ⟨rfl, rfl⟩
              exact ⟨rfl, Below.refl _ _, (hb.cell (p := ⟨mb, 1, none⟩) (lt_of_cell d1)).trans d1, (hb.cell (p := ⟨cb, 3, none⟩) (lt_of_cell c3)).trans c3, (hb.cell (p := ⟨g4, k, none⟩) (lt_of_cell ck)).trans ck, fun t ht => (hb.cell (p := ⟨g1, k2 * 10 + t, none⟩) (lt_of_cell ((hq t ht).trans (List.getElem?_eq_getElem (by rw [encR_len]; exact ht))))).trans (hq t ht)⟩
            generalize hr : S.reqs[k2] = r at *
            have q0 : wr.cell? ⟨g1, k2 * 10, none⟩ = some (.int .i64 r.num) := hq 0 (by omega)
            have q1 : wr.cell? ⟨g1, k2 * 10 + 1, none⟩ = some (.bool r.write) := hq 1 (by omega)
            have q2 : wr.cell? ⟨g1, k2 * 10 + 2, none⟩ = some (.int .i64 r.page) := hq 2 (by omega)
            have q3 : wr.cell? ⟨g1, k2 * 10 + 3, none⟩ = some (.string r.data) := hq 3 (by omega)
            have q4 : wr.cell? ⟨g1, k2 * 10 + 4, none⟩ = some (.int .i64 r.state) := hq 4 (by omega)
            have q5 : wr.cell? ⟨g1, k2 * 10 + 5, none⟩ = some (.int .i64 r.tries) := hq 5 (by omega)
            have q6 : wr.cell? ⟨g1, k2 * 10 + 6, none⟩ = some (.int .i64 r.after) := hq 6 (by omega)
            have q7 : wr.cell? ⟨g1, k2 * 10 + 7, none⟩ = some (.bool r.alone) := hq 7 (by omega)
            have q8 : wr.cell? ⟨g1, k2 * 10 + 8, none⟩ = some (.bool r.inAir) := hq 8 (by omega)
            have q9 : wr.cell? ⟨g1, k2 * 10 + 9, none⟩ = some (.string r.answer) := hq 9 (by omega)
            have l1 : g1 < wr.heap.size := lt_of_cell q0
            have l2 : mb < wr.heap.size := lt_of_cell d1
            have l3 : cb < wr.heap.size := lt_of_cell c3
            have l4 : g4 < wr.heap.size := lt_of_cell ck
            have ne1 : g1 ≠ wr.heap.size := by omega
            have ne2 : mb ≠ wr.heap.size := by omega
            have ne3 : cb ≠ wr.heap.size := by omega
            have ne4 : g4 ≠ wr.heap.size := by omega
            have hk2i : (k2 : Int) < (S.reqs.length : Int) := by omega
            have HTK : Hid (ns.take (k + 1) = ns.take k ++ [ns[k]]) := List.take_succ_eq_append_getElem hkl
            generalize ns[k] = x at *
            clear hq hB2 hrow2 hr hf2
            go_wp2_with fail
            obtain ⟨w6, hw6⟩ : ∃ w6, w6 = wr := ⟨_, rfl⟩
            subst hw6
            go_cut [8] from 25 to 66 (fun vp wx => ∃ fb, vp = .pointer (some ⟨fb, 0, none⟩) ∧ Hid (Below w6.heap.size w6 wx ∧ wx.heap[fb]? = some (.cells (encR r).toArray 175 (0, 0)) ∧ w6.heap.size ≤ fb))
            case first =>
              clear HTK HRQ hpgr hdat HK HKW HG HC0 HI1 HG1 HK1 HROW HPF HAIR HCW2 HNX2 HW HCB HLT c0 c1 c2 hn2
              go_region_held3 (fun W => (W.cell? ⟨mb, 1, none⟩ = some (.slice (some ⟨g1, 0, none⟩) S.reqs.length cr2) ∧ W.cell? ⟨cb, 3, none⟩ = some (.slice (some ⟨g4, 0, none⟩) ns.length vc) ∧ W.cell? ⟨g4, k, none⟩ = some (.int .i64 x)) ∧ (W.cell? ⟨g1, k2 * 10, none⟩ = some (.int .i64 r.num) ∧ W.cell? ⟨g1, k2 * 10 + 1, none⟩ = some (.bool r.write) ∧ W.cell? ⟨g1, k2 * 10 + 2, none⟩ = some (.int .i64 r.page) ∧ W.cell? ⟨g1, k2 * 10 + 3, none⟩ = some (.string r.data) ∧ W.cell? ⟨g1, k2 * 10 + 4, none⟩ = some (.int .i64 r.state) ∧ W.cell? ⟨g1, k2 * 10 + 5, none⟩ = some (.int .i64 r.tries) ∧ W.cell? ⟨g1, k2 * 10 + 6, none⟩ = some (.int .i64 r.after) ∧ W.cell? ⟨g1, k2 * 10 + 7, none⟩ = some (.bool r.alone) ∧ W.cell? ⟨g1, k2 * 10 + 8, none⟩ = some (.bool r.inAir) ∧ W.cell? ⟨g1, k2 * 10 + 9, none⟩ = some (.string r.answer))) (first | go_keep | (refine ⟨⟨?_, ?_, ?_⟩, ?_, ?_, ?_, ?_, ?_, ?_, ?_, ?_, ?_, ?_⟩ <;> (refine (ten_other ?_).trans ?_ <;> assumption)))
                (first | (go_at_call 110; refine (HAT.out _ ?_).mono ?_; (first | exact (Below.refl _ _).drew | exact (alloc_below _ _).drew); rintro e w2 ⟨rfl, hb2, e1, e2, e3, ecl⟩; have s0 : w2.cell? ⟨g1, k2 * 10, none⟩ = some (.int .i64 r.num) := ecl 0 (by omega); have s1 : w2.cell? ⟨g1, k2 * 10 + 1, none⟩ = some (.bool r.write) := ecl 1 (by omega); have s2 : w2.cell? ⟨g1, k2 * 10 + 2, none⟩ = some (.int .i64 r.page) := ecl 2 (by omega); have s3 : w2.cell? ⟨g1, k2 * 10 + 3, none⟩ = some (.string r.data) := ecl 3 (by omega); have s4 : w2.cell? ⟨g1, k2 * 10 + 4, none⟩ = some (.int .i64 r.state) := ecl 4 (by omega); have s5 : w2.cell? ⟨g1, k2 * 10 + 5, none⟩ = some (.int .i64 r.tries) := ecl 5 (by omega); have s6 : w2.cell? ⟨g1, k2 * 10 + 6, none⟩ = some (.int .i64 r.after) := ecl 6 (by omega); have s7 : w2.cell? ⟨g1, k2 * 10 + 7, none⟩ = some (.bool r.alone) := ecl 7 (by omega); have s8 : w2.cell? ⟨g1, k2 * 10 + 8, none⟩ = some (.bool r.inAir) := ecl 8 (by omega); have s9 : w2.cell? ⟨g1, k2 * 10 + 9, none⟩ = some (.string r.answer) := ecl 9 (by omega); have HB2 := hide hb2; clear hb2 ecl; (try (have HT := hide (ten_mid HB2.out); obtain ⟨⟨⟨a0, a1, a2, a3, a4⟩, a5, a6, a7, a8, a9⟩, fz⟩ := ten HT.out.1; have f0 := fz 0; have f1 := fz 1; have f2 := fz 2; have f3 := fz 3; have f4 := fz 4; have f5 := fz 5; have f6 := fz 6; have f7 := fz 7; have f8 := fz 8; have f9 := fz 9; clear fz))))
              all_goals go_wp2_with fail
              all_goals go_meet
              all_goals first
                | (have HT' := HT; exact ⟨_, rfl, midA HB2.out⟩)
                | exact ⟨_, rfl, midB HB2.out⟩
            case rest =>
              obtain ⟨fb, rfl, hmid⟩ := hcut
              obtain ⟨⟨⟨_, _, t2, t3, _⟩, _, _, _, _, _⟩, _⟩ := ten hmid.out.2.1
              obtain ⟨pn, hpn⟩ : ∃ pn : Nat, r.page = pn := ⟨r.page.toNat, by omega⟩
              have hp16 : pn < 16 := by omega
              rw [hpn] at t2
              have HGc := hide (HG.out.same (fun b _ hb => hmid.out.1.block b hb) hmid.out.1.size)
              have HKc := hide (HK.out.below hmid.out.1)
              have HKWc := hide (HKW.out.below hmid.out.1)
              have hln2 : (wn ++ ns.take k).length = wn.length + k := by rw [List.length_append, List.length_take]; omega
              have HCR : Hid (crashD S K (wn ++ ns.take (k + 1)) 0 S.disk = if keptAt K (wn.length + k) then putM (crashD S K (wn ++ ns.take k) 0 S.disk) (4 * pn) r.data.data.toList else crashD S K (wn ++ ns.take k) 0 S.disk) := by
                rw [Hid, HTK.out, ← List.append_assoc, crashD_snoc, hln2]
                unfold putR
                rw [HRQ.out, hpn]
                have : (4 * (pn : Int)).toNat = 4 * pn := by omega
                rw [this]
              have HDL : Hid ((sD S (crashD S K (wn ++ ns.take k) 0 S.disk)).disk.length = 64) := by rw [Hid]; show (crashD S K _ 0 S.disk).length = 64; rw [crashD_len]; exact HW.out.disk
              have hrowc : Row wc P 4 1 ao K.length cap (encO K) := HROW.out.same fun a ha => by
                obtain ⟨cu, hcu, _⟩ := HROW.out.block ha
                exact HKc.out.block _ (lt_of_heap hcu) (fun e => HPF.out _ (HROW.out.2 a ha) e.1)
              have hwk : (wn.length : Int) + (k : Int) ≤ 1000000 := by omega
              by_cases hnn : wn.length + k < K.length
              · obtain ⟨ga, cua, hga, _, _, _, _⟩ := Row.some hrowc (by omega)
                subst hga
                have ckk : wc.cell? ⟨ga, wn.length + k, none⟩ = some (.bool (keptAt K (wn.length + k))) := by
                  rw [Row.cellAt hrowc (wn.length + k) (by omega)]; simp [encO, keptAt, hnn]
                have hni : (wn.length : Int) + (k : Int) < (K.length : Int) := by omega
                have hta : ((wn.length : Int) + (k : Int)).toNat = wn.length + k := by omega
                have hge0 : (0 : Int) ≤ (wn.length : Int) + (k : Int) := by omega
                cases hkb : keptAt K (wn.length + k) with
                | true =>
                  rw [hkb] at ckk HCR
                  have HPUT := hide (ref_put (sD S (crashD S K (wn ++ ns.take k) 0 S.disk)) F mb pn r.data wc HGc.out HDL.out hp16 hdat)
                  clear hrowc hmid hkb HG HK HKW d1 q0 q1 q2 q3 q4 q5 q6 q7 q8 q9 ck c0 c1 c2 c3
                  go_wp2_with fail
                  refine HPUT.out.mono ?_
                  rintro e w2 ⟨rfl, hG2, hK2, _⟩
                  have HX : Hid (RefG w2 F G mb (sD S (crashD S K (wn ++ ns.take (k + 1)) 0 S.disk)) ∧ Kept (fun k => F k ∧ ¬ G k) w w2 ∧ Kept (fun k => F k ∧ ¬ G k) w0 w2) := by
                    refine ⟨?_, HKc.out.then hK2, HKWc.out.then hK2⟩
                    rw [HCR.out]; exact hG2
                  clear hG2 hK2 HPUT
                  go_wp2
                  go_roundw
                  case rel =>
                    exact ⟨k + 1, by omega, by go_num, by go_num, HX.out.1, HX.out.2.1, HX.out.2.2⟩
                  case measure => simp [intOf]; omega
                | false =>
                  rw [hkb] at ckk HCR
                  have HX : Hid (RefG wc F G mb (sD S (crashD S K (wn ++ ns.take (k + 1)) 0 S.disk))) := by rw [Hid, HCR.out]; exact HGc.out
                  clear hrowc hmid hkb HG HK HKW d1 q0 q1 q2 q3 q4 q5 q6 q7 q8 q9 ck c0 c1 c2 c3
                  go_wp2
                  go_roundw
                  case rel =>
                    exact ⟨k + 1, by omega, by go_num, by go_num, HX.out, HKc.out, HKWc.out⟩
                  case measure => simp [intOf]; omega
              · have hkb : keptAt K (wn.length + k) = false := by unfold keptAt; simp; rw [List.getElem?_eq_none (by omega)]; rfl
                rw [hkb] at HCR
                have hni : ¬ (wn.length : Int) + (k : Int) < (K.length : Int) := by omega
                have HX : Hid (RefG wc F G mb (sD S (crashD S K (wn ++ ns.take (k + 1)) 0 S.disk))) := by rw [Hid, HCR.out]; exact HGc.out
                clear hrowc hmid hkb HG HK HKW d1 q0 q1 q2 q3 q4 q5 q6 q7 q8 q9 ck c0 c1 c2 c3
                go_wp2
                go_roundw
                case rel =>
                  exact ⟨k + 1, by omega, by go_num, by go_num, HX.out, HKc.out, HKWc.out⟩
                case measure => simp [intOf]; omega
          · have hke : ns.take k = ns := List.take_of_length_le (by omega)
            have hkn : k = ns.length := by omega
            have HX : Hid (RefG wr F G mb (sD S (crashD S K (wrNums (S.flights.take (i + 1))) 0 S.disk))) := by
              rw [Hid, HNX2.out]
              have := HG.out
              rw [hke] at this; exact this
            have HKN := hide hkn
            clear hke hkn
            go_wp2
            go_roundw
            case rel =>
              refine ⟨i + 1, by omega, by go_num, ?_, HX.out, HK.out⟩
              rw [HNX2.out, List.length_append, HKN.out]; go_num
            case measure => simp [intOf]; omega
    · have hte : S.flights.take i = S.flights := List.take_of_length_le (by omega)
      have e1 : wr.cell? ⟨mb, 1, none⟩ = _ := HB1.out.c1
      have e2 : wr.cell? ⟨mb, 2, none⟩ = _ := HB1.out.c2
      have e5 : wr.cell? ⟨mb, 5, none⟩ = _ := HB1.out.c5
      have f1 := HB1.out.fz 1
      have f2 := HB1.out.fz 2
      have f3 := HB1.out.fz 3
      have f5 := HB1.out.fz 5
      have HFIN : Hid (RefAt ((((wr.setCell ⟨mb, 1, none⟩ (.slice none 0 0)).setCell ⟨mb, 2, none⟩ (.slice none 0 0)).setCell ⟨mb, 3, none⟩ (.slice none 0 0)).setCell ⟨mb, 5, none⟩ (.int .i64 0)) (Foot F w ((((wr.setCell ⟨mb, 1, none⟩ (.slice none 0 0)).setCell ⟨mb, 2, none⟩ (.slice none 0 0)).setCell ⟨mb, 3, none⟩ (.slice none 0 0)).setCell ⟨mb, 5, none⟩ (.int .i64 0))) mb (crashM S K) ∧ Kept F w ((((wr.setCell ⟨mb, 1, none⟩ (.slice none 0 0)).setCell ⟨mb, 2, none⟩ (.slice none 0 0)).setCell ⟨mb, 3, none⟩ (.slice none 0 0)).setCell ⟨mb, 5, none⟩ (.int .i64 0))) := by
        have hc := HB1.out.cleared
        have hE : ∀ j, Ext F w (⟨mb, j, none⟩ : Addr).block := fun j => Or.inl HB1.out.own
        have k0 : Kept F w wr := HK.out.mono fun k _ e => e.1
        have k4 := (((k0.setCell (hE 1) (.slice none 0 0)).setCell (hE 2) (.slice none 0 0)).setCell (hE 3) (.slice none 0 0)).setCell (hE 5) (.int .i64 0)
        rw [hte] at hc
        have hc2 : RefAt ((((wr.setCell ⟨mb, 1, none⟩ (.slice none 0 0)).setCell ⟨mb, 2, none⟩ (.slice none 0 0)).setCell ⟨mb, 3, none⟩ (.slice none 0 0)).setCell ⟨mb, 5, none⟩ (.int .i64 0)) F mb (crashM S K) := ⟨_, _, _, _, _, _, _, _, _, hc⟩
        exact ⟨hc2.wid Foot.of (Foot.lt HLT.out k4.size), k4⟩
      clear hte HB1 hB1 HG
      go_wp2
      go_end0
      exact ⟨rfl, HFIN.out.1, HFIN.out.2⟩
end Go.Proofs.YtiabdbeejkadnaaGreatDoor

/- The law: told (Crash). Own work of the verifier. -/
namespace Go.Proofs.YtiabdbeejkadnaaGreatDoor
open Go.RowKit Go.Maps

set_option maxHeartbeats 2000000 in
set_option maxRecDepth 1000000 in
theorem law_told_crash (wb B N : Nat) (FW : Nat → Prop) (ps : List PQ) (bs is : List (Option Addr × Nat)) (i : Nat) (a b c : Int) (s : ByteArray) (w : World) (h : AllAt w wb FW ps bs is B N) (hi : i < ps.length) (hN : N ≤ 100000) (hs : s.size ≤ 1000000) :
    Calls Tryz.prog 49 #[.pointer (some ⟨wb, 0, none⟩), .agg #[.pointer (some ⟨(ps[i]).x, 0, none⟩), .pointer (some ⟨(ps[i]).m, 0, none⟩)], opV 13 a b c s] w fun e w' => Steps w wb B N e w' := by
  unfold opV
  have hpair := h.pair i hi
  have hlast := (h.st i hi).1
  have HOP : Hid (∀ (w3 : World) (F' : Nat → Prop) (S' : St), PairAt w3 F' (ps[i]).x (ps[i]).m S' → (∀ k, F' k → (ps[i]).F k ∨ w.heap.size ≤ k) → S'.last = (ps[i]).S.last ∧ S'.now = (ps[i]).S.now → Kept (ps[i]).F w w3 → AllAt w3 wb FW (ps.set i ⟨(ps[i]).x, (ps[i]).m, S', F'⟩) bs is B N ∧ Below B w w3) := fun w3 F' S' h1 h2 h3 h4 => h.pairOpG i hi (Nat.le_refl N) h1 h2 (by have := (h.st i hi).1; rw [h3.1]; exact this) (by have := (h.st i hi).2; rw [h3.2]; exact this) h4
  clear h
  generalize (ps[i]).x = x at *
  generalize (ps[i]).m = m at *
  generalize (ps[i]).S = S at *
  generalize (ps[i]).F = F at *
  have hwf := hpair.wf
  obtain ⟨Fx, Fm, hP, hM, hd, hF⟩ := hpair
  have hb0 := hide (askW_below x m 13 a b c s w)
  have HP := hide (hP.below hb0.out)
  have HPl := hide hP.lt
  have HM := hide hM
  have HD := hide hd
  have HF := hide hF
  have hsz := askW_size x m 13 a b c s w
  have HO := hide (askW_p x m 13 a b c s w)
  have HOO := hide (askW_o x m 13 a b c s w)
  have HWF := hide hwf
  clear hP hM hd hF hwf
  go_enter Tryz.func49, Tryz.ntmps49
  go_wp2_with fail
  refine (law_bits s (askW x m 13 a b c s w) hs).mono ?_
  rintro e w1 ⟨⟨ao, n, cap, rfl, hn, hrow⟩, hb1⟩
  have hz1 : w.heap.size + 1 < w1.heap.size := by have := hb1.size; omega
  have hz1' : w.heap.size < w1.heap.size := by omega
  obtain ⟨p0, p1, _⟩ := cells2 ((hb1.block w.heap.size (by omega)).trans HO.out)
  obtain ⟨_, _, _, _, o4⟩ := cells5 ((hb1.block (w.heap.size + 1) (by omega)).trans HOO.out)
  have HB1 := hide (hb0.out.trans (hb1.mono (by omega)))
  have HROW : Hid (Row w1 (fun k => w.heap.size ≤ k ∧ k < w1.heap.size) 4 1 ao n cap (encO (bitsM s))) := ⟨hrow.1, fun a' ha => by obtain ⟨cu, hcu, _⟩ := hrow.block ha; have := hrow.2 a' ha; exact ⟨by omega, lt_of_heap hcu⟩⟩
  have HNN := hide hn
  have HKL : Hid (n = (bitsM s).length) := by rw [Hid, bitsM_len, hn]
  have HPC := hide (prog_crash S Fx _ x (bitsM s) ao n cap w1 (HP.out.below hb1) (by omega) HROW.out HKL.out (fun k hk e => by have := HPl.out k e; omega))
  clear hrow hb1 hn
  go_wp2_with fail
  refine HPC.out.mono ?_
  rintro e w2 ⟨rfl, hP2, hK2⟩
  have hnx : ∀ k, w.heap.size ≤ k → ¬ Fx k := fun k hk e => by have := HPl.out k e; omega
  have hnm : ∀ k, w.heap.size ≤ k → ¬ Fm k := fun k hk e => by have := HM.out.lt k e; omega
  have t1 := (hK2.cell (p := ⟨w.heap.size, 1, none⟩) hz1' (hnx _ (Nat.le_refl _))).trans p1
  have t4 := (hK2.cell (p := ⟨w.heap.size + 1, 4, none⟩) hz1 (hnx _ (by show w.heap.size ≤ w.heap.size + 1; omega))).trans o4
  have hz2 := hK2.size
  have HP2 := hide hP2
  have HK2 := hide hK2
  have HM2 := hide (pair_mid HM.out HD.out HB1.out hK2 (Below.refl _ _))
  have HNX := hide hnx
  have HNM := hide hnm
  have HRC : Hid (∀ (w3 : World) (ao2 : Option Addr) (cap2 : Nat), Below w2.heap.size w2 w3 → Row w3 (fun k => w2.heap.size ≤ k) 4 1 ao2 s.size cap2 (encO (bitsM s)) → Calls Tryz.prog 83 #[.pointer (some ⟨m, 0, none⟩), .slice ao2 s.size cap2] w3 fun e w' => e = .returned (.tuple #[]) ∧ RefAt w' (Foot Fm w3 w') m (crashM S (bitsM s)) ∧ Kept Fm w3 w') := fun w3 ao2 cap2 hb hr =>
    ref_crash S Fm _ m (bitsM s) ao2 s.size cap2 w3 (HM2.out.below hb) HWF.out (by omega) hr (bitsM_len s).symm (by rw [bitsM_len]; exact hs) (fun k hk e => by have := HM.out.lt k e; omega)
  have HFIN : Hid (∀ (w3 w4 w5 : World), Below w2.heap.size w2 w3 → RefAt w4 (Foot Fm w3 w4) m (crashM S (bitsM s)) → Kept Fm w3 w4 → Below w4.heap.size w4 w5 → Steps w wb B N (.returned (.bool true)) w5) := fun w3 w4 w5 hb3 hM4 hK4 hb5 => by
    have z3 := hb3.size
    have z4 := hK4.size
    have hpa : PairAt w4 (fun k => Fx k ∨ Foot Fm w3 w4 k) x m (crashM S (bitsM s)) := ⟨Fx, Foot Fm w3 w4, ((HP2.out.below hb3).kept hK4 (fun k hk e => HD.out k hk e)), hM4, fun k hk e => e.elim (HD.out k hk) (fun e => by have := HPl.out k hk; omega), fun k => Iff.rfl⟩
    have k2 : Kept F w w2 := (Go.Proofs.YtiabdbeejkadnaaGreatDoor.Below.kept HB1.out F).then (HK2.out.mono fun k _ hk => (HF.out k).2 (Or.inl hk))
    have k4 : Kept F w w4 := (k2.below hb3).then (hK4.mono fun k _ hk => (HF.out k).2 (Or.inr hk))
    obtain ⟨r1, r2⟩ := HOP.out w4 _ (crashM S (bitsM s)) hpa (fun k hk => by
      rcases hk with hk | hk | hk
      · exact Or.inl ((HF.out k).2 (Or.inl hk))
      · exact Or.inl ((HF.out k).2 (Or.inr hk))
      · exact Or.inr (by omega)) ⟨rfl, rfl⟩ k4
    exact ⟨rfl, ⟨_, _, _, _, (r1.below hb5).more (Nat.le_succ N)⟩, r2.trans (hb5.mono r1.low)⟩
  have HROW2 : Hid (Row w2 (fun k => w.heap.size ≤ k ∧ k < w1.heap.size) 4 1 ao n cap (encO (bitsM s))) := HROW.out.kept hK2 (fun a' ha => HNX.out _ (HROW.out.2 a' ha).1)
  clear hP2 hK2 hnx hnm p0 p1 o4 HPC HROW
  have hwz2 : w.heap.size < w2.heap.size := by omega
  have hwz3 : w.heap.size + 1 < w2.heap.size := by omega
  go_wp2_with fail
  go_region_held3 (fun W => W.cell? ⟨w.heap.size, 1, none⟩ = some (.pointer (some ⟨m, 0, none⟩)) ∧ W.cell? ⟨w.heap.size + 1, 4, none⟩ = some (.string s)) (go_keep)
    (first
      | (go_at_call 79; refine (law_bits s _ hs).mono ?_; rintro e w3 ⟨⟨ao2, n2, cap2, rfl, hn2, hrow2⟩, hb3⟩; subst hn2; have HB3 : Hid (Below w2.heap.size w2 w3) := ((Below.refl _ _).drew).trans hb3; have HR3 : Hid (Row w3 (fun k => w2.heap.size ≤ k) 4 1 ao2 s.size cap2 (encO (bitsM s))) := hrow2; have u1 := (HB3.out.cell (p := ⟨w.heap.size, 1, none⟩) hwz2).trans t1; have u4 := (HB3.out.cell (p := ⟨w.heap.size + 1, 4, none⟩) hwz3).trans t4; clear hrow2 hb3)
      | (go_at_call 83; refine (HRC.out w3 ao2 cap2 HB3.out HR3.out).mono ?_; rintro e w4 ⟨rfl, hM4, hK4⟩; have HM4 := hide hM4; have HK4 := hide hK4; have v1 := (hK4.cell (p := ⟨w.heap.size, 1, none⟩) (Nat.lt_of_lt_of_le hwz2 HB3.out.size) (HNM.out _ (Nat.le_refl _))).trans u1; have v4 := (hK4.cell (p := ⟨w.heap.size + 1, 4, none⟩) (Nat.lt_of_lt_of_le hwz3 HB3.out.size) (HNM.out _ (Nat.le_succ _))).trans u4; clear hM4 hK4))
  all_goals
    have HROW4 : Hid (Row w4 (fun k => w.heap.size ≤ k ∧ k < w1.heap.size) 4 1 ao n cap (encO (bitsM s))) := (HROW2.out.same (w' := w3) (fun a' ha => by obtain ⟨cu, hcu, _⟩ := HROW2.out.block ha; exact HB3.out.block _ (lt_of_heap hcu))).kept HK4.out (fun a' ha => HNM.out _ (HROW2.out.2 a' ha).1)
    go_wp2_with fail
    refine (law_still s _ ao n cap w4 HROW4.out HNN.out hs).mono ?_
    rintro e w5 ⟨rfl, hb5⟩
    have HST := hide (HFIN.out w3 w4 w5 HB3.out HM4.out HK4.out hb5)
    clear hb5
    go_wp2
    go_ret
    exact HST.out
end Go.Proofs.YtiabdbeejkadnaaGreatDoor

/- plain.Complete (stage 2's code). Own work of the verifier. -/
namespace Go.Proofs.YtiabdbeejkadnaaGreatDoor
open Go.RowKit Go.Maps

set_option maxHeartbeats 1000000 in
theorem plain_complete (S : St) (F : Nat → Prop) (xb : Nat) (kk : Int) (fault : Bool) (w : World) (h : ProgAt w F xb S) (hg : GCell w) (h0 : ¬ F 0) (hn : S.now ≤ 1000000000) (hl : S.last ≤ 1000000) :
    Calls Tryz.prog 27 #[.pointer (some ⟨xb, 0, none⟩), .int .i64 kk, .bool fault] w fun e w' => e = .returned (.agg #[.int .i64 (if (completeM S kk fault).1 then 0 else 10), .int .i64 (-1), .int .i64 0, .bool true]) ∧ ProgAt w' (Foot F w w') xb (completeM S kk fault).2 ∧ Kept F w w' := by
  have H : Hid (ProgAt w F xb S) := h
  have hF := h.lt
  have hnF : ¬ F w.heap.size := fun e => by have := hF _ e; omega
  have HF : Hid (∀ k, F k → k < w.heap.size) := hF
  have HG : Hid (GCell w) := hg
  clear h hF hg
  generalize hA : (if (completeM S kk fault).1 then 0 else 10 : Int) = ek
  have HA : Hid ((if (completeM S kk fault).1 then .nilIface else errOf 10 : Value) = errOf ek) := by rw [Hid, ← hA]; split <;> rfl
  clear hA
  generalize hS : (completeM S kk fault).2 = S'
  have HS : Hid ((completeM S kk fault).2 = S') := hS
  clear hS
  go_enter Tryz.func27, Tryz.ntmps27
  go_wp2_with fail
  refine (prog_complete S F xb kk fault _ (H.out.same (fun k _ hk => Below.heap_alloc w _ k hk) (by simp)) hn hl).mono ?_
  rintro e w1 ⟨rfl, hP, hK⟩
  rw [HA.out]
  rw [HS.out] at hP
  have hP := hP.wid (fun k hk => Foot.of (w := w.alloc (.cells #[.int .i64 0, .int .i64 0, .int .i64 0, .bool false] 57)) (w' := w1) k hk) (Foot.lt (fun k hk => by have := HF.out k hk; simp; omega) hK.size)
  have hE : ErrIs w1 (errOf ek) ek (-1) 0 := Or.inl ⟨rfl, rfl, rfl⟩
  have HP : Hid (ProgAt w1 (Foot F (w.alloc (.cells #[.int .i64 0, .int .i64 0, .int .i64 0, .bool false] 57)) w1) xb S') := hP
  have HK : Hid (Kept F (w.alloc (.cells #[.int .i64 0, .int .i64 0, .int .i64 0, .bool false] 57)) w1) := hK
  have hg1 : GCell w1 := (HG.out.below (alloc_below _ _)).kept hK h0
  have hz1 : w.heap.size < w1.heap.size := by have := hK.size; simp at this; omega
  obtain ⟨⟨a0, a1, a2, a3⟩, b0, b1, b2, b3⟩ := err_cells hK hnF
  have HE := hide hE
  clear hP hK hE
  go_wp2_with fail
  refine (told_is HE.out hg1).mono ?_
  rintro e w2 ⟨rfl, hb⟩
  have a0' := (hb.cell (p := ⟨w.heap.size, 0, none⟩) hz1).trans a0
  have a1' := (hb.cell (p := ⟨w.heap.size, 1, none⟩) hz1).trans a1
  have a2' := (hb.cell (p := ⟨w.heap.size, 2, none⟩) hz1).trans a2
  have a3' := (hb.cell (p := ⟨w.heap.size, 3, none⟩) hz1).trans a3
  have b0' := (hb.frozen (p := ⟨w.heap.size, 0, none⟩) hz1).trans b0
  have b1' := (hb.frozen (p := ⟨w.heap.size, 1, none⟩) hz1).trans b1
  have b2' := (hb.frozen (p := ⟨w.heap.size, 2, none⟩) hz1).trans b2
  have b3' := (hb.frozen (p := ⟨w.heap.size, 3, none⟩) hz1).trans b3
  have HB := hide hb
  clear hb a0 a1 a2 a3 b0 b1 b2 b3
  go_wp2
  exact bodyPost_ret (v := .agg #[.int .i64 ek, .int .i64 (-1), .int .i64 0, .bool true]) (by simp [results, Tryz.results27, go_sem, a0', a1', a2', a3']) rfl ⟨rfl, plain_fin _ _ _ _ HP.out HK.out HB.out HF.out⟩
end Go.Proofs.YtiabdbeejkadnaaGreatDoor
