import Derived.Test.YtiabdbeejkadnabGreatDoorJ09b6ed3503
import Derived.Test.YtiabdbeejkadnabGreatDoorJ92291fa292
import Derived.Lib.SliceRun
import Derived.MapKept
import Derived.Test.YtiabdbeejkadnabGreatDoorJd1b6b6dd4f
import Derived.Deep.RegionWith
/- The program's queue: slices.DeleteFunc of the entries that read; writesUnderWay; at. Own work of the verifier. -/
namespace Go.Proofs.YtiabdbeejkadnabGreatDoor
open Go.RowKit Go.Maps Go.Sort Go.Shelf

theorem wuw_clos (b : Nat) (wri : Bool) (w : World) (h : w.cell? ⟨b, 2, none⟩ = some (.bool wri)) :
    Calls Tryz.prog 62 #[.pointer (some ⟨b, 0, none⟩)] w fun e w' => e = .returned (.bool (!wri)) ∧ w' = w := by
  go_enter Tryz.func62, Tryz.ntmps62
  go_wp2
  go_ret
  exact ⟨rfl, rfl⟩
def ptrE (eb : Int → Nat) (r : Rq) : Value := .pointer (some ⟨eb r.num, 0, none⟩)
def keepW (L : List Rq) (j : Nat) : List Rq := (L.take j).filter (·.write)
theorem keepW_yes {L : List Rq} {j : Nat} (h : j < L.length) (hw : (L[j]).write = true) : keepW L (j + 1) = keepW L j ++ [L[j]] := by
  unfold keepW; rw [List.take_succ_eq_append_getElem h, List.filter_append]; simp [hw]
theorem keepW_no {L : List Rq} {j : Nat} (h : j < L.length) (hw : (L[j]).write = false) : keepW L (j + 1) = keepW L j := by
  unfold keepW; rw [List.take_succ_eq_append_getElem h, List.filter_append]; simp [hw]
theorem keepW_le (L : List Rq) (j : Nat) : (keepW L j).length ≤ j := by
  have h1 := List.length_filter_le (fun r : Rq => r.write) (L.take j)
  have h2 := List.length_take_le j L
  unfold keepW; omega
theorem setCells_row {F : Nat → Prop} {e : TypeId} {g n cap : Nat} : ∀ (vs : List Value) (o : Nat) (w : World) (xs : List Value), Row w F e 1 (some ⟨g, 0, none⟩) n cap xs → ∃ xs', Row (w.setCells g o vs) F e 1 (some ⟨g, 0, none⟩) n cap xs' ∧ (∀ t, t < o → xs'[t]? = xs[t]?) ∧ Kept (fun k => k = g) w (w.setCells g o vs)
  | [], o, w, xs, h => ⟨xs, h, fun _ _ => rfl, Kept.refl _ _⟩
  | v :: vs, o, w, xs, h => by
    obtain ⟨xs', h1, h2, h3⟩ := setCells_row vs (o + 1) (w.setCell ⟨g, o, none⟩ v) (xs.set o v) (h.stored o v)
    refine ⟨xs', h1, fun t ht => ?_, ((Kept.refl (fun k => k = g) w).setCell (p := ⟨g, o, none⟩) (Or.inl rfl) v).then h3⟩
    rw [h2 t (by omega), List.getElem?_set, if_neg (by omega)]
theorem Row.cut {w : World} {F : Nat → Prop} {e : TypeId} {g n cap m : Nat} {xs : List Value} (h : Row w F e 1 (Option.some ⟨g, 0, none⟩) n cap xs) (hm : m ≤ n) : Row w F e 1 (Option.some ⟨g, 0, none⟩) m cap (xs.take m) := by
  have hl := h.len
  rcases h.1.2 with ⟨h0, _⟩ | ⟨g', cap', cur, hv, hg, hh, h1, h2, h3, h4⟩
  · cases h0
  · cases hv
    refine ⟨⟨by rw [List.length_take]; omega, Or.inr ⟨g, cap, cur, rfl, hg, hh, by omega, h2, h3, ?_⟩⟩, h.2⟩
    rw [← h4, List.take_take]
    congr 1
    omega
/-- the first that reads -/
theorem idx_call2 (eb : Int → Nat) (L : List Rq) (g cap : Nat) (w : World) (P : Nat → Prop) (hrow : Row w P 75 1 (some ⟨g, 0, none⟩) L.length cap (L.map (ptrE eb))) (hent : ∀ r ∈ L, w.cell? ⟨eb r.num, 2, none⟩ = some (.bool r.write)) (hl : L.length ≤ 1000000) (h0 : 0 < L.length) :
    Calls Tryz.prog 85 #[.slice (some ⟨g, 0, none⟩) L.length cap, .func (.func 62) #[] #[]] w fun e w' => e = .returned (.int .i64 (match L.findIdx? (fun r => !r.write) with | some k => (k : Int) | none => -1)) ∧ ∃ q, w' = w.drewN q := by
  obtain ⟨d, hd⟩ : ∃ d : List (RqIn L), d.map (·.1) = L := ⟨L.pmap (fun r h => (⟨r, h⟩ : RqIn L)) (fun _ h => h), by simp [List.map_pmap]⟩
  have hdl : d.length = L.length := by rw [← congrArg List.length hd, List.length_map]
  have hd0 : d ≠ [] := fun e => by rw [e] at hdl; simp at hdl; omega
  obtain ⟨x0, hx0⟩ : ∃ x, x ∈ d := List.exists_mem_of_ne_nil _ hd0
  haveI : Inhabited (RqIn L) := ⟨x0⟩
  have eg : ∀ args w, (callFunc 62 args).run Tryz.prog w = .ok (.enter 62 args) w := enters_of Tryz.func62 (by kernel_rfl) rfl
  have hL := Tryz.dlfF
  have hx := AnyE.slices_IndexFunc (P := Tryz.prog) (ρ := Tryz.dlfF_ren) { hL with } (encP L eb) (fun x => !x.1.write) 62 #[] eg g 0 L.length cap d w (fun W x hW => ?_) (by rw [hdl]; exact Nat.le_refl _) (by omega) (fun j hj => ?_)
  · change Calls Tryz.prog 85 _ _ _ at hx
    have e1 : Lib.idxBy (fun _ y => !y.1.write) (d.take L.length) default = (match L.findIdx? (fun r => !r.write) with | some k => (k : Int) | none => -1) := by
      rw [List.take_of_length_le (by rw [hdl]; exact Nat.le_refl _)]
      unfold Lib.idxBy
      rw [idx_find (fun x : RqIn L => !x.1.write) default d 0]
      have e2 : L.findIdx? (fun r => !r.write) = d.findIdx? (fun x => !x.1.write) := by
        conv => lhs; rw [← hd]
        rw [List.findIdx?_map]; rfl
      rw [e2]
      simp only [Nat.zero_add]
      rfl
    rw [e1] at hx
    exact hx
  · have h2 := hent x.1 x.2
    refine (wuw_clos (eb x.1.num) x.1.write W ((hW.cell (p := ⟨eb x.1.num, 2, none⟩) (lt_of_cell h2)).trans h2)).mono ?_
    rintro e w' ⟨rfl, rfl⟩
    exact ⟨rfl, 0, rfl⟩
  · have hjL : j < L.length := by rw [← hdl]; exact hj
    rw [Nat.zero_add, Row.cellAt hrow j (by omega)]
    have e2 : (d[j]!).1 = L[j] := by
      rw [getElem!_pos d j hj]
      have : (d.map (·.1))[j]? = L[j]? := by rw [hd]
      rw [List.getElem?_map, List.getElem?_eq_getElem hj, List.getElem?_eq_getElem hjL] at this
      exact Option.some.inj this
    rw [List.getElem?_map, List.getElem?_eq_getElem hjL]
    show some (ptrE eb L[j]) = some (encP L eb d[j]!)
    unfold ptrE encP
    rw [e2]
theorem zeroE (w : World) : (zeroValue 75).run Tryz.prog w = .ok (.pointer none) w := Tryz.zeroValue75 w
set_option maxHeartbeats 2000000 in
set_option maxRecDepth 1000000 in
theorem sl_deletef (eb : Int → Nat) (L : List Rq) (g cap : Nat) (w : World) (P : Nat → Prop) (hrow : Row w P 75 1 (some ⟨g, 0, none⟩) L.length cap (L.map (ptrE eb))) (hent : ∀ r ∈ L, w.cell? ⟨eb r.num, 2, none⟩ = some (.bool r.write) ∧ eb r.num ≠ g) (hl : L.length ≤ 1000000) (h0 : 0 < L.length) :
    Calls Tryz.prog 61 #[.slice (some ⟨g, 0, none⟩) L.length cap, .func (.func 62) #[] #[]] w fun e w' => e = .returned (.slice (some ⟨g, 0, none⟩) (L.filter (·.write)).length cap) ∧ Row w' P 75 1 (some ⟨g, 0, none⟩) (L.filter (·.write)).length cap ((L.filter (·.write)).map (ptrE eb)) ∧ Kept (fun k => k = g) w w' := by
  have HIDX := hide (idx_call2 eb L g cap w P hrow (fun r hr => (hent r hr).1) hl h0)
  obtain ⟨g', cur', hg', hgP, hgb, hnc, hcs⟩ := Row.some hrow h0
  have HR := hide hrow
  have HE := hide hent
  clear hrow hent hg' hgb hcs
  cases hfi : L.findIdx? (fun r => !r.write) with
  | none =>
    rw [hfi] at HIDX
    have hall : L.filter (·.write) = L := by
      rw [List.filter_eq_self]
      rw [List.findIdx?_eq_none_iff] at hfi
      intro r hr
      simpa using hfi r hr
    have HALL := hide hall
    clear hfi hall
    go_enter Tryz.func61, Tryz.ntmps61
    go_wp2_with fail
    refine HIDX.out.mono ?_
    rintro e w1 ⟨rfl, q, hw1⟩
    have HF : Hid (Row w1 P 75 1 (some ⟨g, 0, none⟩) L.length cap (L.map (ptrE eb)) ∧ Kept (fun k => k = g) w w1) := by
      rw [hw1]
      exact ⟨HR.out.same (w' := w.drewN q) (fun _ _ => rfl), (Kept.refl _ _).drewN q⟩
    clear hw1
    go_wp2
    go_ret
    rw [HALL.out]
    exact ⟨rfl, HF.out.1, HF.out.2⟩
  | some i0 =>
    rw [hfi] at HIDX
    rw [List.findIdx?_eq_some_iff_getElem] at hfi
    obtain ⟨hi0, hi1, hi2⟩ := hfi
    have hk0 : keepW L (i0 + 1) = L.take i0 := by
      rw [keepW_no hi0 (by simpa using hi1)]
      unfold keepW
      rw [List.filter_eq_self]
      intro r hr
      obtain ⟨t, ht, rfl⟩ := List.getElem_of_mem hr
      rw [List.length_take] at ht
      have := hi2 t (by omega)
      rw [List.getElem_take]
      simpa using this
    have HK0 := hide hk0
    clear hi1 hi2 hk0
    have hi0i : (i0 : Int) < (L.length : Int) := by omega
    have hne1 : ((i0 : Int) == -1) = false := beq_eq_false_iff_ne.2 (by omega)
    go_enter Tryz.func61, Tryz.ntmps61
    go_wp2_with fail
    refine HIDX.out.mono ?_
    rintro e w1 ⟨rfl, q, hw1⟩
    have HR1 : Hid (Row w1 P 75 1 (some ⟨g, 0, none⟩) L.length cap (L.map (ptrE eb)) ∧ Kept (fun k => k = g) w w1) := by
      rw [hw1]
      exact ⟨HR.out.same (w' := w.drewN q) (fun _ _ => rfl), (Kept.refl _ _).drewN q⟩
    clear hw1 HIDX
    go_wp2
    go_loopw [5, 6, 7] (fun vi vj _ wr => ∃ (j : Nat) (xs : List Value), i0 < j ∧ j ≤ L.length ∧ vj = .int .i64 j ∧ vi = .int .i64 ((keepW L j).length : Int) ∧ (keepW L j).length < j ∧ Hid (Row wr P 75 1 (some ⟨g, 0, none⟩) L.length cap xs) ∧ Hid (∀ t, t < (keepW L j).length → xs[t]? = ((keepW L j).map (ptrE eb))[t]?) ∧ Hid (∀ t, j ≤ t → (ht : t < L.length) → xs[t]? = some (ptrE eb L[t])) ∧ Hid (Kept (fun k => k = g) w wr)) (fun _ vj _ _ => L.length - (intOf vj).toNat)
    case atStart =>
      have hkl : (keepW L (i0 + 1)).length = i0 := by rw [HK0.out, List.length_take]; omega
      refine ⟨i0 + 1, L.map (ptrE eb), by omega, by omega, by go_num, by rw [hkl], by omega, HR1.out.1, fun t ht => ?_, fun t _ ht => ?_, HR1.out.2⟩
      · rw [HK0.out, List.getElem?_map, List.getElem?_map, List.getElem?_take_of_lt (by omega)]
      · rw [List.getElem?_map, List.getElem?_eq_getElem ht]; rfl
    case round =>
      obtain ⟨j, xs, hj0, hj, rfl, rfl, hkj, HX, HA, HB, HK⟩ := hrel
      have hxl : xs.length = L.length := by have := HX.out.len; omega
      by_cases hlt : j < L.length
      · have hji : (j : Int) < (L.length : Int) := by omega
        have ck : wr.cell? ⟨g, j, none⟩ = some (ptrE eb L[j]) := by rw [Row.cellAt HX.out j (by omega)]; exact HB.out j (Nat.le_refl _) hlt
        unfold ptrE at ck
        obtain ⟨hwc, hge⟩ := HE.out _ (List.getElem_mem hlt)
        have hwc2 : wr.cell? ⟨eb (L[j]).num, 2, none⟩ = some (.bool (L[j]).write) := (HK.out.cell (p := ⟨eb (L[j]).num, 2, none⟩) (lt_of_cell hwc) hge).trans hwc
        have HCL := hide (wuw_clos (eb (L[j]).num) (L[j]).write wr hwc2)
        generalize hkl : (keepW L j).length = kl at *
        have hklL : kl < L.length := by omega
        cases hw : (L[j]).write with
        | true =>
          rw [hw] at HCL
          have HKW := hide (keepW_yes hlt hw)
          obtain ⟨vk, yk⟩ : ∃ v, wr.cell? ⟨g, kl, none⟩ = some v := ⟨xs[kl]'(by omega), by rw [Row.cellAt HX.out kl (by omega)]; exact List.getElem?_eq_getElem (by omega)⟩
          have zk := HX.out.frozenAt kl
          have HNX : Hid (Row (wr.setCell ⟨g, kl, none⟩ (.pointer (some ⟨eb (L[j]).num, 0, none⟩))) P 75 1 (some ⟨g, 0, none⟩) L.length cap (xs.set kl (.pointer (some ⟨eb (L[j]).num, 0, none⟩)))) := HX.out.stored kl _
          have HNK : Hid (Kept (fun k => k = g) w (wr.setCell ⟨g, kl, none⟩ (.pointer (some ⟨eb (L[j]).num, 0, none⟩)))) := HK.out.setCell (p := ⟨g, kl, none⟩) (Or.inl rfl) _
          have hkli : (kl : Int) < (L.length : Int) := by omega
          have hlen2 : (keepW L (j + 1)).length = kl + 1 := by rw [HKW.out, List.length_append, hkl]; rfl
          have HL2 := hide hlen2
          clear hw hwc hwc2 hge hlen2
          go_wp2_with (first | (go_at_call 62; refine HCL.out.mono ?_; rintro e w2 ⟨rfl, hw2⟩; have hw2 := hw2.symm; subst hw2))
          go_roundw
          case rel =>
            refine ⟨j + 1, xs.set kl (.pointer (some ⟨eb (L[j]).num, 0, none⟩)), by omega, by omega, by go_num, by rw [HL2.out]; go_num, by rw [HL2.out]; omega, HNX.out, fun t ht => ?_, fun t ht1 ht => ?_, HNK.out⟩
            · rw [HL2.out] at ht
              rw [List.getElem?_set, HKW.out, List.map_append]
              by_cases e : kl = t
              · subst e
                rw [if_pos rfl, if_pos (by omega), List.getElem?_append_right (by rw [List.length_map, hkl]; exact Nat.le_refl _)]
                simp [hkl, ptrE]
              · rw [if_neg e, List.getElem?_append_left (by rw [List.length_map, hkl]; omega)]
                exact HA.out t (by omega)
            · rw [List.getElem?_set, if_neg (by omega)]
              exact HB.out t (by omega) ht
          case measure => simp [intOf]; omega
        | false =>
          rw [hw] at HCL
          have HKW := hide (keepW_no hlt hw)
          clear hw hwc hwc2 hge
          go_wp2_with (first | (go_at_call 62; refine HCL.out.mono ?_; rintro e w2 ⟨rfl, hw2⟩; have hw2 := hw2.symm; subst hw2))
          go_roundw
          case rel =>
            refine ⟨j + 1, xs, by omega, by omega, by go_num, by rw [HKW.out, hkl], by rw [HKW.out, hkl]; omega, HX.out, fun t ht => ?_, fun t ht1 ht => HB.out t (by omega) ht, HK.out⟩
            rw [HKW.out] at ht ⊢
            exact HA.out t (by omega)
          case measure => simp [intOf]; omega
      · have hje : j = L.length := by omega
        have hkf : keepW L j = L.filter (·.write) := by unfold keepW; rw [hje, List.take_length]
        rw [hkf] at hkj HA
        have HKF := hide hkf
        rw [hkf]
        generalize hfl : L.filter (·.write) = fl at *
        have HFL := hide hfl
        have hflL : fl.length < L.length := by omega
        have hcl : ∀ ty, (Builtin.clear_ #[73] ty #[.slice (some ⟨g, fl.length, none⟩) (L.length - fl.length) (cap - fl.length)]).run Tryz.prog wr = .ok (.tuple #[]) (wr.setCells g fl.length (List.replicate (L.length - fl.length) (.pointer none))) := fun ty => Lib.run_clear_slice wr 73 75 ty (.pointer none) Tryz.underlying73 zeroE rfl rfl g fl.length _ _ (by omega) (fun t ht => by rw [Row.cellAt HX.out (fl.length + t) (by omega), List.getElem?_eq_getElem (by omega)]; rfl) (fun t _ => HX.out.frozenAt _)
        obtain ⟨xs', hx1, hx2, hx3⟩ := setCells_row (List.replicate (L.length - fl.length) (.pointer none)) fl.length wr xs HX.out
        have HFIN : Hid (Row (wr.setCells g fl.length (List.replicate (L.length - fl.length) (.pointer none))) P 75 1 (some ⟨g, 0, none⟩) fl.length cap (fl.map (ptrE eb)) ∧ Kept (fun k => k = g) w (wr.setCells g fl.length (List.replicate (L.length - fl.length) (.pointer none)))) := by
          refine ⟨?_, HK.out.then hx3⟩
          have hcut := hx1.cut (m := fl.length) (by omega)
          have e : xs'.take fl.length = fl.map (ptrE eb) := by
            apply List.ext_getElem?
            intro t
            by_cases ht : t < fl.length
            · rw [List.getElem?_take_of_lt ht, hx2 t ht]; exact HA.out t ht
            · rw [List.getElem?_take_eq_none (by omega), List.getElem?_eq_none (by rw [List.length_map]; omega)]
          rw [e] at hcut
          exact hcut
        have hfi1 : (fl.length : Int) ≤ (L.length : Int) := by omega
        have hfi2 : (fl.length : Int) ≤ (cap : Int) := by omega
        clear hx1 hx2 hx3 HX HA HB hkf
        go_wp2_with (simp only [hcl])
        go_ret
        rw [HFL.out]
        exact ⟨rfl, HFIN.out.1, HFIN.out.2⟩
end Go.Proofs.YtiabdbeejkadnabGreatDoor

/- The program's queue: Crash. Own work of the verifier. -/
namespace Go.Proofs.YtiabdbeejkadnabGreatDoor
open Go.RowKit Go.Maps Go.Sort Go.Shelf

theorem filt_wr (fl : List Cmd) : ∀ (L : List Rq), L.map (·.num) = airsOf fl → (∀ c ∈ fl, ∀ r ∈ L, r.num ∈ c.requests → r.write = c.write) → (L.filter (·.write)).map (·.num) = wrNums fl := by
  induction fl with
  | nil => intro L h _; have : L = [] := by simpa [airsOf] using h
           subst this; rfl
  | cons c fl ih =>
    intro L h hw
    have e : airsOf (c :: fl) = c.requests ++ airsOf fl := by simp [airsOf]
    rw [e] at h
    have h1 : (L.take c.requests.length).map (·.num) = c.requests := by
      rw [List.map_take, h, List.take_left']; rfl
    have h2 : (L.drop c.requests.length).map (·.num) = airsOf fl := by
      rw [List.map_drop, h, List.drop_left']; rfl
    have hsplit := List.take_append_drop c.requests.length L
    have ih2 := ih (L.drop c.requests.length) h2 (fun c' hc' r hr hn => hw c' (by simp [hc']) r (List.mem_of_mem_drop hr) hn)
    have hw1 : ∀ r ∈ L.take c.requests.length, r.write = c.write := fun r hr => hw c (by simp) r (List.mem_of_mem_take hr) (by
      have : r.num ∈ (L.take c.requests.length).map (·.num) := List.mem_map.2 ⟨r, hr, rfl⟩
      rw [h1] at this; exact this)
    have e3 : L.filter (·.write) = (L.take c.requests.length).filter (·.write) ++ (L.drop c.requests.length).filter (·.write) := by
      conv => lhs; rw [← hsplit]
      rw [List.filter_append]
    rw [e3, List.map_append, ih2]
    unfold wrNums
    rw [List.filter_cons]
    cases hc : c.write with
    | true =>
      have e4 : (L.take c.requests.length).filter (·.write) = L.take c.requests.length := List.filter_eq_self.2 (fun r hr => by rw [hw1 r hr, hc])
      rw [e4, h1]
      simp
    | false =>
      have e4 : (L.take c.requests.length).filter (·.write) = [] := List.filter_eq_nil_iff.2 (fun r hr => by rw [hw1 r hr, hc]; simp)
      rw [e4]
      simp
theorem idx_nil (ao : Option Addr) (cap : Nat) (v : Value) (w : World) : Calls Tryz.prog 85 #[.slice ao 0 cap, v] w fun e w' => e = .returned (.int .i64 (-1)) ∧ w' = w := by
  go_enter Tryz.func85, Tryz.ntmps85
  go_wp2
  refine wp_loop_rounds 1 ?_
  rw [rounds_succ]
  go_wp2
  go_ret
  exact ⟨rfl, rfl⟩
theorem del_nil (ao : Option Addr) (cap : Nat) (v : Value) (w : World) : Calls Tryz.prog 61 #[.slice ao 0 cap, v] w fun e w' => e = .returned (.slice ao 0 cap) ∧ w' = w := by
  go_enter Tryz.func61, Tryz.ntmps61
  go_wp2_with fail
  refine (idx_nil ao cap v w).mono ?_
  rintro e w1 ⟨rfl, hw⟩
  have hw := hw.symm
  subst hw
  go_wp2
  go_ret
  exact ⟨rfl, rfl⟩
set_option maxHeartbeats 2000000 in
set_option maxRecDepth 1000000 in
theorem prog_writes {S : St} {F : Nat → Prop} {xb bm : Nat} {D : DataW Unit} {eb : Int → Nat} {c : Array Value} {af : Option Addr} {cf : Nat} {vs : List (Option Addr × Nat)} (w : World) (h : ProgBlk w F xb S [] bm D eb c af cf vs) (hl : S.last ≤ 1000000) :
    Calls Tryz.prog 41 #[.pointer (some ⟨xb, 0, none⟩)] w fun e w' => (∃ ao cap, e = .returned (.slice ao (wrNums S.flights).length cap) ∧ Row w' (fun b => w.heap.size ≤ b) 75 1 ao (wrNums S.flights).length cap (encE eb (wrNums S.flights))) ∧ Below w.heap.size w w' := by
  have d4 := h.cell 4 _ h.q.c4
  have hf4 : S.flights.length ≤ 4 := by have := h.wf.flLen; have := h.wf.depth; omega
  have hal : (airsOf S.flights).length ≤ 1000000 := by
    have h1 := h.wf.airLen
    have h2 := h.wf.reqsLen
    have h3 : (airs S ++ []).length = (airsOf S.flights).length := by rw [List.append_nil]; rfl
    omega
  have HCC := hide (sl_concat F eb S.flights af cf vs w h.l (fun c hc => (h.wf.fl c hc).ne) hal hf4)
  obtain ⟨d, hd⟩ := pick_rows S.reqs (airsOf S.flights) (fun n hn => h.wf.airIn n (List.mem_append_left _ hn))
  obtain ⟨L, hL⟩ : ∃ L : List Rq, L = d.map (·.1) := ⟨_, rfl⟩
  have hLn : L.map (·.num) = airsOf S.flights := by rw [hL, List.map_map]; exact hd
  have hLm : ∀ r ∈ L, r ∈ S.reqs := fun r hr => by rw [hL] at hr; obtain ⟨x, _, rfl⟩ := List.mem_map.1 hr; exact x.2
  have hfw := filt_wr S.flights L hLn (fun c hc r hr hn => (h.wf.fl c hc).wr r (hLm r hr) hn)
  have hLl : (airsOf S.flights).length = L.length := by rw [← hLn, List.length_map]
  have hwl : (wrNums S.flights).length = (L.filter (·.write)).length := by rw [← hfw, List.length_map]
  have HDEL : Hid (∀ (w1 : World) (g cap : Nat), Below w.heap.size w w1 → Row w1 (fun b => w.heap.size ≤ b) 75 1 (some ⟨g, 0, none⟩) L.length cap (encE eb (airsOf S.flights)) → 0 < L.length → Calls Tryz.prog 61 #[.slice (some ⟨g, 0, none⟩) L.length cap, .func (.func 62) #[] #[]] w1 fun e w' => e = .returned (.slice (some ⟨g, 0, none⟩) (wrNums S.flights).length cap) ∧ Row w' (fun b => w.heap.size ≤ b) 75 1 (some ⟨g, 0, none⟩) (wrNums S.flights).length cap (encE eb (wrNums S.flights)) ∧ Below w.heap.size w w') := fun w1 g cap hb hrow h0 => by
    have hge : w.heap.size ≤ g := hrow.2 _ rfl
    have e1 : encE eb (airsOf S.flights) = L.map (ptrE eb) := by rw [← hLn]; simp [encE, ptrE]
    rw [e1] at hrow
    refine (sl_deletef eb L g cap w1 _ hrow (fun r hr => ?_) (by omega) h0).mono ?_
    · have h2 := (h.entAt hb (hLm r hr)).2.2
      obtain ⟨ds, _, he⟩ := h.e.ent r (hLm r hr)
      refine ⟨?_, fun e => by have := lt_of_heap he; omega⟩
      have h3 := (hb.block _ (lt_of_heap he)).trans he
      simp [World.cell?, h3, entC]
    · rintro e w' ⟨rfl, hr2, hk2⟩
      have e2 : encE eb (wrNums S.flights) = (L.filter (·.write)).map (ptrE eb) := by rw [← hfw]; simp [encE, ptrE]
      rw [hwl, e2]
      exact ⟨rfl, hr2, hb.trans (hk2.toBelow (fun k hk => by rw [hk]; exact hge) hb.size)⟩
  clear h hd hL hLn hLm
  go_enter Tryz.func41, Tryz.ntmps41
  go_wp2_with fail
  refine HCC.out.mono ?_
  rintro e w1 ⟨ao, n, cap, rfl, hn, hrow, hb⟩
  rw [hLl] at hn
  subst hn
  by_cases h0 : L.length = 0
  · have hw0 : wrNums S.flights = [] := by
      have : (wrNums S.flights).length = 0 := by rw [hwl]; have := List.length_filter_le (fun r : Rq => r.write) L; omega
      exact List.length_eq_zero_iff.1 this
    have HW0 := hide hw0
    have HB := hide hb
    have HR0 : Hid (Row w1 (fun b => w.heap.size ≤ b) 75 1 ao 0 cap []) := by
      have e0 : encE eb (airsOf S.flights) = [] := by
        have : (airsOf S.flights) = [] := List.length_eq_zero_iff.1 (by omega)
        rw [this]; rfl
      rw [e0, h0] at hrow; exact hrow
    rw [h0]
    clear hrow hb hfw hwl HDEL HCC d4 hw0
    go_wp2_with fail
    refine (del_nil ao cap _ w1).mono ?_
    rintro e w2 ⟨rfl, hw2⟩
    have hw2 := hw2.symm
    subst hw2
    go_wp2
    go_ret
    rw [HW0.out]
    exact ⟨⟨ao, cap, rfl, HR0.out⟩, HB.out⟩
  · obtain ⟨g, cur, hg, _, _, _, _⟩ := Row.some hrow (by omega)
    subst hg
    have HD2 := hide (HDEL.out w1 g cap hb hrow (by omega))
    clear hrow hb hfw hwl HDEL HCC d4
    go_wp2_with fail
    refine HD2.out.mono ?_
    rintro e w2 ⟨rfl, hr2, hb2⟩
    have HX := hide (And.intro hr2 hb2)
    clear hr2 hb2
    go_wp2
    go_ret
    exact ⟨⟨_, cap, rfl, HX.out.1⟩, HX.out.2⟩
theorem prog_at (K : List Bool) (P : Nat → Prop) (ao : Option Addr) (cap i : Nat) (w : World) (hrow : Row w P 4 1 ao K.length cap (encO K)) :
    Calls Tryz.prog 40 #[.slice ao K.length cap, .int .i64 (i : Int)] w fun e w' => e = .returned (.bool (keptAt K i)) ∧ w' = w := by
  by_cases hi : i < K.length
  · obtain ⟨g, cur, hg, _, _, _, _⟩ := Row.some hrow (by omega)
    subst hg
    have ck : w.cell? ⟨g, i, none⟩ = some (.bool (keptAt K i)) := by
      rw [Row.cellAt hrow i (by omega)]; simp [encO, keptAt, hi]
    have hii : (i : Int) < (K.length : Int) := by omega
    clear hrow
    generalize keptAt K i = kb at *
    go_enter Tryz.func40, Tryz.ntmps40
    go_wp2
    go_ret
    exact ⟨rfl, rfl⟩
  · have hk : keptAt K i = false := by unfold keptAt; simp; rw [List.getElem?_eq_none (by omega)]; rfl
    rw [hk]
    have hii : ¬ (i : Int) < (K.length : Int) := by omega
    clear hrow hk
    go_enter Tryz.func40, Tryz.ntmps40
    go_wp2
    go_ret
    exact ⟨rfl, rfl⟩
/-- 'clear' of the map -/
theorem run_clear {w : World} {bm n : Nat} {D : DataW Unit} (h : w.ownsMap Tryz.prog 3 ptrR bm n D) : ∃ w', (∀ ty : TypeId, (Builtin.clear_ #[82] ty #[.map (some bm)]).run Tryz.prog w = .ok (.tuple #[]) w') ∧ w'.ownsMap Tryz.prog 3 ptrR bm 0 (.map []) ∧ Kept (fun k => k = bm) w w' := by
  obtain ⟨es, clock, hb, hf, hn, hD⟩ := h
  have hsz : ({ w with heap := w.heap.setIfInBounds bm (.map #[] clock) } : World).heap.size = w.heap.size := by simp
  refine ⟨{ w with heap := w.heap.setIfInBounds bm (.map #[] clock) }, fun ty => ?_, ⟨#[], clock, (MapKept.heap_set hb).1, ⟨by simp, MapKept.stamped_empty clock, by simp⟩, Nat.le_refl _, rfl⟩, ⟨rfl, rfl, rfl, by rw [hsz]; exact Nat.le_refl _, fun k _ hne => (MapKept.heap_set hb).2 k hne⟩⟩
  simp [Builtin.clear_, run_underlying Tryz.underlying82, MapKept.run_getObj_map hb, MapKept.run_setObj_map _ hb, Result.andThen]
end Go.Proofs.YtiabdbeejkadnabGreatDoor

/- The program's queue: Crash, whole. Own work of the verifier. -/
namespace Go.Proofs.YtiabdbeejkadnabGreatDoor
open Go.RowKit Go.Maps Go.Sort Go.Shelf

theorem WfE.setDisk {S : St} {E : List Int} (h : WfE S E) (D : List UInt8) (hD : D.length = 64) : WfE { S with disk := D } E := ⟨h.depth, h.last, h.now, h.head, hD, h.sorted, h.rq, h.airIn, h.nodup, h.toldIn, h.toldNd, h.len, h.flLen, fun c hc => (h.fl c hc).of (fun r hr _ => ⟨r, hr, rfl, rfl, rfl⟩)⟩
theorem disk_setC {c : Array Value} {D : List UInt8} (hc : c.size = 70) (hD : D.length = 64) (h : ∀ j, j < 64 → c[6 + j]? = some (u8 (D.getD j 0))) (b : Nat) (hb : b < 64) (v : UInt8) :
    (c.setIfInBounds (6 + b) (u8 v)).size = 70 ∧ (D.set b v).length = 64 ∧ (∀ j, j < 64 → (c.setIfInBounds (6 + b) (u8 v))[6 + j]? = some (u8 ((D.set b v).getD j 0))) := by
  refine ⟨by simpa using hc, by simpa using hD, fun j hj => ?_⟩
  rw [Array.getElem?_setIfInBounds]
  by_cases e : b = j
  · subst e
    rw [if_pos rfl, if_pos (by omega), List.getD_eq_getElem?_getD, List.getElem?_set, if_pos rfl, if_pos (by omega)]; rfl
  · rw [if_neg (by omega), h j hj, List.getD_eq_getElem?_getD, List.getD_eq_getElem?_getD, List.getElem?_set, if_neg e]
theorem disk_putC {c : Array Value} {D : List UInt8} (hc : c.size = 70) (hD : D.length = 64) (h : ∀ j, j < 64 → c[6 + j]? = some (u8 (D.getD j 0))) (b : Nat) (hb : b + 4 ≤ 64) (ds : List UInt8) :
    (put4 c (6 + b) ds).size = 70 ∧ (∀ j, j < 64 → (put4 c (6 + b) ds)[6 + j]? = some (u8 ((putM D b ds).getD j 0))) ∧ ∀ j, j < 6 → (put4 c (6 + b) ds)[j]? = c[j]? := by
  obtain ⟨a1, a2, a3⟩ := disk_setC hc hD h b (by omega) (ds.getD 0 0)
  obtain ⟨b1, b2, b3⟩ := disk_setC a1 a2 a3 (b + 1) (by omega) (ds.getD 1 0)
  obtain ⟨c1, c2, c3⟩ := disk_setC b1 b2 b3 (b + 2) (by omega) (ds.getD 2 0)
  obtain ⟨d1, _, d3⟩ := disk_setC c1 c2 c3 (b + 3) (by omega) (ds.getD 3 0)
  refine ⟨d1, d3, fun j hj => ?_⟩
  unfold put4
  rw [Array.getElem?_setIfInBounds, if_neg (by omega), Array.getElem?_setIfInBounds, if_neg (by omega), Array.getElem?_setIfInBounds, if_neg (by omega), Array.getElem?_setIfInBounds, if_neg (by omega)]
section
variable {w w' : World} {F : Nat → Prop} {xb : Nat} {S : St} {bm : Nat} {D : DataW Unit} {eb : Int → Nat} {c : Array Value} {af : Option Addr} {cf : Nat} {vs : List (Option Addr × Nat)}
/-- a page of the disk is another -/
theorem ProgBlk.putD {pn : Nat} {ds : List UInt8} (h : ProgBlk w F xb S [] bm D eb c af cf vs) (hp : pn < 16) (hb : w'.heap[xb]? = some (.cells (put4 c (6 + pn * 4) ds) 85 (0, 0))) (hs : ∀ k, k < w.heap.size → k ≠ xb → w'.heap[k]? = w.heap[k]?) (hz : w.heap.size ≤ w'.heap.size) :
    ProgBlk w' F xb { S with disk := putM S.disk (4 * pn) ds } [] bm D eb (put4 c (6 + pn * 4) ds) af cf vs := by
  have e : 6 + pn * 4 = 6 + 4 * pn := by omega
  rw [e] at hb ⊢
  obtain ⟨p1, p2, p3⟩ := disk_putC h.q.size h.wf.disk h.q.cd (4 * pn) (by omega) ds
  exact h.setQ hb hs hz ⟨p1, (p3 0 (by omega)).trans h.q.c0, (p3 1 (by omega)).trans h.q.c1, (p3 2 (by omega)).trans h.q.c2, (p3 3 (by omega)).trans h.q.c3, (p3 4 (by omega)).trans h.q.c4, (p3 5 (by omega)).trans h.q.c5, p2⟩ (h.wf.setDisk _ (by rw [putM_len]; exact h.wf.disk)) rfl rfl rfl rfl
/-- behind the map's clear, and the two stores -/
theorem ProgBlk.cleared {w2 : World} (h : ProgBlk w F xb S [] bm D eb c af cf vs) (hm : w2.ownsMap Tryz.prog 3 ptrR bm 0 (.map [])) (hK : Kept (fun k => k = bm) w w2) :
    ProgAt ((w2.setCell ⟨xb, 4, none⟩ (.slice none 0 0)).setCell ⟨xb, 5, none⟩ (.int .i64 0)) F xb { S with reqs := [], told := [], flights := [], head := 0 } ∧ Kept F w ((w2.setCell ⟨xb, 4, none⟩ (.slice none 0 0)).setCell ⟨xb, 5, none⟩ (.int .i64 0)) := by
  have hbx : bm ≠ xb := h.bmNe h.blk
  have h0 : w2.heap[xb]? = _ := (hK.block xb h.lt (fun e => hbx e.symm)).trans h.blk
  have h4 := heap_setCell_at (j := 4) h0 (.slice none 0 0)
  have h5 := heap_setCell_at (j := 5) h4 (.int .i64 0)
  have hsz := h.q.size
  have hw := (Wf.crash h.wf [])
  refine ⟨⟨bm, .map [], eb, _, none, 0, [], h.own, h5, ⟨by simpa using hsz, ?_, ?_, ?_, ?_, ?_, ?_, ?_⟩, h.ownM, ⟨?_, ?_, ?_, fun r hr => (by cases hr)⟩, ⟨fun r hr => (by cases hr), fun r hr => (by cases hr), fun r hr => (by cases hr)⟩, ⟨rfl, Row.nil _ _ _ _, fun x hx => by simp at hx⟩, fun k hk => by have := h.ltF k hk; have := hK.size; simp [World.setCell]; omega, ?_⟩, ?_⟩
  · simp [h.q.c0]
  · simp [h.q.c1]
  · simp [h.q.c2]
  · simp [h.q.c3]
  · rw [Array.getElem?_setIfInBounds, if_neg (by decide), Array.getElem?_setIfInBounds, if_pos rfl, if_pos (by omega)]; rfl
  · rw [Array.getElem?_setIfInBounds, if_pos rfl, if_pos (by simp; omega)]
  · intro j hj
    rw [Array.getElem?_setIfInBounds, if_neg (by omega), Array.getElem?_setIfInBounds, if_neg (by omega)]
    exact h.q.cd j hj
  · obtain ⟨es, ck, hb, r1, r2, r3⟩ := hm
    refine ⟨es, ck, ?_, r1, by omega, r3⟩
    rw [Below.heap_setCell _ _ _ _ hbx, Below.heap_setCell _ _ _ _ hbx]
    exact hb
  · rfl
  · intro n; rfl
  · exact ⟨h.wf.depth, h.wf.last, h.wf.now, hw.head, h.wf.disk, hw.sorted, fun r hr => (by cases hr), hw.airIn, hw.nodup, hw.toldIn, hw.toldNd, hw.len, hw.flLen, fun c hc => (by cases hc)⟩
  · exact ((hK.mono fun k _ e => by rw [e]; exact h.ownM).setCell (p := ⟨xb, 4, none⟩) (Or.inl h.own) _).setCell (p := ⟨xb, 5, none⟩) (Or.inl h.own) _
end
set_option maxHeartbeats 4000000 in
set_option maxRecDepth 1000000 in
theorem prog_crash (S : St) (F P : Nat → Prop) (xb : Nat) (K : List Bool) (ao : Option Addr) (n cap : Nat) (w : World) (h : ProgAt w F xb S) (hl : S.last ≤ 1000000) (hrow : Row w P 4 1 ao n cap (encO K)) (hn : n = K.length) (hPF : ∀ k, P k → ¬ F k) :
    Calls Tryz.prog 21 #[.pointer (some ⟨xb, 0, none⟩), .slice ao n cap] w fun e w' => e = .returned (.tuple #[]) ∧ ProgAt w' F xb (crashM S K) ∧ Kept F w w' := by
  subst hn
  obtain ⟨bm, D, eb, c, af, cf, vs, h⟩ := h
  have HWR := hide (prog_writes w h hl)
  have HLT := hide h.ltF
  have HOWN := hide h.own
  have HW := hide h.wf
  have HROW := hide hrow
  have HPF := hide hPF
  have hwl : (wrNums S.flights).length ≤ 1000000 := by have := wrNums_len h.wf; have := h.wf.reqsLen; omega
  have HQ := hide h
  have HIN : Hid (∀ n ∈ wrNums S.flights, ∃ k, ∃ hk : k < S.reqs.length, findR S.reqs n = some k ∧ (S.reqs[k]).num = n ∧ (S.reqs[k]).write = true) := fun n hn => by
    unfold wrNums at hn
    obtain ⟨c, hc, hnc⟩ := List.mem_flatMap.1 hn
    obtain ⟨hc1, hc2⟩ := List.mem_filter.1 hc
    obtain ⟨k, hk, h1, h2, _⟩ := h.wf.found (n := n) (List.mem_append_left _ (List.mem_flatMap.2 ⟨c, hc1, hnc⟩))
    exact ⟨k, hk, h1, h2, by rw [(h.wf.fl c hc1).wr _ (List.getElem_mem hk) (by rw [h2]; exact hnc)]; exact hc2⟩
  clear h hrow hPF
  go_enter Tryz.func21, Tryz.ntmps21
  go_wp2_with fail
  refine (orEmpty_some _ _).mono ?_
  rintro e w0 ⟨rfl, hw⟩
  have hw := hw.symm
  subst hw
  go_wp2_with fail
  refine HWR.out.mono ?_
  rintro e w1 ⟨⟨aw, cw, rfl, hrw⟩, hb1⟩
  have HRW := hide hrw
  have HB1 := hide hb1
  have HQ1 : Hid (ProgBlk w1 F xb (sD S (crashD S K ((wrNums S.flights).take 0) 0 S.disk)) [] bm D eb c af cf vs) := HQ.out.same (fun k _ hk => hb1.block k hk) hb1.size
  have HK1 : Hid (Kept F w w1) := Go.Proofs.YtiabdbeejkadnabGreatDoor.Below.kept hb1 F
  have HSZ := hide hb1.size
  clear hrw hb1 HWR HQ
  generalize hW : wrNums S.flights = W at *
  have HWW := hide hW
  clear hW
  go_wp2
  go_loopw [4, 5, 11] (fun _ _ vt wr => ∃ (t : Nat) (c' : Array Value), t ≤ W.length ∧ vt = .int .i64 t ∧ Hid (ProgBlk wr F xb (sD S (crashD S K (W.take t) 0 S.disk)) [] bm D eb c' af cf vs) ∧ Hid (Kept F w wr) ∧ Hid (Row wr (fun b => w.heap.size ≤ b) 75 1 aw W.length cw (encE eb W))) (fun _ _ vt _ => W.length - (intOf vt).toNat)
  case atStart => exact ⟨0, c, Nat.zero_le _, rfl, HQ1.out, HK1.out, HRW.out⟩
  case round =>
    clear HQ1 HK1 HRW
    obtain ⟨t, c', ht, rfl, HP, HK, HRW⟩ := hrel
    have hb := HP.out
    by_cases hlt : t < W.length
    · have hti : (t : Int) < (W.length : Int) := by omega
      obtain ⟨gw, cur, hgw, hgwl, hgwb, _, _⟩ := Row.some HRW.out (by omega)
      subst hgw
      have ck : wr.cell? ⟨gw, t, none⟩ = some (.pointer (some ⟨eb W[t], 0, none⟩)) := by rw [Row.cellAt HRW.out t (by omega)]; simp [encE, hlt]
      obtain ⟨k, hk, hf, hnm, hwr⟩ := HIN.out _ (List.getElem_mem hlt)
      obtain ⟨ds, hd, hent⟩ := hb.e.ent (S.reqs[k]) (List.getElem_mem hk)
      rw [hnm] at hent
      have hpg := (HW.out.rq _ (List.getElem_mem hk)).page
      obtain ⟨pn, hpn⟩ : ∃ pn : Nat, (S.reqs[k]).page = pn := ⟨(S.reqs[k]).page.toNat, by omega⟩
      have hp16 : pn < 16 := by omega
      have x1 : wr.cell? ⟨eb W[t], 1, none⟩ = some (.int .i64 (pn : Int)) := by simp [World.cell?, hent, entC, hpn]
      obtain ⟨x3, x4, x5, x6⟩ := ent_data hent
      have HTK : Hid (W.take (t + 1) = W.take t ++ [W[t]]) := List.take_succ_eq_append_getElem hlt
      have HAT : Hid (Calls Tryz.prog 40 #[.slice ao K.length cap, .int .i64 (t : Int)] wr fun e w' => e = .returned (.bool (keptAt K t)) ∧ w' = wr) := by
        refine prog_at K P ao cap t wr (HROW.out.same fun a ha => ?_)
        obtain ⟨cu, hcu, _⟩ := HROW.out.block ha
        exact HK.out.block _ (lt_of_heap hcu) (HPF.out _ (HROW.out.2 a ha))
      have hlen : (W.take t).length = t := by rw [List.length_take]; omega
      have HCR : Hid (crashD S K (W.take (t + 1)) 0 S.disk = if keptAt K t then putM (crashD S K (W.take t) 0 S.disk) (4 * pn) ds else crashD S K (W.take t) 0 S.disk) := by
        rw [Hid, HTK.out, crashD_snoc, hlen]
        unfold putR
        rw [rqOf_found hk hf, hpn, ← hd.2.1 hwr]
        have : (4 * (pn : Int)).toNat = 4 * pn := by omega
        rw [this]
      have hen : eb W[t] ≠ xb := fun e => by rw [e, hb.blk] at hent; simp at hent
      have hgx : gw ≠ xb := fun e => by subst e; exact (HRW.out.ne hb.blk (by decide)) _ rfl rfl
      have hxq := hb.blk
      have hcs := hb.q.size
      cases hkb : keptAt K t with
      | false =>
        rw [hkb] at HAT HCR
        have HNX : Hid (ProgBlk wr F xb (sD S (crashD S K (W.take (t + 1)) 0 S.disk)) [] bm D eb c' af cf vs) := by rw [Hid, HCR.out]; exact HP.out
        clear hb hent hd hxq x3 x4 x5 x6 hkb HP
        go_wp2_with (first | (go_at_call 40; refine HAT.out.mono ?_; rintro e w2 ⟨rfl, hw2⟩; have hw2 := hw2.symm; subst hw2))
        go_roundw
        case rel => exact ⟨t + 1, c', by omega, by go_num, HNX.out, HK.out, HRW.out⟩
        case measure => simp [intOf]; omega
      | true =>
        rw [hkb] at HAT HCR
        have hcell : ∀ j, j < 4 → ∃ v, wr.cell? ⟨xb, 6 + pn * 4 + j, none⟩ = some v ∧ wr.frozen? ⟨xb, 6 + pn * 4 + j, none⟩ = false := fun j hj => ⟨c'[6 + pn * 4 + j]'(by omega), by simp [World.cell?, hxq, show 6 + pn * 4 + j < c'.size by omega], by simp [World.frozen?, hxq]⟩
        obtain ⟨v0, y0, z0⟩ := hcell 0 (by omega)
        obtain ⟨v1, y1, z1⟩ := hcell 1 (by omega)
        obtain ⟨v2, y2, z2⟩ := hcell 2 (by omega)
        obtain ⟨v3, y3, z3⟩ := hcell 3 (by omega)
        rw [Nat.add_zero] at y0 z0
        have e3 : ∀ j, ∃ v, u8 (ds.getD j 0) = .int .u8 v := fun j => ⟨_, rfl⟩
        obtain ⟨a0, ha0⟩ := e3 0
        obtain ⟨a1, ha1⟩ := e3 1
        obtain ⟨a2, ha2⟩ := e3 2
        obtain ⟨a3, ha3⟩ := e3 3
        rw [ha0] at x3
        rw [ha1] at x4
        rw [ha2] at x5
        rw [ha3] at x6
        have hE : ∀ j, Ext F w (⟨xb, j, none⟩ : Addr).block := fun j => Or.inl HOWN.out
        have HNX : Hid (ProgBlk (((((wr.setCell ⟨xb, 6 + pn * 4, none⟩ (.int .u8 a0)).setCell ⟨xb, 6 + pn * 4 + 1, none⟩ (.int .u8 a1)).setCell ⟨xb, 6 + pn * 4 + 2, none⟩ (.int .u8 a2)).setCell ⟨xb, 6 + pn * 4 + 3, none⟩ (.int .u8 a3)).drew) F xb (sD S (crashD S K (W.take (t + 1)) 0 S.disk)) [] bm D eb (put4 c' (6 + pn * 4) ds) af cf vs ∧ Kept F w (((((wr.setCell ⟨xb, 6 + pn * 4, none⟩ (.int .u8 a0)).setCell ⟨xb, 6 + pn * 4 + 1, none⟩ (.int .u8 a1)).setCell ⟨xb, 6 + pn * 4 + 2, none⟩ (.int .u8 a2)).setCell ⟨xb, 6 + pn * 4 + 3, none⟩ (.int .u8 a3)).drew) ∧ Row (((((wr.setCell ⟨xb, 6 + pn * 4, none⟩ (.int .u8 a0)).setCell ⟨xb, 6 + pn * 4 + 1, none⟩ (.int .u8 a1)).setCell ⟨xb, 6 + pn * 4 + 2, none⟩ (.int .u8 a2)).setCell ⟨xb, 6 + pn * 4 + 3, none⟩ (.int .u8 a3)).drew) (fun b => w.heap.size ≤ b) 75 1 (some ⟨gw, 0, none⟩) W.length cw (encE eb W)) := by
          have hbk : (((((wr.setCell ⟨xb, 6 + pn * 4, none⟩ (.int .u8 a0)).setCell ⟨xb, 6 + pn * 4 + 1, none⟩ (.int .u8 a1)).setCell ⟨xb, 6 + pn * 4 + 2, none⟩ (.int .u8 a2)).setCell ⟨xb, 6 + pn * 4 + 3, none⟩ (.int .u8 a3)).drew).heap[xb]? = some (.cells (put4 c' (6 + pn * 4) ds) 85 (0, 0)) := by
            unfold put4
            rw [ha0, ha1, ha2, ha3]
            exact heap_setCell_at (heap_setCell_at (heap_setCell_at (heap_setCell_at hxq _) _) _) _
          have hsm : ∀ k, k ≠ xb → (((((wr.setCell ⟨xb, 6 + pn * 4, none⟩ (.int .u8 a0)).setCell ⟨xb, 6 + pn * 4 + 1, none⟩ (.int .u8 a1)).setCell ⟨xb, 6 + pn * 4 + 2, none⟩ (.int .u8 a2)).setCell ⟨xb, 6 + pn * 4 + 3, none⟩ (.int .u8 a3)).drew).heap[k]? = wr.heap[k]? := fun k hk => (Below.heap_setCell _ _ _ _ hk).trans ((Below.heap_setCell _ _ _ _ hk).trans ((Below.heap_setCell _ _ _ _ hk).trans (Below.heap_setCell _ _ _ _ hk)))
          refine ⟨?_, ((((HK.out.setCell (hE _) _).setCell (hE _) _).setCell (hE _) _).setCell (hE _) _).drew, HRW.out.same fun a ha => by cases ha; exact hsm gw hgx⟩
          rw [HCR.out]
          exact HP.out.putD hp16 hbk (fun k _ hk => hsm k hk) (by simp [World.setCell, World.drew])
        have hp16i : (pn : Int) < 16 := by omega
        have hen2 : xb ≠ eb W[t] := fun e => hen e.symm
        clear hb hent hd hxq hkb HP ha0 ha1 ha2 ha3 e3 hcell hE
        generalize W[t] = nn at *
        go_wp2_with (first | (go_at_call 40; refine HAT.out.mono ?_; rintro e w2 ⟨rfl, hw2⟩; have hw2 := hw2.symm; subst hw2))
        go_region_with (fail)
        all_goals go_wp2
        all_goals go_roundw
        all_goals first
          | exact ⟨t + 1, _, by omega, by go_num, HNX.out.1, HNX.out.2.1, HNX.out.2.2⟩
          | (simp [intOf]; omega)
    · have htk : W.take t = W := List.take_of_length_le (by omega)
      obtain ⟨w2, hcl, hm2, hK2⟩ := run_clear hb.m.map
      have d3 := hb.cell 3 _ hb.q.c3
      have hbx : bm ≠ xb := hb.bmNe hb.blk
      have s4 := (hK2.cell (p := ⟨xb, 4, none⟩) hb.lt (fun e => hbx e.symm)).trans (hb.cell 4 _ hb.q.c4)
      have s5 := (hK2.cell (p := ⟨xb, 5, none⟩) hb.lt (fun e => hbx e.symm)).trans (hb.cell 5 _ hb.q.c5)
      have r4 := (hK2.frozen (p := ⟨xb, 4, none⟩) hb.lt (fun e => hbx e.symm)).trans (hb.fz 4)
      have r5 := (hK2.frozen (p := ⟨xb, 5, none⟩) hb.lt (fun e => hbx e.symm)).trans (hb.fz 5)
      have HFIN : Hid (ProgAt ((w2.setCell ⟨xb, 4, none⟩ (.slice none 0 0)).setCell ⟨xb, 5, none⟩ (.int .i64 0)) F xb (crashM S K) ∧ Kept F w ((w2.setCell ⟨xb, 4, none⟩ (.slice none 0 0)).setCell ⟨xb, 5, none⟩ (.int .i64 0))) := by
        obtain ⟨q1, q2⟩ := hb.cleared hm2 hK2
        refine ⟨?_, HK.out.then q2⟩
        unfold crashM
        rw [HWW.out]
        rw [htk] at q1
        exact q1
      clear hb htk hm2 hK2 HP
      go_wp2_with (simp only [hcl])
      go_end0
      exact ⟨rfl, HFIN.out.1, HFIN.out.2⟩
end Go.Proofs.YtiabdbeejkadnabGreatDoor
