import Derived.Test.YtiabdbeejkadnaaGreatDoorJdc26f69e4d
import Derived.Test.YtiabdbeejkadnaaGreatDoorJ7219045ef6
import Derived.Deep.RegionWith
/- The reference queue: tried. Own work of the verifier. -/
namespace Go.Proofs.YtiabdbeejkadnaaGreatDoor
open Go.RowKit

theorem untold_yes {T : List Int} {n : Int} {i : Nat} (h : i < T.length) (hne : T.getD i 0 ≠ n) : untold (T.take (i + 1)) n = untold (T.take i) n ++ [T.getD i 0] := by
  have hgd : T.getD i 0 = T[i] := by simp [h]
  rw [hgd] at hne ⊢
  simp only [untold, List.take_succ_eq_append_getElem h, List.filter_append]
  simp [hne]
theorem untold_no {T : List Int} {n : Int} {i : Nat} (h : i < T.length) (he : T.getD i 0 = n) : untold (T.take (i + 1)) n = untold (T.take i) n := by
  have hgd : T.getD i 0 = T[i] := by simp [h]
  rw [hgd] at he
  simp only [untold, List.take_succ_eq_append_getElem h, List.filter_append]
  simp [he]
theorem untold_le (T : List Int) (n : Int) (i : Nat) : (untold (T.take i) n).length ≤ T.length := by
  have h1 := List.length_filter_le (fun m : Int => m != n) (T.take i)
  have h2 := List.length_take_le' i T
  unfold untold; omega
theorem Row.wid_new {wc wr : World} {F : Nat → Prop} {e : TypeId} {size : Nat} {ao : Option Addr} {n cap : Nat} {xs : List Value} {w3 : World} (h : Row wr (fun b => wc.heap.size ≤ b) e size ao n cap xs) (hz : w3.heap.size = wr.heap.size) : Row wr (Foot F wc w3) e size ao n cap xs :=
  ⟨h.1, fun a ha => Or.inr ⟨h.2 a ha, by obtain ⟨c, hc, _⟩ := h.block ha; rw [hz]; exact lt_of_heap hc⟩⟩
/-- the copy of a request behind its try, ahead of how it stands -/
def midR (S : St) (fault : Bool) (r : Rq) : Rq :=
  { r with tries := r.tries + 1, inAir := false, answer := if fault = false ∧ r.write = false then getM S.disk (4 * r.page).toNat else r.answer }
theorem mid_given {S : St} {fault : Bool} {r : Rq} (h : r.state = 4) : triedR S fault r = midR S fault r := by
  unfold triedR midR; simp [h]
theorem mid_done {S : St} {r : Rq} (h : r.state = 1) : triedR S false r = { midR S false r with state := 2 } := by
  unfold triedR midR; simp [h]
theorem mid_failed {S : St} {r : Rq} (h : r.state = 1) (h4 : r.tries + 1 = 4) : triedR S true r = { midR S true r with state := 3 } := by
  unfold triedR midR; simp [h, h4]
theorem mid_waits {S : St} {r : Rq} (h : r.state = 1) (h4 : r.tries + 1 ≠ 4) : triedR S true r = { midR S true r with state := 0, alone := true, after := S.now + pauseM (r.tries + 1) } := by
  unfold triedR midR; simp [h, h4]
section
variable {w : World} {F G : Nat → Prop} {mb : Nat} {S : St} {ar : Option Addr} {cr : Nat} {at_ : Option Addr} {ct : Nat} {af : Option Addr} {cf : Nat} {ad : Option Addr} {cd : Nat}
theorem RefG.setOther (h : RefG w F G mb S) {p : Addr} (hp : ¬ F p.block) (u : Value) : RefG (w.setCell p u) F G mb S := h.same (fun k hk _ => Below.heap_setCell _ _ _ _ (fun e => hp (e ▸ hk))) (by simp [World.setCell])
theorem RefG.drew (h : RefG w F G mb S) : RefG w.drew F G mb S := h.same (fun _ _ _ => rfl) (Nat.le_refl _)
end
/-- the copy, the queue and the rest behind a part of tried -/
def MidT (w : World) (F G : Nat → Prop) (mb : Nat) (S' : St) (r' : Rq) (wx : World) : Prop :=
  RefG wx F G mb S' ∧ wx.heap[w.heap.size]? = some (.cells (encR r').toArray 175 (0, 0)) ∧ Kept (fun k => F k ∧ ¬ G k) w wx
theorem MidT.set {w wx : World} {F G : Nat → Prop} {mb : Nat} {S' : St} {r r' : Rq} (h : MidT w F G mb S' r wx) (hF : ∀ k, F k → k < w.heap.size) (j : Nat) (u : Value) (he : ((encR r).toArray).setIfInBounds j u = (encR r').toArray) : MidT w F G mb S' r' (wx.setCell ⟨w.heap.size, j, none⟩ u) :=
  ⟨h.1.setOther (p := ⟨w.heap.size, j, none⟩) (fun e => by have := hF _ e; simp at this) u, by rw [← he]; exact heap_setCell_at h.2.1 u, h.2.2.setCell (p := ⟨w.heap.size, j, none⟩) (Or.inr (Nat.le_refl _)) u⟩
theorem MidT.drew {w wx : World} {F G : Nat → Prop} {mb : Nat} {S' : St} {r : Rq} (h : MidT w F G mb S' r wx) : MidT w F G mb S' r wx.drew := ⟨h.1.drew, h.2.1, h.2.2.drew⟩
theorem getM_eq (D : List UInt8) (a : Nat) : getM D a = ⟨((D.drop a).take 4).toArray⟩ := rfl
/-- the bytes of a page, as a text -/
theorem page_text {w : World} {F : Nat → Prop} {mb : Nat} {S : St} (h : RefAt w F mb S) (hd : S.disk.length = 64) : ∃ gd cd, w.cell? ⟨mb, 7, none⟩ = some (.slice (some ⟨gd, 0, none⟩) 64 cd) ∧ 64 ≤ cd ∧ w.heap[gd]? ≠ none ∧ F gd ∧ ∀ W : World, W.heap[gd]? = w.heap[gd]? → ∀ pn, pn < 16 → ∀ cap, (convert 86 9 (.slice (some ⟨gd, 4 * pn, none⟩) 4 cap)).run Tryz.prog W = .ok (.string (getM S.disk (4 * pn))) W := by
  obtain ⟨G, ar, cr, at_, ct, af, cf, ad, cd, h⟩ := h
  obtain ⟨gd, cur, hg, hgF, hgb, hc, _⟩ := Row.some h.disk (by omega)
  subst hg
  refine ⟨gd, cd, by rw [← hd]; exact h.c7, by omega, by rw [hgb]; simp, hgF, fun W hW pn hp cap => ?_⟩
  have e4 : ((S.disk.drop (4 * pn)).take 4).length = 4 := by rw [List.length_take, List.length_drop, hd]; omega
  have := run_convert_bytes_back (P := Tryz.prog) W 86 9 5 ⟨gd, 4 * pn, none⟩ cap ((S.disk.drop (4 * pn)).take 4) Tryz.underlying86 Tryz.underlying5 Tryz.underlying9 (fun j hj => by
    rw [Addr.add_lit]
    have hj4 : j < 4 := by omega
    have e1 : W.cell? ⟨gd, 4 * pn + j, none⟩ = w.cell? ⟨gd, 4 * pn + j, none⟩ := by unfold World.cell?; rw [hW]
    rw [e1, Row.cellAt h.disk (4 * pn + j) (by omega)]
    simp [encB]
    exact ⟨_, List.getElem?_eq_getElem (by omega), rfl⟩)
  rw [e4] at this
  exact this
set_option maxHeartbeats 1000000 in
set_option maxRecDepth 1000000 in
/-- drop, where the request is not under way: the commands' blocks stay as they are -/
theorem ref_drop_G (S : St) (F G : Nat → Prop) (mb k : Nat) (w : World) (h : RefG w F G mb S) (hr : S.reqs.length ≤ 1000000) (hk : k < S.reqs.length) (ha : (S.reqs.getD k Rq.zero).inAir = false) :
    Calls Tryz.prog 109 #[.pointer (some ⟨mb, 0, none⟩), .int .i64 k] w fun e w' => e = .returned (.tuple #[]) ∧ RefG w' (Foot F w w') G mb { S with reqs := S.reqs.eraseIdx k } ∧ Kept (fun k => F k ∧ ¬ G k) w w' := by
  obtain ⟨ar, cr, at_, ct, af, cf, ad, cd, h⟩ := h
  obtain ⟨i0, hi, hi0, hi1, hi2⟩ := info_parts info_req
  obtain ⟨g0, cur, hg0, _, _, _, _⟩ := Row.some h.reqs (by omega)
  subst hg0
  have c1 := h.c1
  have f1 := h.fz 1
  have hlt := h.lt
  have hgl : g0 < w.heap.size := by obtain ⟨c, hc, _⟩ := h.reqs.block rfl; exact lt_of_heap hc
  have ca : w.cell? ⟨g0, k * 10 + 8, none⟩ = some (.bool false) := by rw [Row.req h.reqs rfl k 8 hk (by omega), ← ha]; rfl
  have H : Hid (RefBlk w F G mb S (some ⟨g0, 0, none⟩) cr at_ ct af cf ad cd) := h
  clear h ha
  generalize hR : S.reqs = R at *
  have hR' : Hid (S.reqs = R) := hR
  clear hR
  go_enter Tryz.func109, Tryz.ntmps109
  go_wp2
  go_loopw [4, 5] (fun l i wr => ∃ (j n cap : Nat) (ao : Option Addr), j ≤ R.length ∧ i = .int .i64 j ∧ l = .slice ao n cap ∧ n = (keepTo R k j).length ∧ Hid (Row wr (fun b => w.heap.size ≤ b) 175 10 ao n cap ((keepTo R k j).flatMap encR)) ∧ Hid (Below w.heap.size w wr)) (fun _ i _ => R.length - (intOf i).toNat)
  case atStart => exact ⟨0, 0, 0, none, Nat.zero_le _, rfl, rfl, by rw [keepTo_zero]; rfl, by rw [keepTo_zero]; exact Row.nil _ _ _ _, Below.refl _ _⟩
  case round =>
    obtain ⟨j, n, cap, ao, hj, rfl, rfl, hn, hrow, hb⟩ := hrel
    have HN : Hid (n = (keepTo R k j).length) := hn
    have hnl : n ≤ R.length := by rw [hn]; exact keepTo_len R k j
    clear hn
    have d1 : wr.cell? ⟨mb, 1, none⟩ = some (.slice (some ⟨g0, 0, none⟩) R.length cr) := (hb.out.cell (p := ⟨mb, 1, none⟩) hlt).trans c1
    have e1 : wr.frozen? ⟨mb, 1, none⟩ = false := (hb.out.frozen (p := ⟨mb, 1, none⟩) hlt).trans f1
    by_cases hlt2 : j < R.length
    · by_cases hjk : j = k
      · have b1 : ((j : Int) != (k : Int)) = false := by simp [hjk]
        have HE : Hid (j = k) := hjk
        clear hjk
        go_wp2
        go_roundw
        case rel => exact ⟨j + 1, n, cap, ao, by omega, by go_num, rfl, by rw [HN.out, HE.out, keepTo_same], by rw [HE.out, keepTo_same]; rw [HE.out] at hrow; exact hrow, hb⟩
        case measure => simp [intOf]; omega
      · have b1 : ((j : Int) != (k : Int)) = true := by rw [bne_iff_ne]; omega
        obtain ⟨r, hr'⟩ : ∃ r, r = R.getD j Rq.zero := ⟨_, rfl⟩
        have HRr : Hid (r = R.getD j Rq.zero) := hr'
        have hq : ∀ t, t < 10 → wr.cell? ⟨g0, j * 10 + t, none⟩ = (encR r)[t]? := by
          intro t ht
          rw [hb.out.cell (p := ⟨g0, j * 10 + t, none⟩) hgl, hr', ← Row.req (R := R) (by have := H.out.reqs; rw [hR'.out] at this; exact this) rfl j t hlt2 ht]
        have q0 : wr.cell? ⟨g0, j * 10, none⟩ = some (.int .i64 r.num) := hq 0 (by omega)
        have q1 : wr.cell? ⟨g0, j * 10 + 1, none⟩ = some (.bool r.write) := hq 1 (by omega)
        have q2 : wr.cell? ⟨g0, j * 10 + 2, none⟩ = some (.int .i64 r.page) := hq 2 (by omega)
        have q3 : wr.cell? ⟨g0, j * 10 + 3, none⟩ = some (.string r.data) := hq 3 (by omega)
        have q4 : wr.cell? ⟨g0, j * 10 + 4, none⟩ = some (.int .i64 r.state) := hq 4 (by omega)
        have q5 : wr.cell? ⟨g0, j * 10 + 5, none⟩ = some (.int .i64 r.tries) := hq 5 (by omega)
        have q6 : wr.cell? ⟨g0, j * 10 + 6, none⟩ = some (.int .i64 r.after) := hq 6 (by omega)
        have q7 : wr.cell? ⟨g0, j * 10 + 7, none⟩ = some (.bool r.alone) := hq 7 (by omega)
        have q8 : wr.cell? ⟨g0, j * 10 + 8, none⟩ = some (.bool r.inAir) := hq 8 (by omega)
        have q9 : wr.cell? ⟨g0, j * 10 + 9, none⟩ = some (.string r.answer) := hq 9 (by omega)
        have HJ : Hid (¬ j = k) := hjk
        clear hq hr' hjk
        have HO : Hid ((wr.alloc (.cells (encR r).toArray 175)).ownsRow 0 175 10 (.slice ao n cap) n ((keepTo R k j).flatMap encR)) := (hrow.out.alloc _).1
        have HW : Hid (∀ (t : Nat) (u : Value), (encR r)[t]? = some u → (wr.alloc (.cells (encR r).toArray 175)).cell? ((⟨wr.heap.size, 0, none⟩ : Addr).add t) = some u) := fun t u => news_new t u
        go_wp2_with (at_builtin; go_must (refine wpList_append_lies _ rfl (.tmp 43) (.tmp 51) 102 rfl 0 175 i0 (.agg (encR Rq.zero).toArray) 10 88 Tryz.underlying102 hi hi0 hi1 hi2 rfl (by decide) (.slice ao n cap) n ((keepTo R k j).flatMap encR) rfl HO.out ⟨wr.heap.size, 0, none⟩ 1 1 (encR r) rfl rfl HW.out (encR_one _) (by decide) (by unfold maxLen; omega) (by omega) (Nat.zero_le _) (wr.heap.size + 1) (by simp) ?_; intro g cap' w2 hown hgrow hat hlt3; have HX := hide (drop_rel hb.out hrow.out hgrow hown hat); clear hown hgrow hat hlt3))
        go_roundw
        case rel => exact ⟨j + 1, n + 1, cap', some ⟨g, 0, none⟩, by omega, by go_num, rfl, by rw [keepTo_next R k j hlt2 HJ.out, List.length_append, HN.out]; rfl, by rw [keepTo_next R k j hlt2 HJ.out, List.flatMap_append, ← HRr.out]; simpa [Hid] using HX.out.2, HX.out.1⟩
        case measure => simp [intOf]; omega
    · have HA : Hid (keepTo R k j = R.eraseIdx k) := keepTo_all R k j (by omega)
      go_wp2
      go_end0
      refine ⟨rfl, ⟨ao, cap, at_, ct, af, cf, ad, cd, ?_⟩, ?_⟩
      · have hz2 : ∀ v, (wr.setCell ⟨mb, 1, none⟩ v).heap.size = wr.heap.size := fun v => by simp [World.setCell]
        refine H.out.setReqs (fun t ht _ => hb.out.block t ht) hb.out.size Foot.of (fun t ht => by rw [← hz2]; exact Foot.lt H.out.ltF (by rw [hz2]; exact hb.out.size) t ht) (by rw [HN.out, HA.out]) ?_ (fun b hb' => Or.inr (hrow.out.2 b hb'))
        have hr2 := hrow.out
        rw [HA.out] at hr2
        refine ⟨hr2.1, fun a ha => Or.inr ⟨hr2.2 a ha, ?_⟩⟩
        obtain ⟨c, hc, _⟩ := hr2.block ha
        rw [hz2]
        exact lt_of_heap hc
      · exact ((Go.Proofs.YtiabdbeejkadnaaGreatDoor.Below.kept hb.out (fun k => F k ∧ ¬ G k))).setCell (Or.inl ⟨H.out.own, H.out.notMb⟩) _
set_option maxHeartbeats 4000000 in
set_option maxRecDepth 1000000 in
theorem ref_tried (S : St) (E : List Int) (F G : Nat → Prop) (mb : Nat) (num : Int) (fault : Bool) (w : World) (h : RefG w F G mb S) (hw : WfE S (num :: E)) (hl : S.last ≤ 1000000) (hnow : S.now ≤ 1000000000) :
    Calls Tryz.prog 71 #[.pointer (some ⟨mb, 0, none⟩), .int .i64 num, .bool fault] w fun e w' => e = .returned (.tuple #[]) ∧ RefG w' (Foot F w w') G mb (triedM S num fault) ∧ Kept (fun k => F k ∧ ¬ G k) w w' := by
  obtain ⟨k, hk, hf, hn, hi⟩ := hw.found (n := num) (by simp)
  have hrl : S.reqs.length ≤ 1000000 := by have := hw.reqsLen; omega
  have htl : S.told.length ≤ 1000000 := by have := hw.toldLen; omega
  have o := hw.rq _ (List.getElem_mem hk)
  have h14 := o.air14 hi
  have h3 := o.tries3 (Or.inr hi)
  have ht0 := o.tries.1
  have hpg := o.page
  have HDAT := hide o.data
  have HNUM := hide hn
  have HFIND := hide hf
  have hnow0 := hw.now
  have HD64 := hide hw.disk
  have HLT := hide h.lt
  have HGET : Hid (S.reqs.getD k Rq.zero = S.reqs[k]) := getD_of hk
  have HAT : Hid (Calls Tryz.prog 110 #[.pointer (some ⟨mb, 0, none⟩), .int .i64 num] w fun e w' => e = .returned (.int .i64 (k : Int)) ∧ w' = w) := by
    have := ref_at S F mb num w h.at_ hrl
    have e : intOr (findR S.reqs num) = (k : Int) := by rw [hf]; rfl
    rw [e] at this; exact this
  have H := hide h
  obtain ⟨ar, cr, at_, ct, af, cf, ad, cd, hB⟩ := h
  obtain ⟨g0, cur, hg0, hgF, _, _, _⟩ := Row.some hB.reqs (by omega)
  subst hg0
  have c1 := hB.c1
  obtain ⟨r, hr⟩ : ∃ r, r = S.reqs[k] := ⟨_, rfl⟩
  have HR : Hid (r = S.reqs[k]) := hr
  rw [← hr] at h14 h3 ht0 hpg
  have hq : ∀ t, t < 10 → w.cell? ⟨g0, k * 10 + t, none⟩ = (encR r)[t]? := by
    intro t ht
    rw [hr, ← HGET.out, ← Row.req hB.reqs rfl k t hk ht]
  have q0 : w.cell? ⟨g0, k * 10, none⟩ = some (.int .i64 r.num) := hq 0 (by omega)
  have q1 : w.cell? ⟨g0, k * 10 + 1, none⟩ = some (.bool r.write) := hq 1 (by omega)
  have q2 : w.cell? ⟨g0, k * 10 + 2, none⟩ = some (.int .i64 r.page) := hq 2 (by omega)
  have q3 : w.cell? ⟨g0, k * 10 + 3, none⟩ = some (.string r.data) := hq 3 (by omega)
  have q4 : w.cell? ⟨g0, k * 10 + 4, none⟩ = some (.int .i64 r.state) := hq 4 (by omega)
  have q5 : w.cell? ⟨g0, k * 10 + 5, none⟩ = some (.int .i64 r.tries) := hq 5 (by omega)
  have q6 : w.cell? ⟨g0, k * 10 + 6, none⟩ = some (.int .i64 r.after) := hq 6 (by omega)
  have q7 : w.cell? ⟨g0, k * 10 + 7, none⟩ = some (.bool r.alone) := hq 7 (by omega)
  have q8 : w.cell? ⟨g0, k * 10 + 8, none⟩ = some (.bool r.inAir) := hq 8 (by omega)
  have q9 : w.cell? ⟨g0, k * 10 + 9, none⟩ = some (.string r.answer) := hq 9 (by omega)
  have hmbl : mb < w.heap.size := hB.lt
  clear hq hr hB hf hn hi o hw
  go_enter Tryz.func71, Tryz.ntmps71
  go_wp2_with fail
  refine HAT.out.mono ?_
  rintro e w1 ⟨rfl, hw1⟩
  have hw1 := hw1.symm
  subst hw1
  go_upto_if 29 with fail
  have HM0 : Hid (MidT w F G mb S { r with tries := r.tries + 1, inAir := false } (w.alloc (.cells #[.int .i64 r.num, .bool r.write, .int .i64 r.page, .string r.data, .int .i64 r.state, .int .i64 (r.tries + 1), .int .i64 r.after, .bool r.alone, .bool false, .string r.answer] 175))) := ⟨H.out.same (fun k _ hk => Below.heap_alloc w _ k hk) (by simp), heap_alloc_new w _, (Kept.refl _ _).alloc _⟩
  generalize w.alloc (.cells #[.int .i64 r.num, .bool r.write, .int .i64 r.page, .string r.data, .int .i64 r.state, .int .i64 (r.tries + 1), .int .i64 r.after, .bool r.alone, .bool false, .string r.answer] 175) = W0 at HM0 ⊢
  clear q0 q1 q2 q3 q4 q5 q6 q7 q8 q9 c1
  obtain ⟨pn, hpn⟩ : ∃ pn : Nat, r.page = pn := ⟨r.page.toNat, by omega⟩
  have HPN := hide hpn
  have hp16n : pn < 16 := by omega
  clear hpn
  have HR2 : Hid (S.reqs.getD k Rq.zero = r) := HGET.out.trans HR.out.symm
  go_cut [7] from 8 (fun v wx => v = .pointer (some ⟨w.heap.size, 0, none⟩) ∧ Hid (MidT w F G mb { S with disk := diskM S k fault } (midR S fault r) wx))
  case first =>
    obtain ⟨⟨⟨m0, m1, m2, m3, m4⟩, m5, m6, m7, m8, m9⟩, mf⟩ := ten HM0.out.2.1
    cases fault with
    | true =>
      go_wp2
      go_meet
      refine ⟨rfl, ?_⟩
      have := HM0.out
      simpa [Hid, diskM, midR] using this
    | false =>
      by_cases hwr : r.write = true
      · have HWR := hide hwr
        replace m1 : W0.cell? ⟨w.heap.size, 1, none⟩ = some (.bool true) := by rw [m1]; simp [hwr]
        replace m2 : W0.cell? ⟨w.heap.size, 2, none⟩ = some (.int .i64 (pn : Int)) := by rw [m2]; simp [HPN.out]
        clear hwr
        go_wp2_with fail
        refine (ref_put S F mb pn r.data W0 HM0.out.1 HD64.out hp16n (HDAT.out (by rw [← HR.out]; exact HWR.out) |> fun e => by rw [← HR.out] at e; exact e)).mono ?_
        rintro e w2 ⟨rfl, hG2, hK2, hz2⟩
        have HX : Hid (MidT w F G mb { S with disk := diskM S k false } (midR S false r) w2) := by
          have e1 : diskM S k false = putM S.disk (4 * pn) r.data.data.toList := by
            unfold diskM; rw [HR2.out, if_pos ⟨rfl, HWR.out⟩, HPN.out]; congr 1
          have e2 : midR S false r = { r with tries := r.tries + 1, inAir := false } := by unfold midR; simp [HWR.out]
          rw [e1, e2]
          refine ⟨hG2, (hK2.block _ (lt_of_heap HM0.out.2.1) (fun e => by have := HLT.out _ e.1; omega)).trans HM0.out.2.1, HM0.out.2.2.then hK2⟩
        clear hG2 hK2 hz2
        go_wp2
        go_meet
        exact ⟨rfl, HX.out⟩
      · have HWR : Hid (r.write = false) := by simpa [Hid] using hwr
        replace m1 : W0.cell? ⟨w.heap.size, 1, none⟩ = some (.bool false) := by rw [m1]; simp [HWR.out]
        replace m2 : W0.cell? ⟨w.heap.size, 2, none⟩ = some (.int .i64 (pn : Int)) := by rw [m2]; simp [HPN.out]
        obtain ⟨gd, cd2, c7, hcd, _, hgdF, hcv⟩ := page_text HM0.out.1.at_ HD64.out
        have hcv0 : ∀ W : World, W.heap[gd]? = W0.heap[gd]? → ∀ cap, (convert 86 9 (.slice (some ⟨gd, 4 * pn, none⟩) 4 cap)).run Tryz.prog W = .ok (.string (getM S.disk (4 * pn))) W := fun W hW cap => hcv W hW pn hp16n cap
        have hgl := HLT.out gd hgdF
        have nn1 : mb ≠ w.heap.size := by omega
        have nn2 : w.heap.size ≠ mb := by omega
        have nn3 : gd ≠ w.heap.size := by omega
        have nn4 : w.heap.size ≠ gd := by omega
        have mf9 := mf 9
        have hp16 : (pn : Int) < 16 := by omega
        have hw1 : IntKind.i64.wrap (4 * (pn : Int)) = 4 * (pn : Int) := by rw [IntKind.wrap_i64]; omega
        have hw2 : IntKind.i64.wrap (4 * (pn : Int) + 4) = 4 * (pn : Int) + 4 := by rw [IntKind.wrap_i64]; omega
        have hb0 : (0 : Int) ≤ 4 * (pn : Int) := by omega
        have hb1 : 4 * (pn : Int) ≤ 4 * (pn : Int) + 4 := by omega
        have hb2 : 4 * (pn : Int) + 4 ≤ 64 := by omega
        have hb3 : 4 * (pn : Int) + 4 ≤ (cd2 : Int) := by omega
        have ht1 : (4 * (pn : Int)).toNat = 4 * pn := by omega
        have ht2 : (4 * (pn : Int) + 4).toNat = 4 * pn + 4 := by omega
        clear hcv hwr
        go_wp2_with fail
        have HX : Hid (MidT w F G mb { S with disk := diskM S k false } (midR S false r) ((W0.setCell ⟨w.heap.size, 9, none⟩ (.string (getM S.disk (4 * pn)))).drew)) := by
          have e1 : diskM S k false = S.disk := by
            unfold diskM; rw [HR2.out, if_neg (by rw [HWR.out]; simp)]
          have e2 : midR S false r = { r with tries := r.tries + 1, inAir := false, answer := getM S.disk (4 * pn) } := by
            have e3 : (4 * r.page).toNat = 4 * pn := by rw [HPN.out]; omega
            unfold midR; rw [if_pos ⟨rfl, HWR.out⟩, e3]
          rw [e1, e2]
          exact (HM0.out.set (r' := { r with tries := r.tries + 1, inAir := false, answer := getM S.disk (4 * pn) }) HLT.out 9 (.string (getM S.disk (4 * pn))) rfl).drew
        have hcv1 := hcv0 W0.drew rfl
        have hcv2 := hcv0 W0 rfl
        clear hcv0
        go_region_with (fail)
        all_goals go_wp2
        all_goals go_meet
        all_goals exact ⟨rfl, HX.out⟩
  case rest =>
    obtain ⟨rfl, HM1⟩ := hcut
    clear HM0 HPN
    obtain ⟨⟨⟨m0, m1, m2, m3, m4⟩, m5, m6, m7, m8, m9⟩, mf⟩ := ten HM1.out.2.1
    replace m4 : wc.cell? ⟨w.heap.size, 4, none⟩ = some (.int .i64 r.state) := m4
    replace m5 : wc.cell? ⟨w.heap.size, 5, none⟩ = some (.int .i64 (r.tries + 1)) := m5
    have mf4 := mf 4
    have mf6 := mf 6
    have mf7 := mf 7
    have c4 : wc.cell? ⟨mb, 4, none⟩ = some (.int .i64 S.now) := by
      obtain ⟨_, _, _, _, _, _, _, _, hB1⟩ := HM1.out.1
      exact hB1.c4
    clear m0 m1 m2 m3 m8 m9 mf
    go_upto_if 54 with fail
    go_cut [7] from 8 (fun v wx => v = .pointer (some ⟨w.heap.size, 0, none⟩) ∧ Hid (MidT w F G mb { S with disk := diskM S k fault } (triedR S fault r) wx))
    case first =>
      rcases h14 with h1 | h4
      · have b1 : (r.state == 1) = true := beq_iff_eq.2 h1
        cases fault with
        | false =>
          have HX : Hid (MidT w F G mb { S with disk := diskM S k false } (triedR S false r) (wc.setCell ⟨w.heap.size, 4, none⟩ (.int .i64 2))) := by
            rw [mid_done h1]
            exact HM1.out.set HLT.out 4 _ rfl
          clear h1
          go_wp2
          go_meet
          exact ⟨rfl, HX.out⟩
        | true =>
          by_cases h4 : r.tries + 1 = 4
          · have b4 : (r.tries + 1 == 4) = true := beq_iff_eq.2 h4
            have HX : Hid (MidT w F G mb { S with disk := diskM S k true } (triedR S true r) (wc.setCell ⟨w.heap.size, 4, none⟩ (.int .i64 3))) := by
              rw [mid_failed h1 h4]
              exact HM1.out.set HLT.out 4 _ rfl
            clear h1 h4
            go_wp2
            go_meet
            exact ⟨rfl, HX.out⟩
          · have b4 : (r.tries + 1 == 4) = false := beq_eq_false_iff_ne.2 h4
            have HX : Hid (MidT w F G mb { S with disk := diskM S k true } (triedR S true r) (((wc.setCell ⟨w.heap.size, 4, none⟩ (.int .i64 0)).setCell ⟨w.heap.size, 7, none⟩ (.bool true)).setCell ⟨w.heap.size, 6, none⟩ (.int .i64 (S.now + pauseM (r.tries + 1))))) := by
              rw [mid_waits h1 h4]
              exact ((HM1.out.set (r' := { midR S true r with state := 0 }) HLT.out 4 _ rfl).set (r' := { midR S true r with state := 0, alone := true }) HLT.out 7 _ rfl).set HLT.out 6 _ rfl
            have ht3 : r.tries = 0 ∨ r.tries = 1 ∨ r.tries = 2 := by omega
            have nn1 : mb ≠ w.heap.size := by omega
            have nn2 : w.heap.size ≠ mb := by omega
            clear h1 h4
            rcases ht3 with h0 | h0 | h0
            · have ep : pauseM (r.tries + 1) = 1 := by rw [h0]; rfl
              rw [ep] at HX
              replace m5 : wc.cell? ⟨w.heap.size, 5, none⟩ = some (.int .i64 1) := by rw [m5, h0]; rfl
              clear ep h0 b4 h3 ht0
              go_wp2_with fail
              refine wp_loop_rounds 1 ?_
              rw [rounds_succ]
              go_wp2
              go_meet
              exact ⟨rfl, HX.out⟩
            · have ep : pauseM (r.tries + 1) = 2 := by rw [h0]; rfl
              rw [ep] at HX
              replace m5 : wc.cell? ⟨w.heap.size, 5, none⟩ = some (.int .i64 2) := by rw [m5, h0]; rfl
              clear ep h0 b4 h3 ht0
              go_wp2_with fail
              refine wp_loop_rounds 2 ?_
              rw [rounds_succ]
              go_wp2
              rw [rounds_succ]
              go_wp2
              go_meet
              exact ⟨rfl, HX.out⟩
            · have ep : pauseM (r.tries + 1) = 4 := by rw [h0]; rfl
              rw [ep] at HX
              replace m5 : wc.cell? ⟨w.heap.size, 5, none⟩ = some (.int .i64 3) := by rw [m5, h0]; rfl
              clear ep h0 b4 h3 ht0
              go_wp2_with fail
              refine wp_loop_rounds 3 ?_
              rw [rounds_succ]
              go_wp2
              rw [rounds_succ]
              go_wp2
              rw [rounds_succ]
              go_wp2
              go_meet
              exact ⟨rfl, HX.out⟩
      · have b1 : (r.state == 1) = false := beq_eq_false_iff_ne.2 (by omega)
        have HX : Hid (MidT w F G mb { S with disk := diskM S k fault } (triedR S fault r) wc) := by
          rw [mid_given h4]; exact HM1.out
        clear h4
        go_wp2
        go_meet
        exact ⟨rfl, HX.out⟩
    case rest =>
      obtain ⟨rfl, HM2⟩ := hcut
      clear HM1 m4 m5 m6 m7 mf4 mf6 mf7 c4
      obtain ⟨ar2, cr2, at2, ct2, af2, cf2, ad2, cd2, hB2⟩ := HM2.out.1
      obtain ⟨g1, cur1, hg1, hg1F, _, _, _⟩ := Row.some hB2.reqs (by show 0 < S.reqs.length; omega)
      subst hg1
      have d1 := hB2.c1
      replace d1 : wc.cell? ⟨mb, 1, none⟩ = some (.slice (some ⟨g1, 0, none⟩) S.reqs.length cr2) := d1
      have HALL := hide (hB2.setAll k (triedR S fault r) hk)
      have e10 : ∀ t, t < 10 → ∃ v, wc.cell? ⟨g1, k * 10 + t, none⟩ = some v := fun t ht => ⟨_, (Row.req hB2.reqs rfl k t hk ht).trans (List.getElem?_eq_getElem (by rw [encR_len]; exact ht))⟩
      obtain ⟨v0, y0⟩ := e10 0 (by omega)
      replace y0 : wc.cell? ⟨g1, k * 10, none⟩ = some v0 := y0
      obtain ⟨v1, y1⟩ := e10 1 (by omega)
      obtain ⟨v2, y2⟩ := e10 2 (by omega)
      obtain ⟨v3, y3⟩ := e10 3 (by omega)
      obtain ⟨v4, y4⟩ := e10 4 (by omega)
      obtain ⟨v5, y5⟩ := e10 5 (by omega)
      obtain ⟨v6, y6⟩ := e10 6 (by omega)
      obtain ⟨v7, y7⟩ := e10 7 (by omega)
      obtain ⟨v8, y8⟩ := e10 8 (by omega)
      obtain ⟨v9, y9⟩ := e10 9 (by omega)
      have z0 : wc.frozen? ⟨g1, k * 10, none⟩ = false := hB2.reqs.frozenAt (k * 10)
      have z1 := hB2.reqs.frozenAt (k * 10 + 1)
      have z2 := hB2.reqs.frozenAt (k * 10 + 2)
      have z3 := hB2.reqs.frozenAt (k * 10 + 3)
      have z4 := hB2.reqs.frozenAt (k * 10 + 4)
      have z5 := hB2.reqs.frozenAt (k * 10 + 5)
      have z6 := hB2.reqs.frozenAt (k * 10 + 6)
      have z7 := hB2.reqs.frozenAt (k * 10 + 7)
      have z8 := hB2.reqs.frozenAt (k * 10 + 8)
      have z9 := hB2.reqs.frozenAt (k * 10 + 9)
      have hg1G : ¬ G g1 := hB2.notR _ rfl
      have HTR : Hid (triedR S fault r = triedR S fault (S.reqs[k])) := by rw [Hid, HR.out]
      have hinair : Hid ((triedR S fault r).inAir = false) := rfl
      generalize triedR S fault r = r' at *
      obtain ⟨⟨⟨m0, m1, m2, m3, m4⟩, m5, m6, m7, m8, m9⟩, mf⟩ := ten HM2.out.2.1
      clear e10 hB2 mf
      have hg1l := HLT.out g1 hg1F
      have nn1 : g1 ≠ w.heap.size := by omega
      have nn2 : w.heap.size ≠ g1 := by omega
      have nn3 : g1 ≠ mb := fun e => by
        subst e
        exact (HALL.out.reqs.ne HALL.out.blk (by decide)) _ rfl rfl
      have nn4 : mb ≠ g1 := fun e => nn3 e.symm
      have hki : (k : Int) < (S.reqs.length : Int) := by omega
      have HU : Hid (RefG ((((((((((((wc.setCell ⟨g1, k * 10, none⟩ (.int .i64 r'.num)).setCell ⟨g1, k * 10 + 1, none⟩ (.bool r'.write)).setCell ⟨g1, k * 10 + 2, none⟩ (.int .i64 r'.page)).setCell ⟨g1, k * 10 + 3, none⟩ (.string r'.data)).setCell ⟨g1, k * 10 + 4, none⟩ (.int .i64 r'.state)).setCell ⟨g1, k * 10 + 5, none⟩ (.int .i64 r'.tries)).setCell ⟨g1, k * 10 + 6, none⟩ (.int .i64 r'.after)).setCell ⟨g1, k * 10 + 7, none⟩ (.bool r'.alone)).setCell ⟨g1, k * 10 + 8, none⟩ (.bool r'.inAir)).setCell ⟨g1, k * 10 + 9, none⟩ (.string r'.answer)).drew)) F G mb { S with disk := diskM S k fault, reqs := S.reqs.set k r' } ∧ Kept (fun k => F k ∧ ¬ G k) w ((((((((((((wc.setCell ⟨g1, k * 10, none⟩ (.int .i64 r'.num)).setCell ⟨g1, k * 10 + 1, none⟩ (.bool r'.write)).setCell ⟨g1, k * 10 + 2, none⟩ (.int .i64 r'.page)).setCell ⟨g1, k * 10 + 3, none⟩ (.string r'.data)).setCell ⟨g1, k * 10 + 4, none⟩ (.int .i64 r'.state)).setCell ⟨g1, k * 10 + 5, none⟩ (.int .i64 r'.tries)).setCell ⟨g1, k * 10 + 6, none⟩ (.int .i64 r'.after)).setCell ⟨g1, k * 10 + 7, none⟩ (.bool r'.alone)).setCell ⟨g1, k * 10 + 8, none⟩ (.bool r'.inAir)).setCell ⟨g1, k * 10 + 9, none⟩ (.string r'.answer)).drew))) := by
        have hE : ∀ j, Ext (fun k => F k ∧ ¬ G k) w (⟨g1, j, none⟩ : Addr).block := fun j => Or.inl ⟨hg1F, hg1G⟩
        refine ⟨RefG.drew ⟨_, _, _, _, _, _, _, _, HALL.out⟩, ?_⟩
        exact ((((((((((HM2.out.2.2.setCell (hE _) _).setCell (hE _) _).setCell (hE _) _).setCell (hE _) _).setCell (hE _) _).setCell (hE _) _).setCell (hE _) _).setCell (hE _) _).setCell (hE _) _).setCell (hE _) _).drew
      clear HALL HM2
      go_upto_region 21 with fail
      go_cut [7] from 8 (fun v wx => v = .pointer (some ⟨w.heap.size, 0, none⟩) ∧ Hid (RefG wx F G mb { S with disk := diskM S k fault, reqs := S.reqs.set k r' } ∧ Kept (fun k => F k ∧ ¬ G k) w wx))
      case first =>
        go_region_with (fail)
        all_goals go_wp2
        all_goals go_meet
        all_goals exact ⟨rfl, HU.out⟩
      case rest =>
        obtain ⟨rfl, HV⟩ := hcut
        clear HU m0 m1 m2 m3 m4 m5 m6 m7 m8 m9 y0 y1 y2 y3 y4 y5 y6 y7 y8 y9 z0 z1 z2 z3 z4 z5 z6 z7 z8 z9 d1 nn3 nn4
        cases ht : toldHas S.told num with
        | false =>
          have HTI : Hid (Calls Tryz.prog 112 #[.pointer (some ⟨mb, 0, none⟩), .int .i64 num] wc fun e w' => e = .returned (.bool false) ∧ w' = wc) := by
            have := ref_isTold _ F mb num wc HV.out.1.at_ htl
            rw [show toldHas ({ S with disk := diskM S k fault, reqs := S.reqs.set k r' } : St).told num = false from ht] at this
            exact this
          have HFIN : Hid (RefG wc (Foot F w wc) G mb (triedM S num fault) ∧ Kept (fun k => F k ∧ ¬ G k) w wc) := by
            rw [Hid, triedM_not HFIND.out ht, HGET.out, ← HTR.out]
            exact ⟨HV.out.1.wid Foot.of (Foot.lt HLT.out HV.out.2.size), HV.out.2⟩
          clear HV ht
          go_wp2_with fail
          refine HTI.out.mono ?_
          rintro e w2 ⟨rfl, hw2⟩
          have hw2 := hw2.symm
          subst hw2
          go_wp2
          go_end0
          exact ⟨rfl, HFIN.out.1, HFIN.out.2⟩
        | true =>
          have HTI : Hid (Calls Tryz.prog 112 #[.pointer (some ⟨mb, 0, none⟩), .int .i64 num] wc fun e w' => e = .returned (.bool true) ∧ w' = wc) := by
            have := ref_isTold _ F mb num wc HV.out.1.at_ htl
            rw [show toldHas ({ S with disk := diskM S k fault, reqs := S.reqs.set k r' } : St).told num = true from ht] at this
            exact this
          obtain ⟨i0, hi, hi0, hi1, hi2⟩ := info_parts info_int
          obtain ⟨ar3, cr3, at3, ct3, af3, cf3, ad3, cd3, hB3⟩ := HV.out.1
          have HB3 := hide hB3
          have HKV := hide HV.out.2
          have hml : mb < wc.heap.size := hB3.lt
          have HT := hide ht
          have d2 : wc.cell? ⟨mb, 2, none⟩ = some (.slice at3 S.told.length ct3) := hB3.c2
          have f2 := hB3.fz 2
          have HRT : Hid (Row wc F 3 1 at3 S.told.length ct3 (encI S.told)) := hB3.told
          have HDROP : Hid (∀ (wr : World) (ao : Option Addr) (n cap : Nat), Below wc.heap.size wc wr → Row wr (fun b => wc.heap.size ≤ b) 3 1 ao n cap (encI (untold S.told num)) → n = (untold S.told num).length → Calls Tryz.prog 109 #[.pointer (some ⟨mb, 0, none⟩), .int .i64 (k : Int)] (wr.setCell ⟨mb, 2, none⟩ (.slice ao n cap)) fun e w' => e = .returned (.tuple #[]) ∧ RefG w' (Foot F w w') G mb (triedM S num fault) ∧ Kept (fun k => F k ∧ ¬ G k) w w') := fun wr ao n cap hb hrow hn => by
            have hz2 : (wr.setCell ⟨mb, 2, none⟩ (.slice ao n cap)).heap.size = wr.heap.size := by simp [World.setCell]
            have hwc := HKV.out.size
            have h1 := HB3.out.setTold (F' := Foot F wc (wr.setCell ⟨mb, 2, none⟩ (.slice ao n cap))) (fun b hb' _ => hb.block b hb') hb.size Foot.of (fun b hb' => by rw [← hz2]; exact Foot.lt HB3.out.ltF (by rw [hz2]; exact hb.size) b hb') hn (hrow.wid_new hz2) (fun b hb' => Or.inr (hrow.2 b hb'))
            have hin : (({ S with disk := diskM S k fault, reqs := S.reqs.set k r', told := untold S.told num } : St).reqs.getD k Rq.zero).inAir = false := by
              show ((S.reqs.set k r').getD k Rq.zero).inAir = false
              rw [List.getD_eq_getElem?_getD, List.getElem?_set, if_pos rfl, if_pos hk]; exact hinair.out
            refine (ref_drop_G _ (Foot F wc (wr.setCell ⟨mb, 2, none⟩ (.slice ao n cap))) G mb k _ ⟨_, _, _, _, _, _, _, _, h1⟩ (by show (S.reqs.set k r').length ≤ _; rw [List.length_set]; exact hrl) (by show k < (S.reqs.set k r').length; rw [List.length_set]; exact hk) hin).mono ?_
            rintro e w4 ⟨rfl, hG4, hK4⟩
            have hz4 := hK4.size
            rw [hz2] at hz4
            have hz5 := hb.size
            refine ⟨rfl, ?_, ?_⟩
            · have e1 : triedM S num fault = { S with disk := diskM S k fault, told := untold S.told num, reqs := (S.reqs.set k r').eraseIdx k } := by rw [triedM_told HFIND.out HT.out, erase_set]
              rw [e1]
              refine hG4.wid (fun b hb' => ?_) (fun b hb' => ?_)
              · rcases hb' with (hb' | hb') | hb'
                · exact Or.inl hb'
                · exact Or.inr ⟨by omega, by rw [hz2] at hb'; omega⟩
                · rw [hz2] at hb'; exact Or.inr ⟨by omega, hb'.2⟩
              · rcases hb' with hb' | hb'
                · have := HLT.out b hb'; omega
                · exact hb'.2
            · have k1 : Kept (fun k => F k ∧ ¬ G k) w (wr.setCell ⟨mb, 2, none⟩ (.slice ao n cap)) := (HKV.out.below hb).setCell (p := ⟨mb, 2, none⟩) (Or.inl ⟨HB3.out.own, HB3.out.notMb⟩) _
              refine k1.trans (hK4.mono fun b _ hb' => ?_)
              rcases hb'.1 with e | e
              · exact Or.inl ⟨e, hb'.2⟩
              · exact Or.inr (by omega)
          clear hB3 HV ht
          generalize hT : S.told = T at *
          have HTT : Hid (S.told = T) := hT
          clear hT
          go_wp2_with fail
          refine HTI.out.mono ?_
          rintro e w2 ⟨rfl, hw2⟩
          have hw2 := hw2.symm
          subst hw2
          go_wp2
          go_loopw [11, 12] (fun l i wr => ∃ (j n cap : Nat) (ao : Option Addr), j ≤ T.length ∧ i = .int .i64 j ∧ l = .slice ao n cap ∧ n = (untold (T.take j) num).length ∧ Hid (Row wr (fun b => wc.heap.size ≤ b) 3 1 ao n cap (encI (untold (T.take j) num))) ∧ Hid (Below wc.heap.size wc wr)) (fun _ i _ => T.length - (intOf i).toNat)
          case atStart => exact ⟨0, 0, 0, none, Nat.zero_le _, rfl, rfl, rfl, Row.nil _ _ _ _, Below.refl _ _⟩
          case round =>
            obtain ⟨j, n, cap, ao, hj, rfl, rfl, hn, hrow, hb⟩ := hrel
            have HN : Hid (n = (untold (T.take j) num).length) := hn
            have hnl : n ≤ T.length := by rw [hn]; exact untold_le T num j
            clear hn
            have e2 : wr.frozen? ⟨mb, 2, none⟩ = false := (hb.out.frozen (p := ⟨mb, 2, none⟩) hml).trans f2
            have d3 : wr.cell? ⟨mb, 2, none⟩ = some (.slice at3 T.length ct3) := (hb.out.cell (p := ⟨mb, 2, none⟩) hml).trans d2
            by_cases hlt2 : j < T.length
            · obtain ⟨g3, cur3, hg3, _, hgb3, _, _⟩ := Row.some HRT.out (by omega)
              subst hg3
              obtain ⟨x, hx⟩ : ∃ x, x = T.getD j 0 := ⟨_, rfl⟩
              have ck : wr.cell? ⟨g3, j, none⟩ = some (.int .i64 x) := by
                rw [hb.out.cell (p := ⟨g3, j, none⟩) (lt_of_heap hgb3), Row.cellAt HRT.out j (by omega), hx]; simp [encI, hlt2]
              have hji : (j : Int) < (T.length : Int) := by omega
              by_cases he : x = num
              · have b1 : (x != num) = false := by simp [he]
                have HS : Hid (untold (T.take (j + 1)) num = untold (T.take j) num) := untold_no hlt2 (by rw [← hx]; exact he)
                clear he hx
                go_wp2
                go_roundw
                case rel => exact ⟨j + 1, n, cap, ao, by omega, by go_num, rfl, by rw [HS.out]; exact HN.out, by rw [HS.out]; exact hrow, hb⟩
                case measure => simp [intOf]; omega
              · have b1 : (x != num) = true := by simpa using he
                have HS : Hid (untold (T.take (j + 1)) num = untold (T.take j) num ++ [x]) := by rw [Hid, hx]; exact untold_yes hlt2 (by rw [← hx]; exact he)
                clear he hx
                have HO : Hid ((wr.alloc (.cells #[.int .i64 x] 3)).ownsRow 0 3 1 (.slice ao n cap) n (encI (untold (T.take j) num))) := (hrow.out.alloc _).1
                have HW : Hid (∀ (t : Nat) (u : Value), [Value.int .i64 x][t]? = some u → (wr.alloc (.cells #[.int .i64 x] 3)).cell? ((⟨wr.heap.size, 0, none⟩ : Addr).add t) = some u) := fun t u => news_new t u
                go_wp2_with (at_builtin; go_must (refine wpList_append_lies _ rfl (.tmp 114) (.tmp 122) 24 rfl 0 3 i0 (.int .i64 0) 1 8 Tryz.underlying24 hi hi0 hi1 hi2 rfl (by decide) (.slice ao n cap) n (encI (untold (T.take j) num)) rfl HO.out ⟨wr.heap.size, 0, none⟩ 1 1 [Value.int .i64 x] rfl rfl HW.out (by intro u hu; simp at hu; subst hu; rfl) (by decide) (by unfold maxLen; omega) (by omega) (Nat.zero_le _) (wr.heap.size + 1) (by simp) ?_; intro g cap' w2 hown hgrow hat hlt3; have HX := hide (own_rel hb.out hrow.out hgrow hown hat); clear hown hgrow hat hlt3))
                go_roundw
                case rel => exact ⟨j + 1, n + 1, cap', some ⟨g, 0, none⟩, by omega, by go_num, rfl, by rw [HS.out, List.length_append, HN.out]; rfl, by rw [HS.out]; simpa [Hid, encI] using HX.out.2, HX.out.1⟩
                case measure => simp [intOf]; omega
            · have hjt : T.take j = T := List.take_of_length_le (by omega)
              have HX := hide (HDROP.out wr ao n cap hb.out (by have := hrow.out; rw [hjt] at this; exact this) (by rw [HN.out, hjt]))
              clear hjt
              go_wp2_with fail
              refine HX.out.mono ?_
              rintro e w4 ⟨rfl, h1, h2⟩
              have HY := hide (And.intro h1 h2)
              clear h1 h2
              go_wp2
              go_end0
              exact ⟨rfl, HY.out.1, HY.out.2⟩
end Go.Proofs.YtiabdbeejkadnaaGreatDoor
