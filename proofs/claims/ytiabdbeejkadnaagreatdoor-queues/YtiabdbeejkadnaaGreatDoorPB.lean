/- The program's queue (stage 2's code): add, Read. Own work of the verifier. -/
import Derived.Test.YtiabdbeejkadnaaGreatDoorPA
namespace Go.Proofs.YtiabdbeejkadnaaGreatDoor
open Go.RowKit Go.Maps

theorem keyLit (n : Int) : WideAt.IsKeyLit (.int .i64 n) := trivial
theorem encE_congr {eb eb' : Int → Nat} {l : List Int} (h : ∀ n ∈ l, eb' n = eb n) : encE eb' l = encE eb l := by
  unfold encE
  exact List.map_congr_left fun n hn => by rw [h n hn]
theorem LPart.congr {w : World} {F : Nat → Prop} {eb eb' : Int → Nat} {fl : List Cmd} {af : Option Addr} {cf : Nat} {vs : List (Option Addr × Nat)} (h : LPart w F eb fl af cf vs) (he : ∀ n ∈ fl.flatMap (·.requests), eb' n = eb n) : LPart w F eb' fl af cf vs :=
  ⟨h.len, h.row, fun x hx => by rw [encE_congr (fun n hn => he n (List.mem_flatMap.2 ⟨x.1, (List.of_mem_zip hx).1, hn⟩))]; exact h.ins x hx⟩
theorem WfE.notTold {S : St} {E : List Int} (h : WfE S E) {n : Int} (hn : S.last < n) : toldHas S.told n = false := by
  cases ht : toldHas S.told n with
  | false => rfl
  | true =>
    obtain ⟨r, hr, e⟩ := h.toldIn n (by simpa [toldHas] using ht)
    have := (h.rq r hr).num
    omega

section
variable {w w2 : World} {F : Nat → Prop} {xb : Nat} {S : St} {E : List Int} {bm : Nat} {D : DataW Unit} {eb : Int → Nat} {c : Array Value} {af : Option Addr} {cf : Nat} {vs : List (Option Addr × Nat)}
theorem ProgBlk.added {e : Nat} {write : Bool} {page : Int} {data : ByteArray} {ds : List UInt8} (h : ProgBlk w F xb S E bm D eb c af cf vs)
    (hxb : w2.heap[xb]? = some (.cells (c.setIfInBounds 2 (.int .i64 (S.last + 1))) 78 (0, 0)))
    (hmap : w2.ownsMap Tryz.prog 3 ptrR bm (S.last.toNat + 1) (D.put (.int .i64 (S.last + 1)) (.lit (.int .i64 e))))
    (hent : w2.heap[e]? = some (.cells (entC ⟨S.last + 1, write, page, data, 0, 0, 0, false, false, ⟨#[]⟩⟩ ds) 95 (0, 0))) (hds : DataOk ⟨S.last + 1, write, page, data, 0, 0, 0, false, false, ⟨#[]⟩⟩ ds)
    (hs : ∀ k, k < w.heap.size → k ≠ xb → k ≠ bm → w2.heap[k]? = w.heap[k]?) (he : w.heap.size ≤ e) (hz : w.heap.size ≤ w2.heap.size) (hwf : WfE (askOk S write page data) E) :
    ProgBlk w2 (Foot F w w2) xb (askOk S write page data) E bm (D.put (.int .i64 (S.last + 1)) (.lit (.int .i64 e))) (fun k => if k = S.last + 1 then e else eb k) (c.setIfInBounds 2 (.int .i64 (S.last + 1))) af cf vs := by
  have hnot : findR S.reqs (S.last + 1) = none := findR_none_of (fun r hr => by have := (h.wf.rq r hr).num; omega)
  have hnhas : Maps.has D (.int .i64 (S.last + 1)) = false := by rw [h.m.has]; unfold heldB; rw [hnot]; rfl
  have hT : Tidy D := h.m.map.tidy keyLaw
  have hsz := h.q.size
  have hreqs : (askOk S write page data).reqs = S.reqs ++ [⟨S.last + 1, write, page, data, 0, 0, 0, false, false, ⟨#[]⟩⟩] := rfl
  have hold : ∀ r ∈ S.reqs, (if r.num = S.last + 1 then e else eb r.num) = eb r.num := fun r hr => by have := (h.wf.rq r hr).num; rw [if_neg (by omega)]
  have hlt : ∀ r ∈ S.reqs, eb r.num < w.heap.size := fun r hr => h.ltF _ (h.e.entF r hr)
  have hnt := h.wf.notTold (n := S.last + 1) (by omega)
  refine ⟨Or.inl h.own, hxb, ⟨by simpa using hsz, ?_, ?_, ?_, ?_, ?_, ?_, ?_⟩, Or.inl h.ownM, ⟨?_, ?_, ?_, ?_⟩, ⟨?_, ?_, ?_⟩, ?_, Foot.lt h.ltF hz, hwf⟩
  · rw [Array.getElem?_setIfInBounds, if_neg (by decide)]; exact h.q.c0
  · rw [Array.getElem?_setIfInBounds, if_neg (by decide)]; exact h.q.c1
  · rw [Array.getElem?_setIfInBounds, if_pos rfl, if_pos (by omega)]; rfl
  · rw [Array.getElem?_setIfInBounds, if_neg (by decide)]; exact h.q.c3
  · rw [Array.getElem?_setIfInBounds, if_neg (by decide)]; exact h.q.c4
  · rw [Array.getElem?_setIfInBounds, if_neg (by decide)]; exact h.q.c5
  · intro j hj
    rw [Array.getElem?_setIfInBounds, if_neg (by omega)]
    exact h.q.cd j hj
  · have e1 : (askOk S write page data).last.toNat = S.last.toNat + 1 := by have := h.wf.last; show (S.last + 1).toNat = _; omega
    rw [e1]; exact hmap
  · have e1 := size_put (k := Lit.int .i64 (S.last + 1)) (d := DataW.lit (.int .i64 (e : Int))) hT
    rw [hnhas] at e1
    rw [e1, hreqs, List.length_append, ← h.m.msize]
    show _ + S.told.length = _
    simp; omega
  · intro num
    unfold heldB
    rw [hreqs, findR_new]
    show _ = (_ && !toldHas S.told num)
    by_cases hn : num = S.last + 1
    · subst hn
      rw [has_put_same hT.isMap (keyLit _), hnt]; simp
    · have hne : (Lit.int .i64 num) ≠ .int .i64 (S.last + 1) := fun e => hn (by simpa using e)
      rw [has_put_other hne, h.m.has]
      have : ((S.last + 1 : Int) == num) = false := beq_eq_false_iff_ne.2 (fun e => hn e.symm)
      simp [this, heldB]
  · intro r hr ht
    rw [hreqs, List.mem_append, List.mem_singleton] at hr
    rcases hr with hr | rfl
    · have hne : (Lit.int .i64 r.num) ≠ .int .i64 (S.last + 1) := fun e => by have := (h.wf.rq r hr).num; simp at e; omega
      show (D.put _ _).atKey _ _ = .lit (.int .i64 ((if r.num = S.last + 1 then e else eb r.num : Nat) : Int))
      rw [atKey_put_other hne, hold r hr]; exact h.m.at_ r hr ht
    · show (D.put _ _).atKey (.int .i64 (S.last + 1)) _ = .lit (.int .i64 ((if S.last + 1 = S.last + 1 then e else eb (S.last + 1) : Nat) : Int))
      rw [atKey_put_same hT.isMap (keyLit _), if_pos rfl]
  · intro r hr
    rw [hreqs, List.mem_append, List.mem_singleton] at hr
    rcases hr with hr | rfl
    · show Foot F w w2 (if r.num = S.last + 1 then e else eb r.num)
      rw [hold r hr]; exact Or.inl (h.e.entF r hr)
    · show Foot F w w2 (if S.last + 1 = S.last + 1 then e else _)
      rw [if_pos rfl]; exact Or.inr ⟨he, lt_of_heap hent⟩
  · intro r hr
    rw [hreqs, List.mem_append, List.mem_singleton] at hr
    rcases hr with hr | rfl
    · obtain ⟨ds', h1, hh⟩ := h.e.ent r hr
      refine ⟨ds', h1, ?_⟩
      show w2.heap[(if r.num = S.last + 1 then e else eb r.num)]? = _
      rw [hold r hr, hs _ (lt_of_heap hh) (h.ebNe hr h.blk (by decide)) (fun e => h.bmNe hh e.symm)]
      exact hh
    · refine ⟨ds, hds, ?_⟩
      show w2.heap[(if S.last + 1 = S.last + 1 then e else eb (S.last + 1))]? = _
      rw [if_pos rfl]; exact hent
  · intro r hr r' hr'
    rw [hreqs, List.mem_append, List.mem_singleton] at hr hr'
    rcases hr with hr | rfl <;> rcases hr' with hr' | rfl
    · show (if r.num = S.last + 1 then e else eb r.num) = (if r'.num = S.last + 1 then e else eb r'.num) → _
      rw [hold r hr, hold r' hr']; exact h.e.inj r hr r' hr'
    · show (if r.num = S.last + 1 then e else eb r.num) = (if S.last + 1 = S.last + 1 then e else _) → _
      rw [hold r hr, if_pos rfl]; intro ee; have := hlt r hr; omega
    · show (if S.last + 1 = S.last + 1 then e else _) = (if r'.num = S.last + 1 then e else eb r'.num) → _
      rw [hold r' hr', if_pos rfl]; intro ee; have := hlt r' hr'; omega
    · intro _; rfl
  · refine ((h.l.same fun b cs t hb' ht hF => hs b (lt_of_heap hb') (fun e => ?_) (fun e => h.bmNe hb' e.symm)).mono (fun k hk => Or.inl hk)).congr (fun n hn => ?_)
    · subst e; rw [h.blk] at hb'; simp at hb'; rcases ht with rfl | rfl <;> exact absurd hb'.2 (by decide)
    · obtain ⟨r, hr, e'⟩ := h.wf.airIn n (List.mem_append_left _ hn)
      rw [← e']; exact hold r hr
end

set_option maxHeartbeats 1000000 in
theorem prog_add_full (S : St) (E : List Int) (F : Nat → Prop) (xb : Nat) (write : Bool) (page : Int) (d0 d1 d2 d3 : Value) (w : World) (h : ProgE w F xb S E) (hf : 40 ≤ (S.reqs.length : Int) - S.told.length) :
    Calls Tryz.prog 119 #[.pointer (some ⟨xb, 0, none⟩), .agg #[.int .i64 0, .int .i64 page, .bool write, d0, d1, d2, d3, .int .i64 0, .int .i64 0, .int .i64 0]] w fun e w' => e = .returned (.tuple #[.int .i64 0, .iface 55 (.int .i64 4)]) ∧ ProgE w' (Foot F w w') xb S E ∧ Kept F w w' := by
  have H : Hid (ProgE w F xb S E) := h
  clear h
  have hd : decide (40 ≤ (S.reqs.length : Int) - S.told.length) = true := by simpa using hf
  go_enter Tryz.func119, Tryz.ntmps119
  go_wp2_with fail
  refine (prog_full S E F xb _ (H.out.same (fun k _ hk => Below.heap_alloc w _ k hk) (by simp))).mono ?_
  rintro e w1 ⟨rfl, rfl⟩
  rw [hd]
  go_wp2
  go_ret2
  exact ⟨rfl, H.out.grow (alloc_below _ _), Kept.alloc (Kept.refl _ _) _⟩

set_option maxHeartbeats 1000000 in
set_option maxRecDepth 1000000 in
theorem prog_add (S : St) (E : List Int) (F : Nat → Prop) (xb : Nat) (write : Bool) (page : Int) (data : ByteArray) (ds : List UInt8) (w : World) (h : ProgE w F xb S E) (hf : ¬ 40 ≤ (S.reqs.length : Int) - S.told.length) (hl : S.last ≤ 1000000) (hds : DataOk ⟨S.last + 1, write, page, data, 0, 0, 0, false, false, ⟨#[]⟩⟩ ds) (hwf : WfE (askOk S write page data) E) (d0 d1 d2 d3 : Value) (h0 : d0 = u8 (ds.getD 0 0)) (h1 : d1 = u8 (ds.getD 1 0)) (h2 : d2 = u8 (ds.getD 2 0)) (h3 : d3 = u8 (ds.getD 3 0)) :
    Calls Tryz.prog 119 #[.pointer (some ⟨xb, 0, none⟩), .agg #[.int .i64 0, .int .i64 page, .bool write, d0, d1, d2, d3, .int .i64 0, .int .i64 0, .int .i64 0]] w fun e w' => e = .returned (.tuple #[.int .i64 (S.last + 1), .nilIface]) ∧ ProgE w' (Foot F w w') xb (askOk S write page data) E ∧ Kept F w w' := by
  have hd : decide (40 ≤ (S.reqs.length : Int) - S.told.length) = false := by simpa using hf
  have H0 : Hid (ProgE w F xb S E) := h
  obtain ⟨bm, D, eb, c, af, cf, vs, h⟩ := h
  have k2 := h.cell 2 _ h.q.c2
  have k3 := h.cell 3 _ h.q.c3
  have g2 := h.fz 2
  have hlt := h.lt
  have hla := h.wf.last
  have hmx : bm ≠ xb := h.bmNe h.blk
  have hml : bm < w.heap.size := h.m.map.lt
  have H : Hid (ProgBlk w F xb S E bm D eb c af cf vs) := h
  have HW : Hid (WfE (askOk S write page data) E) := hwf
  have HEc : Hid (entC ⟨S.last + 1, write, page, data, 0, 0, 0, false, false, ⟨#[]⟩⟩ ds = #[.int .i64 (S.last + 1), .int .i64 page, .bool write, d0, d1, d2, d3, .int .i64 0, .int .i64 0, .int .i64 0]) := by rw [h0, h1, h2, h3]; rfl
  have HDS := hide hds
  clear h hwf h0 h1 h2 h3 hds
  generalize hL : S.last = la at *
  have hL' : Hid (S.last = la) := hL
  clear hL
  go_enter Tryz.func119, Tryz.ntmps119
  go_wp2_with fail
  refine (prog_full S E F xb _ (H0.out.same (fun k _ hk => Below.heap_alloc w _ k hk) (by simp))).mono ?_
  rintro e w1 ⟨rfl, rfl⟩
  rw [hd]
  go_wp2
  have HE : Hid ((((w.setCell ⟨xb, 2, none⟩ (.int .i64 (la + 1))).alloc (.cells #[.int .i64 (la + 1), .int .i64 page, .bool write, d0, d1, d2, d3, .int .i64 0, .int .i64 0, .int .i64 0] 95))).heap[w.heap.size]? = some (.cells #[.int .i64 (la + 1), .int .i64 page, .bool write, d0, d1, d2, d3, .int .i64 0, .int .i64 0, .int .i64 0] 95 (0, 0))) := by
    have := heap_alloc_new (w.setCell ⟨xb, 2, none⟩ (.int .i64 (la + 1))) (.cells #[.int .i64 (la + 1), .int .i64 page, .bool write, d0, d1, d2, d3, .int .i64 0, .int .i64 0, .int .i64 0] 95)
    have e1 : (w.setCell ⟨xb, 2, none⟩ (.int .i64 (la + 1))).heap.size = w.heap.size := by simp [World.setCell]
    rw [e1] at this; exact this
  have HS : Hid (∀ k, k < w.heap.size → ((w.setCell ⟨xb, 2, none⟩ (.int .i64 (la + 1))).alloc (.cells #[.int .i64 (la + 1), .int .i64 page, .bool write, d0, d1, d2, d3, .int .i64 0, .int .i64 0, .int .i64 0] 95)).heap[k]? = (w.setCell ⟨xb, 2, none⟩ (.int .i64 (la + 1))).heap[k]?) := fun k hk => Below.heap_alloc _ _ _ (by simpa [World.setCell] using hk)
  have HZ : Hid (((w.setCell ⟨xb, 2, none⟩ (.int .i64 (la + 1))).alloc (.cells #[.int .i64 (la + 1), .int .i64 page, .bool write, d0, d1, d2, d3, .int .i64 0, .int .i64 0, .int .i64 0] 95)).heap.size = w.heap.size + 1) := by simp [Hid, World.setCell]
  have HK : Hid (Kept F w ((w.setCell ⟨xb, 2, none⟩ (.int .i64 (la + 1))).alloc (.cells #[.int .i64 (la + 1), .int .i64 page, .bool write, d0, d1, d2, d3, .int .i64 0, .int .i64 0, .int .i64 0] 95))) := ((Kept.refl _ _).setCell (p := ⟨xb, 2, none⟩) (Or.inl H.out.own) _).alloc _
  generalize (w.setCell ⟨xb, 2, none⟩ (.int .i64 (la + 1))).alloc (.cells #[.int .i64 (la + 1), .int .i64 page, .bool write, d0, d1, d2, d3, .int .i64 0, .int .i64 0, .int .i64 0] 95) = w1 at HE HS HK HZ ⊢
  have hb1 : w1.heap[bm]? = w.heap[bm]? := (HS.out bm hml).trans (Below.heap_setCell _ _ _ _ hmx)
  have hx1 : w1.heap[xb]? = some (.cells (c.setIfInBounds 2 (.int .i64 (la + 1))) 78 (0, 0)) := (HS.out xb hlt).trans (heap_setCell_at H.out.blk _)
  have hm1 : (w1.drew).ownsMap Tryz.prog 3 ptrR bm la.toNat D := by
    obtain ⟨es, ck, hb, r⟩ := H.out.m.map
    rw [hL'.out] at r
    exact ⟨es, ck, hb1.trans hb, r⟩
  obtain ⟨w2, hrun, hown2, hturn⟩ := hm1.store keyLaw Tryz.underlying72 (by unfold maxLen; omega) (keyOf_int_mk Tryz.underlying3 (WalkArith.wf_i64 (n := la + 1) (by omega))) (ptrR_mk w.heap.size)
  have hg2 := hturn.grown
  have m3 : w1.cell? ⟨xb, 3, none⟩ = some (.map (some bm)) := by
    have h3 := H.out.q.c3
    simp [World.cell?, hx1, h3]
  have m0 : w1.cell? ⟨w.heap.size, 0, none⟩ = some (.int .i64 (la + 1)) := by simp [World.cell?, HE.out]
  have hew : w2.heap[w.heap.size]? = w1.heap[w.heap.size]? := hg2.block w.heap.size (by show _ < w1.heap.size; rw [HZ.out]; omega) (by simp; omega)
  have n0 : w2.cell? ⟨w.heap.size, 0, none⟩ = some (.int .i64 (la + 1)) := (World.cell?_of_block (a := ⟨w.heap.size, 0, none⟩) hew).trans m0
  have HF : Hid (ProgE w2 (Foot F w w2) xb (askOk S write page data) E ∧ Kept F w w2) := by
    refine ⟨⟨bm, _, _, _, af, cf, vs, H.out.added (e := w.heap.size) (write := write) (page := page) (data := data) (ds := ds) ?_ ?_ ?_ (by rw [hL'.out]; exact HDS.out) ?_ (Nat.le_refl _) ?_ HW.out⟩, ?_⟩
    · rw [hL'.out]
      exact (hg2.block xb (by show _ < w1.heap.size; rw [HZ.out]; omega) (by simp; exact fun e => hmx e.symm)).trans hx1
    · rw [hL'.out]; exact hown2
    · rw [hL'.out, HEc.out]; exact hew.trans HE.out
    · intro k hk hkx hkm
      refine (hg2.block k (by show _ < w1.heap.size; rw [HZ.out]; omega) (by simp; exact hkm)).trans ?_
      exact (HS.out k hk).trans (Below.heap_setCell _ _ _ _ hkx)
    · have e1 : w1.heap.size ≤ w2.heap.size := hg2.size
      rw [HZ.out] at e1; omega
    · exact (HK.out.drew).grown hg2 (fun k hk => by cases hk; exact Or.inl H.out.ownM)
  clear hown2 hturn hg2 hm1 hb1 hx1 hew
  go_region
  all_goals go_wp2
  all_goals go_ret2
  all_goals exact ⟨rfl, HF.out⟩
end Go.Proofs.YtiabdbeejkadnaaGreatDoor
