import Derived.Test.YtiabdbeejkadnaaGreatDoorJ728bd4fd86
import Derived.Deep.RegionWith
/- The program's queue (stage 2's code): add, Read. Own work of the verifier. -/
namespace Go.Proofs.YtiabdbeejkadnaaGreatDoor
open Go.RowKit Go.Maps

theorem keyLit (n : Int) : WideAt.IsKeyLit (.int .i64 n) := trivial
theorem encE_congr {eb eb' : Int → Nat} {l : List Int} (h : ∀ n ∈ l, eb' n = eb n) : encE eb' l = encE eb l := by
  unfold encE
  exact List.map_congr_left fun n hn => by rw [h n hn]
theorem LPart.congr {w : World} {F : Nat → Prop} {eb eb' : Int → Nat} {fl : List Cmd} {af : Option Addr} {cf : Nat} {vs : List (Option Addr × Nat)} (h : LPart w F eb fl af cf vs) (he : ∀ n ∈ fl.flatMap (·.requests), eb' n = eb n) : LPart w F eb' fl af cf vs :=
  ⟨h.len, h.row, fun x hx => by rw [encE_congr (fun n hn => he n (List.mem_flatMap.2 ⟨x.1, (List.of_mem_zip hx).1, hn⟩))]; exact h.ins x hx⟩
theorem WfE.notTold {S : St} {E : List Int} (h : WfE S E) {n : Int} (hn : S.last < n) : toldHas S.told n = false := by
  cases ht : toldHas S.told n with
  | false => rfl
  | true =>
    obtain ⟨r, hr, e⟩ := h.toldIn n (by simpa [toldHas] using ht)
    have := (h.rq r hr).num
    omega

section
variable {w w2 : World} {F : Nat → Prop} {xb : Nat} {S : St} {E : List Int} {bm : Nat} {D : DataW Unit} {eb : Int → Nat} {c : Array Value} {af : Option Addr} {cf : Nat} {vs : List (Option Addr × Nat)}
theorem ProgBlk.added {e : Nat} {write : Bool} {page : Int} {data : ByteArray} {ds : List UInt8} (h : ProgBlk w F xb S E bm D eb c af cf vs)
    (hxb : w2.heap[xb]? = some (.cells (c.setIfInBounds 2 (.int .i64 (S.last + 1))) 78 (0, 0)))
    (hmap : w2.ownsMap Tryz.prog 3 ptrR bm (S.last.toNat + 1) (D.put (.int .i64 (S.last + 1)) (.lit (.int .i64 e))))
    (hent : w2.heap[e]? = some (.cells (entC ⟨S.last + 1, write, page, data, 0, 0, 0, false, false, ⟨#[]⟩⟩ ds) 95 (0, 0))) (hds : DataOk ⟨S.last + 1, write, page, data, 0, 0, 0, false, false, ⟨#[]⟩⟩ ds)
    (hs : ∀ k, k < w.heap.size → k ≠ xb → k ≠ bm → w2.heap[k]? = w.heap[k]?) (he : w.heap.size ≤ e) (hz : w.heap.size ≤ w2.heap.size) (hwf : WfE (askOk S write page data) E) :
    ProgBlk w2 (Foot F w w2) xb (askOk S write page data) E bm (D.put (.int .i64 (S.last + 1)) (.lit (.int .i64 e))) (fun k => if k = S.last + 1 then e else eb k) (c.setIfInBounds 2 (.int .i64 (S.last + 1))) af cf vs := by
  have hnot : findR S.reqs (S.last + 1) = none := findR_none_of (fun r hr => by have := (h.wf.rq r hr).num; omega)
  have hnhas : Maps.has D (.int .i64 (S.last + 1)) = false := by rw [h.m.has]; unfold heldB; rw [hnot]; rfl
  have hT : Tidy D := h.m.map.tidy keyLaw
  have hsz := h.q.size
  have hreqs : (askOk S write page data).reqs = S.reqs ++ [⟨S.last + 1, write, page, data, 0, 0, 0, false, false, ⟨#[]⟩⟩] := rfl
  have hold : ∀ r ∈ S.reqs, (if r.num = S.last + 1 then e else eb r.num) = eb r.num := fun r hr => by have := (h.wf.rq r hr).num; rw [if_neg (by omega)]
  have hlt : ∀ r ∈ S.reqs, eb r.num < w.heap.size := fun r hr => h.ltF _ (h.e.entF r hr)
  have hnt := h.wf.notTold (n := S.last + 1) (by omega)
  refine ⟨Or.inl h.own, hxb, ⟨by simpa using hsz, ?_, ?_, ?_, ?_, ?_, ?_, ?_⟩, Or.inl h.ownM, ⟨?_, ?_, ?_, ?_⟩, ⟨?_, ?_, ?_⟩, ?_, Foot.lt h.ltF hz, hwf⟩
  · rw [Array.getElem?_setIfInBounds, if_neg (by decide)]; exact h.q.c0
  · rw [Array.getElem?_setIfInBounds, if_neg (by decide)]; exact h.q.c1
  · rw [Array.getElem?_setIfInBounds, if_pos rfl, if_pos (by omega)]; rfl
  · rw [Array.getElem?_setIfInBounds, if_neg (by decide)]; exact h.q.c3
  · rw [Array.getElem?_setIfInBounds, if_neg (by decide)]; exact h.q.c4
  · rw [Array.getElem?_setIfInBounds, if_neg (by decide)]; exact h.q.c5
  · intro j hj
    rw [Array.getElem?_setIfInBounds, if_neg (by omega)]
    exact h.q.cd j hj
  · have e1 : (askOk S write page data).last.toNat = S.last.toNat + 1 := by have := h.wf.last; show (S.last + 1).toNat = _; omega
    rw [e1]; exact hmap
  · have e1 := size_put (k := Lit.int .i64 (S.last + 1)) (d := DataW.lit (.int .i64 (e : Int))) hT
    rw [hnhas] at e1
    rw [e1, hreqs, List.length_append, ← h.m.msize]
    show _ + S.told.length = _
    simp; omega
  · intro num
    unfold heldB
    rw [hreqs, findR_new]
    show _ = (_ && !toldHas S.told num)
    by_cases hn : num = S.last + 1
    · subst hn
      rw [has_put_same hT.isMap (keyLit _), hnt]; simp
    · have hne : (Lit.int .i64 num) ≠ .int .i64 (S.last + 1) := fun e => hn (by simpa using e)
      rw [has_put_other hne, h.m.has]
      have : ((S.last + 1 : Int) == num) = false := beq_eq_false_iff_ne.2 (fun e => hn e.symm)
      simp [this, heldB]
  · intro r hr ht
    rw [hreqs, List.mem_append, List.mem_singleton] at hr
    rcases hr with hr | rfl
    · have hne : (Lit.int .i64 r.num) ≠ .int .i64 (S.last + 1) := fun e => by have := (h.wf.rq r hr).num; simp at e; omega
      show (D.put _ _).atKey _ _ = .lit (.int .i64 ((if r.num = S.last + 1 then e else eb r.num : Nat) : Int))
      rw [atKey_put_other hne, hold r hr]; exact h.m.at_ r hr ht
    · show (D.put _ _).atKey (.int .i64 (S.last + 1)) _ = .lit (.int .i64 ((if S.last + 1 = S.last + 1 then e else eb (S.last + 1) : Nat) : Int))
      rw [atKey_put_same hT.isMap (keyLit _), if_pos rfl]
  · intro r hr
    rw [hreqs, List.mem_append, List.mem_singleton] at hr
    rcases hr with hr | rfl
    · show Foot F w w2 (if r.num = S.last + 1 then e else eb r.num)
      rw [hold r hr]; exact Or.inl (h.e.entF r hr)
    · show Foot F w w2 (if S.last + 1 = S.last + 1 then e else _)
      rw [if_pos rfl]; exact Or.inr ⟨he, lt_of_heap hent⟩
  · intro r hr
    rw [hreqs, List.mem_append, List.mem_singleton] at hr
    rcases hr with hr | rfl
    · obtain ⟨ds', h1, hh⟩ := h.e.ent r hr
      refine ⟨ds', h1, ?_⟩
      show w2.heap[(if r.num = S.last + 1 then e else eb r.num)]? = _
      rw [hold r hr, hs _ (lt_of_heap hh) (h.ebNe hr h.blk (by decide)) (fun e => h.bmNe hh e.symm)]
      exact hh
    · refine ⟨ds, hds, ?_⟩
      show w2.heap[(if S.last + 1 = S.last + 1 then e else eb (S.last + 1))]? = _
      rw [if_pos rfl]; exact hent
  · intro r hr r' hr'
    rw [hreqs, List.mem_append, List.mem_singleton] at hr hr'
    rcases hr with hr | rfl <;> rcases hr' with hr' | rfl
    · show (if r.num = S.last + 1 then e else eb r.num) = (if r'.num = S.last + 1 then e else eb r'.num) → _
      rw [hold r hr, hold r' hr']; exact h.e.inj r hr r' hr'
    · show (if r.num = S.last + 1 then e else eb r.num) = (if S.last + 1 = S.last + 1 then e else _) → _
      rw [hold r hr, if_pos rfl]; intro ee; have := hlt r hr; omega
    · show (if S.last + 1 = S.last + 1 then e else _) = (if r'.num = S.last + 1 then e else eb r'.num) → _
      rw [hold r' hr', if_pos rfl]; intro ee; have := hlt r' hr'; omega
    · intro _; rfl
  · refine ((h.l.same fun b cs t hb' ht hF => hs b (lt_of_heap hb') (fun e => ?_) (fun e => h.bmNe hb' e.symm)).mono (fun k hk => Or.inl hk)).congr (fun n hn => ?_)
    · subst e; rw [h.blk] at hb'; simp at hb'; rcases ht with rfl | rfl <;> exact absurd hb'.2 (by decide)
    · obtain ⟨r, hr, e'⟩ := h.wf.airIn n (List.mem_append_left _ hn)
      rw [← e']; exact hold r hr
end

set_option maxHeartbeats 1000000 in
theorem prog_add_full (S : St) (E : List Int) (F : Nat → Prop) (xb : Nat) (write : Bool) (page : Int) (d0 d1 d2 d3 : Value) (w : World) (h : ProgE w F xb S E) (hf : 40 ≤ (S.reqs.length : Int) - S.told.length) :
    Calls Tryz.prog 119 #[.pointer (some ⟨xb, 0, none⟩), .agg #[.int .i64 0, .int .i64 page, .bool write, d0, d1, d2, d3, .int .i64 0, .int .i64 0, .int .i64 0]] w fun e w' => e = .returned (.tuple #[.int .i64 0, .iface 55 (.int .i64 4)]) ∧ ProgE w' (Foot F w w') xb S E ∧ Kept F w w' := by
  have H : Hid (ProgE w F xb S E) := h
  clear h
  have hd : decide (40 ≤ (S.reqs.length : Int) - S.told.length) = true := by simpa using hf
  go_enter Tryz.func119, Tryz.ntmps119
  go_wp2_with fail
  refine (prog_full S E F xb _ (H.out.same (fun k _ hk => Below.heap_alloc w _ k hk) (by simp))).mono ?_
  rintro e w1 ⟨rfl, rfl⟩
  rw [hd]
  go_wp2
  go_ret2
  exact ⟨rfl, H.out.grow (alloc_below _ _), Kept.alloc (Kept.refl _ _) _⟩

set_option maxHeartbeats 1000000 in
set_option maxRecDepth 1000000 in
theorem prog_add (S : St) (E : List Int) (F : Nat → Prop) (xb : Nat) (write : Bool) (page : Int) (data : ByteArray) (ds : List UInt8) (w : World) (h : ProgE w F xb S E) (hf : ¬ 40 ≤ (S.reqs.length : Int) - S.told.length) (hl : S.last ≤ 1000000) (hds : DataOk ⟨S.last + 1, write, page, data, 0, 0, 0, false, false, ⟨#[]⟩⟩ ds) (hwf : WfE (askOk S write page data) E) (d0 d1 d2 d3 : Value) (h0 : d0 = u8 (ds.getD 0 0)) (h1 : d1 = u8 (ds.getD 1 0)) (h2 : d2 = u8 (ds.getD 2 0)) (h3 : d3 = u8 (ds.getD 3 0)) :
    Calls Tryz.prog 119 #[.pointer (some ⟨xb, 0, none⟩), .agg #[.int .i64 0, .int .i64 page, .bool write, d0, d1, d2, d3, .int .i64 0, .int .i64 0, .int .i64 0]] w fun e w' => e = .returned (.tuple #[.int .i64 (S.last + 1), .nilIface]) ∧ ProgE w' (Foot F w w') xb (askOk S write page data) E ∧ Kept F w w' := by
  have hd : decide (40 ≤ (S.reqs.length : Int) - S.told.length) = false := by simpa using hf
  have H0 : Hid (ProgE w F xb S E) := h
  obtain ⟨bm, D, eb, c, af, cf, vs, h⟩ := h
  have k2 := h.cell 2 _ h.q.c2
  have k3 := h.cell 3 _ h.q.c3
  have g2 := h.fz 2
  have hlt := h.lt
  have hla := h.wf.last
  have hmx : bm ≠ xb := h.bmNe h.blk
  have hml : bm < w.heap.size := h.m.map.lt
  have H : Hid (ProgBlk w F xb S E bm D eb c af cf vs) := h
  have HW : Hid (WfE (askOk S write page data) E) := hwf
  have HEc : Hid (entC ⟨S.last + 1, write, page, data, 0, 0, 0, false, false, ⟨#[]⟩⟩ ds = #[.int .i64 (S.last + 1), .int .i64 page, .bool write, d0, d1, d2, d3, .int .i64 0, .int .i64 0, .int .i64 0]) := by rw [h0, h1, h2, h3]; rfl
  have HDS := hide hds
  clear h hwf h0 h1 h2 h3 hds
  generalize hL : S.last = la at *
  have hL' : Hid (S.last = la) := hL
  clear hL
  go_enter Tryz.func119, Tryz.ntmps119
  go_wp2_with fail
  refine (prog_full S E F xb _ (H0.out.same (fun k _ hk => Below.heap_alloc w _ k hk) (by simp))).mono ?_
  rintro e w1 ⟨rfl, rfl⟩
  rw [hd]
  go_wp2
  have HE : Hid ((((w.setCell ⟨xb, 2, none⟩ (.int .i64 (la + 1))).alloc (.cells #[.int .i64 (la + 1), .int .i64 page, .bool write, d0, d1, d2, d3, .int .i64 0, .int .i64 0, .int .i64 0] 95))).heap[w.heap.size]? = some (.cells #[.int .i64 (la + 1), .int .i64 page, .bool write, d0, d1, d2, d3, .int .i64 0, .int .i64 0, .int .i64 0] 95 (0, 0))) := by
    have := heap_alloc_new (w.setCell ⟨xb, 2, none⟩ (.int .i64 (la + 1))) (.cells #[.int .i64 (la + 1), .int .i64 page, .bool write, d0, d1, d2, d3, .int .i64 0, .int .i64 0, .int .i64 0] 95)
    have e1 : (w.setCell ⟨xb, 2, none⟩ (.int .i64 (la + 1))).heap.size = w.heap.size := by simp [World.setCell]
    rw [e1] at this; exact this
  have HS : Hid (∀ k, k < w.heap.size → ((w.setCell ⟨xb, 2, none⟩ (.int .i64 (la + 1))).alloc (.cells #[.int .i64 (la + 1), .int .i64 page, .bool write, d0, d1, d2, d3, .int .i64 0, .int .i64 0, .int .i64 0] 95)).heap[k]? = (w.setCell ⟨xb, 2, none⟩ (.int .i64 (la + 1))).heap[k]?) := fun k hk => Below.heap_alloc _ _ _ (by simpa [World.setCell] using hk)
  have HZ : Hid (((w.setCell ⟨xb, 2, none⟩ (.int .i64 (la + 1))).alloc (.cells #[.int .i64 (la + 1), .int .i64 page, .bool write, d0, d1, d2, d3, .int .i64 0, .int .i64 0, .int .i64 0] 95)).heap.size = w.heap.size + 1) := by simp [Hid, World.setCell]
  have HK : Hid (Kept F w ((w.setCell ⟨xb, 2, none⟩ (.int .i64 (la + 1))).alloc (.cells #[.int .i64 (la + 1), .int .i64 page, .bool write, d0, d1, d2, d3, .int .i64 0, .int .i64 0, .int .i64 0] 95))) := ((Kept.refl _ _).setCell (p := ⟨xb, 2, none⟩) (Or.inl H.out.own) _).alloc _
  generalize (w.setCell ⟨xb, 2, none⟩ (.int .i64 (la + 1))).alloc (.cells #[.int .i64 (la + 1), .int .i64 page, .bool write, d0, d1, d2, d3, .int .i64 0, .int .i64 0, .int .i64 0] 95) = w1 at HE HS HK HZ ⊢
  have hb1 : w1.heap[bm]? = w.heap[bm]? := (HS.out bm hml).trans (Below.heap_setCell _ _ _ _ hmx)
  have hx1 : w1.heap[xb]? = some (.cells (c.setIfInBounds 2 (.int .i64 (la + 1))) 78 (0, 0)) := (HS.out xb hlt).trans (heap_setCell_at H.out.blk _)
  have hm1 : (w1.drew).ownsMap Tryz.prog 3 ptrR bm la.toNat D := by
    obtain ⟨es, ck, hb, r⟩ := H.out.m.map
    rw [hL'.out] at r
    exact ⟨es, ck, hb1.trans hb, r⟩
  obtain ⟨w2, hrun, hown2, hturn⟩ := hm1.store keyLaw Tryz.underlying72 (by unfold maxLen; omega) (keyOf_int_mk Tryz.underlying3 (WalkArith.wf_i64 (n := la + 1) (by omega))) (ptrR_mk w.heap.size)
  have hg2 := hturn.grown
  have m3 : w1.cell? ⟨xb, 3, none⟩ = some (.map (some bm)) := by
    have h3 := H.out.q.c3
    simp [World.cell?, hx1, h3]
  have m0 : w1.cell? ⟨w.heap.size, 0, none⟩ = some (.int .i64 (la + 1)) := by simp [World.cell?, HE.out]
  have hew : w2.heap[w.heap.size]? = w1.heap[w.heap.size]? := hg2.block w.heap.size (by show _ < w1.heap.size; rw [HZ.out]; omega) (by simp; omega)
  have n0 : w2.cell? ⟨w.heap.size, 0, none⟩ = some (.int .i64 (la + 1)) := (World.cell?_of_block (a := ⟨w.heap.size, 0, none⟩) hew).trans m0
  have HF : Hid (ProgE w2 (Foot F w w2) xb (askOk S write page data) E ∧ Kept F w w2) := by
    refine ⟨⟨bm, _, _, _, af, cf, vs, H.out.added (e := w.heap.size) (write := write) (page := page) (data := data) (ds := ds) ?_ ?_ ?_ (by rw [hL'.out]; exact HDS.out) ?_ (Nat.le_refl _) ?_ HW.out⟩, ?_⟩
    · rw [hL'.out]
      exact (hg2.block xb (by show _ < w1.heap.size; rw [HZ.out]; omega) (by simp; exact fun e => hmx e.symm)).trans hx1
    · rw [hL'.out]; exact hown2
    · rw [hL'.out, HEc.out]; exact hew.trans HE.out
    · intro k hk hkx hkm
      refine (hg2.block k (by show _ < w1.heap.size; rw [HZ.out]; omega) (by simp; exact hkm)).trans ?_
      exact (HS.out k hk).trans (Below.heap_setCell _ _ _ _ hkx)
    · have e1 : w1.heap.size ≤ w2.heap.size := hg2.size
      rw [HZ.out] at e1; omega
    · exact (HK.out.drew).grown hg2 (fun k hk => by cases hk; exact Or.inl H.out.ownM)
  clear hown2 hturn hg2 hm1 hb1 hx1 hew
  go_region
  all_goals go_wp2
  all_goals go_ret2
  all_goals exact ⟨rfl, HF.out⟩
end Go.Proofs.YtiabdbeejkadnaaGreatDoor

/- The program's queue (stage 2's code): Read; plain.Read. Own work of the verifier. -/
namespace Go.Proofs.YtiabdbeejkadnaaGreatDoor
open Go.RowKit Go.Maps

/-- the error that a kind is: none for 0 -/
def errOf (k : Int) : Value := if k = 0 then .nilIface else .iface 55 (.int .i64 k)
theorem errOf_zero : errOf 0 = .nilIface := rfl
theorem errOf_kind {k : Int} (h : k ≠ 0) : errOf k = .iface 55 (.int .i64 k) := by simp [errOf, h]
abbrev GCell (w : World) : Prop := w.cell? ⟨0, 0, none⟩ = some (.iface 212 (.agg #[.pointer (some ⟨1, 109, none⟩)]))
theorem GCell.below {w w' : World} (h : GCell w) (hb : Below w.heap.size w w') : GCell w' := (hb.cell (p := ⟨0, 0, none⟩) (lt_of_cell h)).trans h
theorem GCell.kept {F : Nat → Prop} {w w' : World} (h : GCell w) (hk : Kept F w w') (h0 : ¬ F 0) : GCell w' := (hk.cell (p := ⟨0, 0, none⟩) (lt_of_cell h) h0).trans h
theorem told_err (k : Int) (w : World) (hg : GCell w) : Calls Tryz.prog 51 #[errOf k] w fun e w' => e = .returned (.agg #[.int .i64 k, .int .i64 (-1), .int .i64 0, .bool true]) ∧ Below w.heap.size w w' := by
  by_cases h : k = 0
  · subst h; rw [errOf_zero]; exact told_nil w
  · rw [errOf_kind h]; exact told_kind k w hg

theorem askM_ok {S : St} {write : Bool} {page : Int} {data : ByteArray} (hp : ¬ (page < 0 ∨ 16 ≤ page)) (hd : ¬ (write = true ∧ data.size ≠ 4)) (hf : ¬ 40 ≤ (S.reqs.length : Int) - S.told.length) : askM S write page data = (S.last + 1, 0, askOk S write page data) := by
  unfold askM; rw [if_neg hp, if_neg hd, if_neg hf]

theorem prog_read (S : St) (F : Nat → Prop) (xb : Nat) (page : Int) (w : World) (h : ProgAt w F xb S) (hl : S.last ≤ 1000000) :
    Calls Tryz.prog 87 #[.pointer (some ⟨xb, 0, none⟩), .int .i64 page] w fun e w' => e = .returned (.tuple #[.int .i64 (askM S false page ⟨#[]⟩).1, errOf (askM S false page ⟨#[]⟩).2.1]) ∧ ProgAt w' (Foot F w w') xb (askM S false page ⟨#[]⟩).2.2 ∧ Kept F w w' := by
  have H : Hid (ProgAt w F xb S) := h
  have HWf : Hid (Wf S) := h.wf
  clear h
  by_cases hp : page < 0 ∨ 16 ≤ page
  · have e : askM S false page ⟨#[]⟩ = (0, 2, S) := by unfold askM; rw [if_pos hp]
    rw [e]
    go_enter Tryz.func87, Tryz.ntmps87
    go_wp2_with fail
    refine (onDisk_no page _ hp).mono ?_
    rintro e w1 ⟨rfl, rfl⟩
    go_wp2
    go_ret2
    exact ⟨rfl, H.out.grow (Below.refl _ _), Kept.refl _ _⟩
  · by_cases hf : 40 ≤ (S.reqs.length : Int) - S.told.length
    · have e : askM S false page ⟨#[]⟩ = (0, 4, S) := by unfold askM; rw [if_neg hp, if_neg (by simp), if_pos hf]
      rw [e]
      go_enter Tryz.func87, Tryz.ntmps87
      go_wp2_with fail
      refine (onDisk_yes page _ (fun e => hp (Or.inl e)) (fun e => hp (Or.inr e))).mono ?_
      rintro e w1 ⟨rfl, rfl⟩
      go_wp2_with fail
      refine (orEmpty_some _ _).mono ?_
      rintro e w2 ⟨rfl, rfl⟩
      go_wp2_with fail
      refine (prog_add_full S [] F xb false page (.int .u8 0) (.int .u8 0) (.int .u8 0) (.int .u8 0) _ H.out hf).mono ?_
      rintro e w3 ⟨rfl, hR⟩
      have HR := hide hR
      clear hR
      go_wp2
      go_ret2
      exact ⟨rfl, HR.out⟩
    · have e : askM S false page ⟨#[]⟩ = (S.last + 1, 0, askOk S false page ⟨#[]⟩) := askM_ok hp (by simp) hf
      rw [e]
      go_enter Tryz.func87, Tryz.ntmps87
      go_wp2_with fail
      refine (onDisk_yes page _ (fun e => hp (Or.inl e)) (fun e => hp (Or.inr e))).mono ?_
      rintro e w1 ⟨rfl, rfl⟩
      go_wp2_with fail
      refine (orEmpty_some _ _).mono ?_
      rintro e w2 ⟨rfl, rfl⟩
      go_wp2_with fail
      refine (prog_add S [] F xb false page ⟨#[]⟩ [0, 0, 0, 0] _ H.out (by omega) hl ⟨rfl, (fun e => by cases e), fun _ e => (by cases e)⟩ (HWf.out.ask (by omega) false page _ (by omega) (fun e => by cases e)) (.int .u8 0) (.int .u8 0) (.int .u8 0) (.int .u8 0) rfl rfl rfl rfl).mono ?_
      rintro e w3 ⟨rfl, hR⟩
      have HR := hide hR
      clear hR
      go_wp2
      go_ret2
      exact ⟨rfl, HR.out⟩

/-- the four cells of a plain.Error that lie in a block of one's own -/
theorem err_cells {w w1 : World} {F : Nat → Prop} (hk : Kept F (w.alloc (.cells #[.int .i64 0, .int .i64 0, .int .i64 0, .bool false] 57)) w1) (h0 : ¬ F w.heap.size) :
    (w1.cell? ⟨w.heap.size, 0, none⟩ = some (.int .i64 0) ∧ w1.cell? ⟨w.heap.size, 1, none⟩ = some (.int .i64 0) ∧ w1.cell? ⟨w.heap.size, 2, none⟩ = some (.int .i64 0) ∧ w1.cell? ⟨w.heap.size, 3, none⟩ = some (.bool false)) ∧
    (w1.frozen? ⟨w.heap.size, 0, none⟩ = false ∧ w1.frozen? ⟨w.heap.size, 1, none⟩ = false ∧ w1.frozen? ⟨w.heap.size, 2, none⟩ = false ∧ w1.frozen? ⟨w.heap.size, 3, none⟩ = false) := by
  refine ⟨⟨?_, ?_, ?_, ?_⟩, ?_, ?_, ?_, ?_⟩
  · rw [hk.cell (p := ⟨w.heap.size, 0, none⟩) (by simp) h0]; simp
  · rw [hk.cell (p := ⟨w.heap.size, 1, none⟩) (by simp) h0]; simp
  · rw [hk.cell (p := ⟨w.heap.size, 2, none⟩) (by simp) h0]; simp
  · rw [hk.cell (p := ⟨w.heap.size, 3, none⟩) (by simp) h0]; simp
  · rw [hk.frozen (p := ⟨w.heap.size, 0, none⟩) (by simp) h0]; simp
  · rw [hk.frozen (p := ⟨w.heap.size, 1, none⟩) (by simp) h0]; simp
  · rw [hk.frozen (p := ⟨w.heap.size, 2, none⟩) (by simp) h0]; simp
  · rw [hk.frozen (p := ⟨w.heap.size, 3, none⟩) (by simp) h0]; simp
/-- the end of a wrapper: the answer's block is the wrapper's own -/
theorem plain_fin {w w1 w2 : World} {F : Nat → Prop} {xb : Nat} {S' : St} {o : Obj} (v0 v1 v2 v3 : Value) (HP : ProgAt w1 (Foot F (w.alloc o) w1) xb S') (HK : Kept F (w.alloc o) w1) (hb : Below w1.heap.size w1 w2) (hF : ∀ k, F k → k < w.heap.size) :
    ProgAt ((((w2.setCell ⟨w.heap.size, 0, none⟩ v0).setCell ⟨w.heap.size, 1, none⟩ v1).setCell ⟨w.heap.size, 2, none⟩ v2).setCell ⟨w.heap.size, 3, none⟩ v3) (Foot F w ((((w2.setCell ⟨w.heap.size, 0, none⟩ v0).setCell ⟨w.heap.size, 1, none⟩ v1).setCell ⟨w.heap.size, 2, none⟩ v2).setCell ⟨w.heap.size, 3, none⟩ v3)) xb S' ∧
    Kept F w ((((w2.setCell ⟨w.heap.size, 0, none⟩ v0).setCell ⟨w.heap.size, 1, none⟩ v1).setCell ⟨w.heap.size, 2, none⟩ v2).setCell ⟨w.heap.size, 3, none⟩ v3) := by
  have hz1 : w.heap.size + 1 ≤ w1.heap.size := by have := HK.size; simpa using this
  have hz2 := hb.size
  have hz4 : ((((w2.setCell ⟨w.heap.size, 0, none⟩ v0).setCell ⟨w.heap.size, 1, none⟩ v1).setCell ⟨w.heap.size, 2, none⟩ v2).setCell ⟨w.heap.size, 3, none⟩ v3).heap.size = w2.heap.size := by simp [World.setCell]
  refine ⟨(HP.same (fun k hk hlt => ?_) (by rw [hz4]; exact hz2)).wid (fun k hk => ?_) (Foot.lt hF (by rw [hz4]; omega)), ?_⟩
  · have hne : k ≠ w.heap.size := fun e => by
      rcases hk with hk | hk
      · have := hF k hk; omega
      · have := hk.1; simp at this; omega
    rw [Below.heap_setCell _ _ _ _ hne, Below.heap_setCell _ _ _ _ hne, Below.heap_setCell _ _ _ _ hne, Below.heap_setCell _ _ _ _ hne]
    exact hb.block k hlt
  · rcases hk with hk | hk
    · exact Or.inl hk
    · refine Or.inr ⟨?_, by rw [hz4]; omega⟩
      have := hk.1; simp at this; omega
  · exact (((((((Kept.refl F w).alloc o).then HK).below hb).setCell (p := ⟨w.heap.size, 0, none⟩) (Or.inr (Nat.le_refl _)) _).setCell (p := ⟨w.heap.size, 1, none⟩) (Or.inr (Nat.le_refl _)) _).setCell (p := ⟨w.heap.size, 2, none⟩) (Or.inr (Nat.le_refl _)) _).setCell (p := ⟨w.heap.size, 3, none⟩) (Or.inr (Nat.le_refl _)) _

set_option maxHeartbeats 1000000 in
theorem plain_read (S : St) (F : Nat → Prop) (xb : Nat) (page : Int) (w : World) (h : ProgAt w F xb S) (hg : GCell w) (h0 : ¬ F 0) (hl : S.last ≤ 1000000) :
    Calls Tryz.prog 53 #[.pointer (some ⟨xb, 0, none⟩), .int .i64 page] w fun e w' => e = .returned (.tuple #[.int .i64 (askM S false page ⟨#[]⟩).1, .agg #[.int .i64 (askM S false page ⟨#[]⟩).2.1, .int .i64 (-1), .int .i64 0, .bool true]]) ∧ ProgAt w' (Foot F w w') xb (askM S false page ⟨#[]⟩).2.2 ∧ Kept F w w' := by
  have H : Hid (ProgAt w F xb S) := h
  have hF := h.lt
  have hnF : ¬ F w.heap.size := fun e => by have := hF _ e; omega
  have HF : Hid (∀ k, F k → k < w.heap.size) := hF
  have HG : Hid (GCell w) := hg
  clear h hF hg
  generalize hA : askM S false page ⟨#[]⟩ = r
  obtain ⟨n, k, S'⟩ := r
  have HA : Hid (askM S false page ⟨#[]⟩ = (n, k, S')) := hA
  clear hA
  go_enter Tryz.func53, Tryz.ntmps53
  go_wp2_with fail
  refine (prog_read S F xb page _ (H.out.same (fun k _ hk => Below.heap_alloc w _ k hk) (by simp)) hl).mono ?_
  rintro e w1 ⟨rfl, hP, hK⟩
  rw [HA.out] at hP ⊢
  have HP : Hid (ProgAt w1 (Foot F (w.alloc (.cells #[.int .i64 0, .int .i64 0, .int .i64 0, .bool false] 57)) w1) xb S') := hP
  have HK : Hid (Kept F (w.alloc (.cells #[.int .i64 0, .int .i64 0, .int .i64 0, .bool false] 57)) w1) := hK
  have hg1 : GCell w1 := (HG.out.below (alloc_below _ _)).kept hK h0
  have hz1 : w.heap.size < w1.heap.size := by have := hK.size; simp at this; omega
  obtain ⟨⟨a0, a1, a2, a3⟩, b0, b1, b2, b3⟩ := err_cells hK hnF
  clear hP hK
  go_wp2_with fail
  refine (told_err k _ hg1).mono ?_
  rintro e w2 ⟨rfl, hb⟩
  have a0' := (hb.cell (p := ⟨w.heap.size, 0, none⟩) hz1).trans a0
  have a1' := (hb.cell (p := ⟨w.heap.size, 1, none⟩) hz1).trans a1
  have a2' := (hb.cell (p := ⟨w.heap.size, 2, none⟩) hz1).trans a2
  have a3' := (hb.cell (p := ⟨w.heap.size, 3, none⟩) hz1).trans a3
  have b0' := (hb.frozen (p := ⟨w.heap.size, 0, none⟩) hz1).trans b0
  have b1' := (hb.frozen (p := ⟨w.heap.size, 1, none⟩) hz1).trans b1
  have b2' := (hb.frozen (p := ⟨w.heap.size, 2, none⟩) hz1).trans b2
  have b3' := (hb.frozen (p := ⟨w.heap.size, 3, none⟩) hz1).trans b3
  have HB := hide hb
  clear hb a0 a1 a2 a3 b0 b1 b2 b3
  go_wp2
  exact bodyPost_ret (v := .tuple #[.int .i64 n, .agg #[.int .i64 k, .int .i64 (-1), .int .i64 0, .bool true]]) (by simp [results, Tryz.results53, go_sem, a0', a1', a2', a3']) rfl ⟨rfl, plain_fin _ _ _ _ HP.out HK.out HB.out HF.out⟩
end Go.Proofs.YtiabdbeejkadnaaGreatDoor

/- The program's queue (stage 2's code): Write. Own work of the verifier. -/
namespace Go.Proofs.YtiabdbeejkadnaaGreatDoor
open Go.RowKit Go.Maps

/-- a write's request with its bytes laid in -/
theorem copy_entry (w : World) (page : Int) (bb cap : Nat) (v0 v1 v2 v3 : Int) (q0 : w.cell? ⟨bb, 0, none⟩ = some (.int .u8 v0)) (q1 : w.cell? ⟨bb, 1, none⟩ = some (.int .u8 v1)) (q2 : w.cell? ⟨bb, 2, none⟩ = some (.int .u8 v2)) (q3 : w.cell? ⟨bb, 3, none⟩ = some (.int .u8 v3)) :
    ∃ w2, (Builtin.copy_ #[86, 86] 3 #[.slice (some ⟨w.heap.size, 3, none⟩) 4 4, .slice (some ⟨bb, 0, none⟩) 4 cap]).run Tryz.prog (w.alloc (.cells #[.int .i64 0, .int .i64 page, .bool true, .int .u8 0, .int .u8 0, .int .u8 0, .int .u8 0, .int .i64 0, .int .i64 0, .int .i64 0] 95)) = .ok (.int .i64 4) w2 ∧
      w2.heap[w.heap.size]? = some (.cells #[.int .i64 0, .int .i64 page, .bool true, .int .u8 v0, .int .u8 v1, .int .u8 v2, .int .u8 v3, .int .i64 0, .int .i64 0, .int .i64 0] 95 (0, 0)) ∧ Below w.heap.size w w2 ∧ w.heap.size < w2.heap.size := by
  have hbl := lt_of_cell q0
  have hr := run_copy_row (P := Tryz.prog) (w.alloc (.cells #[.int .i64 0, .int .i64 page, .bool true, .int .u8 0, .int .u8 0, .int .u8 0, .int .u8 0, .int .i64 0, .int .i64 0, .int .i64 0] 95)) 86 86 3 5 w.heap.size 3 4 4 ⟨bb, 0, none⟩ 4 cap
    #[.int .i64 0, .int .i64 page, .bool true, .int .u8 0, .int .u8 0, .int .u8 0, .int .u8 0, .int .i64 0, .int .i64 0, .int .i64 0] 95 [.int .u8 v0, .int .u8 v1, .int .u8 v2, .int .u8 v3] Tryz.underlying86 (by kernel_rfl) (heap_alloc_new w _) rfl (fun j v hj => ?_) (by simp) (fun v hv => ?_)
  · refine ⟨_, hr, ?_, ?_, ?_⟩
    · rw [setRow_heap _ _ _ _ _ _ (heap_alloc_new w _)]; rfl
    · refine ⟨rfl, rfl, rfl, by simp, fun k hk => ?_⟩
      rw [setRow_other _ _ _ _ (by omega)]
      exact Below.heap_alloc _ _ _ hk
    · simp
  · rw [Addr.add_lit, Nat.zero_add, World.cell?_alloc_lt _ _ ⟨bb, j, none⟩ hbl]
    match j, hj with
    | 0, hj => simp at hj; subst hj; exact q0
    | 1, hj => simp at hj; subst hj; exact q1
    | 2, hj => simp at hj; subst hj; exact q2
    | 3, hj => simp at hj; subst hj; exact q3
    | j + 4, hj => simp at hj
  · simp at hv
    rcases hv with rfl | rfl | rfl | rfl <;> rfl

theorem foot_mid {w w2 w' : World} {F : Nat → Prop} {xb : Nat} {S : St} (hb : Below w.heap.size w w2) (hF : ∀ k, F k → k < w.heap.size) (h : ProgAt w' (Foot F w2 w') xb S ∧ Kept F w2 w') : ProgAt w' (Foot F w w') xb S ∧ Kept F w w' :=
  ⟨h.1.wid (fun k hk => Foot.mid hb.size k hk) (Foot.lt hF (Nat.le_trans hb.size h.2.size)), (Go.Proofs.YtiabdbeejkadnaaGreatDoor.Below.kept hb F).then h.2⟩

set_option maxHeartbeats 1000000 in
set_option maxRecDepth 1000000 in
theorem prog_write_ok (S : St) (F : Nat → Prop) (xb bb cap : Nat) (page : Int) (data : ByteArray) (v0 v1 v2 v3 : Int) (w : World) (h : ProgAt w F xb S) (hl : S.last ≤ 1000000) (hp0 : ¬ page < 0) (hp1 : ¬ 16 ≤ page)
    (q0 : w.cell? ⟨bb, 0, none⟩ = some (.int .u8 v0)) (q1 : w.cell? ⟨bb, 1, none⟩ = some (.int .u8 v1)) (q2 : w.cell? ⟨bb, 2, none⟩ = some (.int .u8 v2)) (q3 : w.cell? ⟨bb, 3, none⟩ = some (.int .u8 v3)) (hf : ¬ 40 ≤ (S.reqs.length : Int) - S.told.length) (hd4 : data.size = 4) (e0 : .int .u8 v0 = u8 (data.data.toList.getD 0 0)) (e1 : .int .u8 v1 = u8 (data.data.toList.getD 1 0)) (e2 : .int .u8 v2 = u8 (data.data.toList.getD 2 0)) (e3 : .int .u8 v3 = u8 (data.data.toList.getD 3 0)) :
    Calls Tryz.prog 86 #[.pointer (some ⟨xb, 0, none⟩), .int .i64 page, .slice (some ⟨bb, 0, none⟩) 4 cap] w fun e w' => e = .returned (.tuple #[.int .i64 (S.last + 1), .nilIface]) ∧ ProgAt w' (Foot F w w') xb (askOk S true page data) ∧ Kept F w w' := by
  have H : Hid (ProgAt w F xb S) := h
  have HD : Hid (DataOk ⟨S.last + 1, true, page, data, 0, 0, 0, false, false, ⟨#[]⟩⟩ data.data.toList) := ⟨by rw [Array.length_toList]; exact hd4, fun _ => rfl, fun e => by cases e⟩
  have HW : Hid (Wf (askOk S true page data)) := h.wf.ask hf true page data (by omega) (fun _ => hd4)
  have E0 := hide e0
  have E1 := hide e1
  have E2 := hide e2
  have E3 := hide e3
  clear e0 e1 e2 e3
  have hbl := lt_of_cell q0
  clear h
  go_enter Tryz.func86, Tryz.ntmps86
  go_wp2_with fail
  refine (onDisk_yes page _ (by omega) (by omega)).mono ?_
  rintro e w1 ⟨rfl, rfl⟩
  obtain ⟨w2, hcp, he, hb, hz⟩ := copy_entry w1 page bb cap v0 v1 v2 v3 q0 q1 q2 q3
  have n0 : w2.cell? ⟨w1.heap.size, 0, none⟩ = some (.int .i64 0) := by simp [World.cell?, he]
  have n1 : w2.cell? ⟨w1.heap.size, 1, none⟩ = some (.int .i64 page) := by simp [World.cell?, he]
  have n2 : w2.cell? ⟨w1.heap.size, 2, none⟩ = some (.bool true) := by simp [World.cell?, he]
  have n3 : w2.cell? ⟨w1.heap.size, 3, none⟩ = some (.int .u8 v0) := by simp [World.cell?, he]
  have n4 : w2.cell? ⟨w1.heap.size, 4, none⟩ = some (.int .u8 v1) := by simp [World.cell?, he]
  have n5 : w2.cell? ⟨w1.heap.size, 5, none⟩ = some (.int .u8 v2) := by simp [World.cell?, he]
  have n6 : w2.cell? ⟨w1.heap.size, 6, none⟩ = some (.int .u8 v3) := by simp [World.cell?, he]
  have n7 : w2.cell? ⟨w1.heap.size, 7, none⟩ = some (.int .i64 0) := by simp [World.cell?, he]
  have n8 : w2.cell? ⟨w1.heap.size, 8, none⟩ = some (.int .i64 0) := by simp [World.cell?, he]
  have n9 : w2.cell? ⟨w1.heap.size, 9, none⟩ = some (.int .i64 0) := by simp [World.cell?, he]
  have HB := hide hb
  have H2 : Hid (ProgAt w2 F xb S) := H.out.same (fun k _ hk => hb.block k hk) hb.size
  have HL : Hid (∀ k, F k → k < w1.heap.size) := H.out.lt
  clear hb he
  go_wp2
  go_region_with (first
    | (go_at_call 30; refine (orEmpty_some _ _).mono ?_; rintro e w' ⟨rfl, rfl⟩)
    | (go_at_call 119; refine (prog_add S [] F xb true page data data.data.toList _ ?_ ?_ hl HD.out HW.out (.int .u8 v0) (.int .u8 v1) (.int .u8 v2) (.int .u8 v3) E0.out E1.out E2.out E3.out).mono ?_; exact H2.out.same (fun _ _ _ => rfl) (Nat.le_refl _); omega; rintro e w' ⟨rfl, hR⟩; have HR := hide hR; clear hR))
  all_goals (try go_wp2)
  all_goals go_ret2
  all_goals exact ⟨rfl, foot_mid HB.out.drew HL.out HR.out⟩

set_option maxHeartbeats 1000000 in
set_option maxRecDepth 1000000 in
theorem prog_write_full (S : St) (F : Nat → Prop) (xb bb cap : Nat) (page : Int) (v0 v1 v2 v3 : Int) (w : World) (h : ProgAt w F xb S) (hp0 : ¬ page < 0) (hp1 : ¬ 16 ≤ page)
    (q0 : w.cell? ⟨bb, 0, none⟩ = some (.int .u8 v0)) (q1 : w.cell? ⟨bb, 1, none⟩ = some (.int .u8 v1)) (q2 : w.cell? ⟨bb, 2, none⟩ = some (.int .u8 v2)) (q3 : w.cell? ⟨bb, 3, none⟩ = some (.int .u8 v3)) (hf : 40 ≤ (S.reqs.length : Int) - S.told.length) :
    Calls Tryz.prog 86 #[.pointer (some ⟨xb, 0, none⟩), .int .i64 page, .slice (some ⟨bb, 0, none⟩) 4 cap] w fun e w' => e = .returned (.tuple #[.int .i64 0, .iface 55 (.int .i64 4)]) ∧ ProgAt w' (Foot F w w') xb S ∧ Kept F w w' := by
  have H : Hid (ProgAt w F xb S) := h
  have hbl := lt_of_cell q0
  clear h
  go_enter Tryz.func86, Tryz.ntmps86
  go_wp2_with fail
  refine (onDisk_yes page _ (by omega) (by omega)).mono ?_
  rintro e w1 ⟨rfl, rfl⟩
  obtain ⟨w2, hcp, he, hb, hz⟩ := copy_entry w1 page bb cap v0 v1 v2 v3 q0 q1 q2 q3
  have n0 : w2.cell? ⟨w1.heap.size, 0, none⟩ = some (.int .i64 0) := by simp [World.cell?, he]
  have n1 : w2.cell? ⟨w1.heap.size, 1, none⟩ = some (.int .i64 page) := by simp [World.cell?, he]
  have n2 : w2.cell? ⟨w1.heap.size, 2, none⟩ = some (.bool true) := by simp [World.cell?, he]
  have n3 : w2.cell? ⟨w1.heap.size, 3, none⟩ = some (.int .u8 v0) := by simp [World.cell?, he]
  have n4 : w2.cell? ⟨w1.heap.size, 4, none⟩ = some (.int .u8 v1) := by simp [World.cell?, he]
  have n5 : w2.cell? ⟨w1.heap.size, 5, none⟩ = some (.int .u8 v2) := by simp [World.cell?, he]
  have n6 : w2.cell? ⟨w1.heap.size, 6, none⟩ = some (.int .u8 v3) := by simp [World.cell?, he]
  have n7 : w2.cell? ⟨w1.heap.size, 7, none⟩ = some (.int .i64 0) := by simp [World.cell?, he]
  have n8 : w2.cell? ⟨w1.heap.size, 8, none⟩ = some (.int .i64 0) := by simp [World.cell?, he]
  have n9 : w2.cell? ⟨w1.heap.size, 9, none⟩ = some (.int .i64 0) := by simp [World.cell?, he]
  have HB := hide hb
  have H2 : Hid (ProgAt w2 F xb S) := H.out.same (fun k _ hk => hb.block k hk) hb.size
  have HL : Hid (∀ k, F k → k < w1.heap.size) := H.out.lt
  clear hb he
  go_wp2
  go_region_with (first
    | (go_at_call 30; refine (orEmpty_some _ _).mono ?_; rintro e w' ⟨rfl, rfl⟩)
    | (go_at_call 119; refine (prog_add_full S [] F xb true page (.int .u8 v0) (.int .u8 v1) (.int .u8 v2) (.int .u8 v3) _ ?_ hf).mono ?_; exact H2.out.same (fun _ _ _ => rfl) (Nat.le_refl _); rintro e w' ⟨rfl, hR⟩; have HR := hide hR; clear hR))
  all_goals (try go_wp2)
  all_goals go_ret2
  all_goals exact ⟨rfl, foot_mid HB.out.drew HL.out HR.out⟩

/-- Write, whole: the data are the n bytes at the head of block bb -/
theorem prog_write (S : St) (F : Nat → Prop) (xb bb cap : Nat) (page : Int) (data : ByteArray) (w : World) (h : ProgAt w F xb S) (hl : S.last ≤ 1000000) (_hds : data.size ≤ 1000000)
    (hc : ∀ j, j < data.size → w.cell? ⟨bb, j, none⟩ = some (u8 (data.data.toList.getD j 0))) :
    Calls Tryz.prog 86 #[.pointer (some ⟨xb, 0, none⟩), .int .i64 page, .slice (some ⟨bb, 0, none⟩) data.size cap] w fun e w' => e = .returned (.tuple #[.int .i64 (askM S true page data).1, errOf (askM S true page data).2.1]) ∧ ProgAt w' (Foot F w w') xb (askM S true page data).2.2 ∧ Kept F w w' := by
  by_cases hp : page < 0 ∨ 16 ≤ page
  · have e : askM S true page data = (0, 2, S) := by unfold askM; rw [if_pos hp]
    rw [e]
    have H : Hid (ProgAt w F xb S) := h
    clear h hc e
    go_enter Tryz.func86, Tryz.ntmps86
    go_wp2_with fail
    refine (onDisk_no page _ hp).mono ?_
    rintro e w1 ⟨rfl, rfl⟩
    go_wp2
    go_ret2
    exact ⟨rfl, H.out.grow (Below.refl _ _), Kept.refl _ _⟩
  · have hp0 : ¬ page < 0 := fun e => hp (Or.inl e)
    have hp1 : ¬ 16 ≤ page := fun e => hp (Or.inr e)
    by_cases hd : data.size = 4
    · have q0 := hc 0 (by omega)
      have q1 := hc 1 (by omega)
      have q2 := hc 2 (by omega)
      have q3 := hc 3 (by omega)
      by_cases hf : 40 ≤ (S.reqs.length : Int) - S.told.length
      · have e : askM S true page data = (0, 4, S) := by unfold askM; rw [if_neg hp, if_neg (by simp [hd]), if_pos hf]
        rw [e, hd]
        exact prog_write_full S F xb bb cap page _ _ _ _ w h hp0 hp1 q0 q1 q2 q3 hf
      · have e : askM S true page data = (S.last + 1, 0, askOk S true page data) := askM_ok hp (by simp [hd]) hf
        rw [e, hd]
        exact prog_write_ok S F xb bb cap page data _ _ _ _ w h hl hp0 hp1 q0 q1 q2 q3 hf hd rfl rfl rfl rfl
    · have e : askM S true page data = (0, 3, S) := by unfold askM; rw [if_neg hp, if_pos ⟨rfl, hd⟩]
      rw [e]
      have H : Hid (ProgAt w F xb S) := h
      have hb : ((data.size : Int) != 4) = true := by rw [bne_iff_ne]; omega
      clear h hc e hd
      go_enter Tryz.func86, Tryz.ntmps86
      go_wp2_with fail
      refine (onDisk_yes page _ (by omega) (by omega)).mono ?_
      rintro e w1 ⟨rfl, rfl⟩
      go_wp2
      go_ret2
      exact ⟨rfl, H.out.grow (Below.refl _ _), Kept.refl _ _⟩

set_option maxHeartbeats 1000000 in
theorem plain_write (S : St) (F : Nat → Prop) (xb bb cap : Nat) (page : Int) (data : ByteArray) (w : World) (h : ProgAt w F xb S) (hc : ∀ j, j < data.size → w.cell? ⟨bb, j, none⟩ = some (u8 (data.data.toList.getD j 0))) (hbb : bb < w.heap.size) (hds : data.size ≤ 1000000) (hg : GCell w) (h0 : ¬ F 0) (hl : S.last ≤ 1000000) :
    Calls Tryz.prog 52 #[.pointer (some ⟨xb, 0, none⟩), .int .i64 page, .slice (some ⟨bb, 0, none⟩) data.size cap] w fun e w' => e = .returned (.tuple #[.int .i64 (askM S true page data).1, .agg #[.int .i64 (askM S true page data).2.1, .int .i64 (-1), .int .i64 0, .bool true]]) ∧ ProgAt w' (Foot F w w') xb (askM S true page data).2.2 ∧ Kept F w w' := by
  have H : Hid (ProgAt w F xb S) := h
  have hF := h.lt
  have hnF : ¬ F w.heap.size := fun e => by have := hF _ e; omega
  have HF : Hid (∀ k, F k → k < w.heap.size) := hF
  have HG : Hid (GCell w) := hg
  have HC : Hid (∀ j, j < data.size → w.cell? ⟨bb, j, none⟩ = some (u8 (data.data.toList.getD j 0))) := hc
  clear h hF hg hc
  generalize hA : askM S true page data = r
  obtain ⟨n, k, S'⟩ := r
  have HA : Hid (askM S true page data = (n, k, S')) := hA
  clear hA
  go_enter Tryz.func52, Tryz.ntmps52
  go_wp2_with fail
  refine (prog_write S F xb bb cap page data _ (H.out.same (fun k _ hk => Below.heap_alloc w _ k hk) (by simp)) hl hds (fun j hj => by rw [World.cell?_alloc_lt _ _ ⟨bb, j, none⟩ hbb]; exact HC.out j hj)).mono ?_
  rintro e w1 ⟨rfl, hP, hK⟩
  rw [HA.out] at hP ⊢
  have HP : Hid (ProgAt w1 (Foot F (w.alloc (.cells #[.int .i64 0, .int .i64 0, .int .i64 0, .bool false] 57)) w1) xb S') := hP
  have HK : Hid (Kept F (w.alloc (.cells #[.int .i64 0, .int .i64 0, .int .i64 0, .bool false] 57)) w1) := hK
  have hg1 : GCell w1 := (HG.out.below (alloc_below _ _)).kept hK h0
  have hz1 : w.heap.size < w1.heap.size := by have := hK.size; simp at this; omega
  obtain ⟨⟨a0, a1, a2, a3⟩, b0, b1, b2, b3⟩ := err_cells hK hnF
  clear hP hK
  go_wp2_with fail
  refine (told_err k _ hg1).mono ?_
  rintro e w2 ⟨rfl, hb⟩
  have a0' := (hb.cell (p := ⟨w.heap.size, 0, none⟩) hz1).trans a0
  have a1' := (hb.cell (p := ⟨w.heap.size, 1, none⟩) hz1).trans a1
  have a2' := (hb.cell (p := ⟨w.heap.size, 2, none⟩) hz1).trans a2
  have a3' := (hb.cell (p := ⟨w.heap.size, 3, none⟩) hz1).trans a3
  have b0' := (hb.frozen (p := ⟨w.heap.size, 0, none⟩) hz1).trans b0
  have b1' := (hb.frozen (p := ⟨w.heap.size, 1, none⟩) hz1).trans b1
  have b2' := (hb.frozen (p := ⟨w.heap.size, 2, none⟩) hz1).trans b2
  have b3' := (hb.frozen (p := ⟨w.heap.size, 3, none⟩) hz1).trans b3
  have HB := hide hb
  clear hb a0 a1 a2 a3 b0 b1 b2 b3
  go_wp2
  exact bodyPost_ret (v := .tuple #[.int .i64 n, .agg #[.int .i64 k, .int .i64 (-1), .int .i64 0, .bool true]]) (by simp [results, Tryz.results52, go_sem, a0', a1', a2', a3']) rfl ⟨rfl, plain_fin _ _ _ _ HP.out HK.out HB.out HF.out⟩
end Go.Proofs.YtiabdbeejkadnaaGreatDoor
