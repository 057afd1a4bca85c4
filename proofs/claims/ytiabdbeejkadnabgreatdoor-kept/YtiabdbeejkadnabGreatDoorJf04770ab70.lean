import Derived.Test.YtiabdbeejkadnabGreatDoorJdd20506151
/- The program's queue (stage 2's code): add, Read. Own work of the verifier. -/
namespace Go.Proofs.YtiabdbeejkadnabGreatDoor
open Go.RowKit Go.Maps

theorem keyLit (n : Int) : WideAt.IsKeyLit (.int .i64 n) := trivial
theorem encE_congr {eb eb' : Int → Nat} {l : List Int} (h : ∀ n ∈ l, eb' n = eb n) : encE eb' l = encE eb l := by
  unfold encE
  exact List.map_congr_left fun n hn => by rw [h n hn]
theorem LPart.congr {w : World} {F : Nat → Prop} {eb eb' : Int → Nat} {fl : List Cmd} {af : Option Addr} {cf : Nat} {vs : List (Option Addr × Nat)} (h : LPart w F eb fl af cf vs) (he : ∀ n ∈ fl.flatMap (·.requests), eb' n = eb n) : LPart w F eb' fl af cf vs :=
  ⟨h.len, h.row, fun x hx => by rw [encE_congr (fun n hn => he n (List.mem_flatMap.2 ⟨x.1, (List.of_mem_zip hx).1, hn⟩))]; exact h.ins x hx⟩
theorem WfE.notTold {S : St} {E : List Int} (h : WfE S E) {n : Int} (hn : S.last < n) : toldHas S.told n = false := by
  cases ht : toldHas S.told n with
  | false => rfl
  | true =>
    obtain ⟨r, hr, e⟩ := h.toldIn n (by simpa [toldHas] using ht)
    have := (h.rq r hr).num
    omega

section
variable {w w2 : World} {F : Nat → Prop} {xb : Nat} {S : St} {E : List Int} {bm : Nat} {D : DataW Unit} {eb : Int → Nat} {c : Array Value} {af : Option Addr} {cf : Nat} {vs : List (Option Addr × Nat)}
theorem ProgBlk.added {e : Nat} {write : Bool} {page : Int} {data : ByteArray} {ds : List UInt8} (h : ProgBlk w F xb S E bm D eb c af cf vs)
    (hxb : w2.heap[xb]? = some (.cells (c.setIfInBounds 2 (.int .i64 (S.last + 1))) 85 (0, 0)))
    (hmap : w2.ownsMap Tryz.prog 3 ptrR bm (S.last.toNat + 1) (D.put (.int .i64 (S.last + 1)) (.lit (.int .i64 e))))
    (hent : w2.heap[e]? = some (.cells (entC ⟨S.last + 1, write, page, data, 0, 0, 0, false, false, ⟨#[]⟩⟩ ds) 80 (0, 0))) (hds : DataOk ⟨S.last + 1, write, page, data, 0, 0, 0, false, false, ⟨#[]⟩⟩ ds)
    (hs : ∀ k, k < w.heap.size → k ≠ xb → k ≠ bm → w2.heap[k]? = w.heap[k]?) (he : w.heap.size ≤ e) (hz : w.heap.size ≤ w2.heap.size) (hwf : WfE (askOk S write page data) E) :
    ProgBlk w2 (Foot F w w2) xb (askOk S write page data) E bm (D.put (.int .i64 (S.last + 1)) (.lit (.int .i64 e))) (fun k => if k = S.last + 1 then e else eb k) (c.setIfInBounds 2 (.int .i64 (S.last + 1))) af cf vs := by
  have hnot : findR S.reqs (S.last + 1) = none := findR_none_of (fun r hr => by have := (h.wf.rq r hr).num; omega)
  have hnhas : Maps.has D (.int .i64 (S.last + 1)) = false := by rw [h.m.has]; unfold heldB; rw [hnot]; rfl
  have hT : Tidy D := h.m.map.tidy keyLaw
  have hsz := h.q.size
  have hreqs : (askOk S write page data).reqs = S.reqs ++ [⟨S.last + 1, write, page, data, 0, 0, 0, false, false, ⟨#[]⟩⟩] := rfl
  have hold : ∀ r ∈ S.reqs, (if r.num = S.last + 1 then e else eb r.num) = eb r.num := fun r hr => by have := (h.wf.rq r hr).num; rw [if_neg (by omega)]
  have hlt : ∀ r ∈ S.reqs, eb r.num < w.heap.size := fun r hr => h.ltF _ (h.e.entF r hr)
  have hnt := h.wf.notTold (n := S.last + 1) (by omega)
  refine ⟨Or.inl h.own, hxb, ⟨by simpa using hsz, ?_, ?_, ?_, ?_, ?_, ?_, ?_⟩, Or.inl h.ownM, ⟨?_, ?_, ?_, ?_⟩, ⟨?_, ?_, ?_⟩, ?_, Foot.lt h.ltF hz, hwf⟩
  · rw [Array.getElem?_setIfInBounds, if_neg (by decide)]; exact h.q.c0
  · rw [Array.getElem?_setIfInBounds, if_neg (by decide)]; exact h.q.c1
  · rw [Array.getElem?_setIfInBounds, if_pos rfl, if_pos (by omega)]; rfl
  · rw [Array.getElem?_setIfInBounds, if_neg (by decide)]; exact h.q.c3
  · rw [Array.getElem?_setIfInBounds, if_neg (by decide)]; exact h.q.c4
  · rw [Array.getElem?_setIfInBounds, if_neg (by decide)]; exact h.q.c5
  · intro j hj
    rw [Array.getElem?_setIfInBounds, if_neg (by omega)]
    exact h.q.cd j hj
  · have e1 : (askOk S write page data).last.toNat = S.last.toNat + 1 := by have := h.wf.last; show (S.last + 1).toNat = _; omega
    rw [e1]; exact hmap
  · have e1 := size_put (k := Lit.int .i64 (S.last + 1)) (d := DataW.lit (.int .i64 (e : Int))) hT
    rw [hnhas] at e1
    rw [e1, hreqs, List.length_append, ← h.m.msize]
    show _ + S.told.length = _
    simp; omega
  · intro num
    unfold heldB
    rw [hreqs, findR_new]
    show _ = (_ && !toldHas S.told num)
    by_cases hn : num = S.last + 1
    · subst hn
      rw [has_put_same hT.isMap (keyLit _), hnt]; simp
    · have hne : (Lit.int .i64 num) ≠ .int .i64 (S.last + 1) := fun e => hn (by simpa using e)
      rw [has_put_other hne, h.m.has]
      have : ((S.last + 1 : Int) == num) = false := beq_eq_false_iff_ne.2 (fun e => hn e.symm)
      simp [this, heldB]
  · intro r hr ht
    rw [hreqs, List.mem_append, List.mem_singleton] at hr
    rcases hr with hr | rfl
    · have hne : (Lit.int .i64 r.num) ≠ .int .i64 (S.last + 1) := fun e => by have := (h.wf.rq r hr).num; simp at e; omega
      show (D.put _ _).atKey _ _ = .lit (.int .i64 ((if r.num = S.last + 1 then e else eb r.num : Nat) : Int))
      rw [atKey_put_other hne, hold r hr]; exact h.m.at_ r hr ht
    · show (D.put _ _).atKey (.int .i64 (S.last + 1)) _ = .lit (.int .i64 ((if S.last + 1 = S.last + 1 then e else eb (S.last + 1) : Nat) : Int))
      rw [atKey_put_same hT.isMap (keyLit _), if_pos rfl]
  · intro r hr
    rw [hreqs, List.mem_append, List.mem_singleton] at hr
    rcases hr with hr | rfl
    · show Foot F w w2 (if r.num = S.last + 1 then e else eb r.num)
      rw [hold r hr]; exact Or.inl (h.e.entF r hr)
    · show Foot F w w2 (if S.last + 1 = S.last + 1 then e else _)
      rw [if_pos rfl]; exact Or.inr ⟨he, lt_of_heap hent⟩
  · intro r hr
    rw [hreqs, List.mem_append, List.mem_singleton] at hr
    rcases hr with hr | rfl
    · obtain ⟨ds', h1, hh⟩ := h.e.ent r hr
      refine ⟨ds', h1, ?_⟩
      show w2.heap[(if r.num = S.last + 1 then e else eb r.num)]? = _
      rw [hold r hr, hs _ (lt_of_heap hh) (h.ebNe hr h.blk (by decide)) (fun e => h.bmNe hh e.symm)]
      exact hh
    · refine ⟨ds, hds, ?_⟩
      show w2.heap[(if S.last + 1 = S.last + 1 then e else eb (S.last + 1))]? = _
      rw [if_pos rfl]; exact hent
  · intro r hr r' hr'
    rw [hreqs, List.mem_append, List.mem_singleton] at hr hr'
    rcases hr with hr | rfl <;> rcases hr' with hr' | rfl
    · show (if r.num = S.last + 1 then e else eb r.num) = (if r'.num = S.last + 1 then e else eb r'.num) → _
      rw [hold r hr, hold r' hr']; exact h.e.inj r hr r' hr'
    · show (if r.num = S.last + 1 then e else eb r.num) = (if S.last + 1 = S.last + 1 then e else _) → _
      rw [hold r hr, if_pos rfl]; intro ee; have := hlt r hr; omega
    · show (if S.last + 1 = S.last + 1 then e else _) = (if r'.num = S.last + 1 then e else eb r'.num) → _
      rw [hold r' hr', if_pos rfl]; intro ee; have := hlt r' hr'; omega
    · intro _; rfl
  · refine ((h.l.same fun b cs t hb' ht hF => hs b (lt_of_heap hb') (fun e => ?_) (fun e => h.bmNe hb' e.symm)).mono (fun k hk => Or.inl hk)).congr (fun n hn => ?_)
    · subst e; rw [h.blk] at hb'; simp at hb'; rcases ht with rfl | rfl <;> exact absurd hb'.2 (by decide)
    · obtain ⟨r, hr, e'⟩ := h.wf.airIn n (List.mem_append_left _ hn)
      rw [← e']; exact hold r hr
end

set_option maxHeartbeats 1000000 in
theorem prog_add_full (S : St) (E : List Int) (F : Nat → Prop) (xb : Nat) (write : Bool) (page : Int) (d0 d1 d2 d3 : Value) (w : World) (h : ProgE w F xb S E) (hf : 40 ≤ (S.reqs.length : Int) - S.told.length) :
    Calls Tryz.prog 64 #[.pointer (some ⟨xb, 0, none⟩), .agg #[.int .i64 0, .int .i64 page, .bool write, d0, d1, d2, d3, .int .i64 0, .int .i64 0, .int .i64 0]] w fun e w' => e = .returned (.tuple #[.int .i64 0, .iface 33 (.int .i64 4)]) ∧ ProgE w' (Foot F w w') xb S E ∧ Kept F w w' := by
  have H : Hid (ProgE w F xb S E) := h
  clear h
  have hd : decide (40 ≤ (S.reqs.length : Int) - S.told.length) = true := by simpa using hf
  go_enter Tryz.func64, Tryz.ntmps64
  go_wp2_with fail
  refine (prog_full S E F xb _ (H.out.same (fun k _ hk => Below.heap_alloc w _ k hk) (by simp))).mono ?_
  rintro e w1 ⟨rfl, rfl⟩
  rw [hd]
  go_wp2
  go_ret2
  exact ⟨rfl, H.out.grow (alloc_below _ _), Kept.alloc (Kept.refl _ _) _⟩

set_option maxHeartbeats 1000000 in
set_option maxRecDepth 1000000 in
theorem prog_add (S : St) (E : List Int) (F : Nat → Prop) (xb : Nat) (write : Bool) (page : Int) (data : ByteArray) (ds : List UInt8) (w : World) (h : ProgE w F xb S E) (hf : ¬ 40 ≤ (S.reqs.length : Int) - S.told.length) (hl : S.last ≤ 1000000) (hds : DataOk ⟨S.last + 1, write, page, data, 0, 0, 0, false, false, ⟨#[]⟩⟩ ds) (hwf : WfE (askOk S write page data) E) (d0 d1 d2 d3 : Value) (h0 : d0 = u8 (ds.getD 0 0)) (h1 : d1 = u8 (ds.getD 1 0)) (h2 : d2 = u8 (ds.getD 2 0)) (h3 : d3 = u8 (ds.getD 3 0)) :
    Calls Tryz.prog 64 #[.pointer (some ⟨xb, 0, none⟩), .agg #[.int .i64 0, .int .i64 page, .bool write, d0, d1, d2, d3, .int .i64 0, .int .i64 0, .int .i64 0]] w fun e w' => e = .returned (.tuple #[.int .i64 (S.last + 1), .nilIface]) ∧ ProgE w' (Foot F w w') xb (askOk S write page data) E ∧ Kept F w w' := by
  have hd : decide (40 ≤ (S.reqs.length : Int) - S.told.length) = false := by simpa using hf
  have H0 : Hid (ProgE w F xb S E) := h
  obtain ⟨bm, D, eb, c, af, cf, vs, h⟩ := h
  have k2 := h.cell 2 _ h.q.c2
  have k3 := h.cell 3 _ h.q.c3
  have g2 := h.fz 2
  have hlt := h.lt
  have hla := h.wf.last
  have hmx : bm ≠ xb := h.bmNe h.blk
  have hml : bm < w.heap.size := h.m.map.lt
  have H : Hid (ProgBlk w F xb S E bm D eb c af cf vs) := h
  have HW : Hid (WfE (askOk S write page data) E) := hwf
  have HEc : Hid (entC ⟨S.last + 1, write, page, data, 0, 0, 0, false, false, ⟨#[]⟩⟩ ds = #[.int .i64 (S.last + 1), .int .i64 page, .bool write, d0, d1, d2, d3, .int .i64 0, .int .i64 0, .int .i64 0]) := by rw [h0, h1, h2, h3]; rfl
  have HDS := hide hds
  clear h hwf h0 h1 h2 h3 hds
  generalize hL : S.last = la at *
  have hL' : Hid (S.last = la) := hL
  clear hL
  go_enter Tryz.func64, Tryz.ntmps64
  go_wp2_with fail
  refine (prog_full S E F xb _ (H0.out.same (fun k _ hk => Below.heap_alloc w _ k hk) (by simp))).mono ?_
  rintro e w1 ⟨rfl, rfl⟩
  rw [hd]
  go_wp2
  have HE : Hid ((((w.setCell ⟨xb, 2, none⟩ (.int .i64 (la + 1))).alloc (.cells #[.int .i64 (la + 1), .int .i64 page, .bool write, d0, d1, d2, d3, .int .i64 0, .int .i64 0, .int .i64 0] 80))).heap[w.heap.size]? = some (.cells #[.int .i64 (la + 1), .int .i64 page, .bool write, d0, d1, d2, d3, .int .i64 0, .int .i64 0, .int .i64 0] 80 (0, 0))) := by
    have := heap_alloc_new (w.setCell ⟨xb, 2, none⟩ (.int .i64 (la + 1))) (.cells #[.int .i64 (la + 1), .int .i64 page, .bool write, d0, d1, d2, d3, .int .i64 0, .int .i64 0, .int .i64 0] 80)
    have e1 : (w.setCell ⟨xb, 2, none⟩ (.int .i64 (la + 1))).heap.size = w.heap.size := by simp [World.setCell]
    rw [e1] at this; exact this
  have HS : Hid (∀ k, k < w.heap.size → ((w.setCell ⟨xb, 2, none⟩ (.int .i64 (la + 1))).alloc (.cells #[.int .i64 (la + 1), .int .i64 page, .bool write, d0, d1, d2, d3, .int .i64 0, .int .i64 0, .int .i64 0] 80)).heap[k]? = (w.setCell ⟨xb, 2, none⟩ (.int .i64 (la + 1))).heap[k]?) := fun k hk => Below.heap_alloc _ _ _ (by simpa [World.setCell] using hk)
  have HZ : Hid (((w.setCell ⟨xb, 2, none⟩ (.int .i64 (la + 1))).alloc (.cells #[.int .i64 (la + 1), .int .i64 page, .bool write, d0, d1, d2, d3, .int .i64 0, .int .i64 0, .int .i64 0] 80)).heap.size = w.heap.size + 1) := by simp [Hid, World.setCell]
  have HK : Hid (Kept F w ((w.setCell ⟨xb, 2, none⟩ (.int .i64 (la + 1))).alloc (.cells #[.int .i64 (la + 1), .int .i64 page, .bool write, d0, d1, d2, d3, .int .i64 0, .int .i64 0, .int .i64 0] 80))) := ((Kept.refl _ _).setCell (p := ⟨xb, 2, none⟩) (Or.inl H.out.own) _).alloc _
  generalize (w.setCell ⟨xb, 2, none⟩ (.int .i64 (la + 1))).alloc (.cells #[.int .i64 (la + 1), .int .i64 page, .bool write, d0, d1, d2, d3, .int .i64 0, .int .i64 0, .int .i64 0] 80) = w1 at HE HS HK HZ ⊢
  have hb1 : w1.heap[bm]? = w.heap[bm]? := (HS.out bm hml).trans (Below.heap_setCell _ _ _ _ hmx)
  have hx1 : w1.heap[xb]? = some (.cells (c.setIfInBounds 2 (.int .i64 (la + 1))) 85 (0, 0)) := (HS.out xb hlt).trans (heap_setCell_at H.out.blk _)
  have hm1 : (w1.drew).ownsMap Tryz.prog 3 ptrR bm la.toNat D := by
    obtain ⟨es, ck, hb, r⟩ := H.out.m.map
    rw [hL'.out] at r
    exact ⟨es, ck, hb1.trans hb, r⟩
  obtain ⟨w2, hrun, hown2, hturn⟩ := hm1.store keyLaw Tryz.underlying82 (by unfold maxLen; omega) (keyOf_int_mk Tryz.underlying3 (WalkArith.wf_i64 (n := la + 1) (by omega))) (ptrR_mk w.heap.size)
  have hg2 := hturn.grown
  have m3 : w1.cell? ⟨xb, 3, none⟩ = some (.map (some bm)) := by
    have h3 := H.out.q.c3
    simp [World.cell?, hx1, h3]
  have m0 : w1.cell? ⟨w.heap.size, 0, none⟩ = some (.int .i64 (la + 1)) := by simp [World.cell?, HE.out]
  have hew : w2.heap[w.heap.size]? = w1.heap[w.heap.size]? := hg2.block w.heap.size (by show _ < w1.heap.size; rw [HZ.out]; omega) (by simp; omega)
  have n0 : w2.cell? ⟨w.heap.size, 0, none⟩ = some (.int .i64 (la + 1)) := (World.cell?_of_block (a := ⟨w.heap.size, 0, none⟩) hew).trans m0
  have HF : Hid (ProgE w2 (Foot F w w2) xb (askOk S write page data) E ∧ Kept F w w2) := by
    refine ⟨⟨bm, _, _, _, af, cf, vs, H.out.added (e := w.heap.size) (write := write) (page := page) (data := data) (ds := ds) ?_ ?_ ?_ (by rw [hL'.out]; exact HDS.out) ?_ (Nat.le_refl _) ?_ HW.out⟩, ?_⟩
    · rw [hL'.out]
      exact (hg2.block xb (by show _ < w1.heap.size; rw [HZ.out]; omega) (by simp; exact fun e => hmx e.symm)).trans hx1
    · rw [hL'.out]; exact hown2
    · rw [hL'.out, HEc.out]; exact hew.trans HE.out
    · intro k hk hkx hkm
      refine (hg2.block k (by show _ < w1.heap.size; rw [HZ.out]; omega) (by simp; exact hkm)).trans ?_
      exact (HS.out k hk).trans (Below.heap_setCell _ _ _ _ hkx)
    · have e1 : w1.heap.size ≤ w2.heap.size := hg2.size
      rw [HZ.out] at e1; omega
    · exact (HK.out.drew).grown hg2 (fun k hk => by cases hk; exact Or.inl H.out.ownM)
  clear hown2 hturn hg2 hm1 hb1 hx1 hew
  go_region
  all_goals go_wp2
  all_goals go_ret2
  all_goals exact ⟨rfl, HF.out⟩
end Go.Proofs.YtiabdbeejkadnabGreatDoor

/- The program's queue (stage 2's code): Read; plain.Read. Own work of the verifier. -/
namespace Go.Proofs.YtiabdbeejkadnabGreatDoor
open Go.RowKit Go.Maps

/-- the error that a kind is: none for 0 -/
def errOf (k : Int) : Value := if k = 0 then .nilIface else .iface 33 (.int .i64 k)
theorem errOf_zero : errOf 0 = .nilIface := rfl
theorem errOf_kind {k : Int} (h : k ≠ 0) : errOf k = .iface 33 (.int .i64 k) := by simp [errOf, h]
abbrev GCell (w : World) : Prop := w.cell? ⟨0, 0, none⟩ = some (.iface 164 (.agg #[.pointer (some ⟨1, 67, none⟩)]))
theorem GCell.below {w w' : World} (h : GCell w) (hb : Below w.heap.size w w') : GCell w' := (hb.cell (p := ⟨0, 0, none⟩) (lt_of_cell h)).trans h
theorem GCell.kept {F : Nat → Prop} {w w' : World} (h : GCell w) (hk : Kept F w w') (h0 : ¬ F 0) : GCell w' := (hk.cell (p := ⟨0, 0, none⟩) (lt_of_cell h) h0).trans h
theorem told_err (k : Int) (w : World) (hg : GCell w) : Calls Tryz.prog 25 #[errOf k] w fun e w' => e = .returned (.agg #[.int .i64 k, .int .i64 (-1), .int .i64 0, .bool true]) ∧ Below w.heap.size w w' := by
  by_cases h : k = 0
  · subst h; rw [errOf_zero]; exact told_nil w
  · rw [errOf_kind h]; exact told_kind k w hg

theorem askM_ok {S : St} {write : Bool} {page : Int} {data : ByteArray} (hp : ¬ (page < 0 ∨ 16 ≤ page)) (hd : ¬ (write = true ∧ data.size ≠ 4)) (hf : ¬ 40 ≤ (S.reqs.length : Int) - S.told.length) : askM S write page data = (S.last + 1, 0, askOk S write page data) := by
  unfold askM; rw [if_neg hp, if_neg hd, if_neg hf]

theorem prog_read (S : St) (F : Nat → Prop) (xb : Nat) (page : Int) (w : World) (h : ProgAt w F xb S) (hl : S.last ≤ 1000000) :
    Calls Tryz.prog 42 #[.pointer (some ⟨xb, 0, none⟩), .int .i64 page] w fun e w' => e = .returned (.tuple #[.int .i64 (askM S false page ⟨#[]⟩).1, errOf (askM S false page ⟨#[]⟩).2.1]) ∧ ProgAt w' (Foot F w w') xb (askM S false page ⟨#[]⟩).2.2 ∧ Kept F w w' := by
  have H : Hid (ProgAt w F xb S) := h
  have HWf : Hid (Wf S) := h.wf
  clear h
  by_cases hp : page < 0 ∨ 16 ≤ page
  · have e : askM S false page ⟨#[]⟩ = (0, 2, S) := by unfold askM; rw [if_pos hp]
    rw [e]
    go_enter Tryz.func42, Tryz.ntmps42
    go_wp2_with fail
    refine (onDisk_no page _ hp).mono ?_
    rintro e w1 ⟨rfl, rfl⟩
    go_wp2
    go_ret2
    exact ⟨rfl, H.out.grow (Below.refl _ _), Kept.refl _ _⟩
  · by_cases hf : 40 ≤ (S.reqs.length : Int) - S.told.length
    · have e : askM S false page ⟨#[]⟩ = (0, 4, S) := by unfold askM; rw [if_neg hp, if_neg (by simp), if_pos hf]
      rw [e]
      go_enter Tryz.func42, Tryz.ntmps42
      go_wp2_with fail
      refine (onDisk_yes page _ (fun e => hp (Or.inl e)) (fun e => hp (Or.inr e))).mono ?_
      rintro e w1 ⟨rfl, rfl⟩
      go_wp2_with fail
      refine (orEmpty_some _ _).mono ?_
      rintro e w2 ⟨rfl, rfl⟩
      go_wp2_with fail
      refine (prog_add_full S [] F xb false page (.int .u8 0) (.int .u8 0) (.int .u8 0) (.int .u8 0) _ H.out hf).mono ?_
      rintro e w3 ⟨rfl, hR⟩
      have HR := hide hR
      clear hR
      go_wp2
      go_ret2
      exact ⟨rfl, HR.out⟩
    · have e : askM S false page ⟨#[]⟩ = (S.last + 1, 0, askOk S false page ⟨#[]⟩) := askM_ok hp (by simp) hf
      rw [e]
      go_enter Tryz.func42, Tryz.ntmps42
      go_wp2_with fail
      refine (onDisk_yes page _ (fun e => hp (Or.inl e)) (fun e => hp (Or.inr e))).mono ?_
      rintro e w1 ⟨rfl, rfl⟩
      go_wp2_with fail
      refine (orEmpty_some _ _).mono ?_
      rintro e w2 ⟨rfl, rfl⟩
      go_wp2_with fail
      refine (prog_add S [] F xb false page ⟨#[]⟩ [0, 0, 0, 0] _ H.out (by omega) hl ⟨rfl, (fun e => by cases e), fun _ e => (by cases e)⟩ (HWf.out.ask (by omega) false page _ (by omega) (fun e => by cases e)) (.int .u8 0) (.int .u8 0) (.int .u8 0) (.int .u8 0) rfl rfl rfl rfl).mono ?_
      rintro e w3 ⟨rfl, hR⟩
      have HR := hide hR
      clear hR
      go_wp2
      go_ret2
      exact ⟨rfl, HR.out⟩

/-- the four cells of a plain.Error that lie in a block of one's own -/
theorem err_cells {w w1 : World} {F : Nat → Prop} (hk : Kept F (w.alloc (.cells #[.int .i64 0, .int .i64 0, .int .i64 0, .bool false] 35)) w1) (h0 : ¬ F w.heap.size) :
    (w1.cell? ⟨w.heap.size, 0, none⟩ = some (.int .i64 0) ∧ w1.cell? ⟨w.heap.size, 1, none⟩ = some (.int .i64 0) ∧ w1.cell? ⟨w.heap.size, 2, none⟩ = some (.int .i64 0) ∧ w1.cell? ⟨w.heap.size, 3, none⟩ = some (.bool false)) ∧
    (w1.frozen? ⟨w.heap.size, 0, none⟩ = false ∧ w1.frozen? ⟨w.heap.size, 1, none⟩ = false ∧ w1.frozen? ⟨w.heap.size, 2, none⟩ = false ∧ w1.frozen? ⟨w.heap.size, 3, none⟩ = false) := by
  refine ⟨⟨?_, ?_, ?_, ?_⟩, ?_, ?_, ?_, ?_⟩
  · rw [hk.cell (p := ⟨w.heap.size, 0, none⟩) (by simp) h0]; simp
  · rw [hk.cell (p := ⟨w.heap.size, 1, none⟩) (by simp) h0]; simp
  · rw [hk.cell (p := ⟨w.heap.size, 2, none⟩) (by simp) h0]; simp
  · rw [hk.cell (p := ⟨w.heap.size, 3, none⟩) (by simp) h0]; simp
  · rw [hk.frozen (p := ⟨w.heap.size, 0, none⟩) (by simp) h0]; simp
  · rw [hk.frozen (p := ⟨w.heap.size, 1, none⟩) (by simp) h0]; simp
  · rw [hk.frozen (p := ⟨w.heap.size, 2, none⟩) (by simp) h0]; simp
  · rw [hk.frozen (p := ⟨w.heap.size, 3, none⟩) (by simp) h0]; simp
/-- the end of a wrapper: the answer's block is the wrapper's own -/
theorem plain_fin {w w1 w2 : World} {F : Nat → Prop} {xb : Nat} {S' : St} {o : Obj} (v0 v1 v2 v3 : Value) (HP : ProgAt w1 (Foot F (w.alloc o) w1) xb S') (HK : Kept F (w.alloc o) w1) (hb : Below w1.heap.size w1 w2) (hF : ∀ k, F k → k < w.heap.size) :
    ProgAt ((((w2.setCell ⟨w.heap.size, 0, none⟩ v0).setCell ⟨w.heap.size, 1, none⟩ v1).setCell ⟨w.heap.size, 2, none⟩ v2).setCell ⟨w.heap.size, 3, none⟩ v3) (Foot F w ((((w2.setCell ⟨w.heap.size, 0, none⟩ v0).setCell ⟨w.heap.size, 1, none⟩ v1).setCell ⟨w.heap.size, 2, none⟩ v2).setCell ⟨w.heap.size, 3, none⟩ v3)) xb S' ∧
    Kept F w ((((w2.setCell ⟨w.heap.size, 0, none⟩ v0).setCell ⟨w.heap.size, 1, none⟩ v1).setCell ⟨w.heap.size, 2, none⟩ v2).setCell ⟨w.heap.size, 3, none⟩ v3) := by
  have hz1 : w.heap.size + 1 ≤ w1.heap.size := by have := HK.size; simpa using this
  have hz2 := hb.size
  have hz4 : ((((w2.setCell ⟨w.heap.size, 0, none⟩ v0).setCell ⟨w.heap.size, 1, none⟩ v1).setCell ⟨w.heap.size, 2, none⟩ v2).setCell ⟨w.heap.size, 3, none⟩ v3).heap.size = w2.heap.size := by simp [World.setCell]
  refine ⟨(HP.same (fun k hk hlt => ?_) (by rw [hz4]; exact hz2)).wid (fun k hk => ?_) (Foot.lt hF (by rw [hz4]; omega)), ?_⟩
  · have hne : k ≠ w.heap.size := fun e => by
      rcases hk with hk | hk
      · have := hF k hk; omega
      · have := hk.1; simp at this; omega
    rw [Below.heap_setCell _ _ _ _ hne, Below.heap_setCell _ _ _ _ hne, Below.heap_setCell _ _ _ _ hne, Below.heap_setCell _ _ _ _ hne]
    exact hb.block k hlt
  · rcases hk with hk | hk
    · exact Or.inl hk
    · refine Or.inr ⟨?_, by rw [hz4]; omega⟩
      have := hk.1; simp at this; omega
  · exact (((((((Kept.refl F w).alloc o).then HK).below hb).setCell (p := ⟨w.heap.size, 0, none⟩) (Or.inr (Nat.le_refl _)) _).setCell (p := ⟨w.heap.size, 1, none⟩) (Or.inr (Nat.le_refl _)) _).setCell (p := ⟨w.heap.size, 2, none⟩) (Or.inr (Nat.le_refl _)) _).setCell (p := ⟨w.heap.size, 3, none⟩) (Or.inr (Nat.le_refl _)) _

set_option maxHeartbeats 1000000 in
theorem plain_read (S : St) (F : Nat → Prop) (xb : Nat) (page : Int) (w : World) (h : ProgAt w F xb S) (hg : GCell w) (h0 : ¬ F 0) (hl : S.last ≤ 1000000) :
    Calls Tryz.prog 22 #[.pointer (some ⟨xb, 0, none⟩), .int .i64 page] w fun e w' => e = .returned (.tuple #[.int .i64 (askM S false page ⟨#[]⟩).1, .agg #[.int .i64 (askM S false page ⟨#[]⟩).2.1, .int .i64 (-1), .int .i64 0, .bool true]]) ∧ ProgAt w' (Foot F w w') xb (askM S false page ⟨#[]⟩).2.2 ∧ Kept F w w' := by
  have H : Hid (ProgAt w F xb S) := h
  have hF := h.lt
  have hnF : ¬ F w.heap.size := fun e => by have := hF _ e; omega
  have HF : Hid (∀ k, F k → k < w.heap.size) := hF
  have HG : Hid (GCell w) := hg
  clear h hF hg
  generalize hA : askM S false page ⟨#[]⟩ = r
  obtain ⟨n, k, S'⟩ := r
  have HA : Hid (askM S false page ⟨#[]⟩ = (n, k, S')) := hA
  clear hA
  go_enter Tryz.func22, Tryz.ntmps22
  go_wp2_with fail
  refine (prog_read S F xb page _ (H.out.same (fun k _ hk => Below.heap_alloc w _ k hk) (by simp)) hl).mono ?_
  rintro e w1 ⟨rfl, hP, hK⟩
  rw [HA.out] at hP ⊢
  have HP : Hid (ProgAt w1 (Foot F (w.alloc (.cells #[.int .i64 0, .int .i64 0, .int .i64 0, .bool false] 35)) w1) xb S') := hP
  have HK : Hid (Kept F (w.alloc (.cells #[.int .i64 0, .int .i64 0, .int .i64 0, .bool false] 35)) w1) := hK
  have hg1 : GCell w1 := (HG.out.below (alloc_below _ _)).kept hK h0
  have hz1 : w.heap.size < w1.heap.size := by have := hK.size; simp at this; omega
  obtain ⟨⟨a0, a1, a2, a3⟩, b0, b1, b2, b3⟩ := err_cells hK hnF
  clear hP hK
  go_wp2_with fail
  refine (told_err k _ hg1).mono ?_
  rintro e w2 ⟨rfl, hb⟩
  have a0' := (hb.cell (p := ⟨w.heap.size, 0, none⟩) hz1).trans a0
  have a1' := (hb.cell (p := ⟨w.heap.size, 1, none⟩) hz1).trans a1
  have a2' := (hb.cell (p := ⟨w.heap.size, 2, none⟩) hz1).trans a2
  have a3' := (hb.cell (p := ⟨w.heap.size, 3, none⟩) hz1).trans a3
  have b0' := (hb.frozen (p := ⟨w.heap.size, 0, none⟩) hz1).trans b0
  have b1' := (hb.frozen (p := ⟨w.heap.size, 1, none⟩) hz1).trans b1
  have b2' := (hb.frozen (p := ⟨w.heap.size, 2, none⟩) hz1).trans b2
  have b3' := (hb.frozen (p := ⟨w.heap.size, 3, none⟩) hz1).trans b3
  have HB := hide hb
  clear hb a0 a1 a2 a3 b0 b1 b2 b3
  go_wp2
  exact bodyPost_ret (v := .tuple #[.int .i64 n, .agg #[.int .i64 k, .int .i64 (-1), .int .i64 0, .bool true]]) (by simp [results, Tryz.results22, go_sem, a0', a1', a2', a3']) rfl ⟨rfl, plain_fin _ _ _ _ HP.out HK.out HB.out HF.out⟩
end Go.Proofs.YtiabdbeejkadnabGreatDoor

/- The program's queue (stage 2's code): New, plain.New. Own work of the verifier. -/
namespace Go.Proofs.YtiabdbeejkadnabGreatDoor
open Go.RowKit Go.Maps

def newC (depth : Int) (bm : Nat) : Array Value := #[.int .i64 depth, .int .i64 0, .int .i64 0, .map (some bm), .slice none 0 0, .int .i64 0, .int .u8 0, .int .u8 0, .int .u8 0, .int .u8 0, .int .u8 0, .int .u8 0, .int .u8 0, .int .u8 0, .int .u8 0, .int .u8 0, .int .u8 0, .int .u8 0, .int .u8 0, .int .u8 0, .int .u8 0, .int .u8 0, .int .u8 0, .int .u8 0, .int .u8 0, .int .u8 0, .int .u8 0, .int .u8 0, .int .u8 0, .int .u8 0, .int .u8 0, .int .u8 0, .int .u8 0, .int .u8 0, .int .u8 0, .int .u8 0, .int .u8 0, .int .u8 0, .int .u8 0, .int .u8 0, .int .u8 0, .int .u8 0, .int .u8 0, .int .u8 0, .int .u8 0, .int .u8 0, .int .u8 0, .int .u8 0, .int .u8 0, .int .u8 0, .int .u8 0, .int .u8 0, .int .u8 0, .int .u8 0, .int .u8 0, .int .u8 0, .int .u8 0, .int .u8 0, .int .u8 0, .int .u8 0, .int .u8 0, .int .u8 0, .int .u8 0, .int .u8 0, .int .u8 0, .int .u8 0, .int .u8 0, .int .u8 0, .int .u8 0, .int .u8 0] 
theorem newC_eq (depth : Int) (bm : Nat) : newC depth bm = #[.int .i64 depth, .int .i64 0, .int .i64 0, .map (some bm), .slice none 0 0, .int .i64 0] ++ Array.replicate 64 (.int .u8 0) := by kernel_rfl
theorem new_progAt (depth : Int) (w : World) (h1 : 1 ≤ depth) (h4 : depth ≤ 4) : ProgAt ((w.alloc (.map #[] 0)).alloc (.cells (newC depth w.heap.size) 85)) (Foot (fun _ => False) w ((w.alloc (.map #[] 0)).alloc (.cells (newC depth w.heap.size) 85))) (w.heap.size + 1) (St.new depth) := by
  have hz : ((w.alloc (.map #[] 0)).alloc (.cells (newC depth w.heap.size) 85)).heap.size = w.heap.size + 2 := by simp
  have e1 : (w.alloc (.map #[] 0)).heap.size = w.heap.size + 1 := by simp
  have hb := heap_alloc_new (w.alloc (.map #[] 0)) (.cells (newC depth w.heap.size) 85)
  rw [e1] at hb
  refine ⟨w.heap.size, .map [], fun _ => 0, newC depth w.heap.size, none, 0, [], Or.inr ⟨by omega, by rw [hz]; omega⟩, hb, ⟨by rw [newC_eq]; simp, rfl, rfl, rfl, rfl, rfl, rfl, fun j hj => ?_⟩, Or.inr ⟨Nat.le_refl _, by rw [hz]; omega⟩, ⟨(World.ownsMap_made w _ _ _).alloc _, rfl, fun n => rfl, fun r hr => by simp [St.new] at hr⟩, ⟨fun r hr => by simp [St.new] at hr, fun r hr => by simp [St.new] at hr, fun r hr => by simp [St.new] at hr⟩, ⟨rfl, Row.nil _ _ _ _, fun x hx => by simp [St.new] at hx⟩, fun k hk => hk.elim (fun h => h.elim) (fun h => h.2), Wf.new depth ⟨h1, h4⟩⟩
  have e4 : 6 + j - 6 = j := by omega
  rw [newC_eq, Array.getElem?_append_right (by simp)]
  have e5 : (St.new depth).disk.getD j 0 = 0 := by show (List.replicate 64 (0 : UInt8)).getD j 0 = 0; rw [List.getD_eq_getElem?_getD, List.getElem?_replicate, if_pos hj]; rfl
  rw [e5]
  simp [e4, hj, u8]

theorem prog_new_ok (depth : Int) (w : World) (h1 : 1 ≤ depth) (h4 : depth ≤ 4) :
    Calls Tryz.prog 43 #[.int .i64 depth] w fun e w' => e = .returned (.tuple #[.pointer (some ⟨w.heap.size + 1, 0, none⟩), .nilIface]) ∧ w' = ((w.alloc (.map #[] 0)).alloc (.cells (newC depth w.heap.size) 85)) := by
  have hmm := @run_makeMap Tryz.prog
  have b1 : decide (depth < 1) = false := by simp; omega
  have b2 : decide (4 < depth) = false := by simp; omega
  go_enter Tryz.func43, Tryz.ntmps43
  go_wp2
  go_ret2
  exact ⟨rfl, rfl⟩
theorem prog_new_no (depth : Int) (w : World) (h : depth < 1 ∨ 4 < depth) :
    Calls Tryz.prog 43 #[.int .i64 depth] w fun e w' => e = .returned (.tuple #[.pointer none, errOf 1]) ∧ w' = w := by
  by_cases h1 : depth < 1
  · have b1 : decide (depth < 1) = true := by simp; omega
    clear h
    go_enter Tryz.func43, Tryz.ntmps43
    go_wp2
    go_ret2
    exact ⟨rfl, rfl⟩
  · have b1 : decide (depth < 1) = false := by simp; omega
    have h2 : 4 < depth := by omega
    have b2 : decide (4 < depth) = true := by simp; omega
    clear h
    go_enter Tryz.func43, Tryz.ntmps43
    go_wp2
    go_ret2
    exact ⟨rfl, rfl⟩
set_option maxHeartbeats 1000000 in
theorem plain_new_ok (depth : Int) (w : World) (hg : GCell w) (h1 : 1 ≤ depth) (h4 : depth ≤ 4) :
    Calls Tryz.prog 23 #[.int .i64 depth] w fun e w' => ∃ xb, e = .returned (.tuple #[.pointer (some ⟨xb, 0, none⟩), .agg #[.int .i64 0, .int .i64 (-1), .int .i64 0, .bool true]]) ∧ ProgAt w' (Foot (fun _ => False) w w') xb (St.new depth) ∧ Below w.heap.size w w' := by
  have HG : Hid (GCell w) := hg
  clear hg
  go_enter Tryz.func23, Tryz.ntmps23
  go_wp2_with fail
  refine (prog_new_ok depth _ h1 h4).mono ?_
  rintro e w1 ⟨rfl, hw1⟩
  have hP := new_progAt depth (w.alloc (.cells #[.int .i64 0, .int .i64 0, .int .i64 0, .bool false] 35)) h1 h4
  rw [← hw1] at hP
  have hb1 : Below (w.alloc (.cells #[.int .i64 0, .int .i64 0, .int .i64 0, .bool false] 35)).heap.size (w.alloc (.cells #[.int .i64 0, .int .i64 0, .int .i64 0, .bool false] 35)) w1 := by
    rw [hw1]; exact (alloc_below _ _).trans ((alloc_below _ _).mono (by simp))
  have HP := hide hP
  have HK := hide (Go.Proofs.YtiabdbeejkadnabGreatDoor.Below.kept hb1 (fun _ => False))
  have hz1 : w.heap.size < w1.heap.size := by have := hb1.size; simp at this; omega
  obtain ⟨⟨a0, a1, a2, a3⟩, b0, b1, b2, b3⟩ := err_cells HK.out (fun h => h)
  have hg1 : GCell w1 := (HG.out.below (alloc_below _ _)).below hb1
  clear hP hb1 hw1
  simp only [World.size_alloc] at HP ⊢
  go_wp2_with fail
  refine (told_nil _).mono ?_
  rintro e w2 ⟨rfl, hb⟩
  have a0' := (hb.cell (p := ⟨w.heap.size, 0, none⟩) hz1).trans a0
  have a1' := (hb.cell (p := ⟨w.heap.size, 1, none⟩) hz1).trans a1
  have a2' := (hb.cell (p := ⟨w.heap.size, 2, none⟩) hz1).trans a2
  have a3' := (hb.cell (p := ⟨w.heap.size, 3, none⟩) hz1).trans a3
  have b0' := (hb.frozen (p := ⟨w.heap.size, 0, none⟩) hz1).trans b0
  have b1' := (hb.frozen (p := ⟨w.heap.size, 1, none⟩) hz1).trans b1
  have b2' := (hb.frozen (p := ⟨w.heap.size, 2, none⟩) hz1).trans b2
  have b3' := (hb.frozen (p := ⟨w.heap.size, 3, none⟩) hz1).trans b3
  have HB := hide hb
  clear hb a0 a1 a2 a3 b0 b1 b2 b3
  go_wp2
  refine bodyPost_ret (v := .tuple #[.pointer (some ⟨w.heap.size + 1 + 1, 0, none⟩), .agg #[.int .i64 0, .int .i64 (-1), .int .i64 0, .bool true]]) (by simp [results, Tryz.results23, go_sem, a0', a1', a2', a3']) rfl ⟨_, rfl, (plain_fin _ _ _ _ HP.out HK.out HB.out (fun _ h => h.elim)).1, (plain_fin _ _ _ _ HP.out HK.out HB.out (fun _ h => h.elim)).2.toBelow (fun _ h => h.elim) (Nat.le_refl _)⟩

set_option maxHeartbeats 1000000 in
theorem plain_new_no (depth : Int) (w : World) (hg : GCell w) (h : depth < 1 ∨ 4 < depth) :
    Calls Tryz.prog 23 #[.int .i64 depth] w fun e w' => e = .returned (.tuple #[.pointer none, .agg #[.int .i64 1, .int .i64 (-1), .int .i64 0, .bool true]]) ∧ Below w.heap.size w w' := by
  have HG : Hid (GCell w) := hg
  clear hg
  go_enter Tryz.func23, Tryz.ntmps23
  go_wp2_with fail
  refine (prog_new_no depth _ h).mono ?_
  rintro e w1 ⟨rfl, hw1⟩
  have hb1 : Below (w.alloc (.cells #[.int .i64 0, .int .i64 0, .int .i64 0, .bool false] 35)).heap.size (w.alloc (.cells #[.int .i64 0, .int .i64 0, .int .i64 0, .bool false] 35)) w1 := by
    rw [hw1]; exact Below.refl _ _
  have HK := hide (Go.Proofs.YtiabdbeejkadnabGreatDoor.Below.kept hb1 (fun _ => False))
  have hz1 : w.heap.size < w1.heap.size := by have := hb1.size; simp at this; omega
  obtain ⟨⟨a0, a1, a2, a3⟩, b0, b1, b2, b3⟩ := err_cells HK.out (fun h => h)
  have hg1 : GCell w1 := (HG.out.below (alloc_below _ _)).below hb1
  have HB1 := hide ((alloc_below w (.cells #[.int .i64 0, .int .i64 0, .int .i64 0, .bool false] 35)).trans (hb1.mono (by simp)))
  clear hb1 hw1
  go_wp2_with fail
  refine (told_err 1 _ hg1).mono ?_
  rintro e w2 ⟨rfl, hb⟩
  have a0' := (hb.cell (p := ⟨w.heap.size, 0, none⟩) hz1).trans a0
  have a1' := (hb.cell (p := ⟨w.heap.size, 1, none⟩) hz1).trans a1
  have a2' := (hb.cell (p := ⟨w.heap.size, 2, none⟩) hz1).trans a2
  have a3' := (hb.cell (p := ⟨w.heap.size, 3, none⟩) hz1).trans a3
  have b0' := (hb.frozen (p := ⟨w.heap.size, 0, none⟩) hz1).trans b0
  have b1' := (hb.frozen (p := ⟨w.heap.size, 1, none⟩) hz1).trans b1
  have b2' := (hb.frozen (p := ⟨w.heap.size, 2, none⟩) hz1).trans b2
  have b3' := (hb.frozen (p := ⟨w.heap.size, 3, none⟩) hz1).trans b3
  have HB := hide hb
  clear hb a0 a1 a2 a3 b0 b1 b2 b3
  go_wp2
  exact bodyPost_ret (v := .tuple #[.pointer none, .agg #[.int .i64 1, .int .i64 (-1), .int .i64 0, .bool true]]) (by simp [results, Tryz.results23, go_sem, a0', a1', a2', a3']) rfl ⟨rfl, ((((HB1.out.trans (HB.out.mono (Nat.le_of_lt hz1))).setCell (Nat.le_refl _) _).setCell (Nat.le_refl _) _).setCell (Nat.le_refl _) _).setCell (Nat.le_refl _) _⟩

end Go.Proofs.YtiabdbeejkadnabGreatDoor
