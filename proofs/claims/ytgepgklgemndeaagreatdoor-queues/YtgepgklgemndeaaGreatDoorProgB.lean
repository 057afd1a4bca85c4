/- The program's queue (stage 1's code): add, Read, Tick, Now. Own work of the verifier. -/
import Derived.Test.YtgepgklgemndeaaGreatDoorProgA
namespace Go.Proofs.YtgepgklgemndeaaGreatDoor
open Go.RowKit Go.Maps

theorem keyLit (n : Int) : WideAt.IsKeyLit (.int .i64 n) := trivial
theorem findR_isSome (R : List Rq) (num : Int) : (findR R num).isSome = R.any (fun r => r.num == num) := by
  unfold findR
  exact List.findIdx?_isSome
theorem findR_new (R : List Rq) (x : Rq) (num : Int) : (findR (R ++ [x]) num).isSome = ((findR R num).isSome || x.num == num) := by
  rw [findR_isSome, findR_isSome, List.any_append]
  simp
theorem findR_none_of {R : List Rq} {num : Int} (h : ∀ r ∈ R, r.num ≠ num) : findR R num = none := by
  unfold findR
  rw [List.findIdx?_eq_none_iff]
  intro r hr
  simpa using h r hr
theorem wf_num {S : St} (h : Wf1 S) (hl : S.last ≤ 1000000) (n : Int) (h0 : 0 ≤ n) (h1 : n ≤ S.last + 1) : (Lit.int .i64 n).wf = true := WalkArith.wf_i64 (by have := h.last; omega)

theorem Wf1.ask {S : St} (h : Wf1 S) (hf : ¬ 40 ≤ (S.reqs.length : Int)) (write : Bool) (page : Int) (data : ByteArray) : Wf1 (askOk S write page data) where
  depth := h.depth
  told := h.told
  flights := h.flights
  disk := h.disk
  len := by show (S.reqs ++ [_]).length ≤ 40; rw [List.length_append]; simp; omega
  last := by show 0 ≤ S.last + 1; have := h.last; omega
  st := fun r hr => by
    have hr : r ∈ S.reqs ++ [_] := hr
    rw [List.mem_append, List.mem_singleton] at hr
    rcases hr with hr | rfl
    · exact h.st r hr
    · exact ⟨Or.inl rfl, rfl, rfl⟩
  num := fun r hr => by
    have hr : r ∈ S.reqs ++ [_] := hr
    show 1 ≤ r.num ∧ r.num ≤ S.last + 1
    rw [List.mem_append, List.mem_singleton] at hr
    rcases hr with hr | rfl
    · have := h.num r hr; omega
    · have := h.last; show 1 ≤ S.last + 1 ∧ S.last + 1 ≤ S.last + 1; omega
  sorted := by
    show (S.reqs ++ [_]).Pairwise _
    rw [List.pairwise_append]
    refine ⟨h.sorted, List.pairwise_singleton _ _, fun a ha b hb => ?_⟩
    rw [List.mem_singleton] at hb
    subst hb
    have := h.num a ha
    show a.num < S.last + 1
    omega

theorem ProgBlk.added {w w2 : World} {F : Nat → Prop} {xb : Nat} {S : St} {bm : Nat} {D : DataW Unit} {eb : Int → Nat} {c : Array Value} {e : Nat} {write : Bool} {page : Int} {data : ByteArray} {d0 d1 d2 d3 : Value} (h : ProgBlk w F xb S bm D eb c)
    (hxb : w2.heap[xb]? = some (.cells (c.setIfInBounds 2 (.int .i64 (S.last + 1))) 81 (0, 0)))
    (hmap : w2.ownsMap Tryz.prog 3 ptrR bm (S.last.toNat + 1) (D.put (.int .i64 (S.last + 1)) (.lit (.int .i64 e))))
    (hent : w2.heap[e]? = some (.cells #[.int .i64 (S.last + 1), .int .i64 page, .bool write, d0, d1, d2, d3, .int .i64 0, .int .i64 0] 125 (0, 0)))
    (hs : ∀ k, k < w.heap.size → k ≠ xb → k ≠ bm → w2.heap[k]? = w.heap[k]?) (he : w.heap.size ≤ e) (hz : w.heap.size ≤ w2.heap.size) (hf : ¬ 40 ≤ (S.reqs.length : Int)) :
    ProgBlk w2 (Foot F w w2) xb (askOk S write page data) bm (D.put (.int .i64 (S.last + 1)) (.lit (.int .i64 e))) (fun k => if k = S.last + 1 then e else eb k) (c.setIfInBounds 2 (.int .i64 (S.last + 1))) := by
  have hnot : findR S.reqs (S.last + 1) = none := findR_none_of (fun r hr => by have := h.wf.num r hr; omega)
  have hnhas : Maps.has D (.int .i64 (S.last + 1)) = false := by rw [h.has, hnot]; rfl
  have hT : Tidy D := h.map.tidy keyLaw
  have hsz := h.size
  have hmx : bm ≠ xb := fun e => by obtain ⟨es, ck, hb, _⟩ := h.map; rw [e, h.blk] at hb; cases hb
  have hreqs : (askOk S write page data).reqs = S.reqs ++ [⟨S.last + 1, write, page, data, 0, 0, 0, false, false, ⟨#[]⟩⟩] := rfl
  have hold : ∀ r ∈ S.reqs, (if r.num = S.last + 1 then e else eb r.num) = eb r.num := fun r hr => by have := h.wf.num r hr; rw [if_neg (by omega)]
  refine ⟨Or.inl h.own, hxb, by simpa using hsz, ?_, ?_, ?_, ?_, ?_, Or.inl h.ownM, ?_, ?_, ?_, ?_, ?_, ?_, ?_, Foot.lt h.ltF hz, h.wf.ask hf write page data⟩
  · rw [Array.getElem?_setIfInBounds, if_neg (by decide)]; exact h.c0
  · rw [Array.getElem?_setIfInBounds, if_neg (by decide)]; exact h.c1
  · rw [Array.getElem?_setIfInBounds, if_pos rfl, if_pos (by omega)]; rfl
  · rw [Array.getElem?_setIfInBounds, if_neg (by decide)]; exact h.c3
  · intro j hj
    rw [Array.getElem?_setIfInBounds, if_neg (by omega)]
    exact h.cd j hj
  · have e1 : (askOk S write page data).last.toNat = S.last.toNat + 1 := by have := h.wf.last; show (S.last + 1).toNat = _; omega
    rw [e1]; exact hmap
  · rw [size_put hT, hnhas, hreqs, List.length_append, h.msize]; rfl
  · intro num
    rw [hreqs, findR_new]
    by_cases hn : num = S.last + 1
    · subst hn
      rw [has_put_same hT.isMap (keyLit _)]; simp
    · have hne : (Lit.int .i64 num) ≠ .int .i64 (S.last + 1) := fun e => hn (by simpa using e)
      rw [has_put_other hne, h.has]
      have : ((S.last + 1 : Int) == num) = false := beq_eq_false_iff_ne.2 (fun e => hn e.symm)
      simp [this]
  · intro r hr
    rw [hreqs, List.mem_append, List.mem_singleton] at hr
    rcases hr with hr | rfl
    · have hne : (Lit.int .i64 r.num) ≠ .int .i64 (S.last + 1) := fun e => by have := h.wf.num r hr; simp at e; omega
      show (D.put _ _).atKey _ _ = .lit (.int .i64 ((if r.num = S.last + 1 then e else eb r.num : Nat) : Int))
      rw [atKey_put_other hne, hold r hr]; exact h.at_ r hr
    · show (D.put _ _).atKey (.int .i64 (S.last + 1)) _ = .lit (.int .i64 ((if S.last + 1 = S.last + 1 then e else eb (S.last + 1) : Nat) : Int))
      rw [atKey_put_same hT.isMap (keyLit _), if_pos rfl]
  · intro r hr
    rw [hreqs, List.mem_append, List.mem_singleton] at hr
    rcases hr with hr | rfl
    · show Foot F w w2 (if r.num = S.last + 1 then e else eb r.num)
      rw [hold r hr]; exact Or.inl (h.entF r hr)
    · show Foot F w w2 (if S.last + 1 = S.last + 1 then e else _)
      rw [if_pos rfl]; exact Or.inr ⟨he, lt_of_heap hent⟩
  · intro r hr
    rw [hreqs, List.mem_append, List.mem_singleton] at hr
    rcases hr with hr | rfl
    · obtain ⟨a0, a1, a2, a3, hh⟩ := h.ent r hr
      refine ⟨a0, a1, a2, a3, ?_⟩
      show w2.heap[(if r.num = S.last + 1 then e else eb r.num)]? = _
      rw [hold r hr, hs _ (lt_of_heap hh) (fun e => by rw [e, h.blk] at hh; simp at hh) (fun e => by obtain ⟨es, ck, hb, _⟩ := h.map; rw [e, hb] at hh; cases hh)]
      exact hh
    · refine ⟨d0, d1, d2, d3, ?_⟩
      show w2.heap[(if S.last + 1 = S.last + 1 then e else eb (S.last + 1))]? = _
      rw [if_pos rfl]; exact hent
  · intro r hr r' hr'
    rw [hreqs, List.mem_append, List.mem_singleton] at hr hr'
    have hlt : ∀ r ∈ S.reqs, eb r.num < w.heap.size := fun r hr => h.ltF _ (h.entF r hr)
    rcases hr with hr | rfl <;> rcases hr' with hr' | rfl
    · show (if r.num = S.last + 1 then e else eb r.num) = (if r'.num = S.last + 1 then e else eb r'.num) → _
      rw [hold r hr, hold r' hr']; exact h.inj r hr r' hr'
    · show (if r.num = S.last + 1 then e else eb r.num) = (if S.last + 1 = S.last + 1 then e else _) → _
      rw [hold r hr, if_pos rfl]; intro ee; have := hlt r hr; omega
    · show (if S.last + 1 = S.last + 1 then e else _) = (if r'.num = S.last + 1 then e else eb r'.num) → _
      rw [hold r' hr', if_pos rfl]; intro ee; have := hlt r' hr'; omega
    · intro _; rfl

set_option maxHeartbeats 1000000 in
theorem prog_add_full (S : St) (F : Nat → Prop) (xb : Nat) (write : Bool) (page : Int) (d0 d1 d2 d3 : Value) (w : World) (h : ProgAt w F xb S) (hf : 40 ≤ (S.reqs.length : Int)) :
    Calls Tryz.prog 68 #[.pointer (some ⟨xb, 0, none⟩), .agg #[.int .i64 0, .int .i64 page, .bool write, d0, d1, d2, d3, .int .i64 0, .int .i64 0]] w fun e w' => e = .returned (.tuple #[.int .i64 0, .iface 49 (.int .i64 4)]) ∧ ProgAt w' (Foot F w w') xb S ∧ Kept F w w' := by
  have H : Hid (ProgAt w F xb S) := h
  clear h
  have hd : decide (40 ≤ (S.reqs.length : Int)) = true := by simpa using hf
  go_enter Tryz.func68, Tryz.ntmps68
  go_wp2_with fail
  refine (prog_full S F xb _ (H.out.same (fun k _ hk => Below.heap_alloc w _ k hk) (by simp))).mono ?_
  rintro e w1 ⟨rfl, rfl⟩
  rw [hd]
  go_wp2
  go_ret2
  exact ⟨rfl, H.out.grow (alloc_below _ _), Kept.alloc (Kept.refl _ _) _⟩

set_option maxHeartbeats 1000000 in
set_option maxRecDepth 1000000 in
theorem prog_add (S : St) (F : Nat → Prop) (xb : Nat) (write : Bool) (page : Int) (data : ByteArray) (d0 d1 d2 d3 : Value) (w : World) (h : ProgAt w F xb S) (hf : ¬ 40 ≤ (S.reqs.length : Int)) (hl : S.last ≤ 1000000) :
    Calls Tryz.prog 68 #[.pointer (some ⟨xb, 0, none⟩), .agg #[.int .i64 0, .int .i64 page, .bool write, d0, d1, d2, d3, .int .i64 0, .int .i64 0]] w fun e w' => e = .returned (.tuple #[.int .i64 (S.last + 1), .nilIface]) ∧ ProgAt w' (Foot F w w') xb (askOk S write page data) ∧ Kept F w w' := by
  have hd : decide (40 ≤ (S.reqs.length : Int)) = false := by simpa using hf
  have H0 : Hid (ProgAt w F xb S) := h
  obtain ⟨bm, D, eb, c, h⟩ := h
  have k2 := h.cell 2 _ h.c2
  have k3 := h.cell 3 _ h.c3
  have g2 := h.fz 2
  have hlt := h.lt
  have hla := h.wf.last
  have hmx : bm ≠ xb := fun e => by obtain ⟨es, ck, hb, _⟩ := h.map; rw [e, h.blk] at hb; cases hb
  have hml : bm < w.heap.size := h.map.lt
  have H : Hid (ProgBlk w F xb S bm D eb c) := h
  clear h
  generalize hL : S.last = la at *
  have hL' : Hid (S.last = la) := hL
  clear hL
  go_enter Tryz.func68, Tryz.ntmps68
  go_wp2_with fail
  refine (prog_full S F xb _ (H0.out.same (fun k _ hk => Below.heap_alloc w _ k hk) (by simp))).mono ?_
  rintro e w1 ⟨rfl, rfl⟩
  rw [hd]
  go_wp2
  have HE : Hid ((((w.setCell ⟨xb, 2, none⟩ (.int .i64 (la + 1))).alloc (.cells #[.int .i64 (la + 1), .int .i64 page, .bool write, d0, d1, d2, d3, .int .i64 0, .int .i64 0] 125))).heap[w.heap.size]? = some (.cells #[.int .i64 (la + 1), .int .i64 page, .bool write, d0, d1, d2, d3, .int .i64 0, .int .i64 0] 125 (0, 0))) := by
    have := heap_alloc_new (w.setCell ⟨xb, 2, none⟩ (.int .i64 (la + 1))) (.cells #[.int .i64 (la + 1), .int .i64 page, .bool write, d0, d1, d2, d3, .int .i64 0, .int .i64 0] 125)
    have e1 : (w.setCell ⟨xb, 2, none⟩ (.int .i64 (la + 1))).heap.size = w.heap.size := by simp [World.setCell]
    rw [e1] at this; exact this
  have HS : Hid (∀ k, k < w.heap.size → ((w.setCell ⟨xb, 2, none⟩ (.int .i64 (la + 1))).alloc (.cells #[.int .i64 (la + 1), .int .i64 page, .bool write, d0, d1, d2, d3, .int .i64 0, .int .i64 0] 125)).heap[k]? = (w.setCell ⟨xb, 2, none⟩ (.int .i64 (la + 1))).heap[k]?) := fun k hk => Below.heap_alloc _ _ _ (by simpa [World.setCell] using hk)
  have HZ : Hid (((w.setCell ⟨xb, 2, none⟩ (.int .i64 (la + 1))).alloc (.cells #[.int .i64 (la + 1), .int .i64 page, .bool write, d0, d1, d2, d3, .int .i64 0, .int .i64 0] 125)).heap.size = w.heap.size + 1) := by simp [Hid, World.setCell]
  have HK : Hid (Kept F w ((w.setCell ⟨xb, 2, none⟩ (.int .i64 (la + 1))).alloc (.cells #[.int .i64 (la + 1), .int .i64 page, .bool write, d0, d1, d2, d3, .int .i64 0, .int .i64 0] 125))) := ((Kept.refl _ _).setCell (p := ⟨xb, 2, none⟩) (Or.inl H.out.own) _).alloc _
  generalize (w.setCell ⟨xb, 2, none⟩ (.int .i64 (la + 1))).alloc (.cells #[.int .i64 (la + 1), .int .i64 page, .bool write, d0, d1, d2, d3, .int .i64 0, .int .i64 0] 125) = w1 at HE HS HK HZ ⊢
  have hb1 : w1.heap[bm]? = w.heap[bm]? := (HS.out bm hml).trans (Below.heap_setCell _ _ _ _ hmx)
  have hx1 : w1.heap[xb]? = some (.cells (c.setIfInBounds 2 (.int .i64 (la + 1))) 81 (0, 0)) := (HS.out xb hlt).trans (heap_setCell_at H.out.blk _)
  have hm1 : (w1.drew).ownsMap Tryz.prog 3 ptrR bm la.toNat D := by
    obtain ⟨es, ck, hb, r⟩ := H.out.map
    rw [hL'.out] at r
    exact ⟨es, ck, hb1.trans hb, r⟩
  obtain ⟨w2, hrun, hown2, hturn⟩ := hm1.store keyLaw Tryz.underlying76 (by unfold maxLen; omega) (keyOf_int_mk Tryz.underlying3 (WalkArith.wf_i64 (n := la + 1) (by omega))) (ptrR_mk w.heap.size)
  have hg2 := hturn.grown
  have m3 : w1.cell? ⟨xb, 3, none⟩ = some (.map (some bm)) := by
    have h3 := H.out.c3
    simp [World.cell?, hx1, h3]
  have m0 : w1.cell? ⟨w.heap.size, 0, none⟩ = some (.int .i64 (la + 1)) := by simp [World.cell?, HE.out]
  have hew : w2.heap[w.heap.size]? = w1.heap[w.heap.size]? := hg2.block w.heap.size (by show _ < w1.heap.size; rw [HZ.out]; omega) (by simp; omega)
  have n0 : w2.cell? ⟨w.heap.size, 0, none⟩ = some (.int .i64 (la + 1)) := (World.cell?_of_block (a := ⟨w.heap.size, 0, none⟩) hew).trans m0
  have HF : Hid (ProgAt w2 (Foot F w w2) xb (askOk S write page data) ∧ Kept F w w2) := by
    refine ⟨⟨bm, _, _, _, H.out.added (e := w.heap.size) (write := write) (page := page) (data := data) (d0 := d0) (d1 := d1) (d2 := d2) (d3 := d3) ?_ ?_ ?_ ?_ (Nat.le_refl _) ?_ (by simpa using hf)⟩, ?_⟩
    · rw [hL'.out]
      exact (hg2.block xb (by show _ < w1.heap.size; rw [HZ.out]; omega) (by simp; exact fun e => hmx e.symm)).trans hx1
    · rw [hL'.out]; exact hown2
    · rw [hL'.out]; exact hew.trans HE.out
    · intro k hk hkx hkm
      refine (hg2.block k (by show _ < w1.heap.size; rw [HZ.out]; omega) (by simp; exact hkm)).trans ?_
      exact (HS.out k hk).trans (Below.heap_setCell _ _ _ _ hkx)
    · have e1 : w1.heap.size ≤ w2.heap.size := hg2.size
      rw [HZ.out] at e1; omega
    · exact (HK.out.drew).grown hg2 (fun k hk => by cases hk; exact Or.inl H.out.ownM)
  clear hown2 hturn hg2 hm1 hb1 hx1 hew
  go_region
  all_goals go_wp2
  all_goals go_ret2
  all_goals exact ⟨rfl, HF.out⟩
end Go.Proofs.YtgepgklgemndeaaGreatDoor
