import Derived.Test.YtiabdbeejkadnabGreatDoorJ242b93d8af
import Derived.Deep.LoopGhost
import Derived.WalkMore
/- The program's queue (stage 2's code): held: what waits and what is under way, in order. Own work of the verifier. -/
namespace Go.Proofs.YtiabdbeejkadnabGreatDoor
open Go.RowKit Go.Maps Go.Sort Go.Shelf

section
variable {α : Type} [Inhabited α]
theorem holds_of_blk (enc : α → Value) {w : World} {g : Nat} {cur : Array Value} {e : TypeId} {ss : List α} (hb : w.heap[g]? = some (.cells cur e (0, 0))) (ht : cur.toList.take ss.length = ss.map enc) : Holds enc w g 0 ss.toArray := by
  intro j hj
  have hj' : j < ss.length := by simpa using hj
  refine ⟨?_, by simp [World.frozen?, hb]⟩
  have h1 : (cur.toList.take ss.length)[j]? = (ss.map enc)[j]? := by rw [ht]
  rw [List.getElem?_take_of_lt hj'] at h1
  simp only [World.cell?, hb, Nat.zero_add]
  simp only [Option.isSome_none, Bool.false_eq_true, if_false]
  rw [← Array.getElem?_toList, h1]
  simp [hj']
theorem heap_put (enc : α → Value) {w : World} {g n : Nat} {os : Array Obj} {cur : Array Value} {e : TypeId} {fr : Nat × Nat} (d : Array α) (hb : w.heap[g]? = some (.cells cur e fr)) :
    (sortWorld enc w g 0 n d os).heap[g]? = some (.cells (putCells enc 0 d cur) e fr) := by
  have hg : g < w.heap.size := (Array.getElem?_eq_some_iff.1 hb).1
  unfold sortWorld
  rw [heap_grow_old _ _ (by simpa using hg)]
  simp [putRow, mapBlock, Sort.ahead, Array.getElem?_modify, hb, onCells]
theorem grownBy_put (enc : α → Value) {w : World} {g n : Nat} {os : Array Obj} (d : Array α) : w.grownBy (sortWorld enc w g 0 n d os) (some g) := by
  refine ⟨rfl, rfl, rfl, by simp [sortWorld], fun k hk hne => ?_⟩
  unfold sortWorld
  rw [heap_grow_old _ _ (by simpa using hk)]
  have : g ≠ k := fun e => hne (by rw [e])
  simp [putRow, mapBlock, Sort.ahead, Array.getElem?_modify, this]
theorem take_put (enc : α → Value) (cur : Array Value) (ts : List α) (h : ts.length ≤ cur.size) : (putCells enc 0 ts.toArray cur).toList.take ts.length = ts.map enc := by
  apply List.ext_getElem?
  intro j
  by_cases hj : j < ts.length
  · rw [List.getElem?_take_of_lt hj, Array.getElem?_toList]
    simp [putCells, hj, show j < cur.size by omega]
  · rw [List.getElem?_take_eq_none (by omega), List.getElem?_eq_none (by simp; omega)]
/-- a row of one's own, sorted -/
theorem row_sorted (enc : α → Value) {w w1 : World} {e : TypeId} {g cap n : Nat} {os : Array Obj} {d : Array α} {m : Nat} {xs : List Value} (hb : Below w.heap.size w w1) (hrow : Row w1 (fun b => w.heap.size ≤ b) e 1 (some ⟨g, 0, none⟩) m cap xs) (hd : d.size = m) :
    Row (sortWorld enc w1 g 0 n d os) (fun b => w.heap.size ≤ b) e 1 (some ⟨g, 0, none⟩) m cap (d.toList.map enc) ∧ Below w.heap.size w (sortWorld enc w1 g 0 n d os) := by
  have hge := hrow.2 _ rfl
  rcases hrow.1.2 with ⟨h0, _⟩ | ⟨g', cap', cur, hv, hg, hh, h1, h2, h3, h4⟩
  · cases h0
  cases hv
  refine ⟨⟨⟨by simp [hd], .inr ⟨g, cap, _, rfl, Nat.zero_le _, heap_put enc _ hh, h1, h2, by simp [putCells, h3], ?_⟩⟩, fun a ha => by cases ha; exact hge⟩, hb.grown (grownBy_put enc _) hb.size (fun k hk => by cases hk; exact hge)⟩
  have := take_put enc cur d.toList (by rw [Array.length_toList, hd]; omega)
  rw [Array.length_toList, hd] at this
  simpa using this
end

theorem pick_rows (R : List Rq) (L : List Int) (h : ∀ n ∈ L, ∃ r ∈ R, r.num = n) : ∃ d : List (RqIn R), d.map (fun x => x.1.num) = L := by
  induction L with
  | nil => exact ⟨[], rfl⟩
  | cons n L ih =>
    obtain ⟨d, hd⟩ := ih (fun m hm => h m (by simp [hm]))
    obtain ⟨r, hr, e⟩ := h n (by simp)
    exact ⟨⟨r, hr⟩ :: d, by simp [hd, e]⟩
theorem sort_none (p : Option Addr) (cap : Nat) (fv : Value) (w : World) : Calls Tryz.prog 91 #[.slice p 0 cap, fv] w fun e w' => e = .returned (.tuple #[]) ∧ w' = w := by
  have hp := fun lim W => AnyF.pdqsortCmpFunc_none (P := Tryz.prog) (ρ := Tryz.pdqF_ren) { Tryz.pdqF with } p cap lim fv W
  change ∀ lim W, Calls Tryz.prog 102 _ _ _ at hp
  go_enter Tryz.func91, Tryz.ntmps91
  go_wp2_with (first | (go_at_call 56; refine (len_nil _).mono ?_; rintro e w' ⟨rfl, rfl⟩) | (go_at_call 102; refine (hp _ _).mono ?_; rintro e w' ⟨rfl, rfl⟩))
  go_end0
  exact ⟨rfl, rfl⟩

/-- what waits and what is under way, in order -/
structure IsHeld (S : St) (X : List Rq) : Prop where
  sorted : X.Pairwise Lt2
  mem : ∀ r, r ∈ X ↔ r ∈ S.reqs ∧ (r.state = 0 ∨ r.inAir = true)
/-- what held leaves: a row of the entries -/
def HeldAt (eb : Int → Nat) (S : St) (w : World) (e : Ending) (w' : World) : Prop := ∃ X ao n cap, e = .returned (.slice ao n cap) ∧ IsHeld S X ∧ n = X.length ∧ Row w' (fun b => w.heap.size ≤ b) 75 1 ao n cap (encE eb (X.map (·.num))) ∧ Below w.heap.size w w'

theorem held_nodup {S : St} (hw : Wf S) {left : Lit → Bool} {ks : List Int} (h : WaitInv S.reqs S.told left ks) : (airs S ++ ks).Nodup ∧ ∀ n ∈ airs S ++ ks, ∃ r ∈ S.reqs, r.num = n := by
  have hnd := hw.nodup
  rw [List.append_nil] at hnd
  refine ⟨List.nodup_append.2 ⟨hnd, h.nd, fun a ha b hb e => ?_⟩, fun n hn => ?_⟩
  · subst e
    obtain ⟨_, r, hr, h1, h2⟩ := (h.mem a).1 hb
    have o := hw.rq r hr
    have := o.air14 (o.air.2 (by rw [List.append_nil, h1]; exact ha))
    omega
  · rw [List.mem_append] at hn
    rcases hn with hn | hn
    · exact hw.airIn n (by rw [List.append_nil]; exact hn)
    · obtain ⟨_, r, hr, h1, _⟩ := (h.mem n).1 hn
      exact ⟨r, hr, h1⟩
theorem held_mem {S : St} (hw : Wf S) {left : Lit → Bool} {ks : List Int} (h : WaitInv S.reqs S.told left ks) (hl : ∀ kl, left kl = false) (r : Rq) (hr : r ∈ S.reqs) : r.num ∈ airs S ++ ks ↔ (r.state = 0 ∨ r.inAir = true) := by
  have o := hw.rq r hr
  rw [List.mem_append]
  constructor
  · rintro (hn | hn)
    · right; exact o.air.2 (by rw [List.append_nil]; exact hn)
    · obtain ⟨_, r', hr', h1, h2⟩ := (h.mem _).1 hn
      left; rw [← num_uniq hw.sorted hr' hr h1]; exact h2
  · rintro (hn | hn)
    · right; exact (h.mem _).2 ⟨hl _, r, hr, rfl, hn⟩
    · left; have := o.air.1 hn; rwa [List.append_nil] at this

set_option maxHeartbeats 1000000 in
set_option maxRecDepth 1000000 in
theorem prog_held (S : St) (F : Nat → Prop) (xb bm : Nat) (D : DataW Unit) (eb : Int → Nat) (c : Array Value) (af : Option Addr) (cf : Nat) (vs : List (Option Addr × Nat)) (w : World) (h : ProgBlk w F xb S [] bm D eb c af cf vs) (hl : S.last ≤ 1000000) :
    Calls Tryz.prog 68 #[.pointer (some ⟨xb, 0, none⟩)] w fun e w' => HeldAt eb S w e w' := by
  obtain ⟨i0, hi, hi0, hi1, hi2⟩ := info_parts info_ptr
  have d3 := h.cell 3 _ h.q.c3
  have d4 := h.cell 4 _ h.q.c4
  have HQ := hide h
  have hxl := h.lt
  have hbm : Hid (bm < w.heap.size) := h.ltF _ h.ownM
  have hal : Hid ((airs S).length ≤ 1000000) := by have := h.wf.airLen; rw [List.append_nil] at this; have := h.wf.reqsLen; show _ ≤ _; omega
  have hlen : Hid ((airs S).length + 40 ≤ 2000000) := by have := hal.out; show _ ≤ _; omega
  clear h hl
  go_enter Tryz.func68, Tryz.ntmps68
  go_wp2_with fail
  refine (sl_concat F eb S.flights af cf vs _ HQ.out.l (fun c hc => (HQ.out.wf.fl c hc).ne) hal.out (by have := HQ.out.wf.flLen; have := HQ.out.wf.depth; omega)).mono ?_
  rintro e w1 ⟨ao, n, cap, rfl, hn, hrow, hb⟩
  have HN0 : Hid (n = (airs S).length) := hn
  have HR0 : Hid (Row w1 (fun b => w.heap.size ≤ b) 75 1 ao n cap (encE eb (airs S))) := hrow
  have HB0 := hide hb
  have d3' := (hb.cell (p := ⟨xb, 3, none⟩) hxl).trans d3
  have HM1 : Hid (w1.ownsMap Tryz.prog 3 ptrR bm S.last.toNat D) := by
    have := HQ.out.m.same (hb.block bm hbm.out)
    exact this.map
  have hz1 : Hid (w.heap.size ≤ w1.heap.size) := hb.size
  clear hn hrow hb d3 d4
  go_wp2_with (first | (at_range; refine wpList_range_own _ rfl _ 82 rfl 3 75 keyLaw Tryz.underlying82 _ bm _ D rfl HM1.out ?_; intro w0 hrg0 hg0 hs0) | go_in)
  go_frame
  have hiter : Hid (∀ k : Nat, some w1.heap.size = some k → w.heap.size ≤ k) := fun k hk => by cases hk; exact hz1.out
  go_loopw [3] (fun l wr => ∃ (left : Lit → Bool) (cnt n cap : Nat) (ks : List Int) (ao : Option Addr), Hid (wr.ranges Tryz.prog 3 ptrR bm w1.heap.size S.last.toNat D left cnt) ∧ l = .slice ao n cap ∧ Hid (n + cnt ≤ (airs S).length + 40) ∧ Hid (n = (airs S ++ ks).length) ∧ Hid (WaitInv S.reqs S.told left ks) ∧ Hid (Row wr (fun b => w.heap.size ≤ b) 75 1 ao n cap (encE eb (airs S ++ ks))) ∧ Hid (Below w.heap.size w wr)) (fun _ wr => wr.rangeLeft bm w1.heap.size)
  case atStart =>
    refine ⟨_, _, n, cap, [], ao, hrg0, rfl, by have := HQ.out.wf.len; have := HQ.out.m.msize; have := HN0.out; show n + Maps.size D ≤ _; omega, by rw [List.append_nil]; exact HN0, ⟨List.Pairwise.nil, fun n => ?_, fun n hn => ?_⟩, ?_, HB0.out.grown hg0 hz1.out (fun k hk => by cases hk)⟩
    · simp only [List.not_mem_nil, false_iff]
      rintro ⟨h1, r, hr, e1, e2⟩
      rw [HQ.out.m.has] at h1
      unfold heldB at h1
      have ht : toldHas S.told n = false := by
        cases hx : toldHas S.told n with
        | false => rfl
        | true =>
          have := ((HQ.out.wf.rq r hr).told (by rw [e1]; simpa [toldHas] using hx)).2
          omega
      rw [ht, findR_isSome] at h1
      have : S.reqs.any (fun r => r.num == n) = true := List.any_eq_true.2 ⟨r, hr, by simp [e1]⟩
      rw [this] at h1; cases h1
    · rw [HQ.out.m.has] at hn
      unfold heldB at hn
      rw [findR_isSome] at hn
      simp only [Bool.and_eq_true, Bool.not_eq_true'] at hn
      obtain ⟨r, hr, e1⟩ := List.any_eq_true.1 hn.1
      exact ⟨r, hr, by simpa using e1, hn.2⟩
    · rw [List.append_nil]
      exact HR0.out.same fun a ha => by
        obtain ⟨cur, hh, _⟩ := Row.block HR0.out ha
        exact hg0.block _ (lt_of_heap hh) (by simp)
  case round =>
    obtain ⟨left, cnt, n, cap, ks, ao, hrg, rfl, hnl, hn, hi', hrow, hb⟩ := hrel
    go_wp2_with (first | (at_next; refine wpList_next_mine _ rfl _ rfl bm w1.heap.size _ D left cnt eb rfl hrg.out ?_ ?_ ?_) | go_in)
    · intro x hx
      obtain ⟨r, hr, rfl, ht⟩ := hi'.out.left x hx
      exact HQ.out.m.at_ r hr ht
    · intro _ hl
      have HND := hide (held_nodup HQ.out.wf hi'.out)
      have HMM := hide (held_mem HQ.out.wf hi'.out hl)
      clear hrg hl
      by_cases h0 : n = 0
      · subst h0
        have hnil : airs S ++ ks = [] := List.eq_nil_of_length_eq_zero hn.out.symm
        go_wp2_with (go_at_call 91; refine (sort_none _ _ _ _).mono ?_; rintro e w2 ⟨rfl, hw2⟩; have hw2 := hw2.symm; subst hw2)
        go_ret
        refine ⟨[], ao, 0, cap, rfl, ⟨List.Pairwise.nil, fun r => ⟨fun hr => (by cases hr), fun hr => ?_⟩⟩, rfl, ?_, hb.out⟩
        · have := (HMM.out r hr.1).2 hr.2
          rw [hnil] at this; cases this
        · have := hrow.out
          rw [hnil] at this; exact this
      · obtain ⟨g, cur, hg, hge, hgb, _, _⟩ := Row.some hrow.out (by omega)
        subst hg
        obtain ⟨d, hd⟩ := pick_rows S.reqs (airs S ++ ks) HND.out.2
        have hdl : d.length = n := by rw [hn.out, ← hd, List.length_map]
        have hd0 : d ≠ [] := fun e => h0 (by rw [← hdl, e]; rfl)
        obtain ⟨x0, hx0⟩ : ∃ x, x ∈ d := List.exists_mem_of_ne_nil _ hd0
        haveI : Inhabited (RqIn S.reqs) := ⟨x0⟩
        have henc : encE eb (airs S ++ ks) = d.map (encP S.reqs eb) := by rw [← hd]; simp [encE, encP, List.map_map]
        have hent : ∀ r ∈ S.reqs, wr.cell? ⟨eb r.num, 0, none⟩ = some (.int .i64 r.num) ∧ wr.cell? ⟨eb r.num, 1, none⟩ = some (.int .i64 r.page) ∧ eb r.num ≠ g := fun r hr => by
          obtain ⟨ds, _, he⟩ := HQ.out.e.ent r hr
          have hl := lt_of_heap he
          have he' := (hb.out.block _ hl).trans he
          exact ⟨by simp [World.cell?, he', entC], by simp [World.cell?, he', entC], by have : w.heap.size ≤ g := hge; omega⟩
        have hH : Holds (encP S.reqs eb) wr g 0 d.toArray := by
          rcases hrow.out.1.2 with ⟨h0', _⟩ | ⟨g', cap', cur', hv, _, hh, _, _, _, h4⟩
          · cases h0'
          · cases hv
            exact holds_of_blk _ hh (by rw [hdl, ← henc]; simpa using h4)
        have HS := hide (sortFunc S.reqs eb g cap d.toArray wr HQ.out.wf.sorted hent hH (lt_of_heap hgb) (by rw [List.size_toArray, hdl]; have := hnl.out; have := hal.out; omega) (by
          have := HND.out.1
          rw [← hd] at this
          exact List.pairwise_map.1 this))
        rw [List.size_toArray, hdl] at HS
        have HD := hide hd
        have HDL := hide hdl
        clear hH hent henc hd0 hgb h0 hd hdl
        go_wp2_with (go_at_call 91; refine HS.out.mono ?_; rintro e w2 ⟨rfl, d', n2, os, hp, hs, hw2⟩; have HW := hide hw2; have HPP := hide hp; have HSS := hide hs; clear hw2 hp hs)
        go_ret
        have hsz : d'.size = n := by have := HPP.out.length_eq; rw [Array.length_toList] at this; rw [this]; exact HDL.out
        have HA := row_sorted (encP S.reqs eb) (n := n2) (os := os) hb.out hrow.out hsz
        rw [← HW.out] at HA
        refine ⟨d'.toList.map (·.1), some ⟨g, 0, none⟩, n, cap, rfl, ⟨HSS.out, fun r => ?_⟩, by rw [List.length_map, Array.length_toList, hsz], ?_, HA.2⟩
        · constructor
          · intro hr
            obtain ⟨x, hx, rfl⟩ := List.mem_map.1 hr
            refine ⟨x.2, (HMM.out x.1 x.2).1 ?_⟩
            rw [← HD.out]
            exact List.mem_map.2 ⟨x, HPP.out.mem_iff.1 hx, rfl⟩
          · rintro ⟨hr, h2⟩
            have := (HMM.out r hr).2 h2
            rw [← HD.out] at this
            obtain ⟨x, hx, e⟩ := List.mem_map.1 this
            exact List.mem_map.2 ⟨x, HPP.out.mem_iff.2 hx, num_uniq HQ.out.wf.sorted x.2 hr e⟩
        · have e1 : encE eb ((d'.toList.map (·.1)).map (·.num)) = d'.toList.map (encP S.reqs eb) := by simp [encE, encP, List.map_map]
          rw [e1]; exact HA.1
    · intro x w2 cnt1 hlx hrg1 hlt hg1 hs1 hen
      obtain ⟨r, hr, rfl, _⟩ := hi'.out.left x hlx
      obtain ⟨ds, _, hent⟩ := HQ.out.e.ent r hr
      have HB1 := hide (hb.out.grown hg1 hb.out.size hiter.out)
      have helt : eb r.num < w.heap.size := HQ.out.ltF _ (HQ.out.e.entF r hr)
      have hent1 : w2.heap[eb r.num]? = _ := (HB1.out.block _ helt).trans hent
      have q8 : w2.cell? ⟨eb r.num, 9, none⟩ = some (.int .i64 r.state) := by simp [World.cell?, hent1, entC]
      have HQ8 := hide q8
      have hrow1 : Hid (Row w2 (fun b => w.heap.size ≤ b) 75 1 ao n cap (encE eb (airs S ++ ks))) := by
        refine hrow.out.same fun a ha => ?_
        obtain ⟨cur, hh, _⟩ := Row.block hrow.out ha
        refine hg1.block _ (lt_of_heap hh) ?_
        intro e
        obtain ⟨es, ck, si, se, c0, _, _, _, _, hr0, _⟩ := hrg.out
        have e' : a.block = w1.heap.size := Option.some.inj e
        rw [← e', hh] at hr0
        cases hr0
      have HP := hide HQ.out.wf.sorted
      have HLT := hide hlt
      have HRG := hide hrg1
      have HLX := hide hlx
      have HL : Hid (wr.rangeLeft bm w1.heap.size = cnt) := hrg.out.left_eq
      clear hrg hg1 hs1 hent hent1 hrg1 hlt hlx hrow hb q8
      by_cases hs : r.state = 0
      · have b1 : (r.state == 0) = true := beq_iff_eq.2 hs
        have HI := hide (hi'.out.yes hr HLX.out hs)
        have hc : Hid (n ≤ 1000040) := by show n ≤ _; have := hnl.out; have := hal.out; omega
        clear hs
        have hq8 := HQ8.out
        clear HQ8
        have HO : Hid ((w2.alloc (.cells #[.pointer (some ⟨eb r.num, 0, none⟩)] 75)).ownsRow 0 75 1 (.slice ao n cap) n (encE eb (airs S ++ ks))) := (hrow1.out.alloc _).1
        have HW : Hid (∀ (t : Nat) (u : Value), [Value.pointer (some ⟨eb r.num, 0, none⟩)][t]? = some u → (w2.alloc (.cells #[.pointer (some ⟨eb r.num, 0, none⟩)] 75)).cell? ((⟨w2.heap.size, 0, none⟩ : Addr).add t) = some u) := fun t u => news_new t u
        go_wp2_with (at_builtin; go_must (refine wpList_append_lies _ rfl (.tmp 25) (.tmp 27) 73 rfl 0 75 i0 (.pointer none) 1 8 Tryz.underlying73 hi hi0 hi1 hi2 rfl (by decide) (.slice ao n cap) n (encE eb (airs S ++ ks)) rfl HO.out ⟨w2.heap.size, 0, none⟩ 1 1 [Value.pointer (some ⟨eb r.num, 0, none⟩)] rfl rfl HW.out (by intro u hu; simp at hu; subst hu; rfl) (by decide) (by unfold maxLen; have := hc.out; omega) (by have := hc.out; omega) (Nat.zero_le _) (w2.heap.size + 1) (by simp) ?_; intro g cap' w3 hown hgrow hat hlt3; have HX := hide (own_rel HB1.out hrow1.out hgrow hown hat); have HG := hide ((HRG.out.alloc _).kept hgrow (ne_own hrow1.out hbm.out) (row_ne_iter hrow1.out.1 HRG.out)); clear hown hgrow hat hlt3))
        go_roundw
        case rel => exact ⟨_, cnt1, n + 1, cap', ks ++ [r.num], some ⟨g, 0, none⟩, HG, rfl, by show n + 1 + cnt1 ≤ _; have := hnl.out; have := HLT.out; omega, by show n + 1 = _; rw [← List.append_assoc, List.length_append, hn.out]; rfl, HI, by have := HX.out.2; show Row _ _ _ _ _ _ _ _; rw [← List.append_assoc, encE_append]; exact this, HX.out.1⟩
        case measure => rw [HG.out.left_eq, HL.out]; exact HLT.out
      · have b1 : (r.state == 0) = false := beq_eq_false_iff_ne.2 hs
        have HI := hide (hi'.out.no HP.out hr hs)
        have hq8 := HQ8.out
        clear hs HQ8
        go_wp2
        go_roundw
        case rel => exact ⟨_, cnt1, n, cap, ks, ao, HRG, rfl, by show n + cnt1 ≤ _; have := hnl.out; have := HLT.out; omega, hn, HI, hrow1, HB1⟩
        case measure => rw [HRG.out.left_eq, HL.out]; exact HLT.out
end Go.Proofs.YtiabdbeejkadnabGreatDoor

/- The program's queue (stage 2's code): ready: the requests that may go now, in their order. Own work of the verifier. -/
namespace Go.Proofs.YtiabdbeejkadnabGreatDoor
open Go.RowKit Go.Maps Go.Sort Go.Shelf

def clashB (x e : Rq) : Bool := x.page == e.page && (x.write || e.write)
theorem entry_clashes (b1 b2 : Nat) (x e : Rq) (w : World) (h1 : w.cell? ⟨b1, 1, none⟩ = some (.int .i64 x.page)) (h2 : w.cell? ⟨b1, 2, none⟩ = some (.bool x.write)) (k1 : w.cell? ⟨b2, 1, none⟩ = some (.int .i64 e.page)) (k2 : w.cell? ⟨b2, 2, none⟩ = some (.bool e.write)) :
    Calls Tryz.prog 69 #[.pointer (some ⟨b1, 0, none⟩), .pointer (some ⟨b2, 0, none⟩)] w fun r w' => r = .returned (.bool (clashB x e)) ∧ ∃ q, w' = w.drewN q := by
  unfold clashB
  by_cases hp : x.page = e.page
  · have bp : (x.page == e.page) = true := beq_iff_eq.2 hp
    rw [bp]
    cases hx : x.write with
    | true =>
      rw [hx] at h2
      go_enter Tryz.func69, Tryz.ntmps69
      go_wp2
      go_quiet (fail)
      go_wp2
      go_ret
      exact ⟨rfl, _, rfl⟩
    | false =>
      rw [hx] at h2
      cases he : e.write with
      | true =>
        rw [he] at k2
        go_enter Tryz.func69, Tryz.ntmps69
        go_wp2
        go_quiet (fail)
        go_wp2
        go_ret
        exact ⟨rfl, _, rfl⟩
      | false =>
        rw [he] at k2
        go_enter Tryz.func69, Tryz.ntmps69
        go_wp2
        go_quiet (fail)
        go_wp2
        go_ret
        exact ⟨rfl, _, rfl⟩
  · have bp : (x.page == e.page) = false := beq_eq_false_iff_ne.2 hp
    rw [bp]
    go_enter Tryz.func69, Tryz.ntmps69
    go_wp2
    go_quiet (fail)
    go_wp2
    go_ret
    exact ⟨rfl, _, rfl⟩

section
variable {S : St} {X : List Rq}
theorem held_pos (h : X.Pairwise Lt2) {i j : Nat} (hi : i < X.length) (hj : j < X.length) (hl : Lt2 (X[j]) (X[i])) : j < i := by
  rw [List.pairwise_iff_getElem] at h
  rcases Nat.lt_trichotomy j i with e | e | e
  · exact e
  · subst e; exact absurd hl (Lt2.asymm _ _ hl)
  · exact absurd hl (Lt2.asymm _ _ (h i j hi hj e))
theorem blocked_eq (h : IsHeld S X) {i : Nat} (hi : i < X.length) : (S.reqs.any fun x => decide (x.num < (X[i]).num) && blocksB (X[i]) x) = (X.take i).any fun x => clashB x (X[i]) := by
  rw [Bool.eq_iff_iff]
  simp only [List.any_eq_true, Bool.and_eq_true, decide_eq_true_eq]
  constructor
  · rintro ⟨x, hx, hn, hb⟩
    simp only [blocksB, Bool.and_eq_true, beq_iff_eq, Bool.or_eq_true] at hb
    obtain ⟨⟨h1, h2⟩, h3⟩ := hb
    obtain ⟨j, hj, rfl⟩ := List.getElem_of_mem ((h.mem x).2 ⟨hx, h3⟩)
    have := held_pos h.sorted hi hj (Or.inr ⟨h1, hn⟩)
    refine ⟨X[j], List.mem_take_iff_getElem.2 ⟨j, by omega, rfl⟩, ?_⟩
    simp only [clashB, Bool.and_eq_true, beq_iff_eq, Bool.or_eq_true]
    exact ⟨h1, h2⟩
  · rintro ⟨x, hx, hc⟩
    obtain ⟨j, hj, rfl⟩ := List.mem_take_iff_getElem.1 hx
    simp only [clashB, Bool.and_eq_true, beq_iff_eq, Bool.or_eq_true] at hc
    have hm := (h.mem _).1 (List.getElem_mem (by omega : j < X.length))
    have hlt := (List.pairwise_iff_getElem.1 h.sorted) j i (by omega) hi (by omega)
    refine ⟨X[j], hm.1, by unfold Lt2 at hlt; omega, ?_⟩
    simp only [blocksB, Bool.and_eq_true, beq_iff_eq, Bool.or_eq_true]
    exact ⟨⟨hc.1, hc.2⟩, hm.2⟩
theorem ready_not {i : Nat} (hi : i < X.length) (hs : (X[i]).state ≠ 0 ∨ S.now < (X[i]).after) : readyB S (X[i]) = false := by
  unfold readyB
  rcases hs with hs | hs
  · have : ((X[i]).state == 0) = false := beq_eq_false_iff_ne.2 hs
    rw [this]; rfl
  · have : decide ((X[i]).after ≤ S.now) = false := by simp; omega
    rw [this]; simp
theorem ready_is (h : IsHeld S X) {i : Nat} (hi : i < X.length) (hs : (X[i]).state = 0) (ha : (X[i]).after ≤ S.now) : readyB S (X[i]) = !((X.take i).any fun x => clashB x (X[i])) := by
  unfold readyB
  rw [← blocked_eq h hi]
  simp [hs, ha]
theorem rTo_yes {i : Nat} (hi : i < X.length) (hr : readyB S (X[i]) = true) : (X.take (i + 1)).filter (readyB S) = (X.take i).filter (readyB S) ++ [X[i]] := by
  rw [List.take_succ_eq_append_getElem hi, List.filter_append]; simp [hr]
theorem rTo_no {i : Nat} (hi : i < X.length) (hr : readyB S (X[i]) = false) : (X.take (i + 1)).filter (readyB S) = (X.take i).filter (readyB S) := by
  rw [List.take_succ_eq_append_getElem hi, List.filter_append]; simp [hr]
theorem IsHeld.ready (h : IsHeld S X) : IsReady S (X.filter (readyB S)) := by
  refine ⟨h.sorted.filter _, fun r => ?_⟩
  rw [List.mem_filter, h.mem]
  constructor
  · rintro ⟨⟨h1, _⟩, h2⟩; exact ⟨h1, h2⟩
  · rintro ⟨h1, h2⟩
    refine ⟨⟨h1, Or.inl ?_⟩, h2⟩
    simp only [readyB, Bool.and_eq_true, beq_iff_eq] at h2
    exact h2.1.1
end
theorem ent_cells {W : World} {b : Nat} {r : Rq} {ds : List UInt8} (h : W.heap[b]? = some (.cells (entC r ds) 80 (0, 0))) : W.cell? ⟨b, 0, none⟩ = some (.int .i64 r.num) ∧ W.cell? ⟨b, 1, none⟩ = some (.int .i64 r.page) ∧ W.cell? ⟨b, 2, none⟩ = some (.bool r.write) ∧ W.cell? ⟨b, 7, none⟩ = some (.int .i64 r.tries) ∧ W.cell? ⟨b, 8, none⟩ = some (.int .i64 r.after) ∧ W.cell? ⟨b, 9, none⟩ = some (.int .i64 r.state) := by
  simp [World.cell?, h, entC]
theorem ProgBlk.entAt {w W : World} {F : Nat → Prop} {xb : Nat} {S : St} {E : List Int} {bm : Nat} {D : DataW Unit} {eb : Int → Nat} {c : Array Value} {af : Option Addr} {cf : Nat} {vs : List (Option Addr × Nat)} (h : ProgBlk w F xb S E bm D eb c af cf vs) (hb : Below w.heap.size w W) {r : Rq} (hr : r ∈ S.reqs) : W.cell? ⟨eb r.num, 0, none⟩ = some (.int .i64 r.num) ∧ W.cell? ⟨eb r.num, 1, none⟩ = some (.int .i64 r.page) ∧ W.cell? ⟨eb r.num, 2, none⟩ = some (.bool r.write) ∧ W.cell? ⟨eb r.num, 7, none⟩ = some (.int .i64 r.tries) ∧ W.cell? ⟨eb r.num, 8, none⟩ = some (.int .i64 r.after) ∧ W.cell? ⟨eb r.num, 9, none⟩ = some (.int .i64 r.state) := by
  obtain ⟨ds, _, he⟩ := h.e.ent r hr
  exact ent_cells ((hb.block _ (lt_of_heap he)).trans he)
theorem ptr_cell {w : World} {F : Nat → Prop} {eb : Int → Nat} {X : List Rq} {g n cap : Nat} (h : Row w F 75 1 (some ⟨g, 0, none⟩) n cap (encE eb (X.map (·.num)))) (hn : n = X.length) {k : Nat} (hk : k < X.length) : w.cell? ⟨g, k, none⟩ = some (.pointer (some ⟨eb (X[k]).num, 0, none⟩)) := by
  rw [Row.cellAt h k (by omega)]
  simp [encE, hk]
/-- what ready leaves: a row of the entries -/
def ReadyAt (eb : Int → Nat) (S : St) (w : World) (e : Ending) (w' : World) : Prop := ∃ L ao n cap, e = .returned (.slice ao n cap) ∧ IsReady S L ∧ n = L.length ∧ Row w' (fun b => w.heap.size ≤ b) 75 1 ao n cap (encE eb (L.map (·.num))) ∧ Below w.heap.size w w'
def rTo (S : St) (X : List Rq) (i : Nat) : List Rq := (X.take i).filter (readyB S)

set_option maxHeartbeats 8000000 in
set_option maxRecDepth 1000000 in
theorem prog_ready (S : St) (F : Nat → Prop) (xb bm : Nat) (D : DataW Unit) (eb : Int → Nat) (c : Array Value) (af : Option Addr) (cf : Nat) (vs : List (Option Addr × Nat)) (w : World) (h : ProgBlk w F xb S [] bm D eb c af cf vs) (hl : S.last ≤ 1000000) :
    Calls Tryz.prog 50 #[.pointer (some ⟨xb, 0, none⟩)] w fun e w' => ReadyAt eb S w e w' := by
  obtain ⟨i0, hi, hi0, hi1, hi2⟩ := info_parts info_ptr
  have d1 := h.cell 1 _ h.q.c1
  have HQ := hide h
  have hxl := h.lt
  have HRL : Hid ((S.reqs.length : Int) ≤ 1000000) := by have := h.wf.reqsLen; show _ ≤ _; omega
  clear h
  go_enter Tryz.func50, Tryz.ntmps50
  go_wp2
  go_step3
  go_wp2_with fail
  refine (prog_held S F xb bm D eb c af cf vs _ HQ.out hl).mono ?_
  rintro e w1 ⟨X, ao, n, cap, rfl, hX, hn, hrow, hb⟩
  have HX := hide hX
  have HN := hide hn
  have HR := hide hrow
  have HB := hide hb
  have hnl : n ≤ 1000000 := by
    have h1 : X.length ≤ S.reqs.length := by
      have := nodup_len (l := X.map (·.num)) (m := S.reqs.map (·.num)) (by
        show (X.map (·.num)).Pairwise _
        rw [List.pairwise_map]
        refine hX.sorted.imp_of_mem (fun ha hb hlt e => ?_)
        have := num_uniq HQ.out.wf.sorted ((hX.mem _).1 ha).1 ((hX.mem _).1 hb).1 e
        subst this
        exact Lt2.asymm _ _ hlt hlt) (fun x hx => by
        obtain ⟨r, hr, rfl⟩ := List.mem_map.1 hx
        exact List.mem_map.2 ⟨r, ((hX.mem r).1 hr).1, rfl⟩)
      simpa using this
    have := HRL.out
    omega
  clear hX hn hrow hb hl
  go_wp2
  go_step3
  go_wp2
  go_loopg [4, 13] n (fun gk l i wr => ∃ (k m capr : Nat) (ar : Option Addr), k ≤ n ∧ gk = n - k ∧ i = .int .i64 k ∧ l = .slice ar m capr ∧ Hid (m = (rTo S X k).length) ∧ Hid (Row wr (fun b => w1.heap.size ≤ b) 75 1 ar m capr (encE eb ((rTo S X k).map (·.num)))) ∧ Hid (Below w1.heap.size w1 wr))
  case atStart => exact ⟨0, 0, 0, none, Nat.zero_le _, rfl, rfl, rfl, rfl, Row.nil _ _ _ _, Below.refl _ _⟩
  case round =>
    obtain ⟨k, m, capr, ar, hk, hgk, rfl, rfl, hm, hrr, hbr⟩ := hrel
    by_cases hlt : k < n
    · have hkX : k < X.length := by rw [← HN.out]; exact hlt
      obtain ⟨g, cur, hg, _, hgb, _, _⟩ := Row.some HR.out (by omega)
      subst hg
      have hgl := lt_of_heap hgb
      have hxm := ((HX.out.mem _).1 (List.getElem_mem hkX)).1
      have HBW : Hid (Below w.heap.size w wr) := HB.out.trans (hbr.out.mono HB.out.size)
      have ck := (hbr.out.cell (p := ⟨g, k, none⟩) hgl).trans (ptr_cell HR.out HN.out hkX)
      have d1' := (HBW.out.cell (p := ⟨xb, 1, none⟩) hxl).trans d1
      obtain ⟨x0, x1, x2, x7, x8, x9⟩ := HQ.out.entAt HBW.out hxm
      clear hgb d1
      by_cases hns : (X[k]).state ≠ 0 ∨ S.now < (X[k]).after
      · have HT := hide (rTo_no (S := S) hkX (ready_not hkX hns))
        by_cases hs0 : (X[k]).state = 0
        · have hs1 : S.now < (X[k]).after := hns.elim (fun e => absurd hs0 e) id
          have b1 : ((X[k]).state != 0) = false := by simp [hs0]
          clear hns
          generalize X[k] = r at *
          go_wp2
          go_quiet (fail)
          go_wp2
          go_roundg (n - (k + 1))
          case measure => omega
          case rel => exact ⟨k + 1, m, capr, ar, by omega, rfl, by go_num, rfl, by show m = _; unfold rTo; rw [HT.out]; exact hm.out, by show Row _ _ _ _ _ _ _ _; unfold rTo; rw [HT.out]; exact hrr.out.same (fun _ _ => rfl), below_drewN hbr.out _⟩
        · have b1 : ((X[k]).state != 0) = true := by simp [hs0]
          clear hns
          generalize X[k] = r at *
          go_wp2
          go_quiet (fail)
          go_wp2
          go_roundg (n - (k + 1))
          case measure => omega
          case rel => exact ⟨k + 1, m, capr, ar, by omega, rfl, by go_num, rfl, by show m = _; unfold rTo; rw [HT.out]; exact hm.out, by show Row _ _ _ _ _ _ _ _; unfold rTo; rw [HT.out]; exact hrr.out.same (fun _ _ => rfl), below_drewN hbr.out _⟩
      · have hs0 : (X[k]).state = 0 := Decidable.byContradiction fun e => hns (Or.inl e)
        have hs1 : ¬ S.now < (X[k]).after := fun e => hns (Or.inr e)
        have b1 : ((X[k]).state != 0) = false := by simp [hs0]
        have HRI := hide (ready_is HX.out hkX hs0 (by omega))
        clear hns hs0
        have HXM := hide hxm
        have HCK := hide ck
        have HY : Hid (rTo S X (k + 1) = if readyB S (X[k]) = true then rTo S X k ++ [X[k]] else rTo S X k) := by
          show _ = _
          unfold rTo
          split
          · rename_i h; exact rTo_yes hkX h
          · rename_i h; exact rTo_no hkX (by simpa using h)
        clear hxm
        generalize X[k] = r at *
        go_wp2
        go_quiet (fail)
        go_wp2
        go_loopg [38] k (fun gj j wj => ∃ (t q : Nat), t ≤ k ∧ gj = k - t ∧ j = .int .i64 t ∧ wj = wr.drewN q ∧ Hid ((X.take t).any (fun x => clashB x r) = false))
        case atStart => exact ⟨0, nq, Nat.zero_le _, rfl, rfl, rfl, rfl⟩
        case round =>
          obtain ⟨t, q, ht, hgj, rfl, rfl, hcl⟩ := hrel
          by_cases hlt2 : t < k
          · have htX : t < X.length := by omega
            have ct : (wr.drewN q).cell? ⟨g, t, none⟩ = some (.pointer (some ⟨eb (X[t]).num, 0, none⟩)) := (hbr.out.cell (p := ⟨g, t, none⟩) hgl).trans (ptr_cell HR.out HN.out htX)
            obtain ⟨_, y1, y2, _, _, _⟩ := HQ.out.entAt (W := wr.drewN q) (below_drewN HBW.out q) ((HX.out.mem _).1 (List.getElem_mem htX)).1
            have z1 : (wr.drewN q).cell? ⟨eb r.num, 1, none⟩ = some (.int .i64 r.page) := x1
            have z2 : (wr.drewN q).cell? ⟨eb r.num, 2, none⟩ = some (.bool r.write) := x2
            have HCC := hide (entry_clashes (eb (X[t]).num) (eb r.num) (X[t]) r (wr.drewN q) y1 y2 z1 z2)
            have HTK : Hid ((X.take (t + 1)).any (fun x => clashB x r) = ((X.take t).any (fun x => clashB x r) || clashB (X[t]) r)) := by show _ = _; rw [List.take_succ_eq_append_getElem htX, List.any_append]; simp
            have HIN : Hid (clashB (X[t]) r = true → readyB S r = false) := fun hc => by
              rw [HRI.out]
              have : (X.take k).any (fun x => clashB x r) = true := List.any_eq_true.2 ⟨X[t], List.mem_take_iff_getElem.2 ⟨t, by omega, rfl⟩, hc⟩
              rw [this]; rfl
            clear y1 y2 z1 z2
            cases hcb : clashB (X[t]) r with
            | true =>
              rw [hcb] at HCC HTK
              generalize X[t] = x at *
              go_wp2_with fail
              refine HCC.out.mono ?_
              rintro e w2 ⟨rfl, q2, hw2⟩
              rw [World.drewN_drewN] at hw2
              subst hw2
              go_wp2
              go_roundg (n - (k + 1))
              case measure => omega
              case rel =>
                have hrf := HIN.out hcb
                exact ⟨k + 1, m, capr, ar, by omega, rfl, by go_num, rfl, by show m = _; rw [HY.out, hrf]; exact hm.out, by show Row _ _ _ _ _ _ _ _; rw [HY.out, hrf]; exact hrr.out.same (fun _ _ => rfl), below_drewN hbr.out _⟩
            | false =>
              rw [hcb] at HCC HTK
              generalize X[t] = x at *
              go_wp2_with fail
              refine HCC.out.mono ?_
              rintro e w2 ⟨rfl, q2, hw2⟩
              rw [World.drewN_drewN] at hw2
              subst hw2
              go_wp2
              go_roundg (k - (t + 1))
              case measure => omega
              case rel => exact ⟨t + 1, q + q2, by omega, rfl, by go_num, rfl, by show _ = _; rw [HTK.out, hcl.out]; rfl⟩
          · have htk : t = k := by omega
            subst htk
            have hrt : readyB S r = true := by rw [HRI.out, hcl.out]; rfl
            have HY2 : Hid (rTo S X (t + 1) = rTo S X t ++ [r]) := by show _ = _; rw [HY.out, hrt]; rfl
            have HRQ : Hid (Row (wr.drewN q) (fun b => w1.heap.size ≤ b) 75 1 ar m capr (encE eb ((rTo S X t).map (·.num)))) := hrr.out.same (fun _ _ => rfl)
            have HBQ : Hid (Below w1.heap.size w1 (wr.drewN q)) := below_drewN hbr.out q
            have hml : m ≤ 1000000 := by
              have h1 : (rTo S X t).length ≤ X.length := by
                unfold rTo
                have h1 := List.length_filter_le (readyB S) (X.take t)
                have h2 := List.length_take_le' t X
                omega
              rw [hm.out]
              have := HN.out
              omega
            have HMM := hide hm.out
            clear HY HRI hrt hcl hrr hbr hm
            generalize hwq : wr.drewN q = wq at *
            clear hwq
            have HO : Hid ((wq.alloc (.cells #[.pointer (some ⟨eb r.num, 0, none⟩)] 75)).ownsRow 0 75 1 (.slice ar m capr) m (encE eb ((rTo S X t).map (·.num)))) := (HRQ.out.alloc _).1
            have HW : Hid (∀ (j : Nat) (u : Value), [Value.pointer (some ⟨eb r.num, 0, none⟩)][j]? = some u → (wq.alloc (.cells #[.pointer (some ⟨eb r.num, 0, none⟩)] 75)).cell? ((⟨wq.heap.size, 0, none⟩ : Addr).add j) = some u) := fun j u => news_new j u
            go_wp2_with (at_builtin; go_must (refine wpList_append_lies _ rfl (.tmp 46) (.tmp 48) 72 rfl 0 75 i0 (.pointer none) 1 8 Tryz.underlying72 hi hi0 hi1 hi2 rfl (by decide) (.slice ar m capr) m (encE eb ((rTo S X t).map (·.num))) rfl HO.out ⟨wq.heap.size, 0, none⟩ 1 1 [Value.pointer (some ⟨eb r.num, 0, none⟩)] rfl rfl HW.out (by intro u hu; simp at hu; subst hu; rfl) (by decide) (by unfold maxLen; omega) (by omega) (Nat.zero_le _) (wq.heap.size + 1) (by simp) ?_; intro g2 cap' w3 hown hgrow hat hlt3; have HXX := hide (own_rel HBQ.out HRQ.out hgrow hown hat); clear hown hgrow hat hlt3))
            go_roundg (n - (t + 1))
            case measure => omega
            case rel => exact ⟨t + 1, m + 1, cap', some ⟨g2, 0, none⟩, by omega, rfl, by go_num, rfl, by show m + 1 = _; rw [HY2.out, List.length_append, HMM.out]; rfl, by show Row _ _ _ _ _ _ _ _; rw [HY2.out, List.map_append, encE_append]; exact HXX.out.2, HXX.out.1⟩
    · have hkn : k = n := by omega
      subst hkn
      have hfin : Hid (rTo S X k = X.filter (readyB S)) := by show _ = _; unfold rTo; rw [List.take_of_length_le (by rw [← HN.out]; omega)]
      go_wp2
      (try rw [Exit.noGoto_ret])
      go_ret
      refine ⟨X.filter (readyB S), ar, m, capr, rfl, HX.out.ready, by rw [← hfin.out]; exact hm.out, ?_, HB.out.trans (hbr.out.mono HB.out.size)⟩
      rw [← hfin.out]
      exact hrr.out.mono (fun b hb => by have := HB.out.size; omega)
end Go.Proofs.YtiabdbeejkadnabGreatDoor
