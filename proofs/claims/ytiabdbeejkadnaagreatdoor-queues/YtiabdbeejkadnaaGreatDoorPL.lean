/- The program's queue: Waiting (a range over the map, slices.Sort). Own work of the verifier. -/
import Derived.Test.YtiabdbeejkadnaaGreatDoorPK
import Derived.Test.YtiabdbeejkadnaaGreatDoorSort
import Derived.Sort.OwnSortedInts
import Derived.Maps.RangeWalk
namespace Go.Proofs.YtiabdbeejkadnaaGreatDoor
open Go.RowKit Go.Maps Go.Sort Go.Shelf

/-! ### slices.Sort of nil -/
theorem ins_nil (w : World) : Calls Tryz.prog 97 #[.slice none 0 0, .int .i64 0, .int .i64 0] w fun e w' => e = .returned (.tuple #[]) ∧ w' = w := by
  go_enter Tryz.func97, Tryz.ntmps97
  go_wp2
  refine wp_loop_rounds 1 ?_
  rw [rounds_succ]
  go_wp2
  go_end0
  exact ⟨rfl, rfl⟩
theorem len_nil (w : World) : Calls Tryz.prog 62 #[.int .u64 0] w fun e w' => e = .returned (.int .i64 (bitsLen 0 : Nat)) ∧ w' = w :=
  calls_of_every_depth fun D => Any.lenWalkInAll { Tryz.lays189 with } D 0 w (by omega)
theorem pdq_nil (l : Int) (w : World) : Calls Tryz.prog 61 #[.slice none 0 0, .int .i64 0, .int .i64 0, .int .i64 l] w fun e w' => e = .returned (.tuple #[]) ∧ w' = w := by
  go_enter Tryz.func61, Tryz.ntmps61
  go_wp2
  refine wp_loop_rounds 1 ?_
  rw [rounds_succ]
  go_wp2_with (go_at_call 97; refine (ins_nil _).mono ?_; rintro e w' ⟨rfl, rfl⟩)
  (try simp only [Exit.inBlock, Exit.then]); refine bodyPost_ret (results_none rfl _ _ _) rfl ?_
  exact ⟨rfl, rfl⟩
theorem sort_nil (w : World) : Calls Tryz.prog 39 #[.slice none 0 0] w fun e w' => e = .returned (.tuple #[]) ∧ w' = w := by
  go_enter Tryz.func39, Tryz.ntmps39
  go_wp2_with (first | (go_at_call 62; refine (len_nil _).mono ?_; rintro e w' ⟨rfl, rfl⟩) | (go_at_call 61; refine (pdq_nil _ _).mono ?_; rintro e w' ⟨rfl, rfl⟩))
  go_end0
  exact ⟨rfl, rfl⟩

/-! ### the loop -/
/-- one step of 'for number, e := range q.requests' -/
theorem wpList_next_mine {ops : Array Oper} {rest : List Oper} {o : Oper} {a : Act} {Q : Exit → Act → World → Prop} (w : World) (hg : o.guard = none) (it : Operand) (hop : o.op = Op.next it false)
    (b r n : Nat) (D : DataW Unit) (left : Lit → Bool) (cnt : Nat) (eb : Int → Nat) (hit : a.eval it = .pointer (some ⟨r, 0, none⟩)) (h : w.ranges Tryz.prog 3 ptrR b r n D left cnt)
    (hat0 : ∀ x, left (.int .i64 x) = true → D.atKey (.int .i64 x) .nil = .lit (.int .i64 (eb x)))
    (hDone : cnt = 0 → (∀ kl, left kl = false) → wpList Tryz.prog ops Q rest (a.put o.dst (.tuple #[.bool false])) w)
    (hMore : ∀ (x : Int) (w' : World) (cnt' : Nat), left (.int .i64 x) = true → w'.ranges Tryz.prog 3 ptrR b r n D (fun z => left z && !z.sameKey (.int .i64 x)) cnt' → cnt' < cnt → w.grownBy w' (some r) → w'.heap.size = w.heap.size →
      (Instr.entry (.pointer (some ⟨r, 0, none⟩))).run Tryz.prog w' = .ok (.tuple #[.int .i64 x, .pointer (some ⟨eb x, 0, none⟩)]) w' → wpList Tryz.prog ops Q rest (a.put o.dst (.tuple #[.bool true, .int .i64 x, .pointer (some ⟨eb x, 0, none⟩)])) w') :
    wpList Tryz.prog ops Q (o :: rest) a w := by
  refine wpList_next_ranges w hg it hop 3 keyLaw ptrR (Value.int .i64) Value.pointer (fun key kl hkey => by obtain ⟨x, rfl, _⟩ := Maps.keyOf_int_inv Tryz.underlying3 hkey; exact ⟨x, rfl⟩)
    (fun v y hv => by cases v <;> simp [ptrR] at hv; exact ⟨_, rfl⟩) b r n D left cnt hit h hDone ?_
  intro x c kl y w' cnt' hkey hlk hv hat hrg hlt hgr hsz hen
  obtain ⟨x', ex, rfl, hwx⟩ := Maps.keyOf_int_inv Tryz.underlying3 hkey
  cases ex
  obtain ⟨y1, y2⟩ := y
  have e1 : y1 = .lit (.int .i64 (eb x)) := (hat .nil).symm.trans (hat0 x hlk)
  subst e1
  have e2 := ptrR_inv hv
  cases e2
  exact hMore x w' cnt' hlk hrg hlt hgr hsz hen

structure WaitInv (R : List Rq) (T : List Int) (left : Lit → Bool) (ks : List Int) : Prop where
  nd : ks.Nodup
  mem : ∀ n, n ∈ ks ↔ (left (.int .i64 n) = false ∧ ∃ r ∈ R, r.num = n ∧ r.state = 0)
  left : ∀ n, left (.int .i64 n) = true → ∃ r ∈ R, r.num = n ∧ toldHas T n = false
theorem strikeI (left : Lit → Bool) (x n : Int) : (left (.int .i64 n) && !(Lit.int .i64 n).sameKey (.int .i64 x)) = (left (.int .i64 n) && !decide (n = x)) := by simp [Lit.sameKey]
theorem uniq {R : List Rq} (h : R.Pairwise (fun a b => a.num < b.num)) {r r' : Rq} (hr : r ∈ R) (hr' : r' ∈ R) (e : r.num = r'.num) : r = r' := by
  induction R with
  | nil => simp at hr
  | cons a l ih =>
    obtain ⟨h1, h2⟩ := List.pairwise_cons.1 h
    rcases List.mem_cons.1 hr with ea | hr
    · rcases List.mem_cons.1 hr' with eb | hr'
      · rw [ea, eb]
      · have := h1 _ hr'; rw [ea] at e; omega
    · rcases List.mem_cons.1 hr' with eb | hr'
      · have := h1 _ hr; rw [eb] at e; omega
      · exact ih h2 hr hr'
theorem WaitInv.yes {R : List Rq} {T : List Int} {left : Lit → Bool} {ks : List Int} (h : WaitInv R T left ks) {r : Rq} (hr : r ∈ R) (hl : left (.int .i64 r.num) = true) (hs : r.state = 0) :
    WaitInv R T (fun z => left z && !z.sameKey (.int .i64 r.num)) (ks ++ [r.num]) := by
  have hn : r.num ∉ ks := fun hm => by have := ((h.mem _).1 hm).1; rw [hl] at this; cases this
  refine ⟨?_, fun n => ?_, fun n hn => ?_⟩
  · rw [List.nodup_append]
    exact ⟨h.nd, List.pairwise_singleton _ _, fun a ha b hb => by rw [List.mem_singleton] at hb; subst hb; exact fun e => hn (e ▸ ha)⟩
  · show _ ↔ ((left (.int .i64 n) && !(Lit.int .i64 n).sameKey (.int .i64 r.num)) = false ∧ _)
    rw [strikeI, List.mem_append, List.mem_singleton, h.mem]
    by_cases e : n = r.num
    · subst e
      simp only [decide_true, Bool.not_true, Bool.and_false, true_and, or_true]
      exact ⟨fun _ => ⟨r, hr, rfl, hs⟩, fun _ => trivial⟩
    · simp [e]
  · have hn : (left (.int .i64 n) && !(Lit.int .i64 n).sameKey (.int .i64 r.num)) = true := hn
    rw [strikeI] at hn
    simp at hn
    exact h.left n hn.1
theorem WaitInv.no {R : List Rq} {T : List Int} {left : Lit → Bool} {ks : List Int} (h : WaitInv R T left ks) (hp : R.Pairwise (fun a b => a.num < b.num)) {r : Rq} (hr : r ∈ R) (hs : r.state ≠ 0) :
    WaitInv R T (fun z => left z && !z.sameKey (.int .i64 r.num)) ks := by
  refine ⟨h.nd, fun n => ?_, fun n hn => ?_⟩
  · show _ ↔ ((left (.int .i64 n) && !(Lit.int .i64 n).sameKey (.int .i64 r.num)) = false ∧ _)
    rw [strikeI, h.mem]
    by_cases e : n = r.num
    · subst e
      have : ¬ ∃ r' ∈ R, r'.num = r.num ∧ r'.state = 0 := fun ⟨r', hr', e1, e2⟩ => by rw [uniq hp hr' hr e1] at e2; exact hs e2
      simp [this]
    · simp [e]
  · have hn : (left (.int .i64 n) && !(Lit.int .i64 n).sameKey (.int .i64 r.num)) = true := hn
    rw [strikeI] at hn
    simp at hn
    exact h.left n hn.1
theorem waitM_sorted {S : St} (h : S.reqs.Pairwise (fun a b => a.num < b.num)) : (waitM S).Pairwise (fun a b => a < b) := by
  unfold waitM
  rw [List.pairwise_map]
  exact h.filter _
theorem WaitInv.fin {S : St} {T : List Int} {left : Lit → Bool} {ks : List Int} (h : WaitInv S.reqs T left ks) (hp : S.reqs.Pairwise (fun a b => a.num < b.num)) (hl : ∀ kl, left kl = false) :
    ks.length = (waitM S).length ∧ ks.mergeSort (fun x y => decide (x ≤ y)) = waitM S := by
  have hs := waitM_sorted hp
  have hnd : (waitM S).Nodup := hs.imp (fun h => Int.ne_of_lt h)
  have hperm : ks.Perm (waitM S) := (List.perm_ext_iff_of_nodup h.nd hnd).2 fun n => by
    rw [h.mem]
    unfold waitM
    simp only [hl, true_and, List.mem_map, List.mem_filter, beq_iff_eq]
    constructor
    · rintro ⟨r, hr, e1, e2⟩; exact ⟨r, ⟨hr, e2⟩, e1⟩
    · rintro ⟨r, ⟨hr, e2⟩, e1⟩; exact ⟨r, hr, e1, e2⟩
  refine ⟨hperm.length_eq, ?_⟩
  have h1 : (ks.mergeSort (fun x y => decide (x ≤ y))).Pairwise (fun x y => x ≤ y) := by
    have := List.pairwise_mergeSort (le := fun x y : Int => decide (x ≤ y)) (fun a b c h1 h2 => by simp at *; omega) (fun a b => by simp; omega) ks
    exact this.imp (fun h => by simpa using h)
  have h2 : (waitM S).Pairwise (fun x y => x ≤ y) := hs.imp (fun h => Int.le_of_lt h)
  exact ((List.mergeSort_perm ks _).trans hperm).eq_of_pairwise (fun a b _ _ h1 h2 => Int.le_antisymm h1 h2) h1 h2

theorem ne_own {w : World} {lim : Nat} {e : TypeId} {size : Nat} {ao : Option Addr} {n cap b : Nat} {xs : List Value} (h : Row w (fun b => lim ≤ b) e size ao n cap xs) (hb : b < lim) : some b ≠ Value.ownBlock (.slice ao n cap) := by
  cases ao with
  | none => simp [Value.ownBlock]
  | some a => have := h.2 a rfl; simp [Value.ownBlock]; omega
theorem after_sort {w w1 : World} {g cap n : Nat} {os : Array Obj} {ks ts : List Int} (hb : Below w.heap.size w w1) (hrow : Row w1 (fun b => w.heap.size ≤ b) 3 1 (some ⟨g, 0, none⟩) ks.length cap (encI ks)) (hl : ts.length = ks.length) :
    Row (grow (putRow (Value.int .i64) (Sort.ahead w1 n) g 0 ts.toArray) os) (fun b => w.heap.size ≤ b) 3 1 (some ⟨g, 0, none⟩) ks.length cap (encI ts) ∧ Below w.heap.size w (grow (putRow (Value.int .i64) (Sort.ahead w1 n) g 0 ts.toArray) os) := by
  have hge := hrow.2 _ rfl
  rcases hrow.1.2 with ⟨h0, _⟩ | ⟨g', cap', cur, hv, hg, hh, h1, h2, h3, h4⟩
  · cases h0
  cases hv
  exact ⟨⟨ownsRow_sortedI hl (Nat.zero_le _) hh h1 h2 h3, fun a ha => by cases ha; exact hge⟩, hb.grown (grownBy_sortedI _) hb.size (fun k hk => by cases hk; exact hge)⟩
theorem holds_row {w1 : World} {F : Nat → Prop} {g cap : Nat} {ks : List Int} (hrow : Row w1 F 3 1 (some ⟨g, 0, none⟩) ks.length cap (encI ks)) : Holds (Value.int .i64) w1 g 0 ks.toArray ∧ g < w1.heap.size := by
  rcases hrow.1.2 with ⟨h0, _⟩ | ⟨g', cap', cur, hv, hg, hh, h1, h2, h3, h4⟩
  · cases h0
  cases hv
  exact ⟨holds_of_blockI hh (by rw [Nat.mul_one] at h4; exact h4), lt_of_heap hh⟩

set_option maxHeartbeats 1000000 in
set_option maxRecDepth 1000000 in
theorem prog_waiting (S : St) (F : Nat → Prop) (xb : Nat) (w : World) (h : ProgAt w F xb S) :
    Calls Tryz.prog 19 #[.pointer (some ⟨xb, 0, none⟩)] w fun e w' => ∃ ao n cap, e = .returned (.slice ao n cap) ∧ n = (waitM S).length ∧ Row w' (fun b => w.heap.size ≤ b) 3 1 ao n cap (encI (waitM S)) ∧ Below w.heap.size w w' := by
  obtain ⟨bm, D, eb, c, af, cf, vs, h⟩ := h
  obtain ⟨i0, hi, hi0, hi1, hi2⟩ := info_parts info_int
  have d3 := h.cell 3 _ h.q.c3
  have HQ : Hid (ProgBlk w F xb S [] bm D eb c af cf vs) := h
  have hbm : Hid (bm < w.heap.size) := h.ltF _ h.ownM
  clear h
  go_enter Tryz.func19, Tryz.ntmps19
  go_wp2_with fail
  refine (orEmpty_some _ _).mono ?_
  rintro e w1 ⟨rfl, hw1⟩
  have hw1 := hw1.symm
  subst hw1
  go_wp2_with (first | (at_range; refine wpList_range_own _ rfl _ 72 rfl 3 92 keyLaw Tryz.underlying72 _ bm _ D rfl HQ.out.m.map ?_; intro w0 hrg0 hg0 hs0) | go_in)
  go_frame
  go_loopw [3] (fun l wr => ∃ (left : Lit → Bool) (cnt n cap : Nat) (ks : List Int) (ao : Option Addr), Hid (wr.ranges Tryz.prog 3 ptrR bm w.heap.size S.last.toNat D left cnt) ∧ l = .slice ao n cap ∧ Hid (n + cnt ≤ 40) ∧ Hid (n = ks.length) ∧ Hid (WaitInv S.reqs S.told left ks) ∧ Hid (Row wr (fun b => w.heap.size ≤ b) 3 1 ao n cap (encI ks)) ∧ Hid (Below w.heap.size w wr)) (fun _ wr => wr.rangeLeft bm w.heap.size)
  case atStart =>
    refine ⟨_, _, 0, 0, [], none, hrg0, rfl, by have := HQ.out.wf.len; have := HQ.out.m.msize; show 0 + Maps.size D ≤ 40; omega, rfl, ⟨List.Pairwise.nil, fun n => ?_, fun n hn => ?_⟩, Row.nil _ _ _ _, (Below.refl _ _).grown hg0 (Nat.le_refl _) (fun k hk => by cases hk)⟩
    · simp only [List.not_mem_nil, false_iff]
      rintro ⟨h1, r, hr, e1, e2⟩
      rw [HQ.out.m.has] at h1
      unfold heldB at h1
      have ht : toldHas S.told n = false := by
        cases hx : toldHas S.told n with
        | false => rfl
        | true =>
          have := ((HQ.out.wf.rq r hr).told (by rw [e1]; simpa [toldHas] using hx)).2
          omega
      rw [ht, findR_isSome] at h1
      have : S.reqs.any (fun r => r.num == n) = true := List.any_eq_true.2 ⟨r, hr, by simp [e1]⟩
      rw [this] at h1; cases h1
    · rw [HQ.out.m.has] at hn
      unfold heldB at hn
      rw [findR_isSome] at hn
      simp only [Bool.and_eq_true, Bool.not_eq_true'] at hn
      obtain ⟨r, hr, e1⟩ := List.any_eq_true.1 hn.1
      exact ⟨r, hr, by simpa using e1, hn.2⟩
  case round =>
    obtain ⟨left, cnt, n, cap, ks, ao, hrg, rfl, hnl, hn, hi', hrow, hb⟩ := hrel
    go_wp2_with (first | (at_next; refine wpList_next_mine _ rfl _ rfl bm w.heap.size _ D left cnt eb rfl hrg.out ?_ ?_ ?_) | go_in)
    · intro x hx
      obtain ⟨r, hr, rfl, ht⟩ := hi'.out.left x hx
      exact HQ.out.m.at_ r hr ht
    · intro _ hl
      have HF := hide (hi'.out.fin HQ.out.wf.sorted hl)
      cases ao with
      | none =>
        have hrow0 := hrow.out.1.2
        have hnc : n = 0 ∧ cap = 0 := by
          rcases hrow0 with ⟨h0, _⟩ | ⟨g', cap', cur, hv, _⟩
          · cases h0; exact ⟨rfl, rfl⟩
          · cases hv
        obtain ⟨rfl, rfl⟩ := hnc
        clear hrow0
        go_wp2_with (go_at_call 39; refine (sort_nil _).mono ?_; rintro e w2 ⟨rfl, hw2⟩; have hw2 := hw2.symm; subst hw2)
        go_ret
        refine ⟨none, 0, 0, rfl, hn.out.trans HF.out.1, ?_, hb.out⟩
        have e1 : (waitM S) = [] := List.eq_nil_of_length_eq_zero (HF.out.1.symm.trans hn.out.symm)
        rw [e1]
        exact Row.nil _ _ _ _
      | some a0 =>
        obtain ⟨g, rfl⟩ : ∃ g, a0 = ⟨g, 0, none⟩ := by
          rcases hrow.out.1.2 with ⟨h0, _⟩ | ⟨g', cap', cur, hv, _⟩
          · cases h0
          · cases hv; exact ⟨g', rfl⟩
        have hn' : n = ks.length := hn.out
        subst hn'
        have HH := hide (holds_row hrow.out)
        have HS : Hid (Calls Tryz.prog 39 #[.slice (some ⟨g, 0, none⟩) ks.length cap] wr fun e w' =>
          e = .returned (.tuple #[]) ∧ ∃ n os, w' = grow (putRow (Value.int .i64) (Sort.ahead wr n) g 0 (ks.mergeSort fun x y => decide (x ≤ y)).toArray) os) :=
          Any.slices_Sort_int Tryz.lays189 g 0 cap ks wr HH.out.1 HH.out.2 (by have := hnl.out; omega)
        go_wp2_with (go_at_call 39; refine HS.out.mono ?_; rintro e w2 ⟨rfl, n2, os, hw2⟩; have HW := hide hw2; clear hw2)
        go_ret
        have HA := after_sort (n := n2) (os := os) hb.out hrow.out (ts := ks.mergeSort fun x y => decide (x ≤ y)) (List.length_mergeSort ks)
        rw [← HW.out, HF.out.2] at HA
        exact ⟨_, _, _, rfl, HF.out.1, HA.1, HA.2⟩
    · intro x w1 cnt1 hlx hrg1 hlt hg1 hs1 hen
      obtain ⟨r, hr, rfl, _⟩ := hi'.out.left x hlx
      obtain ⟨ds, _, hent⟩ := HQ.out.e.ent r hr
      have HB1 := hide (hb.out.grown hg1 hb.out.size (fun k hk => by cases hk; exact Nat.le_refl _))
      have helt : eb r.num < w.heap.size := HQ.out.ltF _ (HQ.out.e.entF r hr)
      have hent1 : w1.heap[eb r.num]? = _ := (HB1.out.block _ helt).trans hent
      have q8 : w1.cell? ⟨eb r.num, 9, none⟩ = some (.int .i64 r.state) := by simp [World.cell?, hent1, entC]
      have HQ8 := hide q8
      have hrow1 : Hid (Row w1 (fun b => w.heap.size ≤ b) 3 1 ao n cap (encI ks)) := by
        refine hrow.out.same fun a ha => ?_
        obtain ⟨cur, hh, _⟩ := Row.block hrow.out ha
        refine hg1.block _ (lt_of_heap hh) ?_
        intro e
        obtain ⟨es, ck, si, se, c0, _, _, _, _, hr0, _⟩ := hrg.out
        have e' : a.block = w.heap.size := Option.some.inj e
        rw [← e', hh] at hr0
        cases hr0
      have HP := hide HQ.out.wf.sorted
      have HLT := hide hlt
      have HRG := hide hrg1
      have HLX := hide hlx
      have HL : Hid (wr.rangeLeft bm w.heap.size = cnt) := hrg.out.left_eq
      clear hrg hg1 hs1 hent hent1 hrg1 hlt hlx hrow hb q8
      by_cases hs : r.state = 0
      · have b1 : (r.state == 0) = true := beq_iff_eq.2 hs
        have HI := hide (hi'.out.yes hr HLX.out hs)
        have hc : Hid (n ≤ 40) := by show n ≤ 40; have := hnl.out; omega
        clear hs
        have hq8 := HQ8.out
        clear HQ8
        have HO : Hid ((w1.alloc (.cells #[.int .i64 r.num] 3)).ownsRow 0 3 1 (.slice ao n cap) n (encI ks)) := (hrow1.out.alloc _).1
        have HW : Hid (∀ (t : Nat) (u : Value), [Value.int .i64 r.num][t]? = some u → (w1.alloc (.cells #[.int .i64 r.num] 3)).cell? ((⟨w1.heap.size, 0, none⟩ : Addr).add t) = some u) := fun t u => news_new t u
        go_wp2_with (at_builtin; go_must (refine wpList_append_lies _ rfl (.tmp 22) (.tmp 24) 24 rfl 0 3 i0 (.int .i64 0) 1 8 Tryz.underlying24 hi hi0 hi1 hi2 rfl (by decide) (.slice ao n cap) n (encI ks) rfl HO.out ⟨w1.heap.size, 0, none⟩ 1 1 [Value.int .i64 r.num] rfl rfl HW.out (by intro u hu; simp at hu; subst hu; rfl) (by decide) (by unfold maxLen; have := hc.out; omega) (by have := hc.out; omega) (Nat.zero_le _) (w1.heap.size + 1) (by simp) ?_; intro g cap' w2 hown hgrow hat hlt3; have HX := hide (own_rel HB1.out hrow1.out hgrow hown hat); have HG := hide ((HRG.out.alloc _).kept hgrow (ne_own hrow1.out hbm.out) (row_ne_iter hrow1.out.1 HRG.out)); clear hown hgrow hat hlt3))
        go_roundw
        case rel => exact ⟨_, cnt1, n + 1, cap', ks ++ [r.num], some ⟨g, 0, none⟩, HG, rfl, by show n + 1 + cnt1 ≤ 40; have := hnl.out; have := HLT.out; omega, by show n + 1 = _; rw [List.length_append, hn.out]; rfl, HI, by simpa [Hid, encI] using HX.out.2, HX.out.1⟩
        case measure => rw [HG.out.left_eq, HL.out]; exact HLT.out
      · have b1 : (r.state == 0) = false := beq_eq_false_iff_ne.2 hs
        have HI := hide (hi'.out.no HP.out hr hs)
        have hq8 := HQ8.out
        clear hs HQ8
        go_wp2
        go_roundw
        case rel => exact ⟨_, cnt1, n, cap, ks, ao, HRG, rfl, by show n + cnt1 ≤ 40; have := hnl.out; have := HLT.out; omega, hn, HI, hrow1, HB1⟩
        case measure => rw [HRG.out.left_eq, HL.out]; exact HLT.out
end Go.Proofs.YtiabdbeejkadnaaGreatDoor
