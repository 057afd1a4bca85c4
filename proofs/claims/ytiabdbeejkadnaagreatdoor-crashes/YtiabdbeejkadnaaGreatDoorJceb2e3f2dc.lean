import Derived.Test.YtiabdbeejkadnaaGreatDoorJb03dc83f97
import Derived.Maps.RangeWalk
import Derived.Sort.OwnSorted
import Derived.Shelf.Sort.Plain
import Derived.Test.YtiabdbeejkadnaaGreatDoorProg
import Derived.Sort.OwnSortedInts
import Derived.Test.YtiabdbeejkadnaaGreatDoorJ5ba13d981d
import Derived.Test.YtiabdbeejkadnaaGreatDoorJedb9f81348
import Derived.Test.YtiabdbeejkadnaaGreatDoorJb670e55ca4
/- The program's queue: a range over the map of requests. Own work of the verifier. -/
namespace Go.Proofs.YtiabdbeejkadnaaGreatDoor
open Go.RowKit Go.Maps Go.Sort Go.Shelf

theorem len_nil (w : World) : Calls Tryz.prog 62 #[.int .u64 0] w fun e w' => e = .returned (.int .i64 (bitsLen 0 : Nat)) ∧ w' = w :=
  calls_of_every_depth fun D => Any.lenWalkInAll Tryz.lays125 D 0 w (by omega)
/-! ### the loop -/
/-- one step of 'for number, e := range q.requests' -/
theorem wpList_next_mine {ops : Array Oper} {rest : List Oper} {o : Oper} {a : Act} {Q : Exit → Act → World → Prop} (w : World) (hg : o.guard = none) (it : Operand) (hop : o.op = Op.next it false)
    (b r n : Nat) (D : DataW Unit) (left : Lit → Bool) (cnt : Nat) (eb : Int → Nat) (hit : a.eval it = .pointer (some ⟨r, 0, none⟩)) (h : w.ranges Tryz.prog 3 ptrR b r n D left cnt)
    (hat0 : ∀ x, left (.int .i64 x) = true → D.atKey (.int .i64 x) .nil = .lit (.int .i64 (eb x)))
    (hDone : cnt = 0 → (∀ kl, left kl = false) → wpList Tryz.prog ops Q rest (a.put o.dst (.tuple #[.bool false])) w)
    (hMore : ∀ (x : Int) (w' : World) (cnt' : Nat), left (.int .i64 x) = true → w'.ranges Tryz.prog 3 ptrR b r n D (fun z => left z && !z.sameKey (.int .i64 x)) cnt' → cnt' < cnt → w.grownBy w' (some r) → w'.heap.size = w.heap.size →
      (Instr.entry (.pointer (some ⟨r, 0, none⟩))).run Tryz.prog w' = .ok (.tuple #[.int .i64 x, .pointer (some ⟨eb x, 0, none⟩)]) w' → wpList Tryz.prog ops Q rest (a.put o.dst (.tuple #[.bool true, .int .i64 x, .pointer (some ⟨eb x, 0, none⟩)])) w') :
    wpList Tryz.prog ops Q (o :: rest) a w := by
  refine wpList_next_ranges w hg it hop 3 keyLaw ptrR (Value.int .i64) Value.pointer (fun key kl hkey => by obtain ⟨x, rfl, _⟩ := Maps.keyOf_int_inv Tryz.underlying3 hkey; exact ⟨x, rfl⟩)
    (fun v y hv => by cases v <;> simp [ptrR] at hv; exact ⟨_, rfl⟩) b r n D left cnt hit h hDone ?_
  intro x c kl y w' cnt' hkey hlk hv hat hrg hlt hgr hsz hen
  obtain ⟨x', ex, rfl, hwx⟩ := Maps.keyOf_int_inv Tryz.underlying3 hkey
  cases ex
  obtain ⟨y1, y2⟩ := y
  have e1 : y1 = .lit (.int .i64 (eb x)) := (hat .nil).symm.trans (hat0 x hlk)
  subst e1
  have e2 := ptrR_inv hv
  cases e2
  exact hMore x w' cnt' hlk hrg hlt hgr hsz hen

structure WaitInv (R : List Rq) (T : List Int) (left : Lit → Bool) (ks : List Int) : Prop where
  nd : ks.Nodup
  mem : ∀ n, n ∈ ks ↔ (left (.int .i64 n) = false ∧ ∃ r ∈ R, r.num = n ∧ r.state = 0)
  left : ∀ n, left (.int .i64 n) = true → ∃ r ∈ R, r.num = n ∧ toldHas T n = false
theorem strikeI (left : Lit → Bool) (x n : Int) : (left (.int .i64 n) && !(Lit.int .i64 n).sameKey (.int .i64 x)) = (left (.int .i64 n) && !decide (n = x)) := by simp [Lit.sameKey]
theorem uniq {R : List Rq} (h : R.Pairwise (fun a b => a.num < b.num)) {r r' : Rq} (hr : r ∈ R) (hr' : r' ∈ R) (e : r.num = r'.num) : r = r' := by
  induction R with
  | nil => simp at hr
  | cons a l ih =>
    obtain ⟨h1, h2⟩ := List.pairwise_cons.1 h
    rcases List.mem_cons.1 hr with ea | hr
    · rcases List.mem_cons.1 hr' with eb | hr'
      · rw [ea, eb]
      · have := h1 _ hr'; rw [ea] at e; omega
    · rcases List.mem_cons.1 hr' with eb | hr'
      · have := h1 _ hr; rw [eb] at e; omega
      · exact ih h2 hr hr'
theorem WaitInv.yes {R : List Rq} {T : List Int} {left : Lit → Bool} {ks : List Int} (h : WaitInv R T left ks) {r : Rq} (hr : r ∈ R) (hl : left (.int .i64 r.num) = true) (hs : r.state = 0) :
    WaitInv R T (fun z => left z && !z.sameKey (.int .i64 r.num)) (ks ++ [r.num]) := by
  have hn : r.num ∉ ks := fun hm => by have := ((h.mem _).1 hm).1; rw [hl] at this; cases this
  refine ⟨?_, fun n => ?_, fun n hn => ?_⟩
  · rw [List.nodup_append]
    exact ⟨h.nd, List.pairwise_singleton _ _, fun a ha b hb => by rw [List.mem_singleton] at hb; subst hb; exact fun e => hn (e ▸ ha)⟩
  · show _ ↔ ((left (.int .i64 n) && !(Lit.int .i64 n).sameKey (.int .i64 r.num)) = false ∧ _)
    rw [strikeI, List.mem_append, List.mem_singleton, h.mem]
    by_cases e : n = r.num
    · subst e
      simp only [decide_true, Bool.not_true, Bool.and_false, true_and, or_true]
      exact ⟨fun _ => ⟨r, hr, rfl, hs⟩, fun _ => trivial⟩
    · simp [e]
  · have hn : (left (.int .i64 n) && !(Lit.int .i64 n).sameKey (.int .i64 r.num)) = true := hn
    rw [strikeI] at hn
    simp at hn
    exact h.left n hn.1
theorem WaitInv.no {R : List Rq} {T : List Int} {left : Lit → Bool} {ks : List Int} (h : WaitInv R T left ks) (hp : R.Pairwise (fun a b => a.num < b.num)) {r : Rq} (hr : r ∈ R) (hs : r.state ≠ 0) :
    WaitInv R T (fun z => left z && !z.sameKey (.int .i64 r.num)) ks := by
  refine ⟨h.nd, fun n => ?_, fun n hn => ?_⟩
  · show _ ↔ ((left (.int .i64 n) && !(Lit.int .i64 n).sameKey (.int .i64 r.num)) = false ∧ _)
    rw [strikeI, h.mem]
    by_cases e : n = r.num
    · subst e
      have : ¬ ∃ r' ∈ R, r'.num = r.num ∧ r'.state = 0 := fun ⟨r', hr', e1, e2⟩ => by rw [uniq hp hr' hr e1] at e2; exact hs e2
      simp [this]
    · simp [e]
  · have hn : (left (.int .i64 n) && !(Lit.int .i64 n).sameKey (.int .i64 r.num)) = true := hn
    rw [strikeI] at hn
    simp at hn
    exact h.left n hn.1
theorem waitM_sorted {S : St} (h : S.reqs.Pairwise (fun a b => a.num < b.num)) : (waitM S).Pairwise (fun a b => a < b) := by
  unfold waitM
  rw [List.pairwise_map]
  exact h.filter _
theorem WaitInv.fin {S : St} {T : List Int} {left : Lit → Bool} {ks : List Int} (h : WaitInv S.reqs T left ks) (hp : S.reqs.Pairwise (fun a b => a.num < b.num)) (hl : ∀ kl, left kl = false) :
    ks.length = (waitM S).length ∧ ks.mergeSort (fun x y => decide (x ≤ y)) = waitM S := by
  have hs := waitM_sorted hp
  have hnd : (waitM S).Nodup := hs.imp (fun h => Int.ne_of_lt h)
  have hperm : ks.Perm (waitM S) := (List.perm_ext_iff_of_nodup h.nd hnd).2 fun n => by
    rw [h.mem]
    unfold waitM
    simp only [hl, true_and, List.mem_map, List.mem_filter, beq_iff_eq]
    constructor
    · rintro ⟨r, hr, e1, e2⟩; exact ⟨r, ⟨hr, e2⟩, e1⟩
    · rintro ⟨r, ⟨hr, e2⟩, e1⟩; exact ⟨r, hr, e1, e2⟩
  refine ⟨hperm.length_eq, ?_⟩
  have h1 : (ks.mergeSort (fun x y => decide (x ≤ y))).Pairwise (fun x y => x ≤ y) := by
    have := List.pairwise_mergeSort (le := fun x y : Int => decide (x ≤ y)) (fun a b c h1 h2 => by simp at *; omega) (fun a b => by simp; omega) ks
    exact this.imp (fun h => by simpa using h)
  have h2 : (waitM S).Pairwise (fun x y => x ≤ y) := hs.imp (fun h => Int.le_of_lt h)
  exact ((List.mergeSort_perm ks _).trans hperm).eq_of_pairwise (fun a b _ _ h1 h2 => Int.le_antisymm h1 h2) h1 h2

theorem ne_own {w : World} {lim : Nat} {e : TypeId} {size : Nat} {ao : Option Addr} {n cap b : Nat} {xs : List Value} (h : Row w (fun b => lim ≤ b) e size ao n cap xs) (hb : b < lim) : some b ≠ Value.ownBlock (.slice ao n cap) := by
  cases ao with
  | none => simp [Value.ownBlock]
  | some a => have := h.2 a rfl; simp [Value.ownBlock]; omega
end Go.Proofs.YtiabdbeejkadnaaGreatDoor

/- The sort's contracts at this dump (made by the kit's lay-plain.mjs, its numbers turned into names by the verifier). -/
namespace Go.Proofs
open Go.Shelf
def Tryz.lays189_ren : Go.Shelf.Ren := ⟨fun | 189 => 39 | 125 => 62 | 257 => 61 | 128 => 106 | 129 => 107 | 294 => 97 | 295 => 98 | 296 => 99 | 297 => 100 | 298 => 101 | 299 => 102 | 216 => 103 | 300 => 104 | 301 => 105 | 328 => 125 | 329 => 126 | 330 => 127 | 331 => 128 | 332 => 129 | 215 => 130 | 343 => 145 | n => n, fun | 28 => 24 | 3 => 3 | 46 => 126 | 0 => 0 | 51 => 171 | 53 => 173 | 4 => 4 | 183 => 163 | 182 => 162 | 131 => 168 | 5 => 5 | 9 => 9 | 218 => 192 | 222 => 196 | 228 => 225 | 229 => 226 | n => n, fun | n => n⟩
theorem Tryz.lays189 : Go.Proofs.Lays.n189 Tryz.prog Tryz.lays189_ren := {
  mixed := by kernel_rfl
  f125 := Tryz.func62.trans (congrArg some (by kernel_rfl))
  f128 := Tryz.func106.trans (congrArg some (by kernel_rfl))
  f129 := Tryz.func107.trans (congrArg some (by kernel_rfl))
  f189 := Tryz.func39.trans (congrArg some (by kernel_rfl))
  f215 := Tryz.func130.trans (congrArg some (by kernel_rfl))
  f216 := Tryz.func103.trans (congrArg some (by kernel_rfl))
  f257 := Tryz.func61.trans (congrArg some (by kernel_rfl))
  f294 := Tryz.func97.trans (congrArg some (by kernel_rfl))
  f295 := Tryz.func98.trans (congrArg some (by kernel_rfl))
  f296 := Tryz.func99.trans (congrArg some (by kernel_rfl))
  f297 := Tryz.func100.trans (congrArg some (by kernel_rfl))
  f298 := Tryz.func101.trans (congrArg some (by kernel_rfl))
  f299 := Tryz.func102.trans (congrArg some (by kernel_rfl))
  f300 := Tryz.func104.trans (congrArg some (by kernel_rfl))
  f301 := Tryz.func105.trans (congrArg some (by kernel_rfl))
  f328 := Tryz.func125.trans (congrArg some (by kernel_rfl))
  f329 := Tryz.func126.trans (congrArg some (by kernel_rfl))
  f330 := Tryz.func127.trans (congrArg some (by kernel_rfl))
  f331 := Tryz.func128.trans (congrArg some (by kernel_rfl))
  f332 := Tryz.func129.trans (congrArg some (by kernel_rfl))
  f343 := Tryz.func145.trans (congrArg some (by kernel_rfl))
  t0 := Tryz.underlying0
  a0 := Tryz.isAgg0
  z0 := Tryz.sizeOf0
  v0 := Tryz.zeroValue0
  t3 := Tryz.underlying3
  a3 := Tryz.isAgg3
  z3 := Tryz.sizeOf3
  v3 := Tryz.zeroValue3
  t4 := Tryz.underlying4
  a4 := Tryz.isAgg4
  z4 := Tryz.sizeOf4
  v4 := Tryz.zeroValue4
  t5 := Tryz.underlying5
  a5 := Tryz.isAgg5
  z5 := Tryz.sizeOf5
  v5 := Tryz.zeroValue5
  t9 := Tryz.underlying9
  a9 := Tryz.isAgg9
  z9 := Tryz.sizeOf9
  v9 := Tryz.zeroValue9
  t28 := Tryz.underlying24
  a28 := Tryz.isAgg24
  z28 := Tryz.sizeOf24
  v28 := Tryz.zeroValue24
  t46 := Tryz.underlying126
  a46 := Tryz.isAgg126
  z46 := Tryz.sizeOf126
  v46 := Tryz.zeroValue126
  t51 := Tryz.underlying171
  a51 := Tryz.isAgg171
  z51 := Tryz.sizeOf171
  v51 := Tryz.zeroValue171
  t53 := Tryz.underlying173
  a53 := Tryz.isAgg173
  z53 := Tryz.sizeOf173
  v53 := Tryz.zeroValue173
  t131 := Tryz.underlying168
  a131 := Tryz.isAgg168
  z131 := Tryz.sizeOf168
  v131 := Tryz.zeroValue168
  t182 := Tryz.underlying162
  a182 := Tryz.isAgg162
  z182 := Tryz.sizeOf162
  v182 := Tryz.zeroValue162
  t183 := Tryz.underlying163
  a183 := Tryz.isAgg163
  z183 := Tryz.sizeOf163
  v183 := Tryz.zeroValue163
  t218 := Tryz.underlying192
  a218 := Tryz.isAgg192
  z218 := Tryz.sizeOf192
  v218 := Tryz.zeroValue192
  t222 := Tryz.underlying196
  a222 := Tryz.isAgg196
  z222 := Tryz.sizeOf196
  v222 := Tryz.zeroValue196
  t228 := Tryz.underlying225
  a228 := Tryz.isAgg225
  z228 := Tryz.sizeOf225
  v228 := Tryz.zeroValue225
  t229 := Tryz.underlying226
  a229 := Tryz.isAgg226
  z229 := Tryz.sizeOf226
  v229 := Tryz.zeroValue226 }
end Go.Proofs

/- The program's queue: Waiting (a range over the map, slices.Sort). Own work of the verifier. -/
namespace Go.Proofs.YtiabdbeejkadnaaGreatDoor
open Go.RowKit Go.Maps Go.Sort Go.Shelf

/-! ### slices.Sort of nil -/
theorem ins_nil (w : World) : Calls Tryz.prog 97 #[.slice none 0 0, .int .i64 0, .int .i64 0] w fun e w' => e = .returned (.tuple #[]) ∧ w' = w := by
  go_enter Tryz.func97, Tryz.ntmps97
  go_wp2
  refine wp_loop_rounds 1 ?_
  rw [rounds_succ]
  go_wp2
  go_end0
  exact ⟨rfl, rfl⟩
theorem pdq_nil (l : Int) (w : World) : Calls Tryz.prog 61 #[.slice none 0 0, .int .i64 0, .int .i64 0, .int .i64 l] w fun e w' => e = .returned (.tuple #[]) ∧ w' = w := by
  go_enter Tryz.func61, Tryz.ntmps61
  go_wp2
  refine wp_loop_rounds 1 ?_
  rw [rounds_succ]
  go_wp2_with (go_at_call 97; refine (ins_nil _).mono ?_; rintro e w' ⟨rfl, rfl⟩)
  (try simp only [Exit.inBlock, Exit.then]); refine bodyPost_ret (results_none rfl _ _ _) rfl ?_
  exact ⟨rfl, rfl⟩
theorem sort_nil (w : World) : Calls Tryz.prog 39 #[.slice none 0 0] w fun e w' => e = .returned (.tuple #[]) ∧ w' = w := by
  go_enter Tryz.func39, Tryz.ntmps39
  go_wp2_with (first | (go_at_call 62; refine (len_nil _).mono ?_; rintro e w' ⟨rfl, rfl⟩) | (go_at_call 61; refine (pdq_nil _ _).mono ?_; rintro e w' ⟨rfl, rfl⟩))
  go_end0
  exact ⟨rfl, rfl⟩

theorem after_sort {w w1 : World} {g cap n : Nat} {os : Array Obj} {ks ts : List Int} (hb : Below w.heap.size w w1) (hrow : Row w1 (fun b => w.heap.size ≤ b) 3 1 (some ⟨g, 0, none⟩) ks.length cap (encI ks)) (hl : ts.length = ks.length) :
    Row (grow (putRow (Value.int .i64) (Sort.ahead w1 n) g 0 ts.toArray) os) (fun b => w.heap.size ≤ b) 3 1 (some ⟨g, 0, none⟩) ks.length cap (encI ts) ∧ Below w.heap.size w (grow (putRow (Value.int .i64) (Sort.ahead w1 n) g 0 ts.toArray) os) := by
  have hge := hrow.2 _ rfl
  rcases hrow.1.2 with ⟨h0, _⟩ | ⟨g', cap', cur, hv, hg, hh, h1, h2, h3, h4⟩
  · cases h0
  cases hv
  exact ⟨⟨ownsRow_sortedI hl (Nat.zero_le _) hh h1 h2 h3, fun a ha => by cases ha; exact hge⟩, hb.grown (grownBy_sortedI _) hb.size (fun k hk => by cases hk; exact hge)⟩
theorem holds_row {w1 : World} {F : Nat → Prop} {g cap : Nat} {ks : List Int} (hrow : Row w1 F 3 1 (some ⟨g, 0, none⟩) ks.length cap (encI ks)) : Holds (Value.int .i64) w1 g 0 ks.toArray ∧ g < w1.heap.size := by
  rcases hrow.1.2 with ⟨h0, _⟩ | ⟨g', cap', cur, hv, hg, hh, h1, h2, h3, h4⟩
  · cases h0
  cases hv
  exact ⟨holds_of_blockI hh (by rw [Nat.mul_one] at h4; exact h4), lt_of_heap hh⟩

set_option maxHeartbeats 1000000 in
set_option maxRecDepth 1000000 in
theorem prog_waiting (S : St) (F : Nat → Prop) (xb : Nat) (w : World) (h : ProgAt w F xb S) :
    Calls Tryz.prog 19 #[.pointer (some ⟨xb, 0, none⟩)] w fun e w' => ∃ ao n cap, e = .returned (.slice ao n cap) ∧ n = (waitM S).length ∧ Row w' (fun b => w.heap.size ≤ b) 3 1 ao n cap (encI (waitM S)) ∧ Below w.heap.size w w' := by
  obtain ⟨bm, D, eb, c, af, cf, vs, h⟩ := h
  obtain ⟨i0, hi, hi0, hi1, hi2⟩ := info_parts info_int
  have d3 := h.cell 3 _ h.q.c3
  have HQ : Hid (ProgBlk w F xb S [] bm D eb c af cf vs) := h
  have hbm : Hid (bm < w.heap.size) := h.ltF _ h.ownM
  clear h
  go_enter Tryz.func19, Tryz.ntmps19
  go_wp2_with fail
  refine (orEmpty_some _ _).mono ?_
  rintro e w1 ⟨rfl, hw1⟩
  have hw1 := hw1.symm
  subst hw1
  go_wp2_with (first | (at_range; refine wpList_range_own _ rfl _ 72 rfl 3 92 keyLaw Tryz.underlying72 _ bm _ D rfl HQ.out.m.map ?_; intro w0 hrg0 hg0 hs0) | go_in)
  go_frame
  go_loopw [3] (fun l wr => ∃ (left : Lit → Bool) (cnt n cap : Nat) (ks : List Int) (ao : Option Addr), Hid (wr.ranges Tryz.prog 3 ptrR bm w.heap.size S.last.toNat D left cnt) ∧ l = .slice ao n cap ∧ Hid (n + cnt ≤ 40) ∧ Hid (n = ks.length) ∧ Hid (WaitInv S.reqs S.told left ks) ∧ Hid (Row wr (fun b => w.heap.size ≤ b) 3 1 ao n cap (encI ks)) ∧ Hid (Below w.heap.size w wr)) (fun _ wr => wr.rangeLeft bm w.heap.size)
  case atStart =>
    refine ⟨_, _, 0, 0, [], none, hrg0, rfl, by have := HQ.out.wf.len; have := HQ.out.m.msize; show 0 + Maps.size D ≤ 40; omega, rfl, ⟨List.Pairwise.nil, fun n => ?_, fun n hn => ?_⟩, Row.nil _ _ _ _, (Below.refl _ _).grown hg0 (Nat.le_refl _) (fun k hk => by cases hk)⟩
    · simp only [List.not_mem_nil, false_iff]
      rintro ⟨h1, r, hr, e1, e2⟩
      rw [HQ.out.m.has] at h1
      unfold heldB at h1
      have ht : toldHas S.told n = false := by
        cases hx : toldHas S.told n with
        | false => rfl
        | true =>
          have := ((HQ.out.wf.rq r hr).told (by rw [e1]; simpa [toldHas] using hx)).2
          omega
      rw [ht, findR_isSome] at h1
      have : S.reqs.any (fun r => r.num == n) = true := List.any_eq_true.2 ⟨r, hr, by simp [e1]⟩
      rw [this] at h1; cases h1
    · rw [HQ.out.m.has] at hn
      unfold heldB at hn
      rw [findR_isSome] at hn
      simp only [Bool.and_eq_true, Bool.not_eq_true'] at hn
      obtain ⟨r, hr, e1⟩ := List.any_eq_true.1 hn.1
      exact ⟨r, hr, by simpa using e1, hn.2⟩
  case round =>
    obtain ⟨left, cnt, n, cap, ks, ao, hrg, rfl, hnl, hn, hi', hrow, hb⟩ := hrel
    go_wp2_with (first | (at_next; refine wpList_next_mine _ rfl _ rfl bm w.heap.size _ D left cnt eb rfl hrg.out ?_ ?_ ?_) | go_in)
    · intro x hx
      obtain ⟨r, hr, rfl, ht⟩ := hi'.out.left x hx
      exact HQ.out.m.at_ r hr ht
    · intro _ hl
      have HF := hide (hi'.out.fin HQ.out.wf.sorted hl)
      cases ao with
      | none =>
        have hrow0 := hrow.out.1.2
        have hnc : n = 0 ∧ cap = 0 := by
          rcases hrow0 with ⟨h0, _⟩ | ⟨g', cap', cur, hv, _⟩
          · cases h0; exact ⟨rfl, rfl⟩
          · cases hv
        obtain ⟨rfl, rfl⟩ := hnc
        clear hrow0
        go_wp2_with (go_at_call 39; refine (sort_nil _).mono ?_; rintro e w2 ⟨rfl, hw2⟩; have hw2 := hw2.symm; subst hw2)
        go_ret
        refine ⟨none, 0, 0, rfl, hn.out.trans HF.out.1, ?_, hb.out⟩
        have e1 : (waitM S) = [] := List.eq_nil_of_length_eq_zero (HF.out.1.symm.trans hn.out.symm)
        rw [e1]
        exact Row.nil _ _ _ _
      | some a0 =>
        obtain ⟨g, rfl⟩ : ∃ g, a0 = ⟨g, 0, none⟩ := by
          rcases hrow.out.1.2 with ⟨h0, _⟩ | ⟨g', cap', cur, hv, _⟩
          · cases h0
          · cases hv; exact ⟨g', rfl⟩
        have hn' : n = ks.length := hn.out
        subst hn'
        have HH := hide (holds_row hrow.out)
        have HS : Hid (Calls Tryz.prog 39 #[.slice (some ⟨g, 0, none⟩) ks.length cap] wr fun e w' =>
          e = .returned (.tuple #[]) ∧ ∃ n os, w' = grow (putRow (Value.int .i64) (Sort.ahead wr n) g 0 (ks.mergeSort fun x y => decide (x ≤ y)).toArray) os) :=
          Any.slices_Sort_int Tryz.lays189 g 0 cap ks wr HH.out.1 HH.out.2 (by have := hnl.out; omega)
        go_wp2_with (go_at_call 39; refine HS.out.mono ?_; rintro e w2 ⟨rfl, n2, os, hw2⟩; have HW := hide hw2; clear hw2)
        go_ret
        have HA := after_sort (n := n2) (os := os) hb.out hrow.out (ts := ks.mergeSort fun x y => decide (x ≤ y)) (List.length_mergeSort ks)
        rw [← HW.out, HF.out.2] at HA
        exact ⟨_, _, _, rfl, HF.out.1, HA.1, HA.2⟩
    · intro x w1 cnt1 hlx hrg1 hlt hg1 hs1 hen
      obtain ⟨r, hr, rfl, _⟩ := hi'.out.left x hlx
      obtain ⟨ds, _, hent⟩ := HQ.out.e.ent r hr
      have HB1 := hide (hb.out.grown hg1 hb.out.size (fun k hk => by cases hk; exact Nat.le_refl _))
      have helt : eb r.num < w.heap.size := HQ.out.ltF _ (HQ.out.e.entF r hr)
      have hent1 : w1.heap[eb r.num]? = _ := (HB1.out.block _ helt).trans hent
      have q8 : w1.cell? ⟨eb r.num, 9, none⟩ = some (.int .i64 r.state) := by simp [World.cell?, hent1, entC]
      have HQ8 := hide q8
      have hrow1 : Hid (Row w1 (fun b => w.heap.size ≤ b) 3 1 ao n cap (encI ks)) := by
        refine hrow.out.same fun a ha => ?_
        obtain ⟨cur, hh, _⟩ := Row.block hrow.out ha
        refine hg1.block _ (lt_of_heap hh) ?_
        intro e
        obtain ⟨es, ck, si, se, c0, _, _, _, _, hr0, _⟩ := hrg.out
        have e' : a.block = w.heap.size := Option.some.inj e
        rw [← e', hh] at hr0
        cases hr0
      have HP := hide HQ.out.wf.sorted
      have HLT := hide hlt
      have HRG := hide hrg1
      have HLX := hide hlx
      have HL : Hid (wr.rangeLeft bm w.heap.size = cnt) := hrg.out.left_eq
      clear hrg hg1 hs1 hent hent1 hrg1 hlt hlx hrow hb q8
      by_cases hs : r.state = 0
      · have b1 : (r.state == 0) = true := beq_iff_eq.2 hs
        have HI := hide (hi'.out.yes hr HLX.out hs)
        have hc : Hid (n ≤ 40) := by show n ≤ 40; have := hnl.out; omega
        clear hs
        have hq8 := HQ8.out
        clear HQ8
        have HO : Hid ((w1.alloc (.cells #[.int .i64 r.num] 3)).ownsRow 0 3 1 (.slice ao n cap) n (encI ks)) := (hrow1.out.alloc _).1
        have HW : Hid (∀ (t : Nat) (u : Value), [Value.int .i64 r.num][t]? = some u → (w1.alloc (.cells #[.int .i64 r.num] 3)).cell? ((⟨w1.heap.size, 0, none⟩ : Addr).add t) = some u) := fun t u => news_new t u
        go_wp2_with (at_builtin; go_must (refine wpList_append_lies _ rfl (.tmp 22) (.tmp 24) 24 rfl 0 3 i0 (.int .i64 0) 1 8 Tryz.underlying24 hi hi0 hi1 hi2 rfl (by decide) (.slice ao n cap) n (encI ks) rfl HO.out ⟨w1.heap.size, 0, none⟩ 1 1 [Value.int .i64 r.num] rfl rfl HW.out (by intro u hu; simp at hu; subst hu; rfl) (by decide) (by unfold maxLen; have := hc.out; omega) (by have := hc.out; omega) (Nat.zero_le _) (w1.heap.size + 1) (by simp) ?_; intro g cap' w2 hown hgrow hat hlt3; have HX := hide (own_rel HB1.out hrow1.out hgrow hown hat); have HG := hide ((HRG.out.alloc _).kept hgrow (ne_own hrow1.out hbm.out) (row_ne_iter hrow1.out.1 HRG.out)); clear hown hgrow hat hlt3))
        go_roundw
        case rel => exact ⟨_, cnt1, n + 1, cap', ks ++ [r.num], some ⟨g, 0, none⟩, HG, rfl, by show n + 1 + cnt1 ≤ 40; have := hnl.out; have := HLT.out; omega, by show n + 1 = _; rw [List.length_append, hn.out]; rfl, HI, by simpa [Hid, encI] using HX.out.2, HX.out.1⟩
        case measure => rw [HG.out.left_eq, HL.out]; exact HLT.out
      · have b1 : (r.state == 0) = false := beq_eq_false_iff_ne.2 hs
        have HI := hide (hi'.out.no HP.out hr hs)
        have hq8 := HQ8.out
        clear hs HQ8
        go_wp2
        go_roundw
        case rel => exact ⟨_, cnt1, n, cap, ks, ao, HRG, rfl, by show n + cnt1 ≤ 40; have := hnl.out; have := HLT.out; omega, hn, HI, hrow1, HB1⟩
        case measure => rw [HRG.out.left_eq, HL.out]; exact HLT.out
end Go.Proofs.YtiabdbeejkadnaaGreatDoor

/- The law: a queue on both sides; cancelled, polled, asked (Read). Own work of the verifier. -/
namespace Go.Proofs.YtiabdbeejkadnaaGreatDoor
open Go.RowKit Go.Maps

/-- A QUEUE ON BOTH SIDES holds the state S; F: all its blocks. -/
def PairAt (w : World) (F : Nat → Prop) (x m : Nat) (S : St) : Prop := ∃ Fx Fm, ProgAt w Fx x S ∧ RefAt w Fm m S ∧ (∀ k, Fx k → ¬ Fm k) ∧ ∀ k, F k ↔ (Fx k ∨ Fm k)
theorem PairAt.lt {w : World} {F : Nat → Prop} {x m : Nat} {S : St} (h : PairAt w F x m S) : ∀ k, F k → k < w.heap.size := by
  obtain ⟨Fx, Fm, hP, hM, hd, hF⟩ := h
  exact fun k hk => ((hF k).1 hk).elim (hP.lt k) (hM.lt k)
theorem PairAt.same {w w' : World} {F : Nat → Prop} {x m : Nat} {S : St} (h : PairAt w F x m S) (hs : ∀ k, F k → k < w.heap.size → w'.heap[k]? = w.heap[k]?) (hz : w.heap.size ≤ w'.heap.size) : PairAt w' F x m S := by
  obtain ⟨Fx, Fm, hP, hM, hd, hF⟩ := h
  exact ⟨Fx, Fm, hP.same (fun k hk hl => hs k ((hF k).2 (Or.inl hk)) hl) hz, hM.same (fun k hk hl => hs k ((hF k).2 (Or.inr hk)) hl) hz, hd, hF⟩
theorem PairAt.kept {w w' : World} {F G : Nat → Prop} {x m : Nat} {S : St} (h : PairAt w F x m S) (hk : Kept G w w') (hn : ∀ k, F k → ¬ G k) : PairAt w' F x m S :=
  h.same (fun k hFk hlt => hk.block k hlt (hn k hFk)) hk.size
theorem PairAt.below {w w' : World} {F : Nat → Prop} {x m : Nat} {S : St} (h : PairAt w F x m S) (hb : Below w.heap.size w w') : PairAt w' F x m S :=
  h.same (fun k _ hlt => hb.block k hlt) hb.size
theorem PairAt.wf {w : World} {F : Nat → Prop} {x m : Nat} {S : St} (h : PairAt w F x m S) : Wf S := by
  obtain ⟨Fx, Fm, hP, _⟩ := h
  exact hP.wf

section
variable {w w0 w1 w2 w3 w4 : World} {F Fx Fm : Nat → Prop} {x m : Nat} {S S' : St}
theorem ProgE.below {E : List Int} (h : ProgE w Fx x S E) (hb : Below w.heap.size w w0) : ProgE w0 Fx x S E := h.same (fun k _ hlt => hb.block k hlt) hb.size
theorem RefAt.below (h : RefAt w Fm m S) (hb : Below w.heap.size w w0) : RefAt w0 Fm m S := h.same (fun k _ hlt => hb.block k hlt) hb.size
/-- behind the program's call the reference's queue stands -/
theorem pair_mid (hM : RefAt w Fm m S) (hd : ∀ k, Fx k → ¬ Fm k) (hb0 : Below w.heap.size w w0) (hK1 : Kept Fx w0 w1) (hb1 : Below w1.heap.size w1 w2) : RefAt w2 Fm m S :=
  (((hM.below hb0).kept hK1 (fun k hk hx => hd k hx hk))).below hb1
/-- behind both calls -/
theorem pair_fin (hM : RefAt w Fm m S) (hPl : ∀ k, Fx k → k < w.heap.size) (hd : ∀ k, Fx k → ¬ Fm k) (hF : ∀ k, F k ↔ (Fx k ∨ Fm k)) (hb0 : Below w.heap.size w w0) (hP1 : ProgAt w1 (Foot Fx w0 w1) x S') (hK1 : Kept Fx w0 w1) (hb1 : Below w1.heap.size w1 w2)
    (hM2 : RefAt w3 (Foot Fm w2 w3) m S') (hK2 : Kept Fm w2 w3) (hb2 : Below w3.heap.size w3 w4) : PairAt w4 (Foot F w w4) x m S' ∧ Kept F w w4 := by
  have z0 := hb0.size
  have z1 := hK1.size
  have z2 := hb1.size
  have z3 := hK2.size
  have z4 := hb2.size
  have hMl := hM.lt
  refine ⟨⟨Foot Fx w w1, fun k => Foot Fm w w4 k ∧ ¬ Foot Fx w w1 k, ?_, ?_, fun k hk hn => hn.2 hk, fun k => ⟨fun hk => ?_, fun hk => ?_⟩⟩, ?_⟩
  · refine (((hP1.below hb1).kept hK2 ?_).below hb2).wid (fun k hk => ?_) (fun k hk => ?_)
    · rintro k (hk | hk) hn
      · exact hd k hk hn
      · have := hMl k hn; omega
    · exact hk.elim Or.inl (fun e => Or.inr ⟨by omega, e.2⟩)
    · rcases hk with hk | hk
      · have := hPl k hk; omega
      · omega
  · refine (hM2.below hb2).wid (fun k hk => ?_) (fun k hk => ?_)
    · rcases hk with hk | hk
      · exact ⟨Or.inl hk, fun e => e.elim (fun e => hd k e hk) (fun e => by have := hMl k hk; omega)⟩
      · exact ⟨Or.inr ⟨by omega, by omega⟩, fun e => e.elim (fun e => by have := hPl k e; omega) (fun e => by omega)⟩
    · rcases hk.1 with hk | hk
      · have := hMl k hk; omega
      · omega
  · by_cases hx : Foot Fx w w1 k
    · exact Or.inl hx
    · rcases hk with hk | hk
      · rcases (hF k).1 hk with h | h
        · exact absurd (Or.inl h) hx
        · exact Or.inr ⟨Or.inl h, hx⟩
      · exact Or.inr ⟨Or.inr hk, hx⟩
  · rcases hk with (hk | hk) | ⟨hk | hk, _⟩
    · exact Or.inl ((hF k).2 (Or.inl hk))
    · exact Or.inr ⟨hk.1, by omega⟩
    · exact Or.inl ((hF k).2 (Or.inr hk))
    · exact Or.inr hk
  · have k1 : Kept F w w1 := (Go.Proofs.YtiabdbeejkadnaaGreatDoor.Below.kept hb0 F).then (hK1.mono fun k _ hk => (hF k).2 (Or.inl hk))
    have k2 : Kept F w w3 := (k1.below hb1).then (hK2.mono fun k _ hk => (hF k).2 (Or.inr hk))
    exact k2.below hb2
end

/-- what a call on one queue does to it: true; the other blocks are kept -/
def Does (w : World) (F : Nat → Prop) (x m : Nat) (S : St) (e : Ending) (w' : World) : Prop :=
  e = .returned (.bool true) ∧ ∃ S', PairAt w' (Foot F w w') x m S' ∧ S'.last ≤ S.last + 1 ∧ S'.now = S.now ∧ Kept F w w'

theorem cancelM_last (S : St) (n : Int) : (cancelM S n).2.2.last = S.last ∧ (cancelM S n).2.2.now = S.now := by
  unfold cancelM
  split
  · exact ⟨rfl, rfl⟩
  · simp only []
    split <;> exact ⟨rfl, rfl⟩

theorem law_cancelled (S : St) (F : Nat → Prop) (x m : Nat) (num : Int) (w : World) (h : PairAt w F x m S) (hg : GCell w) (h0 : ¬ F 0) (hw : (Lit.int .i64 num).wf = true) (hl : S.last ≤ 1000000) :
    Calls Tryz.prog 44 #[.agg #[.pointer (some ⟨x, 0, none⟩), .pointer (some ⟨m, 0, none⟩)], .int .i64 num] w fun e w' => Does w F x m S e w' := by
  have hwf := h.wf
  obtain ⟨Fx, Fm, hP, hM, hd, hF⟩ := h
  have h0x : ¬ Fx 0 := fun e => h0 ((hF 0).2 (Or.inl e))
  have hPl := hP.lt
  have HM := hide hM
  have HD := hide hd
  have HF := hide hF
  have HG := hide hg
  have HPl := hide hPl
  have hnx : ¬ Fx w.heap.size := fun e => by have := hPl _ e; omega
  have hP0 := hide (hP.below (alloc_below w (.cells #[.pointer (some ⟨x, 0, none⟩), .pointer (some ⟨m, 0, none⟩)] 99)))
  clear hM hd hF hg hPl hP
  have hc : Hid (cancelErr S num = if (cancelM S num).1 = 9 then (9, num, (cancelM S num).2.1) else ((cancelM S num).1, -1, 0)) := rfl
  have hla := hide (cancelM_last S num)
  generalize hA : cancelM S num = r at *
  obtain ⟨k, t, S'⟩ := r
  have HA : Hid (cancelM S num = (k, t, S')) := hA
  clear hA
  generalize hA : cancelErr S num = r at *
  obtain ⟨e1, e2, e3⟩ := r
  have HE : Hid (cancelErr S num = (e1, e2, e3)) := hA
  clear hA
  go_enter Tryz.func44, Tryz.ntmps44
  go_wp2_with fail
  refine (plain_cancel S Fx x num _ hP0.out (HG.out.below (alloc_below _ _)) h0x hw).mono ?_
  rintro e w1 ⟨rfl, hP1, hK1⟩
  rw [HA.out] at hP1
  rw [HE.out]
  have HP1 := hide hP1
  have HK1 := hide hK1
  have hz1 : w.heap.size < w1.heap.size := by have := hK1.size; simp at this; omega
  have p1 : w1.cell? ⟨w.heap.size, 1, none⟩ = some (.pointer (some ⟨m, 0, none⟩)) := (hK1.cell (p := ⟨w.heap.size, 1, none⟩) (by simp) hnx).trans (by simp)
  clear hP1 hK1
  have hb1 := alloc_below w1 (.cells #[.int .i64 e1, .int .i64 e2, .int .i64 e3, .bool true] 57)
  have hM1 := hide (pair_mid HM.out HD.out (alloc_below _ _) HK1.out hb1)
  have hnm : ¬ Fm w1.heap.size := fun e => by have := HM.out.lt _ e; omega
  clear hb1
  go_wp2_with fail
  refine (ref_cancel S Fm m num _ hM1.out (by have := hwf.toldLen; have := hwf.reqsLen; omega) (by have := hwf.reqsLen; omega)).mono ?_
  rintro e w2 ⟨rfl, hM2, hK2⟩
  rw [HA.out] at hM2
  rw [HA.out]
  have HM2 := hide hM2
  have HK2 := hide hK2
  have hz2 : w1.heap.size < w2.heap.size := by have := hK2.size; simp at this; omega
  have q : w2.heap[w1.heap.size]? = some (.cells #[.int .i64 e1, .int .i64 e2, .int .i64 e3, .bool true] 57 (0, 0)) := (hK2.block _ (by simp) hnm).trans (heap_alloc_new w1 _)
  obtain ⟨⟨q0, q1, q2, q3⟩, _⟩ := cells4 q
  clear hM2 hK2 q
  have fin : Hid (∀ w3, Below w2.heap.size w2 w3 → Does w F x m S (.returned (.bool true)) w3) := fun w3 hb3 => by
    obtain ⟨r1, r2⟩ := pair_fin HM.out HPl.out HD.out HF.out (alloc_below _ _) HP1.out HK1.out (alloc_below w1 (.cells #[.int .i64 e1, .int .i64 e2, .int .i64 e3, .bool true] 57)) HM2.out HK2.out hb3
    exact ⟨rfl, S', r1, by have := hla.out.1; omega, hla.out.2, r2⟩
  have hce := hc.out
  by_cases hk : k = 9
  · subst hk
    simp only [if_true] at hce
    cases hce
    clear hc
    go_wp2_with fail
    refine (law_wrong 9 num t _).mono ?_
    rintro e w3 ⟨rfl, hb3⟩
    go_wp2
    go_ret
    exact fin.out _ hb3
  · have hk' : (k == 9) = false := beq_eq_false_iff_ne.2 hk
    simp only [hk, if_false] at hce
    cases hce
    clear hc hk
    go_wp2_with fail
    refine (law_none k _).mono ?_
    rintro e w3 ⟨rfl, hb3⟩
    go_wp2
    go_ret
    exact fin.out _ hb3
end Go.Proofs.YtiabdbeejkadnaaGreatDoor

/- The law: polled, where there is no answer. Own work of the verifier. -/
namespace Go.Proofs.YtiabdbeejkadnaaGreatDoor
open Go.RowKit Go.Maps

theorem nil_eql (w : World) : (binOp .eql 86 (.slice none 0 0) (.slice none 0 0)).run Tryz.prog w = .ok (.bool true) w := by kernel_rfl

set_option maxHeartbeats 1000000 in
set_option maxRecDepth 1000000 in
theorem law_polled_no (S : St) (F : Nat → Prop) (x m : Nat) (wv : Value) (num : Int) (w : World) (h : PairAt w F x m S) (hg : GCell w) (h0 : ¬ F 0) (hw : (Lit.int .i64 num).wf = true) (hl : S.last ≤ 1000000) (hk0 : (pollM S num).2.2.1 ≠ 0) :
    Calls Tryz.prog 43 #[wv, .agg #[.pointer (some ⟨x, 0, none⟩), .pointer (some ⟨m, 0, none⟩)], .int .i64 num] w fun e w' => Does w F x m S e w' := by
  have hwf := h.wf
  obtain ⟨Fx, Fm, hP, hM, hd, hF⟩ := h
  have h0x : ¬ Fx 0 := fun e => h0 ((hF 0).2 (Or.inl e))
  have hPl := hP.lt
  have HM := hide hM
  have HD := hide hd
  have HF := hide hF
  have HG := hide hg
  have HPl := hide hPl
  have hnx : ¬ Fx w.heap.size := fun e => by have := hPl _ e; omega
  have hP0 := hide (hP.below (alloc_below w (.cells #[.pointer (some ⟨x, 0, none⟩), .pointer (some ⟨m, 0, none⟩)] 99)))
  clear hM hd hF hg hPl hP
  have hc : Hid (plainErr S num = if (pollM S num).2.2.1 = 5 then (5, -1, 0) else ((pollM S num).2.2.1, num, (pollM S num).2.1)) := by unfold plainErr; rw [Hid, if_neg hk0]; rfl
  have hla := hide (And.intro hk0 (pollM_same S num))
  clear hk0
  generalize hA : pollM S num = r at *
  obtain ⟨s, t, k, S'⟩ := r
  have HA : Hid (pollM S num = (s, t, k, S')) := hA
  clear hA
  generalize hA : plainErr S num = r at *
  obtain ⟨e1, e2, e3⟩ := r
  have HE : Hid (plainErr S num = (e1, e2, e3)) := hA
  clear hA
  go_enter Tryz.func43, Tryz.ntmps43
  go_wp2_with fail
  refine (plain_poll S Fx x num _ hP0.out (HG.out.below (alloc_below _ _)) h0x hw).mono ?_
  rintro e w1 ⟨ao, n, cap, t', rfl, hans, hP1, hK1⟩
  rw [HA.out] at hP1 hans
  rw [HE.out]
  rcases hans with ⟨_, rfl, rfl, rfl, rfl⟩ | ⟨hz, _⟩
  rotate_left
  · exact absurd hz hla.out.1
  have HP1 := hide (hP1.wid (fun k hk => Foot.of (w := w.alloc (.cells #[.pointer (some ⟨x, 0, none⟩), .pointer (some ⟨m, 0, none⟩)] 99)) (w' := w1) k hk) (Foot.lt (fun k hk => by have := HPl.out k hk; simp; omega) hK1.size))
  have HK1 := hide hK1
  have hz1 : w.heap.size < w1.heap.size := by have := hK1.size; simp at this; omega
  have p1 : w1.cell? ⟨w.heap.size, 1, none⟩ = some (.pointer (some ⟨m, 0, none⟩)) := (hK1.cell (p := ⟨w.heap.size, 1, none⟩) (by simp) hnx).trans (by simp)
  clear hP1 hK1
  obtain ⟨wa, hwa⟩ : ∃ wa, wa = (w1.alloc (.cells #[.slice none 0 0, .int .i64 0] 88)).alloc (.cells #[.int .i64 e1, .int .i64 e2, .int .i64 e3, .bool true] 57) := ⟨_, rfl⟩
  have HWA := hide hwa
  have hb1 : Below w1.heap.size w1 wa := by rw [hwa]; exact (alloc_below _ _).trans ((alloc_below _ _).mono (by simp))
  have HB1 := hide hb1
  have hM1 := hide (pair_mid HM.out HD.out (alloc_below _ _) HK1.out hb1)
  have hma : wa.heap.size = w1.heap.size + 2 := by rw [hwa]; simp
  have hnm : ¬ Fm w1.heap.size := fun e => by have := HM.out.lt _ e; omega
  have hnm2 : ¬ Fm (w1.heap.size + 1) := fun e => by have := HM.out.lt _ e; omega
  have ha1 : Hid (wa.heap[w1.heap.size]? = some (.cells #[.slice none 0 0, .int .i64 0] 88 (0, 0))) := by rw [hwa]; exact (Below.heap_alloc _ _ _ (by simp)).trans (heap_alloc_new w1 _)
  have ha2 : Hid (wa.heap[w1.heap.size + 1]? = some (.cells #[.int .i64 e1, .int .i64 e2, .int .i64 e3, .bool true] 57 (0, 0))) := by
    rw [hwa]
    have := heap_alloc_new (w1.alloc (.cells #[.slice none 0 0, .int .i64 0] 88)) (.cells #[.int .i64 e1, .int .i64 e2, .int .i64 e3, .bool true] 57)
    simp only [World.size_alloc] at this
    exact this
  clear hb1 hwa
  go_wp2_with fail
  rw [← HWA.out]
  refine (ref_poll_g S Fm m num _ hM1.out (by have := hwf.toldLen; have := hwf.reqsLen; omega) (by have := hwf.reqsLen; omega) (fun r hr => (hwf.rq r hr).st)).mono ?_
  rintro e w2 ⟨rfl, hM2, hK2⟩
  rw [HA.out] at hM2
  rw [HA.out]
  have HM2 := hide hM2
  have HK2 := hide hK2
  have hz2 : w1.heap.size + 1 < w2.heap.size := by have := hK2.size; omega
  have qa : w2.heap[w1.heap.size]? = some (.cells #[.slice none 0 0, .int .i64 0] 88 (0, 0)) := (hK2.block _ (by omega) hnm).trans ha1.out
  have q : w2.heap[w1.heap.size + 1]? = some (.cells #[.int .i64 e1, .int .i64 e2, .int .i64 e3, .bool true] 57 (0, 0)) := (hK2.block _ (by omega) hnm2).trans ha2.out
  obtain ⟨⟨q0, q1, q2, q3⟩, _⟩ := cells4 q
  obtain ⟨qa0, qa1, _⟩ := cells2 qa
  clear hM2 hK2 q qa
  have fin : Hid (∀ w3, Below w2.heap.size w2 w3 → Does w F x m S (.returned (.bool true)) w3) := fun w3 hb3 => by
    obtain ⟨r1, r2⟩ := pair_fin HM.out HPl.out HD.out HF.out (alloc_below _ _) HP1.out HK1.out HB1.out HM2.out HK2.out hb3
    exact ⟨rfl, S', r1, by have := hla.out.2.1; omega, hla.out.2.2, r2⟩
  have hce := hc.out
  by_cases hk : k = 5
  · subst hk
    simp only [if_true] at hce
    cases hce
    clear hc
    go_wp2_with fail
    refine (law_none 5 _).mono ?_
    rintro e w3 ⟨rfl, hb3⟩
    have r0 := (hb3.cell (p := ⟨w1.heap.size, 0, none⟩) (by show w1.heap.size < _; omega)).trans qa0
    have r1 := (hb3.cell (p := ⟨w1.heap.size, 1, none⟩) (by show w1.heap.size < _; omega)).trans qa1
    have HB3 := hide hb3
    clear hb3
    have hsn := nil_eql w3
    go_wp2
    go_ret
    exact fin.out _ HB3.out
  · have hk' : (k == 5) = false := beq_eq_false_iff_ne.2 hk
    have hk0 : (k != 0) = true := by have := hla.out.1; simpa using this
    simp only [hk, if_false] at hce
    cases hce
    clear hc hk
    go_wp2_with fail
    refine (law_wrong k num t _).mono ?_
    rintro e w3 ⟨rfl, hb3⟩
    have r0 := (hb3.cell (p := ⟨w1.heap.size, 0, none⟩) (by show w1.heap.size < _; omega)).trans qa0
    have r1 := (hb3.cell (p := ⟨w1.heap.size, 1, none⟩) (by show w1.heap.size < _; omega)).trans qa1
    have HB3 := hide hb3
    clear hb3
    have hsn := nil_eql w3
    go_wp2
    go_ret
    exact fin.out _ HB3.out
end Go.Proofs.YtiabdbeejkadnaaGreatDoor
