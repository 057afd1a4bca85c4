import Derived.Test.YtiabdbeejkadnabGreatDoorJb72f04db65
import Derived.Maps.RangeWalk
import Derived.Sort.OwnSorted
import Derived.Shelf.SlSortCmp.NoneTotal
import Derived.Shelf.SlicesE.Delete
import Derived.Shelf.SlicesE.IndexFunc
import Derived.Shelf.SlicesG.Cmp
import Derived.Shelf.SlGeneric
import Derived.Ground.SlsfProg
import Derived.Ground.SlgnProg
import Derived.Ground.SlgfProg
import Derived.Ground.SlgcProg
import Derived.Test.YtiabdbeejkadnabGreatDoorProg
import Derived.Deep.RegionHeld3
import Derived.Shelf.Small.Bits
import Derived.Lib.AppendZerosOnto
/- The program's queue: a range over the map of requests. Own work of the verifier. -/
namespace Go.Proofs.YtiabdbeejkadnabGreatDoor
open Go.RowKit Go.Maps Go.Sort Go.Shelf

theorem len_nil (w : World) : Calls Tryz.prog 56 #[.int .u64 0] w fun e w' => e = .returned (.int .i64 (bitsLen 0 : Nat)) ∧ w' = w :=
  calls_of_every_depth fun D => Any.lenWalkInAll Tryz.lays125 D 0 w (by omega)
/-! ### the loop -/
/-- one step of 'for number, e := range q.requests' -/
theorem wpList_next_mine {ops : Array Oper} {rest : List Oper} {o : Oper} {a : Act} {Q : Exit → Act → World → Prop} (w : World) (hg : o.guard = none) (it : Operand) (hop : o.op = Op.next it false)
    (b r n : Nat) (D : DataW Unit) (left : Lit → Bool) (cnt : Nat) (eb : Int → Nat) (hit : a.eval it = .pointer (some ⟨r, 0, none⟩)) (h : w.ranges Tryz.prog 3 ptrR b r n D left cnt)
    (hat0 : ∀ x, left (.int .i64 x) = true → D.atKey (.int .i64 x) .nil = .lit (.int .i64 (eb x)))
    (hDone : cnt = 0 → (∀ kl, left kl = false) → wpList Tryz.prog ops Q rest (a.put o.dst (.tuple #[.bool false])) w)
    (hMore : ∀ (x : Int) (w' : World) (cnt' : Nat), left (.int .i64 x) = true → w'.ranges Tryz.prog 3 ptrR b r n D (fun z => left z && !z.sameKey (.int .i64 x)) cnt' → cnt' < cnt → w.grownBy w' (some r) → w'.heap.size = w.heap.size →
      (Instr.entry (.pointer (some ⟨r, 0, none⟩))).run Tryz.prog w' = .ok (.tuple #[.int .i64 x, .pointer (some ⟨eb x, 0, none⟩)]) w' → wpList Tryz.prog ops Q rest (a.put o.dst (.tuple #[.bool true, .int .i64 x, .pointer (some ⟨eb x, 0, none⟩)])) w') :
    wpList Tryz.prog ops Q (o :: rest) a w := by
  refine wpList_next_ranges w hg it hop 3 keyLaw ptrR (Value.int .i64) Value.pointer (fun key kl hkey => by obtain ⟨x, rfl, _⟩ := Maps.keyOf_int_inv Tryz.underlying3 hkey; exact ⟨x, rfl⟩)
    (fun v y hv => by cases v <;> simp [ptrR] at hv; exact ⟨_, rfl⟩) b r n D left cnt hit h hDone ?_
  intro x c kl y w' cnt' hkey hlk hv hat hrg hlt hgr hsz hen
  obtain ⟨x', ex, rfl, hwx⟩ := Maps.keyOf_int_inv Tryz.underlying3 hkey
  cases ex
  obtain ⟨y1, y2⟩ := y
  have e1 : y1 = .lit (.int .i64 (eb x)) := (hat .nil).symm.trans (hat0 x hlk)
  subst e1
  have e2 := ptrR_inv hv
  cases e2
  exact hMore x w' cnt' hlk hrg hlt hgr hsz hen

structure WaitInv (R : List Rq) (T : List Int) (left : Lit → Bool) (ks : List Int) : Prop where
  nd : ks.Nodup
  mem : ∀ n, n ∈ ks ↔ (left (.int .i64 n) = false ∧ ∃ r ∈ R, r.num = n ∧ r.state = 0)
  left : ∀ n, left (.int .i64 n) = true → ∃ r ∈ R, r.num = n ∧ toldHas T n = false
theorem strikeI (left : Lit → Bool) (x n : Int) : (left (.int .i64 n) && !(Lit.int .i64 n).sameKey (.int .i64 x)) = (left (.int .i64 n) && !decide (n = x)) := by simp [Lit.sameKey]
theorem uniq {R : List Rq} (h : R.Pairwise (fun a b => a.num < b.num)) {r r' : Rq} (hr : r ∈ R) (hr' : r' ∈ R) (e : r.num = r'.num) : r = r' := by
  induction R with
  | nil => simp at hr
  | cons a l ih =>
    obtain ⟨h1, h2⟩ := List.pairwise_cons.1 h
    rcases List.mem_cons.1 hr with ea | hr
    · rcases List.mem_cons.1 hr' with eb | hr'
      · rw [ea, eb]
      · have := h1 _ hr'; rw [ea] at e; omega
    · rcases List.mem_cons.1 hr' with eb | hr'
      · have := h1 _ hr; rw [eb] at e; omega
      · exact ih h2 hr hr'
theorem WaitInv.yes {R : List Rq} {T : List Int} {left : Lit → Bool} {ks : List Int} (h : WaitInv R T left ks) {r : Rq} (hr : r ∈ R) (hl : left (.int .i64 r.num) = true) (hs : r.state = 0) :
    WaitInv R T (fun z => left z && !z.sameKey (.int .i64 r.num)) (ks ++ [r.num]) := by
  have hn : r.num ∉ ks := fun hm => by have := ((h.mem _).1 hm).1; rw [hl] at this; cases this
  refine ⟨?_, fun n => ?_, fun n hn => ?_⟩
  · rw [List.nodup_append]
    exact ⟨h.nd, List.pairwise_singleton _ _, fun a ha b hb => by rw [List.mem_singleton] at hb; subst hb; exact fun e => hn (e ▸ ha)⟩
  · show _ ↔ ((left (.int .i64 n) && !(Lit.int .i64 n).sameKey (.int .i64 r.num)) = false ∧ _)
    rw [strikeI, List.mem_append, List.mem_singleton, h.mem]
    by_cases e : n = r.num
    · subst e
      simp only [decide_true, Bool.not_true, Bool.and_false, true_and, or_true]
      exact ⟨fun _ => ⟨r, hr, rfl, hs⟩, fun _ => trivial⟩
    · simp [e]
  · have hn : (left (.int .i64 n) && !(Lit.int .i64 n).sameKey (.int .i64 r.num)) = true := hn
    rw [strikeI] at hn
    simp at hn
    exact h.left n hn.1
theorem WaitInv.no {R : List Rq} {T : List Int} {left : Lit → Bool} {ks : List Int} (h : WaitInv R T left ks) (hp : R.Pairwise (fun a b => a.num < b.num)) {r : Rq} (hr : r ∈ R) (hs : r.state ≠ 0) :
    WaitInv R T (fun z => left z && !z.sameKey (.int .i64 r.num)) ks := by
  refine ⟨h.nd, fun n => ?_, fun n hn => ?_⟩
  · show _ ↔ ((left (.int .i64 n) && !(Lit.int .i64 n).sameKey (.int .i64 r.num)) = false ∧ _)
    rw [strikeI, h.mem]
    by_cases e : n = r.num
    · subst e
      have : ¬ ∃ r' ∈ R, r'.num = r.num ∧ r'.state = 0 := fun ⟨r', hr', e1, e2⟩ => by rw [uniq hp hr' hr e1] at e2; exact hs e2
      simp [this]
    · simp [e]
  · have hn : (left (.int .i64 n) && !(Lit.int .i64 n).sameKey (.int .i64 r.num)) = true := hn
    rw [strikeI] at hn
    simp at hn
    exact h.left n hn.1
theorem waitM_sorted {S : St} (h : S.reqs.Pairwise (fun a b => a.num < b.num)) : (waitM S).Pairwise (fun a b => a < b) := by
  unfold waitM
  rw [List.pairwise_map]
  exact h.filter _
theorem WaitInv.fin {S : St} {T : List Int} {left : Lit → Bool} {ks : List Int} (h : WaitInv S.reqs T left ks) (hp : S.reqs.Pairwise (fun a b => a.num < b.num)) (hl : ∀ kl, left kl = false) :
    ks.length = (waitM S).length ∧ ks.mergeSort (fun x y => decide (x ≤ y)) = waitM S := by
  have hs := waitM_sorted hp
  have hnd : (waitM S).Nodup := hs.imp (fun h => Int.ne_of_lt h)
  have hperm : ks.Perm (waitM S) := (List.perm_ext_iff_of_nodup h.nd hnd).2 fun n => by
    rw [h.mem]
    unfold waitM
    simp only [hl, true_and, List.mem_map, List.mem_filter, beq_iff_eq]
    constructor
    · rintro ⟨r, hr, e1, e2⟩; exact ⟨r, ⟨hr, e2⟩, e1⟩
    · rintro ⟨r, ⟨hr, e2⟩, e1⟩; exact ⟨r, hr, e1, e2⟩
  refine ⟨hperm.length_eq, ?_⟩
  have h1 : (ks.mergeSort (fun x y => decide (x ≤ y))).Pairwise (fun x y => x ≤ y) := by
    have := List.pairwise_mergeSort (le := fun x y : Int => decide (x ≤ y)) (fun a b c h1 h2 => by simp at *; omega) (fun a b => by simp; omega) ks
    exact this.imp (fun h => by simpa using h)
  have h2 : (waitM S).Pairwise (fun x y => x ≤ y) := hs.imp (fun h => Int.le_of_lt h)
  exact ((List.mergeSort_perm ks _).trans hperm).eq_of_pairwise (fun a b _ _ h1 h2 => Int.le_antisymm h1 h2) h1 h2

theorem ne_own {w : World} {lim : Nat} {e : TypeId} {size : Nat} {ao : Option Addr} {n cap b : Nat} {xs : List Value} (h : Row w (fun b => lim ≤ b) e size ao n cap xs) (hb : b < lim) : some b ≠ Value.ownBlock (.slice ao n cap) := by
  cases ao with
  | none => simp [Value.ownBlock]
  | some a => have := h.2 a rfl; simp [Value.ownBlock]; omega
end Go.Proofs.YtiabdbeejkadnabGreatDoor

/- Contracts of slices' functions at this dump (made by the kit's lay-plain.mjs, its numbers turned into names by the verifier). -/
namespace Go.Proofs
open Go.Shelf
def Tryz.delF_ren : Go.Shelf.Ren := ⟨fun | 45 => 59 | n => n, fun | 22 => 81 | 23 => 73 | 3 => 3 | 4 => 4 | 0 => 0 | n => n, fun | n => n⟩
theorem Tryz.delF : Go.Proofs.SlLaysE.n45 Tryz.prog Tryz.delF_ren := {
  mixed := by kernel_rfl
  f45 := ⟨Tryz.f59.name, by decide, Tryz.func59.trans (congrArg some (by kernel_rfl))⟩
  t0 := Tryz.underlying0
  a0 := Tryz.isAgg0
  z0 := Tryz.sizeOf0
  v0 := Tryz.zeroValue0
  t3 := Tryz.underlying3
  a3 := Tryz.isAgg3
  z3 := Tryz.sizeOf3
  v3 := Tryz.zeroValue3
  t4 := Tryz.underlying4
  a4 := Tryz.isAgg4
  z4 := Tryz.sizeOf4
  v4 := Tryz.zeroValue4
  t22 := Tryz.underlying81
  a22 := Tryz.isAgg81
  z22 := Tryz.sizeOf81
  v22 := Tryz.zeroValue81
  a23 := Tryz.isAgg73
  z23 := Tryz.sizeOf73 }
def Tryz.idxF_ren : Go.Shelf.Ren := ⟨fun | 6 => 51 | n => n, fun | 22 => 72 | 23 => 75 | 25 => 113 | 3 => 3 | 0 => 0 | 4 => 4 | n => n, fun | n => n⟩
theorem Tryz.idxF : Go.Proofs.SlLaysH.n6 Tryz.prog Tryz.idxF_ren := {
  mixed := by kernel_rfl
  f6 := ⟨Tryz.f51.name, by decide, Tryz.func51.trans (congrArg some (by kernel_rfl))⟩
  t0 := Tryz.underlying0
  a0 := Tryz.isAgg0
  z0 := Tryz.sizeOf0
  v0 := Tryz.zeroValue0
  t3 := Tryz.underlying3
  a3 := Tryz.isAgg3
  z3 := Tryz.sizeOf3
  v3 := Tryz.zeroValue3
  t4 := Tryz.underlying4
  a4 := Tryz.isAgg4
  z4 := Tryz.sizeOf4
  v4 := Tryz.zeroValue4
  t22 := Tryz.underlying72
  a22 := Tryz.isAgg72
  z22 := Tryz.sizeOf72
  v22 := Tryz.zeroValue72
  a23 := Tryz.isAgg75
  z23 := Tryz.sizeOf75
  t25 := Tryz.underlying113
  a25 := Tryz.isAgg113
  z25 := Tryz.sizeOf113
  v25 := Tryz.zeroValue113 }
def Tryz.pdqF_ren : Go.Shelf.Ren := ⟨fun | 14 => 102 | 20 => 106 | 21 => 107 | 22 => 108 | 23 => 109 | 24 => 110 | 25 => 111 | 26 => 112 | 27 => 113 | 46 => 114 | 47 => 95 | 48 => 96 | 49 => 115 | 50 => 116 | 15 => 56 | 57 => 117 | 28 => 82 | 29 => 83 | n => n, fun | 24 => 75 | 22 => 72 | 3 => 3 | 25 => 175 | 4 => 4 | 0 => 0 | 46 => 140 | 45 => 139 | 50 => 145 | 66 => 178 | 39 => 118 | 55 => 150 | 70 => 182 | 76 => 191 | 77 => 192 | 53 => 148 | 5 => 5 | 9 => 9 | n => n, fun | n => n⟩
theorem Tryz.pdqF : Go.Proofs.SlLaysF.n14 Tryz.prog Tryz.pdqF_ren := {
  mixed := by kernel_rfl
  f14 := ⟨Tryz.f102.name, by decide, Tryz.func102.trans (congrArg some (by kernel_rfl))⟩
  f15 := Tryz.func56.trans (congrArg some (by kernel_rfl))
  f20 := ⟨Tryz.f106.name, by decide, Tryz.func106.trans (congrArg some (by kernel_rfl))⟩
  f21 := ⟨Tryz.f107.name, by decide, Tryz.func107.trans (congrArg some (by kernel_rfl))⟩
  f22 := ⟨Tryz.f108.name, by decide, Tryz.func108.trans (congrArg some (by kernel_rfl))⟩
  f23 := ⟨Tryz.f109.name, by decide, Tryz.func109.trans (congrArg some (by kernel_rfl))⟩
  f24 := ⟨Tryz.f110.name, by decide, Tryz.func110.trans (congrArg some (by kernel_rfl))⟩
  f25 := ⟨Tryz.f111.name, by decide, Tryz.func111.trans (congrArg some (by kernel_rfl))⟩
  f26 := ⟨Tryz.f112.name, by decide, Tryz.func112.trans (congrArg some (by kernel_rfl))⟩
  f27 := ⟨Tryz.f113.name, by decide, Tryz.func113.trans (congrArg some (by kernel_rfl))⟩
  f28 := Tryz.func82.trans (congrArg some (by kernel_rfl))
  f29 := Tryz.func83.trans (congrArg some (by kernel_rfl))
  f46 := ⟨Tryz.f114.name, by decide, Tryz.func114.trans (congrArg some (by kernel_rfl))⟩
  f47 := Tryz.func95.trans (congrArg some (by kernel_rfl))
  f48 := Tryz.func96.trans (congrArg some (by kernel_rfl))
  f49 := ⟨Tryz.f115.name, by decide, Tryz.func115.trans (congrArg some (by kernel_rfl))⟩
  f50 := ⟨Tryz.f116.name, by decide, Tryz.func116.trans (congrArg some (by kernel_rfl))⟩
  f57 := ⟨Tryz.f117.name, by decide, Tryz.func117.trans (congrArg some (by kernel_rfl))⟩
  t0 := Tryz.underlying0
  a0 := Tryz.isAgg0
  z0 := Tryz.sizeOf0
  v0 := Tryz.zeroValue0
  t3 := Tryz.underlying3
  a3 := Tryz.isAgg3
  z3 := Tryz.sizeOf3
  v3 := Tryz.zeroValue3
  t4 := Tryz.underlying4
  a4 := Tryz.isAgg4
  z4 := Tryz.sizeOf4
  v4 := Tryz.zeroValue4
  t5 := Tryz.underlying5
  a5 := Tryz.isAgg5
  z5 := Tryz.sizeOf5
  v5 := Tryz.zeroValue5
  t9 := Tryz.underlying9
  a9 := Tryz.isAgg9
  z9 := Tryz.sizeOf9
  v9 := Tryz.zeroValue9
  t22 := Tryz.underlying72
  a22 := Tryz.isAgg72
  z22 := Tryz.sizeOf72
  v22 := Tryz.zeroValue72
  a24 := Tryz.isAgg75
  z24 := Tryz.sizeOf75
  t25 := Tryz.underlying175
  a25 := Tryz.isAgg175
  z25 := Tryz.sizeOf175
  v25 := Tryz.zeroValue175
  t39 := Tryz.underlying118
  a39 := Tryz.isAgg118
  z39 := Tryz.sizeOf118
  v39 := Tryz.zeroValue118
  t45 := Tryz.underlying139
  a45 := Tryz.isAgg139
  z45 := Tryz.sizeOf139
  v45 := Tryz.zeroValue139
  t46 := Tryz.underlying140
  a46 := Tryz.isAgg140
  z46 := Tryz.sizeOf140
  v46 := Tryz.zeroValue140
  t50 := Tryz.underlying145
  a50 := Tryz.isAgg145
  z50 := Tryz.sizeOf145
  v50 := Tryz.zeroValue145
  t53 := Tryz.underlying148
  a53 := Tryz.isAgg148
  z53 := Tryz.sizeOf148
  v53 := Tryz.zeroValue148
  t55 := Tryz.underlying150
  a55 := Tryz.isAgg150
  z55 := Tryz.sizeOf150
  v55 := Tryz.zeroValue150
  t66 := Tryz.underlying178
  a66 := Tryz.isAgg178
  z66 := Tryz.sizeOf178
  v66 := Tryz.zeroValue178
  t70 := Tryz.underlying182
  a70 := Tryz.isAgg182
  z70 := Tryz.sizeOf182
  v70 := Tryz.zeroValue182
  t76 := Tryz.underlying191
  a76 := Tryz.isAgg191
  z76 := Tryz.sizeOf191
  v76 := Tryz.zeroValue191
  t77 := Tryz.underlying192
  a77 := Tryz.isAgg192
  z77 := Tryz.sizeOf192
  v77 := Tryz.zeroValue192 }
def Tryz.cmpI_ren : Go.Shelf.Ren := ⟨fun | 5 => 104 | 7 => 99 | n => n, fun | 22 => 3 | 3 => 3 | 4 => 4 | n => n, fun | n => n⟩
theorem Tryz.cmpI : Go.Proofs.SlLaysC2.n5 Tryz.prog Tryz.cmpI_ren := {
  mixed := by kernel_rfl
  f5 := ⟨Tryz.f104.name, by decide, Tryz.func104.trans (congrArg some (by kernel_rfl))⟩
  f7 := ⟨Tryz.f99.name, by decide, Tryz.func99.trans (congrArg some (by kernel_rfl))⟩
  t3 := Tryz.underlying3
  a3 := Tryz.isAgg3
  z3 := Tryz.sizeOf3
  v3 := Tryz.zeroValue3
  t4 := Tryz.underlying4
  a4 := Tryz.isAgg4
  z4 := Tryz.sizeOf4
  v4 := Tryz.zeroValue4
  t22 := Tryz.underlying3
  a22 := Tryz.isAgg3
  z22 := Tryz.sizeOf3
  v22 := Tryz.zeroValue3 }
end Go.Proofs

/- The program's queue (stage 2's code): the order in which requests stand. Own work of the verifier. -/
namespace Go.Proofs.YtiabdbeejkadnabGreatDoor
open Go.RowKit Go.Maps Go.Sort Go.Shelf

def orN (x y : Int) : Int := if x = 0 then y else x
theorem cmp_or (b : Nat) (x y : Int) (w : World) (h0 : w.cell? ⟨b, 0, none⟩ = some (.int .i64 x)) (h1 : w.cell? ⟨b, 1, none⟩ = some (.int .i64 y)) :
    Calls Tryz.prog 103 #[.slice (some ⟨b, 0, none⟩) 2 2] w fun e w' => e = .returned (.int .i64 (orN x y)) ∧ w' = w := by
  unfold orN
  by_cases hx : x = 0
  · subst hx
    by_cases hy : y = 0
    · subst hy
      go_enter Tryz.func103, Tryz.ntmps103
      go_wp2
      refine wp_loop_rounds 3 ?_
      rw [rounds_succ]
      go_wp2
      rw [rounds_succ]
      go_wp2
      rw [rounds_succ]
      go_wp2
      go_ret
      exact ⟨rfl, rfl⟩
    · have b1 : (y != 0) = true := by simpa using hy
      go_enter Tryz.func103, Tryz.ntmps103
      go_wp2
      refine wp_loop_rounds 2 ?_
      rw [rounds_succ]
      go_wp2
      rw [rounds_succ]
      go_wp2
      go_ret
      exact ⟨rfl, rfl⟩
  · have b1 : (x != 0) = true := by simpa using hx
    go_enter Tryz.func103, Tryz.ntmps103
    go_wp2
    refine wp_loop_rounds 1 ?_
    rw [rounds_succ]
    go_wp2
    go_ret
    exact ⟨rfl, rfl⟩
def cmpN (x y : Int) : Int := Lib.compareInt x y
theorem cmp_compare (x y : Int) (w : World) : Calls Tryz.prog 104 #[.int .i64 x, .int .i64 y] w fun e w' => e = .returned (.int .i64 (cmpN x y)) ∧ w' = w := AnyG.cmp_Compare_int Tryz.cmpI x y w
set_option maxHeartbeats 4000000 in
set_option maxRecDepth 1000000 in
theorem entry_compare (b1 b2 : Nat) (p1 n1 p2 n2 : Int) (w : World) (h1 : w.cell? ⟨b1, 1, none⟩ = some (.int .i64 p1)) (h0 : w.cell? ⟨b1, 0, none⟩ = some (.int .i64 n1)) (k1 : w.cell? ⟨b2, 1, none⟩ = some (.int .i64 p2)) (k0 : w.cell? ⟨b2, 0, none⟩ = some (.int .i64 n2)) :
    Calls Tryz.prog 92 #[.pointer (some ⟨b1, 0, none⟩), .pointer (some ⟨b2, 0, none⟩)] w fun e w' => e = .returned (.int .i64 (orN (cmpN p1 p2) (cmpN n1 n2))) ∧ ∃ q os', w' = grow (w.drewN q) os' := by
  have hb1 := lt_of_cell h1
  have hb2 := lt_of_cell k1
  go_enter Tryz.func92, Tryz.ntmps92
  go_wp2
  go_region_held3 (fun W => W.cell? ⟨b1, 1, none⟩ = some (.int .i64 p1) ∧ W.cell? ⟨b1, 0, none⟩ = some (.int .i64 n1) ∧ W.cell? ⟨b2, 1, none⟩ = some (.int .i64 p2) ∧ W.cell? ⟨b2, 0, none⟩ = some (.int .i64 n2)) (go_keep)
    (first
      | (go_at_call 104; refine (cmp_compare _ _ _).mono ?_; rintro e w1 ⟨rfl, hw1⟩; subst hw1)
      | (go_at_call 103; refine (cmp_or _ (cmpN p1 p2) (cmpN n1 n2) _ (by simp) (by simp)).mono ?_; rintro e w1 ⟨rfl, hw1⟩; subst hw1))
  all_goals go_wp2
  all_goals go_ret
  all_goals exact ⟨rfl, 1, _, by rw [alloc_eq_grow]; rfl⟩

/-- a request of the list R, by its entry's address -/
abbrev RqIn (R : List Rq) := { r : Rq // r ∈ R }
def encP (R : List Rq) (eb : Int → Nat) (x : RqIn R) : Value := .pointer (some ⟨eb x.1.num, 0, none⟩)
def cf2 (R : List Rq) (x y : RqIn R) : Int := orN (cmpN x.1.page y.1.page) (cmpN x.1.num y.1.num)
theorem cmpN_lt (x y : Int) : cmpN x y = if x < y then -1 else if y < x then 1 else 0 := by
  unfold cmpN Lib.compareInt
  by_cases h1 : x < y
  · simp [h1]
  · by_cases h2 : y < x <;> simp [h1, h2]
theorem lt2_iff (R : List Rq) (x y : RqIn R) : ltOf (cf2 R) x y = true ↔ Lt2 x.1 y.1 := by
  unfold ltOf cf2 orN Lt2
  rw [cmpN_lt, cmpN_lt]
  simp only [decide_eq_true_eq]
  (repeat' split) <;> omega
theorem lt2_iff' (R : List Rq) (x y : RqIn R) : ltOf (cf2 R) x y = false ↔ ¬ Lt2 x.1 y.1 := by rw [← lt2_iff, Bool.not_eq_true]
theorem lt2_swo (R : List Rq) : SWO (ltOf (cf2 R)) where
  irrefl x := by rw [lt2_iff']; unfold Lt2; omega
  trans x y z h1 h2 := by rw [lt2_iff] at *; exact h1.trans h2
  ntrans x y z h1 h2 := by rw [lt2_iff'] at *; unfold Lt2 at *; omega

theorem sortFunc (R : List Rq) [Inhabited (RqIn R)] (eb : Int → Nat) (g cap : Nat) (d : Array (RqIn R)) (w : World) (hR : R.Pairwise (fun a b => a.num < b.num))
    (hent : ∀ r ∈ R, w.cell? ⟨eb r.num, 0, none⟩ = some (.int .i64 r.num) ∧ w.cell? ⟨eb r.num, 1, none⟩ = some (.int .i64 r.page) ∧ eb r.num ≠ g) (hH : Holds (encP R eb) w g 0 d) (hg : g < w.heap.size) (hsz : d.size < 2000000) (hnd : d.toList.Pairwise (fun a b => a.1.num ≠ b.1.num)) :
    Calls Tryz.prog 91 #[.slice (some ⟨g, 0, none⟩) d.size cap, .func (.func 92) #[] #[]] w fun e w' =>
      e = .returned (.tuple #[]) ∧ ∃ d' : Array (RqIn R), ∃ n os, d'.toList.Perm d.toList ∧ (d'.toList.map (·.1)).Pairwise Lt2 ∧ w' = sortWorld (encP R eb) w g 0 n d' os := by
  have eg : ∀ args w, (callFunc 92 args).run Tryz.prog w = .ok (.enter 92 args) w := enters_of Tryz.func92 (by kernel_rfl) rfl
  have h1 : OneCell (encP R eb) := fun _ => rfl
  have hcmp : CmpLays1 Tryz.prog 92 #[] (encP R eb) (cf2 R) g 0 d.size w := by
    intro m os dk hs x y
    have hc : ∀ (z : RqIn R) (j : Nat) (v : Value), w.cell? ⟨eb z.1.num, j, none⟩ = some v → (sortWorld (encP R eb) w g 0 m dk os).cell? ⟨eb z.1.num, j, none⟩ = some v := fun z j v hv => by
      obtain ⟨_, _, hne⟩ := hent z.1 z.2
      have hlt := lt_of_cell hv
      unfold sortWorld
      rw [cell?_grow _ _ _ (by rw [size_putRow]; exact hlt), cell?_putRow_other _ _ _ _ _ _ (Or.inl hne)]
      exact hv
    obtain ⟨a0, a1, _⟩ := hent x.1 x.2
    obtain ⟨b0, b1, _⟩ := hent y.1 y.2
    exact entry_compare _ _ _ _ _ _ _ (hc x 1 _ a1) (hc x 0 _ a0) (hc y 1 _ b1) (hc y 0 _ b0)
  have hlim : Lib.bitLen d.size < 4611686018427387904 := Nat.lt_of_le_of_lt (Lib.bitLen_le d.size 62 (by omega) (by omega)) (by omega)
  have hp := Any.pdqsortCmpFunc_all Tryz.pdqF (encP R eb) (cf2 R) 92 #[] (lt2_swo R) g 0 cap d w eg hcmp ⟨h1, hH, hg⟩ (d.size + 1) 0 d.size (Lib.bitLen d.size) d w (by omega) rfl (SW.start hH) (Nat.zero_le _) (Nat.le_refl _) (by omega) hlim (Or.inl rfl)
  change Calls Tryz.prog 102 _ _ _ at hp
  have hl : Calls Tryz.prog 56 #[.int .u64 (d.size : Int)] w fun e w' => e = .returned (.int .i64 (Lib.bitLen d.size : Nat)) ∧ w' = w := by
    have h := Any.bits_Len (P := Tryz.prog) (ρ := Tryz.lays125_ren) Tryz.lays125 (d.size : Int) w (by omega) (by omega)
    rwa [Int.toNat_natCast] at h
  have wr : IntKind.u64.wrap (d.size : Int) = d.size := by simp [IntKind.wrap, IntKind.bits, IntKind.signed]; omega
  have hT : ∀ x y : RqIn R, (ltOf (cf2 R)) x y = false → (ltOf (cf2 R)) y x = false → x = y := fun x y h1 h2 => by
    rw [lt2_iff'] at h1 h2
    exact Subtype.ext (num_uniq hR x.2 y.2 (by unfold Lt2 at h1 h2; omega))
  have hs := pdq_sorts (ltOf (cf2 R)) (lt2_swo R) d 0 d.size (Lib.bitLen d.size) true true (Nat.zero_le _) (Nat.le_refl _) (Or.inl rfl)
  have hu := sorted_unique_holds (lt2_swo R) hT d _ hs.1 hs.2
  have HF : Hid ((pdq (ltOf (cf2 R)) d 0 d.size (Lib.bitLen d.size) true true).toList.Perm d.toList ∧ ((pdq (ltOf (cf2 R)) d 0 d.size (Lib.bitLen d.size) true true).toList.map (·.1)).Pairwise Lt2) := by
    rw [hu]
    refine ⟨List.mergeSort_perm _ _, ?_⟩
    have hpw := List.pairwise_mergeSort (le := fun x y : RqIn R => !(ltOf (cf2 R)) y x) (fun a b c h1 h2 => by
      simp only [Bool.not_eq_true', lt2_iff'] at *
      unfold Lt2 at *; omega) (fun a b => by
      simp only [Bool.or_eq_true, Bool.not_eq_true', lt2_iff']
      unfold Lt2; omega) d.toList
    have hnd' : (d.toList.mergeSort fun x y => !(ltOf (cf2 R)) y x).Pairwise (fun a b => a.1.num ≠ b.1.num) := (List.mergeSort_perm _ _).symm.pairwise hnd (fun h e => h e.symm)
    show ((d.toList.mergeSort fun x y => !(ltOf (cf2 R)) y x).map (·.1)).Pairwise Lt2
    rw [List.pairwise_map]
    refine (hpw.and hnd').imp (fun {a b} h => ?_)
    obtain ⟨h1, h2⟩ := h
    simp only [Bool.not_eq_true', lt2_iff'] at h1
    unfold Lt2 at *; omega
  generalize pdq (ltOf (cf2 R)) d 0 d.size (Lib.bitLen d.size) true true = d' at hp HF
  have HP := hide hp
  have HL := hide hl
  clear hp hl hH hcmp h1 hs hu hT hent hnd hlim eg
  generalize hsd : d.size = sz at *
  clear hsd
  go_enter Tryz.func91, Tryz.ntmps91
  go_wp2_with (first | (go_at_call 56; refine HL.out.mono ?_; rintro e w' ⟨rfl, rfl⟩) | (go_at_call 102; refine HP.out.mono ?_; rintro e w' ⟨rfl, n, os, rfl⟩))
  go_end0
  exact ⟨rfl, d', n, os, HF.out.1, HF.out.2, rfl⟩
end Go.Proofs.YtiabdbeejkadnabGreatDoor

/- The program's queue (stage 2's code): slices.Grow, slices.Concat of the commands under way. Own work of the verifier. -/
namespace Go.Proofs.YtiabdbeejkadnabGreatDoor
open Go.RowKit Go.Maps Go.Sort Go.Shelf

theorem info_ptr : (Tryz.prog.info? 75).map (fun i => (i.zero, i.size, i.bytes)) = some (some (.pointer none), 1, 8) := by kernel_rfl
theorem Row.cut0 {w : World} {F : Nat → Prop} {e : TypeId} {g n cap : Nat} {xs : List Value} (h : Row w F e 1 (Option.some ⟨g, 0, none⟩) n cap xs) : Row w F e 1 (Option.some ⟨g, 0, none⟩) 0 cap [] := by
  refine ⟨⟨rfl, ?_⟩, h.2⟩
  rcases h.1.2 with ⟨h0, _⟩ | ⟨g', cap', cur, hv, hb, hh, h1, h2, h3, h4⟩
  · cases h0
  · cases hv
    exact Or.inr ⟨g, cap, cur, rfl, hb, hh, Nat.zero_le _, h2, h3, by simp⟩
set_option maxHeartbeats 1000000 in
set_option maxRecDepth 1000000 in
theorem sl_grow (n : Nat) (hn : n ≤ 1000000) (w : World) :
    Calls Tryz.prog 84 #[.slice none 0 0, .int .i64 (n : Int)] w fun e w' => ∃ ao cap, e = .returned (.slice ao 0 cap) ∧ Row w' (fun b => w.heap.size ≤ b) 75 1 ao 0 cap [] ∧ Below w.heap.size w w' := by
  obtain ⟨i0, hi, hi0, hi1, hi2⟩ := info_parts info_ptr
  by_cases h0 : n = 0
  · subst h0
    go_enter Tryz.func84, Tryz.ntmps84
    go_wp2
    go_ret
    exact ⟨none, 0, rfl, Row.nil _ _ _ _, Below.refl _ _⟩
  · have hp : (0 : Int) < n := by omega
    have hold : (Builtin.firstCells i0.size 0 (.slice none 0 0)).run Tryz.prog w.drew = .ok ([] : List Value).toArray w.drew := rfl
    have hrz := fun ty => Lib.run_append_grow_zeros (P := Tryz.prog) w 73 3 ty 75 i0 (.pointer none) .i64 .i64 Tryz.underlying73 Tryz.underlying3 hi hi0 none 0 0 [] hold n (by omega) (by omega) (by omega) (by omega) (by rw [hi2]; omega) (by rw [hi2]; unfold Builtin.nextslicecap; rw [if_pos (by omega)]; omega)
    have hGn : 0 + n ≤ grownCap w (0 + n) 0 75 := grownCap_ge w _ _ _
    have hG63 := grownCap_le_maxLen w (0 + n) 0 75 (by unfold maxLen; omega)
    generalize grownCap w (0 + n) 0 75 = G at *
    rw [Nat.zero_add] at hGn hrz
    have HGM : Hid (G ≤ maxLen) := hG63
    unfold maxLen at hG63
    have HR := hide hrz
    clear hold hrz
    go_enter Tryz.func84, Tryz.ntmps84
    go_wp2_with (at_builtin; refine Lib.wpList_append_run _ rfl _ _ _ _ rfl _ _ rfl rfl _ _ (HR.out _) ?_)
    go_ret
    refine ⟨some ⟨w.heap.size, 0, none⟩, G, rfl, ?_, (Below.refl _ _).drew.alloc (Nat.le_refl _) _⟩
    exact ⟨⟨rfl, Or.inr ⟨w.heap.size, G, _, rfl, Nat.zero_le _, heap_alloc_new w _, Nat.zero_le _, HGM.out, by simp [Builtin.zeroCells]; omega, by simp⟩⟩, fun a ha => by cases ha; exact Nat.le_refl _⟩

/-- a row of one's own, new since w, behind an append of what lies elsewhere -/
theorem own_rel0 {e : TypeId} {size : Nat} {w wr w2 : World} {ao : Option Addr} {n m cap g cap' : Nat} {xs news : List Value} (hb : Below w.heap.size w wr) (hrow : Row wr (fun b => w.heap.size ≤ b) e size ao n cap xs)
    (hgrow : wr.grownBy w2 (Value.ownBlock (.slice ao n cap))) (hown : w2.ownsRow 0 e size (.slice (some ⟨g, 0, none⟩) (n + m) cap') (n + m) (xs ++ news)) (hat : Value.ownBlock (.slice ao n cap) = some g ∨ g = wr.heap.size) :
    Below w.heap.size w w2 ∧ Row w2 (fun b => w.heap.size ≤ b) e size (some ⟨g, 0, none⟩) (n + m) cap' (xs ++ news) := by
  have hob : ∀ k, Value.ownBlock (.slice ao n cap) = some k → w.heap.size ≤ k := by
    intro k hk
    cases ao with
    | none => simp [Value.ownBlock] at hk
    | some a => have := hrow.2 a rfl; simp [Value.ownBlock] at hk; omega
  refine ⟨hb.grown hgrow hb.size hob, hown, fun a ha => ?_⟩
  cases ha
  rcases hat with e | e
  · exact hob g e
  · have := hb.size; show w.heap.size ≤ g; omega
def airsOf (fl : List Cmd) : List Int := fl.flatMap (·.requests)
theorem airsOf_take (fl : List Cmd) {k : Nat} (hk : k < fl.length) : airsOf (fl.take (k + 1)) = airsOf (fl.take k) ++ (fl[k]).requests := by
  unfold airsOf
  rw [List.take_succ_eq_append_getElem hk, List.flatMap_append]
  simp
theorem airsOf_take_len (fl : List Cmd) (k : Nat) : (airsOf (fl.take k)).length ≤ (airsOf fl).length := by
  unfold airsOf
  have := (List.take_append_drop k fl)
  conv => rhs; rw [← this]
  rw [List.flatMap_append, List.length_append]
  omega
theorem encE_append (eb : Int → Nat) (l m : List Int) : encE eb (l ++ m) = encE eb l ++ encE eb m := by simp [encE]
theorem encE_len (eb : Int → Nat) (l : List Int) : (encE eb l).length = l.length := by simp [encE]
theorem LPart.cell {w : World} {F : Nat → Prop} {eb : Int → Nat} {fl : List Cmd} {g cf : Nat} {vs : List (Option Addr × Nat)} (h : LPart w F eb fl (some ⟨g, 0, none⟩) cf vs) {k : Nat} (hk : k < fl.length) : w.cell? ⟨g, k, none⟩ = some (.slice (vs[k]'(by rw [h.len]; exact hk)).1 (fl[k]).requests.length (vs[k]'(by rw [h.len]; exact hk)).2) := by
  have := Row.cellAt h.row k (by omega)
  rw [this, List.getElem?_map, List.getElem?_eq_getElem (by simp [h.len]; exact hk)]
  simp
theorem LPart.inner {w : World} {F : Nat → Prop} {eb : Int → Nat} {fl : List Cmd} {af : Option Addr} {cf : Nat} {vs : List (Option Addr × Nat)} (h : LPart w F eb fl af cf vs) {k : Nat} (hk : k < fl.length) (hne : (fl[k]).requests ≠ []) : ∃ g', (vs[k]'(by rw [h.len]; exact hk)).1 = some ⟨g', 0, none⟩ ∧ F g' ∧ g' < w.heap.size ∧ Row w F 75 1 (some ⟨g', 0, none⟩) (fl[k]).requests.length (vs[k]'(by rw [h.len]; exact hk)).2 (encE eb (fl[k]).requests) := by
  have hv : k < vs.length := by rw [h.len]; exact hk
  have hm : (fl[k], vs[k]) ∈ fl.zip vs := by
    rw [List.mem_iff_getElem]
    exact ⟨k, by simp; omega, by simp⟩
  have hr := h.ins _ hm
  have hpos : 0 < (fl[k]).requests.length := List.length_pos_iff.2 hne
  obtain ⟨g', cur, hg, hF, hb, _⟩ := Row.some hr hpos
  exact ⟨g', hg, hF, lt_of_heap hb, hg ▸ hr⟩

set_option maxHeartbeats 1000000 in
set_option maxRecDepth 1000000 in
theorem sl_concat (F : Nat → Prop) (eb : Int → Nat) (fl : List Cmd) (af : Option Addr) (cf : Nat) (vs : List (Option Addr × Nat)) (w : World) (h : LPart w F eb fl af cf vs) (hne : ∀ c ∈ fl, c.requests ≠ []) (hb : (airsOf fl).length ≤ 1000000) (h4 : fl.length ≤ 4) :
    Calls Tryz.prog 60 #[.slice af fl.length cf] w fun e w' => ∃ ao n cap, e = .returned (.slice ao n cap) ∧ n = (airsOf fl).length ∧ Row w' (fun b => w.heap.size ≤ b) 75 1 ao n cap (encE eb (airsOf fl)) ∧ Below w.heap.size w w' := by
  obtain ⟨i0, hi, hi0, hi1, hi2⟩ := info_parts info_ptr
  have H := hide h
  have HN := hide hne
  have HB := hide hb
  clear h hne hb
  go_enter Tryz.func60, Tryz.ntmps60
  go_wp2
  go_loop [3, 11] (fun t i => ∃ k : Nat, k ≤ fl.length ∧ i = .int .i64 k ∧ t = .int .i64 ((airsOf (fl.take k)).length : Nat)) (fun _ i => fl.length - (intOf i).toNat)
  case atStart => exact ⟨0, Nat.zero_le _, rfl, rfl⟩
  case round =>
    obtain ⟨k, hk, rfl, rfl⟩ := hrel
    have hl1 := airsOf_take_len fl k
    have hl0 := HB.out
    by_cases hlt : k < fl.length
    · obtain ⟨g, cur, hg, _, _, _, _⟩ := Row.some H.out.row (by omega)
      subst hg
      have ck := H.out.cell hlt
      have hvk : k < vs.length := by rw [H.out.len]; exact hlt
      generalize vs[k] = v at ck
      have HA := hide (airsOf_take fl hlt)
      have hl2 := airsOf_take_len fl (k + 1)
      rw [HA.out, List.length_append] at hl2
      have HE : Hid (((airsOf (fl.take k)).length + (fl[k]).requests.length : Nat) = (airsOf (fl.take (k + 1))).length) := by show _ = _; rw [HA.out, List.length_append]
      generalize (fl[k]).requests.length = m at *
      generalize (airsOf (fl.take k)).length = t at *
      go_wp2
      go_round
      case rel => exact ⟨k + 1, by omega, by go_num, by rw [← HE.out]; go_num⟩
      case measure => simp [intOf]; omega
    · have hkn : k = fl.length := by omega
      subst hkn
      rw [List.take_length] at *
      generalize hT : (airsOf fl).length = tot at *
      have HT := hide hT
      clear hT hlt hk hl1
      go_wp2_with fail
      refine (sl_grow tot hl0 _).mono ?_
      rintro e w1 ⟨ao, cap, rfl, hrow, hbel⟩
      have HR0 := hide hrow
      have HB0 := hide hbel
      clear hrow hbel
      go_wp2
      go_loopw [6, 27] (fun l i wr => ∃ (k n cap : Nat) (ao : Option Addr), k ≤ fl.length ∧ i = .int .i64 k ∧ l = .slice ao n cap ∧ Hid (n = (airsOf (fl.take k)).length) ∧ Hid (Row wr (fun b => w.heap.size ≤ b) 75 1 ao n cap (encE eb (airsOf (fl.take k)))) ∧ Hid (Below w.heap.size w wr)) (fun _ i _ => fl.length - (intOf i).toNat)
      case atStart => exact ⟨0, 0, cap, ao, Nat.zero_le _, rfl, rfl, rfl, HR0.out, HB0.out⟩
      case round =>
        obtain ⟨k, n, cap, ao, hk, rfl, rfl, hn, hrow, hbel⟩ := hrel
        by_cases hlt : k < fl.length
        · obtain ⟨g, cur, hg, _, hgb, _, _⟩ := Row.some H.out.row (by omega)
          subst hg
          have hgl := lt_of_heap hgb
          have ck := (hbel.out.cell (p := ⟨g, k, none⟩) hgl).trans (H.out.cell hlt)
          obtain ⟨g', hg', _, hgl', hin⟩ := H.out.inner hlt (HN.out _ (List.getElem_mem hlt))
          rw [hg'] at ck
          generalize (vs[k]'(by rw [H.out.len]; exact hlt)).2 = vc at ck hin
          have HA := hide (airsOf_take fl hlt)
          have hl2 := airsOf_take_len fl (k + 1)
          rw [HA.out, List.length_append, HT.out] at hl2
          have hm0 : 0 < (fl[k]).requests.length := List.length_pos_iff.2 (HN.out _ (List.getElem_mem hlt))
          have HW : Hid (∀ (t : Nat) (u : Value), (encE eb (fl[k]).requests)[t]? = some u → wr.cell? ((⟨g', 0, none⟩ : Addr).add t) = some u) := fun t u ht => by
            rw [Addr.add_lit, Nat.zero_add, hbel.out.cell (p := ⟨g', t, none⟩) hgl', Row.cellAt hin t (by have := (List.getElem?_eq_some_iff.1 ht).1; rw [encE_len] at this; omega)]
            exact ht
          have HL : Hid ((encE eb (fl[k]).requests).length = (fl[k]).requests.length * 1) := by show _ = _; rw [encE_len, Nat.mul_one]
          have H1 : Hid (∀ u ∈ encE eb (fl[k]).requests, u.oneCell' = true) := by intro u hu; simp [encE] at hu; obtain ⟨_, _, rfl⟩ := hu; rfl
          have HN2 : Hid (n + (fl[k]).requests.length = (airsOf (fl.take (k + 1))).length) := by show _ = _; rw [HA.out, List.length_append, hn.out]
          have hnb : n + (fl[k]).requests.length ≤ 1000000 := by rw [hn.out]; omega
          have HE : Hid (encE eb (airsOf (fl.take (k + 1))) = encE eb (airsOf (fl.take k)) ++ encE eb (fl[k]).requests) := by show _ = _; rw [HA.out, encE_append]
          clear hin hl2 hgb hg'
          generalize encE eb (fl[k]).requests = news at *
          generalize (fl[k]).requests.length = m at *
          go_wp2_with (at_builtin; go_must (refine wpList_append_lies _ rfl (.tmp 31) (.tmp 32) 73 rfl 0 75 i0 (.pointer none) 1 8 Tryz.underlying73 hi hi0 hi1 hi2 rfl (by decide) (.slice ao n cap) n (encE eb (airsOf (fl.take k))) rfl hrow.out.1 ⟨g', 0, none⟩ m vc news rfl HL.out HW.out H1.out hm0 (by unfold maxLen; omega) (by omega) (Nat.zero_le _) wr.heap.size rfl ?_; intro g2 cap' w2 hown hgrow hat hlt3; have HX := hide (own_rel0 hbel.out hrow.out hgrow hown hat); clear hown hgrow hat hlt3))
          go_roundw
          case rel => exact ⟨k + 1, n + m, cap', some ⟨g2, 0, none⟩, by omega, by go_num, rfl, HN2, by show Row _ _ _ _ _ _ _ _; rw [HE.out]; exact HX.out.2, HX.out.1⟩
          case measure => simp [intOf]; omega
        · have hkn : k = fl.length := by omega
          subst hkn
          rw [List.take_length] at *
          go_wp2
          go_ret
          exact ⟨ao, n, cap, rfl, by rw [hn.out], hrow.out, hbel.out⟩
end Go.Proofs.YtiabdbeejkadnabGreatDoor
