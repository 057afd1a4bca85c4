import Derived.Test.YtiabdbeejkadnabGreatDoorJ9af1f186fb
import Derived.Test.YtiabdbeejkadnabGreatDoorJ08b65dc5ca
import Derived.Deep.Cut
import Derived.Deep.CutRange
import Derived.Deep.RegionHeld3
import Derived.Deep.RegionWith
import Derived.Deep.Light
import Derived.BigQuiet
/- The keeps: Given. Own work of the verifier. -/
namespace Go.Proofs.YtiabdbeejkadnabGreatDoor
open Go.RowKit Go.Maps

/-- what stands while requests are asked for -/
def GAsk (w W : World) (wa xa wb xb n i : Nat) (D : Int) : Prop :=
  ∃ A B ra rb, Two w W wa xa wb xb A B ra rb (fun _ => False) ∧ Asked n i A B D ∧ ra.length = i ∧ rb.length = B.reqs.length
/-- the first was asked -/
def GMid (w W : World) (wa xa wb xb n i : Nat) (D : Int) (wr : Bool) (p : Int) : Prop :=
  ∃ A B ra rb d, Two w W wa xa wb xb (askOk A wr p d) B ra rb (fun _ => False) ∧ Asked n i A B D ∧ ra.length = i + 1 ∧ rb.length = B.reqs.length ∧ (wr = true → d.size = 4)
/-- the second too -/
def GEnd (w W : World) (wa xa wb xb n i : Nat) (D : Int) (lb : Nat) : Prop :=
  ∃ A B ra rb, Two w W wa xa wb xb A B ra rb (fun _ => False) ∧ Asked n (i + 1) A B D ∧ ra.length = i + 1 ∧ rb.length = B.reqs.length ∧ rb.length = lb + 1
section
variable {w W : World} {wa xa wb xb n i lb : Nat} {D : Int} {wr : Bool} {p : Int}
theorem g_askA (wr : Bool) (p : Int) (v : UInt8) (h : GAsk w W wa xa wb xb n i D) (hi : i < 40) (hp : 0 ≤ p ∧ p < 16) :
    Calls Tryz.prog 8 #[.pointer (some ⟨wa, 0, none⟩), .bool wr, .int .i64 p, .int .u8 v.toNat] W fun e w' => e = .returned (.bool true) ∧ GMid w w' wa xa wb xb n i D wr p := by
  obtain ⟨A, B, ra, rb, h1, h2, h3, h4⟩ := h
  refine (two_ask wr p v h1 (by rw [h2.sa, h3]) (by omega) hp (h2.roomA hi)).mono ?_
  rintro e w1 ⟨e1, e2, _⟩
  refine ⟨e1, A, B, _, rb, _, e2, h2, by simp [h3], h4, fun e => ?_⟩
  rw [e]; rfl
theorem g_skip (h : GMid w W wa xa wb xb n n D wr p) (hi : n < 40) (hp : 0 ≤ p ∧ p < 16) : GAsk w W wa xa wb xb n (n + 1) D := by
  obtain ⟨A, B, ra, rb, d, h1, h2, h3, h4, h5⟩ := h
  exact ⟨_, B, ra, rb, h1, h2.one hi wr p d hp h5, h3, h4⟩
theorem g_askB (wr : Bool) (p : Int) (v : UInt8) (h : GMid w W wa xa wb xb n i D wr p) (hne : i ≠ n) (hi : i < 40) (hp : 0 ≤ p ∧ p < 16) :
    Calls Tryz.prog 8 #[.pointer (some ⟨wb, 0, none⟩), .bool wr, .int .i64 p, .int .u8 v.toNat] W fun e w' => e = .returned (.bool true) ∧ ∃ lb, GEnd w w' wa xa wb xb n i D lb := by
  obtain ⟨A, B, ra, rb, d, h1, h2, h3, h4, h5⟩ := h
  refine (two_ask wr p v h1.swap (by rw [h2.sb, h4]) (by have := h2.lb; rw [h4]; split at this <;> omega) hp (h2.roomB hi)).mono ?_
  rintro e w1 ⟨e1, e2, _⟩
  refine ⟨e1, rb.length, _, _, ra, _, e2.swap, h2.both hne hi wr p d _ hp h5 (fun e => ?_), h3, ?_, by simp⟩
  · rw [e]; rfl
  · show _ = (B.reqs ++ [_]).length; simp [h4]
theorem g_data (h : GEnd w W wa xa wb xb n i D lb) :
    ∃ ga ca gb cb d, W.cell? ⟨wa, 1, none⟩ = some (.slice (some ⟨ga, 0, none⟩) (i + 1) ca) ∧ W.cell? ⟨wb, 1, none⟩ = some (.slice (some ⟨gb, 0, none⟩) (lb + 1) cb) ∧ wa < W.heap.size ∧ wb < W.heap.size ∧ ga < W.heap.size ∧ gb < W.heap.size ∧ W.cell? ⟨ga, i * 6 + 3, none⟩ = some (.string d) ∧ (∃ d', W.cell? ⟨gb, lb * 6 + 3, none⟩ = some (.string d')) ∧ W.frozen? ⟨gb, lb * 6 + 3, none⟩ = false ∧ (gb ≠ wa ∧ gb ≠ wb ∧ gb ≠ ga) ∧ lb < 40 ∧ ∀ m : Nat, GAsk w ((W.setCell ⟨gb, lb * 6 + 3, none⟩ (.string d)).drewN m) wa xa wb xb n (i + 1) D := by
  obtain ⟨A, B, ra, rb, h1, h2, h3, h4, h5⟩ := h
  obtain ⟨ga, ca, gb, cb, d, a1, a2, a3, a4, a5, a6, a7, a8, a9, a11, a10⟩ := h1.data (i := i) (j := lb) (by omega) (by omega)
  rw [h3] at a1
  rw [h5] at a2
  have hl := h2.wb.len
  rw [h2.tb] at hl
  refine ⟨ga, ca, gb, cb, d, a1, a2, a3, a4, a5, a6, a7, a8, a9, a11, by simp at hl; omega, fun m => ⟨A, B, ra, _, a10 m, h2, h3, by rw [List.length_set]; exact h4⟩⟩
end
/-! ### one is given up -/
def GC (f : St → St) (w W : World) (wa xa wb xb n : Nat) (D : Int) (X : Nat → Prop) : Prop :=
  ∃ A B ra rb i, Two w W wa xa wb xb (f A) B ra rb X ∧ Asked n i A B D ∧ n < i ∧ i ≤ 40
section
variable {w W : World} {wa xa wb xb n i : Nat} {D : Int} {X : Nat → Prop} {f : St → St}
theorem GC.qa (h : GC f w W wa xa wb xb n D X) : W.cell? ⟨wa, 0, none⟩ = some (.pointer (some ⟨xa, 0, none⟩)) ∧ wa < W.heap.size := by
  obtain ⟨A, B, ra, rb, i, h1, _⟩ := h
  exact h1.qa
theorem GC.alloc (h : GC f w W wa xa wb xb n D X) (o : Obj) : GC f w (W.alloc o) wa xa wb xb n D (fun k => X k ∨ k = W.heap.size) := by
  obtain ⟨A, B, ra, rb, i, h1, h2⟩ := h
  exact ⟨A, B, ra, rb, i, h1.alloc o, h2⟩
theorem num_wf (hn : n < 100) : (Lit.int .i64 ((n : Int) + 1)).wf = true := by
  simp only [Lit.wf, Bool.and_eq_true, decide_eq_true_eq]
  have e1 : IntKind.i64.min = -9223372036854775808 := by decide
  have e2 : IntKind.i64.max = 9223372036854775807 := by decide
  rw [e1, e2]; omega
theorem g_can1 (h : GAsk w W wa xa wb xb n i D) (hn : n < i) (hi : i ≤ 40) :
    Calls Tryz.prog 9 #[.pointer (some ⟨xa, 0, none⟩), .int .i64 ((n : Int) + 1)] W fun e w' => e = .returned (.agg #[.int .i64 0, .int .i64 (-1), .int .i64 0, .bool true]) ∧ GC (fun A => given4 A n) w w' wa xa wb xb n D (fun _ => False) := by
  obtain ⟨A, B, ra, rb, h1, h2, h3, h4⟩ := h
  have e1 : cancelErr A (n + 1) = (0, -1, 0) := by unfold cancelErr; rw [h2.cancel hn]; rfl
  refine (two_cancel (n + 1) h1 (num_wf (by omega))).mono ?_
  rintro e w1 ⟨x1, x2, _⟩
  rw [e1] at x1
  rw [h2.cancel hn] at x2
  exact ⟨x1, A, B, ra, rb, i, x2, h2, hn, hi⟩
theorem g_can2 (h : GC (fun A => given4 A n) w W wa xa wb xb n D X) :
    Calls Tryz.prog 9 #[.pointer (some ⟨xa, 0, none⟩), .int .i64 ((n : Int) + 1)] W fun e w' => e = .returned (.agg #[.int .i64 9, .int .i64 ((n : Int) + 1), .int .i64 0, .bool true]) ∧ GC (fun A => given4 A n) w w' wa xa wb xb n D X ∧ ∀ k, X k → w'.heap[k]? = W.heap[k]? := by
  obtain ⟨A, B, ra, rb, i, h1, h2, hn, hi⟩ := h
  have e1 : cancelErr (given4 A n) (n + 1) = (9, (n : Int) + 1, 0) := by unfold cancelErr; rw [h2.cancel2 hn]; rfl
  refine (two_cancel (n + 1) h1 (num_wf (by omega))).mono ?_
  rintro e w1 ⟨x1, x2, x3⟩
  rw [e1] at x1
  rw [h2.cancel2 hn] at x2
  exact ⟨x1, ⟨A, B, ra, rb, i, x2, h2, hn, hi⟩, x3⟩
theorem g_pol1 (h : GC (fun A => given4 A n) w W wa xa wb xb n D X) :
    Calls Tryz.prog 10 #[.pointer (some ⟨xa, 0, none⟩), .int .i64 ((n : Int) + 1)] W fun e w' => (∃ ao m cap t, e = .returned (.tuple #[.agg #[.slice ao m cap, .int .i64 t], .agg #[.int .i64 8, .int .i64 ((n : Int) + 1), .int .i64 0, .bool true]])) ∧ GC (fun A => gone A n) w w' wa xa wb xb n D X ∧ ∀ k, X k → w'.heap[k]? = W.heap[k]? := by
  obtain ⟨A, B, ra, rb, i, h1, h2, hn, hi⟩ := h
  have e1 : plainErr (given4 A n) (n + 1) = (8, (n : Int) + 1, 0) := by unfold plainErr pollErr; rw [h2.poll hn]; rfl
  refine (two_poll (n + 1) h1 (num_wf (by omega))).mono ?_
  rintro e w1 ⟨x1, x2, x3⟩
  rw [e1] at x1
  rw [h2.poll hn] at x2
  exact ⟨x1, ⟨A, B, ra, rb, i, x2, h2, hn, hi⟩, x3⟩
theorem g_pol2 (h : GC (fun A => gone A n) w W wa xa wb xb n D X) :
    Calls Tryz.prog 10 #[.pointer (some ⟨xa, 0, none⟩), .int .i64 ((n : Int) + 1)] W fun e w' => (∃ ao m cap t, e = .returned (.tuple #[.agg #[.slice ao m cap, .int .i64 t], .agg #[.int .i64 5, .int .i64 (-1), .int .i64 0, .bool true]])) ∧ GC (fun A => gone A n) w w' wa xa wb xb n D X ∧ ∀ k, X k → w'.heap[k]? = W.heap[k]? := by
  obtain ⟨A, B, ra, rb, i, h1, h2, hn, hi⟩ := h
  have e1 : plainErr (gone A n) (n + 1) = (5, -1, 0) := by unfold plainErr pollErr; rw [h2.poll2 hn]; rfl
  refine (two_poll (n + 1) h1 (num_wf (by omega))).mono ?_
  rintro e w1 ⟨x1, x2, x3⟩
  rw [e1] at x1
  rw [h2.poll2 hn] at x2
  exact ⟨x1, ⟨A, B, ra, rb, i, x2, h2, hn, hi⟩, x3⟩
end
/-! ### the loop -/
def LG (w W : World) (wa xa wb xb n j : Nat) (D : Int) : Prop :=
  ∃ A B ra rb, Two w W wa xa wb xb A B ra rb (fun _ => False) ∧ LoopG n A B D ∧ A.last ≤ 40 ∧ B.last ≤ 40 ∧ restN A + j ≤ 78
theorem GC.loop {w W : World} {wa xa wb xb n : Nat} {D : Int} {X : Nat → Prop} (h : GC (fun A => gone A n) w W wa xa wb xb n D X) : LG w W wa xa wb xb n 0 D := by
  obtain ⟨A, B, ra, rb, i, h1, h2, hn, hi⟩ := h
  have hb : B.last ≤ 40 := by
    rw [h2.sb, h2.lb]; split <;> omega
  exact ⟨_, B, ra, rb, h1.less (fun _ e => e.elim), h2.loop hn, by show A.last ≤ 40; rw [h2.sa]; omega, hb, by have := h2.rest hn hi; omega⟩
theorem completeM_false {S : St} (h : (completeM S 0 false).1 = false) : S.flights = [] ∧ (completeM S 0 false).2 = S := by
  unfold completeM at h ⊢
  split
  · rename_i hx
    refine ⟨?_, rfl⟩
    cases hf : S.flights with
    | nil => rfl
    | cons c l => rw [hf] at hx; simp at hx; omega
  · rename_i hx
    rw [if_neg hx] at h
    cases h
theorem GAsk.qa {w W : World} {wa xa wb xb n i : Nat} {D : Int} (h : GAsk w W wa xa wb xb n i D) : W.cell? ⟨wa, 0, none⟩ = some (.pointer (some ⟨xa, 0, none⟩)) ∧ wa < W.heap.size := by
  obtain ⟨A, B, ra, rb, h1, _⟩ := h
  exact h1.qa
theorem LG.below {w W W' : World} {wa xa wb xb n j : Nat} {D : Int} (h : LG w W wa xa wb xb n j D) (hb : Below W.heap.size W W') : LG w W' wa xa wb xb n j D := by
  obtain ⟨A, B, ra, rb, h1, h2⟩ := h
  exact ⟨A, B, ra, rb, (h1.below hb).less (fun _ e => e.elim), h2⟩
/-- an old block behind two new ones, and more -/
theorem lift2 {w W : World} {x y o : Obj} {b : Nat} (h : w.heap[b]? = some o) (hb : Below ((w.alloc x).alloc y).heap.size ((w.alloc x).alloc y) W) : W.heap[b]? = some o := by
  have hz := lt_of_heap h
  rw [hb.block b (by simp; omega), Below.heap_alloc _ _ _ (by simp; omega), Below.heap_alloc _ _ _ hz]
  exact h
theorem kerr_ne (v : Int) (w : World) : (binOp .neq 35 (.agg #[.int .i64 v, .int .i64 (-1), .int .i64 0, .bool true]) (.agg #[.int .i64 v, .int .i64 (-1), .int .i64 0, .bool true])).run Tryz.prog w = .ok (.bool false) w := by
  have u1 := Tryz.underlying3
  have u2 := Tryz.underlying33
  have u3 := Tryz.underlying4
  have hS : Tryz.prog.underlying 35 = some (.struct (Tryz.prog.fieldsOf 35)) := by kernel_rfl
  have hp : Tryz.prog.stoodInHeld 35 = false := by kernel_rfl
  rw [run_neq_struct, show (10000 : Nat) = 9999 + 1 from rfl, run_equalIn_agg w 9999 35 _ _ hS hp]
  simp only [Program.fieldsOf, Tryz.underlying35]
  go_simp
/-- what the second's command is -/
structure Nx (n : Nat) (A B : St) (cb : Cmd) (ib : Bool) : Prop where
  a : (nextM A).getD cmdZ = renC n cb ∧ (nextM A).isSome = ib
  b : (nextM B).getD cmdZ = cb ∧ (nextM B).isSome = ib
theorem Like.nx {n : Nat} {A B : St} (h : Like n A B) : ∃ cb ib, Nx n A B cb ib := by
  refine ⟨(nextM B).getD cmdZ, (nextM B).isSome, ⟨?_, ?_⟩, rfl, rfl⟩
  · rw [h.next]; cases nextM B <;> rfl
  · rw [h.next]; cases nextM B <;> rfl
section
variable {w W : World} {wa xa wb xb n : Nat} {A B : St} {ra rb : List KR} {X : Nat → Prop} {cb : Cmd} {ib : Bool}
theorem l_stepA (h : Two w W wa xa wb xb A B ra rb X) (hl : A.last ≤ 1000000) (hx : Nx n A B cb ib) :
    Calls Tryz.prog 12 #[.pointer (some ⟨xa, 0, none⟩)] W fun e w' => ∃ ao cap, e = .returned (.tuple #[.agg #[.bool cb.write, .int .i64 cb.page, .int .i64 cb.count, .slice ao cb.requests.length cap], .bool ib]) ∧ ∃ X' : Nat → Prop, Row w' X' 3 1 ao cb.requests.length cap (encI (cb.requests.map (sh n))) ∧ Two w w' wa xa wb xb (stepM A).2 B ra rb X' ∧ ∀ k, X k → X' k ∧ w'.heap[k]? = W.heap[k]? := by
  have := two_step h hl
  rw [hx.a.1, hx.a.2] at this
  refine this.mono ?_
  rintro e w1 ⟨ao, cap, e1, X', e2, e3, e4⟩
  have hlen : (renC n cb).requests.length = cb.requests.length := by simp [renC]
  rw [hlen] at e1 e2
  exact ⟨ao, cap, e1, X', e2, e3, e4⟩
theorem l_stepB (h : Two w W wa xa wb xb A B ra rb X) (hl : B.last ≤ 1000000) (hx : (nextM B).getD cmdZ = cb ∧ (nextM B).isSome = ib) :
    Calls Tryz.prog 12 #[.pointer (some ⟨xb, 0, none⟩)] W fun e w' => ∃ ao cap, e = .returned (.tuple #[.agg #[.bool cb.write, .int .i64 cb.page, .int .i64 cb.count, .slice ao cb.requests.length cap], .bool ib]) ∧ ∃ X' : Nat → Prop, Row w' X' 3 1 ao cb.requests.length cap (encI cb.requests) ∧ Two w w' wa xa wb xb A (stepM B).2 ra rb X' ∧ ∀ k, X k → X' k ∧ w'.heap[k]? = W.heap[k]? := by
  have := two_step h.swap hl
  rw [hx.1, hx.2] at this
  refine this.mono ?_
  rintro e w1 ⟨ao, cap, e1, X', e2, e3, e4⟩
  exact ⟨ao, cap, e1, X', e2, e3.swap, e4⟩
theorem l_compB (h : Two w W wa xa wb xb A B ra rb X) (hn : B.now ≤ 1000000000) (hl : B.last ≤ 1000000) :
    Calls Tryz.prog 13 #[.pointer (some ⟨xb, 0, none⟩), .int .i64 0, .bool false] W fun e w' => e = .returned (.agg #[.int .i64 (if (completeM B 0 false).1 then 0 else 10), .int .i64 (-1), .int .i64 0, .bool true]) ∧ Two w w' wa xa wb xb A (completeM B 0 false).2 ra rb X ∧ ∀ k, X k → w'.heap[k]? = W.heap[k]? := by
  refine (two_complete h.swap hn hl).mono ?_
  rintro e w1 ⟨e1, e2, e3⟩
  exact ⟨e1, e2.swap, e3⟩
theorem nx_none (hx : Nx n A B cb false) : (stepM A).2 = A ∧ (stepM B).2 = B ∧ nextM A = none := by
  have h1 : nextM A = none := by cases h : nextM A with
    | none => rfl
    | some c => have := hx.a.2; rw [h] at this; cases this
  have h2 : nextM B = none := by cases h : nextM B with
    | none => rfl
    | some c => have := hx.b.2; rw [h] at this; cases this
  refine ⟨?_, ?_, h1⟩
  · unfold stepM; rw [h1]
  · unfold stepM; rw [h2]
theorem nx_some (hx : Nx n A B cb true) : ∃ c, nextM A = some c := by
  cases h : nextM A with
  | none => have := hx.a.2; rw [h] at this; cases this
  | some c => exact ⟨c, rfl⟩
end
theorem next_len {S : St} (hw : Wf S) {c : Cmd} (hn : nextM S = some c) : (c.requests.length : Int) ≤ S.last := by
  have h1 := hw.step.airLen
  have h2 := hw.step.reqsLen
  rw [(stepM_same S).1] at h2
  have h3 : c.requests.length ≤ (airs (stepM S).2 ++ []).length := by
    unfold stepM
    rw [hn]
    show _ ≤ (((S.flights ++ [c]).flatMap (fun c : Cmd => c.requests)) ++ []).length
    simp
  omega
theorem nx_in {n : Nat} {A B : St} {cb : Cmd} {ib : Bool} (hw : Wf B) (hl : B.last ≤ 40) (hx : Nx n A B cb ib) : cb.requests.length ≤ 40 ∧ ∀ x ∈ cb.requests, 1 ≤ x ∧ x ≤ 40 := by
  cases h : nextM B with
  | none =>
    have := hx.b.1
    rw [h] at this
    rw [← this]
    exact ⟨by simp [cmdZ], fun x hx => by simp [cmdZ] at hx⟩
  | some c =>
    have := hx.b.1
    rw [h] at this
    have e : c = cb := this
    subst e
    have h1 := next_len hw h
    refine ⟨by omega, fun x hx => ?_⟩
    obtain ⟨r, hr, rfl, _⟩ := (next_all hw h).1.mem x hx
    have := (hw.rq r hr).num
    omega
end Go.Proofs.YtiabdbeejkadnabGreatDoor

/- The keeps: Given, the walk. Own work of the verifier. -/
namespace Go.Proofs.YtiabdbeejkadnabGreatDoor
open Go.RowKit Go.Maps

set_option maxHeartbeats 4000000 in
set_option maxRecDepth 1000000 in
theorem given_walk (depth : Int) (s : ByteArray) (k : Int) (w : World) (hg : GCell w) (h1 : -9223372036854775808 ≤ depth ∧ depth ≤ 9223372036854775807) (hs0 : s.size ≤ maxLen) (h2 : -9223372036854775808 ≤ k ∧ k ≤ 9223372036854775807) :
    Calls Tryz.prog 3 #[.int .i64 depth, .string s, .int .i64 k] w fun e w' => e = .returned (.bool true) ∧ Below w.heap.size w w' := by
  have hsz : s.size ≤ 9223372036854775807 := hs0
  have HBG := hide (two_begun depth w hg h1)
  have hq := kpickM_lt depth 4 (by omega)
  have HP : Hid (∀ (W : World) (m : Nat), 0 < m → m ≤ 40 → Calls Tryz.prog 7 #[.int .i64 k, .int .i64 m] W fun e w' => e = .returned (.int .i64 (kpickM k m)) ∧ w' = W) := fun W m h0 h40 => keep_pick k m W h2 (by omega) (by omega)
  have HPL : Hid (∀ m : Nat, 0 < m → 0 ≤ kpickM k m ∧ kpickM k m < m) := fun m hm => kpickM_lt k m (by omega)
  generalize kpickM depth 4 = dp at *
  clear h1 hg hs0 h2
  go_enter Tryz.func3, Tryz.ntmps3
  go_upto_if 32 with (fail)
  go_cut [1] from 33 (fun vs wx => ∃ s' : ByteArray, vs = .string s' ∧ s'.size ≤ 40 ∧ Hid (wx = w))
  case first =>
    by_cases hbig : 40 < s.size
    · have hbi : (40 : Int) < (s.size : Int) := by omega
      have hx : (s.extract 0 40).size ≤ 40 := by rw [ByteArray.size_extract]; omega
      go_wp2
      go_meet
      exact ⟨_, rfl, hx, rfl⟩
    · have hbi : ¬ (40 : Int) < (s.size : Int) := by omega
      go_wp2
      go_meet
      exact ⟨s, rfl, by omega, rfl⟩
  case rest =>
    obtain ⟨t, rfl, ht40, hwc⟩ := hcut
    have hwc := hwc.out.symm
    subst hwc
    by_cases hem : t = ⟨#[]⟩
    · subst hem
      go_wp2
      go_ret
      exact ⟨rfl, Below.refl _ _⟩
    have hpos : 0 < t.size := by
      rcases Nat.eq_zero_or_pos t.size with e | e
      · exfalso; apply hem
        cases t with | mk d => cases d with | mk l => cases l with
          | nil => rfl
          | cons a l => simp [ByteArray.size] at e
      · exact e
    have hem1 : t.toList ≠ [] := fun e => by
      rw [ByteArray.toList_eq] at e
      have : t.data.toList.length = 0 := by rw [e]; rfl
      have h3 : t.data.size = 0 := by simpa using this
      have h4 : t.size = t.data.size := rfl
      omega
    have hem2 : (t.toList == []) = false := by simpa using hem1
    have hem3 : (t.toList == (⟨#[]⟩ : ByteArray).toList) = false := by rw [ByteArray.toList_eq (⟨#[]⟩ : ByteArray)]; simpa using hem1
    go_wp2_with fail
    refine HBG.out.mono ?_
    rintro e w1 ⟨wa, xa, rfl, hbg2⟩
    have HB2 := hide hbg2
    clear hbg2 HBG
    go_wp2_with fail
    refine HB2.out.mono ?_
    rintro e w2 ⟨wb, xb, rfl, h2⟩
    have H2 := hide h2
    clear h2 HB2 hem hem1 hem2 hem3
    go_wp2_with fail
    refine (HP.out _ t.size (by omega) (by omega)).mono ?_
    rintro e w3 ⟨rfl, hw3⟩
    have hw3 := hw3.symm
    subst hw3
    have hpl := HPL.out t.size hpos
    generalize kpickM k t.size = nn at *
    obtain ⟨n, rfl⟩ := Int.eq_ofNat_of_zero_le hpl.1
    have hn : n < t.size := by omega
    have HG0 : Hid (GAsk w w2 wa xa wb xb n 0 (1 + dp)) := ⟨_, _, [], [], H2.out, Asked.new n (1 + dp) (by omega), rfl, rfl⟩
    clear HP HPL H2 hpl
    go_wp2
    go_loopw [8, 12, 13] (fun _ vi _ wr => ∃ i : Nat, i ≤ t.size ∧ vi = .int .i64 i ∧ Hid (GAsk w wr wa xa wb xb n i (1 + dp))) (fun _ vi _ _ => t.size - (intOf vi).toNat)
    case atStart => exact ⟨0, by omega, rfl, HG0⟩
    case round =>
      clear HG0
      obtain ⟨i, hi, rfl, hG⟩ := hrel
      by_cases hlt : i < t.size
      · have hlti : (i : Int) < (t.size : Int) := by omega
        have hb := (t[i]).toNat_lt
        have hp : 0 ≤ ((t[i]).toNat : Int) / 2 % 8 ∧ ((t[i]).toNat : Int) / 2 % 8 < 16 := by omega
        have HASK := hide (g_askA (((t[i]).toNat : Int) % 2 == 1) (((t[i]).toNat : Int) / 2 % 8) t[i] hG.out (by omega) hp)
        clear hG
        go_wp2_with fail
        refine HASK.out.mono ?_
        rintro e w4 ⟨rfl, hM⟩
        have HM := hide hM
        clear hM HASK
        by_cases hin : i = n
        · have hiB : ((i : Int) != (n : Int)) = false := by simp [hin]
          subst hin
          have HN := hide (g_skip HM.out (by omega) hp)
          clear HM
          go_wp2
          go_roundw
          case rel => exact ⟨i + 1, by omega, by go_num, HN⟩
          case measure => simp [intOf]; omega
        · have hiB : ((i : Int) != (n : Int)) = true := by simp; omega
          have HASB := hide (g_askB (((t[i]).toNat : Int) % 2 == 1) (((t[i]).toNat : Int) / 2 % 8) t[i] HM.out hin (by omega) hp)
          clear HM
          go_wp2_with fail
          refine HASB.out.mono ?_
          rintro e w5 ⟨rfl, lb, hE⟩
          obtain ⟨ga, ca, gb, cb, d, a1, a2, a3, a4, a5, a6, a7, ⟨d', a8⟩, a9, ⟨n1, n2, n3⟩, hlb, hfin⟩ := g_data hE
          have n4 := n1.symm
          have n5 := n2.symm
          have n6 := n3.symm
          have HFIN := hide hfin
          clear hE hfin HASB hiB hb hp
          obtain ⟨I, hI⟩ : ∃ I : Nat, I = i + 1 := ⟨_, rfl⟩
          rw [← hI] at a1
          have hiI : (i : Int) < (I : Int) := by omega
          have hlL : (lb : Int) < (lb : Int) + 1 := by omega
          have hl0 : (0 : Int) ≤ (lb : Int) := by omega
          have hI41 : I ≤ 41 := by omega
          have hwr : IntKind.i64.wrap (lb : Int) = (lb : Int) := by rw [IntKind.wrap_i64]; omega
          clear hI
          go_wp2_with fail
          go_region_held3 (fun W => W.cell? ⟨wa, 1, none⟩ = some (.slice (some ⟨ga, 0, none⟩) I ca) ∧ W.cell? ⟨wb, 1, none⟩ = some (.slice (some ⟨gb, 0, none⟩) (lb + 1) cb) ∧ W.cell? ⟨ga, i * 6 + 3, none⟩ = some (.string d)) (go_keep) (fail)
          go_wp2
          go_roundw
          case rel => exact ⟨i + 1, by omega, by go_num, HFIN.out 1⟩
          case measure => simp [intOf]; omega
      · have hie : i = t.size := by omega
        subst hie
        obtain ⟨q0, qz⟩ := hG.out.qa
        have HC1 := hide (g_can1 hG.out hn ht40)
        clear hG
        go_wp2_with fail
        refine HC1.out.mono ?_
        rintro e w4 ⟨rfl, h4⟩
        clear q0 qz HC1
        obtain ⟨q0, qz⟩ := h4.qa
        have HC2 := hide (g_can2 (h4.alloc (.cells #[.int .i64 0, .int .i64 (-1), .int .i64 0, .bool true] 35)))
        have HE4 := hide (heap_alloc_new w4 (.cells #[.int .i64 0, .int .i64 (-1), .int .i64 0, .bool true] 35))
        clear h4
        go_wp2_with fail
        refine HC2.out.mono ?_
        rintro e w5 ⟨rfl, h5, s5⟩
        have HE5 := hide ((s5 _ (Or.inr rfl)).trans HE4.out)
        clear q0 qz HC2 HE4 s5
        obtain ⟨q0, qz⟩ := h5.qa
        have HP1 := hide (g_pol1 (h5.alloc (.cells #[.int .i64 9, .int .i64 ((n : Int) + 1), .int .i64 0, .bool true] 35)))
        have HF5 := hide (heap_alloc_new w5 (.cells #[.int .i64 9, .int .i64 ((n : Int) + 1), .int .i64 0, .bool true] 35))
        have HE5a := hide ((Below.heap_alloc w5 (.cells #[.int .i64 9, .int .i64 ((n : Int) + 1), .int .i64 0, .bool true] 35) _ (lt_of_heap HE5.out)).trans HE5.out)
        clear h5 HE5
        go_wp2_with fail
        refine HP1.out.mono ?_
        rintro e w6 ⟨⟨ao, m, cap, tt, rfl⟩, h6, s6⟩
        have HE6 := hide ((s6 _ (Or.inl (Or.inr rfl))).trans HE5a.out)
        have HF6 := hide ((s6 _ (Or.inr rfl)).trans HF5.out)
        clear q0 qz HP1 s6 HE5a HF5
        obtain ⟨q0, qz⟩ := h6.qa
        have HP2 := hide (g_pol2 ((h6.alloc (.cells #[.slice ao m cap, .int .i64 tt] 39)).alloc (.cells #[.int .i64 8, .int .i64 ((n : Int) + 1), .int .i64 0, .bool true] 35)))
        have HG6 := hide (heap_alloc_new (w6.alloc (.cells #[.slice ao m cap, .int .i64 tt] 39)) (.cells #[.int .i64 8, .int .i64 ((n : Int) + 1), .int .i64 0, .bool true] 35))
        have HE6a := hide (lift2 (x := .cells #[.slice ao m cap, .int .i64 tt] 39) (y := .cells #[.int .i64 8, .int .i64 ((n : Int) + 1), .int .i64 0, .bool true] 35) HE6.out (Below.refl _ _))
        have HF6a := hide (lift2 (x := .cells #[.slice ao m cap, .int .i64 tt] 39) (y := .cells #[.int .i64 8, .int .i64 ((n : Int) + 1), .int .i64 0, .bool true] 35) HF6.out (Below.refl _ _))
        clear h6 HE6 HF6
        go_wp2_with fail
        refine HP2.out.mono ?_
        rintro e w7 ⟨⟨ao2, m2, cap2, tt2, rfl⟩, h7, s7⟩
        have HE7 := hide ((s7 _ (Or.inl (Or.inl (Or.inl (Or.inr rfl))))).trans HE6a.out)
        have HF7 := hide ((s7 _ (Or.inl (Or.inl (Or.inr rfl)))).trans HF6a.out)
        have HG7 := hide ((s7 _ (Or.inr rfl)).trans HG6.out)
        clear q0 qz HP2 s7 HE6a HF6a HG6
        have HL7 : Hid (LG w ((w7.alloc (.cells #[.slice ao2 m2 cap2, .int .i64 tt2] 39)).alloc (.cells #[.int .i64 5, .int .i64 (-1), .int .i64 0, .bool true] 35)) wa xa wb xb n 0 (1 + dp)) := ((h7.alloc _).alloc _).loop
        have HH7 := hide (heap_alloc_new (w7.alloc (.cells #[.slice ao2 m2 cap2, .int .i64 tt2] 39)) (.cells #[.int .i64 5, .int .i64 (-1), .int .i64 0, .bool true] 35))
        obtain ⟨⟨c0, c1, c2, c3⟩, _⟩ := cells4 HE7.out
        have hz4 := lt_of_heap HE7.out
        clear h7
        go_wp2_with fail
        refine (keep_fine 0 (-1) 0 _).mono ?_
        rintro e w8 ⟨rfl, hb8⟩
        have ef : fineB 0 (-1) 0 = true := rfl
        rw [ef]
        have HL8 := hide (HL7.out.below hb8)
        have hF8 := lift2 HF7.out hb8
        have hG8 := lift2 HG7.out hb8
        have hH8 := (hb8.block _ (lt_of_heap HH7.out)).trans HH7.out
        clear hb8 HL7 HH7 HE7 HF7 HG7 c0 c1 c2 c3 hz4
        rw [World.size_alloc] at hG8 hH8
        obtain ⟨⟨f0, f1, _, _⟩, _⟩ := cells4 hF8
        obtain ⟨⟨g0, g1, _, _⟩, _⟩ := cells4 hG8
        obtain ⟨⟨k0, _, _, _⟩, _⟩ := cells4 hH8
        have hzF := lt_of_heap hF8
        have hzG := lt_of_heap hG8
        have hzH := lt_of_heap hH8
        generalize w5.heap.size = b5 at *
        generalize w6.heap.size + 1 = b6 at *
        generalize w7.heap.size + 1 = b7 at *
        clear hF8 hG8 hH8
        go_wp2
        clear f0 f1 g0 g1 k0 hzF hzG hzH
        go_loopw [8, 20] (fun _ vj wr => ∃ j : Nat, j ≤ 78 ∧ vj = .int .i64 j ∧ Hid (LG w wr wa xa wb xb n j (1 + dp))) (fun _ vj _ => 100 - (intOf vj).toNat)
        case atStart => exact ⟨0, by omega, rfl, HL8⟩
        case round =>
          clear HL8
          obtain ⟨j, hj, rfl, hL⟩ := hrel
          have hj200 : (j : Int) < 200 := by omega
          obtain ⟨A, B, ra, rb, hT, hLo, hla, hlb, hr⟩ := hL.out
          obtain ⟨cb, ib, hx⟩ := hLo.like.nx
          have HX := hide hx
          have HLo := hide hLo
          obtain ⟨q0, qz⟩ := hT.qa
          have HS1 := hide (l_stepA hT (by omega) hx)
          obtain ⟨hcl, hcm⟩ := nx_in hLo.wb hlb hx
          have HCM := hide hcm
          clear hL hT hx hLo hcm
          go_wp2_with fail
          refine HS1.out.mono ?_
          rintro e w4 ⟨ao, cp, rfl, X4, hR4, h4, _⟩
          clear q0 qz HS1
          obtain ⟨q0, qz⟩ := h4.qb
          have HR4 := hide (hR4.alloc (.cells #[.bool cb.write, .int .i64 cb.page, .int .i64 cb.count, .slice ao cb.requests.length cp] 45))
          have HS2 := hide (l_stepB (h4.alloc (.cells #[.bool cb.write, .int .i64 cb.page, .int .i64 cb.count, .slice ao cb.requests.length cp] 45)) (by omega) HX.out.b)
          have HC4 := hide (heap_alloc_new w4 (.cells #[.bool cb.write, .int .i64 cb.page, .int .i64 cb.count, .slice ao cb.requests.length cp] 45))
          clear h4 hR4
          go_wp2_with fail
          refine HS2.out.mono ?_
          rintro e w5 ⟨ao5, cp5, rfl, X5, hR5, h5, s5⟩
          have hC5 := (s5 _ (Or.inr rfl)).2.trans HC4.out
          have HCW := hide ((Below.heap_alloc w5 (.cells #[.bool cb.write, .int .i64 cb.page, .int .i64 cb.count, .slice ao5 cb.requests.length cp5] 45) _ (lt_of_heap hC5)).trans hC5)
          have HDW := hide (heap_alloc_new w5 (.cells #[.bool cb.write, .int .i64 cb.page, .int .i64 cb.count, .slice ao5 cb.requests.length cp5] 45))
          have HRA := hide ((HR4.out.same (fun a ha => (s5 _ (Or.inl (HR4.out.2 a ha))).2)).alloc (.cells #[.bool cb.write, .int .i64 cb.page, .int .i64 cb.count, .slice ao5 cb.requests.length cp5] 45))
          have HRB := hide (hR5.alloc (.cells #[.bool cb.write, .int .i64 cb.page, .int .i64 cb.count, .slice ao5 cb.requests.length cp5] 45))
          have HTW := hide ((h5.alloc (.cells #[.bool cb.write, .int .i64 cb.page, .int .i64 cb.count, .slice ao5 cb.requests.length cp5] 45)).less (X' := fun _ => False) (fun _ e => e.elim))
          obtain ⟨⟨c0, c1, c2, c3⟩, _⟩ := cells4 hC5
          have hz5 := lt_of_heap hC5
          clear hR5 h5 s5 hC5 HC4 HR4 HS2 q0 qz
          go_wp2
          clear c0 c1 c2 c3 hz5
          generalize w5.alloc (.cells #[.bool cb.write, .int .i64 cb.page, .int .i64 cb.count, .slice ao5 cb.requests.length cp5] 45) = W5 at *
          generalize w5.heap.size = bd at *
          generalize w4.heap.size = bc at *
          go_loopw [25, 26] (fun vj _ wj => ∃ j2 : Nat, j2 ≤ cb.requests.length ∧ vj = .int .i64 j2 ∧ Hid (wj = W5)) (fun vj _ _ => cb.requests.length - (intOf vj).toNat)
          case atStart => exact ⟨0, by omega, rfl, rfl⟩
          case round =>
            obtain ⟨j2, hj2, rfl, hwj⟩ := hrel
            have hwj := hwj.out.symm
            subst hwj
            obtain ⟨⟨c0, c1, c2, c3⟩, _⟩ := cells4 HCW.out
            obtain ⟨⟨d0, d1, d2, d3⟩, _⟩ := cells4 HDW.out
            have hzc := lt_of_heap HCW.out
            have hzd := lt_of_heap HDW.out
            by_cases hjl : j2 < cb.requests.length
            · have hjli : (j2 : Int) < (cb.requests.length : Int) := by omega
              obtain ⟨gd, _, hgd, _, hgd1, _, _⟩ := Row.some HRB.out (by omega)
              subst hgd
              obtain ⟨gc, _, hgc, _, hgc1, _, _⟩ := Row.some HRA.out (by omega)
              subst hgc
              have hm := HCM.out _ (List.getElem_mem hjl)
              have k1 : W5.cell? ⟨gd, j2, none⟩ = some (.int .i64 cb.requests[j2]) := by
                rw [Row.cellAt HRB.out j2 (by omega)]; simp [encI, hjl]
              have k2 : W5.cell? ⟨gc, j2, none⟩ = some (.int .i64 (sh n cb.requests[j2])) := by
                rw [Row.cellAt HRA.out j2 (by omega)]; simp [encI, hjl]
              have hzg := lt_of_heap hgd1
              have hzh := lt_of_heap hgc1
              clear hgd1 hgc1 c0 c1 c2 d0 d1 d2
              generalize cb.requests[j2] = x at *
              by_cases hxn : (n : Int) < x
              · have hs : sh n x = x + 1 := by unfold sh; rw [if_pos hxn]
                rw [hs] at k2
                go_wp2
                go_roundw
                case rel => exact ⟨j2 + 1, by omega, by go_num, trivial⟩
                case measure => simp [intOf]; omega
              · have hs : sh n x = x := by unfold sh; rw [if_neg hxn]
                rw [hs] at k2
                go_wp2
                go_roundw
                case rel => exact ⟨j2 + 1, by omega, by go_num, trivial⟩
                case measure => simp [intOf]; omega
            · have hje : j2 = cb.requests.length := by omega
              subst hje
              cases ib with
              | true =>
                obtain ⟨c, hc⟩ := nx_some HX.out
                have hrs := step_rest HLo.out.wa hc
                have HN : Hid (LG w W5 wa xa wb xb n (j + 1) (1 + dp)) := ⟨_, _, ra, rb, HTW.out, HLo.out.step, by rw [(stepM_same A).1]; exact hla, by rw [(stepM_same B).1]; exact hlb, by omega⟩
                have hj78 : j + 1 ≤ 78 := by omega
                clear HTW HLo hc hrs HX HCM
                go_wp2
                go_roundw
                case rel => exact ⟨j + 1, hj78, by go_num, HN⟩
                case measure => simp [intOf]; omega
              | false =>
                obtain ⟨e1, e2, hnone⟩ := nx_none HX.out
                rw [e1, e2] at HTW
                have hfa := HLo.out.like.complete.1
                clear e1 e2 HX HCM HRA HRB HCW HDW
                cases hfl : (completeM B 0 false).1 with
                | true =>
                  have HCA : Hid (Calls Tryz.prog 13 #[.pointer (some ⟨xa, 0, none⟩), .int .i64 0, .bool false] W5 fun e w' => e = .returned (.agg #[.int .i64 0, .int .i64 (-1), .int .i64 0, .bool true]) ∧ Two w w' wa xa wb xb (completeM A 0 false).2 B ra rb (fun _ => False)) := by
                    refine (two_complete HTW.out (by rw [HLo.out.now]; omega) (by omega)).mono ?_
                    rintro e w1 ⟨x1, x2, _⟩
                    rw [hfa, hfl] at x1
                    exact ⟨x1, x2⟩
                  have hne := kerr_ne 0
                  obtain ⟨q0, qz⟩ := HTW.out.qa
                  go_wp2_with fail
                  refine HCA.out.mono ?_
                  rintro e w6 ⟨rfl, h6⟩
                  clear q0 qz HCA
                  obtain ⟨q0, qz⟩ := h6.qb
                  have HCB : Hid (Calls Tryz.prog 13 #[.pointer (some ⟨xb, 0, none⟩), .int .i64 0, .bool false] (w6.alloc (.cells #[.int .i64 0, .int .i64 (-1), .int .i64 0, .bool true] 35)) fun e w' => e = .returned (.agg #[.int .i64 0, .int .i64 (-1), .int .i64 0, .bool true]) ∧ Two w w' wa xa wb xb (completeM A 0 false).2 (completeM B 0 false).2 ra rb (fun _ => False) ∧ w'.heap[w6.heap.size]? = some (.cells #[.int .i64 0, .int .i64 (-1), .int .i64 0, .bool true] 35 (0, 0))) := by
                    refine (l_compB (h6.alloc (.cells #[.int .i64 0, .int .i64 (-1), .int .i64 0, .bool true] 35)) (by rw [← HLo.out.like.now, HLo.out.now]; omega) (by omega)).mono ?_
                    rintro e w1 ⟨x1, x2, x3⟩
                    rw [hfl] at x1
                    exact ⟨x1, x2.less (fun _ e => e.elim), (x3 _ (Or.inr rfl)).trans (heap_alloc_new w6 _)⟩
                  clear h6
                  go_wp2_with fail
                  refine HCB.out.mono ?_
                  rintro e w7 ⟨rfl, h7, hx7⟩
                  clear q0 qz HCB
                  obtain ⟨⟨x0, x1, x2, x3⟩, _⟩ := cells4 hx7
                  have hz7 := lt_of_heap hx7
                  have HX7 := hide hx7
                  have HT7 := hide (h7.alloc (.cells #[.int .i64 0, .int .i64 (-1), .int .i64 0, .bool true] 35))
                  clear h7 hx7
                  go_wp2_with fail
                  refine (keep_fine 0 (-1) 0 _).mono ?_
                  rintro e w8 ⟨rfl, hb8⟩
                  have HT8 := hide (HT7.out.below hb8)
                  clear hb8 HT7 x0 x1 x2 x3 hz7 HX7
                  have ef : fineB 0 (-1) 0 = true := rfl
                  rw [ef]
                  have hrc := complete_rest HLo.out.like.ta (by rw [hfa]; exact hfl)
                  have HN : Hid (LG w w8 wa xa wb xb n (j + 1) (1 + dp)) := ⟨_, _, ra, rb, HT8.out.less (fun _ e => e.elim), HLo.out.complete, by rw [(completeM_same A 0 false).1]; exact hla, by rw [(completeM_same B 0 false).1]; exact hlb, by omega⟩
                  have hj78 : j + 1 ≤ 78 := by omega
                  clear HT8 HLo
                  go_wp2
                  go_roundw
                  case rel => exact ⟨j + 1, hj78, by go_num, HN⟩
                  case measure => simp [intOf]; omega
                | false =>
                  have HCA : Hid (Calls Tryz.prog 13 #[.pointer (some ⟨xa, 0, none⟩), .int .i64 0, .bool false] W5 fun e w' => e = .returned (.agg #[.int .i64 10, .int .i64 (-1), .int .i64 0, .bool true]) ∧ Two w w' wa xa wb xb (completeM A 0 false).2 B ra rb (fun _ => False)) := by
                    refine (two_complete HTW.out (by rw [HLo.out.now]; omega) (by omega)).mono ?_
                    rintro e w1 ⟨x1, x2, _⟩
                    rw [hfa, hfl] at x1
                    exact ⟨x1, x2⟩
                  have hne := kerr_ne 10
                  obtain ⟨q0, qz⟩ := HTW.out.qa
                  go_wp2_with fail
                  refine HCA.out.mono ?_
                  rintro e w6 ⟨rfl, h6⟩
                  clear q0 qz HCA
                  obtain ⟨q0, qz⟩ := h6.qb
                  have HCB : Hid (Calls Tryz.prog 13 #[.pointer (some ⟨xb, 0, none⟩), .int .i64 0, .bool false] (w6.alloc (.cells #[.int .i64 10, .int .i64 (-1), .int .i64 0, .bool true] 35)) fun e w' => e = .returned (.agg #[.int .i64 10, .int .i64 (-1), .int .i64 0, .bool true]) ∧ Two w w' wa xa wb xb (completeM A 0 false).2 (completeM B 0 false).2 ra rb (fun _ => False) ∧ w'.heap[w6.heap.size]? = some (.cells #[.int .i64 10, .int .i64 (-1), .int .i64 0, .bool true] 35 (0, 0))) := by
                    refine (l_compB (h6.alloc (.cells #[.int .i64 10, .int .i64 (-1), .int .i64 0, .bool true] 35)) (by rw [← HLo.out.like.now, HLo.out.now]; omega) (by omega)).mono ?_
                    rintro e w1 ⟨x1, x2, x3⟩
                    rw [hfl] at x1
                    exact ⟨x1, x2.less (fun _ e => e.elim), (x3 _ (Or.inr rfl)).trans (heap_alloc_new w6 _)⟩
                  clear h6
                  go_wp2_with fail
                  refine HCB.out.mono ?_
                  rintro e w7 ⟨rfl, h7, hx7⟩
                  clear q0 qz HCB
                  obtain ⟨⟨x0, x1, x2, x3⟩, _⟩ := cells4 hx7
                  have hz7 := lt_of_heap hx7
                  have HX7 := hide hx7
                  have HT7 := hide (h7.alloc (.cells #[.int .i64 10, .int .i64 (-1), .int .i64 0, .bool true] 35))
                  clear h7 hx7
                  go_wp2_with fail
                  refine (keep_fine 10 (-1) 0 _).mono ?_
                  rintro e w8 ⟨rfl, hb8⟩
                  have HT8 := hide (HT7.out.below hb8)
                  clear hb8 HT7 x0 x1 x2 x3 hz7 HX7
                  have ef : fineB 10 (-1) 0 = false := rfl
                  rw [ef]
                  obtain ⟨hf0, hS0⟩ := completeM_false (S := A) (by rw [hfa]; exact hfl)
                  have hw0 : waitM A = [] := none_waits HLo.out.wa hnone hf0 HLo.out.af
                  have HWT : Hid (Calls Tryz.prog 14 #[.pointer (some ⟨xa, 0, none⟩)] w8 fun e w' => (∃ ao cap, e = .returned (.slice ao 0 cap)) ∧ Below w8.heap.size w8 w') := by
                    have := two_wait HT8.out
                    rw [hS0, hw0] at this
                    exact this
                  obtain ⟨q0, qz⟩ := HT8.out.qa
                  have HB8 := hide HT8.out.bel
                  clear HT8 HLo hS0 hw0
                  go_wp2_with fail
                  refine HWT.out.mono ?_
                  rintro e w9 ⟨⟨ao9, cap9, rfl⟩, hb9⟩
                  have HB9 := hide (HB8.out.trans (hb9.mono HB8.out.size))
                  clear hb9 q0 qz HWT HB8
                  go_wp2
                  go_ret
                  exact ⟨rfl, HB9.out⟩
end Go.Proofs.YtiabdbeejkadnabGreatDoor
