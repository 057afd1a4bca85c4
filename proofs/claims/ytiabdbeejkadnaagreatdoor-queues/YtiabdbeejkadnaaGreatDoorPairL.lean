/- The law Queues, walked. Own work of the verifier. -/
import Derived.Test.YtiabdbeejkadnaaGreatDoorPairK
namespace Go.Proofs.YtiabdbeejkadnaaGreatDoor
open Go.RowKit Go.Maps

set_option maxHeartbeats 1000000 in
set_option maxRecDepth 1000000 in
theorem plays_nil (ao : Option Addr) (cap : Nat) (wv : Value) (w : World) :
    Calls Tryz.prog 11 #[.slice ao 0 cap, wv] w fun e w' => e = .returned (.bool true) ∧ Below w.heap.size w w' := by
  go_enter Tryz.func11, Tryz.ntmps11
  go_wp2_with fail
  refine (small_nil ao cap w).mono ?_
  rintro e w1 ⟨rfl, hw1⟩
  have hw1 := hw1.symm
  subst hw1
  go_wp2
  refine wp_loop_rounds 1 ?_
  rw [rounds_succ]
  go_wp2
  go_ret
  exact ⟨rfl, alloc_below _ _⟩

set_option maxHeartbeats 1000000 in
set_option maxRecDepth 1000000 in
theorem queues_nil (ao : Option Addr) (cap : Nat) (w : World) :
    Calls Tryz.prog 3 #[.slice ao 0 cap] w fun e w' => e = .returned (.bool true) ∧ Below w.heap.size w w' := by
  go_enter Tryz.func3, Tryz.ntmps3
  go_wp2_with fail
  refine (plays_nil ao cap _ _).mono ?_
  rintro e w1 ⟨rfl, hb⟩
  have HB := hide hb
  clear hb
  go_wp2
  go_ret
  exact ⟨rfl, (alloc_below _ _).trans (HB.out.mono (by simp))⟩

set_option maxHeartbeats 1000000 in
set_option maxRecDepth 1000000 in
theorem queues_some (blk off n cap : Nat) (O : Nat → OpD) (w : World) (h : Script w blk off n O) (hs : ∀ i, i < n → (O i).s.size ≤ 2 ^ 48) (hn : n ≤ 2 ^ 48) (hO : ∀ i, i < n → (-9223372036854775808 ≤ (O i).a ∧ (O i).a ≤ 9223372036854775807) ∧ (Lit.int .i64 (O i).b).wf = true)
    (hg : GCell w) (hb : blk < w.heap.size) :
    Calls Tryz.prog 3 #[.slice (some ⟨blk, off, none⟩) n cap] w fun e w' => e = .returned (.bool true) ∧ Below w.heap.size w w' := by
  have HC := hide (plays_some blk off n cap w.heap.size O (w.alloc (.cells #[.int .i64 9, .int .i64 10, .int .i64 11, .int .i64 12, .int .i64 13] 3)) (h.below (alloc_below _ _) hb) hs hn hO (hg.below (alloc_below _ _)) (by simp; omega) (heap_alloc_new w _))
  clear h hs hO hg
  go_enter Tryz.func3, Tryz.ntmps3
  go_wp2_with fail
  refine HC.out.mono ?_
  rintro e w1 ⟨rfl, hb⟩
  have HB := hide hb
  clear hb
  go_wp2
  go_ret
  exact ⟨rfl, (alloc_below _ _).trans (HB.out.mono (by simp))⟩
end Go.Proofs.YtiabdbeejkadnaaGreatDoor
