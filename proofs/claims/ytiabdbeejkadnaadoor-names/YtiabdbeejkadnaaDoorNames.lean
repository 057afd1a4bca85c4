/- The law Names, proved: a closed sentence. Own work of the verifier. -/
import Derived.Test.YtiabdbeejkadnaaDoorTold
import Derived.Test.YtiabdbeejkadnaaDoorCards
import Derived.Test.YtiabdbeejkadnaaDoorTie
import Derived.ProofKit
import Derived.OpenShut
import Derived.Deep.DeepHandedRow
import Derived.LaidLaws
import Derived.LaidHandle
import Derived.Stop.Joined
import Derived.SevenTiedAt
namespace Go.Proofs.YtiabdbeejkadnaaDoor
open Go.RowKit Go.Extern.Stop Go.Stop Go.Extern

theorem Told0 (w : World) : Calls Tryd.prog 7 #[.int .i64 0] w fun e w' => e = .returned (.agg #[.int .i64 0, .int .i64 (-1), .int .i64 0, .bool true]) ∧ Below w.heap.size w w' := by
  go_enter Tryd.func7, Tryd.ntmps7
  go_wp2_with fail
  refine (told_nil _).mono ?_
  rintro e w1 ⟨rfl, hb1⟩
  have hz' : w.heap.size < w1.heap.size := by have := hb1.size; simp at this; omega
  have hbw : Below w.heap.size w w1 := ((Below.refl _ _).alloc (Nat.le_refl _) _).trans (hb1.mono (by simp))
  have c0 := (hb1.cell (p := ⟨w.heap.size, 0, none⟩) (by simp))
  have c1 := (hb1.cell (p := ⟨w.heap.size, 1, none⟩) (by simp))
  have c2 := (hb1.cell (p := ⟨w.heap.size, 2, none⟩) (by simp))
  have c3 := (hb1.cell (p := ⟨w.heap.size, 3, none⟩) (by simp))
  have f0 := (hb1.frozen (p := ⟨w.heap.size, 0, none⟩) (by simp))
  have f1 := (hb1.frozen (p := ⟨w.heap.size, 1, none⟩) (by simp))
  have f2 := (hb1.frozen (p := ⟨w.heap.size, 2, none⟩) (by simp))
  have f3 := (hb1.frozen (p := ⟨w.heap.size, 3, none⟩) (by simp))
  simp at c0 c1 c2 c3 f0 f1 f2 f3
  clear hb1
  go_wp2
  refine bodyPost_ret (v := .agg #[.int .i64 0, .int .i64 (-1), .int .i64 0, .bool true]) (by simp [results, Tryd.results7, go_sem, c0, c1, c2, c3]) rfl ⟨rfl, ?_⟩
  exact (((hbw.setCell (Nat.le_refl _) _).setCell (Nat.le_refl _) _).setCell (Nat.le_refl _) _).setCell (Nat.le_refl _) _

theorem Told1 (w : World) (hg : w.cell? ⟨0, 0, none⟩ = some (.iface 124 (.agg #[.pointer (some ⟨1, 55, none⟩)]))) : Calls Tryd.prog 7 #[.int .i64 1] w fun e w' => e = .returned (.agg #[.int .i64 4, .int .i64 (-1), .int .i64 0, .bool true]) ∧ Below w.heap.size w w' := by
  go_enter Tryd.func7, Tryd.ntmps7
  go_wp2_with fail
  refine (told_kind 4 _ (by rw [World.cell?_alloc_lt _ _ ⟨0, 0, none⟩ (lt_of_cell hg)]; exact hg)).mono ?_
  rintro e w1 ⟨rfl, hb1⟩
  have hz' : w.heap.size < w1.heap.size := by have := hb1.size; simp at this; omega
  have hbw : Below w.heap.size w w1 := ((Below.refl _ _).alloc (Nat.le_refl _) _).trans (hb1.mono (by simp))
  have c0 := (hb1.cell (p := ⟨w.heap.size, 0, none⟩) (by simp))
  have c1 := (hb1.cell (p := ⟨w.heap.size, 1, none⟩) (by simp))
  have c2 := (hb1.cell (p := ⟨w.heap.size, 2, none⟩) (by simp))
  have c3 := (hb1.cell (p := ⟨w.heap.size, 3, none⟩) (by simp))
  have f0 := (hb1.frozen (p := ⟨w.heap.size, 0, none⟩) (by simp))
  have f1 := (hb1.frozen (p := ⟨w.heap.size, 1, none⟩) (by simp))
  have f2 := (hb1.frozen (p := ⟨w.heap.size, 2, none⟩) (by simp))
  have f3 := (hb1.frozen (p := ⟨w.heap.size, 3, none⟩) (by simp))
  simp at c0 c1 c2 c3 f0 f1 f2 f3
  clear hb1
  go_wp2
  refine bodyPost_ret (v := .agg #[.int .i64 4, .int .i64 (-1), .int .i64 0, .bool true]) (by simp [results, Tryd.results7, go_sem, c0, c1, c2, c3]) rfl ⟨rfl, ?_⟩
  exact (((hbw.setCell (Nat.le_refl _) _).setCell (Nat.le_refl _) _).setCell (Nat.le_refl _) _).setCell (Nat.le_refl _) _

theorem Told2 (w : World) (hg : w.cell? ⟨0, 0, none⟩ = some (.iface 124 (.agg #[.pointer (some ⟨1, 55, none⟩)]))) : Calls Tryd.prog 7 #[.int .i64 2] w fun e w' => e = .returned (.agg #[.int .i64 7, .int .i64 7, .int .i64 4, .bool true]) ∧ Below w.heap.size w w' := by
  have hl := lt_of_cell hg
  go_enter Tryd.func7, Tryd.ntmps7
  go_wp2_with fail
  refine (told_req (w.heap.size + 1) 0 7 7 4 _ (by rw [World.cell?_alloc_lt _ _ ⟨0, 0, none⟩ (by simp), World.cell?_alloc_lt _ _ ⟨0, 0, none⟩ hl]; exact hg) (by simp) (by simp) (by simp)).mono ?_
  rintro e w1 ⟨rfl, hb1⟩
  have hz' : w.heap.size < w1.heap.size := by have := hb1.size; simp at this; omega
  have hbw : Below w.heap.size w w1 := (((Below.refl _ _).alloc (Nat.le_refl _) _).alloc (by simp) _).trans (hb1.mono (by simp; omega))
  have c0 := (hb1.cell (p := ⟨w.heap.size, 0, none⟩) (by simp; omega))
  have c1 := (hb1.cell (p := ⟨w.heap.size, 1, none⟩) (by simp; omega))
  have c2 := (hb1.cell (p := ⟨w.heap.size, 2, none⟩) (by simp; omega))
  have c3 := (hb1.cell (p := ⟨w.heap.size, 3, none⟩) (by simp; omega))
  have f0 := (hb1.frozen (p := ⟨w.heap.size, 0, none⟩) (by simp; omega))
  have f1 := (hb1.frozen (p := ⟨w.heap.size, 1, none⟩) (by simp; omega))
  have f2 := (hb1.frozen (p := ⟨w.heap.size, 2, none⟩) (by simp; omega))
  have f3 := (hb1.frozen (p := ⟨w.heap.size, 3, none⟩) (by simp; omega))
  simp at c0 c1 c2 c3 f0 f1 f2 f3
  clear hb1
  go_wp2
  refine bodyPost_ret (v := .agg #[.int .i64 7, .int .i64 7, .int .i64 4, .bool true]) (by simp [results, Tryd.results7, go_sem, c0, c1, c2, c3]) rfl ⟨rfl, ?_⟩
  exact (((hbw.setCell (Nat.le_refl _) _).setCell (Nat.le_refl _) _).setCell (Nat.le_refl _) _).setCell (Nat.le_refl _) _

theorem names_walk (w : World) (hg : w.cell? ⟨0, 0, none⟩ = some (.iface 124 (.agg #[.pointer (some ⟨1, 55, none⟩)]))) :
    Calls Tryd.prog 3 #[] w fun e w' => e = .returned (.bool true) ∧ Below w.heap.size w w' := by
  have q0 : ∀ W, (binOp .eql 24 (.agg #[.int .i64 0, .int .i64 (-1), .int .i64 0, .bool true]) (.agg #[.int .i64 0, .int .i64 (-1), .int .i64 0, .bool true])).run Tryd.prog W = .ok (.bool true) W := fun _ => by kernel_rfl
  have q1 : ∀ W, (binOp .eql 24 (.agg #[.int .i64 4, .int .i64 (-1), .int .i64 0, .bool true]) (.agg #[.int .i64 4, .int .i64 (-1), .int .i64 0, .bool true])).run Tryd.prog W = .ok (.bool true) W := fun _ => by kernel_rfl
  have q2 : ∀ W, (binOp .eql 24 (.agg #[.int .i64 7, .int .i64 7, .int .i64 4, .bool true]) (.agg #[.int .i64 7, .int .i64 7, .int .i64 4, .bool true])).run Tryd.prog W = .ok (.bool true) W := fun _ => by kernel_rfl
  have hl := lt_of_cell hg
  go_enter Tryd.func3, Tryd.ntmps3
  go_wp2_with fail
  refine (Told0 _).mono ?_
  rintro e w1 ⟨rfl, hb1⟩
  have s1 := hb1.size
  have g1 : w1.cell? ⟨0, 0, none⟩ = some (.iface 124 (.agg #[.pointer (some ⟨1, 55, none⟩)])) := (hb1.cell (p := ⟨0, 0, none⟩) hl).trans hg
  go_wp2_with fail
  refine (Told1 _ (by rw [World.cell?_alloc_lt _ _ ⟨0, 0, none⟩ (by show 0 < w1.heap.size; exact lt_of_cell g1)]; exact g1)).mono ?_
  rintro e w2 ⟨rfl, hb2⟩
  have s2 := hb2.size
  have g2 : w2.cell? ⟨0, 0, none⟩ = some (.iface 124 (.agg #[.pointer (some ⟨1, 55, none⟩)])) := (hb2.cell (p := ⟨0, 0, none⟩) (by simp)).trans (by rw [World.cell?_alloc_lt _ _ ⟨0, 0, none⟩ (lt_of_cell g1)]; exact g1)
  have a0 := hb2.cell (p := ⟨w1.heap.size, 0, none⟩) (by simp)
  have a1 := hb2.cell (p := ⟨w1.heap.size, 1, none⟩) (by simp)
  have a2 := hb2.cell (p := ⟨w1.heap.size, 2, none⟩) (by simp)
  have a3 := hb2.cell (p := ⟨w1.heap.size, 3, none⟩) (by simp)
  simp at a0 a1 a2 a3 s2
  have s2' : w1.heap.size < w2.heap.size := by omega
  go_wp2_with fail
  refine (Told2 _ (by rw [World.cell?_alloc_lt _ _ ⟨0, 0, none⟩ (by show 0 < w2.heap.size; exact lt_of_cell g2)]; exact g2)).mono ?_
  rintro e w3 ⟨rfl, hb3⟩
  have s3 := hb3.size
  simp at s3
  have b0 := (hb3.cell (p := ⟨w1.heap.size, 0, none⟩) (by simp; omega)).trans ((World.cell?_alloc_lt _ _ ⟨w1.heap.size, 0, none⟩ s2').trans a0)
  have b1 := (hb3.cell (p := ⟨w1.heap.size, 1, none⟩) (by simp; omega)).trans ((World.cell?_alloc_lt _ _ ⟨w1.heap.size, 1, none⟩ s2').trans a1)
  have b2 := (hb3.cell (p := ⟨w1.heap.size, 2, none⟩) (by simp; omega)).trans ((World.cell?_alloc_lt _ _ ⟨w1.heap.size, 2, none⟩ s2').trans a2)
  have b3 := (hb3.cell (p := ⟨w1.heap.size, 3, none⟩) (by simp; omega)).trans ((World.cell?_alloc_lt _ _ ⟨w1.heap.size, 3, none⟩ s2').trans a3)
  have d0 := hb3.cell (p := ⟨w2.heap.size, 0, none⟩) (by simp)
  have d1 := hb3.cell (p := ⟨w2.heap.size, 1, none⟩) (by simp)
  have d2 := hb3.cell (p := ⟨w2.heap.size, 2, none⟩) (by simp)
  have d3 := hb3.cell (p := ⟨w2.heap.size, 3, none⟩) (by simp)
  simp at d0 d1 d2 d3
  have s3' : w1.heap.size < w3.heap.size := by omega
  have s4' : w2.heap.size < w3.heap.size := by omega
  have hbw : Below w.heap.size w w3 := ((hb1.alloc s1 _).trans ((hb2.mono (by simp; omega)).alloc (by omega) _)).trans (hb3.mono (by simp; omega))
  clear hb1 hb2 hb3 hg a0 a1 a2 a3
  go_wp2
  go_ret
  exact ⟨rfl, hbw.alloc (by omega) _⟩
end Go.Proofs.YtiabdbeejkadnaaDoor
