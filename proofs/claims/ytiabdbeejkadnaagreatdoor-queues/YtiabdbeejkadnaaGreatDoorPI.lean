/- The program's queue (stage 2's code): New, plain.New. Own work of the verifier. -/
import Derived.Test.YtiabdbeejkadnaaGreatDoorPC
namespace Go.Proofs.YtiabdbeejkadnaaGreatDoor
open Go.RowKit Go.Maps

def newC (depth : Int) (bm : Nat) : Array Value := #[.int .i64 depth, .int .i64 0, .int .i64 0, .map (some bm), .slice none 0 0, .int .i64 0, .int .u8 0, .int .u8 0, .int .u8 0, .int .u8 0, .int .u8 0, .int .u8 0, .int .u8 0, .int .u8 0, .int .u8 0, .int .u8 0, .int .u8 0, .int .u8 0, .int .u8 0, .int .u8 0, .int .u8 0, .int .u8 0, .int .u8 0, .int .u8 0, .int .u8 0, .int .u8 0, .int .u8 0, .int .u8 0, .int .u8 0, .int .u8 0, .int .u8 0, .int .u8 0, .int .u8 0, .int .u8 0, .int .u8 0, .int .u8 0, .int .u8 0, .int .u8 0, .int .u8 0, .int .u8 0, .int .u8 0, .int .u8 0, .int .u8 0, .int .u8 0, .int .u8 0, .int .u8 0, .int .u8 0, .int .u8 0, .int .u8 0, .int .u8 0, .int .u8 0, .int .u8 0, .int .u8 0, .int .u8 0, .int .u8 0, .int .u8 0, .int .u8 0, .int .u8 0, .int .u8 0, .int .u8 0, .int .u8 0, .int .u8 0, .int .u8 0, .int .u8 0, .int .u8 0, .int .u8 0, .int .u8 0, .int .u8 0, .int .u8 0, .int .u8 0] 
theorem newC_eq (depth : Int) (bm : Nat) : newC depth bm = #[.int .i64 depth, .int .i64 0, .int .i64 0, .map (some bm), .slice none 0 0, .int .i64 0] ++ Array.replicate 64 (.int .u8 0) := by kernel_rfl
theorem new_progAt (depth : Int) (w : World) (h1 : 1 ≤ depth) (h4 : depth ≤ 4) : ProgAt ((w.alloc (.map #[] 0)).alloc (.cells (newC depth w.heap.size) 78)) (Foot (fun _ => False) w ((w.alloc (.map #[] 0)).alloc (.cells (newC depth w.heap.size) 78))) (w.heap.size + 1) (St.new depth) := by
  have hz : ((w.alloc (.map #[] 0)).alloc (.cells (newC depth w.heap.size) 78)).heap.size = w.heap.size + 2 := by simp
  have e1 : (w.alloc (.map #[] 0)).heap.size = w.heap.size + 1 := by simp
  have hb := heap_alloc_new (w.alloc (.map #[] 0)) (.cells (newC depth w.heap.size) 78)
  rw [e1] at hb
  refine ⟨w.heap.size, .map [], fun _ => 0, newC depth w.heap.size, none, 0, [], Or.inr ⟨by omega, by rw [hz]; omega⟩, hb, ⟨by rw [newC_eq]; simp, rfl, rfl, rfl, rfl, rfl, rfl, fun j hj => ?_⟩, Or.inr ⟨Nat.le_refl _, by rw [hz]; omega⟩, ⟨(World.ownsMap_made w _ _ _).alloc _, rfl, fun n => rfl, fun r hr => by simp [St.new] at hr⟩, ⟨fun r hr => by simp [St.new] at hr, fun r hr => by simp [St.new] at hr, fun r hr => by simp [St.new] at hr⟩, ⟨rfl, Row.nil _ _ _ _, fun x hx => by simp [St.new] at hx⟩, fun k hk => hk.elim (fun h => h.elim) (fun h => h.2), Wf.new depth ⟨h1, h4⟩⟩
  have e4 : 6 + j - 6 = j := by omega
  rw [newC_eq, Array.getElem?_append_right (by simp)]
  have e5 : (St.new depth).disk.getD j 0 = 0 := by show (List.replicate 64 (0 : UInt8)).getD j 0 = 0; rw [List.getD_eq_getElem?_getD, List.getElem?_replicate, if_pos hj]; rfl
  rw [e5]
  simp [e4, hj, u8]

theorem prog_new_ok (depth : Int) (w : World) (h1 : 1 ≤ depth) (h4 : depth ≤ 4) :
    Calls Tryz.prog 50 #[.int .i64 depth] w fun e w' => e = .returned (.tuple #[.pointer (some ⟨w.heap.size + 1, 0, none⟩), .nilIface]) ∧ w' = ((w.alloc (.map #[] 0)).alloc (.cells (newC depth w.heap.size) 78)) := by
  have hmm := @run_makeMap Tryz.prog
  have b1 : decide (depth < 1) = false := by simp; omega
  have b2 : decide (4 < depth) = false := by simp; omega
  go_enter Tryz.func50, Tryz.ntmps50
  go_wp2
  go_ret2
  exact ⟨rfl, rfl⟩
theorem prog_new_no (depth : Int) (w : World) (h : depth < 1 ∨ 4 < depth) :
    Calls Tryz.prog 50 #[.int .i64 depth] w fun e w' => e = .returned (.tuple #[.pointer none, errOf 1]) ∧ w' = w := by
  by_cases h1 : depth < 1
  · have b1 : decide (depth < 1) = true := by simp; omega
    clear h
    go_enter Tryz.func50, Tryz.ntmps50
    go_wp2
    go_ret2
    exact ⟨rfl, rfl⟩
  · have b1 : decide (depth < 1) = false := by simp; omega
    have h2 : 4 < depth := by omega
    have b2 : decide (4 < depth) = true := by simp; omega
    clear h
    go_enter Tryz.func50, Tryz.ntmps50
    go_wp2
    go_ret2
    exact ⟨rfl, rfl⟩
set_option maxHeartbeats 1000000 in
theorem plain_new_ok (depth : Int) (w : World) (hg : GCell w) (h1 : 1 ≤ depth) (h4 : depth ≤ 4) :
    Calls Tryz.prog 23 #[.int .i64 depth] w fun e w' => ∃ xb, e = .returned (.tuple #[.pointer (some ⟨xb, 0, none⟩), .agg #[.int .i64 0, .int .i64 (-1), .int .i64 0, .bool true]]) ∧ ProgAt w' (Foot (fun _ => False) w w') xb (St.new depth) ∧ Below w.heap.size w w' := by
  have HG : Hid (GCell w) := hg
  clear hg
  go_enter Tryz.func23, Tryz.ntmps23
  go_wp2_with fail
  refine (prog_new_ok depth _ h1 h4).mono ?_
  rintro e w1 ⟨rfl, hw1⟩
  have hP := new_progAt depth (w.alloc (.cells #[.int .i64 0, .int .i64 0, .int .i64 0, .bool false] 57)) h1 h4
  rw [← hw1] at hP
  have hb1 : Below (w.alloc (.cells #[.int .i64 0, .int .i64 0, .int .i64 0, .bool false] 57)).heap.size (w.alloc (.cells #[.int .i64 0, .int .i64 0, .int .i64 0, .bool false] 57)) w1 := by
    rw [hw1]; exact (alloc_below _ _).trans ((alloc_below _ _).mono (by simp))
  have HP := hide hP
  have HK := hide (Go.Proofs.YtiabdbeejkadnaaGreatDoor.Below.kept hb1 (fun _ => False))
  have hz1 : w.heap.size < w1.heap.size := by have := hb1.size; simp at this; omega
  obtain ⟨⟨a0, a1, a2, a3⟩, b0, b1, b2, b3⟩ := err_cells HK.out (fun h => h)
  have hg1 : GCell w1 := (HG.out.below (alloc_below _ _)).below hb1
  clear hP hb1 hw1
  simp only [World.size_alloc] at HP ⊢
  go_wp2_with fail
  refine (told_nil _).mono ?_
  rintro e w2 ⟨rfl, hb⟩
  have a0' := (hb.cell (p := ⟨w.heap.size, 0, none⟩) hz1).trans a0
  have a1' := (hb.cell (p := ⟨w.heap.size, 1, none⟩) hz1).trans a1
  have a2' := (hb.cell (p := ⟨w.heap.size, 2, none⟩) hz1).trans a2
  have a3' := (hb.cell (p := ⟨w.heap.size, 3, none⟩) hz1).trans a3
  have b0' := (hb.frozen (p := ⟨w.heap.size, 0, none⟩) hz1).trans b0
  have b1' := (hb.frozen (p := ⟨w.heap.size, 1, none⟩) hz1).trans b1
  have b2' := (hb.frozen (p := ⟨w.heap.size, 2, none⟩) hz1).trans b2
  have b3' := (hb.frozen (p := ⟨w.heap.size, 3, none⟩) hz1).trans b3
  have HB := hide hb
  clear hb a0 a1 a2 a3 b0 b1 b2 b3
  go_wp2
  refine bodyPost_ret (v := .tuple #[.pointer (some ⟨w.heap.size + 1 + 1, 0, none⟩), .agg #[.int .i64 0, .int .i64 (-1), .int .i64 0, .bool true]]) (by simp [results, Tryz.results23, go_sem, a0', a1', a2', a3']) rfl ⟨_, rfl, (plain_fin _ _ _ _ HP.out HK.out HB.out (fun _ h => h.elim)).1, (plain_fin _ _ _ _ HP.out HK.out HB.out (fun _ h => h.elim)).2.toBelow (fun _ h => h.elim) (Nat.le_refl _)⟩

set_option maxHeartbeats 1000000 in
theorem plain_new_no (depth : Int) (w : World) (hg : GCell w) (h : depth < 1 ∨ 4 < depth) :
    Calls Tryz.prog 23 #[.int .i64 depth] w fun e w' => e = .returned (.tuple #[.pointer none, .agg #[.int .i64 1, .int .i64 (-1), .int .i64 0, .bool true]]) ∧ Below w.heap.size w w' := by
  have HG : Hid (GCell w) := hg
  clear hg
  go_enter Tryz.func23, Tryz.ntmps23
  go_wp2_with fail
  refine (prog_new_no depth _ h).mono ?_
  rintro e w1 ⟨rfl, hw1⟩
  have hb1 : Below (w.alloc (.cells #[.int .i64 0, .int .i64 0, .int .i64 0, .bool false] 57)).heap.size (w.alloc (.cells #[.int .i64 0, .int .i64 0, .int .i64 0, .bool false] 57)) w1 := by
    rw [hw1]; exact Below.refl _ _
  have HK := hide (Go.Proofs.YtiabdbeejkadnaaGreatDoor.Below.kept hb1 (fun _ => False))
  have hz1 : w.heap.size < w1.heap.size := by have := hb1.size; simp at this; omega
  obtain ⟨⟨a0, a1, a2, a3⟩, b0, b1, b2, b3⟩ := err_cells HK.out (fun h => h)
  have hg1 : GCell w1 := (HG.out.below (alloc_below _ _)).below hb1
  have HB1 := hide ((alloc_below w (.cells #[.int .i64 0, .int .i64 0, .int .i64 0, .bool false] 57)).trans (hb1.mono (by simp)))
  clear hb1 hw1
  go_wp2_with fail
  refine (told_err 1 _ hg1).mono ?_
  rintro e w2 ⟨rfl, hb⟩
  have a0' := (hb.cell (p := ⟨w.heap.size, 0, none⟩) hz1).trans a0
  have a1' := (hb.cell (p := ⟨w.heap.size, 1, none⟩) hz1).trans a1
  have a2' := (hb.cell (p := ⟨w.heap.size, 2, none⟩) hz1).trans a2
  have a3' := (hb.cell (p := ⟨w.heap.size, 3, none⟩) hz1).trans a3
  have b0' := (hb.frozen (p := ⟨w.heap.size, 0, none⟩) hz1).trans b0
  have b1' := (hb.frozen (p := ⟨w.heap.size, 1, none⟩) hz1).trans b1
  have b2' := (hb.frozen (p := ⟨w.heap.size, 2, none⟩) hz1).trans b2
  have b3' := (hb.frozen (p := ⟨w.heap.size, 3, none⟩) hz1).trans b3
  have HB := hide hb
  clear hb a0 a1 a2 a3 b0 b1 b2 b3
  go_wp2
  exact bodyPost_ret (v := .tuple #[.pointer none, .agg #[.int .i64 1, .int .i64 (-1), .int .i64 0, .bool true]]) (by simp [results, Tryz.results23, go_sem, a0', a1', a2', a3']) rfl ⟨rfl, ((((HB1.out.trans (HB.out.mono (Nat.le_of_lt hz1))).setCell (Nat.le_refl _) _).setCell (Nat.le_refl _) _).setCell (Nat.le_refl _) _).setCell (Nat.le_refl _) _⟩

end Go.Proofs.YtiabdbeejkadnaaGreatDoor
