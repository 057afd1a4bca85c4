/- The program's queue (stage 1's code): New, plain.New, Disk. Own work of the verifier. -/
import Derived.Test.YtgepgklgemndeaaGreatDoorProgC
import Derived.Deep.MidRow
namespace Go.Proofs.YtgepgklgemndeaaGreatDoor
open Go.RowKit Go.Maps

def newC (depth : Int) (bm : Nat) : Array Value := #[.int .i64 depth, .int .i64 0, .int .i64 0, .map (some bm), .int .u8 0, .int .u8 0, .int .u8 0, .int .u8 0, .int .u8 0, .int .u8 0, .int .u8 0, .int .u8 0, .int .u8 0, .int .u8 0, .int .u8 0, .int .u8 0, .int .u8 0, .int .u8 0, .int .u8 0, .int .u8 0, .int .u8 0, .int .u8 0, .int .u8 0, .int .u8 0, .int .u8 0, .int .u8 0, .int .u8 0, .int .u8 0, .int .u8 0, .int .u8 0, .int .u8 0, .int .u8 0, .int .u8 0, .int .u8 0, .int .u8 0, .int .u8 0, .int .u8 0, .int .u8 0, .int .u8 0, .int .u8 0, .int .u8 0, .int .u8 0, .int .u8 0, .int .u8 0, .int .u8 0, .int .u8 0, .int .u8 0, .int .u8 0, .int .u8 0, .int .u8 0, .int .u8 0, .int .u8 0, .int .u8 0, .int .u8 0, .int .u8 0, .int .u8 0, .int .u8 0, .int .u8 0, .int .u8 0, .int .u8 0, .int .u8 0, .int .u8 0, .int .u8 0, .int .u8 0, .int .u8 0, .int .u8 0, .int .u8 0, .int .u8 0] 
theorem newC_eq (depth : Int) (bm : Nat) : newC depth bm = #[.int .i64 depth, .int .i64 0, .int .i64 0, .map (some bm)] ++ Array.replicate 64 (.int .u8 0) := by kernel_rfl
theorem new_wf (depth : Int) (h1 : 1 ≤ depth) (h4 : depth ≤ 4) : Wf1 (St.new depth) :=
  ⟨⟨h1, h4⟩, rfl, rfl, rfl, by simp [St.new], by simp [St.new], fun r hr => by simp [St.new] at hr, fun r hr => by simp [St.new] at hr, by simp [St.new]⟩
theorem new_progAt (depth : Int) (w : World) (h1 : 1 ≤ depth) (h4 : depth ≤ 4) : ProgAt ((w.alloc (.map #[] 0)).alloc (.cells (newC depth w.heap.size) 81)) (Foot (fun _ => False) w ((w.alloc (.map #[] 0)).alloc (.cells (newC depth w.heap.size) 81))) (w.heap.size + 1) (St.new depth) := by
  have hz : ((w.alloc (.map #[] 0)).alloc (.cells (newC depth w.heap.size) 81)).heap.size = w.heap.size + 2 := by simp
  have e1 : (w.alloc (.map #[] 0)).heap.size = w.heap.size + 1 := by simp
  have hb := heap_alloc_new (w.alloc (.map #[] 0)) (.cells (newC depth w.heap.size) 81)
  rw [e1] at hb
  refine ⟨w.heap.size, .map [], fun _ => 0, newC depth w.heap.size, Or.inr ⟨by omega, by rw [hz]; omega⟩, hb, by rw [newC_eq]; simp, rfl, rfl, rfl, rfl, fun j hj => ?_, Or.inr ⟨Nat.le_refl _, by rw [hz]; omega⟩, (World.ownsMap_made w _ _ _).alloc _, rfl, fun n => rfl, fun r hr => by simp [St.new] at hr, fun r hr => by simp [St.new] at hr, fun r hr => by simp [St.new] at hr, fun r hr => by simp [St.new] at hr, fun k hk => hk.elim (fun h => h.elim) (fun h => h.2), new_wf depth h1 h4⟩
  have e4 : 4 + j - 4 = j := by omega
  rw [newC_eq, Array.getElem?_append_right (by simp)]
  simp [e4, hj]

theorem prog_new_ok (depth : Int) (w : World) (h1 : 1 ≤ depth) (h4 : depth ≤ 4) :
    Calls Tryz.prog 53 #[.int .i64 depth] w fun e w' => e = .returned (.tuple #[.pointer (some ⟨w.heap.size + 1, 0, none⟩), .nilIface]) ∧ w' = ((w.alloc (.map #[] 0)).alloc (.cells (newC depth w.heap.size) 81)) := by
  have hmm := @run_makeMap Tryz.prog
  have b1 : decide (depth < 1) = false := by simp; omega
  have b2 : decide (4 < depth) = false := by simp; omega
  go_enter Tryz.func53, Tryz.ntmps53
  go_wp2
  go_ret2
  exact ⟨rfl, rfl⟩
theorem prog_new_no (depth : Int) (w : World) (h : depth < 1 ∨ 4 < depth) :
    Calls Tryz.prog 53 #[.int .i64 depth] w fun e w' => e = .returned (.tuple #[.pointer none, errOf 1]) ∧ w' = w := by
  by_cases h1 : depth < 1
  · have b1 : decide (depth < 1) = true := by simp; omega
    clear h
    go_enter Tryz.func53, Tryz.ntmps53
    go_wp2
    go_ret2
    exact ⟨rfl, rfl⟩
  · have b1 : decide (depth < 1) = false := by simp; omega
    have h2 : 4 < depth := by omega
    have b2 : decide (4 < depth) = true := by simp; omega
    clear h
    go_enter Tryz.func53, Tryz.ntmps53
    go_wp2
    go_ret2
    exact ⟨rfl, rfl⟩
set_option maxHeartbeats 1000000 in
theorem plain_new_ok (depth : Int) (w : World) (hg : GCell w) (h1 : 1 ≤ depth) (h4 : depth ≤ 4) :
    Calls Tryz.prog 20 #[.int .i64 depth] w fun e w' => ∃ xb, e = .returned (.tuple #[.pointer (some ⟨xb, 0, none⟩), .agg #[.int .i64 0, .int .i64 (-1), .int .i64 0, .bool true]]) ∧ ProgAt w' (Foot (fun _ => False) w w') xb (St.new depth) ∧ Below w.heap.size w w' := by
  have HG : Hid (GCell w) := hg
  clear hg
  go_enter Tryz.func20, Tryz.ntmps20
  go_wp2_with fail
  refine (prog_new_ok depth _ h1 h4).mono ?_
  rintro e w1 ⟨rfl, hw1⟩
  have hP := new_progAt depth (w.alloc (.cells #[.int .i64 0, .int .i64 0, .int .i64 0, .bool false] 51)) h1 h4
  rw [← hw1] at hP
  have hb1 : Below (w.alloc (.cells #[.int .i64 0, .int .i64 0, .int .i64 0, .bool false] 51)).heap.size (w.alloc (.cells #[.int .i64 0, .int .i64 0, .int .i64 0, .bool false] 51)) w1 := by
    rw [hw1]; exact (alloc_below _ _).trans ((alloc_below _ _).mono (by simp))
  have HP := hide hP
  have HK := hide (Go.Proofs.YtgepgklgemndeaaGreatDoor.Below.kept hb1 (fun _ => False))
  have hz1 : w.heap.size < w1.heap.size := by have := hb1.size; simp at this; omega
  obtain ⟨⟨a0, a1, a2, a3⟩, b0, b1, b2, b3⟩ := err_cells HK.out (fun h => h)
  have hg1 : GCell w1 := (HG.out.below (alloc_below _ _)).below hb1
  clear hP hb1 hw1
  simp only [World.size_alloc] at HP ⊢
  go_wp2_with fail
  refine (told_nil _).mono ?_
  rintro e w2 ⟨rfl, hb⟩
  have a0' := (hb.cell (p := ⟨w.heap.size, 0, none⟩) hz1).trans a0
  have a1' := (hb.cell (p := ⟨w.heap.size, 1, none⟩) hz1).trans a1
  have a2' := (hb.cell (p := ⟨w.heap.size, 2, none⟩) hz1).trans a2
  have a3' := (hb.cell (p := ⟨w.heap.size, 3, none⟩) hz1).trans a3
  have b0' := (hb.frozen (p := ⟨w.heap.size, 0, none⟩) hz1).trans b0
  have b1' := (hb.frozen (p := ⟨w.heap.size, 1, none⟩) hz1).trans b1
  have b2' := (hb.frozen (p := ⟨w.heap.size, 2, none⟩) hz1).trans b2
  have b3' := (hb.frozen (p := ⟨w.heap.size, 3, none⟩) hz1).trans b3
  have HB := hide hb
  clear hb a0 a1 a2 a3 b0 b1 b2 b3
  go_wp2
  refine bodyPost_ret (v := .tuple #[.pointer (some ⟨w.heap.size + 1 + 1, 0, none⟩), .agg #[.int .i64 0, .int .i64 (-1), .int .i64 0, .bool true]]) (by simp [results, Tryz.results20, go_sem, a0', a1', a2', a3']) rfl ⟨_, rfl, (plain_fin _ _ _ _ HP.out HK.out HB.out (fun _ h => h.elim)).1, (plain_fin _ _ _ _ HP.out HK.out HB.out (fun _ h => h.elim)).2.toBelow (fun _ h => h.elim) (Nat.le_refl _)⟩

set_option maxHeartbeats 1000000 in
theorem plain_new_no (depth : Int) (w : World) (hg : GCell w) (h : depth < 1 ∨ 4 < depth) :
    Calls Tryz.prog 20 #[.int .i64 depth] w fun e w' => e = .returned (.tuple #[.pointer none, .agg #[.int .i64 1, .int .i64 (-1), .int .i64 0, .bool true]]) ∧ Below w.heap.size w w' := by
  have HG : Hid (GCell w) := hg
  clear hg
  go_enter Tryz.func20, Tryz.ntmps20
  go_wp2_with fail
  refine (prog_new_no depth _ h).mono ?_
  rintro e w1 ⟨rfl, hw1⟩
  have hb1 : Below (w.alloc (.cells #[.int .i64 0, .int .i64 0, .int .i64 0, .bool false] 51)).heap.size (w.alloc (.cells #[.int .i64 0, .int .i64 0, .int .i64 0, .bool false] 51)) w1 := by
    rw [hw1]; exact Below.refl _ _
  have HK := hide (Go.Proofs.YtgepgklgemndeaaGreatDoor.Below.kept hb1 (fun _ => False))
  have hz1 : w.heap.size < w1.heap.size := by have := hb1.size; simp at this; omega
  obtain ⟨⟨a0, a1, a2, a3⟩, b0, b1, b2, b3⟩ := err_cells HK.out (fun h => h)
  have hg1 : GCell w1 := (HG.out.below (alloc_below _ _)).below hb1
  have HB1 := hide ((alloc_below w (.cells #[.int .i64 0, .int .i64 0, .int .i64 0, .bool false] 51)).trans (hb1.mono (by simp)))
  clear hb1 hw1
  go_wp2_with fail
  refine (told_err 1 _ hg1).mono ?_
  rintro e w2 ⟨rfl, hb⟩
  have a0' := (hb.cell (p := ⟨w.heap.size, 0, none⟩) hz1).trans a0
  have a1' := (hb.cell (p := ⟨w.heap.size, 1, none⟩) hz1).trans a1
  have a2' := (hb.cell (p := ⟨w.heap.size, 2, none⟩) hz1).trans a2
  have a3' := (hb.cell (p := ⟨w.heap.size, 3, none⟩) hz1).trans a3
  have b0' := (hb.frozen (p := ⟨w.heap.size, 0, none⟩) hz1).trans b0
  have b1' := (hb.frozen (p := ⟨w.heap.size, 1, none⟩) hz1).trans b1
  have b2' := (hb.frozen (p := ⟨w.heap.size, 2, none⟩) hz1).trans b2
  have b3' := (hb.frozen (p := ⟨w.heap.size, 3, none⟩) hz1).trans b3
  have HB := hide hb
  clear hb a0 a1 a2 a3 b0 b1 b2 b3
  go_wp2
  exact bodyPost_ret (v := .tuple #[.pointer none, .agg #[.int .i64 1, .int .i64 (-1), .int .i64 0, .bool true]]) (by simp [results, Tryz.results20, go_sem, a0', a1', a2', a3']) rfl ⟨rfl, ((((HB1.out.trans (HB.out.mono (Nat.le_of_lt hz1))).setCell (Nat.le_refl _) _).setCell (Nat.le_refl _) _).setCell (Nat.le_refl _) _).setCell (Nat.le_refl _) _⟩

theorem ix100 (w : World) : (Instr.index 79 (.agg zeros64) (.int .i64 0)).run Tryz.prog w = .ok (.agg #[.int .u8 0, .int .u8 0, .int .u8 0, .int .u8 0]) w := by kernel_rfl
theorem ix101 (w : World) : (Instr.index 79 (.agg zeros64) (.int .i64 1)).run Tryz.prog w = .ok (.agg #[.int .u8 0, .int .u8 0, .int .u8 0, .int .u8 0]) w := by kernel_rfl
theorem ix102 (w : World) : (Instr.index 79 (.agg zeros64) (.int .i64 2)).run Tryz.prog w = .ok (.agg #[.int .u8 0, .int .u8 0, .int .u8 0, .int .u8 0]) w := by kernel_rfl
theorem ix103 (w : World) : (Instr.index 79 (.agg zeros64) (.int .i64 3)).run Tryz.prog w = .ok (.agg #[.int .u8 0, .int .u8 0, .int .u8 0, .int .u8 0]) w := by kernel_rfl
theorem ix104 (w : World) : (Instr.index 79 (.agg zeros64) (.int .i64 4)).run Tryz.prog w = .ok (.agg #[.int .u8 0, .int .u8 0, .int .u8 0, .int .u8 0]) w := by kernel_rfl
theorem ix105 (w : World) : (Instr.index 79 (.agg zeros64) (.int .i64 5)).run Tryz.prog w = .ok (.agg #[.int .u8 0, .int .u8 0, .int .u8 0, .int .u8 0]) w := by kernel_rfl
theorem ix106 (w : World) : (Instr.index 79 (.agg zeros64) (.int .i64 6)).run Tryz.prog w = .ok (.agg #[.int .u8 0, .int .u8 0, .int .u8 0, .int .u8 0]) w := by kernel_rfl
theorem ix107 (w : World) : (Instr.index 79 (.agg zeros64) (.int .i64 7)).run Tryz.prog w = .ok (.agg #[.int .u8 0, .int .u8 0, .int .u8 0, .int .u8 0]) w := by kernel_rfl
theorem ix108 (w : World) : (Instr.index 79 (.agg zeros64) (.int .i64 8)).run Tryz.prog w = .ok (.agg #[.int .u8 0, .int .u8 0, .int .u8 0, .int .u8 0]) w := by kernel_rfl
theorem ix109 (w : World) : (Instr.index 79 (.agg zeros64) (.int .i64 9)).run Tryz.prog w = .ok (.agg #[.int .u8 0, .int .u8 0, .int .u8 0, .int .u8 0]) w := by kernel_rfl
theorem ix110 (w : World) : (Instr.index 79 (.agg zeros64) (.int .i64 10)).run Tryz.prog w = .ok (.agg #[.int .u8 0, .int .u8 0, .int .u8 0, .int .u8 0]) w := by kernel_rfl
theorem ix111 (w : World) : (Instr.index 79 (.agg zeros64) (.int .i64 11)).run Tryz.prog w = .ok (.agg #[.int .u8 0, .int .u8 0, .int .u8 0, .int .u8 0]) w := by kernel_rfl
theorem ix112 (w : World) : (Instr.index 79 (.agg zeros64) (.int .i64 12)).run Tryz.prog w = .ok (.agg #[.int .u8 0, .int .u8 0, .int .u8 0, .int .u8 0]) w := by kernel_rfl
theorem ix113 (w : World) : (Instr.index 79 (.agg zeros64) (.int .i64 13)).run Tryz.prog w = .ok (.agg #[.int .u8 0, .int .u8 0, .int .u8 0, .int .u8 0]) w := by kernel_rfl
theorem ix114 (w : World) : (Instr.index 79 (.agg zeros64) (.int .i64 14)).run Tryz.prog w = .ok (.agg #[.int .u8 0, .int .u8 0, .int .u8 0, .int .u8 0]) w := by kernel_rfl
theorem ix115 (w : World) : (Instr.index 79 (.agg zeros64) (.int .i64 15)).run Tryz.prog w = .ok (.agg #[.int .u8 0, .int .u8 0, .int .u8 0, .int .u8 0]) w := by kernel_rfl
theorem ix64 (k : Nat) (hk : k < 16) (w : World) : (Instr.index 79 (.agg zeros64) (.int .i64 k)).run Tryz.prog w = .ok (.agg #[.int .u8 0, .int .u8 0, .int .u8 0, .int .u8 0]) w := by
  have h16 : k = 0 ∨ k = 1 ∨ k = 2 ∨ k = 3 ∨ k = 4 ∨ k = 5 ∨ k = 6 ∨ k = 7 ∨ k = 8 ∨ k = 9 ∨ k = 10 ∨ k = 11 ∨ k = 12 ∨ k = 13 ∨ k = 14 ∨ k = 15 := by omega
  rcases h16 with rfl | rfl | rfl | rfl | rfl | rfl | rfl | rfl | rfl | rfl | rfl | rfl | rfl | rfl | rfl | rfl
  · exact ix100 w
  · exact ix101 w
  · exact ix102 w
  · exact ix103 w
  · exact ix104 w
  · exact ix105 w
  · exact ix106 w
  · exact ix107 w
  · exact ix108 w
  · exact ix109 w
  · exact ix110 w
  · exact ix111 w
  · exact ix112 w
  · exact ix113 w
  · exact ix114 w
  · exact ix115 w
theorem info_byte : (Tryz.prog.info? 5).map (fun i => (i.zero, i.size, i.bytes)) = some (some (.int .u8 0), 1, 1) := by kernel_rfl
def zer (n : Nat) : List Value := List.replicate n (.int .u8 0)
theorem zer_add (n : Nat) : zer (n + 4) = zer n ++ [.int .u8 0, .int .u8 0, .int .u8 0, .int .u8 0] := by
  unfold zer
  rw [show [Value.int .u8 0, .int .u8 0, .int .u8 0, .int .u8 0] = List.replicate 4 (Value.int .u8 0) from rfl, List.replicate_append_replicate]
theorem zer64 : zer 64 = encB (List.replicate 64 0) := by kernel_rfl

set_option maxHeartbeats 1000000 in
set_option maxRecDepth 1000000 in
theorem prog_disk (S : St) (F : Nat → Prop) (xb : Nat) (w : World) (h : ProgAt w F xb S) :
    Calls Tryz.prog 42 #[.pointer (some ⟨xb, 0, none⟩)] w fun e w' => ∃ ao cap, e = .returned (.slice ao 64 cap) ∧ Row w' (fun b => w.heap.size ≤ b) 5 1 ao 64 cap (encB S.disk) ∧ Below w.heap.size w w' := by
  have hdk : S.disk = List.replicate 64 0 := h.wf.disk
  rw [hdk]
  obtain ⟨bm, D, eb, c, h⟩ := h
  obtain ⟨i0, hi, hi0, hi1, hi2⟩ := info_parts info_byte
  have HR : Hid (w.rangeAt xb 4 zeros64.toList) := by
    intro j v hv
    have hj : j < 64 := by
      have e1 := (List.getElem?_eq_some_iff.1 hv).1
      have e2 : zeros64.toList.length = 64 := by kernel_rfl
      omega
    have e3 : zeros64.toList = zer 64 := by kernel_rfl
    rw [e3] at hv
    have hv' : v = .int .u8 0 := by
      unfold zer at hv
      rw [List.getElem?_replicate, if_pos hj] at hv
      exact (Option.some.inj hv).symm
    rw [hv']
    exact h.cell (4 + j) _ (h.cd j hj)
  clear h hdk
  go_enter Tryz.func42, Tryz.ntmps42
  go_wp2_with fail
  refine (orEmpty_some _ _).mono ?_
  rintro e w1 ⟨rfl, hw1⟩
  have hw2 := hw1.symm
  subst hw2
  clear hw1
  go_wp2_with (first | (refine wpList_load_mid rfl 79 _ rfl xb 4 rfl zeros64.toList _ HR.out Tryz.underlying79 rfl (by kernel_rfl) ?_) | fail)
  have hix := ix64
  go_loopw [3, 11] (fun l i wr => ∃ (k cap : Nat) (ao : Option Addr), k ≤ 16 ∧ i = .int .i64 k ∧ l = .slice ao (4 * k) cap ∧ Hid (Row wr (fun b => w.heap.size ≤ b) 5 1 ao (4 * k) cap (zer (4 * k))) ∧ Hid (Below w.heap.size w wr)) (fun _ i _ => 16 - (intOf i).toNat)
  case atStart => exact ⟨0, 0, none, Nat.zero_le _, rfl, rfl, Row.nil _ _ _ _, Below.refl _ _⟩
  case round =>
    obtain ⟨k, cap, ao, hk, rfl, rfl, hrow, hb⟩ := hrel
    by_cases hlt : k < 16
    · have hik : ∀ W, (Instr.index 79 (.agg zeros64) (.int .i64 k)).run Tryz.prog W = .ok (.agg #[.int .u8 0, .int .u8 0, .int .u8 0, .int .u8 0]) W := fun W => ix64 k hlt W
      clear hix
      have HO : Hid ((wr.alloc (.cells #[.int .u8 0, .int .u8 0, .int .u8 0, .int .u8 0] 78)).ownsRow 0 5 1 (.slice ao (4 * k) cap) (4 * k) (zer (4 * k))) := (hrow.out.alloc _).1
      have HW : Hid (∀ (t : Nat) (u : Value), [Value.int .u8 0, .int .u8 0, .int .u8 0, .int .u8 0][t]? = some u → (wr.alloc (.cells #[.int .u8 0, .int .u8 0, .int .u8 0, .int .u8 0] 78)).cell? ((⟨wr.heap.size, 0, none⟩ : Addr).add t) = some u) := fun t u => news_new t u
      go_wp2_with (at_builtin; go_must (refine wpList_append_lies _ rfl (.tmp 14) (.tmp 15) 45 rfl 0 5 i0 (.int .u8 0) 1 1 Tryz.underlying45 hi hi0 hi1 hi2 rfl (by decide) (.slice ao (4 * k) cap) (4 * k) (zer (4 * k)) rfl HO.out ⟨wr.heap.size, 0, none⟩ 4 4 [Value.int .u8 0, .int .u8 0, .int .u8 0, .int .u8 0] rfl rfl HW.out (by intro u hu; simp at hu; subst hu; rfl) (by decide) (by unfold maxLen; omega) (by omega) (Nat.zero_le _) (wr.heap.size + 1) (by simp) ?_; intro g cap' w2 hown hgrow hat hlt3; have HX := hide (own_rel hb.out hrow.out hgrow hown hat); clear hown hgrow hat hlt3))
      go_roundw
      case rel => exact ⟨k + 1, cap', some ⟨g, 0, none⟩, by omega, by go_num, by rw [Nat.mul_add], by have := HX.out.2; rw [← zer_add] at this; exact this, HX.out.1⟩
      case measure => simp [intOf]; omega
    · have HE : Hid (k = 16) := by show k = 16; omega
      clear hix
      go_wp2
      go_ret
      refine ⟨ao, cap, ?_, ?_, hb.out⟩
      · rw [HE.out]; rfl
      · have := hrow.out
        rw [HE.out] at this
        rw [← zer64]; exact this
end Go.Proofs.YtgepgklgemndeaaGreatDoor
