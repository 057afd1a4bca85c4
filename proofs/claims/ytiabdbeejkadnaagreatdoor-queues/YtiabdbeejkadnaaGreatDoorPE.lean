/- The program's queue (stage 2's code): an entry's functions. Own work of the verifier. -/
import Derived.Test.YtiabdbeejkadnaaGreatDoorPC
namespace Go.Proofs.YtiabdbeejkadnaaGreatDoor
open Go.RowKit Go.Maps

theorem entry_pending0 (b : Nat) (w : World) (h : w.cell? ⟨b, 9, none⟩ = some (.int .i64 0)) : Calls Tryz.prog 94 #[.pointer (some ⟨b, 0, none⟩)] w fun e w' => e = .returned (.bool true) ∧ w' = w := by
  go_enter Tryz.func94, Tryz.ntmps94
  go_wp2
  go_ret
  exact ⟨rfl, rfl⟩
theorem entry_pending1 (b : Nat) (w : World) (h : w.cell? ⟨b, 9, none⟩ = some (.int .i64 1)) : Calls Tryz.prog 94 #[.pointer (some ⟨b, 0, none⟩)] w fun e w' => e = .returned (.bool true) ∧ w' = w := by
  go_enter Tryz.func94, Tryz.ntmps94
  go_wp2
  go_ret
  exact ⟨rfl, rfl⟩
theorem entry_pending (b : Nat) (st : Int) (w : World) (h : w.cell? ⟨b, 9, none⟩ = some (.int .i64 st)) (hs : st = 0 ∨ st = 1) : Calls Tryz.prog 94 #[.pointer (some ⟨b, 0, none⟩)] w fun e w' => e = .returned (.bool true) ∧ w' = w := by
  rcases hs with rfl | rfl
  · exact entry_pending0 b w h
  · exact entry_pending1 b w h
theorem entry_not_pending (b : Nat) (st : Int) (w : World) (h : w.cell? ⟨b, 9, none⟩ = some (.int .i64 st)) (hs : 2 ≤ st) : Calls Tryz.prog 94 #[.pointer (some ⟨b, 0, none⟩)] w fun e w' => e = .returned (.bool false) ∧ w' = w := by
  have b0 : (st == 0) = false := beq_eq_false_iff_ne.2 (by omega)
  have b1 : (st == 1) = false := beq_eq_false_iff_ne.2 (by omega)
  clear hs
  go_enter Tryz.func94, Tryz.ntmps94
  go_wp2
  go_ret
  exact ⟨rfl, rfl⟩
theorem entry_fault (b : Nat) (num tries kind : Int) (w : World) (h0 : w.cell? ⟨b, 0, none⟩ = some (.int .i64 num)) (h7 : w.cell? ⟨b, 7, none⟩ = some (.int .i64 tries)) :
    Calls Tryz.prog 95 #[.pointer (some ⟨b, 0, none⟩), .int .i64 kind] w fun e w' => e = .returned (.iface 179 (.pointer (some ⟨w.heap.size, 0, none⟩))) ∧ w'.heap[w.heap.size]? = some (.cells #[.int .i64 num, .int .i64 tries, .int .i64 kind] 183 (0, 0)) ∧ Below w.heap.size w w' := by
  go_enter Tryz.func95, Tryz.ntmps95
  go_wp2
  go_region
  all_goals go_wp2
  all_goals go_ret
  all_goals exact ⟨rfl, heap_alloc_new w _, (alloc_below _ _).drew⟩
theorem entry_outcome4 (b : Nat) (num tries : Int) (w : World) (h0 : w.cell? ⟨b, 0, none⟩ = some (.int .i64 num)) (h7 : w.cell? ⟨b, 7, none⟩ = some (.int .i64 tries)) (h8 : w.cell? ⟨b, 9, none⟩ = some (.int .i64 4)) :
    Calls Tryz.prog 96 #[.pointer (some ⟨b, 0, none⟩)] w fun e w' => (∃ g, e = .returned (.tuple #[.agg #[.slice none 0 0, .int .i64 0], .iface 179 (.pointer (some ⟨g, 0, none⟩))]) ∧ w'.heap[g]? = some (.cells #[.int .i64 num, .int .i64 tries, .int .i64 8] 183 (0, 0)) ∧ w.heap.size ≤ g) ∧ Below w.heap.size w w' := by
  have hbl := lt_of_cell h0
  go_enter Tryz.func96, Tryz.ntmps96
  go_wp2_with fail
  refine (entry_fault b num tries 8 _ (by rw [World.cell?_alloc_lt _ _ ⟨b, 0, none⟩ hbl]; exact h0) (by rw [World.cell?_alloc_lt _ _ ⟨b, 7, none⟩ hbl]; exact h7)).mono ?_
  rintro e w1 ⟨rfl, he, hb⟩
  have hz : w.heap.size < w1.heap.size := by have := hb.size; simp at this; omega
  have a0 := hb.cell (p := ⟨w.heap.size, 0, none⟩) (by simp)
  have a1 := hb.cell (p := ⟨w.heap.size, 1, none⟩) (by simp)
  have f0 := hb.frozen (p := ⟨w.heap.size, 0, none⟩) (by simp)
  have f1 := hb.frozen (p := ⟨w.heap.size, 1, none⟩) (by simp)
  simp at a0 a1 f0 f1 he
  have HE := hide he
  have HB := hide hb
  clear he hb
  go_wp2
  refine bodyPost_ret (v := .tuple #[.agg #[.slice none 0 0, .int .i64 0], .iface 179 (.pointer (some ⟨w.heap.size + 1, 0, none⟩))]) (by simp [results, Tryz.results96, go_sem, a0, a1]) rfl ⟨⟨w.heap.size + 1, rfl, ?_, by omega⟩, ?_⟩
  · rw [Below.heap_setCell _ _ _ _ (by show w.heap.size + 1 ≠ w.heap.size; omega), Below.heap_setCell _ _ _ _ (by show w.heap.size + 1 ≠ w.heap.size; omega)]; exact HE.out
  · exact (((alloc_below _ _).trans (HB.out.mono (by simp))).setCell (Nat.le_refl _) _).setCell (Nat.le_refl _) _
theorem entry_outcome3 (b : Nat) (num tries : Int) (w : World) (h0 : w.cell? ⟨b, 0, none⟩ = some (.int .i64 num)) (h7 : w.cell? ⟨b, 7, none⟩ = some (.int .i64 tries)) (h8 : w.cell? ⟨b, 9, none⟩ = some (.int .i64 3)) :
    Calls Tryz.prog 96 #[.pointer (some ⟨b, 0, none⟩)] w fun e w' => (∃ g, e = .returned (.tuple #[.agg #[.slice none 0 0, .int .i64 0], .iface 179 (.pointer (some ⟨g, 0, none⟩))]) ∧ w'.heap[g]? = some (.cells #[.int .i64 num, .int .i64 tries, .int .i64 7] 183 (0, 0)) ∧ w.heap.size ≤ g) ∧ Below w.heap.size w w' := by
  have hbl := lt_of_cell h0
  go_enter Tryz.func96, Tryz.ntmps96
  go_wp2_with fail
  refine (entry_fault b num tries 7 _ (by rw [World.cell?_alloc_lt _ _ ⟨b, 0, none⟩ hbl]; exact h0) (by rw [World.cell?_alloc_lt _ _ ⟨b, 7, none⟩ hbl]; exact h7)).mono ?_
  rintro e w1 ⟨rfl, he, hb⟩
  have hz : w.heap.size < w1.heap.size := by have := hb.size; simp at this; omega
  have a0 := hb.cell (p := ⟨w.heap.size, 0, none⟩) (by simp)
  have a1 := hb.cell (p := ⟨w.heap.size, 1, none⟩) (by simp)
  have f0 := hb.frozen (p := ⟨w.heap.size, 0, none⟩) (by simp)
  have f1 := hb.frozen (p := ⟨w.heap.size, 1, none⟩) (by simp)
  simp at a0 a1 f0 f1 he
  have HE := hide he
  have HB := hide hb
  clear he hb
  go_wp2
  refine bodyPost_ret (v := .tuple #[.agg #[.slice none 0 0, .int .i64 0], .iface 179 (.pointer (some ⟨w.heap.size + 1, 0, none⟩))]) (by simp [results, Tryz.results96, go_sem, a0, a1]) rfl ⟨⟨w.heap.size + 1, rfl, ?_, by omega⟩, ?_⟩
  · rw [Below.heap_setCell _ _ _ _ (by show w.heap.size + 1 ≠ w.heap.size; omega), Below.heap_setCell _ _ _ _ (by show w.heap.size + 1 ≠ w.heap.size; omega)]; exact HE.out
  · exact (((alloc_below _ _).trans (HB.out.mono (by simp))).setCell (Nat.le_refl _) _).setCell (Nat.le_refl _) _
set_option maxHeartbeats 1000000 in
theorem entry_outcome2w (b : Nat) (tries : Int) (w : World) (h2 : w.cell? ⟨b, 2, none⟩ = some (.bool true)) (h7 : w.cell? ⟨b, 7, none⟩ = some (.int .i64 tries)) (h8 : w.cell? ⟨b, 9, none⟩ = some (.int .i64 2)) :
    Calls Tryz.prog 96 #[.pointer (some ⟨b, 0, none⟩)] w fun e w' => e = .returned (.tuple #[.agg #[.slice none 0 0, .int .i64 tries], .nilIface]) ∧ Below w.heap.size w w' := by
  have hbl := lt_of_cell h2
  go_enter Tryz.func96, Tryz.ntmps96
  go_wp2
  refine bodyPost_ret (v := .tuple #[.agg #[.slice none 0 0, .int .i64 tries], .nilIface]) (by simp [results, Tryz.results96, go_sem]) rfl ⟨rfl, (alloc_below _ _).trans ((alloc_below _ _).mono (by simp))⟩
theorem app_keep {W w2 : World} (hgrow : W.drew.grownBy w2 (Value.ownBlock (.slice none 0 0))) {k : Nat} (hk : k < W.heap.size) : w2.heap[k]? = W.heap[k]? := hgrow.block k hk (by simp [Value.ownBlock])
theorem cells2 {w : World} {b : Nat} {x0 x1 : Value} {t : TypeId} (h : w.heap[b]? = some (.cells #[x0, x1] t (0, 0))) : w.cell? ⟨b, 0, none⟩ = some x0 ∧ w.cell? ⟨b, 1, none⟩ = some x1 ∧ w.frozen? ⟨b, 0, none⟩ = false ∧ w.frozen? ⟨b, 1, none⟩ = false := by simp [World.cell?, World.frozen?, h]
theorem cells4 {w : World} {b : Nat} {x0 x1 x2 x3 : Value} {t : TypeId} (h : w.heap[b]? = some (.cells #[x0, x1, x2, x3] t (0, 0))) : (w.cell? ⟨b, 0, none⟩ = some x0 ∧ w.cell? ⟨b, 1, none⟩ = some x1 ∧ w.cell? ⟨b, 2, none⟩ = some x2 ∧ w.cell? ⟨b, 3, none⟩ = some x3) ∧ w.frozen? ⟨b, 0, none⟩ = false ∧ w.frozen? ⟨b, 1, none⟩ = false ∧ w.frozen? ⟨b, 2, none⟩ = false ∧ w.frozen? ⟨b, 3, none⟩ = false := by simp [World.cell?, World.frozen?, h]
theorem dataCells {w : World} {b : Nat} {r : Rq} {ds : List UInt8} (h : w.heap[b]? = some (.cells (entC r ds) 95 (0, 0))) (hl : ds.length = 4) (j : Nat) (u : Value) (hj : (encB ds)[j]? = some u) : w.cell? ((⟨b, 3, none⟩ : Addr).add j) = some u := by
  rw [Addr.add_lit]
  match ds, hl with
  | [a0, a1, a2, a3], _ =>
    match j, hj with
    | 0, hj => simp [encB] at hj; subst hj; simp [World.cell?, h, entC, u8]
    | 1, hj => simp [encB] at hj; subst hj; simp [World.cell?, h, entC, u8]
    | 2, hj => simp [encB] at hj; subst hj; simp [World.cell?, h, entC, u8]
    | 3, hj => simp [encB] at hj; subst hj; simp [World.cell?, h, entC, u8]
    | j + 4, hj => simp [encB] at hj
set_option maxHeartbeats 1000000 in
theorem entry_outcome2r (b : Nat) (r : Rq) (ds : List UInt8) (w : World) (h : w.heap[b]? = some (.cells (entC r ds) 95 (0, 0))) (hl : ds.length = 4) (hw : r.write = false) (hs : r.state = 2) :
    Calls Tryz.prog 96 #[.pointer (some ⟨b, 0, none⟩)] w fun e w' => ∃ g cap, e = .returned (.tuple #[.agg #[.slice (some ⟨g, 0, none⟩) 4 cap, .int .i64 r.tries], .nilIface]) ∧ Row w' (fun k => w.heap.size ≤ k) 5 1 (some ⟨g, 0, none⟩) 4 cap (encB ds) ∧ Below w.heap.size w w' := by
  obtain ⟨i0, hi, hi0, hi1, hi2⟩ := info_parts info_byte
  have h2 : w.cell? ⟨b, 2, none⟩ = some (.bool false) := by simp [World.cell?, h, entC, hw]
  have h7 : w.cell? ⟨b, 7, none⟩ = some (.int .i64 r.tries) := by simp [World.cell?, h, entC]
  have h8 : w.cell? ⟨b, 9, none⟩ = some (.int .i64 2) := by simp [World.cell?, h, entC, hs]
  have hbl := lt_of_cell h2
  have HD : Hid (∀ (j : Nat) (u : Value), (encB ds)[j]? = some u → w.cell? ((⟨b, 3, none⟩ : Addr).add j) = some u) := fun j u => dataCells h hl j u
  have HL := hide hl
  clear h hl hw hs
  generalize r.tries = tr at *
  go_enter Tryz.func96, Tryz.ntmps96
  go_wp2
  have HB : Hid (Below w.heap.size w ((w.alloc (.cells #[.slice none 0 0, .int .i64 0] 88)).alloc (.cells #[.slice none 0 0, .int .i64 tr] 88))) := (alloc_below _ _).trans ((alloc_below _ _).mono (by simp))
  have HZ : ((w.alloc (.cells #[.slice none 0 0, .int .i64 0] 88)).alloc (.cells #[.slice none 0 0, .int .i64 tr] 88)).heap.size = w.heap.size + 2 := by simp
  have HA : ((w.alloc (.cells #[.slice none 0 0, .int .i64 0] 88)).alloc (.cells #[.slice none 0 0, .int .i64 tr] 88)).heap[w.heap.size + 1]? = some (.cells #[.slice none 0 0, .int .i64 tr] 88 (0, 0)) := by
    have := heap_alloc_new (w.alloc (.cells #[.slice none 0 0, .int .i64 0] 88)) (.cells #[.slice none 0 0, .int .i64 tr] 88)
    simp only [World.size_alloc] at this
    exact this
  have HA0 : ((w.alloc (.cells #[.slice none 0 0, .int .i64 0] 88)).alloc (.cells #[.slice none 0 0, .int .i64 tr] 88)).heap[w.heap.size]? = some (.cells #[.slice none 0 0, .int .i64 0] 88 (0, 0)) := (Below.heap_alloc _ _ _ (by simp)).trans (heap_alloc_new w _)
  generalize (w.alloc (.cells #[.slice none 0 0, .int .i64 0] 88)).alloc (.cells #[.slice none 0 0, .int .i64 tr] 88) = W at HB HZ HA HA0 ⊢
  have HN : Hid (∀ (j : Nat) (u : Value), (encB ds)[j]? = some u → W.drew.cell? ((⟨b, 3, none⟩ : Addr).add j) = some u) := fun j u hj => by rw [Addr.add_lit]; have := HD.out j u hj; rw [Addr.add_lit] at this; exact (HB.out.cell (p := ⟨b, 3 + j, none⟩) hbl).trans this
  have HO : Hid (W.drew.ownsRow 0 5 1 (.slice none 0 0) 0 []) := World.ownsRow_nil _ _ _ _
  have m0 : W.cell? ⟨w.heap.size + 1, 0, none⟩ = some (.slice none 0 0) := by simp [World.cell?, HA]
  have f0 : W.frozen? ⟨w.heap.size + 1, 0, none⟩ = false := by simp [World.frozen?, HA]
  have HA' := hide HA
  have HA0' := hide HA0
  have HZ' := hide HZ
  clear HA HA0 HZ
  go_region_law (refine step_append_lies _ rfl (.tmp 30) (.tmp 34) 86 rfl 0 5 i0 (.int .u8 0) 1 1 Tryz.underlying86 hi hi0 hi1 hi2 rfl (by decide) (.slice none 0 0) 0 [] (by simp [Act.eval]) HO.out ⟨b, 3, none⟩ 4 4 (encB ds) (by simp [Act.eval]) (by simp [encB, HL.out]) HN.out (by intro u hu; simp [encB] at hu; obtain ⟨_, _, rfl⟩ := hu; rfl) (by decide) (by unfold maxLen; omega) (by omega) (Nat.zero_le _) (W.heap.size) rfl ?_; intro g cap w2 hown hgrow hat hlt; have hx1 := app_keep hgrow (k := w.heap.size + 1) (by rw [HZ'.out]; omega); have hx0 := app_keep hgrow (k := w.heap.size) (by rw [HZ'.out]; omega); have n0 := cells2 (hx1.trans HA'.out); have n1 := cells2 (hx0.trans HA0'.out); obtain ⟨p0, p1, p2, p3⟩ := n0; obtain ⟨r0, r1, r2, r3⟩ := n1)
  have hg : g = W.heap.size := hat.elim (fun e => by simp [Value.ownBlock] at e) id
  have HG : Hid (g = w.heap.size + 2) := hg.trans HZ'.out
  have HR : Hid (Row w2 (fun k => w.heap.size ≤ k) 5 1 (some ⟨g, 0, none⟩) 4 cap (encB ds)) := ⟨hown, fun a ha => by cases ha; show w.heap.size ≤ g; rw [HG.out]; omega⟩
  have HB2 : Hid (Below w.heap.size w w2) := HB.out.drew.grown hgrow (by show w.heap.size ≤ W.heap.size; rw [HZ'.out]; omega) (fun k hk => by simp [Value.ownBlock] at hk)
  clear hown hgrow hat hlt hx1 hx0 hg HO HN m0 f0
  go_wp2
  refine bodyPost_ret (v := .tuple #[.agg #[.slice (some ⟨g, 0, none⟩) 4 cap, .int .i64 tr], .nilIface]) (by simp [results, Tryz.results96, go_sem, r0, r1]) rfl ⟨g, cap, rfl, ?_, ?_⟩
  · have hne : ∀ a, (some ⟨g, 0, none⟩ : Option Addr) = some a → a.block ≠ w.heap.size ∧ a.block ≠ w.heap.size + 1 := fun a ha => by cases ha; show g ≠ _ ∧ g ≠ _; rw [HG.out]; omega
    exact ((HR.out.setCell_other (fun a ha => (hne a ha).2) _).setCell_other (fun a ha => (hne a ha).1) _).setCell_other (fun a ha => (hne a ha).1) _
  · exact ((HB2.out.setCell (by show _ ≤ w.heap.size + 1; omega) _).setCell (Nat.le_refl _) _).setCell (Nat.le_refl _) _
end Go.Proofs.YtiabdbeejkadnaaGreatDoor
