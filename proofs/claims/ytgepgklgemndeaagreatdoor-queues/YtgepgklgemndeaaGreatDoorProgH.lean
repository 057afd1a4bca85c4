/- The program's queue (stage 1's code): plain.Poll, New, plain.New. Own work of the verifier. -/
import Derived.Test.YtgepgklgemndeaaGreatDoorProgG
import Derived.Deep.RegionWith
namespace Go.Proofs.YtgepgklgemndeaaGreatDoor
open Go.RowKit Go.Maps

/-- the world of plain.Poll at its first call -/
def pollW (w : World) : World := (w.alloc (.cells #[.slice none 0 0, .int .i64 0] 66)).alloc (.cells #[.int .i64 0, .int .i64 0, .int .i64 0, .bool false] 51)
theorem pollW_below (w : World) : Below w.heap.size w (pollW w) := (alloc_below _ _).trans ((alloc_below _ _).mono (by simp))
theorem pollW_size (w : World) : (pollW w).heap.size = w.heap.size + 2 := by simp [pollW]
theorem pollW_a (w : World) : (pollW w).heap[w.heap.size]? = some (.cells #[.slice none 0 0, .int .i64 0] 66 (0, 0)) := (Below.heap_alloc _ _ _ (by simp)).trans (heap_alloc_new w _)
theorem pollW_e (w : World) : (pollW w).heap[w.heap.size + 1]? = some (.cells #[.int .i64 0, .int .i64 0, .int .i64 0, .bool false] 51 (0, 0)) := by
  have := heap_alloc_new (w.alloc (.cells #[.slice none 0 0, .int .i64 0] 66)) (.cells #[.int .i64 0, .int .i64 0, .int .i64 0, .bool false] 51)
  have e : (w.alloc (.cells #[.slice none 0 0, .int .i64 0] 66)).heap.size = w.heap.size + 1 := by simp
  rw [e] at this; exact this
theorem cells2 {w : World} {b : Nat} {x0 x1 : Value} {t : TypeId} (h : w.heap[b]? = some (.cells #[x0, x1] t (0, 0))) : w.cell? ⟨b, 0, none⟩ = some x0 ∧ w.cell? ⟨b, 1, none⟩ = some x1 ∧ w.frozen? ⟨b, 0, none⟩ = false ∧ w.frozen? ⟨b, 1, none⟩ = false := by simp [World.cell?, World.frozen?, h]
theorem cells4 {w : World} {b : Nat} {x0 x1 x2 x3 : Value} {t : TypeId} (h : w.heap[b]? = some (.cells #[x0, x1, x2, x3] t (0, 0))) : (w.cell? ⟨b, 0, none⟩ = some x0 ∧ w.cell? ⟨b, 1, none⟩ = some x1 ∧ w.cell? ⟨b, 2, none⟩ = some x2 ∧ w.cell? ⟨b, 3, none⟩ = some x3) ∧ w.frozen? ⟨b, 0, none⟩ = false ∧ w.frozen? ⟨b, 1, none⟩ = false ∧ w.frozen? ⟨b, 2, none⟩ = false ∧ w.frozen? ⟨b, 3, none⟩ = false := by simp [World.cell?, World.frozen?, h]

/-- the end: only the wrapper's own two blocks were written since the call -/
theorem poll_fin {w w1 w2 w3 : World} {F : Nat → Prop} {xb : Nat} {S' : St} (HP : ProgAt w1 (Foot F (pollW w) w1) xb S') (HK : Kept F (pollW w) w1) (hb : Below w1.heap.size w1 w2) (hF : ∀ k, F k → k < w.heap.size)
    (hk : Kept (fun k => k = w.heap.size ∨ k = w.heap.size + 1) w2 w3) : ProgAt w3 (Foot F w w3) xb S' ∧ Kept F w w3 := by
  have hz1 : w.heap.size + 2 ≤ w1.heap.size := by rw [← pollW_size]; exact HK.size
  have hz2 := hb.size
  have hz3 := hk.size
  refine ⟨(HP.same (fun k hk' hlt => ?_) (by omega)).wid (fun k hk' => ?_) (Foot.lt hF (by omega)), ?_⟩
  · have hne : k ≠ w.heap.size ∧ k ≠ w.heap.size + 1 := by
      rcases hk' with h | h
      · have := hF k h; omega
      · have h1 := h.1; rw [pollW_size] at h1; omega
    exact (hk.block k (by omega) (fun e => e.elim hne.1 hne.2)).trans (hb.block k hlt)
  · rcases hk' with h | h
    · exact Or.inl h
    · have h1 := h.1; rw [pollW_size] at h1; exact Or.inr ⟨by omega, by omega⟩
  · have k1 : Kept F w w2 := ((Kept.refl F w).below (pollW_below w) |>.then HK).below hb
    refine ⟨hk.os.trans k1.os, hk.tape.trans k1.tape, hk.output.trans k1.output, by omega, fun k hkl hn => ?_⟩
    exact (hk.block k (by omega) (fun e => by omega)).trans (k1.block k hkl hn)

set_option maxHeartbeats 400000 in
set_option maxRecDepth 1000000 in
theorem plain_poll (S : St) (F : Nat → Prop) (xb : Nat) (num : Int) (w : World) (h : ProgAt w F xb S) (hg : GCell w) (h0 : ¬ F 0) (hw : (Lit.int .i64 num).wf = true) :
    Calls Tryz.prog 25 #[.pointer (some ⟨xb, 0, none⟩), .int .i64 num] w fun e w' => e = .returned (.tuple #[.agg #[.slice none 0 0, .int .i64 0], .agg #[.int .i64 (pollErr S num).1, .int .i64 (pollErr S num).2.1, .int .i64 (pollErr S num).2.2, .bool true]]) ∧ ProgAt w' (Foot F w w') xb (pollM S num).2.2.2 ∧ Kept F w w' := by
  have H : Hid (ProgAt w F xb S) := h
  have HF : Hid (∀ k, F k → k < w.heap.size) := h.lt
  have HG : Hid (GCell w) := hg
  have HW := hide hw
  clear h hg hw
  generalize hA : pollErr S num = r
  obtain ⟨k, n, t⟩ := r
  have HA : Hid (pollErr S num = (k, n, t)) := hA
  clear hA
  generalize hS : (pollM S num).2.2.2 = S'
  have HS : Hid ((pollM S num).2.2.2 = S') := hS
  clear hS
  go_enter Tryz.func25, Tryz.ntmps25
  go_wp2_with fail
  refine (prog_poll S F xb num (pollW w) (H.out.same (fun k _ hk => (pollW_below w).block k hk) (pollW_below w).size) HW.out).mono ?_
  rintro e w1 ⟨⟨ev, rfl, hE⟩, hP, hK⟩
  rw [HA.out] at hE
  rw [HS.out] at hP
  have hz1 : w.heap.size + 2 ≤ w1.heap.size := by rw [← pollW_size]; exact hK.size
  have hA1 : w1.heap[w.heap.size]? = some (.cells #[.slice none 0 0, .int .i64 0] 66 (0, 0)) := (hK.block w.heap.size (by rw [pollW_size]; omega) (fun e => by have := HF.out _ e; omega)).trans (pollW_a w)
  have hE1 : w1.heap[w.heap.size + 1]? = some (.cells #[.int .i64 0, .int .i64 0, .int .i64 0, .bool false] 51 (0, 0)) := (hK.block (w.heap.size + 1) (by rw [pollW_size]; omega) (fun e => by have := HF.out _ e; omega)).trans (pollW_e w)
  have hg1 : GCell w1 := (HG.out.below (pollW_below w)).kept hK h0
  have HP := hide hP
  have HK := hide hK
  have HE := hide hE
  have HG1 := hide hg1
  clear hP hK hE hg1
  have hz0 : w.heap.size < w1.heap.size := by omega
  have hz01 : w.heap.size + 1 < w1.heap.size := by omega
  have HA1 := hide hA1
  have HE1 := hide hE1
  obtain ⟨x0, x1, x2, x3⟩ := cells2 hA1
  obtain ⟨⟨y0, y1, y2, y3⟩, y4, y5, y6, y7⟩ := cells4 hE1
  clear hA1 hE1
  have hT : Calls Tryz.prog 35 #[ev] ((w1.alloc (.cells #[.slice none 0 0, .int .i64 0] 66)).drew) fun e w2 => e = .returned (.agg #[.int .i64 k, .int .i64 n, .int .i64 t, .bool true]) ∧ w2.heap[w.heap.size]? = some (.cells #[.slice none 0 0, .int .i64 0] 66 (0, 0)) ∧ w2.heap[w.heap.size + 1]? = some (.cells #[.int .i64 0, .int .i64 0, .int .i64 0, .bool false] 51 (0, 0)) ∧ w2.heap[w1.heap.size]? = some (.cells #[.slice none 0 0, .int .i64 0] 66 (0, 0)) ∧ Below w1.heap.size w1 w2 := by
    refine (told_is (k := k) (r := n) (t := t) (w := (w1.alloc (.cells #[.slice none 0 0, .int .i64 0] 66)).drew) (HE.out.same (fun b hb => Below.heap_alloc w1 _ b hb)) (HG1.out.below ((alloc_below w1 _).drew))).mono ?_
    rintro e w2 ⟨rfl, hb⟩
    have hl : ∀ j, j < w1.heap.size + 1 → w2.heap[j]? = (w1.alloc (.cells #[.slice none 0 0, .int .i64 0] 66)).heap[j]? := fun j hj => hb.block j (by show j < (w1.alloc _).heap.size; simpa using hj)
    have hl' : ∀ j, j < w1.heap.size → w2.heap[j]? = w1.heap[j]? := fun j hj => (hl j (by omega)).trans (Below.heap_alloc _ _ _ hj)
    exact ⟨rfl, (hl' _ hz0).trans HA1.out, (hl' _ hz01).trans HE1.out, (hl _ (by omega)).trans (heap_alloc_new w1 _), ((alloc_below w1 (.cells #[.slice none 0 0, .int .i64 0] 66)).drew).trans (hb.mono (by show _ ≤ (w1.alloc _).heap.size; simp))⟩
  have HT := hide hT
  clear hT
  go_wp2
  go_region_with (go_at_call 35; refine HT.out.mono ?_; rintro e w2 ⟨rfl, h1, h2, h3, hb⟩; obtain ⟨z0, z1, z2, z3⟩ := cells2 h1; obtain ⟨⟨v0, v1, v2, v3⟩, v4, v5, v6, v7⟩ := cells4 h2; obtain ⟨r0, r1, r2, r3⟩ := cells2 h3; have HB := hide hb; clear hb h1 h2 h3)
  all_goals go_wp2
  all_goals have hk6 : Kept (fun k => k = w.heap.size ∨ k = w.heap.size + 1) w2 ((((((w2.setCell ⟨w.heap.size, 0, none⟩ (.slice none 0 0)).setCell ⟨w.heap.size, 1, none⟩ (.int .i64 0)).setCell ⟨w.heap.size + 1, 0, none⟩ (.int .i64 k)).setCell ⟨w.heap.size + 1, 1, none⟩ (.int .i64 n)).setCell ⟨w.heap.size + 1, 2, none⟩ (.int .i64 t)).setCell ⟨w.heap.size + 1, 3, none⟩ (.bool true)) := ((((((Kept.refl _ w2).setCell (p := ⟨w.heap.size, 0, none⟩) (Or.inl (Or.inl rfl)) _).setCell (p := ⟨w.heap.size, 1, none⟩) (Or.inl (Or.inl rfl)) _).setCell (p := ⟨w.heap.size + 1, 0, none⟩) (Or.inl (Or.inr rfl)) _).setCell (p := ⟨w.heap.size + 1, 1, none⟩) (Or.inl (Or.inr rfl)) _).setCell (p := ⟨w.heap.size + 1, 2, none⟩) (Or.inl (Or.inr rfl)) _).setCell (p := ⟨w.heap.size + 1, 3, none⟩) (Or.inl (Or.inr rfl)) _
  all_goals exact bodyPost_ret (v := .tuple #[.agg #[.slice none 0 0, .int .i64 0], .agg #[.int .i64 k, .int .i64 n, .int .i64 t, .bool true]]) (by simp [results, Tryz.results25, go_sem, z0, z1, v0, v1, v2, v3]) rfl ⟨rfl, poll_fin HP.out HK.out HB.out HF.out hk6⟩
end Go.Proofs.YtgepgklgemndeaaGreatDoor
