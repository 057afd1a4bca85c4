/- The program's queue (stage 2's code): plain.Poll. Own work of the verifier. -/
import Derived.Test.YtiabdbeejkadnaaGreatDoorPG
import Derived.Deep.RegionWith
namespace Go.Proofs.YtiabdbeejkadnaaGreatDoor
open Go.RowKit Go.Maps

/-- the world of plain.Poll at its first call -/
def pollW (w : World) : World := (w.alloc (.cells #[.slice none 0 0, .int .i64 0] 88)).alloc (.cells #[.int .i64 0, .int .i64 0, .int .i64 0, .bool false] 57)
theorem pollW_below (w : World) : Below w.heap.size w (pollW w) := (alloc_below _ _).trans ((alloc_below _ _).mono (by simp))
theorem pollW_size (w : World) : (pollW w).heap.size = w.heap.size + 2 := by simp [pollW]
theorem pollW_a (w : World) : (pollW w).heap[w.heap.size]? = some (.cells #[.slice none 0 0, .int .i64 0] 88 (0, 0)) := (Below.heap_alloc _ _ _ (by simp)).trans (heap_alloc_new w _)
theorem pollW_e (w : World) : (pollW w).heap[w.heap.size + 1]? = some (.cells #[.int .i64 0, .int .i64 0, .int .i64 0, .bool false] 57 (0, 0)) := by
  have := heap_alloc_new (w.alloc (.cells #[.slice none 0 0, .int .i64 0] 88)) (.cells #[.int .i64 0, .int .i64 0, .int .i64 0, .bool false] 57)
  have e : (w.alloc (.cells #[.slice none 0 0, .int .i64 0] 88)).heap.size = w.heap.size + 1 := by simp
  rw [e] at this; exact this
/-- what plain.Poll's error is -/
def plainErr (S : St) (num : Int) : Int × Int × Int := if (pollM S num).2.2.1 = 0 then (0, -1, 0) else pollErr S num
/-- what plain.Poll's answer is -/
def PlainAns (w w' : World) (r : ByteArray × Int × Int × St) (ao : Option Addr) (n cap : Nat) (t : Int) : Prop :=
  (r.2.2.1 ≠ 0 ∧ ao = none ∧ n = 0 ∧ cap = 0 ∧ t = 0) ∨ (r.2.2.1 = 0 ∧ t = r.2.1 ∧ n = r.1.size ∧ n ≤ 4 ∧ Row w' (fun k => w.heap.size ≤ k) 5 1 ao n cap (encB r.1.data.toList))
theorem PollEnd.plain {S : St} {num : Int} {w w1 : World} {e : Ending} (h : PollEnd S num w e w1) : ∃ ao n cap t ev, e = .returned (.tuple #[.agg #[.slice ao n cap, .int .i64 t], ev]) ∧ ErrIs w1 ev (plainErr S num).1 (plainErr S num).2.1 (plainErr S num).2.2 ∧ PlainAns w w1 (pollM S num) ao n cap t := by
  obtain ⟨av, ev, rfl, ⟨h1, rfl, h2⟩ | ⟨h1, rfl, ao, n, cap, rfl, h2, h3, h4⟩⟩ := h
  · refine ⟨none, 0, 0, 0, ev, rfl, ?_, Or.inl ⟨h1, rfl, rfl, rfl, rfl⟩⟩
    unfold plainErr; rw [if_neg h1]; exact h2
  · refine ⟨ao, n, cap, _, .nilIface, rfl, ?_, Or.inr ⟨h1, rfl, h2, h3, h4⟩⟩
    unfold plainErr; rw [if_pos h1]; exact Or.inl ⟨rfl, rfl, errOf_zero.symm⟩
/-- the end: only the wrapper's own two blocks were written since the call -/
theorem poll_fin {w w1 w2 w3 : World} {F : Nat → Prop} {xb : Nat} {S' : St} {r : ByteArray × Int × Int × St} {ao : Option Addr} {n cap : Nat} {t : Int} (HP : ProgAt w1 F xb S') (HK : Kept F (pollW w) w1) (HA : PlainAns (pollW w) w1 r ao n cap t) (hb : Below w1.heap.size w1 w2) (hF : ∀ k, F k → k < w.heap.size)
    (hk : Kept (fun k => k = w.heap.size ∨ k = w.heap.size + 1) w2 w3) : PlainAns w w3 r ao n cap t ∧ ProgAt w3 F xb S' ∧ Kept F w w3 := by
  have hz1 : w.heap.size + 2 ≤ w1.heap.size := by rw [← pollW_size]; exact HK.size
  have hz2 := hb.size
  have hz3 := hk.size
  have hsame : ∀ k, k < w1.heap.size → k ≠ w.heap.size → k ≠ w.heap.size + 1 → w3.heap[k]? = w1.heap[k]? := fun k hlt h1 h2 => (hk.block k (by omega) (fun e => e.elim h1 h2)).trans (hb.block k hlt)
  refine ⟨?_, HP.same (fun k hk' hlt => hsame k hlt (by have := hF k hk'; omega) (by have := hF k hk'; omega)) (by omega), ?_⟩
  · rcases HA with h | ⟨h1, h2, h3, h4, h5⟩
    · exact Or.inl h
    · refine Or.inr ⟨h1, h2, h3, h4, (h5.same fun a ha => ?_).mono (fun k hk => ?_)⟩
      · obtain ⟨cur, hh, _⟩ := h5.block ha
        have := h5.2 a ha
        rw [pollW_size] at this
        exact hsame _ (lt_of_heap hh) (by omega) (by omega)
      · rw [pollW_size] at hk; omega
  · have k1 : Kept F w w2 := ((Kept.refl F w).below (pollW_below w) |>.then HK).below hb
    refine ⟨hk.os.trans k1.os, hk.tape.trans k1.tape, hk.output.trans k1.output, by omega, fun k hkl hn => ?_⟩
    exact (hk.block k (by omega) (fun e => by omega)).trans (k1.block k hkl hn)

set_option maxHeartbeats 1000000 in
set_option maxRecDepth 1000000 in
theorem plain_poll (S : St) (F : Nat → Prop) (xb : Nat) (num : Int) (w : World) (h : ProgAt w F xb S) (hg : GCell w) (h0 : ¬ F 0) (hw : (Lit.int .i64 num).wf = true) :
    Calls Tryz.prog 37 #[.pointer (some ⟨xb, 0, none⟩), .int .i64 num] w fun e w' => ∃ ao n cap t, e = .returned (.tuple #[.agg #[.slice ao n cap, .int .i64 t], .agg #[.int .i64 (plainErr S num).1, .int .i64 (plainErr S num).2.1, .int .i64 (plainErr S num).2.2, .bool true]]) ∧ PlainAns w w' (pollM S num) ao n cap t ∧ ProgAt w' F xb (pollM S num).2.2.2 ∧ Kept F w w' := by
  have H : Hid (ProgAt w F xb S) := h
  have HF : Hid (∀ k, F k → k < w.heap.size) := h.lt
  have HG : Hid (GCell w) := hg
  have HW := hide hw
  clear h hg hw
  generalize hA : plainErr S num = r
  obtain ⟨k, n, t⟩ := r
  have HA : Hid (plainErr S num = (k, n, t)) := hA
  clear hA
  go_enter Tryz.func37, Tryz.ntmps37
  go_wp2_with fail
  refine (prog_poll S F xb num (pollW w) (H.out.same (fun k _ hk => (pollW_below w).block k hk) (pollW_below w).size) HW.out).mono ?_
  rintro e w1 ⟨hPE, hP, hK⟩
  obtain ⟨ao, m, cap, tt, ev, rfl, hE, hPA⟩ := hPE.plain
  rw [HA.out] at hE
  have HPA := hide hPA
  clear hPE hPA
  have hz1 : w.heap.size + 2 ≤ w1.heap.size := by rw [← pollW_size]; exact hK.size
  have hA1 : w1.heap[w.heap.size]? = some (.cells #[.slice none 0 0, .int .i64 0] 88 (0, 0)) := (hK.block w.heap.size (by rw [pollW_size]; omega) (fun e => by have := HF.out _ e; omega)).trans (pollW_a w)
  have hE1 : w1.heap[w.heap.size + 1]? = some (.cells #[.int .i64 0, .int .i64 0, .int .i64 0, .bool false] 57 (0, 0)) := (hK.block (w.heap.size + 1) (by rw [pollW_size]; omega) (fun e => by have := HF.out _ e; omega)).trans (pollW_e w)
  have hg1 : GCell w1 := (HG.out.below (pollW_below w)).kept hK h0
  have HP := hide hP
  have HK := hide hK
  have HE := hide hE
  have HG1 := hide hg1
  clear hP hK hE hg1
  have hz0 : w.heap.size < w1.heap.size := by omega
  have hz01 : w.heap.size + 1 < w1.heap.size := by omega
  have HA1 := hide hA1
  have HE1 := hide hE1
  obtain ⟨x0, x1, x2, x3⟩ := cells2 hA1
  obtain ⟨⟨y0, y1, y2, y3⟩, y4, y5, y6, y7⟩ := cells4 hE1
  clear hA1 hE1
  have hT : Calls Tryz.prog 51 #[ev] ((w1.alloc (.cells #[.slice ao m cap, .int .i64 tt] 88)).drew) fun e w2 => e = .returned (.agg #[.int .i64 k, .int .i64 n, .int .i64 t, .bool true]) ∧ w2.heap[w.heap.size]? = some (.cells #[.slice none 0 0, .int .i64 0] 88 (0, 0)) ∧ w2.heap[w.heap.size + 1]? = some (.cells #[.int .i64 0, .int .i64 0, .int .i64 0, .bool false] 57 (0, 0)) ∧ w2.heap[w1.heap.size]? = some (.cells #[.slice ao m cap, .int .i64 tt] 88 (0, 0)) ∧ Below w1.heap.size w1 w2 := by
    refine (told_is (k := k) (r := n) (t := t) (w := (w1.alloc (.cells #[.slice ao m cap, .int .i64 tt] 88)).drew) (HE.out.same (fun b hb => Below.heap_alloc w1 _ b hb)) (HG1.out.below ((alloc_below w1 _).drew))).mono ?_
    rintro e w2 ⟨rfl, hb⟩
    have hl : ∀ j, j < w1.heap.size + 1 → w2.heap[j]? = (w1.alloc (.cells #[.slice ao m cap, .int .i64 tt] 88)).heap[j]? := fun j hj => hb.block j (by show j < (w1.alloc _).heap.size; simpa using hj)
    have hl' : ∀ j, j < w1.heap.size → w2.heap[j]? = w1.heap[j]? := fun j hj => (hl j (by omega)).trans (Below.heap_alloc _ _ _ hj)
    exact ⟨rfl, (hl' _ hz0).trans HA1.out, (hl' _ hz01).trans HE1.out, (hl _ (by omega)).trans (heap_alloc_new w1 _), ((alloc_below w1 (.cells #[.slice ao m cap, .int .i64 tt] 88)).drew).trans (hb.mono (by show _ ≤ (w1.alloc _).heap.size; simp))⟩
  have HT := hide hT
  clear hT
  go_wp2
  go_region_with (go_at_call 51; refine HT.out.mono ?_; rintro e w2 ⟨rfl, h1, h2, h3, hb⟩; obtain ⟨z0, z1, z2, z3⟩ := cells2 h1; obtain ⟨⟨v0, v1, v2, v3⟩, v4, v5, v6, v7⟩ := cells4 h2; obtain ⟨r0, r1, r2, r3⟩ := cells2 h3; have HB := hide hb; clear hb h1 h2 h3)
  all_goals go_wp2
  all_goals have hk6 : Kept (fun k => k = w.heap.size ∨ k = w.heap.size + 1) w2 ((((((w2.setCell ⟨w.heap.size, 0, none⟩ (.slice ao m cap)).setCell ⟨w.heap.size, 1, none⟩ (.int .i64 tt)).setCell ⟨w.heap.size + 1, 0, none⟩ (.int .i64 k)).setCell ⟨w.heap.size + 1, 1, none⟩ (.int .i64 n)).setCell ⟨w.heap.size + 1, 2, none⟩ (.int .i64 t)).setCell ⟨w.heap.size + 1, 3, none⟩ (.bool true)) := ((((((Kept.refl _ w2).setCell (p := ⟨w.heap.size, 0, none⟩) (Or.inl (Or.inl rfl)) _).setCell (p := ⟨w.heap.size, 1, none⟩) (Or.inl (Or.inl rfl)) _).setCell (p := ⟨w.heap.size + 1, 0, none⟩) (Or.inl (Or.inr rfl)) _).setCell (p := ⟨w.heap.size + 1, 1, none⟩) (Or.inl (Or.inr rfl)) _).setCell (p := ⟨w.heap.size + 1, 2, none⟩) (Or.inl (Or.inr rfl)) _).setCell (p := ⟨w.heap.size + 1, 3, none⟩) (Or.inl (Or.inr rfl)) _
  all_goals exact bodyPost_ret (v := .tuple #[.agg #[.slice ao m cap, .int .i64 tt], .agg #[.int .i64 k, .int .i64 n, .int .i64 t, .bool true]]) (by simp [results, Tryz.results37, go_sem, z0, z1, v0, v1, v2, v3]) rfl ⟨ao, m, cap, tt, rfl, poll_fin HP.out HK.out HPA.out HB.out HF.out hk6⟩
end Go.Proofs.YtiabdbeejkadnaaGreatDoor
