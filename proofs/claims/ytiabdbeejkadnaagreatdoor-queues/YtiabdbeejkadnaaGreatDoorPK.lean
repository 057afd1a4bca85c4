/- The program's queue (stage 2's code): Disk. Own work of the verifier. -/
import Derived.Test.YtiabdbeejkadnaaGreatDoorPG
import Derived.Deep.MidRow
namespace Go.Proofs.YtiabdbeejkadnaaGreatDoor
open Go.RowKit Go.Maps

theorem ix_page (cs : Array Value) (k : Nat) (hk : k < 16) (w : World) : (Instr.index 76 (.agg cs) (.int .i64 k)).run Tryz.prog w = .ok (.agg (cs.extract (k * 4) (k * 4 + 4))) w := by
  have h2 : (Go.sizeOf 75).run Tryz.prog w = .ok 4 w := Tryz.sizeOf75 w
  simp [Instr.index, run_underlying Tryz.underlying76, asIntOf, go_sem, h2]
  intro h
  omega
theorem take4 (l : List UInt8) (a : Nat) (h : a + 4 ≤ l.length) : (l.drop a).take 4 = [l.getD a 0, l.getD (a + 1) 0, l.getD (a + 2) 0, l.getD (a + 3) 0] := by
  apply List.ext_getElem
  · simp; omega
  · intro i h1 h2
    simp at h2
    rw [List.getElem_take, List.getElem_drop]
    match i, h2 with
    | 0, _ => simp [show a < l.length by omega]
    | 1, _ => simp [show a + 1 < l.length by omega]
    | 2, _ => simp [show a + 2 < l.length by omega]
    | 3, _ => simp [show a + 3 < l.length by omega]
    | i + 4, h2 => omega
theorem encB_append (l m : List UInt8) : encB (l ++ m) = encB l ++ encB m := by simp [encB]
theorem encB_u8 (l : List UInt8) : encB l = l.map u8 := rfl
theorem page_at (l : List UInt8) (k : Nat) (h : k * 4 + 4 ≤ l.length) : (encB l).toArray.extract (k * 4) (k * 4 + 4) = #[u8 (l.getD (k * 4) 0), u8 (l.getD (k * 4 + 1) 0), u8 (l.getD (k * 4 + 2) 0), u8 (l.getD (k * 4 + 3) 0)] := by
  rw [List.extract_toArray, List.extract_eq_take_drop, encB_u8, ← List.map_drop, ← List.map_take]
  have e : k * 4 + 4 - k * 4 = 4 := by omega
  rw [e, take4 l (k * 4) h]
  rfl
theorem take_page (l : List UInt8) (k : Nat) (h : k * 4 + 4 ≤ l.length) : l.take (4 * (k + 1)) = l.take (4 * k) ++ [l.getD (k * 4) 0, l.getD (k * 4 + 1) 0, l.getD (k * 4 + 2) 0, l.getD (k * 4 + 3) 0] := by
  rw [← take4 l (k * 4) h, Nat.mul_add, Nat.mul_comm k 4, List.take_add]

set_option maxHeartbeats 1000000 in
set_option maxRecDepth 1000000 in
theorem prog_disk (S : St) (F : Nat → Prop) (xb : Nat) (w : World) (h : ProgAt w F xb S) :
    Calls Tryz.prog 75 #[.pointer (some ⟨xb, 0, none⟩)] w fun e w' => ∃ ao cap, e = .returned (.slice ao 64 cap) ∧ Row w' (fun b => w.heap.size ≤ b) 5 1 ao 64 cap (encB S.disk) ∧ Below w.heap.size w w' := by
  have hdl : S.disk.length = 64 := h.wf.disk
  obtain ⟨bm, D, eb, c, af, cf, vs, h⟩ := h
  obtain ⟨i0, hi, hi0, hi1, hi2⟩ := info_parts info_byte
  have HR : Hid (w.rangeAt xb 6 (encB S.disk)) := by
    intro j v hv
    have hj : j < 64 := by
      have e1 := (List.getElem?_eq_some_iff.1 hv).1
      simp [encB] at e1; omega
    have := h.cell (6 + j) _ (h.q.cd j hj)
    rw [encB_u8, List.getElem?_map, List.getElem?_eq_getElem (by omega)] at hv
    simp at hv
    rw [← hv]
    rw [List.getD_eq_getElem?_getD, List.getElem?_eq_getElem (by omega)] at this
    exact this
  clear h
  have HDL := hide hdl
  generalize S.disk = dk at *
  clear hdl
  go_enter Tryz.func75, Tryz.ntmps75
  go_wp2_with fail
  refine (orEmpty_some _ _).mono ?_
  rintro e w1 ⟨rfl, hw1⟩
  have hw2 := hw1.symm
  subst hw2
  clear hw1
  go_wp2_with (first | (refine wpList_load_mid rfl 76 _ rfl xb 6 rfl (encB dk) _ HR.out Tryz.underlying76 rfl (by rw [encB_u8, List.length_map, HDL.out]; kernel_rfl) ?_) | fail)
  go_loopw [3, 11] (fun l i wr => ∃ (k cap : Nat) (ao : Option Addr), k ≤ 16 ∧ i = .int .i64 k ∧ l = .slice ao (4 * k) cap ∧ Hid (Row wr (fun b => w.heap.size ≤ b) 5 1 ao (4 * k) cap (encB (dk.take (4 * k)))) ∧ Hid (Below w.heap.size w wr)) (fun _ i _ => 16 - (intOf i).toNat)
  case atStart => exact ⟨0, 0, none, Nat.zero_le _, rfl, rfl, Row.nil _ _ _ _, Below.refl _ _⟩
  case round =>
    obtain ⟨k, cap, ao, hk, rfl, rfl, hrow, hb⟩ := hrel
    by_cases hlt : k < 16
    · have hkl : k * 4 + 4 ≤ dk.length := by rw [HDL.out]; omega
      have HT := hide (take_page dk k hkl)
      have hik : ∀ W, (Instr.index 76 (.agg (encB dk).toArray) (.int .i64 k)).run Tryz.prog W = .ok (.agg #[u8 (dk.getD (k * 4) 0), u8 (dk.getD (k * 4 + 1) 0), u8 (dk.getD (k * 4 + 2) 0), u8 (dk.getD (k * 4 + 3) 0)]) W := fun W => by rw [ix_page _ k hlt W, page_at dk k hkl]
      have HV : Hid ([u8 (dk.getD (k * 4) 0), u8 (dk.getD (k * 4 + 1) 0), u8 (dk.getD (k * 4 + 2) 0), u8 (dk.getD (k * 4 + 3) 0)] = encB [dk.getD (k * 4) 0, dk.getD (k * 4 + 1) 0, dk.getD (k * 4 + 2) 0, dk.getD (k * 4 + 3) 0]) := rfl
      have H1 : Hid (∀ u ∈ [u8 (dk.getD (k * 4) 0), u8 (dk.getD (k * 4 + 1) 0), u8 (dk.getD (k * 4 + 2) 0), u8 (dk.getD (k * 4 + 3) 0)], u.oneCell' = true) := by intro u hu; simp at hu; rcases hu with rfl | rfl | rfl | rfl <;> rfl
      have e3 : Hid (∀ j, ∃ b, u8 (dk.getD j 0) = .int .u8 b) := fun j => ⟨_, rfl⟩
      obtain ⟨v0, hv0⟩ := e3.out (k * 4)
      obtain ⟨v1, hv1⟩ := e3.out (k * 4 + 1)
      obtain ⟨v2, hv2⟩ := e3.out (k * 4 + 2)
      obtain ⟨v3, hv3⟩ := e3.out (k * 4 + 3)
      rw [hv0, hv1, hv2, hv3] at hik HV H1
      clear hv0 hv1 hv2 hv3 e3
      have HO : Hid ((wr.alloc (.cells #[.int .u8 v0, .int .u8 v1, .int .u8 v2, .int .u8 v3] 75)).ownsRow 0 5 1 (.slice ao (4 * k) cap) (4 * k) (encB (dk.take (4 * k)))) := (hrow.out.alloc _).1
      have HW : Hid (∀ (t : Nat) (u : Value), [Value.int .u8 v0, .int .u8 v1, .int .u8 v2, .int .u8 v3][t]? = some u → (wr.alloc (.cells #[.int .u8 v0, .int .u8 v1, .int .u8 v2, .int .u8 v3] 75)).cell? ((⟨wr.heap.size, 0, none⟩ : Addr).add t) = some u) := fun t u => news_new t u
      go_wp2_with (at_builtin; go_must (refine wpList_append_lies _ rfl (.tmp 14) (.tmp 15) 86 rfl 0 5 i0 (.int .u8 0) 1 1 Tryz.underlying86 hi hi0 hi1 hi2 rfl (by decide) (.slice ao (4 * k) cap) (4 * k) (encB (dk.take (4 * k))) rfl HO.out ⟨wr.heap.size, 0, none⟩ 4 4 [Value.int .u8 v0, .int .u8 v1, .int .u8 v2, .int .u8 v3] rfl rfl HW.out H1.out (by decide) (by unfold maxLen; omega) (by omega) (Nat.zero_le _) (wr.heap.size + 1) (by simp) ?_; intro g cap' w2 hown hgrow hat hlt3; have HX := hide (own_rel hb.out hrow.out hgrow hown hat); clear hown hgrow hat hlt3))
      go_roundw
      case rel => exact ⟨k + 1, cap', some ⟨g, 0, none⟩, by omega, by go_num, by rw [Nat.mul_add], by have := HX.out.2; rw [HV.out, ← encB_append, ← HT.out] at this; exact this, HX.out.1⟩
      case measure => simp [intOf]; omega
    · have HE : Hid (k = 16) := by show k = 16; omega
      go_wp2
      go_ret
      refine ⟨ao, cap, ?_, ?_, hb.out⟩
      · rw [HE.out]; rfl
      · have := hrow.out
        rw [HE.out, List.take_of_length_le (by rw [HDL.out]; omega)] at this
        exact this
end Go.Proofs.YtiabdbeejkadnaaGreatDoor
