/- The law: asked (Read). Own work of the verifier. -/
import Derived.Test.YtiabdbeejkadnaaGreatDoorPairB
namespace Go.Proofs.YtiabdbeejkadnaaGreatDoor
open Go.RowKit Go.Maps

theorem askM_last (S : St) (wr : Bool) (p : Int) (d : ByteArray) : (askM S wr p d).2.2.last ≤ S.last + 1 ∧ (askM S wr p d).2.2.now = S.now := by
  unfold askM
  split
  · exact ⟨by show S.last ≤ _; omega, rfl⟩
  · split
    · exact ⟨by show S.last ≤ _; omega, rfl⟩
    · split
      · exact ⟨by show S.last ≤ _; omega, rfl⟩
      · exact ⟨by show S.last + 1 ≤ _; omega, rfl⟩
/-- an Op, as a value -/
def opV (k a b c : Int) (s : ByteArray) : Value := .agg #[.int .i64 k, .int .i64 a, .int .i64 b, .int .i64 c, .string s]

/-- the world with asked's two arguments laid down -/
def askW (x m : Nat) (k a b c : Int) (s : ByteArray) (w : World) : World := (w.alloc (.cells #[.pointer (some ⟨x, 0, none⟩), .pointer (some ⟨m, 0, none⟩)] 99)).alloc (.cells #[.int .i64 k, .int .i64 a, .int .i64 b, .int .i64 c, .string s] 52)
section
variable (x m : Nat) (k a b c : Int) (s : ByteArray) (w : World)
theorem askW_size : (askW x m k a b c s w).heap.size = w.heap.size + 2 := by simp [askW]
theorem askW_below : Below w.heap.size w (askW x m k a b c s w) := (alloc_below _ _).trans ((alloc_below _ _).mono (by simp))
theorem askW_p : (askW x m k a b c s w).heap[w.heap.size]? = some (.cells #[.pointer (some ⟨x, 0, none⟩), .pointer (some ⟨m, 0, none⟩)] 99 (0, 0)) := (Below.heap_alloc _ _ _ (by simp)).trans (heap_alloc_new w _)
theorem askW_o : (askW x m k a b c s w).heap[w.heap.size + 1]? = some (.cells #[.int .i64 k, .int .i64 a, .int .i64 b, .int .i64 c, .string s] 52 (0, 0)) := by
  have := heap_alloc_new (w.alloc (.cells #[.pointer (some ⟨x, 0, none⟩), .pointer (some ⟨m, 0, none⟩)] 99)) (.cells #[.int .i64 k, .int .i64 a, .int .i64 b, .int .i64 c, .string s] 52)
  simp only [World.size_alloc] at this
  exact this
end
theorem cells5 {w : World} {b : Nat} {x0 x1 x2 x3 x4 : Value} {t : TypeId} (h : w.heap[b]? = some (.cells #[x0, x1, x2, x3, x4] t (0, 0))) : w.cell? ⟨b, 0, none⟩ = some x0 ∧ w.cell? ⟨b, 1, none⟩ = some x1 ∧ w.cell? ⟨b, 2, none⟩ = some x2 ∧ w.cell? ⟨b, 3, none⟩ = some x3 ∧ w.cell? ⟨b, 4, none⟩ = some x4 := by simp [World.cell?, h]

set_option maxHeartbeats 1000000 in
set_option maxRecDepth 1000000 in
theorem law_asked_read (S : St) (F : Nat → Prop) (x m : Nat) (a b c : Int) (s : ByteArray) (w : World) (h : PairAt w F x m S) (hg : GCell w) (h0 : ¬ F 0) (hl : S.last ≤ 1000000) :
    Calls Tryz.prog 42 #[.agg #[.pointer (some ⟨x, 0, none⟩), .pointer (some ⟨m, 0, none⟩)], opV 2 a b c s] w fun e w' => Does w F x m S e w' := by
  unfold opV
  have hwf := h.wf
  obtain ⟨Fx, Fm, hP, hM, hd, hF⟩ := h
  have h0x : ¬ Fx 0 := fun e => h0 ((hF 0).2 (Or.inl e))
  have hPl := hP.lt
  have HM := hide hM
  have HD := hide hd
  have HF := hide hF
  have HG := hide hg
  have HPl := hide hPl
  have hnx : ¬ Fx w.heap.size := fun e => by have := hPl _ e; omega
  have hnx2 : ¬ Fx (w.heap.size + 1) := fun e => by have := hPl _ e; omega
  have HP := hide hP
  clear hM hd hF hg hPl hP
  have hla := hide (askM_last S false b ⟨#[]⟩)
  generalize hA : askM S false b ⟨#[]⟩ = r at *
  obtain ⟨n, k, S'⟩ := r
  have HA : Hid (askM S false b ⟨#[]⟩ = (n, k, S')) := hA
  clear hA
  go_enter Tryz.func42, Tryz.ntmps42
  go_wp2_with fail
  have hb0 := hide (askW_below x m 2 a b c s w)
  refine (plain_read S Fx x b (askW x m 2 a b c s w) (HP.out.below hb0.out) (HG.out.below hb0.out) h0x hl).mono ?_
  rintro e w1 ⟨rfl, hP1, hK1⟩
  rw [HA.out] at hP1
  rw [HA.out]
  have HP1 := hide hP1
  have HK1 := hide hK1
  have hsz := askW_size x m 2 a b c s w
  have hz1 : w.heap.size + 1 < w1.heap.size := by have := hK1.size; omega
  have hz1' : w.heap.size < w1.heap.size := by omega
  have hp := (hK1.block _ (by omega) hnx).trans (askW_p x m 2 a b c s w)
  have ho := (hK1.block _ (by omega) hnx2).trans (askW_o x m 2 a b c s w)
  obtain ⟨p0, p1, _⟩ := cells2 hp
  obtain ⟨o0, o1, o2, o3, o4⟩ := cells5 ho
  clear hP1 hK1 hp ho
  have hb1 := alloc_below w1 (.cells #[.int .i64 k, .int .i64 (-1), .int .i64 0, .bool true] 57)
  have hM1 := hide (pair_mid HM.out HD.out hb0.out HK1.out hb1)
  have hnm : ¬ Fm w1.heap.size := fun e => by have := HM.out.lt _ e; omega
  clear hb1
  go_wp2_with fail
  refine (ref_ask S Fm m false b ⟨#[]⟩ _ hM1.out (by have := hwf.toldLen; have := hwf.reqsLen; omega) (by have := hwf.reqsLen; omega) hwf.last hl).mono ?_
  rintro e w2 ⟨rfl, hM2, hK2⟩
  rw [HA.out] at hM2
  rw [HA.out]
  have HM2 := hide hM2
  have HK2 := hide hK2
  have hz2 : w1.heap.size < w2.heap.size := by have := hK2.size; simp at this; omega
  have q : w2.heap[w1.heap.size]? = some (.cells #[.int .i64 k, .int .i64 (-1), .int .i64 0, .bool true] 57 (0, 0)) := (hK2.block _ (by simp) hnm).trans (heap_alloc_new w1 _)
  obtain ⟨⟨q0, q1, q2, q3⟩, _⟩ := cells4 q
  clear hM2 hK2 q
  have fin : Hid (∀ w3, Below w2.heap.size w2 w3 → Does w F x m S (.returned (.bool true)) w3) := fun w3 hb3 => by
    obtain ⟨r1, r2⟩ := pair_fin HM.out HPl.out HD.out HF.out hb0.out HP1.out HK1.out (alloc_below w1 (.cells #[.int .i64 k, .int .i64 (-1), .int .i64 0, .bool true] 57)) HM2.out HK2.out hb3
    exact ⟨rfl, S', r1, hla.out.1, hla.out.2, r2⟩
  have hnn : (n == n) = true := by simp
  go_wp2_with fail
  refine (law_none k _).mono ?_
  rintro e w3 ⟨rfl, hb3⟩
  have HB3 := hide hb3
  clear hb3
  go_wp2
  go_ret
  exact fin.out _ HB3.out
end Go.Proofs.YtiabdbeejkadnaaGreatDoor
