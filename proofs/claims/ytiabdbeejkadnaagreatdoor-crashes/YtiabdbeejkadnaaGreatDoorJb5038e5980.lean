import Derived.Test.YtiabdbeejkadnaaGreatDoorJceb2e3f2dc
import Derived.Lib.BufferWrite
import Derived.Deep.RegionHeld3
import Derived.Deep.Cut
/- The law: asked (Read). Own work of the verifier. -/
namespace Go.Proofs.YtiabdbeejkadnaaGreatDoor
open Go.RowKit Go.Maps

theorem askM_last (S : St) (wr : Bool) (p : Int) (d : ByteArray) : (askM S wr p d).2.2.last ≤ S.last + 1 ∧ (askM S wr p d).2.2.now = S.now := by
  unfold askM
  split
  · exact ⟨by show S.last ≤ _; omega, rfl⟩
  · split
    · exact ⟨by show S.last ≤ _; omega, rfl⟩
    · split
      · exact ⟨by show S.last ≤ _; omega, rfl⟩
      · exact ⟨by show S.last + 1 ≤ _; omega, rfl⟩
/-- an Op, as a value -/
def opV (k a b c : Int) (s : ByteArray) : Value := .agg #[.int .i64 k, .int .i64 a, .int .i64 b, .int .i64 c, .string s]

/-- the world with asked's two arguments laid down -/
def askW (x m : Nat) (k a b c : Int) (s : ByteArray) (w : World) : World := (w.alloc (.cells #[.pointer (some ⟨x, 0, none⟩), .pointer (some ⟨m, 0, none⟩)] 99)).alloc (.cells #[.int .i64 k, .int .i64 a, .int .i64 b, .int .i64 c, .string s] 52)
section
variable (x m : Nat) (k a b c : Int) (s : ByteArray) (w : World)
theorem askW_size : (askW x m k a b c s w).heap.size = w.heap.size + 2 := by simp [askW]
theorem askW_below : Below w.heap.size w (askW x m k a b c s w) := (alloc_below _ _).trans ((alloc_below _ _).mono (by simp))
theorem askW_p : (askW x m k a b c s w).heap[w.heap.size]? = some (.cells #[.pointer (some ⟨x, 0, none⟩), .pointer (some ⟨m, 0, none⟩)] 99 (0, 0)) := (Below.heap_alloc _ _ _ (by simp)).trans (heap_alloc_new w _)
theorem askW_o : (askW x m k a b c s w).heap[w.heap.size + 1]? = some (.cells #[.int .i64 k, .int .i64 a, .int .i64 b, .int .i64 c, .string s] 52 (0, 0)) := by
  have := heap_alloc_new (w.alloc (.cells #[.pointer (some ⟨x, 0, none⟩), .pointer (some ⟨m, 0, none⟩)] 99)) (.cells #[.int .i64 k, .int .i64 a, .int .i64 b, .int .i64 c, .string s] 52)
  simp only [World.size_alloc] at this
  exact this
end
theorem cells5 {w : World} {b : Nat} {x0 x1 x2 x3 x4 : Value} {t : TypeId} (h : w.heap[b]? = some (.cells #[x0, x1, x2, x3, x4] t (0, 0))) : w.cell? ⟨b, 0, none⟩ = some x0 ∧ w.cell? ⟨b, 1, none⟩ = some x1 ∧ w.cell? ⟨b, 2, none⟩ = some x2 ∧ w.cell? ⟨b, 3, none⟩ = some x3 ∧ w.cell? ⟨b, 4, none⟩ = some x4 := by simp [World.cell?, h]

set_option maxHeartbeats 1000000 in
set_option maxRecDepth 1000000 in
theorem law_asked_read (S : St) (F : Nat → Prop) (x m : Nat) (a b c : Int) (s : ByteArray) (w : World) (h : PairAt w F x m S) (hg : GCell w) (h0 : ¬ F 0) (hl : S.last ≤ 1000000) :
    Calls Tryz.prog 42 #[.agg #[.pointer (some ⟨x, 0, none⟩), .pointer (some ⟨m, 0, none⟩)], opV 2 a b c s] w fun e w' => Does w F x m S e w' := by
  unfold opV
  have hwf := h.wf
  obtain ⟨Fx, Fm, hP, hM, hd, hF⟩ := h
  have h0x : ¬ Fx 0 := fun e => h0 ((hF 0).2 (Or.inl e))
  have hPl := hP.lt
  have HM := hide hM
  have HD := hide hd
  have HF := hide hF
  have HG := hide hg
  have HPl := hide hPl
  have hnx : ¬ Fx w.heap.size := fun e => by have := hPl _ e; omega
  have hnx2 : ¬ Fx (w.heap.size + 1) := fun e => by have := hPl _ e; omega
  have HP := hide hP
  clear hM hd hF hg hPl hP
  have hla := hide (askM_last S false b ⟨#[]⟩)
  generalize hA : askM S false b ⟨#[]⟩ = r at *
  obtain ⟨n, k, S'⟩ := r
  have HA : Hid (askM S false b ⟨#[]⟩ = (n, k, S')) := hA
  clear hA
  go_enter Tryz.func42, Tryz.ntmps42
  go_wp2_with fail
  have hb0 := hide (askW_below x m 2 a b c s w)
  refine (plain_read S Fx x b (askW x m 2 a b c s w) (HP.out.below hb0.out) (HG.out.below hb0.out) h0x hl).mono ?_
  rintro e w1 ⟨rfl, hP1, hK1⟩
  rw [HA.out] at hP1
  rw [HA.out]
  have HP1 := hide hP1
  have HK1 := hide hK1
  have hsz := askW_size x m 2 a b c s w
  have hz1 : w.heap.size + 1 < w1.heap.size := by have := hK1.size; omega
  have hz1' : w.heap.size < w1.heap.size := by omega
  have hp := (hK1.block _ (by omega) hnx).trans (askW_p x m 2 a b c s w)
  have ho := (hK1.block _ (by omega) hnx2).trans (askW_o x m 2 a b c s w)
  obtain ⟨p0, p1, _⟩ := cells2 hp
  obtain ⟨o0, o1, o2, o3, o4⟩ := cells5 ho
  clear hP1 hK1 hp ho
  have hb1 := alloc_below w1 (.cells #[.int .i64 k, .int .i64 (-1), .int .i64 0, .bool true] 57)
  have hM1 := hide (pair_mid HM.out HD.out hb0.out HK1.out hb1)
  have hnm : ¬ Fm w1.heap.size := fun e => by have := HM.out.lt _ e; omega
  clear hb1
  go_wp2_with fail
  refine (ref_ask S Fm m false b ⟨#[]⟩ _ hM1.out (by have := hwf.toldLen; have := hwf.reqsLen; omega) (by have := hwf.reqsLen; omega) hwf.last hl).mono ?_
  rintro e w2 ⟨rfl, hM2, hK2⟩
  rw [HA.out] at hM2
  rw [HA.out]
  have HM2 := hide hM2
  have HK2 := hide hK2
  have hz2 : w1.heap.size < w2.heap.size := by have := hK2.size; simp at this; omega
  have q : w2.heap[w1.heap.size]? = some (.cells #[.int .i64 k, .int .i64 (-1), .int .i64 0, .bool true] 57 (0, 0)) := (hK2.block _ (by simp) hnm).trans (heap_alloc_new w1 _)
  obtain ⟨⟨q0, q1, q2, q3⟩, _⟩ := cells4 q
  clear hM2 hK2 q
  have fin : Hid (∀ w3, Below w2.heap.size w2 w3 → Does w F x m S (.returned (.bool true)) w3) := fun w3 hb3 => by
    obtain ⟨r1, r2⟩ := pair_fin HM.out HPl.out HD.out HF.out hb0.out HP1.out HK1.out (alloc_below w1 (.cells #[.int .i64 k, .int .i64 (-1), .int .i64 0, .bool true] 57)) HM2.out HK2.out hb3
    exact ⟨rfl, S', r1, hla.out.1, hla.out.2, r2⟩
  have hnn : (n == n) = true := by simp
  go_wp2_with fail
  refine (law_none k _).mono ?_
  rintro e w3 ⟨rfl, hb3⟩
  have HB3 := hide hb3
  clear hb3
  go_wp2
  go_ret
  exact fin.out _ HB3.out
end Go.Proofs.YtiabdbeejkadnaaGreatDoor

/- The law: asked (Write). Own work of the verifier. -/
namespace Go.Proofs.YtiabdbeejkadnaaGreatDoor
open Go.RowKit Go.Maps

section
variable {w w0 w1 w2 w3 w4 : World} {F Fx Fm : Nat → Prop} {x m : Nat} {S S' : St}
/-- behind both calls, where the caller's own scratch blocks (between w and w0) have turned too -/
theorem pair_fin2 (hM : RefAt w Fm m S) (hPl : ∀ k, Fx k → k < w.heap.size) (hd : ∀ k, Fx k → ¬ Fm k) (hF : ∀ k, F k ↔ (Fx k ∨ Fm k)) (hb0 : Below w.heap.size w w0) (hP1 : ProgAt w1 (Foot Fx w0 w1) x S') (hK1 : Kept Fx w0 w1) (hb1 : Below w1.heap.size w1 w2)
    (hM2 : RefAt w3 (Foot Fm w2 w3) m S') (hK2 : Kept Fm w2 w3) (hb2 : Kept (fun k => w.heap.size ≤ k ∧ k < w0.heap.size) w3 w4) : PairAt w4 (Foot F w w4) x m S' ∧ Kept F w w4 := by
  have z0 := hb0.size
  have z1 := hK1.size
  have z2 := hb1.size
  have z3 := hK2.size
  have z4 := hb2.size
  have hMl := hM.lt
  refine ⟨⟨Foot Fx w w1, fun k => Foot Fm w w4 k ∧ ¬ Foot Fx w w1 k, ?_, ?_, fun k hk hn => hn.2 hk, fun k => ⟨fun hk => ?_, fun hk => ?_⟩⟩, ?_⟩
  · refine (((hP1.below hb1).kept hK2 ?_).kept hb2 ?_).wid (fun k hk => ?_) (fun k hk => ?_)
    · rintro k (hk | hk) hn
      · exact hd k hk hn
      · have := hMl k hn; omega
    · rintro k (hk | hk) hn
      · have := hPl k hk; omega
      · omega
    · exact hk.elim Or.inl (fun e => Or.inr ⟨by omega, e.2⟩)
    · rcases hk with hk | hk
      · have := hPl k hk; omega
      · omega
  · refine (hM2.kept hb2 ?_).wid (fun k hk => ?_) (fun k hk => ?_)
    · rintro k (hk | hk) hn
      · have := hMl k hk; omega
      · omega
    · rcases hk with hk | hk
      · exact ⟨Or.inl hk, fun e => e.elim (fun e => hd k e hk) (fun e => by have := hMl k hk; omega)⟩
      · exact ⟨Or.inr ⟨by omega, by omega⟩, fun e => e.elim (fun e => by have := hPl k e; omega) (fun e => by omega)⟩
    · rcases hk.1 with hk | hk
      · have := hMl k hk; omega
      · omega
  · by_cases hx : Foot Fx w w1 k
    · exact Or.inl hx
    · rcases hk with hk | hk
      · rcases (hF k).1 hk with h | h
        · exact absurd (Or.inl h) hx
        · exact Or.inr ⟨Or.inl h, hx⟩
      · exact Or.inr ⟨Or.inr hk, hx⟩
  · rcases hk with (hk | hk) | ⟨hk | hk, _⟩
    · exact Or.inl ((hF k).2 (Or.inl hk))
    · exact Or.inr ⟨hk.1, by omega⟩
    · exact Or.inl ((hF k).2 (Or.inr hk))
    · exact Or.inr hk
  · have k1 : Kept F w w1 := (Go.Proofs.YtiabdbeejkadnaaGreatDoor.Below.kept hb0 F).then (hK1.mono fun k _ hk => (hF k).2 (Or.inl hk))
    have k2 : Kept F w w3 := (k1.below hb1).then (hK2.mono fun k _ hk => (hF k).2 (Or.inr hk))
    exact k2.trans (hb2.mono fun k _ hk => Or.inr hk.1)
end

/-- the caller's buffer: the text's bytes and one cell more -/
def bufC (s : ByteArray) (v : Int) : Array Value := (encB s.data.toList ++ [Value.int .u8 v]).toArray
theorem blen (s : ByteArray) : s.data.toList.length = s.size := by rw [Array.length_toList]; rfl
theorem encB_len (l : List UInt8) : (encB l).length = l.length := by simp [encB]
theorem bufC_size (s : ByteArray) (v : Int) : (bufC s v).size = s.size + 1 := by
  unfold bufC
  rw [List.size_toArray, List.length_append, encB_len, blen]
  rfl
theorem bufC_at (s : ByteArray) (v : Int) (j : Nat) (hj : j < s.data.toList.length) : (bufC s v)[j]? = some (.int .u8 ((s.data.toList[j]).toNat : Int)) := by
  unfold bufC
  rw [List.getElem?_toArray, List.getElem?_append_left (by rw [encB_len]; exact hj)]
  unfold encB
  rw [List.getElem?_map, List.getElem?_eq_getElem hj]
  rfl
theorem bufC_last (s : ByteArray) (v : Int) : (bufC s v)[s.size]? = some (.int .u8 v) := by
  unfold bufC
  rw [List.getElem?_toArray, List.getElem?_append_right (by rw [encB_len, blen]; exact Nat.le_refl _), encB_len, blen, Nat.sub_self]
  rfl
theorem bufC_set (s : ByteArray) (v u : Int) : (bufC s v).setIfInBounds s.size (.int .u8 u) = bufC s u := by
  apply Array.ext'
  unfold bufC
  rw [Array.toList_setIfInBounds]
  show (encB s.data.toList ++ [Value.int .u8 v]).set s.size _ = _
  rw [List.set_append_right _ _ (by rw [encB_len, blen]; exact Nat.le_refl _), encB_len, blen, Nat.sub_self]
  rfl
theorem ecells {W w1 : World} {Fx : Nat → Prop} {v0 v1 v2 v3 : Value} (hK : Kept Fx (W.alloc (.cells #[v0, v1, v2, v3] 57)).drew w1) (hn : ¬ Fx W.heap.size) :
    (w1.cell? ⟨W.heap.size, 0, none⟩ = some v0 ∧ w1.cell? ⟨W.heap.size, 1, none⟩ = some v1 ∧ w1.cell? ⟨W.heap.size, 2, none⟩ = some v2 ∧ w1.cell? ⟨W.heap.size, 3, none⟩ = some v3) ∧ w1.frozen? ⟨W.heap.size, 0, none⟩ = false ∧ w1.frozen? ⟨W.heap.size, 1, none⟩ = false ∧ w1.frozen? ⟨W.heap.size, 2, none⟩ = false ∧ w1.frozen? ⟨W.heap.size, 3, none⟩ = false :=
  cells4 ((hK.block _ (by show _ < (W.alloc _).heap.size; simp) hn).trans (heap_alloc_new W _))
theorem buf_cell {W : World} {g : Nat} {s : ByteArray} {v : Int} (h : W.heap[g]? = some (.cells (bufC s v) 5 (0, 0))) (j : Nat) (hj : j < s.data.toList.length) : W.cell? ⟨g, j, none⟩ = some (.int .u8 ((s.data.toList[j]).toNat : Int)) := by
  have := bufC_at s v j hj
  simp only [World.cell?, h]
  exact this
theorem mk_buf (s : ByteArray) (hs : s.size ≤ 1000000) (W : World) : (Instr.makeSlice 86 (.int .i64 ((s.size : Int) + 1)) (.int .i64 ((s.size : Int) + 1))).run Tryz.prog W = .ok (.slice (some ⟨W.heap.size, 0, none⟩) (s.size + 1) (s.size + 1)) (W.alloc (.cells (madeCells #[.int .u8 0] (s.size + 1)) 5)) := by
  obtain ⟨i0, hi, hi0, hi1, hi2⟩ := info_parts info_byte
  have := run_makeSlice (P := Tryz.prog) W 86 5 i0 (.int .u8 0) Tryz.underlying86 hi hi0 .i64 .i64 ((s.size : Int) + 1) ((s.size : Int) + 1) (by omega) (Int.le_refl _) (by rw [hi1]; omega) (by rw [hi2]; omega) (by omega)
  rw [hi1] at this
  have e : ((s.size : Int) + 1).toNat = s.size + 1 := by omega
  rw [e, Nat.mul_one] at this
  exact this
theorem copy_buf (s : ByteArray) (W : World) : ∃ W1, (Builtin.copy_ #[86, 9] 3 #[.slice (some ⟨W.heap.size, 0, none⟩) (s.size + 1) (s.size + 1), .string s]).run Tryz.prog (W.alloc (.cells (madeCells #[.int .u8 0] (s.size + 1)) 5)) = .ok (.int .i64 s.size) W1 ∧
    W1.heap[W.heap.size]? = some (.cells (bufC s 0) 5 (0, 0)) ∧ Below W.heap.size W W1 ∧ W.heap.size < W1.heap.size := by
  have hn := heap_alloc_new W (.cells (madeCells #[.int .u8 0] (s.size + 1)) 5)
  have hr := Go.Lib.run_copy_row_string (P := Tryz.prog) (W.alloc (.cells (madeCells #[.int .u8 0] (s.size + 1)) 5)) 86 9 3 5 W.heap.size 0 (s.size + 1) (s.size + 1) s (madeCells #[.int .u8 0] (s.size + 1)) 5 Tryz.underlying86 (by kernel_rfl) hn (by omega) (by rw [size_madeCells]; omega)
  refine ⟨_, hr, ?_, ?_, by simp [World.setRow]⟩
  · rw [setRow_heap _ _ _ _ _ _ hn]
    have e : (madeCells #[.int .u8 0] (s.size + 1)).toList.drop (0 + s.size) = [.int .u8 0] := by
      apply List.ext_getElem
      · simp [size_madeCells]
      · intro i h1 h2
        simp at h2
        subst h2
        simp [madeCells, Nat.mod_one]
    rw [e]
    simp [bufC, encB, Go.Lib.byteCells]
  · refine ⟨rfl, rfl, rfl, by simp [World.setRow], fun k hk => ?_⟩
    rw [setRow_other _ _ _ _ (by omega)]
    exact Below.heap_alloc _ _ _ hk

/-- behind the program's Write: its queue, and the error that it has told, at block eb -/
def MidW (Fx : Nat → Prop) (x : Nat) (S' : St) (k : Int) (W2 W3 : World) (eb : Nat) : Prop :=
  ProgAt W3 (Foot Fx W2 W3) x S' ∧ Kept Fx W2 W3 ∧ W3.heap[eb]? = some (.cells #[.int .i64 k, .int .i64 (-1), .int .i64 0, .bool true] 57 (0, 0)) ∧ W2.heap.size ≤ eb
theorem mid1 {Fx : Nat → Prop} {x : Nat} {S' : St} {k : Int} {W2 w1 : World} (hF : ∀ j, Fx j → j < W2.heap.size) (h : ProgAt w1 (Foot Fx W2.drew w1) x S' ∧ Kept Fx W2.drew w1) :
    MidW Fx x S' k W2 (w1.alloc (.cells #[.int .i64 k, .int .i64 (-1), .int .i64 0, .bool true] 57)) w1.heap.size := by
  have hz : W2.heap.size ≤ w1.heap.size := h.2.size
  have hK : Kept Fx W2 w1 := ⟨h.2.os, h.2.tape, h.2.output, h.2.size, h.2.block⟩
  refine ⟨(h.1.below (alloc_below _ _)).wid (fun j hj => hj.elim Or.inl (fun e => Or.inr ⟨e.1, by simp; have := e.2; omega⟩)) (fun j hj => ?_), hK.alloc _, heap_alloc_new w1 _, hz⟩
  rcases hj with hj | hj
  · have := hF j hj; simp; omega
  · exact hj.2
theorem mid2 {Fx : Nat → Prop} {x : Nat} {S' : St} {k : Int} {W2 w1 : World} {z0 z1 z2 z3 : Value} (hF : ∀ j, Fx j → j < W2.heap.size) (h : ProgAt w1 (Foot Fx (W2.alloc (.cells #[z0, z1, z2, z3] 57)).drew w1) x S' ∧ Kept Fx (W2.alloc (.cells #[z0, z1, z2, z3] 57)).drew w1) :
    MidW Fx x S' k W2 ((((w1.setCell ⟨W2.heap.size, 0, none⟩ (.int .i64 k)).setCell ⟨W2.heap.size, 1, none⟩ (.int .i64 (-1))).setCell ⟨W2.heap.size, 2, none⟩ (.int .i64 0)).setCell ⟨W2.heap.size, 3, none⟩ (.bool true)) W2.heap.size := by
  have hz : W2.heap.size + 1 ≤ w1.heap.size := by have := h.2.size; have e : (W2.alloc (.cells #[z0, z1, z2, z3] 57)).drew.heap.size = W2.heap.size + 1 := (World.size_alloc _ _); omega
  have hn : ¬ Fx W2.heap.size := fun e => by have := hF _ e; omega
  have hK0 : Kept Fx W2 w1 := ⟨h.2.os, h.2.tape, h.2.output, by omega, fun j hj hn => (h.2.block j (by have e : (W2.alloc (.cells #[z0, z1, z2, z3] 57)).drew.heap.size = W2.heap.size + 1 := (World.size_alloc _ _); omega) hn).trans (Below.heap_alloc _ _ _ hj)⟩
  have hb : w1.heap[W2.heap.size]? = some (.cells #[z0, z1, z2, z3] 57 (0, 0)) := (h.2.block _ (by have e : (W2.alloc (.cells #[z0, z1, z2, z3] 57)).drew.heap.size = W2.heap.size + 1 := (World.size_alloc _ _); omega) hn).trans (heap_alloc_new W2 _)
  have hs4 : ((((w1.setCell ⟨W2.heap.size, 0, none⟩ (.int .i64 k)).setCell ⟨W2.heap.size, 1, none⟩ (.int .i64 (-1))).setCell ⟨W2.heap.size, 2, none⟩ (.int .i64 0)).setCell ⟨W2.heap.size, 3, none⟩ (.bool true)).heap.size = w1.heap.size := by simp [World.setCell]
  refine ⟨(h.1.same (fun j hj _ => ?_) (by omega)).wid (fun j hj => ?_) (fun j hj => ?_), ?_, ?_, Nat.le_refl _⟩
  · have hne : j ≠ W2.heap.size := by
      rcases hj with hj | hj
      · exact fun e => hn (e ▸ hj)
      · have := hj.1; have e : (W2.alloc (.cells #[z0, z1, z2, z3] 57)).drew.heap.size = W2.heap.size + 1 := (World.size_alloc _ _); omega
    rw [Below.heap_setCell _ _ _ _ hne, Below.heap_setCell _ _ _ _ hne, Below.heap_setCell _ _ _ _ hne, Below.heap_setCell _ _ _ _ hne]
  · rcases hj with hj | hj
    · exact Or.inl hj
    · exact Or.inr ⟨by have := hj.1; have e : (W2.alloc (.cells #[z0, z1, z2, z3] 57)).drew.heap.size = W2.heap.size + 1 := (World.size_alloc _ _); omega, by rw [hs4]; exact hj.2⟩
  · rcases hj with hj | hj
    · have := hF j hj; omega
    · exact hj.2
  · exact (((hK0.setCell (Or.inr (Nat.le_refl _)) _).setCell (Or.inr (Nat.le_refl _)) _).setCell (Or.inr (Nat.le_refl _)) _).setCell (Or.inr (Nat.le_refl _)) _
  · exact heap_setCell_at (j := 3) (heap_setCell_at (j := 2) (heap_setCell_at (j := 1) (heap_setCell_at (j := 0) hb _) _) _) _

set_option maxHeartbeats 1000000 in
set_option maxRecDepth 1000000 in
theorem law_asked_write (S : St) (F : Nat → Prop) (x m : Nat) (a b c : Int) (s : ByteArray) (w : World) (h : PairAt w F x m S) (hg : GCell w) (h0 : ¬ F 0) (hl : S.last ≤ 1000000) (hs : s.size ≤ 1000000) :
    Calls Tryz.prog 42 #[.agg #[.pointer (some ⟨x, 0, none⟩), .pointer (some ⟨m, 0, none⟩)], opV 3 a b c s] w fun e w' => Does w F x m S e w' := by
  unfold opV
  have hwf := h.wf
  obtain ⟨Fx, Fm, hP, hM, hd, hF⟩ := h
  have h0x : ¬ Fx 0 := fun e => h0 ((hF 0).2 (Or.inl e))
  have hPl := hP.lt
  have HM := hide hM
  have HD := hide hd
  have HF := hide hF
  have HG := hide hg
  have HPl := hide hPl
  have hnx : ¬ Fx w.heap.size := fun e => by have := hPl _ e; omega
  have hnx2 : ¬ Fx (w.heap.size + 1) := fun e => by have := hPl _ e; omega
  have hnx3 : ¬ Fx (w.heap.size + 2) := fun e => by have := hPl _ e; omega
  have HP := hide hP
  clear hM hd hF hg hPl hP
  have hla := hide (askM_last S true b s)
  generalize hA : askM S true b s = r at *
  obtain ⟨n, k, S'⟩ := r
  have HA : Hid (askM S true b s = (n, k, S')) := hA
  clear hA
  have hmk := mk_buf s hs (askW x m 3 a b c s w)
  obtain ⟨W1, hcp, hbuf, hbW, hzW⟩ := copy_buf s (askW x m 3 a b c s w)
  have hsz := askW_size x m 3 a b c s w
  rw [hsz] at hmk hcp hbuf hzW
  unfold askW at hmk hcp
  have f1 : W1.cell? ⟨w.heap.size + 2, s.size, none⟩ = some (.int .u8 0) := by simp [World.cell?, hbuf, bufC_last]
  have f2 : W1.frozen? ⟨w.heap.size + 2, s.size, none⟩ = false := by simp [World.frozen?, hbuf]
  obtain ⟨p0, p1, _⟩ := cells2 ((hbW.block w.heap.size (by omega)).trans (askW_p x m 3 a b c s w))
  obtain ⟨o0, o1, o2, o3, o4⟩ := cells5 ((hbW.block (w.heap.size + 1) (by omega)).trans (askW_o x m 3 a b c s w))
  have HBUF := hide hbuf
  have HBW := hide ((askW_below x m 3 a b c s w).trans (hbW.mono (by omega)))
  clear hbuf hbW
  go_enter Tryz.func42, Tryz.ntmps42
  go_wp2_with fail
  have HBUF2 : Hid ((W1.setCell ⟨w.heap.size + 2, s.size, none⟩ (.int .u8 77)).heap[w.heap.size + 2]? = some (.cells (bufC s 77) 5 (0, 0))) := by
    rw [Hid, heap_setCell_at HBUF.out, bufC_set]
  have HB2 : Hid (Below w.heap.size w (W1.setCell ⟨w.heap.size + 2, s.size, none⟩ (.int .u8 77))) := HBW.out.setCell (by show _ ≤ w.heap.size + 2; omega) _
  have hz2 : w.heap.size + 2 < (W1.setCell ⟨w.heap.size + 2, s.size, none⟩ (.int .u8 77)).heap.size := by simpa [World.setCell] using hzW
  have p0' : (W1.setCell ⟨w.heap.size + 2, s.size, none⟩ (.int .u8 77)).cell? ⟨w.heap.size, 0, none⟩ = _ := (World.cell?_of_block (w := W1) (Below.heap_setCell _ _ _ _ (by show w.heap.size ≠ w.heap.size + 2; omega))).trans p0
  have p1' : (W1.setCell ⟨w.heap.size + 2, s.size, none⟩ (.int .u8 77)).cell? ⟨w.heap.size, 1, none⟩ = _ := (World.cell?_of_block (w := W1) (Below.heap_setCell _ _ _ _ (by show w.heap.size ≠ w.heap.size + 2; omega))).trans p1
  have o2' : (W1.setCell ⟨w.heap.size + 2, s.size, none⟩ (.int .u8 77)).cell? ⟨w.heap.size + 1, 2, none⟩ = _ := (World.cell?_of_block (w := W1) (Below.heap_setCell _ _ _ _ (by show w.heap.size + 1 ≠ w.heap.size + 2; omega))).trans o2
  have o4' : (W1.setCell ⟨w.heap.size + 2, s.size, none⟩ (.int .u8 77)).cell? ⟨w.heap.size + 1, 4, none⟩ = _ := (World.cell?_of_block (w := W1) (Below.heap_setCell _ _ _ _ (by show w.heap.size + 1 ≠ w.heap.size + 2; omega))).trans o4
  clear p0 p1 o0 o1 o2 o3 o4 f1 f2 HBUF HBW hzW hmk hcp hsz
  generalize W1.setCell ⟨w.heap.size + 2, s.size, none⟩ (.int .u8 77) = W2 at *
  have HC : Hid (∀ j, j < s.size → W2.cell? ⟨w.heap.size + 2, j, none⟩ = some (u8 (s.data.toList.getD j 0))) := fun j hj => by
    have hj' : j < s.data.toList.length := by rw [blen]; exact hj
    have e : s.data.toList.getD j 0 = s.data.toList[j] := by rw [List.getD_eq_getElem?_getD, List.getElem?_eq_getElem hj']; rfl
    rw [e]
    exact buf_cell HBUF2.out j hj'
  have hz2a : w.heap.size + 1 < W2.heap.size := by omega
  have hz2b : w.heap.size < W2.heap.size := by omega
  have hnxW : Hid (¬ Fx W2.heap.size) := fun e => by have := HPl.out _ e; omega
  have HCall : Hid (∀ WW, Below W2.heap.size W2 WW → Calls Tryz.prog 52 #[.pointer (some ⟨x, 0, none⟩), .int .i64 b, .slice (some ⟨w.heap.size + 2, 0, none⟩) s.size (s.size + 1)] WW fun e w1 => e = .returned (.tuple #[.int .i64 n, .agg #[.int .i64 k, .int .i64 (-1), .int .i64 0, .bool true]]) ∧
      (w1.cell? ⟨w.heap.size, 0, none⟩ = some (.pointer (some ⟨x, 0, none⟩)) ∧ w1.cell? ⟨w.heap.size + 1, 2, none⟩ = some (.int .i64 b) ∧ w1.cell? ⟨w.heap.size + 1, 4, none⟩ = some (.string s)) ∧ ProgAt w1 (Foot Fx WW w1) x S' ∧ Kept Fx WW w1) := fun WW hb => by
    have := plain_write S Fx x (w.heap.size + 2) (s.size + 1) b s WW ((HP.out.below HB2.out).below hb) (fun j hj => (hb.cell (p := ⟨w.heap.size + 2, j, none⟩) hz2).trans (HC.out j hj)) (by have := hb.size; omega) hs ((HG.out.below HB2.out).below hb) h0x hl
    rw [HA.out] at this
    refine this.mono ?_
    rintro e w1 ⟨h1, h2, h3⟩
    have hz := hb.size
    exact ⟨h1, ⟨((h3.cell (p := ⟨w.heap.size, 0, none⟩) (by show w.heap.size < _; omega) hnx).trans (hb.cell (p := ⟨w.heap.size, 0, none⟩) hz2b)).trans p0', ((h3.cell (p := ⟨w.heap.size + 1, 2, none⟩) (by show w.heap.size + 1 < _; omega) hnx2).trans (hb.cell (p := ⟨w.heap.size + 1, 2, none⟩) hz2a)).trans o2', ((h3.cell (p := ⟨w.heap.size + 1, 4, none⟩) (by show w.heap.size + 1 < _; omega) hnx2).trans (hb.cell (p := ⟨w.heap.size + 1, 4, none⟩) hz2a)).trans o4'⟩, h2, h3⟩
  have ne0 := World.new_ne W2 _ p0'
  have ne1 := World.new_ne W2 _ o2'
  have hi1 : (0 : Int) ≤ (s.size : Int) := by omega
  have hi2 : (s.size : Int) ≤ (s.size : Int) + 1 := by omega
  have hi3 : (s.size : Int) ≤ ((s.size + 1 : Nat) : Int) := by omega
  have HFW : Hid (∀ j, Fx j → j < W2.heap.size) := fun j hj => by have := HPl.out j hj; omega
  go_cut [11, 12] from 18 (fun vn ve wx => ∃ eb, vn = .int .i64 n ∧ ve = .pointer (some ⟨eb, 0, none⟩) ∧ Hid (MidW Fx x S' k W2 wx eb))
  case first =>
    go_region_held3 (fun W => W.cell? ⟨w.heap.size, 0, none⟩ = some (.pointer (some ⟨x, 0, none⟩)) ∧ W.cell? ⟨w.heap.size + 1, 2, none⟩ = some (.int .i64 b) ∧ W.cell? ⟨w.heap.size + 1, 4, none⟩ = some (.string s)) (go_keep)
      (first | (go_at_call 52; refine (HCall.out _ ?_).mono ?_; (first | exact (Below.refl _ _).drew | exact (alloc_below _ _).drew); rintro e w1 ⟨rfl, ⟨hc0, hc1, hc2⟩, hR⟩; have HR := hide hR; clear hR; (try (obtain ⟨⟨a0, a1, a2, a3⟩, b0, b1, b2, b3⟩ := ecells HR.out.2 hnxW.out))))
    all_goals go_wp2_with fail
    all_goals go_meet
    all_goals first
      | exact ⟨_, rfl, rfl, mid1 HFW.out HR.out⟩
      | exact ⟨_, rfl, rfl, mid2 HFW.out HR.out⟩
  case rest =>
    obtain ⟨eb, rfl, rfl, hmid⟩ := hcut
    clear HCall HC HP HG hi1 hi2 hi3 ne0 ne1 hnxW
    have hz3 : Hid (W2.heap.size ≤ wc.heap.size) := hmid.out.2.1.size
    have hz3b : w.heap.size < wc.heap.size := by have := hz3.out; omega
    have hz3a : w.heap.size + 1 < wc.heap.size := by have := hz3.out; omega
    have p1c := (hmid.out.2.1.cell (p := ⟨w.heap.size, 1, none⟩) hz2b hnx).trans p1'
    have o2c := (hmid.out.2.1.cell (p := ⟨w.heap.size + 1, 2, none⟩) hz2a hnx2).trans o2'
    have o4c := (hmid.out.2.1.cell (p := ⟨w.heap.size + 1, 4, none⟩) hz2a hnx2).trans o4'
    have HBUF3 : Hid (wc.heap[w.heap.size + 2]? = some (.cells (bufC s 77) 5 (0, 0))) := (hmid.out.2.1.block _ hz2 hnx3).trans HBUF2.out
    clear p0' p1' o2' o4' HBUF2
    have hMc := hide (pair_mid HM.out HD.out HB2.out hmid.out.2.1 (Below.refl _ _))
    have hlM : Hid (∀ j, Fm j → j < w.heap.size) := HM.out.lt
    go_wp2_with fail
    refine (ref_ask S Fm m true b s _ hMc.out (by have := hwf.toldLen; have := hwf.reqsLen; omega) (by have := hwf.reqsLen; omega) hwf.last hl).mono ?_
    rintro e w2 ⟨rfl, hM2, hK2⟩
    rw [HA.out] at hM2
    rw [HA.out]
    have HM2 := hide hM2
    have HK2 := hide hK2
    have heb : eb < wc.heap.size := lt_of_heap hmid.out.2.2.1
    obtain ⟨⟨q0, q1, q2, q3⟩, _⟩ := cells4 ((hK2.block eb heb (fun e => by have := hlM.out _ e; have := hmid.out.2.2.2; omega)).trans hmid.out.2.2.1)
    have HBUF4 : Hid (w2.heap[w.heap.size + 2]? = some (.cells (bufC s 77) 5 (0, 0))) := (hK2.block _ (by have := hz3.out; omega) (fun e => by have := hlM.out _ e; omega)).trans HBUF3.out
    have o4d := (hK2.cell (p := ⟨w.heap.size + 1, 4, none⟩) hz3a (fun e => by have := hlM.out _ e; have e2 : (⟨w.heap.size + 1, 4, none⟩ : Addr).block = w.heap.size + 1 := rfl; omega)).trans o4c
    have hz4 : Hid (wc.heap.size ≤ w2.heap.size) := hK2.size
    clear hM2 hK2 p1c o2c o4c
    go_wp2_with fail
    refine (law_none k _).mono ?_
    rintro e w3 ⟨rfl, hb3⟩
    have o4e := (hb3.cell (p := ⟨w.heap.size + 1, 4, none⟩) (by show w.heap.size + 1 < _; have := hz4.out; omega)).trans o4d
    have HBUF5 : Hid (w3.heap[w.heap.size + 2]? = some (.cells (bufC s 77) 5 (0, 0))) := (hb3.block _ (by have := hz3.out; have := hz4.out; omega)).trans HBUF4.out
    have HB3 := hide hb3
    clear hb3 o4d q0 q1 q2 q3 HBUF4 HBUF3
    have hcv : ∀ j, (convert 86 9 (.slice (some ⟨w.heap.size + 2, 0, none⟩) s.size (s.size + 1))).run Tryz.prog (w3.drewN j) = .ok (.string s) (w3.drewN j) := fun j => by
      have := run_convert_bytes_back (P := Tryz.prog) (w3.drewN j) 86 9 5 ⟨w.heap.size + 2, 0, none⟩ (s.size + 1) s.data.toList Tryz.underlying86 Tryz.underlying5 Tryz.underlying9 (fun i hi => by
        rw [Addr.add_lit, Nat.zero_add]
        exact buf_cell (W := w3) HBUF5.out i hi)
      rw [blen] at this
      exact this
    have h77 : w3.cell? ⟨w.heap.size + 2, s.size, none⟩ = some (.int .u8 77) := by
      have := bufC_last s 77
      simp only [World.cell?, HBUF5.out]
      exact this
    have hi1 : (0 : Int) ≤ (s.size : Int) := by omega
    have hi2 : (s.size : Int) ≤ (s.size : Int) + 1 := by omega
    have hi3 : (s.size : Int) ≤ ((s.size + 1 : Nat) : Int) := by omega
    have hi4 : (s.size : Int) < ((s.size + 1 : Nat) : Int) := by omega
    have hi5 : s.size < s.size + 1 := by omega
    go_wp2
    go_quiet (fail)
    have fin : Hid (∀ w4, Kept (fun k => w.heap.size ≤ k ∧ k < W2.heap.size) (w3.drewN nq) w4 → Does w F x m S (.returned (.bool true)) w4) := fun w4 hk4 => by
      have hk : Kept (fun k => w.heap.size ≤ k ∧ k < W2.heap.size) w2 w4 := (Go.Proofs.YtiabdbeejkadnaaGreatDoor.Below.kept (below_drewN HB3.out nq) _).then hk4
      obtain ⟨r1, r2⟩ := pair_fin2 HM.out HPl.out HD.out HF.out HB2.out hmid.out.1 hmid.out.2.1 (Below.refl _ _) HM2.out HK2.out hk
      exact ⟨rfl, S', r1, hla.out.1, hla.out.2, r2⟩
    have HBUF6 : Hid ((w3.drewN nq).heap[w.heap.size + 2]? = some (.cells (bufC s 77) 5 (0, 0))) := HBUF5.out
    clear hcv h77 o4e HBUF5 HB3 HM2 HK2 hmid
    generalize w3.drewN nq = w5 at *
    go_wp2
    have hzb : Hid (w.heap.size + 2 < W2.heap.size) := hz2
    clear hz2 hz2a hz2b hz3 hz3a hz3b hz4 heb hi1 hi2 hi3 hi4 hi5
    go_loopw [17] (fun i wr => ∃ j : Nat, j ≤ s.size + 1 ∧ i = .int .i64 j ∧ Hid (∃ cs : Array Value, cs.size = s.size + 1 ∧ wr.heap[w.heap.size + 2]? = some (.cells cs 5 (0, 0))) ∧ Hid (Kept (fun k => w.heap.size ≤ k ∧ k < W2.heap.size) w5 wr)) (fun i _ => s.size + 1 - (intOf i).toNat)
    case atStart => exact ⟨0, Nat.zero_le _, rfl, ⟨_, bufC_size s 77, HBUF6.out⟩, Kept.refl _ _⟩
    case round =>
      obtain ⟨j, hj, rfl, hcs, hk⟩ := hrel
      by_cases hlt : j < s.size + 1
      · obtain ⟨cs, hcz, hcb⟩ := hcs
        obtain ⟨old, f1⟩ : ∃ old, wr.cell? ⟨w.heap.size + 2, j, none⟩ = some old := ⟨cs[j], by simp [World.cell?, hcb, show j < cs.size by omega]⟩
        have f2 : wr.frozen? ⟨w.heap.size + 2, j, none⟩ = false := by simp [World.frozen?, hcb]
        have HCB := hide hcb
        have HCZ := hide hcz
        clear hcb hcz
        go_wp2
        go_roundw
        case rel => exact ⟨j + 1, by omega, by go_num, ⟨_, by rw [Array.size_setIfInBounds]; exact HCZ.out, heap_setCell_at HCB.out _⟩, hk.out.setCell (p := ⟨w.heap.size + 2, j, none⟩) (Or.inl ⟨by show w.heap.size ≤ w.heap.size + 2; omega, hzb.out⟩) _⟩
        case measure => simp [intOf]; omega
      · have hnn : (n == n) = true := by simp
        go_wp2
        go_ret
        exact fin.out _ hk.out
end Go.Proofs.YtiabdbeejkadnaaGreatDoor
