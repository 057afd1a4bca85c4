import Derived.Test.YtiabdbeejkadnabGreatDoorJbaef701712
import Derived.Deep.RegionHeld3
import Derived.Deep.RegionWith
import Derived.Deep.Cut
import Derived.Deep.Light
/- The keeps: poll. Own work of the verifier. -/
namespace Go.Proofs.YtiabdbeejkadnabGreatDoor
open Go.RowKit Go.Maps

theorem encK_at (l : List KR) (i t : Nat) (hi : i < l.length) (ht : t < 6) : (l.flatMap encK)[i * 6 + t]? = (encK l[i])[t]? := by
  induction l generalizing i with
  | nil => simp at hi
  | cons r l ih =>
    cases i with
    | zero =>
      simp only [List.flatMap_cons, Nat.zero_mul, Nat.zero_add]
      rw [List.getElem?_append_left (by simpa [encK] using ht)]
      simp
    | succ i =>
      simp only [List.flatMap_cons]
      rw [List.getElem?_append_right (by simp [encK]; omega)]
      have e : (i + 1) * 6 + t - (encK r).length = i * 6 + t := by simp [encK]; omega
      rw [e, ih i (by simpa using hi)]
      simp
section
variable {w w' w1 wx W0 WW : World} {F Fx Fk : Nat → Prop} {wb xb : Nat} {S S' : St} {rs : List KR}
theorem KAt.same (h : KAt w F wb xb S rs) (hs : ∀ k, F k → k < w.heap.size → w'.heap[k]? = w.heap[k]?) (hz : w.heap.size ≤ w'.heap.size) : KAt w' F wb xb S rs := by
  obtain ⟨Fx, Fk, ar, cr, hP, hB, hd, hF⟩ := h
  exact ⟨Fx, Fk, ar, cr, hP.same (fun k hk hl => hs k ((hF k).2 (Or.inl hk)) hl) hz, hB.same (fun k hk hl => hs k ((hF k).2 (Or.inr hk)) hl) hz, hd, hF⟩
theorem KAt.wid {F' : Nat → Prop} (h : KAt w F wb xb S rs) (hF' : ∀ k, F k → F' k) (hl : ∀ k, F' k → k < w.heap.size) : KAt w F' wb xb S rs := by
  obtain ⟨Fx, Fk, ar, cr, hP, hB, hd, hF⟩ := h
  refine ⟨Fx, fun k => F' k ∧ ¬ Fx k, ar, cr, hP, hB.wid (fun k hk => ⟨hF' k ((hF k).2 (Or.inr hk)), fun e => hd k e hk⟩) (fun k hk => hl k hk.1), fun k hk e => e.2 hk, fun k => ⟨fun hk => ?_, fun hk => ?_⟩⟩
  · by_cases e : Fx k
    · exact Or.inl e
    · exact Or.inr ⟨hk, e⟩
  · rcases hk with hk | hk
    · exact hF' k ((hF k).2 (Or.inl hk))
    · exact hk.1
end
/-- behind plain.Poll: its answer, its error, the copy of what was asked -/
def PollMid (w : World) (F : Nat → Prop) (wb xb : Nat) (S' : St) (rs : List KR) (r : KR) (e1 e2 e3 : Int) (P : ByteArray × Int × Int × St) (wx : World) (ab eb : Nat) : Prop :=
  ∃ (G : Nat → Prop) (ao : Option Addr) (n cap : Nat) (tr : Int), (KAt wx G wb xb S' rs ∧ (∀ k, G k → F k ∨ w.heap.size < k)) ∧ Kept F w wx ∧ wx.heap[w.heap.size]? = some (.cells (encK r).toArray 28 (0, 0)) ∧ (w.heap.size < ab ∧ ab < wx.heap.size ∧ w.heap.size < eb ∧ eb < wx.heap.size) ∧ (wx.cell? ⟨ab, 0, none⟩ = some (.slice ao n cap) ∧ wx.cell? ⟨ab, 1, none⟩ = some (.int .i64 tr)) ∧ (wx.cell? ⟨eb, 0, none⟩ = some (.int .i64 e1) ∧ wx.cell? ⟨eb, 1, none⟩ = some (.int .i64 e2) ∧ wx.cell? ⟨eb, 2, none⟩ = some (.int .i64 e3) ∧ wx.cell? ⟨eb, 3, none⟩ = some (.bool true)) ∧ PlainAns w wx P ao n cap tr
theorem poll_mid {w W0 WW w1 wx : World} {F : Nat → Prop} {wb xb ab eb n cap : Nat} {S' : St} {rs : List KR} {r : KR} {e1 e2 e3 tr : Int} {P : ByteArray × Int × Int × St} {ao : Option Addr} (hz0 : W0.heap.size = w.heap.size + 1) (hb0 : Below w.heap.size w W0) (hb : Below W0.heap.size W0 WW) (hR : KAt w1 (Foot F WW w1) wb xb S' rs ∧ Kept F WW w1) (hlt : ∀ k, F k → k < w.heap.size) (hr : W0.heap[w.heap.size]? = some (.cells (encK r).toArray 28 (0, 0))) (hans : PlainAns WW w1 P ao n cap tr)
    (hx : Kept (fun k => W0.heap.size ≤ k ∧ k < WW.heap.size) w1 wx) (hs : w.heap.size < ab ∧ ab < wx.heap.size ∧ w.heap.size < eb ∧ eb < wx.heap.size) (hA : wx.cell? ⟨ab, 0, none⟩ = some (.slice ao n cap) ∧ wx.cell? ⟨ab, 1, none⟩ = some (.int .i64 tr)) (hE : wx.cell? ⟨eb, 0, none⟩ = some (.int .i64 e1) ∧ wx.cell? ⟨eb, 1, none⟩ = some (.int .i64 e2) ∧ wx.cell? ⟨eb, 2, none⟩ = some (.int .i64 e3) ∧ wx.cell? ⟨eb, 3, none⟩ = some (.bool true)) : PollMid w F wb xb S' rs r e1 e2 e3 P wx ab eb := by
  have z1 := hb.size
  have z2 := hR.2.size
  have z3 := hx.size
  have zF : ∀ k, Foot F WW w1 k → k < w1.heap.size := hR.1.lt
  have hF1 : ∀ k, Foot F WW w1 k → ¬ (W0.heap.size ≤ k ∧ k < WW.heap.size) := fun k hk e => by
    rcases hk with hk | hk
    · have := hlt k hk; omega
    · omega
  have hbw : Below w.heap.size w WW := hb0.trans (hb.mono (by omega))
  have hK1 : Kept F w w1 := (Go.Proofs.YtiabdbeejkadnabGreatDoor.Below.kept hbw F).then hR.2
  have hK : Kept F w wx := ⟨hx.os.trans hK1.os, hx.tape.trans hK1.tape, hx.output.trans hK1.output, by omega, fun k hk hn => (hx.block k (by omega) (fun e => by omega)).trans (hK1.block k hk hn)⟩
  refine ⟨Foot F WW w1, ao, n, cap, tr, ⟨hR.1.same (fun k hk hl => hx.block k hl (hF1 k hk)) z3, fun k hk => ?_⟩, hK, ?_, hs, hA, hE, ?_⟩
  · rcases hk with hk | hk
    · exact Or.inl hk
    · exact Or.inr (by omega)
  · rw [hx.block _ (by omega) (fun e => by omega), hR.2.block _ (by omega) (fun e => by have := hlt _ e; omega), hb.block _ (by omega)]
    exact hr
  · rcases hans with h | ⟨a1, a2, a3, a4, a5⟩
    · exact Or.inl h
    · refine Or.inr ⟨a1, a2, a3, a4, ?_⟩
      have := a5.same (w' := wx) fun a ha => by
        obtain ⟨cu, hcu, _⟩ := a5.block ha
        have h1 := a5.2 a ha
        exact hx.block _ (lt_of_heap hcu) (fun e => by omega)
      exact this.mono fun k hk => by omega
theorem lt_alloc1 (w : World) (o : Obj) : w.heap.size < (w.alloc o).drew.heap.size := by show _ < (w.alloc o).heap.size; simp
theorem lt_alloc2 (w : World) (o o' : Obj) : w.heap.size < ((w.alloc o).alloc o').drew.heap.size ∧ w.heap.size + 1 < ((w.alloc o).alloc o').drew.heap.size := by
  have : ((w.alloc o).alloc o').drew.heap.size = w.heap.size + 2 := by show ((w.alloc o).alloc o').heap.size = _; simp
  omega
/-- only block b was written, or made -/
structure Put (w w' : World) (b : Nat) (cs : Array Value) (t : TypeId) : Prop where
  os : w'.os = w.os
  tape : w'.tape = w.tape
  output : w'.output = w.output
  size : w.heap.size ≤ w'.heap.size
  lt : b < w'.heap.size
  at_ : w'.heap[b]? = some (.cells cs t (0, 0))
  rest : ∀ k, k < w.heap.size → k ≠ b → w'.heap[k]? = w.heap[k]?
theorem kput_alloc {w : World} {b : Nat} {cs : Array Value} {t : TypeId} (hb : b = w.heap.size) : Put w (w.alloc (.cells cs t)) b cs t := by
  subst hb
  exact ⟨rfl, rfl, rfl, by simp, by simp, heap_alloc_new w _, fun k hk _ => Below.heap_alloc _ _ _ hk⟩
theorem kput2 {w : World} {b : Nat} {x y v0 v1 : Value} {t : TypeId} (h : w.heap[b]? = some (.cells #[x, y] t (0, 0))) : Put w ((w.setCell ⟨b, 0, none⟩ v0).setCell ⟨b, 1, none⟩ v1) b #[v0, v1] t := by
  refine ⟨rfl, rfl, rfl, by simp [World.setCell], by simp [World.setCell]; exact lt_of_heap h, ?_, fun k _ hk => ?_⟩
  · rw [heap_setCell_at (heap_setCell_at h _)]; rfl
  · rw [Below.heap_setCell _ _ _ _ hk, Below.heap_setCell _ _ _ _ hk]
theorem kput4 {w : World} {b : Nat} {x0 x1 x2 x3 v0 v1 v2 v3 : Value} {t : TypeId} (h : w.heap[b]? = some (.cells #[x0, x1, x2, x3] t (0, 0))) : Put w ((((w.setCell ⟨b, 0, none⟩ v0).setCell ⟨b, 1, none⟩ v1).setCell ⟨b, 2, none⟩ v2).setCell ⟨b, 3, none⟩ v3) b #[v0, v1, v2, v3] t := by
  refine ⟨rfl, rfl, rfl, by simp [World.setCell], by simp [World.setCell]; exact lt_of_heap h, ?_, fun k _ hk => ?_⟩
  · rw [heap_setCell_at (heap_setCell_at (heap_setCell_at (heap_setCell_at h _) _) _)]; rfl
  · rw [Below.heap_setCell _ _ _ _ hk, Below.heap_setCell _ _ _ _ hk, Below.heap_setCell _ _ _ _ hk, Below.heap_setCell _ _ _ _ hk]
section
variable {w W0 WW w1 wm wx : World} {F : Nat → Prop} {wb xb ab eb n cap : Nat} {S' : St} {rs : List KR} {r : KR} {e1 e2 e3 tr : Int} {P : ByteArray × Int × Int × St} {ao : Option Addr}
theorem poll_midAE (hz0 : W0.heap.size = w.heap.size + 1) (hb0 : Below w.heap.size w W0) (hR : KAt w1 (Foot F WW w1) wb xb S' rs ∧ Kept F WW w1) (hlt : ∀ k, F k → k < w.heap.size) (hr : W0.heap[w.heap.size]? = some (.cells (encK r).toArray 28 (0, 0))) (hans : PlainAns WW w1 P ao n cap tr) (hb : Below W0.heap.size W0 WW)
    (p1 : Put w1 wm ab #[.slice ao n cap, .int .i64 tr] 39) (p2 : Put wm wx eb #[.int .i64 e1, .int .i64 e2, .int .i64 e3, .bool true] 35) (h1 : W0.heap.size ≤ ab ∧ (ab < WW.heap.size ∨ w1.heap.size ≤ ab)) (h2 : W0.heap.size ≤ eb ∧ (eb < WW.heap.size ∨ w1.heap.size ≤ eb)) (hne : ab ≠ eb) : PollMid w F wb xb S' rs r e1 e2 e3 P wx ab eb := by
  have z1 := p1.size
  have z2 := p2.size
  have l1 := p1.lt
  have hA := (p2.rest ab l1 hne).trans p1.at_
  obtain ⟨a0, a1, _⟩ := cells2 hA
  obtain ⟨hE, _⟩ := cells4 p2.at_
  exact poll_mid hz0 hb0 hb hR hlt hr hans ⟨p2.os.trans p1.os, p2.tape.trans p1.tape, p2.output.trans p1.output, by omega, fun k hk hn => (p2.rest k (by omega) (fun e => hn ⟨by omega, by omega⟩)).trans (p1.rest k hk (fun e => hn ⟨by omega, by omega⟩))⟩ ⟨by omega, by omega, by omega, p2.lt⟩ ⟨a0, a1⟩ hE
theorem poll_midEA (hz0 : W0.heap.size = w.heap.size + 1) (hb0 : Below w.heap.size w W0) (hR : KAt w1 (Foot F WW w1) wb xb S' rs ∧ Kept F WW w1) (hlt : ∀ k, F k → k < w.heap.size) (hr : W0.heap[w.heap.size]? = some (.cells (encK r).toArray 28 (0, 0))) (hans : PlainAns WW w1 P ao n cap tr) (hb : Below W0.heap.size W0 WW)
    (p1 : Put w1 wm eb #[.int .i64 e1, .int .i64 e2, .int .i64 e3, .bool true] 35) (p2 : Put wm wx ab #[.slice ao n cap, .int .i64 tr] 39) (h1 : W0.heap.size ≤ eb ∧ (eb < WW.heap.size ∨ w1.heap.size ≤ eb)) (h2 : W0.heap.size ≤ ab ∧ (ab < WW.heap.size ∨ w1.heap.size ≤ ab)) (hne : eb ≠ ab) : PollMid w F wb xb S' rs r e1 e2 e3 P wx ab eb := by
  have z1 := p1.size
  have z2 := p2.size
  have l1 := p1.lt
  have hE := (p2.rest eb l1 hne).trans p1.at_
  obtain ⟨a0, a1, _⟩ := cells2 p2.at_
  obtain ⟨hE, _⟩ := cells4 hE
  exact poll_mid hz0 hb0 hb hR hlt hr hans ⟨p2.os.trans p1.os, p2.tape.trans p1.tape, p2.output.trans p1.output, by omega, fun k hk hn => (p2.rest k (by omega) (fun e => hn ⟨by omega, by omega⟩)).trans (p1.rest k hk (fun e => hn ⟨by omega, by omega⟩))⟩ ⟨by omega, p2.lt, by omega, by omega⟩ ⟨a0, a1⟩ hE
end
section
variable {W w1 : World} {F : Nat → Prop} {u0 u1 v0 v1 v2 v3 : Value}
theorem pcA (hK : Kept F (W.alloc (.cells #[u0, u1] 39)).drew w1) (hn : ∀ k, W.heap.size ≤ k → ¬ F k) : (w1.heap[W.heap.size]? = some (.cells #[u0, u1] 39 (0, 0))) ∧ W.heap.size < w1.heap.size := by
  have hz : (W.alloc (.cells #[u0, u1] 39)).drew.heap.size = W.heap.size + 1 := World.size_alloc _ _
  exact ⟨(hK.block _ (by omega) (hn _ (Nat.le_refl _))).trans (heap_alloc_new W _), by have := hK.size; omega⟩
theorem pcE (hK : Kept F (W.alloc (.cells #[v0, v1, v2, v3] 35)).drew w1) (hn : ∀ k, W.heap.size ≤ k → ¬ F k) : (w1.heap[W.heap.size]? = some (.cells #[v0, v1, v2, v3] 35 (0, 0))) ∧ W.heap.size < w1.heap.size := by
  have hz : (W.alloc (.cells #[v0, v1, v2, v3] 35)).drew.heap.size = W.heap.size + 1 := World.size_alloc _ _
  exact ⟨(hK.block _ (by omega) (hn _ (Nat.le_refl _))).trans (heap_alloc_new W _), by have := hK.size; omega⟩
theorem pcAE (hK : Kept F ((W.alloc (.cells #[u0, u1] 39)).alloc (.cells #[v0, v1, v2, v3] 35)).drew w1) (hn : ∀ k, W.heap.size ≤ k → ¬ F k) : w1.heap[W.heap.size]? = some (.cells #[u0, u1] 39 (0, 0)) ∧ w1.heap[W.heap.size + 1]? = some (.cells #[v0, v1, v2, v3] 35 (0, 0)) ∧ W.heap.size + 1 < w1.heap.size := by
  have hz : ((W.alloc (.cells #[u0, u1] 39)).alloc (.cells #[v0, v1, v2, v3] 35)).drew.heap.size = W.heap.size + 2 := by show ((W.alloc _).alloc _).heap.size = _; simp
  have e := heap_alloc_new (W.alloc (.cells #[u0, u1] 39)) (.cells #[v0, v1, v2, v3] 35)
  simp only [World.size_alloc] at e
  exact ⟨((hK.block _ (by omega) (hn _ (Nat.le_refl _))).trans (Below.heap_alloc _ _ _ (by simp))).trans (heap_alloc_new W _), (hK.block _ (by omega) (hn _ (by omega))).trans e, by have := hK.size; omega⟩
theorem pcEA (hK : Kept F ((W.alloc (.cells #[v0, v1, v2, v3] 35)).alloc (.cells #[u0, u1] 39)).drew w1) (hn : ∀ k, W.heap.size ≤ k → ¬ F k) : w1.heap[W.heap.size + 1]? = some (.cells #[u0, u1] 39 (0, 0)) ∧ w1.heap[W.heap.size]? = some (.cells #[v0, v1, v2, v3] 35 (0, 0)) ∧ W.heap.size + 1 < w1.heap.size := by
  have hz : ((W.alloc (.cells #[v0, v1, v2, v3] 35)).alloc (.cells #[u0, u1] 39)).drew.heap.size = W.heap.size + 2 := by show ((W.alloc _).alloc _).heap.size = _; simp
  have e := heap_alloc_new (W.alloc (.cells #[v0, v1, v2, v3] 35)) (.cells #[u0, u1] 39)
  simp only [World.size_alloc] at e
  exact ⟨(hK.block _ (by omega) (hn _ (by omega))).trans e, ((hK.block _ (by omega) (hn _ (Nat.le_refl _))).trans (Below.heap_alloc _ _ _ (by simp))).trans (heap_alloc_new W _), by have := hK.size; omega⟩
end
theorem kconv_nil (w : World) : (convert 37 9 (.slice none 0 0)).run Tryz.prog w = .ok (.string ⟨#[]⟩) w := by kernel_rfl
theorem kconv_row {w : World} {P : Nat → Prop} {ao : Option Addr} {n cap : Nat} {s : ByteArray} (h : Row w P 5 1 ao n cap (encB s.data.toList)) (hn : n = s.size) :
    (convert 37 9 (.slice ao n cap)).run Tryz.prog w = .ok (.string s) w := by
  have hsl : s.data.toList.length = n := by rw [hn, Array.length_toList]; rfl
  rcases h.1.2 with ⟨h0, h1⟩ | ⟨g, cap', cur, hv, _, hh, h1, h2, h3, _⟩
  · cases h0
    have e : s = ⟨#[]⟩ := by
      cases s with | mk d => cases d with | mk l => cases l with
        | nil => rfl
        | cons a l => simp at hsl
    rw [e]
    exact kconv_nil w
  · cases hv
    have e : (⟨s.data.toList.toArray⟩ : ByteArray) = s := by cases s; simp
    generalize s.data.toList = l at *
    have := run_convert_bytes_back (P := Tryz.prog) w 37 9 5 ⟨g, 0, none⟩ cap l Tryz.underlying37 Tryz.underlying5 Tryz.underlying9 (fun i hi => by
      rw [Addr.add_lit, Nat.zero_add]
      show w.cell? _ = _
      rw [Row.cellAt h i (by omega)]
      simp [encB, hi])
    rw [hsl, e] at this
    exact this
theorem encK_set (l : List KR) (i : Nat) (r : KR) (hi : i < l.length) : (((((((l.flatMap encK).set (i * 6) (.int .i64 r.num)).set (i * 6 + 1) (.bool r.write)).set (i * 6 + 2) (.int .i64 r.page)).set (i * 6 + 3) (.string r.data)).set (i * 6 + 4) (.int .i64 r.how)).set (i * 6 + 5) (.string r.read)) = (l.set i r).flatMap encK := by
  induction l generalizing i with
  | nil => simp at hi
  | cons a l ih =>
    cases i with
    | zero => simp [encK]
    | succ i =>
      have hl : (encK a).length = 6 := rfl
      have e : ∀ t, (i + 1) * 6 + t = (encK a).length + (i * 6 + t) := fun t => by rw [hl]; omega
      have e0 : (i + 1) * 6 = (encK a).length + i * 6 := by rw [hl]; omega
      rw [List.flatMap_cons, e0, List.set_append_right _ _ (by omega), Nat.add_sub_cancel_left]
      simp only [← e0]
      rw [e 1, List.set_append_right _ _ (by omega), Nat.add_sub_cancel_left, e 2, List.set_append_right _ _ (by omega), Nat.add_sub_cancel_left, e 3, List.set_append_right _ _ (by omega), Nat.add_sub_cancel_left, e 4, List.set_append_right _ _ (by omega), Nat.add_sub_cancel_left, e 5, List.set_append_right _ _ (by omega), Nat.add_sub_cancel_left, ih i (by simpa using hi)]
      simp
/-- row i of what was asked is written anew -/
theorem KAt.put {w wc wz : World} {F G : Nat → Prop} {wb xb g cr i : Nat} {S' : St} {rs : List KR} {Fx Fk : Nat → Prop} (r : KR) (hP : ProgAt wc Fx xb S') (hB : KBlk wc Fk wb xb rs (some ⟨g, 0, none⟩) cr) (hd : ∀ k, Fx k → ¬ Fk k) (hF : ∀ k, G k ↔ (Fx k ∨ Fk k)) (hG : ∀ k, G k → F k ∨ w.heap.size < k) (hlt : ∀ k, F k → k < w.heap.size) (hK : Kept F w wc) (hz : Kept (fun k => k = w.heap.size) wc wz) (hi : i < rs.length) :
    KAt ((((((wz.setCell ⟨g, i * 6, none⟩ (.int .i64 r.num)).setCell ⟨g, i * 6 + 1, none⟩ (.bool r.write)).setCell ⟨g, i * 6 + 2, none⟩ (.int .i64 r.page)).setCell ⟨g, i * 6 + 3, none⟩ (.string r.data)).setCell ⟨g, i * 6 + 4, none⟩ (.int .i64 r.how)).setCell ⟨g, i * 6 + 5, none⟩ (.string r.read)) (Foot F w ((((((wz.setCell ⟨g, i * 6, none⟩ (.int .i64 r.num)).setCell ⟨g, i * 6 + 1, none⟩ (.bool r.write)).setCell ⟨g, i * 6 + 2, none⟩ (.int .i64 r.page)).setCell ⟨g, i * 6 + 3, none⟩ (.string r.data)).setCell ⟨g, i * 6 + 4, none⟩ (.int .i64 r.how)).setCell ⟨g, i * 6 + 5, none⟩ (.string r.read))) wb xb S' (rs.set i r) ∧ Kept F w ((((((wz.setCell ⟨g, i * 6, none⟩ (.int .i64 r.num)).setCell ⟨g, i * 6 + 1, none⟩ (.bool r.write)).setCell ⟨g, i * 6 + 2, none⟩ (.int .i64 r.page)).setCell ⟨g, i * 6 + 3, none⟩ (.string r.data)).setCell ⟨g, i * 6 + 4, none⟩ (.int .i64 r.how)).setCell ⟨g, i * 6 + 5, none⟩ (.string r.read)) := by
  have hgk : Fk g := hB.row.2 _ rfl
  have hnx : ∀ k, Fx k → k ≠ g := fun k hk e => hd k hk (e ▸ hgk)
  have hnw : ∀ k, (Fx k ∨ Fk k) → k ≠ w.heap.size := fun k hk e => by
    rcases hG k ((hF k).2 hk) with h | h
    · have := hlt k h; omega
    · omega
  have hPz : ProgAt wz Fx xb S' := hP.same (fun k hk hl => hz.block k hl (hnw k (Or.inl hk))) hz.size
  have hBz : KBlk wz Fk wb xb rs (some ⟨g, 0, none⟩) cr := hB.same (fun k hk hl => hz.block k hl (hnw k (Or.inr hk))) hz.size
  have hwg : wb ≠ g := fun e => hBz.row.ne hBz.blk (by decide) _ rfl e.symm
  have hrow := (((((hBz.row.stored (i * 6) (.int .i64 r.num)).stored (i * 6 + 1) (.bool r.write)).stored (i * 6 + 2) (.int .i64 r.page)).stored (i * 6 + 3) (.string r.data)).stored (i * 6 + 4) (.int .i64 r.how)).stored (i * 6 + 5) (.string r.read)
  rw [encK_set rs i r hi] at hrow
  have hkk := (((((((Kept.refl (fun k => k = g) wz).setCell (p := ⟨g, i * 6, none⟩) (Or.inl rfl) (.int .i64 r.num)).setCell (p := ⟨g, i * 6 + 1, none⟩) (Or.inl rfl) (.bool r.write)).setCell (p := ⟨g, i * 6 + 2, none⟩) (Or.inl rfl) (.int .i64 r.page)).setCell (p := ⟨g, i * 6 + 3, none⟩) (Or.inl rfl) (.string r.data)).setCell (p := ⟨g, i * 6 + 4, none⟩) (Or.inl rfl) (.int .i64 r.how)).setCell (p := ⟨g, i * 6 + 5, none⟩) (Or.inl rfl) (.string r.read))
  have hsz : (((((((wz.setCell ⟨g, i * 6, none⟩ (.int .i64 r.num)).setCell ⟨g, i * 6 + 1, none⟩ (.bool r.write)).setCell ⟨g, i * 6 + 2, none⟩ (.int .i64 r.page)).setCell ⟨g, i * 6 + 3, none⟩ (.string r.data)).setCell ⟨g, i * 6 + 4, none⟩ (.int .i64 r.how)).setCell ⟨g, i * 6 + 5, none⟩ (.string r.read))).heap.size = wz.heap.size := by simp only [World.setCell, Array.size_modify]
  generalize (((((wz.setCell ⟨g, i * 6, none⟩ (.int .i64 r.num)).setCell ⟨g, i * 6 + 1, none⟩ (.bool r.write)).setCell ⟨g, i * 6 + 2, none⟩ (.int .i64 r.page)).setCell ⟨g, i * 6 + 3, none⟩ (.string r.data)).setCell ⟨g, i * 6 + 4, none⟩ (.int .i64 r.how)).setCell ⟨g, i * 6 + 5, none⟩ (.string r.read) = W6 at *
  have z1 := hK.size
  have z2 := hz.size
  have hgG : F g ∨ w.heap.size < g := hG g ((hF g).2 (Or.inr hgk))
  have hB6 : KBlk W6 Fk wb xb (rs.set i r) (some ⟨g, 0, none⟩) cr := ⟨hBz.own, by rw [hkk.block wb (lt_of_heap hBz.blk) hwg, List.length_set]; exact hBz.blk, by rw [List.length_set]; exact hrow, fun k hk => by rw [hsz]; exact hBz.ltF k hk⟩
  have hP6 : ProgAt W6 Fx xb S' := hPz.same (fun k hk hl => hkk.block k hl (hnx k hk)) hkk.size
  have hA : KAt W6 G wb xb S' (rs.set i r) := ⟨Fx, Fk, _, _, hP6, hB6, hd, hF⟩
  refine ⟨hA.wid (fun k hk => ?_) (Foot.lt hlt (by omega)), ⟨hkk.os.trans (hz.os.trans hK.os), hkk.tape.trans (hz.tape.trans hK.tape), hkk.output.trans (hz.output.trans hK.output), by omega, fun k hk hn => ?_⟩⟩
  · rcases hG k hk with h | h
    · exact Or.inl h
    · have := hA.lt k hk
      exact Or.inr ⟨by omega, by omega⟩
  · rw [hkk.block k (by omega) (fun e => ?_), hz.block k (by omega) (fun e => by omega)]
    · exact hK.block k hk hn
    · subst e
      rcases hgG with h | h
      · exact hn h
      · omega
theorem kat_drew {w W : World} {F : Nat → Prop} {wb xb : Nat} {S : St} {rs : List KR} (h : KAt W (Foot F w W) wb xb S rs ∧ Kept F w W) : KAt W.drew (Foot F w W.drew) wb xb S rs ∧ Kept F w W.drew := ⟨h.1.same (fun _ _ _ => rfl) (Nat.le_refl _), h.2.drew⟩
/-- what poll makes of what was asked: the answer (its text, tries, kind), what stands then -/
def PollOut (r : KR) (s : ByteArray) (tr k : Int) (r' : KR) : Prop :=
  (k = 0 ∧ r.write = decide (s.size = 0) ∧ 1 ≤ tr ∧ tr ≤ 4 ∧ r' = { r with how := 1, read := s }) ∨ (k = 7 ∧ tr = 4 ∧ r' = { r with how := 2 }) ∨ (k = 6 ∧ 0 ≤ tr ∧ tr ≤ 3 ∧ r.how = 0 ∧ r' = r) ∨ ((k = 8 ∨ k = 5) ∧ (r.how = 3 ∨ r.how = 4) ∧ r' = r)
set_option maxHeartbeats 4000000 in
set_option maxRecDepth 1000000 in
theorem keep_poll (S S' : St) (s : ByteArray) (tr k e1 e2 e3 : Int) (r r' : KR) (rs : List KR) (F : Nat → Prop) (wb xb i : Nat) (w : World) (h : KAt w F wb xb S rs) (hg : GCell w) (h0 : ¬ F 0) (hi : i < rs.length) (hr : rs[i] = r) (hl : rs.length ≤ 100000) (hw : (Lit.int .i64 r.num).wf = true) (hh : r.how ≠ 1 ∧ r.how ≠ 2) (hp : pollM S r.num = (s, tr, k, S')) (he : plainErr S r.num = (e1, e2, e3)) (ho : PollOut r s tr k r') :
    Calls Tryz.prog 19 #[.pointer (some ⟨wb, 0, none⟩), .int .i64 (i : Int)] w fun e w' => e = .returned (.bool true) ∧ KAt w' (Foot F w w') wb xb S' (rs.set i r') ∧ Kept F w w' := by
  have hE : Hid ((e1, e2, e3) = if k = 0 then (0, -1, 0) else if k = 5 then (5, -1, 0) else (k, r.num, tr)) := by
    rw [Hid, ← he]; unfold plainErr pollErr; rw [hp]
  have HO := hide ho
  clear ho
  have HK := hide h
  obtain ⟨Fx, Fk, ar, cr, hP, hB, hd, hF⟩ := h
  obtain ⟨g, cur, hgg, hgF, hgb, _, _⟩ := Row.some hB.row (by omega)
  subst hgg
  have c0 := hB.c0
  have c1 := hB.c1
  have hq : ∀ t, t < 6 → w.cell? ⟨g, i * 6 + t, none⟩ = (encK rs[i])[t]? := fun t ht => by rw [Row.cellAt hB.row (i * 6 + t) (by omega), encK_at rs i t hi ht]
  rw [hr] at hq
  have q0 : w.cell? ⟨g, i * 6, none⟩ = some (.int .i64 r.num) := hq 0 (by omega)
  have q1 : w.cell? ⟨g, i * 6 + 1, none⟩ = some (.bool r.write) := hq 1 (by omega)
  have q2 : w.cell? ⟨g, i * 6 + 2, none⟩ = some (.int .i64 r.page) := hq 2 (by omega)
  have q3 : w.cell? ⟨g, i * 6 + 3, none⟩ = some (.string r.data) := hq 3 (by omega)
  have q4 : w.cell? ⟨g, i * 6 + 4, none⟩ = some (.int .i64 r.how) := hq 4 (by omega)
  have q5 : w.cell? ⟨g, i * 6 + 5, none⟩ = some (.string r.read) := hq 5 (by omega)
  have hb0 := hide (alloc_below w (.cells #[.int .i64 r.num, .bool r.write, .int .i64 r.page, .string r.data, .int .i64 r.how, .string r.read] 28))
  have hii : (i : Int) < (rs.length : Int) := by omega
  have n1 : (r.how == 1) = false := beq_eq_false_iff_ne.2 hh.1
  have n2 : (r.how == 2) = false := beq_eq_false_iff_ne.2 hh.2
  have hwl : wb < w.heap.size := lt_of_heap hB.blk
  have hlt : Hid (∀ k, F k → k < w.heap.size) := HK.out.lt
  have HCall : Hid (∀ WW, Below (w.heap.size + 1) (w.alloc (.cells #[.int .i64 r.num, .bool r.write, .int .i64 r.page, .string r.data, .int .i64 r.how, .string r.read] 28)) WW → Calls Tryz.prog 10 #[.pointer (some ⟨xb, 0, none⟩), .int .i64 r.num] WW fun e w1 => (∃ ao n cap t, e = .returned (.tuple #[.agg #[.slice ao n cap, .int .i64 t], .agg #[.int .i64 e1, .int .i64 e2, .int .i64 e3, .bool true]]) ∧ PlainAns WW w1 (s, tr, k, S') ao n cap t) ∧ (w1.cell? ⟨wb, 0, none⟩ = some (.pointer (some ⟨xb, 0, none⟩)) ∧ w1.cell? ⟨w.heap.size, 0, none⟩ = some (.int .i64 r.num) ∧ w.heap.size + 1 ≤ w1.heap.size) ∧ KAt w1 (Foot F WW w1) wb xb S' rs ∧ Kept F WW w1) := fun WW hb => by
    have hb1 : Below w.heap.size w WW := (alloc_below w _).trans (hb.mono (by omega))
    have := keep_plainPoll S rs F wb xb r.num WW (HK.out.below hb1) (hg.below hb1) h0 hw
    rw [hp, he] at this
    refine this.mono ?_
    rintro e w1 ⟨h1, h2, h3⟩
    have hz := hb.size
    simp only [World.size_alloc] at hz
    refine ⟨h1, ⟨h2.q0.1, (h3.cell (p := ⟨w.heap.size, 0, none⟩) (by show w.heap.size < _; omega) (fun e => by have := HK.out.lt _ e; exact absurd this (Nat.lt_irrefl _))).trans ?_, by have := h3.size; omega⟩, h2, h3⟩
    rw [hb.cell (p := ⟨w.heap.size, 0, none⟩) (by show w.heap.size < _; omega)]
    simp
  clear hq hgb hP hB hd hF hh
  go_enter Tryz.func19, Tryz.ntmps19
  go_wp2_with fail
  have HR0 : Hid ((w.alloc (.cells #[.int .i64 r.num, .bool r.write, .int .i64 r.page, .string r.data, .int .i64 r.how, .string r.read] 28)).heap[w.heap.size]? = some (.cells (encK r).toArray 28 (0, 0))) := heap_alloc_new w _
  have hz0 : (w.alloc (.cells #[.int .i64 r.num, .bool r.write, .int .i64 r.page, .string r.data, .int .i64 r.how, .string r.read] 28)).heap.size = w.heap.size + 1 := by simp
  have d0 : (w.alloc (.cells #[.int .i64 r.num, .bool r.write, .int .i64 r.page, .string r.data, .int .i64 r.how, .string r.read] 28)).cell? ⟨wb, 0, none⟩ = some (.pointer (some ⟨xb, 0, none⟩)) := (hb0.out.cell (p := ⟨wb, 0, none⟩) hwl).trans c0
  have d1 : (w.alloc (.cells #[.int .i64 r.num, .bool r.write, .int .i64 r.page, .string r.data, .int .i64 r.how, .string r.read] 28)).cell? ⟨w.heap.size, 0, none⟩ = some (.int .i64 r.num) := by simp
  generalize w.alloc (.cells #[.int .i64 r.num, .bool r.write, .int .i64 r.page, .string r.data, .int .i64 r.how, .string r.read] 28) = W0 at *
  have hwW : wb < W0.heap.size := by omega
  have hwW1 : w.heap.size < W0.heap.size := by omega
  have HZ0 := hide hz0
  have ne0 : W0.heap.size ≠ wb := by omega
  have ne1 : W0.heap.size ≠ w.heap.size := by omega
  have ne2 : W0.heap.size + 1 ≠ wb := by omega
  have ne3 : W0.heap.size + 1 ≠ w.heap.size := by omega
  rw [← hz0] at HCall
  have HN : Hid (∀ k, W0.heap.size ≤ k → ¬ F k) := fun k hk e => by have := hlt.out k e; omega
  clear q0 q1 q2 q3 q4 q5 c0 c1 n1 n2 hii hp he hz0 hwl
  go_cut [6, 7] from 9 (fun va ve wx => ∃ ab eb, va = .pointer (some ⟨ab, 0, none⟩) ∧ ve = .pointer (some ⟨eb, 0, none⟩) ∧ Hid (PollMid w F wb xb S' rs r e1 e2 e3 (s, tr, k, S') wx ab eb))
  case first =>
    go_region_held3 (fun W => W.cell? ⟨wb, 0, none⟩ = some (.pointer (some ⟨xb, 0, none⟩)) ∧ W.cell? ⟨w.heap.size, 0, none⟩ = some (.int .i64 r.num)) (go_keep)
      (first | (go_at_call 10; refine (HCall.out _ ?_).mono ?_; (first | exact (Below.refl _ _).drew | exact (alloc_below _ _).drew | exact ((alloc_below _ _).trans ((alloc_below _ _).mono (by simp))).drew); rintro e w1 ⟨⟨ao, n, cap, t', rfl, hans⟩, ⟨hc0, hc1, zz⟩, hR⟩; have HR := hide hR; have HAN := hide hans; clear hR hans; (first | (obtain ⟨pa, pe, pz⟩ := pcAE HR.out.2 HN.out; obtain ⟨a0, a1, a2, a3⟩ := cells2 pa; obtain ⟨⟨b0, b1, b2, b3⟩, b4, b5, b6, b7⟩ := cells4 pe; have PA := hide pa; have PE := hide pe; clear pa pe) | (obtain ⟨pa, pe, pz⟩ := pcEA HR.out.2 HN.out; obtain ⟨a0, a1, a2, a3⟩ := cells2 pa; obtain ⟨⟨b0, b1, b2, b3⟩, b4, b5, b6, b7⟩ := cells4 pe; have PA := hide pa; have PE := hide pe; clear pa pe) | (obtain ⟨pa, pz⟩ := pcA HR.out.2 HN.out; obtain ⟨a0, a1, a2, a3⟩ := cells2 pa; have PA := hide pa; clear pa) | (obtain ⟨pe, pz⟩ := pcE HR.out.2 HN.out; obtain ⟨⟨b0, b1, b2, b3⟩, b4, b5, b6, b7⟩ := cells4 pe; have PE := hide pe; clear pe) | skip)))
    all_goals go_wp2_with fail
    all_goals go_meet
    all_goals go_light
    all_goals clear HCall
    all_goals have z0 := HZ0.out
    all_goals refine ⟨_, _, rfl, rfl, ?_⟩
    · exact poll_midAE HZ0.out hb0.out HR.out hlt.out HR0.out HAN.out (Below.refl _ _).drew (kput_alloc rfl) (kput_alloc (by simp)) ⟨by omega, Or.inr (Nat.le_refl _)⟩ ⟨by omega, Or.inr (by omega)⟩ (by omega)
    · exact poll_midEA HZ0.out hb0.out HR.out hlt.out HR0.out HAN.out (Below.refl _ _).drew (kput_alloc rfl) (kput_alloc (by simp)) ⟨by omega, Or.inr (Nat.le_refl _)⟩ ⟨by omega, Or.inr (by omega)⟩ (by omega)
    · exact poll_midAE HZ0.out hb0.out HR.out hlt.out HR0.out HAN.out (alloc_below _ _).drew (kput2 PA.out) (kput_alloc (by simp [World.setCell])) ⟨by omega, Or.inl (lt_alloc1 _ _)⟩ ⟨by omega, Or.inr (Nat.le_refl _)⟩ (by omega)
    · exact poll_midAE HZ0.out hb0.out HR.out hlt.out HR0.out HAN.out ((alloc_below _ _).trans ((alloc_below _ _).mono (by simp))).drew (kput2 PA.out) (kput4 (((kput2 PA.out).rest _ pz (by omega)).trans PE.out)) ⟨by omega, Or.inl (lt_alloc2 _ _ _).1⟩ ⟨by omega, Or.inl (lt_alloc2 _ _ _).2⟩ (by omega)
    · exact poll_midEA HZ0.out hb0.out HR.out hlt.out HR0.out HAN.out (alloc_below _ _).drew (kput4 PE.out) (kput_alloc (by simp [World.setCell])) ⟨by omega, Or.inl (lt_alloc1 _ _)⟩ ⟨by omega, Or.inr (Nat.le_refl _)⟩ (by omega)
    · exact poll_midAE HZ0.out hb0.out HR.out hlt.out HR0.out HAN.out ((alloc_below _ _).trans ((alloc_below _ _).mono (by simp))).drew (kput2 PA.out) (kput4 (((kput2 PA.out).rest _ (by omega) (by omega)).trans PE.out)) ⟨by omega, Or.inl (lt_alloc2 _ _ _).2⟩ ⟨by omega, Or.inl (lt_alloc2 _ _ _).1⟩ (by omega)
  case rest =>
    obtain ⟨ab, eb, rfl, rfl, hmid⟩ := hcut
    obtain ⟨G, ao, n, cap, tr', ⟨⟨Fx', Fk', ar', cr', hP', hB', hd', hF'⟩, hG⟩, hKk, hrb, ⟨s1, s2, s3, s4⟩, ⟨a0, a1⟩, ⟨b0, b1, b2, b3⟩, hans⟩ := hmid.out
    obtain ⟨g', cur', hgg', hgF', hgb', _, _⟩ := Row.some hB'.row (by omega)
    subst hgg'
    have FIN : Hid (∀ (wz : World) (r' : KR), Kept (fun k => k = w.heap.size) wc wz → KAt ((((((wz.setCell ⟨g', i * 6, none⟩ (.int .i64 r'.num)).setCell ⟨g', i * 6 + 1, none⟩ (.bool r'.write)).setCell ⟨g', i * 6 + 2, none⟩ (.int .i64 r'.page)).setCell ⟨g', i * 6 + 3, none⟩ (.string r'.data)).setCell ⟨g', i * 6 + 4, none⟩ (.int .i64 r'.how)).setCell ⟨g', i * 6 + 5, none⟩ (.string r'.read)) (Foot F w ((((((wz.setCell ⟨g', i * 6, none⟩ (.int .i64 r'.num)).setCell ⟨g', i * 6 + 1, none⟩ (.bool r'.write)).setCell ⟨g', i * 6 + 2, none⟩ (.int .i64 r'.page)).setCell ⟨g', i * 6 + 3, none⟩ (.string r'.data)).setCell ⟨g', i * 6 + 4, none⟩ (.int .i64 r'.how)).setCell ⟨g', i * 6 + 5, none⟩ (.string r'.read))) wb xb S' (rs.set i r') ∧ Kept F w ((((((wz.setCell ⟨g', i * 6, none⟩ (.int .i64 r'.num)).setCell ⟨g', i * 6 + 1, none⟩ (.bool r'.write)).setCell ⟨g', i * 6 + 2, none⟩ (.int .i64 r'.page)).setCell ⟨g', i * 6 + 3, none⟩ (.string r'.data)).setCell ⟨g', i * 6 + 4, none⟩ (.int .i64 r'.how)).setCell ⟨g', i * 6 + 5, none⟩ (.string r'.read))) := fun wz r' hz => KAt.put r' hP' hB' hd' hF' hG hlt.out hKk hz hi
    have hzc : w.heap.size < wc.heap.size := lt_of_heap hrb
    have hwl : wb < wc.heap.size := lt_of_heap hB'.blk
    have hgl : g' < wc.heap.size := lt_of_heap hgb'
    have hgw : g' ≠ w.heap.size := fun e => by
      rcases hG g' ((hF' g').2 (Or.inr hgF')) with h | h
      · have := hlt.out _ h; omega
      · omega
    have hbw : wb ≠ w.heap.size := fun e => by
      rcases hG wb ((hF' wb).2 (Or.inr hB'.own)) with h | h
      · have := hlt.out _ h; omega
      · omega
    have HC : Hid (∀ wz, Kept (fun k => k = w.heap.size) wc wz → (wz.cell? ⟨wb, 1, none⟩ = some (.slice (some ⟨g', 0, none⟩) rs.length cr') ∧ wb < wz.heap.size) ∧ (∃ x0 x1 x2 x3 x4 x5, wz.cell? ⟨g', i * 6, none⟩ = some x0 ∧ wz.cell? ⟨g', i * 6 + 1, none⟩ = some x1 ∧ wz.cell? ⟨g', i * 6 + 2, none⟩ = some x2 ∧ wz.cell? ⟨g', i * 6 + 3, none⟩ = some x3 ∧ wz.cell? ⟨g', i * 6 + 4, none⟩ = some x4 ∧ wz.cell? ⟨g', i * 6 + 5, none⟩ = some x5) ∧ ∀ j, wz.frozen? ⟨g', j, none⟩ = false) := fun wz hz => by
      have hq : ∀ t, t < 6 → wz.cell? ⟨g', i * 6 + t, none⟩ = (encK rs[i])[t]? := fun t ht => by
        rw [hz.cell (p := ⟨g', i * 6 + t, none⟩) hgl hgw, Row.cellAt hB'.row (i * 6 + t) (by omega), encK_at rs i t hi ht]
      exact ⟨⟨(hz.cell (p := ⟨wb, 1, none⟩) hwl hbw).trans hB'.c1, by have := hz.size; omega⟩, ⟨_, _, _, _, _, _, hq 0 (by omega), hq 1 (by omega), hq 2 (by omega), hq 3 (by omega), hq 4 (by omega), hq 5 (by omega)⟩, fun j => (hz.frozen (p := ⟨g', j, none⟩) hgl hgw).trans (hB'.row.frozenAt j)⟩
    have HRB := hide hrb
    have HANS := hide hans
    have hii : (i : Int) < (rs.length : Int) := by omega
    clear hans hrb hP' hB' hd' hF' hG hKk hmid HCall hb0 HR0 HN d0 d1 ne0 ne1 ne2 ne3
    go_wp2_with fail
    refine (keep_fine e1 e2 e3 _).mono ?_
    rintro e w2 ⟨rfl, hb2⟩
    have hz2 := hb2.size
    have HK2 : Hid (Kept (fun k => k = w.heap.size) wc w2) := Go.Proofs.YtiabdbeejkadnabGreatDoor.Below.kept hb2 _
    have hrb2 := (hb2.block _ hzc).trans HRB.out
    obtain ⟨⟨r0, r1, r2, r3, r4, r5⟩, rf⟩ := six hrb2
    have rf4 := rf 4
    have rf5 := rf 5
    have a0' := (hb2.cell (p := ⟨ab, 0, none⟩) s2).trans a0
    have a1' := (hb2.cell (p := ⟨ab, 1, none⟩) s2).trans a1
    have b0' := (hb2.cell (p := ⟨eb, 0, none⟩) s4).trans b0
    have b1' := (hb2.cell (p := ⟨eb, 1, none⟩) s4).trans b1
    have b2' := (hb2.cell (p := ⟨eb, 2, none⟩) s4).trans b2
    have sw : w.heap.size < w2.heap.size := by omega
    have sa : ab < w2.heap.size := by omega
    have se : eb < w2.heap.size := by omega
    have na : ab ≠ w.heap.size := by omega
    have ne : eb ≠ w.heap.size := by omega
    have HAN2 : Hid (PlainAns w w2 (s, tr, k, S') ao n cap tr') := by
      rcases HANS.out with h | ⟨x1, x2, x3, x4, x5⟩
      · exact Or.inl h
      · refine Or.inr ⟨x1, x2, x3, x4, x5.same fun a ha => ?_⟩
        obtain ⟨cu, hcu, _⟩ := x5.block ha
        exact hb2.block _ (lt_of_heap hcu)
    have HRB2 := hide hrb2
    clear hrb2 rf hb2 a0 a1 b0 b1 b2 b3 HANS HRB
    rcases HO.out with ⟨hk, hwr, ht1, ht2, hr'⟩ | ⟨hk, ht, hr'⟩ | ⟨hk, ht1, ht2, hh, hr'⟩ | ⟨hk, hh, hr'⟩
    · subst hk hr'
      have := hE.out
      rw [if_pos rfl] at this
      cases this
      have ef : fineB 0 (-1) 0 = true := rfl
      rw [ef]
      obtain ⟨hz, _⟩ | ⟨_, htt, hnn, hn4, hrow⟩ := HAN2.out
      · exact absurd rfl hz
      replace htt : tr' = tr := htt
      replace hnn : n = s.size := hnn
      replace hrow : Row w2 (fun k => w.heap.size ≤ k) 5 1 ao n cap (encB s.data.toList) := hrow
      subst htt
      have hcv : (convert 37 9 (.slice ao n cap)).run Tryz.prog (w2.setCell ⟨w.heap.size, 4, none⟩ (.int .i64 1)) = .ok (.string s) (w2.setCell ⟨w.heap.size, 4, none⟩ (.int .i64 1)) := kconv_row (hrow.setCell_other (hrow.ne HRB2.out (by decide)) _) hnn
      have HWZ : Hid (r.write = ((n : Int) == 0)) := by
        rw [Hid, hwr, hnn]
        by_cases h : s.size = 0
        · simp [h]
        · simp [h]
      obtain ⟨⟨c1, wl⟩, ⟨x0, x1, x2, x3, x4, x5, y0, y1, y2, y3, y4, y5⟩, yf⟩ := HC.out w2 HK2.out
      have HU := hide (FIN.out ((w2.setCell ⟨w.heap.size, 4, none⟩ (.int .i64 1)).setCell ⟨w.heap.size, 5, none⟩ (.string s)) { r with how := 1, read := s } ((HK2.out.setCell (Or.inl rfl) _).setCell (Or.inl rfl) _))
      clear hE HO FIN HC hrow HAN2 hnn hwr
      go_wp2_with fail
      · go_region_with (fail)
        all_goals go_wp2
        all_goals go_ret
        all_goals rw [← HWZ.out]
        all_goals exact ⟨rfl, kat_drew HU.out⟩
    · subst hk ht hr'
      have := hE.out
      rw [if_neg (by decide), if_neg (by decide)] at this
      cases this
      have ef : fineB 7 r.num 4 = false := rfl
      rw [ef]
      obtain ⟨⟨c1, wl⟩, ⟨x0, x1, x2, x3, x4, x5, y0, y1, y2, y3, y4, y5⟩, yf⟩ := HC.out w2 HK2.out
      have HU := hide (FIN.out (w2.setCell ⟨w.heap.size, 4, none⟩ (.int .i64 2)) { r with how := 2 } (HK2.out.setCell (Or.inl rfl) _))
      have hnn : (r.num != r.num) = false := by simp
      clear hE HO FIN HC HAN2
      go_wp2_with fail
      go_region_with (fail)
      all_goals go_wp2
      all_goals go_ret
      all_goals exact ⟨rfl, kat_drew HU.out⟩
    · subst hk hr'
      have := hE.out
      rw [if_neg (by decide), if_neg (by decide)] at this
      cases this
      have ef : fineB 6 r'.num tr = false := rfl
      rw [ef]
      obtain ⟨⟨c1, wl⟩, ⟨x0, x1, x2, x3, x4, x5, y0, y1, y2, y3, y4, y5⟩, yf⟩ := HC.out w2 HK2.out
      have HU := hide (FIN.out w2 r' HK2.out)
      have hnn : (r'.how != 0) = false := by simp [hh]
      clear hE HO FIN HC HAN2 hh
      go_wp2_with fail
      go_region_with (fail)
      all_goals go_wp2
      all_goals go_ret
      all_goals exact ⟨rfl, kat_drew HU.out⟩
    · subst hr'
      obtain ⟨⟨c1, wl⟩, ⟨x0, x1, x2, x3, x4, x5, y0, y1, y2, y3, y4, y5⟩, yf⟩ := HC.out w2 HK2.out
      have HU := hide (FIN.out w2 r' HK2.out)
      have hhow : ((r'.how != 3) = false ∧ True) ∨ ((r'.how != 3) = true ∧ (r'.how != 4) = false) := by
        rcases hh with h | h
        · exact Or.inl ⟨by simp [h], trivial⟩
        · exact Or.inr ⟨by simp [h], by simp [h]⟩
      have hEE := hE.out
      clear HO FIN HC HAN2 hh hE
      rcases hk with hk | hk
      · subst hk
        rw [if_neg (by decide), if_neg (by decide)] at hEE
        cases hEE
        have ef : fineB 8 r'.num tr = false := rfl
        rw [ef]
        rcases hhow with ⟨h1, _⟩ | ⟨h1, h2⟩
        · go_wp2_with fail
          go_region_with (fail)
          all_goals go_wp2
          all_goals go_ret
          all_goals exact ⟨rfl, kat_drew HU.out⟩
        · go_wp2_with fail
          go_region_with (fail)
          all_goals go_wp2
          all_goals go_ret
          all_goals exact ⟨rfl, kat_drew HU.out⟩
      · subst hk
        rw [if_neg (by decide), if_pos rfl] at hEE
        cases hEE
        have ef : fineB 5 (-1) 0 = false := rfl
        rw [ef]
        rcases hhow with ⟨h1, _⟩ | ⟨h1, h2⟩
        · go_wp2_with fail
          go_region_with (fail)
          all_goals go_wp2
          all_goals go_ret
          all_goals exact ⟨rfl, kat_drew HU.out⟩
        · go_wp2_with fail
          go_region_with (fail)
          all_goals go_wp2
          all_goals go_ret
          all_goals exact ⟨rfl, kat_drew HU.out⟩
/-- what was answered already -/
theorem keep_poll_told (S : St) (r : KR) (rs : List KR) (F : Nat → Prop) (wb xb i : Nat) (w : World) (h : KAt w F wb xb S rs) (hi : i < rs.length) (hr : rs[i] = r) (hl : rs.length ≤ 100000) (hh : r.how = 1 ∨ r.how = 2) :
    Calls Tryz.prog 19 #[.pointer (some ⟨wb, 0, none⟩), .int .i64 (i : Int)] w fun e w' => e = .returned (.bool true) ∧ KAt w' (Foot F w w') wb xb S rs ∧ Kept F w w' := by
  have HK := hide h
  obtain ⟨Fx, Fk, ar, cr, hP, hB, hd, hF⟩ := h
  obtain ⟨g, cur, hgg, hgF, hgb, _, _⟩ := Row.some hB.row (by omega)
  subst hgg
  have c0 := hB.c0
  have c1 := hB.c1
  have hq : ∀ t, t < 6 → w.cell? ⟨g, i * 6 + t, none⟩ = (encK rs[i])[t]? := fun t ht => by rw [Row.cellAt hB.row (i * 6 + t) (by omega), encK_at rs i t hi ht]
  rw [hr] at hq
  have q0 : w.cell? ⟨g, i * 6, none⟩ = some (.int .i64 r.num) := hq 0 (by omega)
  have q1 : w.cell? ⟨g, i * 6 + 1, none⟩ = some (.bool r.write) := hq 1 (by omega)
  have q2 : w.cell? ⟨g, i * 6 + 2, none⟩ = some (.int .i64 r.page) := hq 2 (by omega)
  have q3 : w.cell? ⟨g, i * 6 + 3, none⟩ = some (.string r.data) := hq 3 (by omega)
  have q4 : w.cell? ⟨g, i * 6 + 4, none⟩ = some (.int .i64 r.how) := hq 4 (by omega)
  have q5 : w.cell? ⟨g, i * 6 + 5, none⟩ = some (.string r.read) := hq 5 (by omega)
  have hb0 := hide (alloc_below w (.cells #[.int .i64 r.num, .bool r.write, .int .i64 r.page, .string r.data, .int .i64 r.how, .string r.read] 28))
  have hii : (i : Int) < (rs.length : Int) := by omega
  have HU : Hid (KAt (w.alloc (.cells #[.int .i64 r.num, .bool r.write, .int .i64 r.page, .string r.data, .int .i64 r.how, .string r.read] 28)) (Foot F w (w.alloc (.cells #[.int .i64 r.num, .bool r.write, .int .i64 r.page, .string r.data, .int .i64 r.how, .string r.read] 28))) wb xb S rs ∧ Kept F w (w.alloc (.cells #[.int .i64 r.num, .bool r.write, .int .i64 r.page, .string r.data, .int .i64 r.how, .string r.read] 28))) := ⟨(HK.out.below hb0.out).wid Foot.of (Foot.lt HK.out.lt hb0.out.size), Go.Proofs.YtiabdbeejkadnabGreatDoor.Below.kept hb0.out F⟩
  have hwl : wb < w.heap.size := lt_of_heap hB.blk
  clear hq hgb hP hB hd hF HK hb0
  rcases hh with hh | hh
  · have n1 : (r.how == 1) = true := by simp [hh]
    clear hh
    go_enter Tryz.func19, Tryz.ntmps19
    go_wp2
    go_ret
    exact ⟨rfl, HU.out⟩
  · have n1 : (r.how == 1) = false := by simp [hh]
    have n2 : (r.how == 2) = true := by simp [hh]
    clear hh
    go_enter Tryz.func19, Tryz.ntmps19
    go_wp2
    go_ret
    exact ⟨rfl, HU.out⟩
end Go.Proofs.YtiabdbeejkadnabGreatDoor
