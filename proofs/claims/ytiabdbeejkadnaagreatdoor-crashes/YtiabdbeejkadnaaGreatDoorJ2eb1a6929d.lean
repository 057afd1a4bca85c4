import Derived.Test.YtiabdbeejkadnaaGreatDoorJd73c6ff87f
import Derived.Deep.RegionHeld3
import Derived.Deep.Cut
/- The reference queue: next. Own work of the verifier. -/
namespace Go.Proofs.YtiabdbeejkadnaaGreatDoor
open Go.RowKit

theorem own_relR {e : TypeId} {size : Nat} {w wr w2 : World} {ao : Option Addr} {n m cap g cap' : Nat} {xs news : List Value} (hb : Below w.heap.size w wr) (hrow : Row wr (fun b => w.heap.size ≤ b) e size ao n cap xs)
    (hgrow : wr.grownBy w2 (Value.ownBlock (.slice ao n cap))) (hown : w2.ownsRow 0 e size (.slice (some ⟨g, 0, none⟩) (n + m) cap') (n + m) (xs ++ news)) (hat : Value.ownBlock (.slice ao n cap) = some g ∨ g = wr.heap.size) :
    Below w.heap.size w w2 ∧ Row w2 (fun b => w.heap.size ≤ b) e size (some ⟨g, 0, none⟩) (n + m) cap' (xs ++ news) := by
  have hob : ∀ k, Value.ownBlock (.slice ao n cap) = some k → w.heap.size ≤ k := by
    intro k hk
    cases ao with
    | none => simp [Value.ownBlock] at hk
    | some a => have := hrow.2 a rfl; simp [Value.ownBlock] at hk; omega
  refine ⟨hb.grown hgrow hb.size hob, hown, fun a ha => ?_⟩
  cases ha
  rcases hat with e | e
  · exact hob g e
  · have := hb.size; show w.heap.size ≤ g; omega
theorem row_off {W : World} {Fp : Nat → Prop} {e t : TypeId} {size : Nat} {ao : Option Addr} {n cap b : Nat} {xs : List Value} {cs : Array Value} (h : Row W Fp e size ao n cap xs) (hb : W.heap[b]? = some (.cells cs t (0, 0))) (hne : e ≠ t) : some b ≠ Value.ownBlock (.slice ao n cap) := by
  cases ao with
  | none => simp [Value.ownBlock]
  | some a =>
    intro he
    have : a.block ≠ b := h.ne hb hne a rfl
    simp [Value.ownBlock] at he
    exact this he.symm
theorem grow_end {S : St} {p : Int} {b : Bool} {m : Nat} {cnt : Int} {L : List Int} (h : m = 0 ∨ ¬ (cnt < 4 ∧ p + cnt < 16) ∨ groupM S (p + cnt) b = []) : growM S p b m cnt L = (cnt, L) := by
  cases m with
  | zero => rfl
  | succ m =>
    unfold growM
    rcases h with h | h | h
    · omega
    · rw [if_neg h]
    · split
      · first | rfl | rw [if_pos h]
      · rfl
theorem grow_step {S : St} {p : Int} {b : Bool} {m : Nat} {cnt : Int} {L : List Int} (h1 : cnt < 4 ∧ p + cnt < 16) (h2 : groupM S (p + cnt) b ≠ []) : growM S p b (m + 1) cnt L = growM S p b m (cnt + 1) (L ++ groupM S (p + cnt) b) := by
  show (if cnt < 4 ∧ p + cnt < 16 then _ else _) = _
  rw [if_pos h1, if_neg h2]
theorem group_len (S : St) (p : Int) (b : Bool) : (groupM S p b).length ≤ S.reqs.length := by
  rw [← groupTo_all S p b (Nat.le_refl _)]; exact groupTo_len S p b _
theorem quad {w : World} {b : Nat} {x0 x1 x2 x3 : Value} {t : TypeId} (h : w.heap[b]? = some (.cells #[x0, x1, x2, x3] t (0, 0))) : (w.cell? ⟨b, 0, none⟩ = some x0 ∧ w.cell? ⟨b, 1, none⟩ = some x1 ∧ w.cell? ⟨b, 2, none⟩ = some x2 ∧ w.cell? ⟨b, 3, none⟩ = some x3) ∧ w.frozen? ⟨b, 0, none⟩ = false ∧ w.frozen? ⟨b, 1, none⟩ = false ∧ w.frozen? ⟨b, 2, none⟩ = false ∧ w.frozen? ⟨b, 3, none⟩ = false := by simp [World.cell?, World.frozen?, h]
/-- what next answers -/
def NextIs (S : St) (w : World) (e : Ending) (w' : World) : Prop :=
  match nextM S with
  | none => e = .returned (.tuple #[.agg #[.bool false, .int .i64 0, .int .i64 0, .slice none 0 0], .bool false])
  | some c => ∃ ao n cap, e = .returned (.tuple #[.agg #[.bool c.write, .int .i64 c.page, .int .i64 c.count, .slice ao n cap], .bool true]) ∧ n = c.requests.length ∧ Row w' (fun b => w.heap.size ≤ b) 3 1 ao n cap (encI c.requests)
theorem pageM_is {S : St} {p : Int} (h : pageM S = some p) : (0 ≤ p ∧ p < 16) ∧ ∃ k, ∃ _ : k < S.reqs.length, firstM S p = some k := by
  obtain ⟨j, h1, h2, h3, h4, h5⟩ := pageGo_some h
  obtain ⟨k, hk⟩ := Option.isSome_iff_exists.1 h4
  obtain ⟨hkl, _⟩ := firstM_some hk
  exact ⟨by omega, k, hkl, hk⟩
set_option maxHeartbeats 2000000 in
set_option maxRecDepth 1000000 in
theorem ref_next_none (S : St) (F : Nat → Prop) (mb : Nat) (w : World) (h : RefAt w F mb S) (hs : S.reqs.Pairwise (fun a b => a.num < b.num)) (hr : S.reqs.length ≤ 1000000) (hh : 0 ≤ S.head ∧ S.head ≤ 16) (_hfl : S.flights.length ≤ 1000000) (hno : nextM S = none) :
    Calls Tryz.prog 113 #[.pointer (some ⟨mb, 0, none⟩)] w fun e w' => e = .returned (.tuple #[.agg #[.bool false, .int .i64 0, .int .i64 0, .slice none 0 0], .bool false]) ∧ Below w.heap.size w w' := by
  have HPG : Hid (∀ w', Below w.heap.size w w' → Calls Tryz.prog 131 #[.pointer (some ⟨mb, 0, none⟩)] w' fun e w'' => e = .returned (.int .i64 (pageV S)) ∧ Below w'.heap.size w' w'') := fun w' hb => ref_page S F mb w' (h.below' hb) hs hr hh
  have hml : mb < w.heap.size := by obtain ⟨_, _, _, hm⟩ := h.c1'; exact hm
  obtain ⟨G, ar, cr, at_, ct, af, cf, ad, cd, h⟩ := h
  have c0 := h.c0
  have c3 := h.c3
  clear h hs
  by_cases hd : S.depth ≤ S.flights.length
  · clear hno HPG
    generalize S.depth = dp at *
    generalize S.flights.length = fl at *
    go_enter Tryz.func113, Tryz.ntmps113
    go_wp2
    go_quiet (fail)
    have HB0 : Hid (Below w.heap.size w ((w.alloc (.cells #[.bool false, .int .i64 0, .int .i64 0, .slice none 0 0] 44)).drewN nq)) := below_drewN (alloc_below _ _) _
    have HZ0 : Hid (((w.alloc (.cells #[.bool false, .int .i64 0, .int .i64 0, .slice none 0 0] 44)).drewN nq).heap[w.heap.size]? = some (.cells #[.bool false, .int .i64 0, .int .i64 0, .slice none 0 0] 44 (0, 0))) := heap_alloc_new w _
    generalize (w.alloc (.cells #[.bool false, .int .i64 0, .int .i64 0, .slice none 0 0] 44)).drewN nq = W0 at HB0 HZ0 ⊢
    obtain ⟨⟨z0, z1, z2, z3⟩, y0, y1, y2, y3⟩ := quad HZ0.out
    go_wp2
    refine bodyPost_ret (v := .tuple #[.agg #[.bool false, .int .i64 0, .int .i64 0, .slice none 0 0], .bool false]) (by simp [results, Tryz.results113, go_sem, z0, z1, z2, z3]) rfl ⟨rfl, ((((HB0.out).setCell (Nat.le_refl _) _).setCell (Nat.le_refl _) _).setCell (Nat.le_refl _) _).setCell (Nat.le_refl _) _⟩
  · have hp : pageV S = -1 := by
      unfold nextM at hno
      rw [if_neg hd, Option.map_eq_none_iff] at hno
      unfold pageV; rw [hno]; rfl
    clear hno
    rw [hp] at HPG
    have hd' : ¬ (S.depth ≤ (S.flights.length : Int)) := hd
    generalize S.depth = dp at *
    generalize S.flights.length = fl at *
    go_enter Tryz.func113, Tryz.ntmps113
    go_wp2
    go_quiet (fail)
    have HB0 : Hid (Below w.heap.size w ((w.alloc (.cells #[.bool false, .int .i64 0, .int .i64 0, .slice none 0 0] 44)).drewN nq)) := below_drewN (alloc_below _ _) _
    have HZ0 : Hid (((w.alloc (.cells #[.bool false, .int .i64 0, .int .i64 0, .slice none 0 0] 44)).drewN nq).heap[w.heap.size]? = some (.cells #[.bool false, .int .i64 0, .int .i64 0, .slice none 0 0] 44 (0, 0))) := heap_alloc_new w _
    generalize (w.alloc (.cells #[.bool false, .int .i64 0, .int .i64 0, .slice none 0 0] 44)).drewN nq = W0 at HB0 HZ0 ⊢
    go_wp2_with fail
    refine (HPG.out W0 HB0.out).mono ?_
    rintro e w1 ⟨rfl, hb1⟩
    have HB1 := hide (HB0.out.trans (hb1.mono HB0.out.size))
    obtain ⟨⟨z0, z1, z2, z3⟩, y0, y1, y2, y3⟩ := quad ((hb1.block _ (lt_of_heap HZ0.out)).trans HZ0.out)
    clear hb1
    go_wp2
    refine bodyPost_ret (v := .tuple #[.agg #[.bool false, .int .i64 0, .int .i64 0, .slice none 0 0], .bool false]) (by simp [results, Tryz.results113, go_sem, z0, z1, z2, z3]) rfl ⟨rfl, ((((HB1.out).setCell (Nat.le_refl _) _).setCell (Nat.le_refl _) _).setCell (Nat.le_refl _) _).setCell (Nat.le_refl _) _⟩
theorem ten {w : World} {b : Nat} {r : Rq} (h : w.heap[b]? = some (.cells (encR r).toArray 175 (0, 0))) : ((w.cell? ⟨b, 0, none⟩ = some (.int .i64 r.num) ∧ w.cell? ⟨b, 1, none⟩ = some (.bool r.write) ∧ w.cell? ⟨b, 2, none⟩ = some (.int .i64 r.page) ∧ w.cell? ⟨b, 3, none⟩ = some (.string r.data) ∧ w.cell? ⟨b, 4, none⟩ = some (.int .i64 r.state)) ∧ (w.cell? ⟨b, 5, none⟩ = some (.int .i64 r.tries) ∧ w.cell? ⟨b, 6, none⟩ = some (.int .i64 r.after) ∧ w.cell? ⟨b, 7, none⟩ = some (.bool r.alone) ∧ w.cell? ⟨b, 8, none⟩ = some (.bool r.inAir) ∧ w.cell? ⟨b, 9, none⟩ = some (.string r.answer))) ∧ ∀ j, w.frozen? ⟨b, j, none⟩ = false := by
  simp [World.cell?, World.frozen?, h, encR]
theorem setTen {w : World} {b : Nat} {x r : Rq} (h : w.heap[b]? = some (.cells (encR x).toArray 175 (0, 0))) : ((((((((((w.setCell ⟨b, 0, none⟩ (.int .i64 r.num)).setCell ⟨b, 1, none⟩ (.bool r.write)).setCell ⟨b, 2, none⟩ (.int .i64 r.page)).setCell ⟨b, 3, none⟩ (.string r.data)).setCell ⟨b, 4, none⟩ (.int .i64 r.state)).setCell ⟨b, 5, none⟩ (.int .i64 r.tries)).setCell ⟨b, 6, none⟩ (.int .i64 r.after)).setCell ⟨b, 7, none⟩ (.bool r.alone)).setCell ⟨b, 8, none⟩ (.bool r.inAir)).setCell ⟨b, 9, none⟩ (.string r.answer)).heap[b]? = some (.cells (encR r).toArray 175 (0, 0)) := by
  have h0 := heap_setCell_at (j := 0) h (.int .i64 r.num)
  have h1 := heap_setCell_at (j := 1) h0 (.bool r.write)
  have h2 := heap_setCell_at (j := 2) h1 (.int .i64 r.page)
  have h3 := heap_setCell_at (j := 3) h2 (.string r.data)
  have h4 := heap_setCell_at (j := 4) h3 (.int .i64 r.state)
  have h5 := heap_setCell_at (j := 5) h4 (.int .i64 r.tries)
  have h6 := heap_setCell_at (j := 6) h5 (.int .i64 r.after)
  have h7 := heap_setCell_at (j := 7) h6 (.bool r.alone)
  have h8 := heap_setCell_at (j := 8) h7 (.bool r.inAir)
  have h9 := heap_setCell_at (j := 9) h8 (.string r.answer)
  refine h9.trans ?_
  simp [encR]
theorem ten_mid {w1 w2 : World} (hb : Below ((w1.alloc (.cells (encR Rq.zero).toArray 175)).drew).heap.size ((w1.alloc (.cells (encR Rq.zero).toArray 175)).drew) w2) : w2.heap[w1.heap.size]? = some (.cells (encR Rq.zero).toArray 175 (0, 0)) ∧ Below w1.heap.size w1 w2 := by
  refine ⟨(hb.block w1.heap.size (by simp [World.drew])).trans (heap_alloc_new w1 _), ((alloc_below w1 _).drew).trans (hb.mono (by simp [World.drew]))⟩
theorem midA {w1 w2 : World} {r : Rq} (hb : Below ((w1.alloc (.cells (encR Rq.zero).toArray 175)).drew).heap.size ((w1.alloc (.cells (encR Rq.zero).toArray 175)).drew) w2) :
    Below w1.heap.size w1 ((((((((((w2.setCell ⟨w1.heap.size, 0, none⟩ (.int .i64 r.num)).setCell ⟨w1.heap.size, 1, none⟩ (.bool r.write)).setCell ⟨w1.heap.size, 2, none⟩ (.int .i64 r.page)).setCell ⟨w1.heap.size, 3, none⟩ (.string r.data)).setCell ⟨w1.heap.size, 4, none⟩ (.int .i64 r.state)).setCell ⟨w1.heap.size, 5, none⟩ (.int .i64 r.tries)).setCell ⟨w1.heap.size, 6, none⟩ (.int .i64 r.after)).setCell ⟨w1.heap.size, 7, none⟩ (.bool r.alone)).setCell ⟨w1.heap.size, 8, none⟩ (.bool r.inAir)).setCell ⟨w1.heap.size, 9, none⟩ (.string r.answer)) ∧ ((((((((((w2.setCell ⟨w1.heap.size, 0, none⟩ (.int .i64 r.num)).setCell ⟨w1.heap.size, 1, none⟩ (.bool r.write)).setCell ⟨w1.heap.size, 2, none⟩ (.int .i64 r.page)).setCell ⟨w1.heap.size, 3, none⟩ (.string r.data)).setCell ⟨w1.heap.size, 4, none⟩ (.int .i64 r.state)).setCell ⟨w1.heap.size, 5, none⟩ (.int .i64 r.tries)).setCell ⟨w1.heap.size, 6, none⟩ (.int .i64 r.after)).setCell ⟨w1.heap.size, 7, none⟩ (.bool r.alone)).setCell ⟨w1.heap.size, 8, none⟩ (.bool r.inAir)).setCell ⟨w1.heap.size, 9, none⟩ (.string r.answer)).heap[w1.heap.size]? = some (.cells (encR r).toArray 175 (0, 0)) ∧ w1.heap.size ≤ w1.heap.size := by
  obtain ⟨h1, h2⟩ := ten_mid hb
  have hle : ∀ j, w1.heap.size ≤ (⟨w1.heap.size, j, none⟩ : Addr).block := fun _ => Nat.le_refl _
  exact ⟨(((((((((h2.setCell (hle 0) _).setCell (hle 1) _).setCell (hle 2) _).setCell (hle 3) _).setCell (hle 4) _).setCell (hle 5) _).setCell (hle 6) _).setCell (hle 7) _).setCell (hle 8) _).setCell (hle 9) _, setTen h1, Nat.le_refl _⟩
theorem midB {w1 w2 : World} {r : Rq} (hb : Below (w1.drew).heap.size (w1.drew) w2) :
    Below w1.heap.size w1 (w2.alloc (.cells (encR r).toArray 175)) ∧ (w2.alloc (.cells (encR r).toArray 175)).heap[w2.heap.size]? = some (.cells (encR r).toArray 175 (0, 0)) ∧ w1.heap.size ≤ w2.heap.size := by
  have hb' : Below w1.heap.size w1 w2 := ((Below.refl w1.heap.size w1).drew).trans hb
  exact ⟨hb'.trans ((alloc_below _ _).mono hb'.size), heap_alloc_new _ _, hb'.size⟩
theorem alone_fin {w wc : World} {bw : Bool} {p num : Int} (hz : wc.heap[w.heap.size]? = some (.cells #[.bool false, .int .i64 0, .int .i64 0, .slice none 0 0] 44 (0, 0))) (hB : Below w.heap.size w wc) :
    ((((((wc.setCell ⟨w.heap.size, 0, none⟩ (.bool bw)).setCell ⟨w.heap.size, 1, none⟩ (.int .i64 p)).setCell ⟨w.heap.size, 2, none⟩ (.int .i64 1)).setCell ⟨w.heap.size, 3, none⟩ (.slice (some ⟨wc.heap.size + 1, 0, none⟩) 1 1)).alloc (.cells #[.bool bw, .int .i64 p, .int .i64 1, .slice (some ⟨wc.heap.size + 1, 0, none⟩) 1 1] 44)).alloc (.cells #[.int .i64 num] 3)).heap[w.heap.size]? = some (.cells #[.bool bw, .int .i64 p, .int .i64 1, .slice (some ⟨wc.heap.size + 1, 0, none⟩) 1 1] 44 (0, 0)) ∧ ((((((wc.setCell ⟨w.heap.size, 0, none⟩ (.bool bw)).setCell ⟨w.heap.size, 1, none⟩ (.int .i64 p)).setCell ⟨w.heap.size, 2, none⟩ (.int .i64 1)).setCell ⟨w.heap.size, 3, none⟩ (.slice (some ⟨wc.heap.size + 1, 0, none⟩) 1 1)).alloc (.cells #[.bool bw, .int .i64 p, .int .i64 1, .slice (some ⟨wc.heap.size + 1, 0, none⟩) 1 1] 44)).alloc (.cells #[.int .i64 num] 3)).heap[wc.heap.size + 1]? = some (.cells #[.int .i64 num] 3 (0, 0)) ∧ Below w.heap.size w ((((((wc.setCell ⟨w.heap.size, 0, none⟩ (.bool bw)).setCell ⟨w.heap.size, 1, none⟩ (.int .i64 p)).setCell ⟨w.heap.size, 2, none⟩ (.int .i64 1)).setCell ⟨w.heap.size, 3, none⟩ (.slice (some ⟨wc.heap.size + 1, 0, none⟩) 1 1)).alloc (.cells #[.bool bw, .int .i64 p, .int .i64 1, .slice (some ⟨wc.heap.size + 1, 0, none⟩) 1 1] 44)).alloc (.cells #[.int .i64 num] 3)) := by
  have hwz := lt_of_heap hz
  have h0 := heap_setCell_at (j := 0) hz (.bool bw)
  have h1 := heap_setCell_at (j := 1) h0 (.int .i64 p)
  have h2 := heap_setCell_at (j := 2) h1 (.int .i64 1)
  have h3 := heap_setCell_at (j := 3) h2 (.slice (some ⟨wc.heap.size + 1, 0, none⟩) 1 1)
  have hb4 : Below w.heap.size w ((((wc.setCell ⟨w.heap.size, 0, none⟩ (.bool bw)).setCell ⟨w.heap.size, 1, none⟩ (.int .i64 p)).setCell ⟨w.heap.size, 2, none⟩ (.int .i64 1)).setCell ⟨w.heap.size, 3, none⟩ (.slice (some ⟨wc.heap.size + 1, 0, none⟩) 1 1)) := (((hB.setCell (Nat.le_refl _) _).setCell (Nat.le_refl _) _).setCell (Nat.le_refl _) _).setCell (Nat.le_refl _) _
  have hs : ((((wc.setCell ⟨w.heap.size, 0, none⟩ (.bool bw)).setCell ⟨w.heap.size, 1, none⟩ (.int .i64 p)).setCell ⟨w.heap.size, 2, none⟩ (.int .i64 1)).setCell ⟨w.heap.size, 3, none⟩ (.slice (some ⟨wc.heap.size + 1, 0, none⟩) 1 1)).heap.size = wc.heap.size := by simp [World.setCell]
  generalize ((((wc.setCell ⟨w.heap.size, 0, none⟩ (.bool bw)).setCell ⟨w.heap.size, 1, none⟩ (.int .i64 p)).setCell ⟨w.heap.size, 2, none⟩ (.int .i64 1)).setCell ⟨w.heap.size, 3, none⟩ (.slice (some ⟨wc.heap.size + 1, 0, none⟩) 1 1)) = W4 at h3 hb4 hs ⊢
  refine ⟨?_, ?_, ?_⟩
  · exact (Below.heap_alloc _ _ _ (by simp; omega)).trans ((Below.heap_alloc _ _ _ (by omega)).trans h3)
  · have := heap_alloc_new (W4.alloc (.cells #[.bool bw, .int .i64 p, .int .i64 1, .slice (some ⟨wc.heap.size + 1, 0, none⟩) 1 1] 44)) (.cells #[.int .i64 num] 3)
    simp only [World.size_alloc, hs] at this
    exact this
  · exact (hb4.trans ((alloc_below _ _).mono hb4.size)).trans ((alloc_below _ _).mono (by have := hb4.size; simp; omega))
set_option maxHeartbeats 4000000 in
set_option maxRecDepth 1000000 in
theorem ref_next_some (S : St) (F : Nat → Prop) (mb : Nat) (w : World) (h : RefAt w F mb S) (hs : S.reqs.Pairwise (fun a b => a.num < b.num)) (hr : S.reqs.length ≤ 1000000) (hh : 0 ≤ S.head ∧ S.head ≤ 16) (_hfl : S.flights.length ≤ 1000000) (p : Int) (k : Nat) (hd : ¬ S.depth ≤ S.flights.length) (hpm : pageM S = some p) (hp0 : 0 ≤ p) (hp1 : p < 16) (hk : k < S.reqs.length) (hf : firstM S p = some k) :
    Calls Tryz.prog 113 #[.pointer (some ⟨mb, 0, none⟩)] w fun e w' => (∃ ao n cap, e = .returned (.tuple #[.agg #[.bool (cmdAt S p (S.reqs.getD k Rq.zero)).write, .int .i64 (cmdAt S p (S.reqs.getD k Rq.zero)).page, .int .i64 (cmdAt S p (S.reqs.getD k Rq.zero)).count, .slice ao n cap], .bool true]) ∧ n = (cmdAt S p (S.reqs.getD k Rq.zero)).requests.length ∧ Row w' (fun b => w.heap.size ≤ b) 3 1 ao n cap (encI (cmdAt S p (S.reqs.getD k Rq.zero)).requests)) ∧ Below w.heap.size w w' := by
  obtain ⟨i0, hi, hi0, hi1, hi2⟩ := info_parts info_int
  have HPG : Hid (∀ w', Below w.heap.size w w' → Calls Tryz.prog 131 #[.pointer (some ⟨mb, 0, none⟩)] w' fun e w'' => e = .returned (.int .i64 p) ∧ Below w'.heap.size w' w'') := fun w' hb => by
    have := ref_page S F mb w' (h.below' hb) hs hr hh
    have e : pageV S = p := by unfold pageV; rw [hpm]; rfl
    rw [e] at this; exact this
  have HGR : Hid (∀ (q : Int) (b : Bool) w', Below w.heap.size w w' → Calls Tryz.prog 133 #[.pointer (some ⟨mb, 0, none⟩), .int .i64 q, .bool b] w' fun e w'' => ∃ ao n cap, e = .returned (.slice ao n cap) ∧ n = (groupM S q b).length ∧ Row w'' (fun b => w'.heap.size ≤ b) 3 1 ao n cap (encI (groupM S q b)) ∧ Below w'.heap.size w' w'') := fun q b w' hb => ref_group S F mb q b w' (h.below' hb) hs hr
  obtain ⟨g0, cr, c1, hcl, hml, hgl⟩ := h.at_cells (by omega)
  have hcl := fun t ht => hcl k t hk ht
  obtain ⟨r, hr'⟩ : ∃ r, r = S.reqs.getD k Rq.zero := ⟨_, rfl⟩
  rw [← hr'] at hcl ⊢
  have HFC : Hid (∀ w', Below w.heap.size w w' → Calls Tryz.prog 132 #[.pointer (some ⟨mb, 0, none⟩), .int .i64 p] w' fun e w'' => e = .returned (.int .i64 k) ∧ Below w'.heap.size w' w'' ∧ Below w.heap.size w w'' ∧ w''.cell? ⟨mb, 1, none⟩ = some (.slice (some ⟨g0, 0, none⟩) S.reqs.length cr) ∧ ∀ t, t < 10 → w''.cell? ⟨g0, k * 10 + t, none⟩ = (encR r)[t]?) := fun w' hb => by
    have := ref_first S F mb p w' (h.below' hb) hs hr
    rw [hf] at this
    refine this.mono ?_
    rintro e w2 ⟨rfl, hb2⟩
    have hb3 := hb.trans (hb2.mono hb.size)
    exact ⟨rfl, hb2, hb3, (hb3.cell (p := ⟨mb, 1, none⟩) hml).trans c1, fun t ht => (hb3.cell (p := ⟨g0, k * 10 + t, none⟩) hgl).trans (hcl t ht)⟩
  obtain ⟨G, ar, cr', at_, ct, af, cf, ad, cd, h⟩ := h
  have c0 := h.c0
  have c3 := h.c3
  have HCL := hide hcl
  clear h hs hcl hf hpm hr' hh
  generalize S.depth = dp at *
  generalize S.flights.length = fl at *
  go_enter Tryz.func113, Tryz.ntmps113
  go_wp2
  go_quiet (fail)
  have HB0 : Hid (Below w.heap.size w ((w.alloc (.cells #[.bool false, .int .i64 0, .int .i64 0, .slice none 0 0] 44)).drewN nq)) := below_drewN (alloc_below _ _) _
  have HZ0 : Hid (((w.alloc (.cells #[.bool false, .int .i64 0, .int .i64 0, .slice none 0 0] 44)).drewN nq).heap[w.heap.size]? = some (.cells #[.bool false, .int .i64 0, .int .i64 0, .slice none 0 0] 44 (0, 0))) := heap_alloc_new w _
  generalize (w.alloc (.cells #[.bool false, .int .i64 0, .int .i64 0, .slice none 0 0] 44)).drewN nq = W0 at HB0 HZ0 ⊢
  go_wp2_with fail
  refine (HPG.out W0 HB0.out).mono ?_
  rintro e w1 ⟨rfl, hb1⟩
  have HB1 := hide (HB0.out.trans (hb1.mono HB0.out.size))
  have HZ1 := hide ((hb1.block _ (lt_of_heap HZ0.out)).trans HZ0.out)
  have d1 := (HB1.out.cell (p := ⟨mb, 1, none⟩) hml).trans c1
  have hcl1 : ∀ t, t < 10 → w1.cell? ⟨g0, k * 10 + t, none⟩ = (encR r)[t]? := fun t ht => (HB1.out.cell (p := ⟨g0, k * 10 + t, none⟩) hgl).trans (HCL.out t ht)
  have q0 : w1.cell? ⟨g0, k * 10, none⟩ = some (.int .i64 r.num) := hcl1 0 (by omega)
  have q1 : w1.cell? ⟨g0, k * 10 + 1, none⟩ = some (.bool r.write) := hcl1 1 (by omega)
  have q2 : w1.cell? ⟨g0, k * 10 + 2, none⟩ = some (.int .i64 r.page) := hcl1 2 (by omega)
  have q3 : w1.cell? ⟨g0, k * 10 + 3, none⟩ = some (.string r.data) := hcl1 3 (by omega)
  have q4 : w1.cell? ⟨g0, k * 10 + 4, none⟩ = some (.int .i64 r.state) := hcl1 4 (by omega)
  have q5 : w1.cell? ⟨g0, k * 10 + 5, none⟩ = some (.int .i64 r.tries) := hcl1 5 (by omega)
  have q6 : w1.cell? ⟨g0, k * 10 + 6, none⟩ = some (.int .i64 r.after) := hcl1 6 (by omega)
  have q7 : w1.cell? ⟨g0, k * 10 + 7, none⟩ = some (.bool r.alone) := hcl1 7 (by omega)
  have q8 : w1.cell? ⟨g0, k * 10 + 8, none⟩ = some (.bool r.inAir) := hcl1 8 (by omega)
  have q9 : w1.cell? ⟨g0, k * 10 + 9, none⟩ = some (.string r.answer) := hcl1 9 (by omega)
  have ne1 := World.new_ne w1 _ q0
  have ne2 := World.new_ne w1 _ d1
  have HFC1 : Hid (∀ w', Below w1.heap.size w1 w' → Calls Tryz.prog 132 #[.pointer (some ⟨mb, 0, none⟩), .int .i64 p] w' fun e w'' => e = .returned (.int .i64 k) ∧ Below w'.heap.size w' w'' ∧ Below w.heap.size w w'' ∧ w''.cell? ⟨mb, 1, none⟩ = some (.slice (some ⟨g0, 0, none⟩) S.reqs.length cr) ∧ ∀ t, t < 10 → w''.cell? ⟨g0, k * 10 + t, none⟩ = (encR r)[t]?) := fun w' hb => HFC.out w' (HB1.out.trans (hb.mono HB1.out.size))
  clear hb1 HB0 HZ0 HPG hcl1
  go_wp2_with fail
  go_cut [5] from 8 (fun vp wx => ∃ fb, vp = .pointer (some ⟨fb, 0, none⟩) ∧ Hid (Below w1.heap.size w1 wx ∧ wx.heap[fb]? = some (.cells (encR r).toArray 175 (0, 0)) ∧ w1.heap.size ≤ fb))
  case first =>
    go_region_held3 (fun W => W.cell? ⟨mb, 1, none⟩ = some (.slice (some ⟨g0, 0, none⟩) S.reqs.length cr) ∧ W.cell? ⟨g0, k * 10, none⟩ = some (.int .i64 r.num) ∧ W.cell? ⟨g0, k * 10 + 1, none⟩ = some (.bool r.write) ∧ W.cell? ⟨g0, k * 10 + 2, none⟩ = some (.int .i64 r.page) ∧ W.cell? ⟨g0, k * 10 + 3, none⟩ = some (.string r.data) ∧ W.cell? ⟨g0, k * 10 + 4, none⟩ = some (.int .i64 r.state) ∧ W.cell? ⟨g0, k * 10 + 5, none⟩ = some (.int .i64 r.tries) ∧ W.cell? ⟨g0, k * 10 + 6, none⟩ = some (.int .i64 r.after) ∧ W.cell? ⟨g0, k * 10 + 7, none⟩ = some (.bool r.alone) ∧ W.cell? ⟨g0, k * 10 + 8, none⟩ = some (.bool r.inAir) ∧ W.cell? ⟨g0, k * 10 + 9, none⟩ = some (.string r.answer)) (go_keep)
      (first | (go_at_call 132; refine (HFC1.out _ ?_).mono ?_; (first | exact (Below.refl _ _).drew | exact (alloc_below _ _).drew); rintro e w2 ⟨rfl, hb2, hb3, e1, ecl⟩; have s0 : w2.cell? ⟨g0, k * 10, none⟩ = some (.int .i64 r.num) := ecl 0 (by omega); have s1 : w2.cell? ⟨g0, k * 10 + 1, none⟩ = some (.bool r.write) := ecl 1 (by omega); have s2 : w2.cell? ⟨g0, k * 10 + 2, none⟩ = some (.int .i64 r.page) := ecl 2 (by omega); have s3 : w2.cell? ⟨g0, k * 10 + 3, none⟩ = some (.string r.data) := ecl 3 (by omega); have s4 : w2.cell? ⟨g0, k * 10 + 4, none⟩ = some (.int .i64 r.state) := ecl 4 (by omega); have s5 : w2.cell? ⟨g0, k * 10 + 5, none⟩ = some (.int .i64 r.tries) := ecl 5 (by omega); have s6 : w2.cell? ⟨g0, k * 10 + 6, none⟩ = some (.int .i64 r.after) := ecl 6 (by omega); have s7 : w2.cell? ⟨g0, k * 10 + 7, none⟩ = some (.bool r.alone) := ecl 7 (by omega); have s8 : w2.cell? ⟨g0, k * 10 + 8, none⟩ = some (.bool r.inAir) := ecl 8 (by omega); have s9 : w2.cell? ⟨g0, k * 10 + 9, none⟩ = some (.string r.answer) := ecl 9 (by omega); have HB2 := hide hb2; clear hb2 hb3 ecl; (try (have HT := hide (ten_mid HB2.out); obtain ⟨⟨⟨a0, a1, a2, a3, a4⟩, a5, a6, a7, a8, a9⟩, fz⟩ := ten HT.out.1; have f0 := fz 0; have f1 := fz 1; have f2 := fz 2; have f3 := fz 3; have f4 := fz 4; have f5 := fz 5; have f6 := fz 6; have f7 := fz 7; have f8 := fz 8; have f9 := fz 9; clear fz))))
    all_goals go_wp2_with fail
    all_goals go_meet
    all_goals first
      | (have HT' := HT; exact ⟨_, rfl, midA HB2.out⟩)
      | exact ⟨_, rfl, midB HB2.out⟩
  case rest =>
    obtain ⟨fb, rfl, hmid⟩ := hcut
    obtain ⟨⟨⟨t0, t1, _, _, _⟩, _, _, t7, _, _⟩, _⟩ := ten hmid.out.2.1
    have HBc := hide (HB1.out.trans (hmid.out.1.mono HB1.out.size))
    have HZc := hide ((hmid.out.1.block _ (lt_of_heap HZ1.out)).trans HZ1.out)
    have HFb := hide hmid.out.2.1
    have HFl := hide hmid.out.2.2
    clear HFC HFC1 HB1 HZ1 hmid d1 q0 q1 q2 q3 q4 q5 q6 q7 q8 q9 ne1 ne2 HCL
    have hfw : Hid (fb < wc.heap.size) := lt_of_heap HFb.out
    have HF1 : Hid ((wc.alloc (.cells #[.bool r.write, .int .i64 p, .int .i64 1, .slice none 0 0] 44)).heap[fb]? = some (.cells (encR r).toArray 175 (0, 0))) := (Below.heap_alloc wc _ _ hfw.out).trans HFb.out
    have HC1 : Hid ((wc.alloc (.cells #[.bool r.write, .int .i64 p, .int .i64 1, .slice none 0 0] 44)).heap[wc.heap.size]? = some (.cells #[.bool r.write, .int .i64 p, .int .i64 1, .slice none 0 0] 44 (0, 0))) := heap_alloc_new wc _
    have HZ1 : Hid ((wc.alloc (.cells #[.bool r.write, .int .i64 p, .int .i64 1, .slice none 0 0] 44)).heap[w.heap.size]? = some (.cells #[.bool false, .int .i64 0, .int .i64 0, .slice none 0 0] 44 (0, 0))) := (Below.heap_alloc wc _ _ (lt_of_heap HZc.out)).trans HZc.out
    have HB1 : Hid (Below w.heap.size w (wc.alloc (.cells #[.bool r.write, .int .i64 p, .int .i64 1, .slice none 0 0] 44))) := HBc.out.trans ((alloc_below _ _).mono HBc.out.size)
    have hzc : wc.heap.size < (wc.alloc (.cells #[.bool r.write, .int .i64 p, .int .i64 1, .slice none 0 0] 44)).heap.size := by simp
    obtain ⟨⟨⟨t0', t1', _, _, _⟩, _, _, t7', _, _⟩, _⟩ := ten HF1.out
    have hwz : w.heap.size < wc.heap.size := lt_of_heap HZc.out
    have hfz : w.heap.size ≠ fb := fun e => by have h1 := HFb.out; rw [← e, HZc.out] at h1; simp [encR] at h1
    by_cases hal : r.alone = true
    · have HCM : Hid (cmdAt S p r = ⟨r.write, p, 1, [r.num]⟩) := by unfold cmdAt; rw [Hid, if_pos hal]
      clear HGR
      have HFN := hide (alone_fin (bw := r.write) (p := p) (num := r.num) HZc.out HBc.out)
      obtain ⟨⟨f0, f1, f2, f3⟩, _⟩ := quad HFN.out.1
      obtain ⟨⟨z0', z1', z2', z3'⟩, y0', y1', y2', y3'⟩ := quad HZc.out
      have nx1 : w.heap.size ≠ wc.heap.size := by omega
      have nx2 : wc.heap.size ≠ w.heap.size := by omega
      have nx3 : w.heap.size ≠ wc.heap.size + 1 := by omega
      go_wp2
      refine bodyPost_ret (v := .tuple #[.agg #[.bool r.write, .int .i64 p, .int .i64 1, .slice (some ⟨wc.heap.size + 1, 0, none⟩) 1 1], .bool true]) ?_ ?_ ?_
      rotate_left
      · rfl
      rotate_left
      · simp [results, Tryz.results113, go_sem, f0, f1, f2, f3]
      refine ⟨⟨some ⟨wc.heap.size + 1, 0, none⟩, 1, 1, by rw [HCM.out], by rw [HCM.out]; rfl, ?_⟩, HFN.out.2.2⟩
      rw [HCM.out]
      exact ⟨⟨rfl, Or.inr ⟨wc.heap.size + 1, 1, #[.int .i64 r.num], rfl, Nat.zero_le _, HFN.out.2.1, Nat.le_refl _, by decide, rfl, rfl⟩⟩, fun a ha => by cases ha; show w.heap.size ≤ wc.heap.size + 1; omega⟩
    · have hal : r.alone = false := by simpa using hal
      have HCM : Hid (cmdAt S p r = ⟨r.write, p, (growM S p r.write 3 1 (groupM S p r.write)).1, (growM S p r.write 3 1 (groupM S p r.write)).2⟩) := by unfold cmdAt; rw [Hid, if_neg (by simp [hal])]
      go_wp2_with fail
      refine (HGR.out p r.write _ HB1.out).mono ?_
      rintro e w2 ⟨ao, n, cap, rfl, hn, hrow, hb2⟩
      have HNN := hide hn
      have HB2 := hide (HB1.out.trans (hb2.mono HB1.out.size))
      have HC2 := hide ((hb2.block _ hzc).trans HC1.out)
      have HF2 := hide ((hb2.block _ (lt_of_heap HF1.out)).trans HF1.out)
      have HZ2 := hide ((hb2.block _ (lt_of_heap HZ1.out)).trans HZ1.out)
      have HR2 : Hid (Row w2 (fun b => w.heap.size ≤ b) 3 1 ao n cap (encI (groupM S p r.write))) := hrow.mono fun b hb => by have := HB1.out.size; omega
      obtain ⟨⟨v0, v1, v2, v3⟩, x0, x1, x2, x3⟩ := quad HC2.out
      clear hn hrow hb2 HC1 HF1 HZ1 HB1 HZc HFb HBc t0 t1 t7 t0' t1' t7' hzc
      go_wp2_with fail
      have HC3 : Hid ((w2.setCell ⟨wc.heap.size, 3, none⟩ (.slice ao n cap)).heap[wc.heap.size]? = some (.cells #[.bool r.write, .int .i64 p, .int .i64 1, .slice ao n cap] 44 (0, 0))) := by rw [Hid, heap_setCell_at HC2.out]; rfl
      have hne1 : fb ≠ wc.heap.size := by have := hfw.out; omega
      have hne2 : w.heap.size ≠ wc.heap.size := by omega
      have HF3 := hide ((Below.heap_setCell w2 ⟨wc.heap.size, 3, none⟩ (.slice ao n cap) fb hne1).trans HF2.out)
      have HZ3 := hide ((Below.heap_setCell w2 ⟨wc.heap.size, 3, none⟩ (.slice ao n cap) w.heap.size hne2).trans HZ2.out)
      have HR3 := hide (HR2.out.setCell_other (p := ⟨wc.heap.size, 3, none⟩) (HR2.out.ne HC2.out (by decide)) (.slice ao n cap))
      have HB3 : Hid (Below w.heap.size w (w2.setCell ⟨wc.heap.size, 3, none⟩ (.slice ao n cap))) := HB2.out.setCell (by show w.heap.size ≤ wc.heap.size; omega) _
      have hn1 : (n : Int) ≤ 1 * 1000000 := by have := group_len S p r.write; have := HNN.out; omega
      generalize hgr : growM S p r.write 3 1 (groupM S p r.write) = gr at HCM
      have HGR0 := hide hgr
      clear hgr HC2 HF2 HZ2 HR2 HB2 v0 v1 v2 v3 x0 x1 x2 x3
      generalize w2.setCell ⟨wc.heap.size, 3, none⟩ (.slice ao n cap) = W3 at HC3 HF3 HZ3 HR3 HB3 ⊢
      generalize hLL : groupM S p r.write = L0 at HGR0 HNN HR3
      clear hLL
      have hcbw : Hid (w.heap.size ≤ wc.heap.size) := by rw [Hid]; omega
      generalize wc.heap.size = cb at *
      go_loopw [7] (fun _ wr => ∃ (m : Nat) (cnt : Int) (L : List Int) (n cap : Nat) (ao : Option Addr), (m : Int) + cnt = 4 ∧ 1 ≤ cnt ∧ n = L.length ∧ (n : Int) ≤ cnt * 1000000 ∧ Hid (growM S p r.write m cnt L = gr) ∧ Hid (wr.heap[cb]? = some (.cells #[.bool r.write, .int .i64 p, .int .i64 cnt, .slice ao n cap] 44 (0, 0))) ∧ Hid (wr.heap[fb]? = some (.cells (encR r).toArray 175 (0, 0))) ∧ Hid (wr.heap[w.heap.size]? = some (.cells #[.bool false, .int .i64 0, .int .i64 0, .slice none 0 0] 44 (0, 0))) ∧ Hid (Row wr (fun b => w.heap.size ≤ b) 3 1 ao n cap (encI L)) ∧ Hid (Below w.heap.size w wr)) (fun _ wr => (4 - intOf ((wr.cell? ⟨cb, 2, none⟩).getD undef)).toNat)
      case atStart => exact ⟨3, 1, L0, n, cap, ao, by omega, by omega, HNN.out, hn1, HGR0.out, HC3.out, HF3.out, HZ3.out, HR3.out, HB3.out⟩
      case round =>
        clear HC3 HF3 HZ3 HR3 HB3 HNN HGR0 hn1
        obtain ⟨m, cnt, L, n, cap, ao, hm, hc1, hn, hnb, HG, HC, HFF, HZ, HR, HB⟩ := hrel
        have HN := hide hn
        clear hn
        obtain ⟨⟨v0, v1, v2, v3⟩, x0, x1, x2, x3⟩ := quad HC.out
        obtain ⟨⟨⟨_, t1, _, _, _⟩, _, _, _, _, _⟩, _⟩ := ten HFF.out
        obtain ⟨⟨z0, z1, z2, z3⟩, y0, y1, y2, y3⟩ := quad HZ.out
        have hne2 : w.heap.size ≠ cb := hne2
        have hne3 : cb ≠ w.heap.size := fun e => hne2 e.symm
        have HGEn : Hid (¬ (cnt < 4 ∧ p + cnt < 16) → gr = (cnt, L)) := fun h => HG.out.symm.trans (grow_end (Or.inr (Or.inl h)))
        by_cases hc4 : cnt < 4
        · by_cases hp16 : p + cnt < 16
          · obtain ⟨m', rfl⟩ : ∃ m', m = m' + 1 := ⟨m - 1, by omega⟩
            go_wp2_with fail
            refine (HGR.out (p + cnt) r.write wr HB.out).mono ?_
            rintro e w3 ⟨ao2, n2, cap2, rfl, hn2, hrow2, hb3⟩
            have HB3 := hide (HB.out.trans (hb3.mono HB.out.size))
            have HC3 := hide ((hb3.block _ (lt_of_heap HC.out)).trans HC.out)
            have HF3 := hide ((hb3.block _ (lt_of_heap HFF.out)).trans HFF.out)
            have HZ3 := hide ((hb3.block _ (lt_of_heap HZ.out)).trans HZ.out)
            have HR3 : Hid (Row w3 (fun b => w.heap.size ≤ b) 3 1 ao n cap (encI L)) := HR.out.same fun a ha => by obtain ⟨c, hc, _⟩ := Row.block HR.out ha; exact hb3.block _ (lt_of_heap hc)
            have HRW2 := hide hrow2
            have HN2 := hide hn2
            have hgl2 := group_len S (p + cnt) r.write
            clear hn2 hrow2 hb3 v0 v1 v2 v3 x0 x1 x2 x3 z0 z1 z2 z3 y0 y1 y2 y3 t1
            obtain ⟨⟨v0, v1, v2, v3⟩, x0, x1, x2, x3⟩ := quad HC3.out
            obtain ⟨⟨z0, z1, z2, z3⟩, y0, y1, y2, y3⟩ := quad HZ3.out
            by_cases hn0 : n2 = 0
            · subst hn0
              have HGE : Hid (gr = (cnt, L)) := HG.out.symm.trans (grow_end (Or.inr (Or.inr (List.eq_nil_of_length_eq_zero HN2.out.symm))))
              go_wp2
              refine bodyPost_ret (v := .tuple #[.agg #[.bool r.write, .int .i64 p, .int .i64 cnt, .slice ao n cap], .bool true]) ?_ ?_ ?_
              rotate_left
              · rfl
              rotate_left
              · simp [results, Tryz.results113, go_sem, z0, z1, z2, z3]
              refine ⟨⟨ao, n, cap, by rw [HCM.out, HGE.out], by rw [HCM.out, HGE.out]; exact HN.out, ?_⟩, (((HB3.out.setCell (Nat.le_refl _) _).setCell (Nat.le_refl _) _).setCell (Nat.le_refl _) _).setCell (Nat.le_refl _) _⟩
              rw [HCM.out, HGE.out]
              exact (((HR3.out.setCell_other (HR3.out.ne HZ3.out (by decide)) _).setCell_other (HR3.out.ne HZ3.out (by decide)) _).setCell_other (HR3.out.ne HZ3.out (by decide)) _).setCell_other (HR3.out.ne HZ3.out (by decide)) _
            · have hn0' : ((n2 : Int) == 0) = false := beq_eq_false_iff_ne.2 (by omega)
              obtain ⟨g2, cur2, hg2, _, _, _, _⟩ := Row.some HRW2.out (by omega)
              subst hg2
              have HNX : Hid (growM S p r.write m' (cnt + 1) (L ++ groupM S (p + cnt) r.write) = gr) := by rw [← HG.out, grow_step ⟨hc4, hp16⟩ (fun e => hn0 (by rw [HN2.out, e]; rfl))]; rfl
              have hn2b : n2 ≤ 1000000 := by have := HN2.out; omega
              have HO : Hid (w3.ownsRow 0 3 1 (.slice ao n cap) n (encI L)) := HR3.out.1
              have HW : Hid (∀ (t : Nat) (u : Value), (encI (groupM S (p + cnt) r.write))[t]? = some u → w3.cell? ((⟨g2, 0, none⟩ : Addr).add t) = some u) := fun t u hu => by
                rw [Addr.add_lit, Nat.zero_add]
                have ht : t < n2 * 1 := by
                  have := HRW2.out.len
                  have h2 : t < (encI (groupM S (p + cnt) r.write)).length := by
                    apply Decidable.byContradiction; intro hh
                    rw [List.getElem?_eq_none (by omega)] at hu; cases hu
                  omega
                exact (Row.cellAt HRW2.out t ht).trans hu
              have HL2 : Hid ((encI (groupM S (p + cnt) r.write)).length = n2 * 1) := HRW2.out.len
              have HI1 : Hid (∀ u ∈ encI (groupM S (p + cnt) r.write), u.oneCell' = true) := fun u hu => by obtain ⟨x, _, rfl⟩ := List.mem_map.1 hu; rfl
              have hn2p : 0 < n2 := by omega
              clear hn0
              go_wp2_with (at_builtin; go_must (refine wpList_append_lies _ rfl (.tmp 72) (.tmp 73) 24 rfl 0 3 i0 (.int .i64 0) 1 8 Tryz.underlying24 hi hi0 hi1 hi2 rfl (by decide) (.slice ao n cap) n (encI L) rfl HO.out ⟨g2, 0, none⟩ n2 cap2 (encI (groupM S (p + cnt) r.write)) rfl HL2.out HW.out HI1.out (by omega) (by unfold maxLen; omega) (by omega) (Nat.zero_le _) w3.heap.size rfl ?_; intro g cap' w4 hown hgrow hat hlt3; have HX := hide (own_relR HB3.out HR3.out hgrow hown hat); have HC4 := hide ((hgrow.block cb (lt_of_heap HC3.out) (row_off HR3.out HC3.out (by decide))).trans HC3.out); have HF4 := hide ((hgrow.block fb (lt_of_heap HF3.out) (row_off HR3.out HF3.out (by decide))).trans HF3.out); have HZ4 := hide ((hgrow.block w.heap.size (lt_of_heap HZ3.out) (row_off HR3.out HZ3.out (by decide))).trans HZ3.out); obtain ⟨⟨k0, k1, k2, k3⟩, l0, l1, l2, l3⟩ := quad HC4.out; clear hown hgrow hat hlt3))
              have HCN : Hid (∀ (W : World), W.heap[cb]? = some (.cells #[.bool r.write, .int .i64 p, .int .i64 (cnt + 1), .slice (some ⟨g, 0, none⟩) (n + n2) cap'] 44 (0, 0)) → (4 - intOf ((W.cell? ⟨cb, 2, none⟩).getD undef)).toNat < (4 - cnt).toNat) := fun W hW => by
                have : W.cell? ⟨cb, 2, none⟩ = some (.int .i64 (cnt + 1)) := (quad hW).1.2.2.1
                rw [this]; simp [intOf]; omega
              have HC5 : Hid (((w4.setCell ⟨cb, 3, none⟩ (.slice (some ⟨g, 0, none⟩) (n + n2) cap')).setCell ⟨cb, 2, none⟩ (.int .i64 (cnt + 1))).heap[cb]? = some (.cells #[.bool r.write, .int .i64 p, .int .i64 (cnt + 1), .slice (some ⟨g, 0, none⟩) (n + n2) cap'] 44 (0, 0))) := by rw [Hid, heap_setCell_at (heap_setCell_at HC4.out _)]; rfl
              go_roundw
              case rel =>
                refine ⟨m', cnt + 1, L ++ groupM S (p + cnt) r.write, n + n2, cap', some ⟨g, 0, none⟩, by omega, by omega, by rw [List.length_append, HN.out, HN2.out], by omega, HNX.out, HC5.out, ?_, ?_, ?_, ?_⟩
                · exact (Below.heap_setCell _ _ _ _ hne1).trans ((Below.heap_setCell _ _ _ _ hne1).trans HF4.out)
                · exact (Below.heap_setCell _ _ _ _ hne2).trans ((Below.heap_setCell _ _ _ _ hne2).trans HZ4.out)
                · have hr4 : Row w4 (fun b => w.heap.size ≤ b) 3 1 (some ⟨g, 0, none⟩) (n + n2) cap' (encI (L ++ groupM S (p + cnt) r.write)) := by have := HX.out.2; rw [show encI L ++ encI (groupM S (p + cnt) r.write) = encI (L ++ groupM S (p + cnt) r.write) by simp [encI]] at this; exact this
                  have hn4 := hr4.ne HC4.out (by decide)
                  exact (hr4.setCell_other (p := ⟨cb, 3, none⟩) hn4 _).setCell_other (p := ⟨cb, 2, none⟩) hn4 _
                · exact (HX.out.1.setCell (by show w.heap.size ≤ cb; exact hcbw.out) _).setCell (by show w.heap.size ≤ cb; exact hcbw.out) _
              case measure =>
                have h1 := HCN.out _ HC5.out
                have h2 : wr.cell? ⟨cb, 2, none⟩ = some (.int .i64 cnt) := (quad HC.out).1.2.2.1
                rw [h2]
                simpa [intOf] using h1
          · have HGE := hide (HGEn.out (fun e => hp16 e.2))
            go_wp2
            refine bodyPost_ret (v := .tuple #[.agg #[.bool r.write, .int .i64 p, .int .i64 cnt, .slice ao n cap], .bool true]) ?_ ?_ ?_
            rotate_left
            · rfl
            rotate_left
            · simp [results, Tryz.results113, go_sem, z0, z1, z2, z3]
            refine ⟨⟨ao, n, cap, by rw [HCM.out, HGE.out], by rw [HCM.out, HGE.out]; exact HN.out, ?_⟩, (((HB.out.setCell (Nat.le_refl _) _).setCell (Nat.le_refl _) _).setCell (Nat.le_refl _) _).setCell (Nat.le_refl _) _⟩
            rw [HCM.out, HGE.out]
            exact (((HR.out.setCell_other (HR.out.ne HZ.out (by decide)) _).setCell_other (HR.out.ne HZ.out (by decide)) _).setCell_other (HR.out.ne HZ.out (by decide)) _).setCell_other (HR.out.ne HZ.out (by decide)) _
        · have HGE := hide (HGEn.out (fun e => hc4 e.1))
          go_wp2
          refine bodyPost_ret (v := .tuple #[.agg #[.bool r.write, .int .i64 p, .int .i64 cnt, .slice ao n cap], .bool true]) ?_ ?_ ?_
          rotate_left
          · rfl
          rotate_left
          · simp [results, Tryz.results113, go_sem, z0, z1, z2, z3]
          refine ⟨⟨ao, n, cap, by rw [HCM.out, HGE.out], by rw [HCM.out, HGE.out]; exact HN.out, ?_⟩, (((HB.out.setCell (Nat.le_refl _) _).setCell (Nat.le_refl _) _).setCell (Nat.le_refl _) _).setCell (Nat.le_refl _) _⟩
          rw [HCM.out, HGE.out]
          exact (((HR.out.setCell_other (HR.out.ne HZ.out (by decide)) _).setCell_other (HR.out.ne HZ.out (by decide)) _).setCell_other (HR.out.ne HZ.out (by decide)) _).setCell_other (HR.out.ne HZ.out (by decide)) _
end Go.Proofs.YtiabdbeejkadnaaGreatDoor
