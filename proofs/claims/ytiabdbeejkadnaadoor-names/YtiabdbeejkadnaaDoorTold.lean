/- api.Told and plain.told by contracts. Own work of the verifier. -/
import Derived.Test.YtiabdbeejkadnaaDoorWraps
import Derived.Test.YtiabdbeejkadnaaDoorIs
import Derived.BigQuiet
import Derived.WalkSmall
import Derived.Deep.QuietTactic
namespace Go.Proofs.YtiabdbeejkadnaaDoor
open Go.RowKit Go.Extern.Stop Go.Stop Go.Extern

theorem apiTold_nil (w : World) :
    Calls Tryd.prog 27 #[.nilIface] w fun e w' => e = .returned (.tuple #[.int .i64 0, .int .i64 (-1), .int .i64 0]) ∧ Below w.heap.size w w' := by
  go_enter Tryd.func27, Tryd.ntmps27
  go_wp2_with (go_at_call 41; refine (as_nil _ _).mono ?_; rintro e w' ⟨rfl, rfl⟩)
  go_ret3
  exact ⟨rfl, ((Below.refl _ _).alloc (Nat.le_refl _) _).alloc (by simp) _⟩

set_option maxHeartbeats 1000000 in
theorem apiTold_kind (n : Int) (w : World) (hg : w.cell? ⟨0, 0, none⟩ = some (.iface 124 (.agg #[.pointer (some ⟨1, 55, none⟩)]))) :
    Calls Tryd.prog 27 #[.iface 22 (.int .i64 n)] w fun e w' => e = .returned (.tuple #[.int .i64 n, .int .i64 (-1), .int .i64 0]) ∧ Below w.heap.size w w' := by
  have hlt : 0 < w.heap.size := lt_of_cell hg
  go_enter Tryd.func27, Tryd.ntmps27
  go_wp2_with fail
  refine (as_kp n _ _ (by rw [World.cell?_alloc_lt _ _ ⟨0, 0, none⟩ hlt]; exact hg)).mono ?_
  rintro e w1 ⟨rfl, hb⟩
  have hz : w.heap.size + 1 ≤ w1.heap.size := by have := hb.size; simpa using this
  have hg1 : (w1.alloc (.cells #[.int .i64 0] 22)).cell? ⟨0, 0, none⟩ = some (.iface 124 (.agg #[.pointer (some ⟨1, 55, none⟩)])) := by
    rw [World.cell?_alloc_lt _ _ ⟨0, 0, none⟩ (by show 0 < w1.heap.size; omega), hb.cell (p := ⟨0, 0, none⟩) (by simp), World.cell?_alloc_lt _ _ ⟨0, 0, none⟩ hlt]; exact hg
  go_wp2_with fail
  refine (as_kk n _ (.int .i64 0) _ hg1 (by simp) (by simp)).mono ?_
  rintro e w2 ⟨rfl, w3, rfl, hb2⟩
  have hc : w3.cell? ⟨w1.heap.size, 0, none⟩ = some (.int .i64 0) := by
    rw [hb2.cell (p := ⟨w1.heap.size, 0, none⟩) (by simp)]; simp
  have hc2 : (w3.setCell ⟨w1.heap.size, 0, none⟩ (.int .i64 n)).cell? ⟨w1.heap.size, 0, none⟩ = some (.int .i64 n) := World.cell?_setCell_same _ _ _ hc
  have hbb : Below w.heap.size w (w3.setCell ⟨w1.heap.size, 0, none⟩ (.int .i64 n)) :=
    (((((Below.refl _ _).alloc (Nat.le_refl _) _).trans (hb.mono (by simp))).alloc (by omega) _).trans (hb2.mono (by simp; omega))).setCell (by show w.heap.size ≤ w1.heap.size; omega) _
  generalize w3.setCell ⟨w1.heap.size, 0, none⟩ (.int .i64 n) = w4 at hc2 hbb
  clear hb hb2 hc hg1 hg
  go_wp2
  go_ret3
  exact ⟨rfl, hbb⟩

set_option maxHeartbeats 1000000 in
theorem apiTold_req (pb po : Nat) (k r t : Int) (w : World) (hg : w.cell? ⟨0, 0, none⟩ = some (.iface 124 (.agg #[.pointer (some ⟨1, 55, none⟩)])))
    (h0 : w.cell? ⟨pb, po, none⟩ = some (.int .i64 r)) (h1 : w.cell? ⟨pb, po + 1, none⟩ = some (.int .i64 t)) (h2 : w.cell? ⟨pb, po + 2, none⟩ = some (.int .i64 k)) :
    Calls Tryd.prog 27 #[.iface 56 (.pointer (some ⟨pb, po, none⟩))] w fun e w' => e = .returned (.tuple #[.int .i64 k, .int .i64 r, .int .i64 t]) ∧ Below w.heap.size w w' := by
  have hlt : 0 < w.heap.size := lt_of_cell hg
  have hpb : pb < w.heap.size := lt_of_cell h0
  go_enter Tryd.func27, Tryd.ntmps27
  go_wp2_with fail
  refine (as_pp ⟨pb, po, none⟩ _ (.pointer none) _ (by rw [World.cell?_alloc_lt _ _ ⟨0, 0, none⟩ hlt]; exact hg) (by simp) (by simp)).mono ?_
  rintro e w2 ⟨rfl, w3, rfl, hb2⟩
  have hc : w3.cell? ⟨w.heap.size, 0, none⟩ = some (.pointer none) := by
    rw [hb2.cell (p := ⟨w.heap.size, 0, none⟩) (by simp)]; simp
  have hc2 : (w3.setCell ⟨w.heap.size, 0, none⟩ (.pointer (some ⟨pb, po, none⟩))).cell? ⟨w.heap.size, 0, none⟩ = some (.pointer (some ⟨pb, po, none⟩)) := World.cell?_setCell_same _ _ _ hc
  have hbb : Below w.heap.size w (w3.setCell ⟨w.heap.size, 0, none⟩ (.pointer (some ⟨pb, po, none⟩))) :=
    (((Below.refl _ _).alloc (Nat.le_refl _) _).trans (hb2.mono (by simp))).setCell (Nat.le_refl _) _
  generalize w3.setCell ⟨w.heap.size, 0, none⟩ (.pointer (some ⟨pb, po, none⟩)) = w4 at hc2 hbb
  have g0 := (hbb.cell (p := ⟨pb, po, none⟩) hpb).trans h0
  have g1 := (hbb.cell (p := ⟨pb, po + 1, none⟩) hpb).trans h1
  have g2 := (hbb.cell (p := ⟨pb, po + 2, none⟩) hpb).trans h2
  clear hb2 hc hg h0 h1 h2
  go_wp2
  go_quiet (fail)
  go_wp2
  go_ret3
  exact ⟨rfl, below_drewN hbb _⟩

set_option maxHeartbeats 1000000 in
theorem told_any (v : Value) (k r t : Int) (w : World)
    (HT : Hid (∀ w', Below w.heap.size w w' → Calls Tryd.prog 27 #[v] w' fun e w'' => e = .returned (.tuple #[.int .i64 k, .int .i64 r, .int .i64 t]) ∧ Below w'.heap.size w' w''))
    (HI : Hid (∀ (n : Int) w', 1 ≤ n → Below w.heap.size w w' → Calls Tryd.prog 28 #[v, .iface 22 (.int .i64 n)] w' fun e w'' => e = .returned (.bool (k == n)) ∧ w'' = w')) :
    Calls Tryd.prog 18 #[v] w fun e w' => e = .returned (.agg #[.int .i64 k, .int .i64 r, .int .i64 t, .bool true]) ∧ Below w.heap.size w w' := by
  go_enter Tryd.func18, Tryd.ntmps18
  go_wp2_with fail
  refine (HT.out _ ((Below.refl _ _).alloc (Nat.le_refl _) _)).mono ?_
  rintro e w1 ⟨rfl, hb1⟩
  have hz : w.heap.size + 1 ≤ w1.heap.size := by have := hb1.size; simpa using this
  have hz' : w.heap.size < w1.heap.size := hz
  have hbw : Below w.heap.size w w1 := ((Below.refl _ _).alloc (Nat.le_refl _) _).trans (hb1.mono (by simp))
  have c0 := (hb1.cell (p := ⟨w.heap.size, 0, none⟩) (by simp))
  have c1 := (hb1.cell (p := ⟨w.heap.size, 1, none⟩) (by simp))
  have c2 := (hb1.cell (p := ⟨w.heap.size, 2, none⟩) (by simp))
  have c3 := (hb1.cell (p := ⟨w.heap.size, 3, none⟩) (by simp))
  have f0 := (hb1.frozen (p := ⟨w.heap.size, 0, none⟩) (by simp))
  have f1 := (hb1.frozen (p := ⟨w.heap.size, 1, none⟩) (by simp))
  have f2 := (hb1.frozen (p := ⟨w.heap.size, 2, none⟩) (by simp))
  have f3 := (hb1.frozen (p := ⟨w.heap.size, 3, none⟩) (by simp))
  simp at c0 c1 c2 c3 f0 f1 f2 f3
  clear hb1
  go_wp2
  go_loop [7] (fun i => ∃ n : Nat, 1 ≤ n ∧ n ≤ 11 ∧ i = .int .i64 n) (fun i => (11 - intOf i).toNat)
  case atStart => exact ⟨1, by omega, by omega, rfl⟩
  case round =>
    obtain ⟨n, hn1, hn2, rfl⟩ := hrel
    by_cases hlt : n ≤ 10
    · by_cases hk : k = n
      · have e1 : (k == (n : Int)) = true := beq_iff_eq.2 hk
        have e2 : ((n : Int) == k) = true := beq_iff_eq.2 hk.symm
        clear hk
        go_wp2_with fail
        refine (HI.out n _ (by omega) (hbw.alloc (by omega) _)).mono ?_
        rintro e w2 ⟨rfl, rfl⟩
        go_wp2
        go_round
        case rel => exact ⟨n + 1, by omega, by omega, by go_num⟩
        case measure => simp [intOf]; omega
      · have e1 : (k == (n : Int)) = false := beq_eq_false_iff_ne.2 hk
        have e2 : ((n : Int) == k) = false := beq_eq_false_iff_ne.2 (fun h => hk h.symm)
        clear hk
        go_wp2_with fail
        refine (HI.out n _ (by omega) (hbw.alloc (by omega) _)).mono ?_
        rintro e w2 ⟨rfl, rfl⟩
        go_wp2
        go_round
        case rel => exact ⟨n + 1, by omega, by omega, by go_num⟩
        case measure => simp [intOf]; omega
    · go_wp2
      refine bodyPost_ret (v := .agg #[.int .i64 k, .int .i64 r, .int .i64 t, .bool true]) (by simp [results, Tryd.results18, go_sem, hz', c0, c1, c2, c3]) rfl ⟨rfl, ?_⟩
      exact ((((hbw.setCell (Nat.le_refl _) _).setCell (Nat.le_refl _) _).setCell (Nat.le_refl _) _).setCell (Nat.le_refl _) _).alloc (by simp; omega) _

/-! ### plain.told at nil, at a kind, at a request's error -/
theorem told_nil (w : World) : Calls Tryd.prog 18 #[.nilIface] w fun e w' => e = .returned (.agg #[.int .i64 0, .int .i64 (-1), .int .i64 0, .bool true]) ∧ Below w.heap.size w w' := by
  refine told_any _ 0 (-1) 0 w (fun w' _ => apiTold_nil w') (fun n w' hn _ => ?_)
  have e1 : ((0 : Int) == n) = false := beq_eq_false_iff_ne.2 (by omega)
  rw [e1]
  exact is_nil n w'
theorem told_kind (k : Int) (w : World) (hg : w.cell? ⟨0, 0, none⟩ = some (.iface 124 (.agg #[.pointer (some ⟨1, 55, none⟩)]))) :
    Calls Tryd.prog 18 #[.iface 22 (.int .i64 k)] w fun e w' => e = .returned (.agg #[.int .i64 k, .int .i64 (-1), .int .i64 0, .bool true]) ∧ Below w.heap.size w w' :=
  told_any _ k (-1) 0 w (fun w' hb => apiTold_kind k w' ((hb.cell (p := ⟨0, 0, none⟩) (lt_of_cell hg)).trans hg)) (fun n w' _ _ => is_kind k n w')
theorem told_req (pb po : Nat) (k r t : Int) (w : World) (hg : w.cell? ⟨0, 0, none⟩ = some (.iface 124 (.agg #[.pointer (some ⟨1, 55, none⟩)])))
    (h0 : w.cell? ⟨pb, po, none⟩ = some (.int .i64 r)) (h1 : w.cell? ⟨pb, po + 1, none⟩ = some (.int .i64 t)) (h2 : w.cell? ⟨pb, po + 2, none⟩ = some (.int .i64 k)) :
    Calls Tryd.prog 18 #[.iface 56 (.pointer (some ⟨pb, po, none⟩))] w fun e w' => e = .returned (.agg #[.int .i64 k, .int .i64 r, .int .i64 t, .bool true]) ∧ Below w.heap.size w w' :=
  told_any _ k r t w (fun w' hb => apiTold_req pb po k r t w' ((hb.cell (p := ⟨0, 0, none⟩) (lt_of_cell hg)).trans hg) ((hb.cell (p := ⟨pb, po, none⟩) (lt_of_cell h0)).trans h0) ((hb.cell (p := ⟨pb, po + 1, none⟩) (lt_of_cell h1)).trans h1) ((hb.cell (p := ⟨pb, po + 2, none⟩) (lt_of_cell h2)).trans h2))
    (fun n w' _ hb => is_req pb po k n w' ((hb.cell (p := ⟨pb, po + 2, none⟩) (lt_of_cell h2)).trans h2))
end Go.Proofs.YtiabdbeejkadnaaDoor
