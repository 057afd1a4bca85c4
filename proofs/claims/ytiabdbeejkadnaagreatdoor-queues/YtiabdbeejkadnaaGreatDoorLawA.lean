/- The law's own small functions by contracts: fine, wrong, none, pick, sameInts. Own work of the verifier. -/
import Derived.Test.YtiabdbeejkadnaaGreatDoorRefG
import Derived.WalkLawsBesides
namespace Go.Proofs.YtiabdbeejkadnaaGreatDoor
open Go.RowKit

theorem err_eq (k r t : Int) (w : World) : (binOp .eql 57 (.agg #[.int .i64 k, .int .i64 r, .int .i64 t, .bool true]) (.agg #[.int .i64 k, .int .i64 r, .int .i64 t, .bool true])).run Tryz.prog w = .ok (.bool true) w := by
  have u1 := Tryz.underlying3
  have u2 := Tryz.underlying55
  have u3 := Tryz.underlying4
  have hS : Tryz.prog.underlying 57 = some (.struct (Tryz.prog.fieldsOf 57)) := by kernel_rfl
  have hp : Tryz.prog.stoodInHeld 57 = false := by kernel_rfl
  rw [run_eql_struct, show (10000 : Nat) = 9999 + 1 from rfl, run_equalIn_agg w 9999 57 _ _ hS hp]
  simp only [Program.fieldsOf, Tryz.underlying57]
  go_simp

theorem law_fine (w : World) : Calls Tryz.prog 48 #[.agg #[.int .i64 0, .int .i64 (-1), .int .i64 0, .bool true]] w fun e w' => e = .returned (.bool true) ∧ Below w.heap.size w w' := by
  have he := err_eq 0 (-1) 0
  go_enter Tryz.func48, Tryz.ntmps48
  go_wp2
  go_ret
  exact ⟨rfl, (Below.refl _ _).alloc (Nat.le_refl _) _⟩
theorem law_wrong (k r t : Int) (w : World) : Calls Tryz.prog 66 #[.agg #[.int .i64 k, .int .i64 r, .int .i64 t, .bool true], .int .i64 k, .int .i64 r, .int .i64 t] w fun e w' => e = .returned (.bool true) ∧ Below w.heap.size w w' := by
  have he := err_eq k r t
  go_enter Tryz.func66, Tryz.ntmps66
  go_wp2
  go_ret
  exact ⟨rfl, (Below.refl _ _).alloc (Nat.le_refl _) _⟩
theorem law_none (k : Int) (w : World) : Calls Tryz.prog 47 #[.agg #[.int .i64 k, .int .i64 (-1), .int .i64 0, .bool true], .int .i64 k] w fun e w' => e = .returned (.bool true) ∧ Below w.heap.size w w' := by
  go_enter Tryz.func47, Tryz.ntmps47
  go_wp2_with fail
  refine (law_wrong k (-1) 0 _).mono ?_
  rintro e w1 ⟨rfl, hb⟩
  go_wp2
  go_ret
  exact ⟨rfl, ((Below.refl _ _).alloc (Nat.le_refl _) _).trans (hb.mono (by simp))⟩

/-- pick: which of n things -/
def pickM (c n : Int) : Int := if c < 0 then (-(c + 1)) % n else c % n
theorem pickM_lt (c n : Int) (hn : 0 < n) : 0 ≤ pickM c n ∧ pickM c n < n := by
  unfold pickM
  split
  · exact ⟨Int.emod_nonneg _ (by omega), Int.emod_lt_of_pos _ hn⟩
  · exact ⟨Int.emod_nonneg _ (by omega), Int.emod_lt_of_pos _ hn⟩
theorem law_pick (c n : Int) (w : World) (hc : -9223372036854775808 ≤ c ∧ c ≤ 9223372036854775807) (hn : 0 < n) (hn2 : n ≤ 1000000) :
    Calls Tryz.prog 41 #[.int .i64 c, .int .i64 n] w fun e w' => e = .returned (.int .i64 (pickM c n)) ∧ w' = w := by
  obtain ⟨h1, h2⟩ := hc
  by_cases hneg : c < 0
  · have hp : Hid (pickM c n = -((c + 1).tmod n)) := by
      simp only [Hid, pickM, hneg, if_true]
      rw [← Int.neg_tmod, Int.tmod_eq_emod_of_nonneg (by omega)]
    have hb0 : (n == 0) = false := beq_eq_false_iff_ne.2 (by omega)
    go_enter Tryz.func41, Tryz.ntmps41
    go_wp2
    go_ret
    exact ⟨by rw [hp.out]; rfl, rfl⟩
  · have hp : Hid (pickM c n = c % n) := by simp [Hid, pickM, hneg]
    have hb0 : (n == 0) = false := beq_eq_false_iff_ne.2 (by omega)
    go_enter Tryz.func41, Tryz.ntmps41
    go_wp2
    go_ret
    exact ⟨by rw [hp.out]; rfl, rfl⟩

theorem law_same (T : List Int) (F G : Nat → Prop) (a1 a2 : Option Addr) (n c1 c2 : Nat) (w : World) (h1 : Row w F 3 1 a1 n c1 (encI T)) (h2 : Row w G 3 1 a2 n c2 (encI T)) (hn : n = T.length) (hl : n ≤ 1000000) :
    Calls Tryz.prog 73 #[.slice a1 n c1, .slice a2 n c2] w fun e w' => e = .returned (.bool true) ∧ ∃ k, w' = w.drewN k := by
  have H1 : Hid (Row w F 3 1 a1 n c1 (encI T)) := h1
  have H2 : Hid (Row w G 3 1 a2 n c2 (encI T)) := h2
  have HN : Hid (n = T.length) := hn
  clear h1 h2 hn
  have hb0 : ((n : Int) != (n : Int)) = false := by simp
  by_cases hz : n = 0
  · have h0 : ¬ (0 : Int) < (n : Int) := by omega
    go_enter Tryz.func73, Tryz.ntmps73
    go_wp2
    refine wp_loop_rounds 1 ?_
    rw [rounds_succ]
    go_wp2
    go_ret
    exact ⟨rfl, 0, rfl⟩
  · obtain ⟨g1, cu1, rfl, _⟩ := Row.some H1.out (by omega)
    obtain ⟨g2, cu2, rfl, _⟩ := Row.some H2.out (by omega)
    go_enter Tryz.func73, Tryz.ntmps73
    go_wp2
    go_loopw [5] (fun i wr => ∃ k m : Nat, k ≤ n ∧ i = .int .i64 k ∧ Hid (wr = w.drewN m)) (fun i _ => n - (intOf i).toNat)
    case atStart => exact ⟨0, 0, Nat.zero_le _, rfl, rfl⟩
    case round =>
      obtain ⟨k, m, hk, rfl, hw⟩ := hrel
      by_cases hlt : k < n
      · obtain ⟨x, hx⟩ : ∃ x, x = T.getD k 0 := ⟨_, rfl⟩
        have q1 : wr.cell? ⟨g1, k, none⟩ = some (.int .i64 x) := by
          have := Row.cellAt H1.out k (by omega)
          have hkT : k < T.length := by rw [← HN.out]; exact hlt
          rw [hw.out]; show w.cell? _ = _; rw [this, hx]; simp [encI, hkT]
        have q2 : wr.cell? ⟨g2, k, none⟩ = some (.int .i64 x) := by
          have := Row.cellAt H2.out k (by omega)
          have hkT : k < T.length := by rw [← HN.out]; exact hlt
          rw [hw.out]; show w.cell? _ = _; rw [this, hx]; simp [encI, hkT]
        have hb1 : (x != x) = false := by simp
        clear hx
        have hlt' : (k : Int) < (n : Int) := by omega
        go_wp2
        go_quiet (fail)
        go_wp2
        go_roundw
        case rel => exact ⟨k + 1, m + nq, by omega, by go_num, by rw [Hid, hw.out]; simp [World.drewN, Nat.add_assoc]⟩
        case measure => simp [intOf]; omega
      · go_wp2
        go_ret
        exact ⟨rfl, m, hw.out⟩
end Go.Proofs.YtiabdbeejkadnaaGreatDoor
