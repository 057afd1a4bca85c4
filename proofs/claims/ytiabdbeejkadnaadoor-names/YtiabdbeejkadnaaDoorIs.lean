/- errors.Is by contracts, the target a Kind. Own work of the verifier. -/
import Derived.Test.YtiabdbeejkadnaaDoorErrs
namespace Go.Proofs.YtiabdbeejkadnaaDoor
open Go.RowKit Go.Extern.Stop Go.Stop Go.Extern

/-! ### errors.Is, the target a Kind -/
theorem is_nil (n : Int) (w : World) :
    Calls Tryd.prog 28 #[.nilIface, .iface 22 (.int .i64 n)] w fun e w' => e = .returned (.bool false) ∧ w' = w := by
  have hn := run_eql_iface_nil_left (P := Tryd.prog) w 22 (.int .i64 n) Tryd.underlying55
  go_enter Tryd.func28, Tryd.ntmps28
  go_wp2
  go_ret
  exact ⟨rfl, rfl⟩

theorem is_kind (a n : Int) (w : World) :
    Calls Tryd.prog 28 #[.iface 22 (.int .i64 a), .iface 22 (.int .i64 n)] w fun e w' => e = .returned (.bool (a == n)) ∧ w' = w := by
  obtain ⟨i, hi, hcmp⟩ := Option.map_eq_some_iff.1 comp_info
  have h8 := @run_callFunc_extern Tryd.prog 42 _ ReflectliteType.typeOf Tryd.func42 (by kernel_rfl) (by kernel_rfl) (by kernel_rfl) (by kernel_rfl)
  have h32 := @run_callFunc_extern Tryd.prog 111 _ compEntry Tryd.func111 (by kernel_rfl) (by kernel_rfl) (by kernel_rfl) (by kernel_rfl)
  have tT := typeOf_k
  have cT := comp_k
  have mR := m_Comp
  have nI := noIs_k
  have nU := noUnw_k
  have nV := noUnws_k
  have heq := run_eql_iface_int (P := Tryd.prog) w a n Tryd.underlying55 Tryd.underlying22 hi hcmp
  by_cases h : a = n
  · have hb : (a == n) = true := beq_iff_eq.2 h
    clear h
    rw [hb] at heq
    rw [hb]
    go_enter Tryd.func28, Tryd.ntmps28
    go_wp2
    refine wp_loop_rounds 1 ?_
    rw [rounds_succ]
    go_wp2
    go_ret
    exact ⟨rfl, rfl⟩
  · have hb : (a == n) = false := beq_eq_false_iff_ne.2 h
    clear h
    rw [hb] at heq
    rw [hb]
    go_enter Tryd.func28, Tryd.ntmps28
    go_wp2
    refine wp_loop_rounds 1 ?_
    rw [rounds_succ]
    go_wp2
    go_ret
    exact ⟨rfl, rfl⟩

theorem is_req (pb po : Nat) (a n : Int) (w : World) (h1 : w.cell? ⟨pb, po + 2, none⟩ = some (.int .i64 a)) :
    Calls Tryd.prog 28 #[.iface 56 (.pointer (some ⟨pb, po, none⟩)), .iface 22 (.int .i64 n)] w fun e w' => e = .returned (.bool (a == n)) ∧ w' = w := by
  obtain ⟨i, hi, hcmp⟩ := Option.map_eq_some_iff.1 comp_info
  have h8 := @run_callFunc_extern Tryd.prog 42 _ ReflectliteType.typeOf Tryd.func42 (by kernel_rfl) (by kernel_rfl) (by kernel_rfl) (by kernel_rfl)
  have h32 := @run_callFunc_extern Tryd.prog 111 _ compEntry Tryd.func111 (by kernel_rfl) (by kernel_rfl) (by kernel_rfl) (by kernel_rfl)
  have tT := typeOf_k
  have cT := comp_k
  have mR := m_Comp
  have nI := noIs_k
  have nU := noUnw_k
  have nV := noUnws_k
  have nP := noIs_p
  have uP := unw_p
  have mU := m_Unwrap
  have hty := run_eql_iface_types (P := Tryd.prog) 56 22 (.pointer (some ⟨pb, po, none⟩)) (.int .i64 n) Tryd.underlying55 (by decide) w
  have heq := run_eql_iface_int (P := Tryd.prog) w a n Tryd.underlying55 Tryd.underlying22 hi hcmp
  by_cases h : a = n
  · have hb : (a == n) = true := beq_iff_eq.2 h
    clear h
    rw [hb] at heq
    rw [hb]
    go_enter Tryd.func28, Tryd.ntmps28
    go_wp2
    refine wp_loop_rounds 2 ?_
    rw [rounds_succ]
    go_wp2
    rw [rounds_succ]
    go_wp2
    go_ret
    exact ⟨rfl, rfl⟩
  · have hb : (a == n) = false := beq_eq_false_iff_ne.2 h
    clear h
    rw [hb] at heq
    rw [hb]
    go_enter Tryd.func28, Tryd.ntmps28
    go_wp2
    refine wp_loop_rounds 2 ?_
    rw [rounds_succ]
    go_wp2
    rw [rounds_succ]
    go_wp2
    go_ret
    exact ⟨rfl, rfl⟩
end Go.Proofs.YtiabdbeejkadnaaDoor
