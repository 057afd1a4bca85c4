/- The reference queue's small functions by contracts: isTold, place. Own work of the verifier. -/
import Derived.Test.YtiabdbeejkadnaaGreatDoorChecked
import Derived.Test.YtiabdbeejkadnaaGreatDoorInfo
import Derived.Test.YtiabdbeejkadnaaGreatDoorBase
import Derived.BigQuiet
import Derived.Deep.QuietTactic
namespace Go.Proofs.YtiabdbeejkadnaaGreatDoor
open Go.RowKit

theorem ref_isTold (S : St) (F : Nat → Prop) (mb : Nat) (num : Int) (w : World) (h : RefAt w F mb S) (hl : S.told.length ≤ 1000000) :
    Calls Tryz.prog 112 #[.pointer (some ⟨mb, 0, none⟩), .int .i64 num] w fun e w' => e = .returned (.bool (toldHas S.told num)) ∧ w' = w := by
  obtain ⟨G, ar, cr, at_, ct, af, cf, ad, cd, h⟩ := h
  have c2 := h.c2
  have ht := h.told
  have HH : Hid (Row w F 3 1 at_ S.told.length ct (encI S.told)) := ht
  clear ht h
  generalize hT : S.told = T at *
  clear hT
  go_enter Tryz.func112, Tryz.ntmps112
  go_wp2
  go_loop [5] (fun i => ∃ k : Nat, k ≤ T.length ∧ i = .int .i64 k ∧ Hid (toldHas (T.take k) num = false)) (fun i => T.length - (intOf i).toNat)
  case atStart => exact ⟨0, Nat.zero_le _, rfl, rfl⟩
  case round =>
    obtain ⟨k, hk, rfl, hc⟩ := hrel
    by_cases hlt : k < T.length
    · obtain ⟨g, cur, hg, _, _, _, _⟩ := Row.some HH.out (by omega)
      obtain ⟨x, hx⟩ : ∃ x, x = T.getD k 0 := ⟨_, rfl⟩
      have c2' : w.cell? ⟨mb, 2, none⟩ = some (.slice (some ⟨g, 0, none⟩) T.length ct) := hg ▸ c2
      have ck : w.cell? ⟨g, k, none⟩ = some (.int .i64 x) := by
        have := Row.cellAt (hg ▸ HH.out) k (by omega)
        rw [this, hx]; simp [encI, hlt]
      clear c2
      by_cases he : x = num
      · have e1 : (x == num) = true := beq_iff_eq.2 he
        have hfin : Hid (toldHas T num = true) := toldHas_mem (by rw [← he, hx]; exact getD_mem hlt)
        clear he hx
        go_wp2
        go_ret
        exact ⟨by rw [hfin.out]; rfl, rfl⟩
      · have e1 : (x == num) = false := beq_eq_false_iff_ne.2 he
        have hnx : Hid (toldHas (T.take (k + 1)) num = false) := toldHas_take hlt hc.out (by rw [← hx]; exact he)
        clear he hx
        go_wp2
        go_round
        case rel => exact ⟨k + 1, by omega, by go_num, hnx⟩
        case measure => simp [intOf]; omega
    · have hfin : Hid (toldHas T num = false) := toldHas_all (by omega) hc.out
      go_wp2
      go_ret
      exact ⟨by rw [hfin.out]; rfl, rfl⟩

theorem ref_place (S : St) (F : Nat → Prop) (mb : Nat) (num : Int) (w : World) (h : RefAt w F mb S) (hl : S.told.length ≤ 1000000) (hr : S.reqs.length ≤ 1000000) :
    Calls Tryz.prog 108 #[.pointer (some ⟨mb, 0, none⟩), .int .i64 num] w fun e w' => e = .returned (.int .i64 (placeM S num)) ∧ w' = w := by
  have h0 := h
  obtain ⟨G, ar, cr, at_, ct, af, cf, ad, cd, h⟩ := h
  have c1 := h.c1
  have HH : Hid (Row w F 175 10 ar S.reqs.length cr (S.reqs.flatMap encR)) := h.reqs
  have H0 : Hid (RefAt w F mb S) := h0
  clear h h0
  by_cases ht : toldHas S.told num = true
  · have hp : Hid (placeM S num = -1) := by simp [Hid, placeM, ht]
    generalize hT : S.reqs = R at *
    clear hT
    go_enter Tryz.func108, Tryz.ntmps108
    go_wp2_with fail
    refine (ref_isTold S F mb num _ H0.out hl).mono ?_
    rintro e w' ⟨rfl, rfl⟩
    rw [ht]
    go_wp2
    go_loop [6] (fun i => ∃ k : Nat, k ≤ R.length ∧ i = .int .i64 k) (fun i => R.length - (intOf i).toNat)
    case atStart => exact ⟨0, Nat.zero_le _, rfl⟩
    case round =>
      obtain ⟨k, hk, rfl⟩ := hrel
      by_cases hlt : k < R.length
      · obtain ⟨g, cur, hg, _, _, _, _⟩ := Row.some HH.out (by omega)
        obtain ⟨x, hx⟩ : ∃ x, x = (R.getD k Rq.zero).num := ⟨_, rfl⟩
        have c1' : w'.cell? ⟨mb, 1, none⟩ = some (.slice (some ⟨g, 0, none⟩) R.length cr) := hg ▸ c1
        have ck : w'.cell? ⟨g, k * 10, none⟩ = some (.int .i64 x) := by
          have := Row.cellAt (hg ▸ HH.out) (k * 10) (by omega)
          have e := encRs_at R k 0 hlt (by omega)
          rw [Nat.add_zero] at e
          rw [this, hx, e]; rfl
        clear c1
        by_cases he : x = num
        · have e1 : (x == num) = true := beq_iff_eq.2 he
          clear he hx
          go_wp2
          go_round
          case rel => exact ⟨k + 1, by omega, by go_num⟩
          case measure => simp [intOf]; omega
        · have e1 : (x == num) = false := beq_eq_false_iff_ne.2 he
          clear he hx
          go_wp2
          go_round
          case rel => exact ⟨k + 1, by omega, by go_num⟩
          case measure => simp [intOf]; omega
      · go_wp2
        go_ret
        exact ⟨by rw [hp.out]; rfl, rfl⟩
  · have ht : toldHas S.told num = false := by simpa using ht
    have hp : Hid (placeM S num = intOr (findR S.reqs num)) := by simp [Hid, placeM, ht]
    generalize hT : S.reqs = R at *
    clear hT
    go_enter Tryz.func108, Tryz.ntmps108
    go_wp2_with fail
    refine (ref_isTold S F mb num _ H0.out hl).mono ?_
    rintro e w' ⟨rfl, rfl⟩
    rw [ht]
    go_wp2
    go_loop [6] (fun i => ∃ k : Nat, k ≤ R.length ∧ i = .int .i64 k ∧ Hid (findR (R.take k) num = none)) (fun i => R.length - (intOf i).toNat)
    case atStart => exact ⟨0, Nat.zero_le _, rfl, rfl⟩
    case round =>
      obtain ⟨k, hk, rfl, hc⟩ := hrel
      by_cases hlt : k < R.length
      · obtain ⟨g, cur, hg, _, _, _, _⟩ := Row.some HH.out (by omega)
        obtain ⟨x, hx⟩ : ∃ x, x = (R.getD k Rq.zero).num := ⟨_, rfl⟩
        have c1' : w'.cell? ⟨mb, 1, none⟩ = some (.slice (some ⟨g, 0, none⟩) R.length cr) := hg ▸ c1
        have ck : w'.cell? ⟨g, k * 10, none⟩ = some (.int .i64 x) := by
          have := Row.cellAt (hg ▸ HH.out) (k * 10) (by omega)
          have e := encRs_at R k 0 hlt (by omega)
          rw [Nat.add_zero] at e
          rw [this, hx, e]; rfl
        clear c1
        by_cases he : x = num
        · have e1 : (x == num) = true := beq_iff_eq.2 he
          have hfin : Hid (intOr (findR R num) = (k : Int)) := by rw [Hid, findR_hit hlt hc.out (by rw [← hx]; exact he)]; rfl
          clear he hx
          go_wp2
          go_ret
          exact ⟨by rw [hp.out, hfin.out]; rfl, rfl⟩
        · have e1 : (x == num) = false := beq_eq_false_iff_ne.2 he
          have hnx : Hid (findR (R.take (k + 1)) num = none) := findR_next hlt hc.out (by rw [← hx]; exact he)
          clear he hx
          go_wp2
          go_round
          case rel => exact ⟨k + 1, by omega, by go_num, hnx⟩
          case measure => simp [intOf]; omega
      · have hfin : Hid (intOr (findR R num) = -1) := by rw [Hid, findR_all (by omega) hc.out]; rfl
        go_wp2
        go_ret
        exact ⟨by rw [hp.out, hfin.out]; rfl, rfl⟩
end Go.Proofs.YtiabdbeejkadnaaGreatDoor
