/- The law's world: looks; small. Own work of the verifier. -/
import Derived.Test.YtiabdbeejkadnaaGreatDoorLawC
namespace Go.Proofs.YtiabdbeejkadnaaGreatDoor
open Go.RowKit

theorem encL_at {ls : List (Option Addr × Nat)} {i : Nat} (h : i < ls.length) : (encL ls)[i]? = some (.slice (ls[i]).1 (ls[i]).2 (ls[i]).2) := by simp [encL, h]

set_option maxHeartbeats 2000000 in
set_option maxRecDepth 1000000 in
theorem law_looks (F : Nat → Prop) (wb : Nat) (qs : List (Nat × Nat)) (bs is : List (Option Addr × Nat)) (w : World) (h : WAt w F wb qs bs is) (hl : bs.length ≤ 1000000) (hl2 : is.length ≤ 1000000) (hm : (∀ x ∈ bs, x.2 ≤ maxLen) ∧ ∀ x ∈ is, x.2 ≤ maxLen) :
    Calls Tryz.prog 22 #[.pointer (some ⟨wb, 0, none⟩)] w fun e w' => e = .returned (.bool true) ∧ w' = w := by
  obtain ⟨R, L, aq, cq, ab, cb, ai, ci, h, hF⟩ := h
  have c1 := h.c1
  have c2 := h.c2
  have H : Hid (WBlk w R L wb qs bs is aq cq ab cb ai ci) := h
  have HM : Hid ((∀ x ∈ bs, x.2 ≤ maxLen) ∧ ∀ x ∈ is, x.2 ≤ maxLen) := hm
  clear h hF hm
  generalize hB : bs.length = nb at *
  generalize hI : is.length = ni at *
  have hB' : Hid (bs.length = nb) := hB
  have hI' : Hid (is.length = ni) := hI
  clear hB hI
  go_enter Tryz.func22, Tryz.ntmps22
  go_wp2
  go_loop [3] (fun i => ∃ k : Nat, k ≤ nb ∧ i = .int .i64 k) (fun i => nb - (intOf i).toNat)
  case atStart => exact ⟨0, Nat.zero_le _, rfl⟩
  case round =>
    obtain ⟨k, hk, rfl⟩ := hrel
    by_cases hlt : k < nb
    · have hkb : k < bs.length := by rw [hB'.out]; exact hlt
      obtain ⟨g, cur, hg, _⟩ := Row.some H.out.rb (by omega)
      have d1 : w.cell? ⟨wb, 1, none⟩ = some (.slice (some ⟨g, 0, none⟩) nb cb) := hg ▸ c1
      obtain ⟨ao, n, hx⟩ : ∃ ao n, bs[k] = (ao, n) := ⟨(bs[k]).1, (bs[k]).2, rfl⟩
      have dk : w.cell? ⟨g, k, none⟩ = some (.slice ao n n) := by
        have hr := H.out.rb
        rw [hg] at hr
        rw [Row.cellAt hr k (by omega), encL_at hkb, hx]
      have hn : n ≤ maxLen := by have := HM.out.1 bs[k] (List.getElem_mem _); rw [hx] at this; exact this
      unfold maxLen at hn
      have HO : Hid (Own1 w L 5 ao n (byteAt k)) := by have := H.out.lb k hkb; rw [hx] at this; exact this
      clear c1 hx hg
      go_wp2
      go_loop [4] (fun i => ∃ j : Nat, j ≤ n ∧ i = .int .i64 j) (fun i => n - (intOf i).toNat)
      case atStart => exact ⟨0, Nat.zero_le _, rfl⟩
      case round =>
        obtain ⟨j, hj, rfl⟩ := hrel
        by_cases hlt2 : j < n
        · obtain ⟨g2, hg2, hc2⟩ := Own1.cell HO.out j hlt2
          have dk2 : w.cell? ⟨g, k, none⟩ = some (.slice (some ⟨g2, 0, none⟩) n n) := hg2 ▸ dk
          unfold byteAt at hc2
          have hb : (((k : Int) % 256) != ((k : Int) % 256)) = false := by simp
          clear dk
          go_wp2
          go_round
          case rel => exact ⟨j + 1, by omega, by go_num⟩
          case measure => simp [intOf]; omega
        · go_wp2
          go_round
          case rel => exact ⟨k + 1, by omega, by go_num⟩
          case measure => simp [intOf]; omega
    · go_wp2
      go_loop [5] (fun i => ∃ k : Nat, k ≤ ni ∧ i = .int .i64 k) (fun i => ni - (intOf i).toNat)
      case atStart => exact ⟨0, Nat.zero_le _, rfl⟩
      case round =>
        obtain ⟨k, hk, rfl⟩ := hrel
        by_cases hlt : k < ni
        · have hkb : k < is.length := by rw [hI'.out]; exact hlt
          obtain ⟨g, cur, hg, _⟩ := Row.some H.out.ri (by omega)
          have d1 : w.cell? ⟨wb, 2, none⟩ = some (.slice (some ⟨g, 0, none⟩) ni ci) := hg ▸ c2
          obtain ⟨ao, n, hx⟩ : ∃ ao n, is[k] = (ao, n) := ⟨(is[k]).1, (is[k]).2, rfl⟩
          have dk : w.cell? ⟨g, k, none⟩ = some (.slice ao n n) := by
            have hr := H.out.ri
            rw [hg] at hr
            rw [Row.cellAt hr k (by omega), encL_at hkb, hx]
          have hn : n ≤ maxLen := by have := HM.out.2 is[k] (List.getElem_mem _); rw [hx] at this; exact this
          unfold maxLen at hn
          have HO : Hid (Own1 w L 3 ao n (intAt k)) := by have := H.out.li k hkb; rw [hx] at this; exact this
          clear c2 hx hg
          go_wp2
          go_loop [6] (fun i => ∃ j : Nat, j ≤ n ∧ i = .int .i64 j) (fun i => n - (intOf i).toNat)
          case atStart => exact ⟨0, Nat.zero_le _, rfl⟩
          case round =>
            obtain ⟨j, hj, rfl⟩ := hrel
            by_cases hlt2 : j < n
            · obtain ⟨g2, hg2, hc2⟩ := Own1.cell HO.out j hlt2
              have dk2 : w.cell? ⟨g, k, none⟩ = some (.slice (some ⟨g2, 0, none⟩) n n) := hg2 ▸ dk
              unfold intAt at hc2
              have hb : ((-(k : Int)) != (-(k : Int))) = false := by simp
              clear dk
              go_wp2
              go_round
              case rel => exact ⟨j + 1, by omega, by go_num⟩
              case measure => simp [intOf]; omega
            · go_wp2
              go_round
              case rel => exact ⟨k + 1, by omega, by go_num⟩
              case measure => simp [intOf]; omega
        · go_wp2
          go_ret
          exact ⟨rfl, rfl⟩
end Go.Proofs.YtiabdbeejkadnaaGreatDoor
