/- The law: small. Own work of the verifier. -/
import Derived.Test.YtiabdbeejkadnaaGreatDoorPairI
namespace Go.Proofs.YtiabdbeejkadnaaGreatDoor
open Go.RowKit Go.Maps

structure OpD where
  k : Int
  a : Int
  b : Int
  c : Int
  s : ByteArray
/-- the script, as it lies in memory: n steps -/
def Script (w : World) (blk off n : Nat) (O : Nat → OpD) : Prop := ∀ i, i < n →
  w.cell? ⟨blk, off + i * 5, none⟩ = some (.int .i64 (O i).k) ∧ w.cell? ⟨blk, off + i * 5 + 1, none⟩ = some (.int .i64 (O i).a) ∧ w.cell? ⟨blk, off + i * 5 + 2, none⟩ = some (.int .i64 (O i).b) ∧ w.cell? ⟨blk, off + i * 5 + 3, none⟩ = some (.int .i64 (O i).c) ∧ w.cell? ⟨blk, off + i * 5 + 4, none⟩ = some (.string (O i).s)
theorem Script.below {w w' : World} {blk off n : Nat} {O : Nat → OpD} {B : Nat} (h : Script w blk off n O) (hb : Below B w w') (hB : blk < B) : Script w' blk off n O := fun i hi => by
  obtain ⟨h0, h1, h2, h3, h4⟩ := h i hi
  exact ⟨(hb.cell (p := ⟨blk, _, none⟩) hB).trans h0, (hb.cell (p := ⟨blk, _, none⟩) hB).trans h1, (hb.cell (p := ⟨blk, _, none⟩) hB).trans h2, (hb.cell (p := ⟨blk, _, none⟩) hB).trans h3, (hb.cell (p := ⟨blk, _, none⟩) hB).trans h4⟩

theorem small_nil (ao : Option Addr) (cap : Nat) (w : World) : Calls Tryz.prog 20 #[.slice ao 0 cap] w fun e w' => e = .returned (.bool true) ∧ w' = w := by
  go_enter Tryz.func20, Tryz.ntmps20
  go_wp2
  refine wp_loop_rounds 1 ?_
  rw [rounds_succ]
  go_wp2
  go_ret
  exact ⟨rfl, rfl⟩

/-- what small tells -/
def Smalls (w : World) (n : Nat) (O : Nat → OpD) (e : Ending) (w' : World) : Prop := ∃ r, e = .returned (.bool r) ∧ w' = w ∧ (r = true → n ≤ 65536 ∧ ∀ i, i < n → (O i).s.size ≤ 65536)
set_option maxHeartbeats 1000000 in
set_option maxRecDepth 1000000 in
theorem small_some (blk off n cap : Nat) (O : Nat → OpD) (w : World) (h : Script w blk off n O) (hs : ∀ i, i < n → (O i).s.size ≤ 2 ^ 48) (hn : n ≤ 2 ^ 48) :
    Calls Tryz.prog 20 #[.slice (some ⟨blk, off, none⟩) n cap] w fun e w' => Smalls w n O e w' := by
  have H := hide h
  have HS := hide hs
  clear h hs
  by_cases hbig : 65536 < n
  · have hb : (65536 : Int) < (n : Int) := by omega
    go_enter Tryz.func20, Tryz.ntmps20
    go_wp2
    go_ret
    exact ⟨false, rfl, rfl, fun h => by cases h⟩
  · have hb : ¬ (65536 : Int) < (n : Int) := by omega
    go_enter Tryz.func20, Tryz.ntmps20
    go_wp2
    go_loop [3, 4] (fun v i => ∃ (j : Nat) (nv : Int), j ≤ n ∧ i = .int .i64 j ∧ v = .int .i64 nv ∧ 0 ≤ nv ∧ nv ≤ 65536 ∧ Hid (∀ i, i < j → (O i).s.size ≤ 65536)) (fun _ i => n - (intOf i).toNat)
    case atStart => exact ⟨0, n, Nat.zero_le _, rfl, rfl, by omega, by omega, fun i hi => by omega⟩
    case round =>
      obtain ⟨j, nv, hj, rfl, rfl, h0, h1, hall⟩ := hrel
      by_cases hlt : j < n
      · have q := (H.out j hlt).2.2.2.2
        have hsz := HS.out j hlt
        have hi2 : (j : Int) < (n : Int) := by omega
        by_cases hov : 65536 < nv + ((O j).s.size : Int)
        · go_wp2
          go_ret
          exact ⟨false, rfl, rfl, fun h => by cases h⟩
        · have HOV := hide hov
          go_wp2
          go_round
          case rel => exact ⟨j + 1, nv + ((O j).s.size : Int), by omega, by go_num, by go_num, by omega, by omega, fun i hi => by
            rcases Nat.lt_or_ge i j with h | h
            · exact hall.out i h
            · have : i = j := by omega
              subst this; omega⟩
          case measure => simp [intOf]; omega
      · have HJ : Hid (j = n) := by show j = n; omega
        go_wp2
        go_ret
        exact ⟨true, rfl, rfl, fun _ => ⟨by omega, fun i hi => hall.out i (by rw [HJ.out]; exact hi)⟩⟩
end Go.Proofs.YtiabdbeejkadnaaGreatDoor
