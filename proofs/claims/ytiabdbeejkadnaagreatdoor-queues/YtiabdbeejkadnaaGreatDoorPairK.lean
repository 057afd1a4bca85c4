/- The law: plays, Queues. Own work of the verifier. -/
import Derived.Test.YtiabdbeejkadnaaGreatDoorPairJ
namespace Go.Proofs.YtiabdbeejkadnaaGreatDoor
open Go.RowKit Go.Maps

/-- is a step of this kind played, as far as the first t kinds that are left out say? -/
def inB (k : Int) (t : Nat) : Bool := (List.range t).all fun u => k != 9 + (u : Int)
theorem inB_succ (k : Int) (t : Nat) : inB k (t + 1) = (inB k t && (k != 9 + (t : Int))) := by simp [inB, List.range_succ]
theorem inB_5 {k : Int} (h : inB k 5 = true) : k ≠ 9 ∧ k ≠ 10 ∧ k ≠ 11 ∧ k ≠ 12 ∧ k ≠ 13 := by
  simp [inB, List.range_succ] at h
  omega
theorem inv_start {w : World} (hg : GCell w) (h0 : 0 < w.heap.size) : Inv (w.alloc (.cells #[.slice none 0 0, .slice none 0 0, .slice none 0 0] 50)) w.heap.size w.heap.size 0 := by
  refine ⟨fun k => k = w.heap.size, [], [], [], ⟨⟨fun k => k = w.heap.size, fun _ => False, none, 0, none, 0, none, 0, ⟨heap_alloc_new w _, rfl, Row.nil _ _ _ _, Row.nil _ _ _ _, Row.nil _ _ _ _, fun i hi => by simp at hi, fun i hi => by simp at hi, fun _ _ h => h, fun k hk => by subst hk; simp, fun _ h => h.elim⟩, fun k => by simp⟩, fun i hi => by simp at hi, fun i hi => by simp at hi, fun i j hi => by simp at hi, fun k hk => by omega, fun i hi => by simp at hi, hg.below (alloc_below _ _), h0, by simp, by simp, fun i hi => by simp at hi, ⟨fun x hx => by simp at hx, fun x hx => by simp at hx⟩⟩⟩
theorem inv_looks {w : World} {wb B N : Nat} (h : Inv w wb B N) (hN : N ≤ 100000) : Calls Tryz.prog 22 #[.pointer (some ⟨wb, 0, none⟩)] w fun e w' => e = .returned (.bool true) ∧ w' = w := by
  obtain ⟨FW, ps, bs, is, h⟩ := h
  exact law_looks FW wb _ bs is w h.wat (by have := h.lens; omega) (by have := h.lens; omega) h.caps

set_option maxHeartbeats 1000000 in
set_option maxRecDepth 1000000 in
theorem plays_some (blk off n cap wo : Nat) (O : Nat → OpD) (w : World) (h : Script w blk off n O) (hs : ∀ i, i < n → (O i).s.size ≤ 2 ^ 48) (hn : n ≤ 2 ^ 48) (hO : ∀ i, i < n → (-9223372036854775808 ≤ (O i).a ∧ (O i).a ≤ 9223372036854775807) ∧ (Lit.int .i64 (O i).b).wf = true)
    (hg : GCell w) (hb : blk < w.heap.size) (hwo : w.heap[wo]? = some (.cells #[.int .i64 9, .int .i64 10, .int .i64 11, .int .i64 12, .int .i64 13] 3 (0, 0))) :
    Calls Tryz.prog 11 #[.slice (some ⟨blk, off, none⟩) n cap, .slice (some ⟨wo, 0, none⟩) 5 5] w fun e w' => e = .returned (.bool true) ∧ Below w.heap.size w w' := by
  have HSC := hide h
  have HO := hide hO
  have HG := hide hg
  have HWO := hide hwo
  have HW5 : Hid (∀ t : Nat, t < 5 → w.cell? ⟨wo, t, none⟩ = some (.int .i64 (9 + (t : Int)))) := fun t ht => by
    have h5 : t = 0 ∨ t = 1 ∨ t = 2 ∨ t = 3 ∨ t = 4 := by omega
    rcases h5 with rfl | rfl | rfl | rfl | rfl <;> simp [World.cell?, hwo]
  have hwol : wo < w.heap.size := lt_of_heap hwo
  have HSM := hide (small_some blk off n cap O w h hs hn)
  clear h hs hO hg hwo
  go_enter Tryz.func11, Tryz.ntmps11
  go_wp2_with fail
  refine HSM.out.mono ?_
  rintro e w1 ⟨r, rfl, hw1, hr⟩
  have hw1 := hw1.symm
  subst hw1
  cases r with
  | false =>
    go_wp2
    go_ret
    exact ⟨rfl, Below.refl _ _⟩
  | true =>
    have HR := hide (hr rfl)
    have hnn : n ≤ 65536 := (hr rfl).1
    clear hr
    have HI0 := hide (inv_start HG.out (Nat.lt_of_le_of_lt (Nat.zero_le _) hb))
    go_wp2
    go_loopw [7, 8, 9, 10] (fun i _ _ _ wr => ∃ j : Nat, j ≤ n ∧ i = .int .i64 j ∧ Hid (Inv wr w.heap.size w.heap.size j) ∧ Hid (Below w.heap.size w wr)) (fun i _ _ _ _ => n - (intOf i).toNat)
    case atStart => exact ⟨0, Nat.zero_le _, rfl, HI0, alloc_below _ _⟩
    case round =>
      obtain ⟨j, hj, rfl, hI, hB⟩ := hrel
      obtain ⟨w6, hw6⟩ : ∃ w6, w6 = wr := ⟨_, rfl⟩
      subst hw6
      by_cases hlt : j < n
      · have hjn : (j : Int) < (n : Int) := by omega
        obtain ⟨o0, o1, o2, o3, o4⟩ := HSC.out.below hB.out hb j hlt
        have HOP := hide (HO.out j hlt)
        have HSZ := hide (HR.out.2 j hlt)
        generalize O j = o at *
        obtain ⟨k, a, b, c, s⟩ := o
        simp only at o0 o1 o2 o3 o4
        have HC0 := hide o0
        have HC1 := hide (And.intro o1 (And.intro o2 (And.intro o3 o4)))
        clear o0 o1 o2 o3 o4
        have HK0 : Hid (inB k 0 = true) := rfl
        go_wp2
        go_loopw [8, 9] (fun vi vt wx => ∃ (t nd : Nat), t ≤ 5 ∧ vt = .int .i64 t ∧ vi = .bool (inB k t) ∧ Hid (wx = w6.drewN nd)) (fun _ vt _ => 5 - (intOf vt).toNat)
        case atStart => exact ⟨0, 0, by omega, rfl, by rw [HK0.out], rfl⟩
        case round =>
          obtain ⟨t, nd, ht, rfl, rfl, hwx⟩ := hrel
          by_cases ht5 : t < 5
          · have htn : (t : Int) < 5 := by omega
            have HSU := hide (inB_succ k t)
            generalize hbv : inB k t = bv at *
            cases bv with
            | true =>
              have d0 : wr.cell? ⟨blk, off + j * 5, none⟩ = some (.int .i64 k) := by rw [hwx.out]; exact HC0.out
              have d1 : wr.cell? ⟨wo, t, none⟩ = some (.int .i64 (9 + (t : Int))) := by rw [hwx.out]; exact (hB.out.cell (p := ⟨wo, t, none⟩) hwol).trans (HW5.out t ht5)
              clear hbv
              go_wp2
              go_quiet (fail)
              go_wp2
              go_roundw
              case rel => exact ⟨t + 1, nd + nq, by omega, by go_num, by rw [HSU.out]; rfl, by rw [Hid, hwx.out]; simp [World.drewN, Nat.add_assoc]⟩
              case measure => simp [intOf]; omega
            | false =>
              clear hbv
              go_wp2
              go_quiet (fail)
              go_wp2
              go_roundw
              case rel => exact ⟨t + 1, nd + nq, by omega, by go_num, by rw [HSU.out]; rfl, by rw [Hid, hwx.out]; simp [World.drewN, Nat.add_assoc]⟩
              case measure => simp [intOf]; omega
          · have ht' : t = 5 := by omega
            subst ht'
            have HIx : Hid (Inv wr w.heap.size w.heap.size j) := by rw [hwx.out]; exact (hI.out.below (below_drewN (Below.refl _ _) nd)).1
            have HBx : Hid (Below w.heap.size w wr) := by rw [hwx.out]; exact below_drewN hB.out nd
            generalize hbv : inB k 5 = bv at *
            cases bv with
            | false =>
              clear hbv
              go_wp2
              go_roundw
              case rel => exact ⟨j + 1, by omega, by go_num, HIx.out.more (by omega), HBx⟩
              case measure => simp [intOf]; omega
            | true =>
              have HOK : Hid (OpOk k a b s) := by
                obtain ⟨h9, h10, h11, h12, h13⟩ := inB_5 hbv
                exact ⟨h9, h10, h11, h12, h13, HOP.out.1, HOP.out.2, by have := HSZ.out; show s.size ≤ _; have e : ({ k := k, a := a, b := b, c := c, s := s } : OpD).s.size = s.size := rfl; omega⟩
              have d0 : wr.cell? ⟨blk, off + j * 5, none⟩ = some (.int .i64 k) := by rw [hwx.out]; exact HC0.out
              have d1 : wr.cell? ⟨blk, off + j * 5 + 1, none⟩ = some (.int .i64 a) := by rw [hwx.out]; exact HC1.out.1
              have d2 : wr.cell? ⟨blk, off + j * 5 + 2, none⟩ = some (.int .i64 b) := by rw [hwx.out]; exact HC1.out.2.1
              have d3 : wr.cell? ⟨blk, off + j * 5 + 3, none⟩ = some (.int .i64 c) := by rw [hwx.out]; exact HC1.out.2.2.1
              have d4 : wr.cell? ⟨blk, off + j * 5 + 4, none⟩ = some (.string s) := by rw [hwx.out]; exact HC1.out.2.2.2
              clear hbv
              go_wp2_with fail
              refine (law_step w.heap.size w.heap.size j k a b c s wr HIx.out (by omega) HOK.out).mono ?_
              rintro e w7 ⟨rfl, hI7, hB7⟩
              have HI7 := hide hI7
              have HB7 := hide (HBx.out.trans hB7)
              clear hI7 hB7 d0 d1 d2 d3 d4
              go_wp2_with fail
              refine (inv_looks HI7.out (by omega)).mono ?_
              rintro e w8 ⟨rfl, hw8⟩
              have hw8 := hw8.symm
              subst hw8
              go_wp2
              go_roundw
              case rel => exact ⟨j + 1, by omega, by go_num, HI7, HB7⟩
              case measure => simp [intOf]; omega
      · go_wp2
        go_ret
        exact ⟨rfl, hB.out⟩
end Go.Proofs.YtiabdbeejkadnaaGreatDoor
