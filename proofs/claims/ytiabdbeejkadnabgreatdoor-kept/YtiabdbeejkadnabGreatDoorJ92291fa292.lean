import Derived.Test.YtiabdbeejkadnabGreatDoorJe275dc1411
import Derived.Test.YtiabdbeejkadnabGreatDoorJd37c8e27aa
import Derived.Shelf.Sort.Plain
import Derived.Test.YtiabdbeejkadnabGreatDoorProg
import Derived.Test.YtiabdbeejkadnabGreatDoorJ242b93d8af
import Derived.Sort.OwnSortedInts
import Derived.Test.YtiabdbeejkadnabGreatDoorJbaef701712
import Derived.Shelf.SlicesE.DeleteFunc
import Derived.Ground.SlgfProg
import Derived.Test.YtiabdbeejkadnabGreatDoorJ0c3df23578
/- The keeps: act. Own work of the verifier. -/
namespace Go.Proofs.YtiabdbeejkadnabGreatDoor
open Go.RowKit Go.Maps

/-- what stands behind an act -/
def ActTo (w W : World) (wb xb : Nat) (N : Nat) (M D : Int) : Prop := ∃ F S rs, KWF w W F wb xb S rs ∧ KInv S rs ∧ rs.length ≤ N ∧ S.now ≤ M ∧ S.depth = D
theorem pollM_depth (S : St) (num : Int) : (pollM S num).2.2.2.depth = S.depth := by
  have hd : ∀ k, (dropM S k).depth = S.depth := fun k => by unfold dropM; split <;> rfl
  unfold pollM
  dsimp only
  repeat' split
  all_goals first | rfl | exact hd _
theorem cancelM_same (S : St) (num : Int) : (cancelM S num).2.2.depth = S.depth ∧ (cancelM S num).2.2.now = S.now := by
  unfold cancelM
  dsimp only
  repeat' split
  all_goals exact ⟨rfl, rfl⟩
section
variable {w W : World} {F : Nat → Prop} {wb xb : Nat} {S : St} {rs : List KR} {N : Nat} {M D : Int}
theorem KInv.numWf (hI : KInv S rs) {i : Nat} (hi : i < rs.length) (hl : rs.length ≤ 100000) : (Lit.int .i64 (rs[i]).num).wf = true := by
  rw [hI.num]
  simp only [Lit.wf, Bool.and_eq_true, decide_eq_true_eq]
  have e1 : IntKind.i64.min = -9223372036854775808 := by decide
  have e2 : IntKind.i64.max = 9223372036854775807 := by decide
  rw [e1, e2]; omega
theorem ka_ask (write : Bool) (page : Int) (v : UInt8) (h : KWF w W F wb xb S rs) (hI : KInv S rs) (hl : rs.length + 1 ≤ N) (hN : N ≤ 100000) (hn : S.now ≤ M) (hD : S.depth = D) (hp : 0 ≤ page ∧ page < 16) :
    Calls Tryz.prog 8 #[.pointer (some ⟨wb, 0, none⟩), .bool write, .int .i64 page, .int .u8 v.toNat] W fun e w' => e = .returned (.bool true) ∧ ActTo w w' wb xb N M D := by
  by_cases hf : 40 ≤ (S.reqs.length : Int) - S.told.length
  · cases write with
    | true =>
      refine (keep_full_w S rs F wb xb page v W h.at_ h.g h.no0 hI.last (by omega) hp hf).mono ?_
      rintro e w1 ⟨h1, h2, h3⟩
      exact ⟨h1, _, S, rs, h.after h2 h3, hI, by omega, hn, hD⟩
    | false =>
      refine (keep_full_r S rs F wb xb page v.toNat W h.at_ h.g h.no0 hI.last (by omega) hp hf).mono ?_
      rintro e w1 ⟨h1, h2, h3⟩
      exact ⟨h1, _, S, rs, h.after h2 h3, hI, by omega, hn, hD⟩
  · refine (kw_ask w W F wb xb S rs write page v h hI.last (by omega) hp hf).mono ?_
    rintro e w1 ⟨h1, h2, _⟩
    refine ⟨h1, _, _, _, h2, hI.ask write page _ hp (fun e => ?_) hf, by simp; omega, hn, hD⟩
    rw [e]; rfl
theorem ka_step (h : KWF w W F wb xb S rs) (hI : KInv S rs) (hl : rs.length ≤ N) (hN : N ≤ 100000) (hn : S.now ≤ M) (hD : S.depth = D) :
    Calls Tryz.prog 12 #[.pointer (some ⟨xb, 0, none⟩)] W fun e w' => (∃ v, e = .returned v) ∧ ActTo w w' wb xb N M D := by
  refine (kw_step w W F wb xb S rs h (by rw [hI.last]; omega)).mono ?_
  rintro e w1 ⟨⟨_, _, h1⟩, h2, _⟩
  refine ⟨⟨_, h1⟩, _, _, rs, h2, hI.step, hl, by rw [(stepM_same S).2]; exact hn, ?_⟩
  rw [← hD]; unfold stepM; split <;> rfl
theorem completeM_depth (S : St) (k : Int) (fault : Bool) : (completeM S k fault).2.depth = S.depth := by
  unfold completeM
  split
  · rfl
  · rw [(endM_same _ _ _).2.2.1]
theorem ka_complete (kk : Int) (fault : Bool) (h : KWF w W F wb xb S rs) (hI : KInv S rs) (hl : rs.length ≤ N) (hN : N ≤ 100000) (hn : S.now ≤ M) (hM : M ≤ 1000000) (hD : S.depth = D) :
    Calls Tryz.prog 13 #[.pointer (some ⟨xb, 0, none⟩), .int .i64 kk, .bool fault] W fun e w' => (∃ v, e = .returned v) ∧ ActTo w w' wb xb N M D := by
  refine (kw_complete w W F wb xb S rs kk fault h (by omega) (by rw [hI.last]; omega)).mono ?_
  rintro e w1 ⟨h1, h2, _⟩
  exact ⟨⟨_, h1⟩, _, _, rs, h2, hI.complete kk fault, hl, by rw [(completeM_same S kk fault).2]; exact hn, by rw [completeM_depth]; exact hD⟩
theorem ka_poll (h : KWF w W F wb xb S rs) (hI : KInv S rs) (hl : rs.length ≤ N) (hN : N ≤ 100000) (hn : S.now ≤ M) (hD : S.depth = D) (x : Int) (hx0 : 0 ≤ x) (hx : x < rs.length) :
    Calls Tryz.prog 19 #[.pointer (some ⟨wb, 0, none⟩), .int .i64 x] W fun e w' => e = .returned (.bool true) ∧ ActTo w w' wb xb N M D := by
  obtain ⟨i, rfl⟩ := Int.eq_ofNat_of_zero_le hx0
  have hi : i < rs.length := by omega
  by_cases hh : (rs[i]).how = 1 ∨ (rs[i]).how = 2
  · refine (keep_poll_told S rs[i] rs F wb xb i W h.at_ hi rfl (by omega) hh).mono ?_
    rintro e w1 ⟨h1, h2, h3⟩
    exact ⟨h1, _, S, rs, h.after h2 h3, hI, hl, hn, hD⟩
  · obtain ⟨s, tr, k, S', r', p1, p2, p3, _⟩ := hI.poll hi ⟨fun e => hh (Or.inl e), fun e => hh (Or.inr e)⟩
    have hs := pollM_same S (rs[i]).num
    have hd := pollM_depth S (rs[i]).num
    rw [p1] at hs hd
    refine (kw_poll w W F wb xb S rs S' s tr k _ _ _ rs[i] r' i h hi rfl (by omega) (hI.numWf hi (by omega)) ⟨fun e => hh (Or.inl e), fun e => hh (Or.inr e)⟩ p1 rfl p2).mono ?_
    rintro e w1 ⟨h1, h2, _⟩
    exact ⟨h1, _, S', _, h2, p3, by rw [List.length_set]; exact hl, by rw [hs.2]; exact hn, by rw [hd]; exact hD⟩
theorem ka_cancel (h : KWF w W F wb xb S rs) (hI : KInv S rs) (hl : rs.length ≤ N) (hN : N ≤ 100000) (hn : S.now ≤ M) (hD : S.depth = D) (x : Int) (hx0 : 0 ≤ x) (hx : x < rs.length) :
    Calls Tryz.prog 34 #[.pointer (some ⟨wb, 0, none⟩), .int .i64 x] W fun e w' => e = .returned (.bool true) ∧ ActTo w w' wb xb N M D := by
  obtain ⟨i, rfl⟩ := Int.eq_ofNat_of_zero_le hx0
  have hi : i < rs.length := by omega
  obtain ⟨k, t, S', p1, p2⟩ := hI.give hi (flownB S.flights (rs[i]).num)
  have hs := cancelM_same S (rs[i]).num
  rw [p1] at hs
  refine (keep_cancel S S' k t rs[i] rs F wb xb i W h.at_ h.g h.no0 hi rfl (by omega) (by rw [hI.last]; omega) (hI.numWf hi (by omega)) p1 (by
    rcases p2 with ⟨a, b, _⟩ | ⟨a, _⟩
    · exact Or.inl ⟨a, b⟩
    · exact Or.inr a)).mono ?_
  rintro e w1 ⟨h1, h2, h3⟩
  refine ⟨h1, ?_⟩
  rcases p2 with ⟨a, b, c⟩ | ⟨a, b⟩
  · rw [if_pos a] at h2
    exact ⟨_, S', _, h.after h2 h3, c, by rw [List.length_set]; exact hl, by rw [hs.2]; exact hn, by rw [hs.1]; exact hD⟩
  · rw [if_neg (by omega)] at h2
    exact ⟨_, S', _, h.after h2 h3, b ▸ hI, hl, by rw [hs.2]; exact hn, by rw [hs.1]; exact hD⟩
theorem kw_len (h : KWF w W F wb xb S rs) : ∃ ar cr, W.cell? ⟨wb, 1, none⟩ = some (.slice ar rs.length cr) := by
  obtain ⟨Fx, Fk, ar, cr, hP, hB, _⟩ := h.at_
  exact ⟨ar, cr, hB.c1⟩
end
theorem tmod_in {a L : Int} (ha : 0 ≤ a) (hL : 0 < L) : 0 ≤ a.tmod L ∧ a.tmod L < L := by
  rw [Int.tmod_eq_emod_of_nonneg ha]
  exact ⟨Int.emod_nonneg _ (by omega), Int.emod_lt_of_pos _ hL⟩
set_option maxHeartbeats 4000000 in
set_option maxRecDepth 1000000 in
theorem kw_act (w W : World) (F : Nat → Prop) (wb xb : Nat) (S : St) (rs : List KR) (b : UInt8) (N : Nat) (M D : Int) (h : KWF w W F wb xb S rs) (hI : KInv S rs) (hl : rs.length + 1 ≤ N) (hN : N ≤ 100000) (hn : S.now + 1 ≤ M) (hM : M ≤ 1000000) (hD : S.depth = D) :
    Calls Tryz.prog 15 #[.pointer (some ⟨wb, 0, none⟩), .int .u8 (b.toNat : Int)] W fun e w' => e = .returned (.bool true) ∧ ActTo w w' wb xb N M D := by
  have hb := b.toNat_lt
  obtain ⟨q0, qz⟩ := h.q
  obtain ⟨ar, cr, q1⟩ := kw_len h
  have HASK : Hid (∀ write page, 0 ≤ page ∧ page < 16 → Calls Tryz.prog 8 #[.pointer (some ⟨wb, 0, none⟩), .bool write, .int .i64 page, .int .u8 (b.toNat : Int)] W fun e w' => e = .returned (.bool true) ∧ ActTo w w' wb xb N M D) := fun write page hp => ka_ask write page b h hI hl hN (by omega) hD hp
  have HST : Hid (Calls Tryz.prog 12 #[.pointer (some ⟨xb, 0, none⟩)] W fun e w' => (∃ v, e = .returned v) ∧ ActTo w w' wb xb N M D) := ka_step h hI (by omega) hN (by omega) hD
  have HCO : Hid (∀ kk fault, Calls Tryz.prog 13 #[.pointer (some ⟨xb, 0, none⟩), .int .i64 kk, .bool fault] W fun e w' => (∃ v, e = .returned v) ∧ ActTo w w' wb xb N M D) := fun kk fault => ka_complete kk fault h hI (by omega) hN (by omega) hM hD
  have HTI : Hid (Calls Tryz.prog 33 #[.pointer (some ⟨xb, 0, none⟩)] W fun e w' => e = .returned (.tuple #[]) ∧ ActTo w w' wb xb N M D ∧ (∃ ar cr, w'.cell? ⟨wb, 1, none⟩ = some (.slice ar rs.length cr) ∧ wb < w'.heap.size) ∧ ∀ x : Int, 0 ≤ x → x < rs.length → Calls Tryz.prog 19 #[.pointer (some ⟨wb, 0, none⟩), .int .i64 x] w' fun e w' => e = .returned (.bool true) ∧ ActTo w w' wb xb N M D) := by
    refine (kw_tick w W F wb xb S rs h (by omega)).mono ?_
    rintro e w1 ⟨h1, h2, _⟩
    have hI2 := hI.tick
    obtain ⟨ar2, cr2, c2⟩ := kw_len h2
    exact ⟨h1, ⟨_, _, rs, h2, hI2, by omega, by show S.now + 1 ≤ M; omega, hD⟩, ⟨ar2, cr2, c2, h2.q.2⟩, fun x hx0 hx => ka_poll h2 hI2 (by omega) hN (by show S.now + 1 ≤ M; omega) hD x hx0 hx⟩
  have HPW : Hid (∀ WW, Below W.heap.size W WW → ∀ x : Int, 0 ≤ x → x < rs.length → Calls Tryz.prog 19 #[.pointer (some ⟨wb, 0, none⟩), .int .i64 x] WW fun e w' => e = .returned (.bool true) ∧ ActTo w w' wb xb N M D) := fun WW hb x hx0 hx => ka_poll (h.below hb) hI (by omega) hN (by omega) hD x hx0 hx
  have HCA : Hid (∀ x : Int, 0 ≤ x → x < rs.length → Calls Tryz.prog 34 #[.pointer (some ⟨wb, 0, none⟩), .int .i64 x] W fun e w' => e = .returned (.bool true) ∧ ActTo w w' wb xb N M D) := fun x hx0 hx => ka_cancel h hI (by omega) hN (by omega) hD x hx0 hx
  have HSELF : Hid (ActTo w W wb xb N M D) := ⟨F, S, rs, h, hI, by omega, by omega, hD⟩
  clear h hI hD
  generalize hbn : b.toNat = n at *
  clear hbn b
  generalize hL : rs.length = L at *
  clear hL
  have hm := Nat.mod_lt n (show 0 < 12 by omega)
  have hm12 : n % 12 = 0 ∨ n % 12 = 1 ∨ n % 12 = 2 ∨ n % 12 = 3 ∨ n % 12 = 4 ∨ n % 12 = 5 ∨ n % 12 = 6 ∨ n % 12 = 7 ∨ n % 12 = 8 ∨ n % 12 = 9 ∨ n % 12 = 10 ∨ n % 12 = 11 := by omega
  obtain ⟨v, hv⟩ : ∃ v, v = n / 12 := ⟨_, rfl⟩
  have hv21 : v ≤ 21 := by omega
  have hdiv : (n : Int).tdiv 12 = (v : Int) := by rw [hv]; rfl
  have hmod : (n : Int).tmod 12 = ((n % 12 : Nat) : Int) := by rfl
  generalize hmm : n % 12 = m at *
  go_enter Tryz.func15, Tryz.ntmps15
  rcases hm12 with rfl | rfl | rfl | rfl | rfl | rfl | rfl | rfl | rfl | rfl | rfl | rfl
  · go_wp2_with fail
    refine (HASK.out _ _ (by omega)).mono ?_
    rintro e w1 ⟨rfl, hA⟩
    have HA := hide hA
    clear hA
    go_wp2
    go_ret
    exact ⟨rfl, HA.out⟩
  · go_wp2_with fail
    refine (HASK.out _ _ (by omega)).mono ?_
    rintro e w1 ⟨rfl, hA⟩
    have HA := hide hA
    clear hA
    go_wp2
    go_ret
    exact ⟨rfl, HA.out⟩
  · go_wp2_with fail
    refine (HASK.out _ _ (by omega)).mono ?_
    rintro e w1 ⟨rfl, hA⟩
    have HA := hide hA
    clear hA
    go_wp2
    go_ret
    exact ⟨rfl, HA.out⟩
  · go_wp2_with fail
    refine (HASK.out _ _ (by omega)).mono ?_
    rintro e w1 ⟨rfl, hA⟩
    have HA := hide hA
    clear hA
    go_wp2
    go_ret
    exact ⟨rfl, HA.out⟩
  · go_wp2_with fail
    refine (HASK.out _ _ (by omega)).mono ?_
    rintro e w1 ⟨rfl, hA⟩
    have HA := hide hA
    clear hA
    go_wp2
    go_ret
    exact ⟨rfl, HA.out⟩
  · go_wp2_with fail
    refine (HASK.out _ _ (by omega)).mono ?_
    rintro e w1 ⟨rfl, hA⟩
    have HA := hide hA
    clear hA
    go_wp2
    go_ret
    exact ⟨rfl, HA.out⟩
  · go_wp2_with fail
    refine HST.out.mono ?_
    rintro e w1 ⟨⟨v, rfl⟩, hA⟩
    have HA := hide hA
    clear hA
    go_wp2
    go_ret
    exact ⟨rfl, HA.out⟩
  · go_wp2_with fail
    refine HST.out.mono ?_
    rintro e w1 ⟨⟨v, rfl⟩, hA⟩
    have HA := hide hA
    clear hA
    go_wp2
    go_ret
    exact ⟨rfl, HA.out⟩
  · go_wp2_with fail
    refine (HCO.out _ _).mono ?_
    rintro e w1 ⟨⟨v, rfl⟩, hA⟩
    have HA := hide hA
    clear hA
    go_wp2
    go_ret
    exact ⟨rfl, HA.out⟩
  · go_wp2_with fail
    refine (HCO.out _ _).mono ?_
    rintro e w1 ⟨⟨v, rfl⟩, hA⟩
    have HA := hide hA
    clear hA
    go_wp2
    go_ret
    exact ⟨rfl, HA.out⟩
  · go_wp2_with fail
    refine HTI.out.mono ?_
    rintro e w1 ⟨rfl, hA, ⟨ar2, cr2, c2, cz⟩, hP⟩
    have HA := hide hA
    have HP := hide hP
    clear hA hP q0 q1
    by_cases hL0 : 0 < L
    · have hL1 : (0 : Int) < (L : Int) := by omega
      by_cases hev : (n : Int) / 12 % 2 = 0
      · have hb1 : (((n : Int) / 12 % 2) == 0) = true := by simp [hev]
        go_wp2_with fail
        refine (HP.out _ ?_ ?_).mono ?_
        · first | exact (tmod_in (by omega) hL1).1 | exact Int.emod_nonneg _ (by omega)
        · first | exact (tmod_in (by omega) hL1).2 | exact Int.emod_lt_of_pos _ hL1
        rintro e w2 ⟨rfl, hA⟩
        have HA2 := hide hA
        clear hA
        go_wp2
        go_ret
        exact ⟨rfl, HA2.out⟩
      · have hb1 : (((n : Int) / 12 % 2) == 0) = false := by simp [hev]
        go_wp2
        go_ret
        exact ⟨rfl, HA.out⟩
    · have hL1 : L = 0 := by omega
      subst hL1
      go_wp2
      go_ret
      exact ⟨rfl, HA.out⟩
  · by_cases hL0 : 0 < L
    · have hL1 : (0 : Int) < (L : Int) := by omega
      by_cases hev : (n : Int) / 12 % 3 = 0
      · have hb1 : (((n : Int) / 12 % 3) == 0) = true := by simp [hev]
        go_wp2_with fail
        refine (HCA.out _ ?_ ?_).mono ?_
        · first | exact (tmod_in (by omega) hL1).1 | exact Int.emod_nonneg _ (by omega)
        · first | exact (tmod_in (by omega) hL1).2 | exact Int.emod_lt_of_pos _ hL1
        rintro e w2 ⟨rfl, hA⟩
        have HA2 := hide hA
        clear hA
        go_wp2
        go_ret
        exact ⟨rfl, HA2.out⟩
      · have hb1 : (((n : Int) / 12 % 3) == 0) = false := by simp [hev]
        obtain ⟨y, hy⟩ : ∃ y, (n : Int) / 12 % (L : Int) = y := ⟨_, rfl⟩
        have hy0 : 0 ≤ y := by rw [← hy]; exact Int.emod_nonneg _ (by omega)
        have hy1 : y < (L : Int) := by rw [← hy]; exact Int.emod_lt_of_pos _ hL1
        have hwr : IntKind.i64.wrap ((L : Int) - 1 - y) = (L : Int) - 1 - y := by rw [IntKind.wrap_i64]; omega
        have hwq : IntKind.i64.wrap ((L : Int) - 1) = (L : Int) - 1 := by rw [IntKind.wrap_i64]; omega
        go_wp2_with fail
        go_region_with (go_at_call 19; refine (HPW.out _ ?_ _ ?_ ?_).mono ?_; (first | exact (Below.refl _ _).drew | exact Below.refl _ _); omega; omega; rintro e w2 ⟨rfl, hA⟩; have HA2 := hide hA; clear hA)
        all_goals go_wp2
        all_goals go_ret
        all_goals exact ⟨rfl, HA2.out⟩
    · have hL1 : L = 0 := by omega
      subst hL1
      go_wp2
      go_ret
      exact ⟨rfl, HSELF.out⟩
end Go.Proofs.YtiabdbeejkadnabGreatDoor

/- The sort's contracts at this dump (made by the kit's lay-plain.mjs, its numbers turned into names by the verifier). -/
namespace Go.Proofs
open Go.Shelf
def Tryz.lays189_ren : Go.Shelf.Ren := ⟨fun | 189 => 32 | 125 => 56 | 257 => 55 | 128 => 82 | 129 => 83 | 294 => 73 | 295 => 74 | 296 => 75 | 297 => 76 | 298 => 77 | 299 => 78 | 216 => 79 | 300 => 80 | 301 => 81 | 328 => 94 | 329 => 95 | 330 => 96 | 331 => 97 | 332 => 98 | 215 => 99 | 343 => 105 | n => n, fun | 28 => 43 | 3 => 3 | 46 => 118 | 0 => 0 | 51 => 148 | 53 => 150 | 4 => 4 | 183 => 140 | 182 => 139 | 131 => 145 | 5 => 5 | 9 => 9 | 218 => 178 | 222 => 182 | 228 => 191 | 229 => 192 | n => n, fun | n => n⟩
theorem Tryz.lays189 : Go.Proofs.Lays.n189 Tryz.prog Tryz.lays189_ren := {
  mixed := by kernel_rfl
  f125 := Tryz.func56.trans (congrArg some (by kernel_rfl))
  f128 := Tryz.func82.trans (congrArg some (by kernel_rfl))
  f129 := Tryz.func83.trans (congrArg some (by kernel_rfl))
  f189 := Tryz.func32.trans (congrArg some (by kernel_rfl))
  f215 := Tryz.func99.trans (congrArg some (by kernel_rfl))
  f216 := Tryz.func79.trans (congrArg some (by kernel_rfl))
  f257 := Tryz.func55.trans (congrArg some (by kernel_rfl))
  f294 := Tryz.func73.trans (congrArg some (by kernel_rfl))
  f295 := Tryz.func74.trans (congrArg some (by kernel_rfl))
  f296 := Tryz.func75.trans (congrArg some (by kernel_rfl))
  f297 := Tryz.func76.trans (congrArg some (by kernel_rfl))
  f298 := Tryz.func77.trans (congrArg some (by kernel_rfl))
  f299 := Tryz.func78.trans (congrArg some (by kernel_rfl))
  f300 := Tryz.func80.trans (congrArg some (by kernel_rfl))
  f301 := Tryz.func81.trans (congrArg some (by kernel_rfl))
  f328 := Tryz.func94.trans (congrArg some (by kernel_rfl))
  f329 := Tryz.func95.trans (congrArg some (by kernel_rfl))
  f330 := Tryz.func96.trans (congrArg some (by kernel_rfl))
  f331 := Tryz.func97.trans (congrArg some (by kernel_rfl))
  f332 := Tryz.func98.trans (congrArg some (by kernel_rfl))
  f343 := Tryz.func105.trans (congrArg some (by kernel_rfl))
  t0 := Tryz.underlying0
  a0 := Tryz.isAgg0
  z0 := Tryz.sizeOf0
  v0 := Tryz.zeroValue0
  t3 := Tryz.underlying3
  a3 := Tryz.isAgg3
  z3 := Tryz.sizeOf3
  v3 := Tryz.zeroValue3
  t4 := Tryz.underlying4
  a4 := Tryz.isAgg4
  z4 := Tryz.sizeOf4
  v4 := Tryz.zeroValue4
  t5 := Tryz.underlying5
  a5 := Tryz.isAgg5
  z5 := Tryz.sizeOf5
  v5 := Tryz.zeroValue5
  t9 := Tryz.underlying9
  a9 := Tryz.isAgg9
  z9 := Tryz.sizeOf9
  v9 := Tryz.zeroValue9
  t28 := Tryz.underlying43
  a28 := Tryz.isAgg43
  z28 := Tryz.sizeOf43
  v28 := Tryz.zeroValue43
  t46 := Tryz.underlying118
  a46 := Tryz.isAgg118
  z46 := Tryz.sizeOf118
  v46 := Tryz.zeroValue118
  t51 := Tryz.underlying148
  a51 := Tryz.isAgg148
  z51 := Tryz.sizeOf148
  v51 := Tryz.zeroValue148
  t53 := Tryz.underlying150
  a53 := Tryz.isAgg150
  z53 := Tryz.sizeOf150
  v53 := Tryz.zeroValue150
  t131 := Tryz.underlying145
  a131 := Tryz.isAgg145
  z131 := Tryz.sizeOf145
  v131 := Tryz.zeroValue145
  t182 := Tryz.underlying139
  a182 := Tryz.isAgg139
  z182 := Tryz.sizeOf139
  v182 := Tryz.zeroValue139
  t183 := Tryz.underlying140
  a183 := Tryz.isAgg140
  z183 := Tryz.sizeOf140
  v183 := Tryz.zeroValue140
  t218 := Tryz.underlying178
  a218 := Tryz.isAgg178
  z218 := Tryz.sizeOf178
  v218 := Tryz.zeroValue178
  t222 := Tryz.underlying182
  a222 := Tryz.isAgg182
  z222 := Tryz.sizeOf182
  v222 := Tryz.zeroValue182
  t228 := Tryz.underlying191
  a228 := Tryz.isAgg191
  z228 := Tryz.sizeOf191
  v228 := Tryz.zeroValue191
  t229 := Tryz.underlying192
  a229 := Tryz.isAgg192
  z229 := Tryz.sizeOf192
  v229 := Tryz.zeroValue192 }
end Go.Proofs

/- The program's queue: Waiting (a range over the map, slices.Sort). Own work of the verifier. -/
namespace Go.Proofs.YtiabdbeejkadnabGreatDoor
open Go.RowKit Go.Maps Go.Sort Go.Shelf

/-! ### slices.Sort of nil -/
theorem ins_nil (w : World) : Calls Tryz.prog 73 #[.slice none 0 0, .int .i64 0, .int .i64 0] w fun e w' => e = .returned (.tuple #[]) ∧ w' = w := by
  go_enter Tryz.func73, Tryz.ntmps73
  go_wp2
  refine wp_loop_rounds 1 ?_
  rw [rounds_succ]
  go_wp2
  go_end0
  exact ⟨rfl, rfl⟩
theorem pdq_nil (l : Int) (w : World) : Calls Tryz.prog 55 #[.slice none 0 0, .int .i64 0, .int .i64 0, .int .i64 l] w fun e w' => e = .returned (.tuple #[]) ∧ w' = w := by
  go_enter Tryz.func55, Tryz.ntmps55
  go_wp2
  refine wp_loop_rounds 1 ?_
  rw [rounds_succ]
  go_wp2_with (go_at_call 73; refine (ins_nil _).mono ?_; rintro e w' ⟨rfl, rfl⟩)
  (try simp only [Exit.inBlock, Exit.then]); refine bodyPost_ret (results_none rfl _ _ _) rfl ?_
  exact ⟨rfl, rfl⟩
theorem sort_nil (w : World) : Calls Tryz.prog 32 #[.slice none 0 0] w fun e w' => e = .returned (.tuple #[]) ∧ w' = w := by
  go_enter Tryz.func32, Tryz.ntmps32
  go_wp2_with (first | (go_at_call 56; refine (len_nil _).mono ?_; rintro e w' ⟨rfl, rfl⟩) | (go_at_call 55; refine (pdq_nil _ _).mono ?_; rintro e w' ⟨rfl, rfl⟩))
  go_end0
  exact ⟨rfl, rfl⟩

theorem after_sort {w w1 : World} {g cap n : Nat} {os : Array Obj} {ks ts : List Int} (hb : Below w.heap.size w w1) (hrow : Row w1 (fun b => w.heap.size ≤ b) 3 1 (some ⟨g, 0, none⟩) ks.length cap (encI ks)) (hl : ts.length = ks.length) :
    Row (grow (putRow (Value.int .i64) (Sort.ahead w1 n) g 0 ts.toArray) os) (fun b => w.heap.size ≤ b) 3 1 (some ⟨g, 0, none⟩) ks.length cap (encI ts) ∧ Below w.heap.size w (grow (putRow (Value.int .i64) (Sort.ahead w1 n) g 0 ts.toArray) os) := by
  have hge := hrow.2 _ rfl
  rcases hrow.1.2 with ⟨h0, _⟩ | ⟨g', cap', cur, hv, hg, hh, h1, h2, h3, h4⟩
  · cases h0
  cases hv
  exact ⟨⟨ownsRow_sortedI hl (Nat.zero_le _) hh h1 h2 h3, fun a ha => by cases ha; exact hge⟩, hb.grown (grownBy_sortedI _) hb.size (fun k hk => by cases hk; exact hge)⟩
theorem holds_row {w1 : World} {F : Nat → Prop} {g cap : Nat} {ks : List Int} (hrow : Row w1 F 3 1 (some ⟨g, 0, none⟩) ks.length cap (encI ks)) : Holds (Value.int .i64) w1 g 0 ks.toArray ∧ g < w1.heap.size := by
  rcases hrow.1.2 with ⟨h0, _⟩ | ⟨g', cap', cur, hv, hg, hh, h1, h2, h3, h4⟩
  · cases h0
  cases hv
  exact ⟨holds_of_blockI hh (by rw [Nat.mul_one] at h4; exact h4), lt_of_heap hh⟩

set_option maxHeartbeats 1000000 in
set_option maxRecDepth 1000000 in
theorem prog_waiting (S : St) (F : Nat → Prop) (xb : Nat) (w : World) (h : ProgAt w F xb S) :
    Calls Tryz.prog 14 #[.pointer (some ⟨xb, 0, none⟩)] w fun e w' => ∃ ao n cap, e = .returned (.slice ao n cap) ∧ n = (waitM S).length ∧ Row w' (fun b => w.heap.size ≤ b) 3 1 ao n cap (encI (waitM S)) ∧ Below w.heap.size w w' := by
  obtain ⟨bm, D, eb, c, af, cf, vs, h⟩ := h
  obtain ⟨i0, hi, hi0, hi1, hi2⟩ := info_parts info_int
  have d3 := h.cell 3 _ h.q.c3
  have HQ : Hid (ProgBlk w F xb S [] bm D eb c af cf vs) := h
  have hbm : Hid (bm < w.heap.size) := h.ltF _ h.ownM
  clear h
  go_enter Tryz.func14, Tryz.ntmps14
  go_wp2_with fail
  refine (orEmpty_some _ _).mono ?_
  rintro e w1 ⟨rfl, hw1⟩
  have hw1 := hw1.symm
  subst hw1
  go_wp2_with (first | (at_range; refine wpList_range_own _ rfl _ 82 rfl 3 75 keyLaw Tryz.underlying82 _ bm _ D rfl HQ.out.m.map ?_; intro w0 hrg0 hg0 hs0) | go_in)
  go_frame
  go_loopw [3] (fun l wr => ∃ (left : Lit → Bool) (cnt n cap : Nat) (ks : List Int) (ao : Option Addr), Hid (wr.ranges Tryz.prog 3 ptrR bm w.heap.size S.last.toNat D left cnt) ∧ l = .slice ao n cap ∧ Hid (n + cnt ≤ 40) ∧ Hid (n = ks.length) ∧ Hid (WaitInv S.reqs S.told left ks) ∧ Hid (Row wr (fun b => w.heap.size ≤ b) 3 1 ao n cap (encI ks)) ∧ Hid (Below w.heap.size w wr)) (fun _ wr => wr.rangeLeft bm w.heap.size)
  case atStart =>
    refine ⟨_, _, 0, 0, [], none, hrg0, rfl, by have := HQ.out.wf.len; have := HQ.out.m.msize; show 0 + Maps.size D ≤ 40; omega, rfl, ⟨List.Pairwise.nil, fun n => ?_, fun n hn => ?_⟩, Row.nil _ _ _ _, (Below.refl _ _).grown hg0 (Nat.le_refl _) (fun k hk => by cases hk)⟩
    · simp only [List.not_mem_nil, false_iff]
      rintro ⟨h1, r, hr, e1, e2⟩
      rw [HQ.out.m.has] at h1
      unfold heldB at h1
      have ht : toldHas S.told n = false := by
        cases hx : toldHas S.told n with
        | false => rfl
        | true =>
          have := ((HQ.out.wf.rq r hr).told (by rw [e1]; simpa [toldHas] using hx)).2
          omega
      rw [ht, findR_isSome] at h1
      have : S.reqs.any (fun r => r.num == n) = true := List.any_eq_true.2 ⟨r, hr, by simp [e1]⟩
      rw [this] at h1; cases h1
    · rw [HQ.out.m.has] at hn
      unfold heldB at hn
      rw [findR_isSome] at hn
      simp only [Bool.and_eq_true, Bool.not_eq_true'] at hn
      obtain ⟨r, hr, e1⟩ := List.any_eq_true.1 hn.1
      exact ⟨r, hr, by simpa using e1, hn.2⟩
  case round =>
    obtain ⟨left, cnt, n, cap, ks, ao, hrg, rfl, hnl, hn, hi', hrow, hb⟩ := hrel
    go_wp2_with (first | (at_next; refine wpList_next_mine _ rfl _ rfl bm w.heap.size _ D left cnt eb rfl hrg.out ?_ ?_ ?_) | go_in)
    · intro x hx
      obtain ⟨r, hr, rfl, ht⟩ := hi'.out.left x hx
      exact HQ.out.m.at_ r hr ht
    · intro _ hl
      have HF := hide (hi'.out.fin HQ.out.wf.sorted hl)
      cases ao with
      | none =>
        have hrow0 := hrow.out.1.2
        have hnc : n = 0 ∧ cap = 0 := by
          rcases hrow0 with ⟨h0, _⟩ | ⟨g', cap', cur, hv, _⟩
          · cases h0; exact ⟨rfl, rfl⟩
          · cases hv
        obtain ⟨rfl, rfl⟩ := hnc
        clear hrow0
        go_wp2_with (go_at_call 32; refine (sort_nil _).mono ?_; rintro e w2 ⟨rfl, hw2⟩; have hw2 := hw2.symm; subst hw2)
        go_ret
        refine ⟨none, 0, 0, rfl, hn.out.trans HF.out.1, ?_, hb.out⟩
        have e1 : (waitM S) = [] := List.eq_nil_of_length_eq_zero (HF.out.1.symm.trans hn.out.symm)
        rw [e1]
        exact Row.nil _ _ _ _
      | some a0 =>
        obtain ⟨g, rfl⟩ : ∃ g, a0 = ⟨g, 0, none⟩ := by
          rcases hrow.out.1.2 with ⟨h0, _⟩ | ⟨g', cap', cur, hv, _⟩
          · cases h0
          · cases hv; exact ⟨g', rfl⟩
        have hn' : n = ks.length := hn.out
        subst hn'
        have HH := hide (holds_row hrow.out)
        have HS : Hid (Calls Tryz.prog 32 #[.slice (some ⟨g, 0, none⟩) ks.length cap] wr fun e w' =>
          e = .returned (.tuple #[]) ∧ ∃ n os, w' = grow (putRow (Value.int .i64) (Sort.ahead wr n) g 0 (ks.mergeSort fun x y => decide (x ≤ y)).toArray) os) :=
          Any.slices_Sort_int Tryz.lays189 g 0 cap ks wr HH.out.1 HH.out.2 (by have := hnl.out; omega)
        go_wp2_with (go_at_call 32; refine HS.out.mono ?_; rintro e w2 ⟨rfl, n2, os, hw2⟩; have HW := hide hw2; clear hw2)
        go_ret
        have HA := after_sort (n := n2) (os := os) hb.out hrow.out (ts := ks.mergeSort fun x y => decide (x ≤ y)) (List.length_mergeSort ks)
        rw [← HW.out, HF.out.2] at HA
        exact ⟨_, _, _, rfl, HF.out.1, HA.1, HA.2⟩
    · intro x w1 cnt1 hlx hrg1 hlt hg1 hs1 hen
      obtain ⟨r, hr, rfl, _⟩ := hi'.out.left x hlx
      obtain ⟨ds, _, hent⟩ := HQ.out.e.ent r hr
      have HB1 := hide (hb.out.grown hg1 hb.out.size (fun k hk => by cases hk; exact Nat.le_refl _))
      have helt : eb r.num < w.heap.size := HQ.out.ltF _ (HQ.out.e.entF r hr)
      have hent1 : w1.heap[eb r.num]? = _ := (HB1.out.block _ helt).trans hent
      have q8 : w1.cell? ⟨eb r.num, 9, none⟩ = some (.int .i64 r.state) := by simp [World.cell?, hent1, entC]
      have HQ8 := hide q8
      have hrow1 : Hid (Row w1 (fun b => w.heap.size ≤ b) 3 1 ao n cap (encI ks)) := by
        refine hrow.out.same fun a ha => ?_
        obtain ⟨cur, hh, _⟩ := Row.block hrow.out ha
        refine hg1.block _ (lt_of_heap hh) ?_
        intro e
        obtain ⟨es, ck, si, se, c0, _, _, _, _, hr0, _⟩ := hrg.out
        have e' : a.block = w.heap.size := Option.some.inj e
        rw [← e', hh] at hr0
        cases hr0
      have HP := hide HQ.out.wf.sorted
      have HLT := hide hlt
      have HRG := hide hrg1
      have HLX := hide hlx
      have HL : Hid (wr.rangeLeft bm w.heap.size = cnt) := hrg.out.left_eq
      clear hrg hg1 hs1 hent hent1 hrg1 hlt hlx hrow hb q8
      by_cases hs : r.state = 0
      · have b1 : (r.state == 0) = true := beq_iff_eq.2 hs
        have HI := hide (hi'.out.yes hr HLX.out hs)
        have hc : Hid (n ≤ 40) := by show n ≤ 40; have := hnl.out; omega
        clear hs
        have hq8 := HQ8.out
        clear HQ8
        have HO : Hid ((w1.alloc (.cells #[.int .i64 r.num] 3)).ownsRow 0 3 1 (.slice ao n cap) n (encI ks)) := (hrow1.out.alloc _).1
        have HW : Hid (∀ (t : Nat) (u : Value), [Value.int .i64 r.num][t]? = some u → (w1.alloc (.cells #[.int .i64 r.num] 3)).cell? ((⟨w1.heap.size, 0, none⟩ : Addr).add t) = some u) := fun t u => news_new t u
        go_wp2_with (at_builtin; go_must (refine wpList_append_lies _ rfl (.tmp 22) (.tmp 24) 43 rfl 0 3 i0 (.int .i64 0) 1 8 Tryz.underlying43 hi hi0 hi1 hi2 rfl (by decide) (.slice ao n cap) n (encI ks) rfl HO.out ⟨w1.heap.size, 0, none⟩ 1 1 [Value.int .i64 r.num] rfl rfl HW.out (by intro u hu; simp at hu; subst hu; rfl) (by decide) (by unfold maxLen; have := hc.out; omega) (by have := hc.out; omega) (Nat.zero_le _) (w1.heap.size + 1) (by simp) ?_; intro g cap' w2 hown hgrow hat hlt3; have HX := hide (own_rel HB1.out hrow1.out hgrow hown hat); have HG := hide ((HRG.out.alloc _).kept hgrow (ne_own hrow1.out hbm.out) (row_ne_iter hrow1.out.1 HRG.out)); clear hown hgrow hat hlt3))
        go_roundw
        case rel => exact ⟨_, cnt1, n + 1, cap', ks ++ [r.num], some ⟨g, 0, none⟩, HG, rfl, by show n + 1 + cnt1 ≤ 40; have := hnl.out; have := HLT.out; omega, by show n + 1 = _; rw [List.length_append, hn.out]; rfl, HI, by simpa [Hid, encI] using HX.out.2, HX.out.1⟩
        case measure => rw [HG.out.left_eq, HL.out]; exact HLT.out
      · have b1 : (r.state == 0) = false := beq_eq_false_iff_ne.2 hs
        have HI := hide (hi'.out.no HP.out hr hs)
        have hq8 := HQ8.out
        clear hs HQ8
        go_wp2
        go_roundw
        case rel => exact ⟨_, cnt1, n, cap, ks, ao, HRG, rfl, by show n + cnt1 ≤ 40; have := hnl.out; have := HLT.out; omega, hn, HI, hrow1, HB1⟩
        case measure => rw [HRG.out.left_eq, HL.out]; exact HLT.out
end Go.Proofs.YtiabdbeejkadnabGreatDoor

/- The keeps: Flights, Waiting. Own work of the verifier. -/
namespace Go.Proofs.YtiabdbeejkadnabGreatDoor
open Go.RowKit Go.Maps

section
variable {w W : World} {F : Nat → Prop} {wb xb : Nat} {S : St} {rs : List KR}
theorem kw_flights (h : KWF w W F wb xb S rs) (hl : S.last ≤ 1000000) :
    Calls Tryz.prog 17 #[.pointer (some ⟨xb, 0, none⟩)] W fun e w' => (∃ ao cap vs, e = .returned (.slice ao S.flights.length cap) ∧ FlOut W.heap.size w' S.flights ao S.flights.length cap vs) ∧ KWF w w' F wb xb S rs := by
  refine (keep_flights S rs F wb xb W h.at_ hl).mono ?_
  rintro e w1 ⟨⟨ao, n, cap, vs, h1, h2⟩, h3⟩
  have hc := h2.cnt
  subst hc
  exact ⟨⟨ao, cap, vs, h1, h2⟩, h.below h3⟩
theorem kw_waiting (h : KWF w W F wb xb S rs) :
    Calls Tryz.prog 14 #[.pointer (some ⟨xb, 0, none⟩)] W fun e w' => (∃ ao cap, e = .returned (.slice ao (waitM S).length cap) ∧ Row w' (fun b => W.heap.size ≤ b) 3 1 ao (waitM S).length cap (encI (waitM S))) ∧ KWF w w' F wb xb S rs ∧ Below W.heap.size W w' := by
  obtain ⟨Fx, Fk, ar, cr, hP, _⟩ := h.at_
  refine (prog_waiting S Fx xb W hP).mono ?_
  rintro e w1 ⟨ao, n, cap, h1, h2, h3, h4⟩
  subst h2
  exact ⟨⟨ao, cap, h1, h3⟩, h.below h4, h4⟩
theorem FlOut.below {lim : Nat} {w w' : World} {fl : List Cmd} {ao : Option Addr} {n cap : Nat} {vs : List (Option Addr × Nat)} (h : FlOut lim w fl ao n cap vs) (hb : Below w.heap.size w w') : FlOut lim w' fl ao n cap vs :=
  ⟨h.len, h.cnt, h.row.same (fun a ha => by obtain ⟨c, hc, _⟩ := h.row.block ha; exact hb.block _ (lt_of_heap hc)), fun j hj hv => (h.ins j hj hv).same (fun a ha => by obtain ⟨c, hc, _⟩ := (h.ins j hj hv).block ha; exact hb.block _ (lt_of_heap hc)), h.ap⟩
end
end Go.Proofs.YtiabdbeejkadnabGreatDoor

/- slices.DeleteFunc's contract at this dump (after the kit's lay-plain.mjs). -/
namespace Go.Proofs
open Go.Shelf
def Tryz.dlfF_ren : Go.Shelf.Ren := ⟨fun | 6 => 85 | 10 => 61 | n => n, fun | 22 => 73 | 23 => 75 | 25 => 113 | 3 => 3 | 0 => 0 | 4 => 4 | n => n, fun | n => n⟩
theorem Tryz.dlfF : Go.Proofs.SlLaysH.n10 Tryz.prog Tryz.dlfF_ren := {
  mixed := by kernel_rfl
  f6 := ⟨Tryz.f85.name, by decide, Tryz.func85.trans (congrArg some (by kernel_rfl))⟩
  f10 := ⟨Tryz.f61.name, by decide, Tryz.func61.trans (congrArg some (by kernel_rfl))⟩
  t0 := Tryz.underlying0
  a0 := Tryz.isAgg0
  z0 := Tryz.sizeOf0
  v0 := Tryz.zeroValue0
  t3 := Tryz.underlying3
  a3 := Tryz.isAgg3
  z3 := Tryz.sizeOf3
  v3 := Tryz.zeroValue3
  t4 := Tryz.underlying4
  a4 := Tryz.isAgg4
  z4 := Tryz.sizeOf4
  v4 := Tryz.zeroValue4
  t22 := Tryz.underlying73
  a22 := Tryz.isAgg73
  z22 := Tryz.sizeOf73
  v22 := Tryz.zeroValue73
  a23 := Tryz.isAgg75
  z23 := Tryz.sizeOf75
  t25 := Tryz.underlying113
  a25 := Tryz.isAgg113
  z25 := Tryz.sizeOf113
  v25 := Tryz.zeroValue113 }
end Go.Proofs

/- Stage 3: Crash as a plain function on the document's state. Own work of the verifier. -/
namespace Go.Proofs.YtiabdbeejkadnabGreatDoor

def encO (l : List Bool) : List Value := l.map Value.bool
def keptAt (K : List Bool) (i : Nat) : Bool := K.getD i false
/-- the writes under way, as their commands were sent -/
def wrNums (fl : List Cmd) : List Int := (fl.filter (·.write)).flatMap (·.requests)
def rqOf (S : St) (n : Int) : Rq := S.reqs.getD ((findR S.reqs n).getD 0) Rq.zero
def putR (S : St) (D : List UInt8) (n : Int) : List UInt8 := putM D (4 * (rqOf S n).page).toNat (rqOf S n).data.data.toList
/-- the disk behind those of ns, the first of them at place i of what is kept -/
def crashD (S : St) (K : List Bool) : List Int → Nat → List UInt8 → List UInt8
  | [], _, D => D
  | n :: ns, i, D => crashD S K ns (i + 1) (if keptAt K i then putR S D n else D)
def sD (S : St) (D : List UInt8) : St := { S with disk := D }
def crashM (S : St) (K : List Bool) : St := { S with reqs := [], told := [], flights := [], head := 0, disk := crashD S K (wrNums S.flights) 0 S.disk }
theorem crashD_append (S : St) (K : List Bool) (a b : List Int) (i : Nat) (D : List UInt8) : crashD S K (a ++ b) i D = crashD S K b (i + a.length) (crashD S K a i D) := by
  induction a generalizing i D with
  | nil => simp [crashD]
  | cons n a ih => simp only [List.cons_append, crashD, ih, List.length_cons]; congr 1; omega
theorem crashD_len (S : St) (K : List Bool) (ns : List Int) (i : Nat) (D : List UInt8) : (crashD S K ns i D).length = D.length := by
  induction ns generalizing i D with
  | nil => rfl
  | cons n ns ih =>
    simp only [crashD]
    rw [ih]
    split
    · simp [putR, putM_len]
    · rfl
theorem crashD_snoc (S : St) (K : List Bool) (a : List Int) (n : Int) (D : List UInt8) : crashD S K (a ++ [n]) 0 D = if keptAt K a.length then putR S (crashD S K a 0 D) n else crashD S K a 0 D := by
  rw [crashD_append]; simp [crashD]
theorem wrNums_write (fl : List Cmd) (c : Cmd) (h : c.write = true) : wrNums (fl ++ [c]) = wrNums fl ++ c.requests := by
  unfold wrNums; rw [List.filter_append]; simp [h]
theorem wrNums_read (fl : List Cmd) (c : Cmd) (h : c.write = false) : wrNums (fl ++ [c]) = wrNums fl := by
  unfold wrNums; rw [List.filter_append]; simp [h]
theorem rqOf_found {S : St} {n : Int} {k : Nat} (hk : k < S.reqs.length) (hf : findR S.reqs n = some k) : rqOf S n = S.reqs[k] := by
  unfold rqOf; rw [hf]; simp [hk]
theorem Wf.crash {S : St} (h : Wf S) (K : List Bool) : Wf (crashM S K) where
  depth := h.depth
  last := h.last
  now := h.now
  head := ⟨Int.le_refl 0, by show (0 : Int) ≤ 16; decide⟩
  disk := by show (crashD S K _ 0 S.disk).length = 64; rw [crashD_len]; exact h.disk
  sorted := List.Pairwise.nil
  rq := fun r hr => by cases hr
  airIn := fun n hn => by simp [airs, crashM] at hn
  nodup := by simp [airs, crashM]
  toldIn := fun n hn => by cases hn
  toldNd := List.nodup_nil
  len := by simp [crashM]
  flLen := by show (0 : Int) ≤ S.depth; have := h.depth; omega
  fl := fun c hc => by cases hc
theorem wrNums_len {S : St} {E : List Int} (h : WfE S E) : (wrNums S.flights).length ≤ S.reqs.length := by
  have h1 : (wrNums S.flights).length ≤ (airs S).length := by
    unfold wrNums airs
    generalize S.flights = l
    induction l with
    | nil => simp
    | cons c l ih =>
      rw [List.filter_cons]
      split
      · simp only [List.flatMap_cons, List.length_append]; omega
      · simp only [List.flatMap_cons, List.length_append]; omega
  have h2 := h.airLen
  rw [List.length_append] at h2
  omega
end Go.Proofs.YtiabdbeejkadnabGreatDoor
