import Derived.Test.YtiabdbeejkadnaaGreatDoorChecked
import Derived.Test.YtiabdbeejkadnaaGreatDoorJfafc63b98a
import Derived.BigQuiet
import Derived.Deep.QuietTactic
import Derived.Deep.AppendLies
import Derived.Deep.RegionLaw
import Derived.WalkSpells
/- The reference queue's small functions by contracts: isTold, place. Own work of the verifier. -/
namespace Go.Proofs.YtiabdbeejkadnaaGreatDoor
open Go.RowKit

theorem ref_isTold (S : St) (F : Nat → Prop) (mb : Nat) (num : Int) (w : World) (h : RefAt w F mb S) (hl : S.told.length ≤ 1000000) :
    Calls Tryz.prog 112 #[.pointer (some ⟨mb, 0, none⟩), .int .i64 num] w fun e w' => e = .returned (.bool (toldHas S.told num)) ∧ w' = w := by
  obtain ⟨G, ar, cr, at_, ct, af, cf, ad, cd, h⟩ := h
  have c2 := h.c2
  have ht := h.told
  have HH : Hid (Row w F 3 1 at_ S.told.length ct (encI S.told)) := ht
  clear ht h
  generalize hT : S.told = T at *
  clear hT
  go_enter Tryz.func112, Tryz.ntmps112
  go_wp2
  go_loop [5] (fun i => ∃ k : Nat, k ≤ T.length ∧ i = .int .i64 k ∧ Hid (toldHas (T.take k) num = false)) (fun i => T.length - (intOf i).toNat)
  case atStart => exact ⟨0, Nat.zero_le _, rfl, rfl⟩
  case round =>
    obtain ⟨k, hk, rfl, hc⟩ := hrel
    by_cases hlt : k < T.length
    · obtain ⟨g, cur, hg, _, _, _, _⟩ := Row.some HH.out (by omega)
      obtain ⟨x, hx⟩ : ∃ x, x = T.getD k 0 := ⟨_, rfl⟩
      have c2' : w.cell? ⟨mb, 2, none⟩ = some (.slice (some ⟨g, 0, none⟩) T.length ct) := hg ▸ c2
      have ck : w.cell? ⟨g, k, none⟩ = some (.int .i64 x) := by
        have := Row.cellAt (hg ▸ HH.out) k (by omega)
        rw [this, hx]; simp [encI, hlt]
      clear c2
      by_cases he : x = num
      · have e1 : (x == num) = true := beq_iff_eq.2 he
        have hfin : Hid (toldHas T num = true) := toldHas_mem (by rw [← he, hx]; exact getD_mem hlt)
        clear he hx
        go_wp2
        go_ret
        exact ⟨by rw [hfin.out]; rfl, rfl⟩
      · have e1 : (x == num) = false := beq_eq_false_iff_ne.2 he
        have hnx : Hid (toldHas (T.take (k + 1)) num = false) := toldHas_take hlt hc.out (by rw [← hx]; exact he)
        clear he hx
        go_wp2
        go_round
        case rel => exact ⟨k + 1, by omega, by go_num, hnx⟩
        case measure => simp [intOf]; omega
    · have hfin : Hid (toldHas T num = false) := toldHas_all (by omega) hc.out
      go_wp2
      go_ret
      exact ⟨by rw [hfin.out]; rfl, rfl⟩

theorem ref_place (S : St) (F : Nat → Prop) (mb : Nat) (num : Int) (w : World) (h : RefAt w F mb S) (hl : S.told.length ≤ 1000000) (hr : S.reqs.length ≤ 1000000) :
    Calls Tryz.prog 108 #[.pointer (some ⟨mb, 0, none⟩), .int .i64 num] w fun e w' => e = .returned (.int .i64 (placeM S num)) ∧ w' = w := by
  have h0 := h
  obtain ⟨G, ar, cr, at_, ct, af, cf, ad, cd, h⟩ := h
  have c1 := h.c1
  have HH : Hid (Row w F 175 10 ar S.reqs.length cr (S.reqs.flatMap encR)) := h.reqs
  have H0 : Hid (RefAt w F mb S) := h0
  clear h h0
  by_cases ht : toldHas S.told num = true
  · have hp : Hid (placeM S num = -1) := by simp [Hid, placeM, ht]
    generalize hT : S.reqs = R at *
    clear hT
    go_enter Tryz.func108, Tryz.ntmps108
    go_wp2_with fail
    refine (ref_isTold S F mb num _ H0.out hl).mono ?_
    rintro e w' ⟨rfl, rfl⟩
    rw [ht]
    go_wp2
    go_loop [6] (fun i => ∃ k : Nat, k ≤ R.length ∧ i = .int .i64 k) (fun i => R.length - (intOf i).toNat)
    case atStart => exact ⟨0, Nat.zero_le _, rfl⟩
    case round =>
      obtain ⟨k, hk, rfl⟩ := hrel
      by_cases hlt : k < R.length
      · obtain ⟨g, cur, hg, _, _, _, _⟩ := Row.some HH.out (by omega)
        obtain ⟨x, hx⟩ : ∃ x, x = (R.getD k Rq.zero).num := ⟨_, rfl⟩
        have c1' : w'.cell? ⟨mb, 1, none⟩ = some (.slice (some ⟨g, 0, none⟩) R.length cr) := hg ▸ c1
        have ck : w'.cell? ⟨g, k * 10, none⟩ = some (.int .i64 x) := by
          have := Row.cellAt (hg ▸ HH.out) (k * 10) (by omega)
          have e := encRs_at R k 0 hlt (by omega)
          rw [Nat.add_zero] at e
          rw [this, hx, e]; rfl
        clear c1
        by_cases he : x = num
        · have e1 : (x == num) = true := beq_iff_eq.2 he
          clear he hx
          go_wp2
          go_round
          case rel => exact ⟨k + 1, by omega, by go_num⟩
          case measure => simp [intOf]; omega
        · have e1 : (x == num) = false := beq_eq_false_iff_ne.2 he
          clear he hx
          go_wp2
          go_round
          case rel => exact ⟨k + 1, by omega, by go_num⟩
          case measure => simp [intOf]; omega
      · go_wp2
        go_ret
        exact ⟨by rw [hp.out]; rfl, rfl⟩
  · have ht : toldHas S.told num = false := by simpa using ht
    have hp : Hid (placeM S num = intOr (findR S.reqs num)) := by simp [Hid, placeM, ht]
    generalize hT : S.reqs = R at *
    clear hT
    go_enter Tryz.func108, Tryz.ntmps108
    go_wp2_with fail
    refine (ref_isTold S F mb num _ H0.out hl).mono ?_
    rintro e w' ⟨rfl, rfl⟩
    rw [ht]
    go_wp2
    go_loop [6] (fun i => ∃ k : Nat, k ≤ R.length ∧ i = .int .i64 k ∧ Hid (findR (R.take k) num = none)) (fun i => R.length - (intOf i).toNat)
    case atStart => exact ⟨0, Nat.zero_le _, rfl, rfl⟩
    case round =>
      obtain ⟨k, hk, rfl, hc⟩ := hrel
      by_cases hlt : k < R.length
      · obtain ⟨g, cur, hg, _, _, _, _⟩ := Row.some HH.out (by omega)
        obtain ⟨x, hx⟩ : ∃ x, x = (R.getD k Rq.zero).num := ⟨_, rfl⟩
        have c1' : w'.cell? ⟨mb, 1, none⟩ = some (.slice (some ⟨g, 0, none⟩) R.length cr) := hg ▸ c1
        have ck : w'.cell? ⟨g, k * 10, none⟩ = some (.int .i64 x) := by
          have := Row.cellAt (hg ▸ HH.out) (k * 10) (by omega)
          have e := encRs_at R k 0 hlt (by omega)
          rw [Nat.add_zero] at e
          rw [this, hx, e]; rfl
        clear c1
        by_cases he : x = num
        · have e1 : (x == num) = true := beq_iff_eq.2 he
          have hfin : Hid (intOr (findR R num) = (k : Int)) := by rw [Hid, findR_hit hlt hc.out (by rw [← hx]; exact he)]; rfl
          clear he hx
          go_wp2
          go_ret
          exact ⟨by rw [hp.out, hfin.out]; rfl, rfl⟩
        · have e1 : (x == num) = false := beq_eq_false_iff_ne.2 he
          have hnx : Hid (findR (R.take (k + 1)) num = none) := findR_next hlt hc.out (by rw [← hx]; exact he)
          clear he hx
          go_wp2
          go_round
          case rel => exact ⟨k + 1, by omega, by go_num, hnx⟩
          case measure => simp [intOf]; omega
      · have hfin : Hid (intOr (findR R num) = -1) := by rw [Hid, findR_all (by omega) hc.out]; rfl
        go_wp2
        go_ret
        exact ⟨by rw [hp.out, hfin.out]; rfl, rfl⟩
end Go.Proofs.YtiabdbeejkadnaaGreatDoor

/- The reference queue: Ask. Own work of the verifier. -/
namespace Go.Proofs.YtiabdbeejkadnaaGreatDoor
open Go.RowKit

theorem info_req : (Tryz.prog.info? 175).map (fun i => (i.zero, i.size, i.bytes)) = some (some (.agg (encR Rq.zero).toArray), 10, 88) := by kernel_rfl

theorem encR_one (r : Rq) : ∀ u ∈ encR r, u.oneCell' = true := by
  intro u hu
  simp only [encR, List.mem_cons, List.not_mem_nil, or_false] at hu
  rcases hu with rfl | rfl | rfl | rfl | rfl | rfl | rfl | rfl | rfl | rfl <;> rfl
set_option maxHeartbeats 1000000 in
set_option maxRecDepth 1000000 in
theorem ref_ask_ok_r (S : St) (F : Nat → Prop) (mb : Nat) (page : Int) (data : ByteArray) (w : World) (h : RefAt w F mb S) (hl : S.told.length ≤ 1000000) (hr : S.reqs.length ≤ 1000000) (hz0 : 0 ≤ S.last) (hz1 : S.last ≤ 1000000)
    (hp0 : ¬ page < 0) (hp1 : ¬ 16 ≤ page) (hf : ¬ 40 ≤ (S.reqs.length : Int) - S.told.length) :
    Calls Tryz.prog 64 #[.pointer (some ⟨mb, 0, none⟩), .bool false, .int .i64 page, .string data] w fun e w' => e = .returned (.tuple #[.int .i64 (S.last + 1), .int .i64 0]) ∧ RefAt w' (Foot F w w') mb (askOk S false page data) ∧ Kept F w w' := by
  obtain ⟨G, ar, cr, at_, ct, af, cf, ad, cd, h⟩ := h
  obtain ⟨i0, hi, hi0, hi1, hi2⟩ := info_parts info_req
  have c1 := h.c1
  have c2 := h.c2
  have c6 := h.c6
  have f1 := h.fz 1
  have f6 := h.fz 6
  have H : Hid (RefBlk w F G mb S ar cr at_ ct af cf ad cd) := h
  clear h
  generalize hT : S.told.length = nt at *
  generalize hR : S.reqs.length = nr at *
  generalize hL : S.last = la at *
  have hR' : Hid (S.reqs.length = nr) := hR
  have hL' : Hid (S.last = la) := hL
  clear hT hR hL
  go_enter Tryz.func64, Tryz.ntmps64
  go_wp2
  go_quiet (fail)
  go_wp2
  have H1 : Hid (RefBlk ((w.drewN nq).setCell ⟨mb, 6, none⟩ (.int .i64 (la + 1))) F G mb { S with last := la + 1 } ar cr at_ ct af cf ad cd) :=
    RefBlk.setLast (H.out.same (w' := w.drewN nq) (fun _ _ _ => rfl) (Nat.le_refl _)) _
  have HK : Hid (Kept F w ((w.drewN nq).setCell ⟨mb, 6, none⟩ (.int .i64 (la + 1)))) := (Kept.drewN (Kept.refl _ _) nq).setCell (Or.inl H.out.own) _
  have k1 : ((w.drewN nq).setCell ⟨mb, 6, none⟩ (.int .i64 (la + 1))).cell? ⟨mb, 1, none⟩ = some (.slice ar nr cr) := by rw [← hR'.out]; exact H1.out.c1
  have k6 : ((w.drewN nq).setCell ⟨mb, 6, none⟩ (.int .i64 (la + 1))).cell? ⟨mb, 6, none⟩ = some (.int .i64 (la + 1)) := H1.out.c6
  have g1 := H1.out.fz 1
  have hlt1 := H1.out.lt
  clear c1 c2 c6 f1 f6
  generalize (w.drewN nq).setCell ⟨mb, 6, none⟩ (.int .i64 (la + 1)) = w1 at H1 HK k1 k6 g1 hlt1 ⊢
  have HO : Hid (((w1.alloc (.cells (encR ⟨la + 1, false, page, data, 0, 0, 0, false, false, ⟨#[]⟩⟩).toArray 175)).drew).ownsRow 0 175 10 (.slice ar nr cr) nr (S.reqs.flatMap encR)) := by
    have := (H1.out.reqs.alloc (.cells (encR ⟨la + 1, false, page, data, 0, 0, 0, false, false, ⟨#[]⟩⟩).toArray 175)).1
    rw [← hR'.out]
    exact this
  have HN : Hid (∀ (j : Nat) (u : Value), (encR ⟨la + 1, false, page, data, 0, 0, 0, false, false, ⟨#[]⟩⟩)[j]? = some u → ((w1.alloc (.cells (encR ⟨la + 1, false, page, data, 0, 0, 0, false, false, ⟨#[]⟩⟩).toArray 175)).drew).cell? ((⟨w1.heap.size, 0, none⟩ : Addr).add j) = some u) := fun j u => news_new j u
  go_region_law (refine step_append_lies _ rfl (.tmp 45) (.tmp 54) 102 rfl 0 175 i0 (.agg (encR Rq.zero).toArray) 10 88 Tryz.underlying102 hi hi0 hi1 hi2 rfl (by decide) (.slice ar nr cr) nr (S.reqs.flatMap encR) (by simp [Act.eval]) HO.out ⟨w1.heap.size, 0, none⟩ 1 1 (encR ⟨la + 1, false, page, data, 0, 0, 0, false, false, ⟨#[]⟩⟩) (by simp [Act.eval]) rfl HN.out (encR_one _) (by decide) (by unfold maxLen; omega) (by omega) (Nat.zero_le _) (w1.heap.size + 1) (by simp) ?_; intro g cap w2 hown hgrow hat hlt)
  all_goals
    have hn1 : nr + 1 = (S.reqs ++ [(⟨la + 1, false, page, data, 0, 0, 0, false, false, ⟨#[]⟩⟩ : Rq)]).length := by rw [List.length_append, hR'.out]; rfl
    have hfl : S.reqs.flatMap encR ++ encR ⟨la + 1, false, page, data, 0, 0, 0, false, false, ⟨#[]⟩⟩ = (S.reqs ++ [(⟨la + 1, false, page, data, 0, 0, 0, false, false, ⟨#[]⟩⟩ : Rq)]).flatMap encR := by simp [List.flatMap_append]
    rw [hfl] at hown
    have HX := RefBlk.appended (w0 := w) H1.out H.out.ltF HK.out (by rw [← hR'.out] at hgrow; exact hgrow) hown hn1 (by rw [← hR'.out] at hat; exact hat) hlt
    have m1 : w2.cell? ⟨mb, 1, none⟩ = some (.slice ar nr cr) := (World.cell?_of_block HX.2.2).trans k1
    have m6 : w2.cell? ⟨mb, 6, none⟩ = some (.int .i64 (la + 1)) := (World.cell?_of_block HX.2.2).trans k6
    have n1 : w2.frozen? ⟨mb, 1, none⟩ = false := (World.frozen?_of_block HX.2.2).trans g1
    have HY : Hid (RefAt (w2.setCell ⟨mb, 1, none⟩ (.slice (some ⟨g, 0, none⟩) (nr + 1) cap)) (Foot F w (w2.setCell ⟨mb, 1, none⟩ (.slice (some ⟨g, 0, none⟩) (nr + 1) cap))) mb (askOk S false page data) ∧ Kept F w (w2.setCell ⟨mb, 1, none⟩ (.slice (some ⟨g, 0, none⟩) (nr + 1) cap))) := by
      refine ⟨⟨G, some ⟨g, 0, none⟩, cap, at_, ct, af, cf, ad, cd, ?_⟩, HX.2.1⟩
      unfold askOk
      rw [hL'.out]
      exact HX.1
    clear HX hown hgrow hat hlt hfl hn1 HO HN k1 k6 g1
    go_wp2
    go_ret2
    exact ⟨rfl, HY.out⟩

set_option maxHeartbeats 1000000 in
set_option maxRecDepth 1000000 in
theorem ref_ask_ok_w (S : St) (F : Nat → Prop) (mb : Nat) (page : Int) (data : ByteArray) (w : World) (h : RefAt w F mb S) (hl : S.told.length ≤ 1000000) (hr : S.reqs.length ≤ 1000000) (hz0 : 0 ≤ S.last) (hz1 : S.last ≤ 1000000)
    (hp0 : ¬ page < 0) (hp1 : ¬ 16 ≤ page) (hd : ((data.size : Int) != 4) = false) (hf : ¬ 40 ≤ (S.reqs.length : Int) - S.told.length) :
    Calls Tryz.prog 64 #[.pointer (some ⟨mb, 0, none⟩), .bool true, .int .i64 page, .string data] w fun e w' => e = .returned (.tuple #[.int .i64 (S.last + 1), .int .i64 0]) ∧ RefAt w' (Foot F w w') mb (askOk S true page data) ∧ Kept F w w' := by
  obtain ⟨G, ar, cr, at_, ct, af, cf, ad, cd, h⟩ := h
  obtain ⟨i0, hi, hi0, hi1, hi2⟩ := info_parts info_req
  have c1 := h.c1
  have c2 := h.c2
  have c6 := h.c6
  have f1 := h.fz 1
  have f6 := h.fz 6
  have H : Hid (RefBlk w F G mb S ar cr at_ ct af cf ad cd) := h
  clear h
  generalize hT : S.told.length = nt at *
  generalize hR : S.reqs.length = nr at *
  generalize hL : S.last = la at *
  have hR' : Hid (S.reqs.length = nr) := hR
  have hL' : Hid (S.last = la) := hL
  clear hT hR hL
  go_enter Tryz.func64, Tryz.ntmps64
  go_wp2
  go_quiet (fail)
  go_wp2
  have H1 : Hid (RefBlk ((w.drewN nq).setCell ⟨mb, 6, none⟩ (.int .i64 (la + 1))) F G mb { S with last := la + 1 } ar cr at_ ct af cf ad cd) :=
    RefBlk.setLast (H.out.same (w' := w.drewN nq) (fun _ _ _ => rfl) (Nat.le_refl _)) _
  have HK : Hid (Kept F w ((w.drewN nq).setCell ⟨mb, 6, none⟩ (.int .i64 (la + 1)))) := (Kept.drewN (Kept.refl _ _) nq).setCell (Or.inl H.out.own) _
  have k1 : ((w.drewN nq).setCell ⟨mb, 6, none⟩ (.int .i64 (la + 1))).cell? ⟨mb, 1, none⟩ = some (.slice ar nr cr) := by rw [← hR'.out]; exact H1.out.c1
  have k6 : ((w.drewN nq).setCell ⟨mb, 6, none⟩ (.int .i64 (la + 1))).cell? ⟨mb, 6, none⟩ = some (.int .i64 (la + 1)) := H1.out.c6
  have g1 := H1.out.fz 1
  have hlt1 := H1.out.lt
  clear c1 c2 c6 f1 f6
  generalize (w.drewN nq).setCell ⟨mb, 6, none⟩ (.int .i64 (la + 1)) = w1 at H1 HK k1 k6 g1 hlt1 ⊢
  have HO : Hid (((w1.alloc (.cells (encR ⟨la + 1, true, page, data, 0, 0, 0, false, false, ⟨#[]⟩⟩).toArray 175)).drew).ownsRow 0 175 10 (.slice ar nr cr) nr (S.reqs.flatMap encR)) := by
    have := (H1.out.reqs.alloc (.cells (encR ⟨la + 1, true, page, data, 0, 0, 0, false, false, ⟨#[]⟩⟩).toArray 175)).1
    rw [← hR'.out]
    exact this
  have HN : Hid (∀ (j : Nat) (u : Value), (encR ⟨la + 1, true, page, data, 0, 0, 0, false, false, ⟨#[]⟩⟩)[j]? = some u → ((w1.alloc (.cells (encR ⟨la + 1, true, page, data, 0, 0, 0, false, false, ⟨#[]⟩⟩).toArray 175)).drew).cell? ((⟨w1.heap.size, 0, none⟩ : Addr).add j) = some u) := fun j u => news_new j u
  go_region_law (refine step_append_lies _ rfl (.tmp 45) (.tmp 54) 102 rfl 0 175 i0 (.agg (encR Rq.zero).toArray) 10 88 Tryz.underlying102 hi hi0 hi1 hi2 rfl (by decide) (.slice ar nr cr) nr (S.reqs.flatMap encR) (by simp [Act.eval]) HO.out ⟨w1.heap.size, 0, none⟩ 1 1 (encR ⟨la + 1, true, page, data, 0, 0, 0, false, false, ⟨#[]⟩⟩) (by simp [Act.eval]) rfl HN.out (encR_one _) (by decide) (by unfold maxLen; omega) (by omega) (Nat.zero_le _) (w1.heap.size + 1) (by simp) ?_; intro g cap w2 hown hgrow hat hlt)
  all_goals
    have hn1 : nr + 1 = (S.reqs ++ [(⟨la + 1, true, page, data, 0, 0, 0, false, false, ⟨#[]⟩⟩ : Rq)]).length := by rw [List.length_append, hR'.out]; rfl
    have hfl : S.reqs.flatMap encR ++ encR ⟨la + 1, true, page, data, 0, 0, 0, false, false, ⟨#[]⟩⟩ = (S.reqs ++ [(⟨la + 1, true, page, data, 0, 0, 0, false, false, ⟨#[]⟩⟩ : Rq)]).flatMap encR := by simp [List.flatMap_append]
    rw [hfl] at hown
    have HX := RefBlk.appended (w0 := w) H1.out H.out.ltF HK.out (by rw [← hR'.out] at hgrow; exact hgrow) hown hn1 (by rw [← hR'.out] at hat; exact hat) hlt
    have m1 : w2.cell? ⟨mb, 1, none⟩ = some (.slice ar nr cr) := (World.cell?_of_block HX.2.2).trans k1
    have m6 : w2.cell? ⟨mb, 6, none⟩ = some (.int .i64 (la + 1)) := (World.cell?_of_block HX.2.2).trans k6
    have n1 : w2.frozen? ⟨mb, 1, none⟩ = false := (World.frozen?_of_block HX.2.2).trans g1
    have HY : Hid (RefAt (w2.setCell ⟨mb, 1, none⟩ (.slice (some ⟨g, 0, none⟩) (nr + 1) cap)) (Foot F w (w2.setCell ⟨mb, 1, none⟩ (.slice (some ⟨g, 0, none⟩) (nr + 1) cap))) mb (askOk S true page data) ∧ Kept F w (w2.setCell ⟨mb, 1, none⟩ (.slice (some ⟨g, 0, none⟩) (nr + 1) cap))) := by
      refine ⟨⟨G, some ⟨g, 0, none⟩, cap, at_, ct, af, cf, ad, cd, ?_⟩, HX.2.1⟩
      unfold askOk
      rw [hL'.out]
      exact HX.1
    clear HX hown hgrow hat hlt hfl hn1 HO HN k1 k6 g1
    go_wp2
    go_ret2
    exact ⟨rfl, HY.out⟩
end Go.Proofs.YtiabdbeejkadnaaGreatDoor

/- The reference queue: Ask whole, Cancel, Disk, NewQueue. Own work of the verifier. -/
namespace Go.Proofs.YtiabdbeejkadnaaGreatDoor
open Go.RowKit

theorem Kept.refAt {w : World} {F : Nat → Prop} {mb : Nat} {S : St} (h : RefAt w F mb S) : RefAt w (Foot F w w) mb S := h.grow (Below.refl _ _)
theorem RefAt.drewN {w : World} {F : Nat → Prop} {mb : Nat} {S : St} (h : RefAt w F mb S) (n : Nat) : RefAt (w.drewN n) (Foot F w (w.drewN n)) mb S := h.grow (below_drewN (Below.refl _ _) n)

theorem ref_ask_page (S : St) (F : Nat → Prop) (mb : Nat) (write : Bool) (page : Int) (data : ByteArray) (w : World) (h : RefAt w F mb S) (hp : page < 0 ∨ 16 ≤ page) :
    Calls Tryz.prog 64 #[.pointer (some ⟨mb, 0, none⟩), .bool write, .int .i64 page, .string data] w fun e w' => e = .returned (.tuple #[.int .i64 0, .int .i64 2]) ∧ RefAt w' (Foot F w w') mb S ∧ Kept F w w' := by
  have H : Hid (RefAt w F mb S) := h
  clear h
  by_cases h0 : page < 0
  · clear hp
    go_enter Tryz.func64, Tryz.ntmps64
    go_wp2
    go_ret2
    exact ⟨rfl, Kept.refAt H.out, Kept.refl _ _⟩
  · have h1 : 16 ≤ page := by omega
    clear hp
    go_enter Tryz.func64, Tryz.ntmps64
    go_wp2
    go_ret2
    exact ⟨rfl, Kept.refAt H.out, Kept.refl _ _⟩

theorem ref_ask_data (S : St) (F : Nat → Prop) (mb : Nat) (page : Int) (data : ByteArray) (w : World) (h : RefAt w F mb S) (hp0 : ¬ page < 0) (hp1 : ¬ 16 ≤ page) (hd : ((data.size : Int) != 4) = true) :
    Calls Tryz.prog 64 #[.pointer (some ⟨mb, 0, none⟩), .bool true, .int .i64 page, .string data] w fun e w' => e = .returned (.tuple #[.int .i64 0, .int .i64 3]) ∧ RefAt w' (Foot F w w') mb S ∧ Kept F w w' := by
  have H : Hid (RefAt w F mb S) := h
  clear h
  go_enter Tryz.func64, Tryz.ntmps64
  go_wp2
  go_ret2
  exact ⟨rfl, Kept.refAt H.out, Kept.refl _ _⟩

theorem ref_ask_full (S : St) (F : Nat → Prop) (mb : Nat) (write : Bool) (page : Int) (data : ByteArray) (w : World) (h : RefAt w F mb S) (hl : S.told.length ≤ 1000000) (hr : S.reqs.length ≤ 1000000) (hp0 : ¬ page < 0) (hp1 : ¬ 16 ≤ page) (hd : write = false ∨ ((data.size : Int) != 4) = false) (hf : 40 ≤ (S.reqs.length : Int) - S.told.length) :
    Calls Tryz.prog 64 #[.pointer (some ⟨mb, 0, none⟩), .bool write, .int .i64 page, .string data] w fun e w' => e = .returned (.tuple #[.int .i64 0, .int .i64 4]) ∧ RefAt w' (Foot F w w') mb S ∧ Kept F w w' := by
  have H : Hid (RefAt w F mb S) := h
  obtain ⟨G, ar, cr, at_, ct, af, cf, ad, cd, h⟩ := h
  have c1 := h.c1
  have c2 := h.c2
  clear h
  generalize S.told.length = nt at *
  generalize S.reqs.length = nr at *
  cases write
  · clear hd
    go_enter Tryz.func64, Tryz.ntmps64
    go_wp2
    go_quiet (fail)
    go_wp2
    go_ret2
    exact ⟨rfl, H.out.drewN _, Kept.drewN (Kept.refl _ _) _⟩
  · have hd' : ((data.size : Int) != 4) = false := by simpa using hd
    clear hd
    go_enter Tryz.func64, Tryz.ntmps64
    go_wp2
    go_quiet (fail)
    go_wp2
    go_ret2
    exact ⟨rfl, H.out.drewN _, Kept.drewN (Kept.refl _ _) _⟩

/-- Ask, whole. -/
theorem ref_ask (S : St) (F : Nat → Prop) (mb : Nat) (write : Bool) (page : Int) (data : ByteArray) (w : World) (h : RefAt w F mb S) (hl : S.told.length ≤ 1000000) (hr : S.reqs.length ≤ 1000000) (hz0 : 0 ≤ S.last) (hz1 : S.last ≤ 1000000) :
    Calls Tryz.prog 64 #[.pointer (some ⟨mb, 0, none⟩), .bool write, .int .i64 page, .string data] w fun e w' => e = .returned (.tuple #[.int .i64 (askM S write page data).1, .int .i64 (askM S write page data).2.1]) ∧ RefAt w' (Foot F w w') mb (askM S write page data).2.2 ∧ Kept F w w' := by
  unfold askM
  by_cases h1 : page < 0 ∨ 16 ≤ page
  · rw [if_pos h1]; exact ref_ask_page S F mb write page data w h h1
  · rw [if_neg h1]
    have hp0 : ¬ page < 0 := fun e => h1 (Or.inl e)
    have hp1 : ¬ 16 ≤ page := fun e => h1 (Or.inr e)
    by_cases h2 : write = true ∧ data.size ≠ 4
    · rw [if_pos h2]
      obtain ⟨rfl, h2⟩ := h2
      exact ref_ask_data S F mb page data w h hp0 hp1 (by rw [bne_iff_ne]; omega)
    · rw [if_neg h2]
      by_cases h3 : 40 ≤ (S.reqs.length : Int) - S.told.length
      · rw [if_pos h3]
        refine ref_ask_full S F mb write page data w h hl hr hp0 hp1 ?_ h3
        cases write
        · exact Or.inl rfl
        · refine Or.inr ?_
          have : data.size = 4 := by simpa using h2
          simp [this]
      · rw [if_neg h3]
        cases write
        · exact ref_ask_ok_r S F mb page data w h hl hr hz0 hz1 hp0 hp1 h3
        · have : data.size = 4 := by simpa using h2
          exact ref_ask_ok_w S F mb page data w h hl hr hz0 hz1 hp0 hp1 (by simp [this]) h3
end Go.Proofs.YtiabdbeejkadnaaGreatDoor

/- The reference queue: drop, where the request is not under way. Own work of the verifier. -/
namespace Go.Proofs.YtiabdbeejkadnaaGreatDoor
open Go.RowKit

/-- a request's ten cells, at place i of the row at g -/
theorem Row.req {w : World} {F : Nat → Prop} {g n cap : Nat} {R : List Rq} (h : Row w F 175 10 (Option.some ⟨g, 0, none⟩) n cap (R.flatMap encR)) (hn : n = R.length) (i j : Nat) (hi : i < n) (hj : j < 10) :
    w.cell? ⟨g, i * 10 + j, none⟩ = (encR (R.getD i Rq.zero))[j]? := by
  rw [Row.cellAt h (i * 10 + j) (by omega), encRs_at R i j (by omega) hj]

/-- the queue behind a change of nothing but new blocks -/
theorem RefBlk.below {w w' : World} {F G : Nat → Prop} {mb : Nat} {S : St} {ar : Option Addr} {cr : Nat} {at_ : Option Addr} {ct : Nat} {af : Option Addr} {cf : Nat} {ad : Option Addr} {cd : Nat} (h : RefBlk w F G mb S ar cr at_ ct af cf ad cd) (hb : Below w.heap.size w w') : RefBlk w' F G mb S ar cr at_ ct af cf ad cd :=
  h.same (fun k _ hk => hb.block k hk) hb.size

/-- one round of drop's loop that keeps a request: the row behind the append -/
theorem drop_rel {w wr w2 : World} {ao : Option Addr} {n cap g cap' : Nat} {xs news : List Value} {o : Obj} (hb : Below w.heap.size w wr) (hrow : Row wr (fun b => w.heap.size ≤ b) 175 10 ao n cap xs)
    (hgrow : (wr.alloc o).grownBy w2 (Value.ownBlock (.slice ao n cap))) (hown : w2.ownsRow 0 175 10 (.slice (some ⟨g, 0, none⟩) (n + 1) cap') (n + 1) (xs ++ news)) (hat : Value.ownBlock (.slice ao n cap) = some g ∨ g = wr.heap.size + 1) :
    Below w.heap.size w w2 ∧ Row w2 (fun b => w.heap.size ≤ b) 175 10 (some ⟨g, 0, none⟩) (n + 1) cap' (xs ++ news) := by
  have hob : ∀ k, Value.ownBlock (.slice ao n cap) = some k → w.heap.size ≤ k := by
    intro k hk
    cases ao with
    | none => simp [Value.ownBlock] at hk
    | some a => have := hrow.2 a rfl; simp [Value.ownBlock] at hk; omega
  refine ⟨(hb.alloc hb.size o).grown hgrow (by have := hb.size; simp; omega) hob, hown, fun a ha => ?_⟩
  cases ha
  rcases hat with e | e
  · exact hob g e
  · have := hb.size; show w.heap.size ≤ g; omega

set_option maxHeartbeats 1000000 in
set_option maxRecDepth 1000000 in
theorem ref_drop_air (S : St) (F : Nat → Prop) (mb k : Nat) (w : World) (h : RefAt w F mb S) (hr : S.reqs.length ≤ 1000000) (hk : k < S.reqs.length) (ha : (S.reqs.getD k Rq.zero).inAir = false) :
    Calls Tryz.prog 109 #[.pointer (some ⟨mb, 0, none⟩), .int .i64 k] w fun e w' => e = .returned (.tuple #[]) ∧ RefAt w' (Foot F w w') mb { S with reqs := S.reqs.eraseIdx k } ∧ Kept F w w' := by
  obtain ⟨G, ar, cr, at_, ct, af, cf, ad, cd, h⟩ := h
  obtain ⟨i0, hi, hi0, hi1, hi2⟩ := info_parts info_req
  obtain ⟨g0, cur, hg0, _, _, _, _⟩ := Row.some h.reqs (by omega)
  subst hg0
  have c1 := h.c1
  have f1 := h.fz 1
  have hlt := h.lt
  have hgl : g0 < w.heap.size := by obtain ⟨c, hc, _⟩ := h.reqs.block rfl; exact lt_of_heap hc
  have ca : w.cell? ⟨g0, k * 10 + 8, none⟩ = some (.bool false) := by rw [Row.req h.reqs rfl k 8 hk (by omega), ← ha]; rfl
  have H : Hid (RefBlk w F G mb S (some ⟨g0, 0, none⟩) cr at_ ct af cf ad cd) := h
  clear h ha
  generalize hR : S.reqs = R at *
  have hR' : Hid (S.reqs = R) := hR
  clear hR
  go_enter Tryz.func109, Tryz.ntmps109
  go_wp2
  go_loopw [4, 5] (fun l i wr => ∃ (j n cap : Nat) (ao : Option Addr), j ≤ R.length ∧ i = .int .i64 j ∧ l = .slice ao n cap ∧ n = (keepTo R k j).length ∧ Hid (Row wr (fun b => w.heap.size ≤ b) 175 10 ao n cap ((keepTo R k j).flatMap encR)) ∧ Hid (Below w.heap.size w wr)) (fun _ i _ => R.length - (intOf i).toNat)
  case atStart => exact ⟨0, 0, 0, none, Nat.zero_le _, rfl, rfl, by rw [keepTo_zero]; rfl, by rw [keepTo_zero]; exact Row.nil _ _ _ _, Below.refl _ _⟩
  case round =>
    obtain ⟨j, n, cap, ao, hj, rfl, rfl, hn, hrow, hb⟩ := hrel
    have HN : Hid (n = (keepTo R k j).length) := hn
    have hnl : n ≤ R.length := by rw [hn]; exact keepTo_len R k j
    clear hn
    have d1 : wr.cell? ⟨mb, 1, none⟩ = some (.slice (some ⟨g0, 0, none⟩) R.length cr) := (hb.out.cell (p := ⟨mb, 1, none⟩) hlt).trans c1
    have e1 : wr.frozen? ⟨mb, 1, none⟩ = false := (hb.out.frozen (p := ⟨mb, 1, none⟩) hlt).trans f1
    by_cases hlt2 : j < R.length
    · by_cases hjk : j = k
      · have b1 : ((j : Int) != (k : Int)) = false := by simp [hjk]
        have HE : Hid (j = k) := hjk
        clear hjk
        go_wp2
        go_roundw
        case rel => exact ⟨j + 1, n, cap, ao, by omega, by go_num, rfl, by rw [HN.out, HE.out, keepTo_same], by rw [HE.out, keepTo_same]; rw [HE.out] at hrow; exact hrow, hb⟩
        case measure => simp [intOf]; omega
      · have b1 : ((j : Int) != (k : Int)) = true := by rw [bne_iff_ne]; omega
        obtain ⟨r, hr'⟩ : ∃ r, r = R.getD j Rq.zero := ⟨_, rfl⟩
        have HRr : Hid (r = R.getD j Rq.zero) := hr'
        have hq : ∀ t, t < 10 → wr.cell? ⟨g0, j * 10 + t, none⟩ = (encR r)[t]? := by
          intro t ht
          rw [hb.out.cell (p := ⟨g0, j * 10 + t, none⟩) hgl, hr', ← Row.req (R := R) (by have := H.out.reqs; rw [hR'.out] at this; exact this) rfl j t hlt2 ht]
        have q0 : wr.cell? ⟨g0, j * 10, none⟩ = some (.int .i64 r.num) := hq 0 (by omega)
        have q1 : wr.cell? ⟨g0, j * 10 + 1, none⟩ = some (.bool r.write) := hq 1 (by omega)
        have q2 : wr.cell? ⟨g0, j * 10 + 2, none⟩ = some (.int .i64 r.page) := hq 2 (by omega)
        have q3 : wr.cell? ⟨g0, j * 10 + 3, none⟩ = some (.string r.data) := hq 3 (by omega)
        have q4 : wr.cell? ⟨g0, j * 10 + 4, none⟩ = some (.int .i64 r.state) := hq 4 (by omega)
        have q5 : wr.cell? ⟨g0, j * 10 + 5, none⟩ = some (.int .i64 r.tries) := hq 5 (by omega)
        have q6 : wr.cell? ⟨g0, j * 10 + 6, none⟩ = some (.int .i64 r.after) := hq 6 (by omega)
        have q7 : wr.cell? ⟨g0, j * 10 + 7, none⟩ = some (.bool r.alone) := hq 7 (by omega)
        have q8 : wr.cell? ⟨g0, j * 10 + 8, none⟩ = some (.bool r.inAir) := hq 8 (by omega)
        have q9 : wr.cell? ⟨g0, j * 10 + 9, none⟩ = some (.string r.answer) := hq 9 (by omega)
        have HJ : Hid (¬ j = k) := hjk
        clear hq hr' hjk
        have HO : Hid ((wr.alloc (.cells (encR r).toArray 175)).ownsRow 0 175 10 (.slice ao n cap) n ((keepTo R k j).flatMap encR)) := (hrow.out.alloc _).1
        have HW : Hid (∀ (t : Nat) (u : Value), (encR r)[t]? = some u → (wr.alloc (.cells (encR r).toArray 175)).cell? ((⟨wr.heap.size, 0, none⟩ : Addr).add t) = some u) := fun t u => news_new t u
        go_wp2_with (at_builtin; go_must (refine wpList_append_lies _ rfl (.tmp 43) (.tmp 51) 102 rfl 0 175 i0 (.agg (encR Rq.zero).toArray) 10 88 Tryz.underlying102 hi hi0 hi1 hi2 rfl (by decide) (.slice ao n cap) n ((keepTo R k j).flatMap encR) rfl HO.out ⟨wr.heap.size, 0, none⟩ 1 1 (encR r) rfl rfl HW.out (encR_one _) (by decide) (by unfold maxLen; omega) (by omega) (Nat.zero_le _) (wr.heap.size + 1) (by simp) ?_; intro g cap' w2 hown hgrow hat hlt3; have HX := hide (drop_rel hb.out hrow.out hgrow hown hat); clear hown hgrow hat hlt3))
        go_roundw
        case rel => exact ⟨j + 1, n + 1, cap', some ⟨g, 0, none⟩, by omega, by go_num, rfl, by rw [keepTo_next R k j hlt2 HJ.out, List.length_append, HN.out]; rfl, by rw [keepTo_next R k j hlt2 HJ.out, List.flatMap_append, ← HRr.out]; simpa [Hid] using HX.out.2, HX.out.1⟩
        case measure => simp [intOf]; omega
    · have HA : Hid (keepTo R k j = R.eraseIdx k) := keepTo_all R k j (by omega)
      go_wp2
      go_end0
      refine ⟨rfl, ⟨G, ao, cap, at_, ct, af, cf, ad, cd, ?_⟩, ?_⟩
      · have hz2 : ∀ v, (wr.setCell ⟨mb, 1, none⟩ v).heap.size = wr.heap.size := fun v => by simp [World.setCell]
        refine H.out.setReqs (fun t ht _ => hb.out.block t ht) hb.out.size Foot.of (fun t ht => by rw [← hz2]; exact Foot.lt H.out.ltF (by rw [hz2]; exact hb.out.size) t ht) (by rw [HN.out, HA.out]) ?_ (fun b hb' => Or.inr (hrow.out.2 b hb'))
        have hr2 := hrow.out
        rw [HA.out] at hr2
        refine ⟨hr2.1, fun a ha => Or.inr ⟨hr2.2 a ha, ?_⟩⟩
        obtain ⟨c, hc, _⟩ := hr2.block ha
        rw [hz2]
        exact lt_of_heap hc
      · exact ((Below.kept hb.out F)).setCell (Or.inl H.out.own) _
end Go.Proofs.YtiabdbeejkadnaaGreatDoor
