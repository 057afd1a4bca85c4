/- The reference queue: Ask. Own work of the verifier. -/
import Derived.Test.YtiabdbeejkadnaaGreatDoorRefA
import Derived.Deep.AppendLies
import Derived.Deep.RegionLaw
namespace Go.Proofs.YtiabdbeejkadnaaGreatDoor
open Go.RowKit

theorem info_req : (Tryz.prog.info? 175).map (fun i => (i.zero, i.size, i.bytes)) = some (some (.agg (encR Rq.zero).toArray), 10, 88) := by kernel_rfl

theorem encR_one (r : Rq) : ∀ u ∈ encR r, u.oneCell' = true := by
  intro u hu
  simp only [encR, List.mem_cons, List.not_mem_nil, or_false] at hu
  rcases hu with rfl | rfl | rfl | rfl | rfl | rfl | rfl | rfl | rfl | rfl <;> rfl
set_option maxHeartbeats 1000000 in
set_option maxRecDepth 1000000 in
theorem ref_ask_ok_r (S : St) (F : Nat → Prop) (mb : Nat) (page : Int) (data : ByteArray) (w : World) (h : RefAt w F mb S) (hl : S.told.length ≤ 1000000) (hr : S.reqs.length ≤ 1000000) (hz0 : 0 ≤ S.last) (hz1 : S.last ≤ 1000000)
    (hp0 : ¬ page < 0) (hp1 : ¬ 16 ≤ page) (hf : ¬ 40 ≤ (S.reqs.length : Int) - S.told.length) :
    Calls Tryz.prog 64 #[.pointer (some ⟨mb, 0, none⟩), .bool false, .int .i64 page, .string data] w fun e w' => e = .returned (.tuple #[.int .i64 (S.last + 1), .int .i64 0]) ∧ RefAt w' (Foot F w w') mb (askOk S false page data) ∧ Kept F w w' := by
  obtain ⟨G, ar, cr, at_, ct, af, cf, ad, cd, h⟩ := h
  obtain ⟨i0, hi, hi0, hi1, hi2⟩ := info_parts info_req
  have c1 := h.c1
  have c2 := h.c2
  have c6 := h.c6
  have f1 := h.fz 1
  have f6 := h.fz 6
  have H : Hid (RefBlk w F G mb S ar cr at_ ct af cf ad cd) := h
  clear h
  generalize hT : S.told.length = nt at *
  generalize hR : S.reqs.length = nr at *
  generalize hL : S.last = la at *
  have hR' : Hid (S.reqs.length = nr) := hR
  have hL' : Hid (S.last = la) := hL
  clear hT hR hL
  go_enter Tryz.func64, Tryz.ntmps64
  go_wp2
  go_quiet (fail)
  go_wp2
  have H1 : Hid (RefBlk ((w.drewN nq).setCell ⟨mb, 6, none⟩ (.int .i64 (la + 1))) F G mb { S with last := la + 1 } ar cr at_ ct af cf ad cd) :=
    RefBlk.setLast (H.out.same (w' := w.drewN nq) (fun _ _ _ => rfl) (Nat.le_refl _)) _
  have HK : Hid (Kept F w ((w.drewN nq).setCell ⟨mb, 6, none⟩ (.int .i64 (la + 1)))) := (Kept.drewN (Kept.refl _ _) nq).setCell (Or.inl H.out.own) _
  have k1 : ((w.drewN nq).setCell ⟨mb, 6, none⟩ (.int .i64 (la + 1))).cell? ⟨mb, 1, none⟩ = some (.slice ar nr cr) := by rw [← hR'.out]; exact H1.out.c1
  have k6 : ((w.drewN nq).setCell ⟨mb, 6, none⟩ (.int .i64 (la + 1))).cell? ⟨mb, 6, none⟩ = some (.int .i64 (la + 1)) := H1.out.c6
  have g1 := H1.out.fz 1
  have hlt1 := H1.out.lt
  clear c1 c2 c6 f1 f6
  generalize (w.drewN nq).setCell ⟨mb, 6, none⟩ (.int .i64 (la + 1)) = w1 at H1 HK k1 k6 g1 hlt1 ⊢
  have HO : Hid (((w1.alloc (.cells (encR ⟨la + 1, false, page, data, 0, 0, 0, false, false, ⟨#[]⟩⟩).toArray 175)).drew).ownsRow 0 175 10 (.slice ar nr cr) nr (S.reqs.flatMap encR)) := by
    have := (H1.out.reqs.alloc (.cells (encR ⟨la + 1, false, page, data, 0, 0, 0, false, false, ⟨#[]⟩⟩).toArray 175)).1
    rw [← hR'.out]
    exact this
  have HN : Hid (∀ (j : Nat) (u : Value), (encR ⟨la + 1, false, page, data, 0, 0, 0, false, false, ⟨#[]⟩⟩)[j]? = some u → ((w1.alloc (.cells (encR ⟨la + 1, false, page, data, 0, 0, 0, false, false, ⟨#[]⟩⟩).toArray 175)).drew).cell? ((⟨w1.heap.size, 0, none⟩ : Addr).add j) = some u) := fun j u => news_new j u
  go_region_law (refine step_append_lies _ rfl (.tmp 45) (.tmp 54) 102 rfl 0 175 i0 (.agg (encR Rq.zero).toArray) 10 88 Tryz.underlying102 hi hi0 hi1 hi2 rfl (by decide) (.slice ar nr cr) nr (S.reqs.flatMap encR) (by simp [Act.eval]) HO.out ⟨w1.heap.size, 0, none⟩ 1 1 (encR ⟨la + 1, false, page, data, 0, 0, 0, false, false, ⟨#[]⟩⟩) (by simp [Act.eval]) rfl HN.out (encR_one _) (by decide) (by unfold maxLen; omega) (by omega) (Nat.zero_le _) (w1.heap.size + 1) (by simp) ?_; intro g cap w2 hown hgrow hat hlt)
  all_goals
    have hn1 : nr + 1 = (S.reqs ++ [(⟨la + 1, false, page, data, 0, 0, 0, false, false, ⟨#[]⟩⟩ : Rq)]).length := by rw [List.length_append, hR'.out]; rfl
    have hfl : S.reqs.flatMap encR ++ encR ⟨la + 1, false, page, data, 0, 0, 0, false, false, ⟨#[]⟩⟩ = (S.reqs ++ [(⟨la + 1, false, page, data, 0, 0, 0, false, false, ⟨#[]⟩⟩ : Rq)]).flatMap encR := by simp [List.flatMap_append]
    rw [hfl] at hown
    have HX := RefBlk.appended (w0 := w) H1.out H.out.ltF HK.out (by rw [← hR'.out] at hgrow; exact hgrow) hown hn1 (by rw [← hR'.out] at hat; exact hat) hlt
    have m1 : w2.cell? ⟨mb, 1, none⟩ = some (.slice ar nr cr) := (World.cell?_of_block HX.2.2).trans k1
    have m6 : w2.cell? ⟨mb, 6, none⟩ = some (.int .i64 (la + 1)) := (World.cell?_of_block HX.2.2).trans k6
    have n1 : w2.frozen? ⟨mb, 1, none⟩ = false := (World.frozen?_of_block HX.2.2).trans g1
    have HY : Hid (RefAt (w2.setCell ⟨mb, 1, none⟩ (.slice (some ⟨g, 0, none⟩) (nr + 1) cap)) (Foot F w (w2.setCell ⟨mb, 1, none⟩ (.slice (some ⟨g, 0, none⟩) (nr + 1) cap))) mb (askOk S false page data) ∧ Kept F w (w2.setCell ⟨mb, 1, none⟩ (.slice (some ⟨g, 0, none⟩) (nr + 1) cap))) := by
      refine ⟨⟨G, some ⟨g, 0, none⟩, cap, at_, ct, af, cf, ad, cd, ?_⟩, HX.2.1⟩
      unfold askOk
      rw [hL'.out]
      exact HX.1
    clear HX hown hgrow hat hlt hfl hn1 HO HN k1 k6 g1
    go_wp2
    go_ret2
    exact ⟨rfl, HY.out⟩

set_option maxHeartbeats 1000000 in
set_option maxRecDepth 1000000 in
theorem ref_ask_ok_w (S : St) (F : Nat → Prop) (mb : Nat) (page : Int) (data : ByteArray) (w : World) (h : RefAt w F mb S) (hl : S.told.length ≤ 1000000) (hr : S.reqs.length ≤ 1000000) (hz0 : 0 ≤ S.last) (hz1 : S.last ≤ 1000000)
    (hp0 : ¬ page < 0) (hp1 : ¬ 16 ≤ page) (hd : ((data.size : Int) != 4) = false) (hf : ¬ 40 ≤ (S.reqs.length : Int) - S.told.length) :
    Calls Tryz.prog 64 #[.pointer (some ⟨mb, 0, none⟩), .bool true, .int .i64 page, .string data] w fun e w' => e = .returned (.tuple #[.int .i64 (S.last + 1), .int .i64 0]) ∧ RefAt w' (Foot F w w') mb (askOk S true page data) ∧ Kept F w w' := by
  obtain ⟨G, ar, cr, at_, ct, af, cf, ad, cd, h⟩ := h
  obtain ⟨i0, hi, hi0, hi1, hi2⟩ := info_parts info_req
  have c1 := h.c1
  have c2 := h.c2
  have c6 := h.c6
  have f1 := h.fz 1
  have f6 := h.fz 6
  have H : Hid (RefBlk w F G mb S ar cr at_ ct af cf ad cd) := h
  clear h
  generalize hT : S.told.length = nt at *
  generalize hR : S.reqs.length = nr at *
  generalize hL : S.last = la at *
  have hR' : Hid (S.reqs.length = nr) := hR
  have hL' : Hid (S.last = la) := hL
  clear hT hR hL
  go_enter Tryz.func64, Tryz.ntmps64
  go_wp2
  go_quiet (fail)
  go_wp2
  have H1 : Hid (RefBlk ((w.drewN nq).setCell ⟨mb, 6, none⟩ (.int .i64 (la + 1))) F G mb { S with last := la + 1 } ar cr at_ ct af cf ad cd) :=
    RefBlk.setLast (H.out.same (w' := w.drewN nq) (fun _ _ _ => rfl) (Nat.le_refl _)) _
  have HK : Hid (Kept F w ((w.drewN nq).setCell ⟨mb, 6, none⟩ (.int .i64 (la + 1)))) := (Kept.drewN (Kept.refl _ _) nq).setCell (Or.inl H.out.own) _
  have k1 : ((w.drewN nq).setCell ⟨mb, 6, none⟩ (.int .i64 (la + 1))).cell? ⟨mb, 1, none⟩ = some (.slice ar nr cr) := by rw [← hR'.out]; exact H1.out.c1
  have k6 : ((w.drewN nq).setCell ⟨mb, 6, none⟩ (.int .i64 (la + 1))).cell? ⟨mb, 6, none⟩ = some (.int .i64 (la + 1)) := H1.out.c6
  have g1 := H1.out.fz 1
  have hlt1 := H1.out.lt
  clear c1 c2 c6 f1 f6
  generalize (w.drewN nq).setCell ⟨mb, 6, none⟩ (.int .i64 (la + 1)) = w1 at H1 HK k1 k6 g1 hlt1 ⊢
  have HO : Hid (((w1.alloc (.cells (encR ⟨la + 1, true, page, data, 0, 0, 0, false, false, ⟨#[]⟩⟩).toArray 175)).drew).ownsRow 0 175 10 (.slice ar nr cr) nr (S.reqs.flatMap encR)) := by
    have := (H1.out.reqs.alloc (.cells (encR ⟨la + 1, true, page, data, 0, 0, 0, false, false, ⟨#[]⟩⟩).toArray 175)).1
    rw [← hR'.out]
    exact this
  have HN : Hid (∀ (j : Nat) (u : Value), (encR ⟨la + 1, true, page, data, 0, 0, 0, false, false, ⟨#[]⟩⟩)[j]? = some u → ((w1.alloc (.cells (encR ⟨la + 1, true, page, data, 0, 0, 0, false, false, ⟨#[]⟩⟩).toArray 175)).drew).cell? ((⟨w1.heap.size, 0, none⟩ : Addr).add j) = some u) := fun j u => news_new j u
  go_region_law (refine step_append_lies _ rfl (.tmp 45) (.tmp 54) 102 rfl 0 175 i0 (.agg (encR Rq.zero).toArray) 10 88 Tryz.underlying102 hi hi0 hi1 hi2 rfl (by decide) (.slice ar nr cr) nr (S.reqs.flatMap encR) (by simp [Act.eval]) HO.out ⟨w1.heap.size, 0, none⟩ 1 1 (encR ⟨la + 1, true, page, data, 0, 0, 0, false, false, ⟨#[]⟩⟩) (by simp [Act.eval]) rfl HN.out (encR_one _) (by decide) (by unfold maxLen; omega) (by omega) (Nat.zero_le _) (w1.heap.size + 1) (by simp) ?_; intro g cap w2 hown hgrow hat hlt)
  all_goals
    have hn1 : nr + 1 = (S.reqs ++ [(⟨la + 1, true, page, data, 0, 0, 0, false, false, ⟨#[]⟩⟩ : Rq)]).length := by rw [List.length_append, hR'.out]; rfl
    have hfl : S.reqs.flatMap encR ++ encR ⟨la + 1, true, page, data, 0, 0, 0, false, false, ⟨#[]⟩⟩ = (S.reqs ++ [(⟨la + 1, true, page, data, 0, 0, 0, false, false, ⟨#[]⟩⟩ : Rq)]).flatMap encR := by simp [List.flatMap_append]
    rw [hfl] at hown
    have HX := RefBlk.appended (w0 := w) H1.out H.out.ltF HK.out (by rw [← hR'.out] at hgrow; exact hgrow) hown hn1 (by rw [← hR'.out] at hat; exact hat) hlt
    have m1 : w2.cell? ⟨mb, 1, none⟩ = some (.slice ar nr cr) := (World.cell?_of_block HX.2.2).trans k1
    have m6 : w2.cell? ⟨mb, 6, none⟩ = some (.int .i64 (la + 1)) := (World.cell?_of_block HX.2.2).trans k6
    have n1 : w2.frozen? ⟨mb, 1, none⟩ = false := (World.frozen?_of_block HX.2.2).trans g1
    have HY : Hid (RefAt (w2.setCell ⟨mb, 1, none⟩ (.slice (some ⟨g, 0, none⟩) (nr + 1) cap)) (Foot F w (w2.setCell ⟨mb, 1, none⟩ (.slice (some ⟨g, 0, none⟩) (nr + 1) cap))) mb (askOk S true page data) ∧ Kept F w (w2.setCell ⟨mb, 1, none⟩ (.slice (some ⟨g, 0, none⟩) (nr + 1) cap))) := by
      refine ⟨⟨G, some ⟨g, 0, none⟩, cap, at_, ct, af, cf, ad, cd, ?_⟩, HX.2.1⟩
      unfold askOk
      rw [hL'.out]
      exact HX.1
    clear HX hown hgrow hat hlt hfl hn1 HO HN k1 k6 g1
    go_wp2
    go_ret2
    exact ⟨rfl, HY.out⟩
end Go.Proofs.YtiabdbeejkadnaaGreatDoor
