/- The program's queue (stage 2's code): Write. Own work of the verifier. -/
import Derived.Test.YtiabdbeejkadnaaGreatDoorPC
import Derived.Deep.RegionWith
namespace Go.Proofs.YtiabdbeejkadnaaGreatDoor
open Go.RowKit Go.Maps

/-- a write's request with its bytes laid in -/
theorem copy_entry (w : World) (page : Int) (bb cap : Nat) (v0 v1 v2 v3 : Int) (q0 : w.cell? ⟨bb, 0, none⟩ = some (.int .u8 v0)) (q1 : w.cell? ⟨bb, 1, none⟩ = some (.int .u8 v1)) (q2 : w.cell? ⟨bb, 2, none⟩ = some (.int .u8 v2)) (q3 : w.cell? ⟨bb, 3, none⟩ = some (.int .u8 v3)) :
    ∃ w2, (Builtin.copy_ #[86, 86] 3 #[.slice (some ⟨w.heap.size, 3, none⟩) 4 4, .slice (some ⟨bb, 0, none⟩) 4 cap]).run Tryz.prog (w.alloc (.cells #[.int .i64 0, .int .i64 page, .bool true, .int .u8 0, .int .u8 0, .int .u8 0, .int .u8 0, .int .i64 0, .int .i64 0, .int .i64 0] 95)) = .ok (.int .i64 4) w2 ∧
      w2.heap[w.heap.size]? = some (.cells #[.int .i64 0, .int .i64 page, .bool true, .int .u8 v0, .int .u8 v1, .int .u8 v2, .int .u8 v3, .int .i64 0, .int .i64 0, .int .i64 0] 95 (0, 0)) ∧ Below w.heap.size w w2 ∧ w.heap.size < w2.heap.size := by
  have hbl := lt_of_cell q0
  have hr := run_copy_row (P := Tryz.prog) (w.alloc (.cells #[.int .i64 0, .int .i64 page, .bool true, .int .u8 0, .int .u8 0, .int .u8 0, .int .u8 0, .int .i64 0, .int .i64 0, .int .i64 0] 95)) 86 86 3 5 w.heap.size 3 4 4 ⟨bb, 0, none⟩ 4 cap
    #[.int .i64 0, .int .i64 page, .bool true, .int .u8 0, .int .u8 0, .int .u8 0, .int .u8 0, .int .i64 0, .int .i64 0, .int .i64 0] 95 [.int .u8 v0, .int .u8 v1, .int .u8 v2, .int .u8 v3] Tryz.underlying86 (by kernel_rfl) (heap_alloc_new w _) rfl (fun j v hj => ?_) (by simp) (fun v hv => ?_)
  · refine ⟨_, hr, ?_, ?_, ?_⟩
    · rw [setRow_heap _ _ _ _ _ _ (heap_alloc_new w _)]; rfl
    · refine ⟨rfl, rfl, rfl, by simp, fun k hk => ?_⟩
      rw [setRow_other _ _ _ _ (by omega)]
      exact Below.heap_alloc _ _ _ hk
    · simp
  · rw [Addr.add_lit, Nat.zero_add, World.cell?_alloc_lt _ _ ⟨bb, j, none⟩ hbl]
    match j, hj with
    | 0, hj => simp at hj; subst hj; exact q0
    | 1, hj => simp at hj; subst hj; exact q1
    | 2, hj => simp at hj; subst hj; exact q2
    | 3, hj => simp at hj; subst hj; exact q3
    | j + 4, hj => simp at hj
  · simp at hv
    rcases hv with rfl | rfl | rfl | rfl <;> rfl

theorem foot_mid {w w2 w' : World} {F : Nat → Prop} {xb : Nat} {S : St} (hb : Below w.heap.size w w2) (hF : ∀ k, F k → k < w.heap.size) (h : ProgAt w' (Foot F w2 w') xb S ∧ Kept F w2 w') : ProgAt w' (Foot F w w') xb S ∧ Kept F w w' :=
  ⟨h.1.wid (fun k hk => Foot.mid hb.size k hk) (Foot.lt hF (Nat.le_trans hb.size h.2.size)), (Go.Proofs.YtiabdbeejkadnaaGreatDoor.Below.kept hb F).then h.2⟩

set_option maxHeartbeats 1000000 in
set_option maxRecDepth 1000000 in
theorem prog_write_ok (S : St) (F : Nat → Prop) (xb bb cap : Nat) (page : Int) (data : ByteArray) (v0 v1 v2 v3 : Int) (w : World) (h : ProgAt w F xb S) (hl : S.last ≤ 1000000) (hp0 : ¬ page < 0) (hp1 : ¬ 16 ≤ page)
    (q0 : w.cell? ⟨bb, 0, none⟩ = some (.int .u8 v0)) (q1 : w.cell? ⟨bb, 1, none⟩ = some (.int .u8 v1)) (q2 : w.cell? ⟨bb, 2, none⟩ = some (.int .u8 v2)) (q3 : w.cell? ⟨bb, 3, none⟩ = some (.int .u8 v3)) (hf : ¬ 40 ≤ (S.reqs.length : Int) - S.told.length) (hd4 : data.size = 4) (e0 : .int .u8 v0 = u8 (data.data.toList.getD 0 0)) (e1 : .int .u8 v1 = u8 (data.data.toList.getD 1 0)) (e2 : .int .u8 v2 = u8 (data.data.toList.getD 2 0)) (e3 : .int .u8 v3 = u8 (data.data.toList.getD 3 0)) :
    Calls Tryz.prog 86 #[.pointer (some ⟨xb, 0, none⟩), .int .i64 page, .slice (some ⟨bb, 0, none⟩) 4 cap] w fun e w' => e = .returned (.tuple #[.int .i64 (S.last + 1), .nilIface]) ∧ ProgAt w' (Foot F w w') xb (askOk S true page data) ∧ Kept F w w' := by
  have H : Hid (ProgAt w F xb S) := h
  have HD : Hid (DataOk ⟨S.last + 1, true, page, data, 0, 0, 0, false, false, ⟨#[]⟩⟩ data.data.toList) := ⟨by rw [Array.length_toList]; exact hd4, fun _ => rfl, fun e => by cases e⟩
  have HW : Hid (Wf (askOk S true page data)) := h.wf.ask hf true page data (by omega) (fun _ => hd4)
  have E0 := hide e0
  have E1 := hide e1
  have E2 := hide e2
  have E3 := hide e3
  clear e0 e1 e2 e3
  have hbl := lt_of_cell q0
  clear h
  go_enter Tryz.func86, Tryz.ntmps86
  go_wp2_with fail
  refine (onDisk_yes page _ (by omega) (by omega)).mono ?_
  rintro e w1 ⟨rfl, rfl⟩
  obtain ⟨w2, hcp, he, hb, hz⟩ := copy_entry w1 page bb cap v0 v1 v2 v3 q0 q1 q2 q3
  have n0 : w2.cell? ⟨w1.heap.size, 0, none⟩ = some (.int .i64 0) := by simp [World.cell?, he]
  have n1 : w2.cell? ⟨w1.heap.size, 1, none⟩ = some (.int .i64 page) := by simp [World.cell?, he]
  have n2 : w2.cell? ⟨w1.heap.size, 2, none⟩ = some (.bool true) := by simp [World.cell?, he]
  have n3 : w2.cell? ⟨w1.heap.size, 3, none⟩ = some (.int .u8 v0) := by simp [World.cell?, he]
  have n4 : w2.cell? ⟨w1.heap.size, 4, none⟩ = some (.int .u8 v1) := by simp [World.cell?, he]
  have n5 : w2.cell? ⟨w1.heap.size, 5, none⟩ = some (.int .u8 v2) := by simp [World.cell?, he]
  have n6 : w2.cell? ⟨w1.heap.size, 6, none⟩ = some (.int .u8 v3) := by simp [World.cell?, he]
  have n7 : w2.cell? ⟨w1.heap.size, 7, none⟩ = some (.int .i64 0) := by simp [World.cell?, he]
  have n8 : w2.cell? ⟨w1.heap.size, 8, none⟩ = some (.int .i64 0) := by simp [World.cell?, he]
  have n9 : w2.cell? ⟨w1.heap.size, 9, none⟩ = some (.int .i64 0) := by simp [World.cell?, he]
  have HB := hide hb
  have H2 : Hid (ProgAt w2 F xb S) := H.out.same (fun k _ hk => hb.block k hk) hb.size
  have HL : Hid (∀ k, F k → k < w1.heap.size) := H.out.lt
  clear hb he
  go_wp2
  go_region_with (first
    | (go_at_call 30; refine (orEmpty_some _ _).mono ?_; rintro e w' ⟨rfl, rfl⟩)
    | (go_at_call 119; refine (prog_add S [] F xb true page data data.data.toList _ ?_ ?_ hl HD.out HW.out (.int .u8 v0) (.int .u8 v1) (.int .u8 v2) (.int .u8 v3) E0.out E1.out E2.out E3.out).mono ?_; exact H2.out.same (fun _ _ _ => rfl) (Nat.le_refl _); omega; rintro e w' ⟨rfl, hR⟩; have HR := hide hR; clear hR))
  all_goals (try go_wp2)
  all_goals go_ret2
  all_goals exact ⟨rfl, foot_mid HB.out.drew HL.out HR.out⟩

set_option maxHeartbeats 1000000 in
set_option maxRecDepth 1000000 in
theorem prog_write_full (S : St) (F : Nat → Prop) (xb bb cap : Nat) (page : Int) (v0 v1 v2 v3 : Int) (w : World) (h : ProgAt w F xb S) (hp0 : ¬ page < 0) (hp1 : ¬ 16 ≤ page)
    (q0 : w.cell? ⟨bb, 0, none⟩ = some (.int .u8 v0)) (q1 : w.cell? ⟨bb, 1, none⟩ = some (.int .u8 v1)) (q2 : w.cell? ⟨bb, 2, none⟩ = some (.int .u8 v2)) (q3 : w.cell? ⟨bb, 3, none⟩ = some (.int .u8 v3)) (hf : 40 ≤ (S.reqs.length : Int) - S.told.length) :
    Calls Tryz.prog 86 #[.pointer (some ⟨xb, 0, none⟩), .int .i64 page, .slice (some ⟨bb, 0, none⟩) 4 cap] w fun e w' => e = .returned (.tuple #[.int .i64 0, .iface 55 (.int .i64 4)]) ∧ ProgAt w' (Foot F w w') xb S ∧ Kept F w w' := by
  have H : Hid (ProgAt w F xb S) := h
  have hbl := lt_of_cell q0
  clear h
  go_enter Tryz.func86, Tryz.ntmps86
  go_wp2_with fail
  refine (onDisk_yes page _ (by omega) (by omega)).mono ?_
  rintro e w1 ⟨rfl, rfl⟩
  obtain ⟨w2, hcp, he, hb, hz⟩ := copy_entry w1 page bb cap v0 v1 v2 v3 q0 q1 q2 q3
  have n0 : w2.cell? ⟨w1.heap.size, 0, none⟩ = some (.int .i64 0) := by simp [World.cell?, he]
  have n1 : w2.cell? ⟨w1.heap.size, 1, none⟩ = some (.int .i64 page) := by simp [World.cell?, he]
  have n2 : w2.cell? ⟨w1.heap.size, 2, none⟩ = some (.bool true) := by simp [World.cell?, he]
  have n3 : w2.cell? ⟨w1.heap.size, 3, none⟩ = some (.int .u8 v0) := by simp [World.cell?, he]
  have n4 : w2.cell? ⟨w1.heap.size, 4, none⟩ = some (.int .u8 v1) := by simp [World.cell?, he]
  have n5 : w2.cell? ⟨w1.heap.size, 5, none⟩ = some (.int .u8 v2) := by simp [World.cell?, he]
  have n6 : w2.cell? ⟨w1.heap.size, 6, none⟩ = some (.int .u8 v3) := by simp [World.cell?, he]
  have n7 : w2.cell? ⟨w1.heap.size, 7, none⟩ = some (.int .i64 0) := by simp [World.cell?, he]
  have n8 : w2.cell? ⟨w1.heap.size, 8, none⟩ = some (.int .i64 0) := by simp [World.cell?, he]
  have n9 : w2.cell? ⟨w1.heap.size, 9, none⟩ = some (.int .i64 0) := by simp [World.cell?, he]
  have HB := hide hb
  have H2 : Hid (ProgAt w2 F xb S) := H.out.same (fun k _ hk => hb.block k hk) hb.size
  have HL : Hid (∀ k, F k → k < w1.heap.size) := H.out.lt
  clear hb he
  go_wp2
  go_region_with (first
    | (go_at_call 30; refine (orEmpty_some _ _).mono ?_; rintro e w' ⟨rfl, rfl⟩)
    | (go_at_call 119; refine (prog_add_full S [] F xb true page (.int .u8 v0) (.int .u8 v1) (.int .u8 v2) (.int .u8 v3) _ ?_ hf).mono ?_; exact H2.out.same (fun _ _ _ => rfl) (Nat.le_refl _); rintro e w' ⟨rfl, hR⟩; have HR := hide hR; clear hR))
  all_goals (try go_wp2)
  all_goals go_ret2
  all_goals exact ⟨rfl, foot_mid HB.out.drew HL.out HR.out⟩

/-- Write, whole: the data are the n bytes at the head of block bb -/
theorem prog_write (S : St) (F : Nat → Prop) (xb bb cap : Nat) (page : Int) (data : ByteArray) (w : World) (h : ProgAt w F xb S) (hl : S.last ≤ 1000000) (_hds : data.size ≤ 1000000)
    (hc : ∀ j, j < data.size → w.cell? ⟨bb, j, none⟩ = some (u8 (data.data.toList.getD j 0))) :
    Calls Tryz.prog 86 #[.pointer (some ⟨xb, 0, none⟩), .int .i64 page, .slice (some ⟨bb, 0, none⟩) data.size cap] w fun e w' => e = .returned (.tuple #[.int .i64 (askM S true page data).1, errOf (askM S true page data).2.1]) ∧ ProgAt w' (Foot F w w') xb (askM S true page data).2.2 ∧ Kept F w w' := by
  by_cases hp : page < 0 ∨ 16 ≤ page
  · have e : askM S true page data = (0, 2, S) := by unfold askM; rw [if_pos hp]
    rw [e]
    have H : Hid (ProgAt w F xb S) := h
    clear h hc e
    go_enter Tryz.func86, Tryz.ntmps86
    go_wp2_with fail
    refine (onDisk_no page _ hp).mono ?_
    rintro e w1 ⟨rfl, rfl⟩
    go_wp2
    go_ret2
    exact ⟨rfl, H.out.grow (Below.refl _ _), Kept.refl _ _⟩
  · have hp0 : ¬ page < 0 := fun e => hp (Or.inl e)
    have hp1 : ¬ 16 ≤ page := fun e => hp (Or.inr e)
    by_cases hd : data.size = 4
    · have q0 := hc 0 (by omega)
      have q1 := hc 1 (by omega)
      have q2 := hc 2 (by omega)
      have q3 := hc 3 (by omega)
      by_cases hf : 40 ≤ (S.reqs.length : Int) - S.told.length
      · have e : askM S true page data = (0, 4, S) := by unfold askM; rw [if_neg hp, if_neg (by simp [hd]), if_pos hf]
        rw [e, hd]
        exact prog_write_full S F xb bb cap page _ _ _ _ w h hp0 hp1 q0 q1 q2 q3 hf
      · have e : askM S true page data = (S.last + 1, 0, askOk S true page data) := askM_ok hp (by simp [hd]) hf
        rw [e, hd]
        exact prog_write_ok S F xb bb cap page data _ _ _ _ w h hl hp0 hp1 q0 q1 q2 q3 hf hd rfl rfl rfl rfl
    · have e : askM S true page data = (0, 3, S) := by unfold askM; rw [if_neg hp, if_pos ⟨rfl, hd⟩]
      rw [e]
      have H : Hid (ProgAt w F xb S) := h
      have hb : ((data.size : Int) != 4) = true := by rw [bne_iff_ne]; omega
      clear h hc e hd
      go_enter Tryz.func86, Tryz.ntmps86
      go_wp2_with fail
      refine (onDisk_yes page _ (by omega) (by omega)).mono ?_
      rintro e w1 ⟨rfl, rfl⟩
      go_wp2
      go_ret2
      exact ⟨rfl, H.out.grow (Below.refl _ _), Kept.refl _ _⟩

set_option maxHeartbeats 1000000 in
theorem plain_write (S : St) (F : Nat → Prop) (xb bb cap : Nat) (page : Int) (data : ByteArray) (w : World) (h : ProgAt w F xb S) (hc : ∀ j, j < data.size → w.cell? ⟨bb, j, none⟩ = some (u8 (data.data.toList.getD j 0))) (hbb : bb < w.heap.size) (hds : data.size ≤ 1000000) (hg : GCell w) (h0 : ¬ F 0) (hl : S.last ≤ 1000000) :
    Calls Tryz.prog 52 #[.pointer (some ⟨xb, 0, none⟩), .int .i64 page, .slice (some ⟨bb, 0, none⟩) data.size cap] w fun e w' => e = .returned (.tuple #[.int .i64 (askM S true page data).1, .agg #[.int .i64 (askM S true page data).2.1, .int .i64 (-1), .int .i64 0, .bool true]]) ∧ ProgAt w' (Foot F w w') xb (askM S true page data).2.2 ∧ Kept F w w' := by
  have H : Hid (ProgAt w F xb S) := h
  have hF := h.lt
  have hnF : ¬ F w.heap.size := fun e => by have := hF _ e; omega
  have HF : Hid (∀ k, F k → k < w.heap.size) := hF
  have HG : Hid (GCell w) := hg
  have HC : Hid (∀ j, j < data.size → w.cell? ⟨bb, j, none⟩ = some (u8 (data.data.toList.getD j 0))) := hc
  clear h hF hg hc
  generalize hA : askM S true page data = r
  obtain ⟨n, k, S'⟩ := r
  have HA : Hid (askM S true page data = (n, k, S')) := hA
  clear hA
  go_enter Tryz.func52, Tryz.ntmps52
  go_wp2_with fail
  refine (prog_write S F xb bb cap page data _ (H.out.same (fun k _ hk => Below.heap_alloc w _ k hk) (by simp)) hl hds (fun j hj => by rw [World.cell?_alloc_lt _ _ ⟨bb, j, none⟩ hbb]; exact HC.out j hj)).mono ?_
  rintro e w1 ⟨rfl, hP, hK⟩
  rw [HA.out] at hP ⊢
  have HP : Hid (ProgAt w1 (Foot F (w.alloc (.cells #[.int .i64 0, .int .i64 0, .int .i64 0, .bool false] 57)) w1) xb S') := hP
  have HK : Hid (Kept F (w.alloc (.cells #[.int .i64 0, .int .i64 0, .int .i64 0, .bool false] 57)) w1) := hK
  have hg1 : GCell w1 := (HG.out.below (alloc_below _ _)).kept hK h0
  have hz1 : w.heap.size < w1.heap.size := by have := hK.size; simp at this; omega
  obtain ⟨⟨a0, a1, a2, a3⟩, b0, b1, b2, b3⟩ := err_cells hK hnF
  clear hP hK
  go_wp2_with fail
  refine (told_err k _ hg1).mono ?_
  rintro e w2 ⟨rfl, hb⟩
  have a0' := (hb.cell (p := ⟨w.heap.size, 0, none⟩) hz1).trans a0
  have a1' := (hb.cell (p := ⟨w.heap.size, 1, none⟩) hz1).trans a1
  have a2' := (hb.cell (p := ⟨w.heap.size, 2, none⟩) hz1).trans a2
  have a3' := (hb.cell (p := ⟨w.heap.size, 3, none⟩) hz1).trans a3
  have b0' := (hb.frozen (p := ⟨w.heap.size, 0, none⟩) hz1).trans b0
  have b1' := (hb.frozen (p := ⟨w.heap.size, 1, none⟩) hz1).trans b1
  have b2' := (hb.frozen (p := ⟨w.heap.size, 2, none⟩) hz1).trans b2
  have b3' := (hb.frozen (p := ⟨w.heap.size, 3, none⟩) hz1).trans b3
  have HB := hide hb
  clear hb a0 a1 a2 a3 b0 b1 b2 b3
  go_wp2
  exact bodyPost_ret (v := .tuple #[.int .i64 n, .agg #[.int .i64 k, .int .i64 (-1), .int .i64 0, .bool true]]) (by simp [results, Tryz.results52, go_sem, a0', a1', a2', a3']) rfl ⟨rfl, plain_fin _ _ _ _ HP.out HK.out HB.out HF.out⟩
end Go.Proofs.YtiabdbeejkadnaaGreatDoor
