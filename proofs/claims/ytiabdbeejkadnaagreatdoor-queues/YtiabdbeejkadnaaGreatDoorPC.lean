/- The program's queue (stage 2's code): Read; plain.Read. Own work of the verifier. -/
import Derived.Test.YtiabdbeejkadnaaGreatDoorPB
namespace Go.Proofs.YtiabdbeejkadnaaGreatDoor
open Go.RowKit Go.Maps

/-- the error that a kind is: none for 0 -/
def errOf (k : Int) : Value := if k = 0 then .nilIface else .iface 55 (.int .i64 k)
theorem errOf_zero : errOf 0 = .nilIface := rfl
theorem errOf_kind {k : Int} (h : k ≠ 0) : errOf k = .iface 55 (.int .i64 k) := by simp [errOf, h]
abbrev GCell (w : World) : Prop := w.cell? ⟨0, 0, none⟩ = some (.iface 212 (.agg #[.pointer (some ⟨1, 109, none⟩)]))
theorem GCell.below {w w' : World} (h : GCell w) (hb : Below w.heap.size w w') : GCell w' := (hb.cell (p := ⟨0, 0, none⟩) (lt_of_cell h)).trans h
theorem GCell.kept {F : Nat → Prop} {w w' : World} (h : GCell w) (hk : Kept F w w') (h0 : ¬ F 0) : GCell w' := (hk.cell (p := ⟨0, 0, none⟩) (lt_of_cell h) h0).trans h
theorem told_err (k : Int) (w : World) (hg : GCell w) : Calls Tryz.prog 51 #[errOf k] w fun e w' => e = .returned (.agg #[.int .i64 k, .int .i64 (-1), .int .i64 0, .bool true]) ∧ Below w.heap.size w w' := by
  by_cases h : k = 0
  · subst h; rw [errOf_zero]; exact told_nil w
  · rw [errOf_kind h]; exact told_kind k w hg

theorem askM_ok {S : St} {write : Bool} {page : Int} {data : ByteArray} (hp : ¬ (page < 0 ∨ 16 ≤ page)) (hd : ¬ (write = true ∧ data.size ≠ 4)) (hf : ¬ 40 ≤ (S.reqs.length : Int) - S.told.length) : askM S write page data = (S.last + 1, 0, askOk S write page data) := by
  unfold askM; rw [if_neg hp, if_neg hd, if_neg hf]

theorem prog_read (S : St) (F : Nat → Prop) (xb : Nat) (page : Int) (w : World) (h : ProgAt w F xb S) (hl : S.last ≤ 1000000) :
    Calls Tryz.prog 87 #[.pointer (some ⟨xb, 0, none⟩), .int .i64 page] w fun e w' => e = .returned (.tuple #[.int .i64 (askM S false page ⟨#[]⟩).1, errOf (askM S false page ⟨#[]⟩).2.1]) ∧ ProgAt w' (Foot F w w') xb (askM S false page ⟨#[]⟩).2.2 ∧ Kept F w w' := by
  have H : Hid (ProgAt w F xb S) := h
  have HWf : Hid (Wf S) := h.wf
  clear h
  by_cases hp : page < 0 ∨ 16 ≤ page
  · have e : askM S false page ⟨#[]⟩ = (0, 2, S) := by unfold askM; rw [if_pos hp]
    rw [e]
    go_enter Tryz.func87, Tryz.ntmps87
    go_wp2_with fail
    refine (onDisk_no page _ hp).mono ?_
    rintro e w1 ⟨rfl, rfl⟩
    go_wp2
    go_ret2
    exact ⟨rfl, H.out.grow (Below.refl _ _), Kept.refl _ _⟩
  · by_cases hf : 40 ≤ (S.reqs.length : Int) - S.told.length
    · have e : askM S false page ⟨#[]⟩ = (0, 4, S) := by unfold askM; rw [if_neg hp, if_neg (by simp), if_pos hf]
      rw [e]
      go_enter Tryz.func87, Tryz.ntmps87
      go_wp2_with fail
      refine (onDisk_yes page _ (fun e => hp (Or.inl e)) (fun e => hp (Or.inr e))).mono ?_
      rintro e w1 ⟨rfl, rfl⟩
      go_wp2_with fail
      refine (orEmpty_some _ _).mono ?_
      rintro e w2 ⟨rfl, rfl⟩
      go_wp2_with fail
      refine (prog_add_full S [] F xb false page (.int .u8 0) (.int .u8 0) (.int .u8 0) (.int .u8 0) _ H.out hf).mono ?_
      rintro e w3 ⟨rfl, hR⟩
      have HR := hide hR
      clear hR
      go_wp2
      go_ret2
      exact ⟨rfl, HR.out⟩
    · have e : askM S false page ⟨#[]⟩ = (S.last + 1, 0, askOk S false page ⟨#[]⟩) := askM_ok hp (by simp) hf
      rw [e]
      go_enter Tryz.func87, Tryz.ntmps87
      go_wp2_with fail
      refine (onDisk_yes page _ (fun e => hp (Or.inl e)) (fun e => hp (Or.inr e))).mono ?_
      rintro e w1 ⟨rfl, rfl⟩
      go_wp2_with fail
      refine (orEmpty_some _ _).mono ?_
      rintro e w2 ⟨rfl, rfl⟩
      go_wp2_with fail
      refine (prog_add S [] F xb false page ⟨#[]⟩ [0, 0, 0, 0] _ H.out (by omega) hl ⟨rfl, (fun e => by cases e), fun _ e => (by cases e)⟩ (HWf.out.ask (by omega) false page _ (by omega) (fun e => by cases e)) (.int .u8 0) (.int .u8 0) (.int .u8 0) (.int .u8 0) rfl rfl rfl rfl).mono ?_
      rintro e w3 ⟨rfl, hR⟩
      have HR := hide hR
      clear hR
      go_wp2
      go_ret2
      exact ⟨rfl, HR.out⟩

/-- the four cells of a plain.Error that lie in a block of one's own -/
theorem err_cells {w w1 : World} {F : Nat → Prop} (hk : Kept F (w.alloc (.cells #[.int .i64 0, .int .i64 0, .int .i64 0, .bool false] 57)) w1) (h0 : ¬ F w.heap.size) :
    (w1.cell? ⟨w.heap.size, 0, none⟩ = some (.int .i64 0) ∧ w1.cell? ⟨w.heap.size, 1, none⟩ = some (.int .i64 0) ∧ w1.cell? ⟨w.heap.size, 2, none⟩ = some (.int .i64 0) ∧ w1.cell? ⟨w.heap.size, 3, none⟩ = some (.bool false)) ∧
    (w1.frozen? ⟨w.heap.size, 0, none⟩ = false ∧ w1.frozen? ⟨w.heap.size, 1, none⟩ = false ∧ w1.frozen? ⟨w.heap.size, 2, none⟩ = false ∧ w1.frozen? ⟨w.heap.size, 3, none⟩ = false) := by
  refine ⟨⟨?_, ?_, ?_, ?_⟩, ?_, ?_, ?_, ?_⟩
  · rw [hk.cell (p := ⟨w.heap.size, 0, none⟩) (by simp) h0]; simp
  · rw [hk.cell (p := ⟨w.heap.size, 1, none⟩) (by simp) h0]; simp
  · rw [hk.cell (p := ⟨w.heap.size, 2, none⟩) (by simp) h0]; simp
  · rw [hk.cell (p := ⟨w.heap.size, 3, none⟩) (by simp) h0]; simp
  · rw [hk.frozen (p := ⟨w.heap.size, 0, none⟩) (by simp) h0]; simp
  · rw [hk.frozen (p := ⟨w.heap.size, 1, none⟩) (by simp) h0]; simp
  · rw [hk.frozen (p := ⟨w.heap.size, 2, none⟩) (by simp) h0]; simp
  · rw [hk.frozen (p := ⟨w.heap.size, 3, none⟩) (by simp) h0]; simp
/-- the end of a wrapper: the answer's block is the wrapper's own -/
theorem plain_fin {w w1 w2 : World} {F : Nat → Prop} {xb : Nat} {S' : St} {o : Obj} (v0 v1 v2 v3 : Value) (HP : ProgAt w1 (Foot F (w.alloc o) w1) xb S') (HK : Kept F (w.alloc o) w1) (hb : Below w1.heap.size w1 w2) (hF : ∀ k, F k → k < w.heap.size) :
    ProgAt ((((w2.setCell ⟨w.heap.size, 0, none⟩ v0).setCell ⟨w.heap.size, 1, none⟩ v1).setCell ⟨w.heap.size, 2, none⟩ v2).setCell ⟨w.heap.size, 3, none⟩ v3) (Foot F w ((((w2.setCell ⟨w.heap.size, 0, none⟩ v0).setCell ⟨w.heap.size, 1, none⟩ v1).setCell ⟨w.heap.size, 2, none⟩ v2).setCell ⟨w.heap.size, 3, none⟩ v3)) xb S' ∧
    Kept F w ((((w2.setCell ⟨w.heap.size, 0, none⟩ v0).setCell ⟨w.heap.size, 1, none⟩ v1).setCell ⟨w.heap.size, 2, none⟩ v2).setCell ⟨w.heap.size, 3, none⟩ v3) := by
  have hz1 : w.heap.size + 1 ≤ w1.heap.size := by have := HK.size; simpa using this
  have hz2 := hb.size
  have hz4 : ((((w2.setCell ⟨w.heap.size, 0, none⟩ v0).setCell ⟨w.heap.size, 1, none⟩ v1).setCell ⟨w.heap.size, 2, none⟩ v2).setCell ⟨w.heap.size, 3, none⟩ v3).heap.size = w2.heap.size := by simp [World.setCell]
  refine ⟨(HP.same (fun k hk hlt => ?_) (by rw [hz4]; exact hz2)).wid (fun k hk => ?_) (Foot.lt hF (by rw [hz4]; omega)), ?_⟩
  · have hne : k ≠ w.heap.size := fun e => by
      rcases hk with hk | hk
      · have := hF k hk; omega
      · have := hk.1; simp at this; omega
    rw [Below.heap_setCell _ _ _ _ hne, Below.heap_setCell _ _ _ _ hne, Below.heap_setCell _ _ _ _ hne, Below.heap_setCell _ _ _ _ hne]
    exact hb.block k hlt
  · rcases hk with hk | hk
    · exact Or.inl hk
    · refine Or.inr ⟨?_, by rw [hz4]; omega⟩
      have := hk.1; simp at this; omega
  · exact (((((((Kept.refl F w).alloc o).then HK).below hb).setCell (p := ⟨w.heap.size, 0, none⟩) (Or.inr (Nat.le_refl _)) _).setCell (p := ⟨w.heap.size, 1, none⟩) (Or.inr (Nat.le_refl _)) _).setCell (p := ⟨w.heap.size, 2, none⟩) (Or.inr (Nat.le_refl _)) _).setCell (p := ⟨w.heap.size, 3, none⟩) (Or.inr (Nat.le_refl _)) _

set_option maxHeartbeats 1000000 in
theorem plain_read (S : St) (F : Nat → Prop) (xb : Nat) (page : Int) (w : World) (h : ProgAt w F xb S) (hg : GCell w) (h0 : ¬ F 0) (hl : S.last ≤ 1000000) :
    Calls Tryz.prog 53 #[.pointer (some ⟨xb, 0, none⟩), .int .i64 page] w fun e w' => e = .returned (.tuple #[.int .i64 (askM S false page ⟨#[]⟩).1, .agg #[.int .i64 (askM S false page ⟨#[]⟩).2.1, .int .i64 (-1), .int .i64 0, .bool true]]) ∧ ProgAt w' (Foot F w w') xb (askM S false page ⟨#[]⟩).2.2 ∧ Kept F w w' := by
  have H : Hid (ProgAt w F xb S) := h
  have hF := h.lt
  have hnF : ¬ F w.heap.size := fun e => by have := hF _ e; omega
  have HF : Hid (∀ k, F k → k < w.heap.size) := hF
  have HG : Hid (GCell w) := hg
  clear h hF hg
  generalize hA : askM S false page ⟨#[]⟩ = r
  obtain ⟨n, k, S'⟩ := r
  have HA : Hid (askM S false page ⟨#[]⟩ = (n, k, S')) := hA
  clear hA
  go_enter Tryz.func53, Tryz.ntmps53
  go_wp2_with fail
  refine (prog_read S F xb page _ (H.out.same (fun k _ hk => Below.heap_alloc w _ k hk) (by simp)) hl).mono ?_
  rintro e w1 ⟨rfl, hP, hK⟩
  rw [HA.out] at hP ⊢
  have HP : Hid (ProgAt w1 (Foot F (w.alloc (.cells #[.int .i64 0, .int .i64 0, .int .i64 0, .bool false] 57)) w1) xb S') := hP
  have HK : Hid (Kept F (w.alloc (.cells #[.int .i64 0, .int .i64 0, .int .i64 0, .bool false] 57)) w1) := hK
  have hg1 : GCell w1 := (HG.out.below (alloc_below _ _)).kept hK h0
  have hz1 : w.heap.size < w1.heap.size := by have := hK.size; simp at this; omega
  obtain ⟨⟨a0, a1, a2, a3⟩, b0, b1, b2, b3⟩ := err_cells hK hnF
  clear hP hK
  go_wp2_with fail
  refine (told_err k _ hg1).mono ?_
  rintro e w2 ⟨rfl, hb⟩
  have a0' := (hb.cell (p := ⟨w.heap.size, 0, none⟩) hz1).trans a0
  have a1' := (hb.cell (p := ⟨w.heap.size, 1, none⟩) hz1).trans a1
  have a2' := (hb.cell (p := ⟨w.heap.size, 2, none⟩) hz1).trans a2
  have a3' := (hb.cell (p := ⟨w.heap.size, 3, none⟩) hz1).trans a3
  have b0' := (hb.frozen (p := ⟨w.heap.size, 0, none⟩) hz1).trans b0
  have b1' := (hb.frozen (p := ⟨w.heap.size, 1, none⟩) hz1).trans b1
  have b2' := (hb.frozen (p := ⟨w.heap.size, 2, none⟩) hz1).trans b2
  have b3' := (hb.frozen (p := ⟨w.heap.size, 3, none⟩) hz1).trans b3
  have HB := hide hb
  clear hb a0 a1 a2 a3 b0 b1 b2 b3
  go_wp2
  exact bodyPost_ret (v := .tuple #[.int .i64 n, .agg #[.int .i64 k, .int .i64 (-1), .int .i64 0, .bool true]]) (by simp [results, Tryz.results53, go_sem, a0', a1', a2', a3']) rfl ⟨rfl, plain_fin _ _ _ _ HP.out HK.out HB.out HF.out⟩
end Go.Proofs.YtiabdbeejkadnaaGreatDoor
