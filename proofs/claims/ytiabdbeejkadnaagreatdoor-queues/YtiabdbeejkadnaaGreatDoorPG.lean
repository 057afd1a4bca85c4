/- The program's queue (stage 2's code): Cancel, Tick, Now; plain.Cancel. Own work of the verifier. -/
import Derived.Test.YtiabdbeejkadnaaGreatDoorPF
namespace Go.Proofs.YtiabdbeejkadnaaGreatDoor
open Go.RowKit Go.Maps

/-- what Cancel's error tells -/
def cancelErr (S : St) (num : Int) : Int × Int × Int := if (cancelM S num).1 = 9 then (9, num, (cancelM S num).2.1) else ((cancelM S num).1, -1, 0)
theorem cancel_none {S : St} {num : Int} (hp : placeM S num = -1) : cancelM S num = (5, 0, S) := by
  unfold cancelM; rw [hp]; rfl
theorem cancel_at {S : St} {num : Int} {k : Nat} (hk : k < S.reqs.length) (hp : placeM S num = k) : cancelM S num = if 2 ≤ (S.reqs[k]).state then (9, (S.reqs[k]).tries, S) else (0, 0, { S with reqs := setState S.reqs k 4 }) := by
  unfold cancelM
  rw [hp, if_neg (by omega)]
  have e : ((k : Int)).toNat = k := by omega
  rw [e]
  dsimp only
  rw [getD_of hk]

set_option maxHeartbeats 1000000 in
theorem prog_cancel (S : St) (F : Nat → Prop) (xb : Nat) (num : Int) (w : World) (h : ProgAt w F xb S) (hw : (Lit.int .i64 num).wf = true) :
    Calls Tryz.prog 93 #[.pointer (some ⟨xb, 0, none⟩), .int .i64 num] w fun e w' => (∃ ev, e = .returned ev ∧ ErrIs w' ev (cancelErr S num).1 (cancelErr S num).2.1 (cancelErr S num).2.2) ∧ ProgAt w' (Foot F w w') xb (cancelM S num).2.2 ∧ Kept F w w' := by
  have H0 := hide h
  obtain ⟨bm, D, eb, c, af, cf, vs, h⟩ := h
  have H := hide h
  have k3 := h.cell 3 _ h.q.c3
  have hlk := h.look (W := w) num hw rfl
  clear h hw
  rcases held_cases S num with ⟨h1, h2⟩ | ⟨h1, k, hk, h2, h3, _⟩
  · rw [h1] at hlk
    have HP := hide (cancel_none h2)
    clear h1 h2
    go_enter Tryz.func93, Tryz.ntmps93
    go_wp2_with fail
    refine (orEmpty_some _ _).mono ?_
    rintro e w1 ⟨rfl, rfl⟩
    go_wp2
    go_ret
    refine ⟨⟨_, rfl, ?_⟩, ?_, Kept.refl _ _⟩
    · unfold cancelErr; rw [HP.out]; exact Or.inl ⟨rfl, rfl, rfl⟩
    · rw [HP.out]; exact H0.out.grow (Below.refl _ _)
  · rw [h1] at hlk
    simp only [if_true] at hlk
    obtain ⟨ds, hds, he⟩ := H.out.e.ent _ (List.getElem_mem hk)
    have HDS := hide hds
    have hE : F (eb num) := by rw [← h3]; exact H.out.e.entF _ (List.getElem_mem hk)
    have HN := hide h3
    have HWf := hide H.out.wf
    rw [h3] at he
    have e0 : w.cell? ⟨eb num, 0, none⟩ = some (.int .i64 num) := by simp [World.cell?, he, entC, h3]
    have e7 : w.cell? ⟨eb num, 7, none⟩ = some (.int .i64 (S.reqs[k]).tries) := by simp [World.cell?, he, entC]
    have e9 : w.cell? ⟨eb num, 9, none⟩ = some (.int .i64 (S.reqs[k]).state) := by simp [World.cell?, he, entC]
    have f9 : w.frozen? ⟨eb num, 9, none⟩ = false := by simp [World.frozen?, he]
    have HE := hide he
    clear h1 he h3 hds
    by_cases hs : 2 ≤ (S.reqs[k]).state
    · have HP : Hid (cancelM S num = (9, (S.reqs[k]).tries, S)) := by show _ = _; rw [cancel_at hk h2, if_pos hs]
      have HS := hide hs
      clear h2 hs
      generalize (S.reqs[k]).tries = tr at *
      go_enter Tryz.func93, Tryz.ntmps93
      go_wp2_with fail
      refine (orEmpty_some _ _).mono ?_
      rintro e w1 ⟨rfl, rfl⟩
      go_wp2_with fail
      refine (entry_not_pending (eb num) _ _ e9 HS.out).mono ?_
      rintro e w2 ⟨rfl, rfl⟩
      go_wp2_with fail
      refine (entry_fault (eb num) num tr 9 _ e0 e7).mono ?_
      rintro e w1 ⟨rfl, hr, hb⟩
      have HR := hide hr
      have HB := hide hb
      clear hr hb hlk
      go_wp2
      go_ret
      refine ⟨⟨_, rfl, ?_⟩, ?_, Go.Proofs.YtiabdbeejkadnaaGreatDoor.Below.kept HB.out F⟩
      · unfold cancelErr; rw [HP.out]; exact Or.inr ⟨_, rfl, HR.out⟩
      · rw [HP.out]; exact H0.out.grow HB.out
    · have HP : Hid (cancelM S num = (0, 0, { S with reqs := setState S.reqs k 4 })) := by show _ = _; rw [cancel_at hk h2, if_neg hs]
      have HS : Hid ((S.reqs[k]).state = 0 ∨ (S.reqs[k]).state = 1) := by have := (H.out.wf.rq _ (List.getElem_mem hk)).st; show _ ∨ _; omega
      clear h2 hs e0 e7
      go_enter Tryz.func93, Tryz.ntmps93
      go_wp2_with fail
      refine (orEmpty_some _ _).mono ?_
      rintro e w1 ⟨rfl, rfl⟩
      go_wp2_with fail
      refine (entry_pending (eb num) _ _ e9 HS.out).mono ?_
      rintro e w2 ⟨rfl, rfl⟩
      go_wp2
      go_ret
      have hb : ProgBlk (w2.setCell ⟨eb num, 9, none⟩ (.int .i64 4)) F xb { S with reqs := S.reqs.set k { (S.reqs[k]) with state := 4 } } [] bm D eb c af cf vs := by
        refine H.out.setE hk (ds := ds) rfl ⟨HDS.out.1, HDS.out.2.1, fun _ e => by cases e⟩ ?_ (fun b _ hne => Below.heap_setCell _ _ _ _ (by rw [HN.out] at hne; exact hne)) (by simp [World.setCell]) ?_
        · rw [HN.out, heap_setCell_at HE.out]; rfl
        · have := HWf.out.cancel hk (by have := HS.out; omega)
          rw [setState_eq _ _ _ hk] at this
          exact this
      refine ⟨⟨_, rfl, ?_⟩, ?_, (Kept.refl _ _).setCell (p := ⟨eb num, 9, none⟩) (Or.inl hE) _⟩
      · unfold cancelErr; rw [HP.out]; exact Or.inl ⟨rfl, rfl, rfl⟩
      · rw [HP.out, setState_eq _ _ _ hk]; exact ProgE.wid (F := F) ⟨bm, D, eb, c, af, cf, vs, hb⟩ Foot.of (Foot.lt H.out.ltF (by simp [World.setCell]))

theorem prog_tick (S : St) (F : Nat → Prop) (xb : Nat) (w : World) (h : ProgAt w F xb S) (hn : 0 ≤ S.now ∧ S.now ≤ 1000000000) :
    Calls Tryz.prog 28 #[.pointer (some ⟨xb, 0, none⟩)] w fun e w' => e = .returned (.tuple #[]) ∧ ProgAt w' (Foot F w w') xb { S with now := S.now + 1 } ∧ Kept F w w' := by
  obtain ⟨hn0, hn1⟩ := hn
  obtain ⟨bm, D, eb, c, af, cf, vs, h⟩ := h
  have H := hide h
  have k1 := h.cell 1 _ h.q.c1
  have g1 := h.fz 1
  clear h
  go_enter Tryz.func28, Tryz.ntmps28
  go_wp2_with fail
  refine (orEmpty_some _ _).mono ?_
  rintro e w1 ⟨rfl, rfl⟩
  go_wp2
  go_end0
  have hsz := H.out.q.size
  have q := H.out.q
  refine ⟨rfl, ProgE.wid (F := F) ⟨bm, D, eb, c.setIfInBounds 1 (.int .i64 (S.now + 1)), af, cf, vs, ?_⟩ Foot.of (Foot.lt H.out.ltF (by simp [World.setCell])), (Kept.refl _ _).setCell (p := ⟨xb, 1, none⟩) (Or.inl H.out.own) _⟩
  refine H.out.setQ (heap_setCell_at H.out.blk _) (fun k _ hne => Below.heap_setCell _ _ _ _ hne) (by simp [World.setCell]) ⟨by simpa using hsz, ?_, ?_, ?_, ?_, ?_, ?_, ?_⟩ H.out.wf.tick rfl rfl rfl rfl
  · rw [Array.getElem?_setIfInBounds, if_neg (by decide)]; exact q.c0
  · rw [Array.getElem?_setIfInBounds, if_pos rfl, if_pos (by omega)]
  · rw [Array.getElem?_setIfInBounds, if_neg (by decide)]; exact q.c2
  · rw [Array.getElem?_setIfInBounds, if_neg (by decide)]; exact q.c3
  · rw [Array.getElem?_setIfInBounds, if_neg (by decide)]; exact q.c4
  · rw [Array.getElem?_setIfInBounds, if_neg (by decide)]; exact q.c5
  · intro j hj
    rw [Array.getElem?_setIfInBounds, if_neg (by omega)]; exact q.cd j hj
theorem prog_now (S : St) (F : Nat → Prop) (xb : Nat) (w : World) (h : ProgAt w F xb S) :
    Calls Tryz.prog 76 #[.pointer (some ⟨xb, 0, none⟩)] w fun e w' => e = .returned (.int .i64 S.now) ∧ w' = w := by
  obtain ⟨bm, D, eb, c, af, cf, vs, h⟩ := h
  have k1 := h.cell 1 _ h.q.c1
  clear h
  go_enter Tryz.func76, Tryz.ntmps76
  go_wp2_with fail
  refine (orEmpty_some _ _).mono ?_
  rintro e w1 ⟨rfl, rfl⟩
  go_wp2
  go_ret
  exact ⟨rfl, rfl⟩

set_option maxHeartbeats 1000000 in
theorem plain_cancel (S : St) (F : Nat → Prop) (xb : Nat) (num : Int) (w : World) (h : ProgAt w F xb S) (hg : GCell w) (h0 : ¬ F 0) (hw : (Lit.int .i64 num).wf = true) :
    Calls Tryz.prog 57 #[.pointer (some ⟨xb, 0, none⟩), .int .i64 num] w fun e w' => e = .returned (.agg #[.int .i64 (cancelErr S num).1, .int .i64 (cancelErr S num).2.1, .int .i64 (cancelErr S num).2.2, .bool true]) ∧ ProgAt w' (Foot F w w') xb (cancelM S num).2.2 ∧ Kept F w w' := by
  have H : Hid (ProgAt w F xb S) := h
  have hF := h.lt
  have hnF : ¬ F w.heap.size := fun e => by have := hF _ e; omega
  have HF : Hid (∀ k, F k → k < w.heap.size) := hF
  have HG : Hid (GCell w) := hg
  have HW := hide hw
  clear h hF hg hw
  generalize hA : cancelErr S num = r
  obtain ⟨k, n, t⟩ := r
  have HA : Hid (cancelErr S num = (k, n, t)) := hA
  clear hA
  generalize hS : (cancelM S num).2.2 = S'
  have HS : Hid ((cancelM S num).2.2 = S') := hS
  clear hS
  go_enter Tryz.func57, Tryz.ntmps57
  go_wp2_with fail
  refine (prog_cancel S F xb num _ (H.out.same (fun k _ hk => Below.heap_alloc w _ k hk) (by simp)) HW.out).mono ?_
  rintro e w1 ⟨⟨ev, rfl, hE⟩, hP, hK⟩
  rw [HA.out] at hE
  rw [HS.out] at hP
  have HP : Hid (ProgAt w1 (Foot F (w.alloc (.cells #[.int .i64 0, .int .i64 0, .int .i64 0, .bool false] 57)) w1) xb S') := hP
  have HK : Hid (Kept F (w.alloc (.cells #[.int .i64 0, .int .i64 0, .int .i64 0, .bool false] 57)) w1) := hK
  have hg1 : GCell w1 := (HG.out.below (alloc_below _ _)).kept hK h0
  have hz1 : w.heap.size < w1.heap.size := by have := hK.size; simp at this; omega
  obtain ⟨⟨a0, a1, a2, a3⟩, b0, b1, b2, b3⟩ := err_cells hK hnF
  have HE := hide hE
  clear hP hK hE
  go_wp2_with fail
  refine (told_is HE.out hg1).mono ?_
  rintro e w2 ⟨rfl, hb⟩
  have a0' := (hb.cell (p := ⟨w.heap.size, 0, none⟩) hz1).trans a0
  have a1' := (hb.cell (p := ⟨w.heap.size, 1, none⟩) hz1).trans a1
  have a2' := (hb.cell (p := ⟨w.heap.size, 2, none⟩) hz1).trans a2
  have a3' := (hb.cell (p := ⟨w.heap.size, 3, none⟩) hz1).trans a3
  have b0' := (hb.frozen (p := ⟨w.heap.size, 0, none⟩) hz1).trans b0
  have b1' := (hb.frozen (p := ⟨w.heap.size, 1, none⟩) hz1).trans b1
  have b2' := (hb.frozen (p := ⟨w.heap.size, 2, none⟩) hz1).trans b2
  have b3' := (hb.frozen (p := ⟨w.heap.size, 3, none⟩) hz1).trans b3
  have HB := hide hb
  clear hb a0 a1 a2 a3 b0 b1 b2 b3
  go_wp2
  exact bodyPost_ret (v := .agg #[.int .i64 k, .int .i64 n, .int .i64 t, .bool true]) (by simp [results, Tryz.results57, go_sem, a0', a1', a2', a3']) rfl ⟨rfl, plain_fin _ _ _ _ HP.out HK.out HB.out HF.out⟩
end Go.Proofs.YtiabdbeejkadnaaGreatDoor
