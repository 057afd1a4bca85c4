/- The program's queue (stage 1's code): Cancel, Tick, Now; plain.Cancel. Own work of the verifier. -/
import Derived.Test.YtgepgklgemndeaaGreatDoorProgF
namespace Go.Proofs.YtgepgklgemndeaaGreatDoor
open Go.RowKit Go.Maps

/-- what Cancel's error tells -/
def cancelErr (S : St) (num : Int) : Int × Int × Int := if (cancelM S num).1 = 9 then (9, num, (cancelM S num).2.1) else ((cancelM S num).1, -1, 0)
theorem cancel_none {S : St} (h : Wf1 S) {num : Int} (hf : findR S.reqs num = none) : cancelM S num = (5, 0, S) := by
  unfold cancelM; rw [place1 h, hf]; rfl
theorem cancel_given {S : St} (h : Wf1 S) {num : Int} {k : Nat} (hk : k < S.reqs.length) (hf : findR S.reqs num = some k) (hs : (S.reqs[k]).state = 4) : cancelM S num = (9, 0, S) := by
  unfold cancelM
  rw [place1 h, hf]
  have e : (intOr (some k)).toNat = k := by simp [intOr]
  rw [if_neg (by simp [intOr]), e]
  dsimp only
  rw [getD_of hk, if_pos (by omega), (h.st _ (List.getElem_mem hk)).2.1]
theorem cancel_wait {S : St} (h : Wf1 S) {num : Int} {k : Nat} (hk : k < S.reqs.length) (hf : findR S.reqs num = some k) (hs : (S.reqs[k]).state = 0) : cancelM S num = (0, 0, { S with reqs := setState S.reqs k 4 }) := by
  unfold cancelM
  rw [place1 h, hf]
  have e : (intOr (some k)).toNat = k := by simp [intOr]
  rw [if_neg (by simp [intOr]), e]
  dsimp only
  rw [getD_of hk, if_neg (by omega)]

set_option maxHeartbeats 1000000 in
theorem prog_cancel (S : St) (F : Nat → Prop) (xb : Nat) (num : Int) (w : World) (h : ProgAt w F xb S) (hw : (Lit.int .i64 num).wf = true) :
    Calls Tryz.prog 59 #[.pointer (some ⟨xb, 0, none⟩), .int .i64 num] w fun e w' => (∃ ev, e = .returned ev ∧ ErrIs w' ev (cancelErr S num).1 (cancelErr S num).2.1 (cancelErr S num).2.2) ∧ ProgAt w' (Foot F w w') xb (cancelM S num).2.2 ∧ Kept F w w' := by
  have H0 := hide h
  obtain ⟨bm, D, eb, c, h⟩ := h
  have H := hide h
  have k3 := h.cell 3 _ h.c3
  have hlk := h.look (W := w) num hw rfl
  clear h hw
  cases hf : findR S.reqs num with
  | none =>
    rw [hf] at hlk
    simp only [Option.isSome_none] at hlk
    have HP : Hid (cancelM S num = (5, 0, S)) := cancel_none H.out.wf hf
    clear hf
    go_enter Tryz.func59, Tryz.ntmps59
    go_wp2_with fail
    refine (orEmpty_some _ _).mono ?_
    rintro e w1 ⟨rfl, rfl⟩
    go_wp2
    go_ret
    refine ⟨⟨_, rfl, ?_⟩, ?_, Kept.refl _ _⟩
    · unfold cancelErr; rw [HP.out]; exact Or.inl ⟨rfl, rfl, rfl⟩
    · rw [HP.out]; exact H0.out.grow (Below.refl _ _)
  | some k =>
    obtain ⟨hk, hn⟩ := findR_get hf
    rw [hf] at hlk
    simp only [Option.isSome_some] at hlk
    obtain ⟨d0, d1, d2, d3, he⟩ := H.out.ent _ (List.getElem_mem hk)
    have htr := (H.out.wf.st _ (List.getElem_mem hk)).2.1
    rw [hn, htr] at he
    have hel := lt_of_heap he
    have e0 : w.cell? ⟨eb num, 0, none⟩ = some (.int .i64 num) := by simp [World.cell?, he]
    have e7 : w.cell? ⟨eb num, 7, none⟩ = some (.int .i64 0) := by simp [World.cell?, he]
    have z8 : w.frozen? ⟨eb num, 8, none⟩ = false := by simp [World.frozen?, he]
    have HN : Hid ((S.reqs[k]).num = num) := hn
    rcases (H.out.wf.st _ (List.getElem_mem hk)).1 with hs | hs
    · have e8 : w.cell? ⟨eb num, 8, none⟩ = some (.int .i64 0) := by simp [World.cell?, he, hs]
      have HP : Hid (cancelM S num = (0, 0, { S with reqs := setState S.reqs k 4 })) := cancel_wait H.out.wf hk hf hs
      clear hf hs he htr hn
      go_enter Tryz.func59, Tryz.ntmps59
      go_wp2_with fail
      refine (orEmpty_some _ _).mono ?_
      rintro e w1 ⟨rfl, rfl⟩
      go_wp2_with fail
      refine (entry_pending0 (eb num) _ e8).mono ?_
      rintro e w2 ⟨rfl, rfl⟩
      go_wp2
      go_ret
      have hb := H.out.cancelled hk
      rw [HN.out] at hb
      have hE : F (eb num) := by have := H.out.entF _ (List.getElem_mem hk); rw [HN.out] at this; exact this
      refine ⟨⟨_, rfl, ?_⟩, ?_, (Kept.refl _ _).setCell (p := ⟨eb num, 8, none⟩) (Or.inl hE) _⟩
      · unfold cancelErr; rw [HP.out]; exact Or.inl ⟨rfl, rfl, rfl⟩
      · rw [HP.out]; exact ProgAt.wid (F := F) ⟨bm, D, eb, c, hb⟩ Foot.of (Foot.lt H.out.ltF (by simp [World.setCell]))
    · have e8 : w.cell? ⟨eb num, 8, none⟩ = some (.int .i64 4) := by simp [World.cell?, he, hs]
      have HP : Hid (cancelM S num = (9, 0, S)) := cancel_given H.out.wf hk hf hs
      clear hf hs he htr hn
      go_enter Tryz.func59, Tryz.ntmps59
      go_wp2_with fail
      refine (orEmpty_some _ _).mono ?_
      rintro e w1 ⟨rfl, rfl⟩
      go_wp2_with fail
      refine (entry_pending4 (eb num) _ e8).mono ?_
      rintro e w2 ⟨rfl, rfl⟩
      go_wp2_with fail
      refine (entry_fault (eb num) num 0 9 _ e0 e7).mono ?_
      rintro e w1 ⟨rfl, hr, hb⟩
      have HR := hide hr
      have HB := hide hb
      clear hr hb hlk
      go_wp2
      go_ret
      refine ⟨⟨_, rfl, ?_⟩, ?_, Go.Proofs.YtgepgklgemndeaaGreatDoor.Below.kept HB.out F⟩
      · unfold cancelErr; rw [HP.out]; exact Or.inr ⟨_, rfl, HR.out⟩
      · rw [HP.out]; exact H0.out.grow HB.out

theorem prog_tick (S : St) (F : Nat → Prop) (xb : Nat) (w : World) (h : ProgAt w F xb S) (hn : 0 ≤ S.now ∧ S.now ≤ 1000000) :
    Calls Tryz.prog 13 #[.pointer (some ⟨xb, 0, none⟩)] w fun e w' => e = .returned (.tuple #[]) ∧ ProgAt w' (Foot F w w') xb { S with now := S.now + 1 } ∧ Kept F w w' := by
  obtain ⟨hn0, hn1⟩ := hn
  obtain ⟨bm, D, eb, c, h⟩ := h
  have H := hide h
  have k1 := h.cell 1 _ h.c1
  have g1 := h.fz 1
  clear h
  go_enter Tryz.func13, Tryz.ntmps13
  go_wp2_with fail
  refine (orEmpty_some _ _).mono ?_
  rintro e w1 ⟨rfl, rfl⟩
  go_wp2
  go_end0
  have hsz := H.out.size
  have hmx : bm ≠ xb := fun e => by obtain ⟨es, ck, hb, _⟩ := H.out.map; rw [e, H.out.blk] at hb; cases hb
  refine ⟨rfl, ProgAt.wid (F := F) ⟨bm, D, eb, c.setIfInBounds 1 (.int .i64 (S.now + 1)), ?_⟩ Foot.of (Foot.lt H.out.ltF (by simp [World.setCell])), (Kept.refl _ _).setCell (p := ⟨xb, 1, none⟩) (Or.inl H.out.own) _⟩
  refine ⟨H.out.own, heap_setCell_at H.out.blk _, by simpa using hsz, ?_, ?_, ?_, ?_, ?_, H.out.ownM, H.out.map.setCell hmx _, H.out.msize, H.out.has, H.out.at_, H.out.entF, ?_, H.out.inj, fun k hk => by have := H.out.ltF k hk; simpa [World.setCell] using this, ?_⟩
  · rw [Array.getElem?_setIfInBounds, if_neg (by decide)]; exact H.out.c0
  · rw [Array.getElem?_setIfInBounds, if_pos rfl, if_pos (by omega)]
  · rw [Array.getElem?_setIfInBounds, if_neg (by decide)]; exact H.out.c2
  · rw [Array.getElem?_setIfInBounds, if_neg (by decide)]; exact H.out.c3
  · intro j hj
    rw [Array.getElem?_setIfInBounds, if_neg (by omega)]; exact H.out.cd j hj
  · intro r hr
    obtain ⟨d0, d1, d2, d3, hh⟩ := H.out.ent r hr
    exact ⟨d0, d1, d2, d3, (Below.heap_setCell _ _ _ _ (fun e => by have e' : eb r.num = xb := e; rw [e', H.out.blk] at hh; simp at hh)).trans hh⟩
  · exact ⟨H.out.wf.depth, H.out.wf.told, H.out.wf.flights, H.out.wf.disk, H.out.wf.len, H.out.wf.last, H.out.wf.st, H.out.wf.num, H.out.wf.sorted⟩
theorem prog_now (S : St) (F : Nat → Prop) (xb : Nat) (w : World) (h : ProgAt w F xb S) :
    Calls Tryz.prog 43 #[.pointer (some ⟨xb, 0, none⟩)] w fun e w' => e = .returned (.int .i64 S.now) ∧ w' = w := by
  obtain ⟨bm, D, eb, c, h⟩ := h
  have k1 := h.cell 1 _ h.c1
  clear h
  go_enter Tryz.func43, Tryz.ntmps43
  go_wp2_with fail
  refine (orEmpty_some _ _).mono ?_
  rintro e w1 ⟨rfl, rfl⟩
  go_wp2
  go_ret
  exact ⟨rfl, rfl⟩

set_option maxHeartbeats 1000000 in
theorem plain_cancel (S : St) (F : Nat → Prop) (xb : Nat) (num : Int) (w : World) (h : ProgAt w F xb S) (hg : GCell w) (h0 : ¬ F 0) (hw : (Lit.int .i64 num).wf = true) :
    Calls Tryz.prog 29 #[.pointer (some ⟨xb, 0, none⟩), .int .i64 num] w fun e w' => e = .returned (.agg #[.int .i64 (cancelErr S num).1, .int .i64 (cancelErr S num).2.1, .int .i64 (cancelErr S num).2.2, .bool true]) ∧ ProgAt w' (Foot F w w') xb (cancelM S num).2.2 ∧ Kept F w w' := by
  have H : Hid (ProgAt w F xb S) := h
  have hF := h.lt
  have hnF : ¬ F w.heap.size := fun e => by have := hF _ e; omega
  have HF : Hid (∀ k, F k → k < w.heap.size) := hF
  have HG : Hid (GCell w) := hg
  have HW := hide hw
  clear h hF hg hw
  generalize hA : cancelErr S num = r
  obtain ⟨k, n, t⟩ := r
  have HA : Hid (cancelErr S num = (k, n, t)) := hA
  clear hA
  generalize hS : (cancelM S num).2.2 = S'
  have HS : Hid ((cancelM S num).2.2 = S') := hS
  clear hS
  go_enter Tryz.func29, Tryz.ntmps29
  go_wp2_with fail
  refine (prog_cancel S F xb num _ (H.out.same (fun k _ hk => Below.heap_alloc w _ k hk) (by simp)) HW.out).mono ?_
  rintro e w1 ⟨⟨ev, rfl, hE⟩, hP, hK⟩
  rw [HA.out] at hE
  rw [HS.out] at hP
  have HP : Hid (ProgAt w1 (Foot F (w.alloc (.cells #[.int .i64 0, .int .i64 0, .int .i64 0, .bool false] 51)) w1) xb S') := hP
  have HK : Hid (Kept F (w.alloc (.cells #[.int .i64 0, .int .i64 0, .int .i64 0, .bool false] 51)) w1) := hK
  have hg1 : GCell w1 := (HG.out.below (alloc_below _ _)).kept hK h0
  have hz1 : w.heap.size < w1.heap.size := by have := hK.size; simp at this; omega
  obtain ⟨⟨a0, a1, a2, a3⟩, b0, b1, b2, b3⟩ := err_cells hK hnF
  have HE := hide hE
  clear hP hK hE
  go_wp2_with fail
  refine (told_is HE.out hg1).mono ?_
  rintro e w2 ⟨rfl, hb⟩
  have a0' := (hb.cell (p := ⟨w.heap.size, 0, none⟩) hz1).trans a0
  have a1' := (hb.cell (p := ⟨w.heap.size, 1, none⟩) hz1).trans a1
  have a2' := (hb.cell (p := ⟨w.heap.size, 2, none⟩) hz1).trans a2
  have a3' := (hb.cell (p := ⟨w.heap.size, 3, none⟩) hz1).trans a3
  have b0' := (hb.frozen (p := ⟨w.heap.size, 0, none⟩) hz1).trans b0
  have b1' := (hb.frozen (p := ⟨w.heap.size, 1, none⟩) hz1).trans b1
  have b2' := (hb.frozen (p := ⟨w.heap.size, 2, none⟩) hz1).trans b2
  have b3' := (hb.frozen (p := ⟨w.heap.size, 3, none⟩) hz1).trans b3
  have HB := hide hb
  clear hb a0 a1 a2 a3 b0 b1 b2 b3
  go_wp2
  exact bodyPost_ret (v := .agg #[.int .i64 k, .int .i64 n, .int .i64 t, .bool true]) (by simp [results, Tryz.results29, go_sem, a0', a1', a2', a3']) rfl ⟨rfl, plain_fin _ _ _ _ HP.out HK.out HB.out HF.out⟩
end Go.Proofs.YtgepgklgemndeaaGreatDoor
