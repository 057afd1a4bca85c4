/- The program's queue (stage 1's code): Poll, Cancel. Own work of the verifier. -/
import Derived.Test.YtgepgklgemndeaaGreatDoorProgE
namespace Go.Proofs.YtgepgklgemndeaaGreatDoor
open Go.RowKit Go.Maps

/-- an error value that tells this kind, request and tries -/
def ErrIs (w : World) (ev : Value) (k r t : Int) : Prop := (r = -1 ∧ t = 0 ∧ ev = errOf k) ∨ ∃ g, ev = .iface 130 (.pointer (some ⟨g, 0, none⟩)) ∧ w.heap[g]? = some (.cells #[.int .i64 r, .int .i64 t, .int .i64 k] 134 (0, 0))
theorem told_is {w : World} {ev : Value} {k r t : Int} (h : ErrIs w ev k r t) (hg : GCell w) : Calls Tryz.prog 35 #[ev] w fun e w' => e = .returned (.agg #[.int .i64 k, .int .i64 r, .int .i64 t, .bool true]) ∧ Below w.heap.size w w' := by
  rcases h with ⟨rfl, rfl, rfl⟩ | ⟨g, rfl, hh⟩
  · exact told_err k w hg
  · exact told_req g 0 k r t w hg (by simp [World.cell?, hh]) (by simp [World.cell?, hh]) (by simp [World.cell?, hh])
theorem ErrIs.same {w w' : World} {ev : Value} {k r t : Int} (h : ErrIs w ev k r t) (hs : ∀ b, b < w.heap.size → w'.heap[b]? = w.heap[b]?) : ErrIs w' ev k r t := by
  rcases h with h | ⟨g, h1, h2⟩
  · exact Or.inl h
  · exact Or.inr ⟨g, h1, (hs g (lt_of_heap h2)).trans h2⟩

theorem place1 {S : St} (h : Wf1 S) (num : Int) : placeM S num = intOr (findR S.reqs num) := by
  unfold placeM
  rw [h.told]
  simp [toldHas]
theorem getD_of {S : St} {k : Nat} (hk : k < S.reqs.length) : S.reqs.getD k Rq.zero = S.reqs[k] := by simp [hk]

/-- what Poll's error tells, in stage 1 (no request is ever done) -/
def pollErr (S : St) (num : Int) : Int × Int × Int := if (pollM S num).2.2.1 = 5 then (5, -1, 0) else ((pollM S num).2.2.1, num, (pollM S num).2.1)
theorem poll_none {S : St} (h : Wf1 S) {num : Int} (hf : findR S.reqs num = none) : pollM S num = (⟨#[]⟩, 0, 5, S) := by
  unfold pollM; rw [place1 h, hf]; rfl
theorem poll_wait {S : St} (h : Wf1 S) {num : Int} {k : Nat} (hk : k < S.reqs.length) (hf : findR S.reqs num = some k) (hs : (S.reqs[k]).state = 0) : pollM S num = (⟨#[]⟩, 0, 6, S) := by
  unfold pollM
  rw [place1 h, hf]
  have e : (intOr (some k)).toNat = k := by simp [intOr]
  rw [if_neg (by simp [intOr]), e]
  dsimp only
  rw [getD_of hk, if_pos (Or.inl hs), (h.st _ (List.getElem_mem hk)).2.1]
theorem poll_given {S : St} (h : Wf1 S) {num : Int} {k : Nat} (hk : k < S.reqs.length) (hf : findR S.reqs num = some k) (hs : (S.reqs[k]).state = 4) : pollM S num = (⟨#[]⟩, 0, 8, { S with reqs := S.reqs.eraseIdx k }) := by
  unfold pollM
  rw [place1 h, hf]
  have e : (intOr (some k)).toNat = k := by simp [intOr]
  rw [if_neg (by simp [intOr]), e]
  dsimp only
  rw [getD_of hk, if_neg (by omega), if_neg (by omega), if_pos hs, (h.st _ (List.getElem_mem hk)).2.1]
  have ed : dropM S k = { S with reqs := S.reqs.eraseIdx k } := by unfold dropM; rw [getD_of hk, (h.st _ (List.getElem_mem hk)).2.2]; rfl
  rw [ed]
theorem findR_get {R : List Rq} {num : Int} {k : Nat} (h : findR R num = some k) : ∃ hk : k < R.length, (R[k]).num = num := by
  obtain ⟨hk, e⟩ := findR_lt h
  refine ⟨hk, ?_⟩
  simpa [hk] using e

set_option maxHeartbeats 1000000 in
set_option maxRecDepth 1000000 in
theorem prog_poll (S : St) (F : Nat → Prop) (xb : Nat) (num : Int) (w : World) (h : ProgAt w F xb S) (hw : (Lit.int .i64 num).wf = true) :
    Calls Tryz.prog 56 #[.pointer (some ⟨xb, 0, none⟩), .int .i64 num] w fun e w' => (∃ ev, e = .returned (.tuple #[.agg #[.slice none 0 0, .int .i64 0], ev]) ∧ ErrIs w' ev (pollErr S num).1 (pollErr S num).2.1 (pollErr S num).2.2) ∧ ProgAt w' (Foot F w w') xb (pollM S num).2.2.2 ∧ Kept F w w' := by
  have H0 := hide h
  obtain ⟨bm, D, eb, c, h⟩ := h
  have H := hide h
  have hlt := h.lt
  have hml : bm < w.heap.size := h.map.lt
  have k3 := h.cell 3 _ h.c3
  have hlk := h.look (W := w.alloc (.cells #[.slice none 0 0, .int .i64 0] 66)) num hw (Below.heap_alloc _ _ _ hml)
  clear h
  cases hf : findR S.reqs num with
  | none =>
    rw [hf] at hlk
    simp only [Option.isSome_none] at hlk
    have HP : Hid (pollM S num = (⟨#[]⟩, 0, 5, S)) := poll_none H.out.wf hf
    clear hf
    go_enter Tryz.func56, Tryz.ntmps56
    go_wp2_with fail
    refine (orEmpty_some _ _).mono ?_
    rintro e w1 ⟨rfl, rfl⟩
    go_wp2
    refine bodyPost_ret (v := .tuple #[.agg #[.slice none 0 0, .int .i64 0], .iface 49 (.int .i64 5)]) (by simp [results, Tryz.results56, go_sem]) rfl ⟨⟨_, rfl, ?_⟩, ?_, Kept.alloc (Kept.refl _ _) _⟩
    · unfold pollErr; rw [HP.out]; exact Or.inl ⟨rfl, rfl, rfl⟩
    · rw [HP.out]; exact H0.out.grow (alloc_below _ _)
  | some k =>
    obtain ⟨hk, hn⟩ := findR_get hf
    rw [hf] at hlk
    simp only [Option.isSome_some] at hlk
    obtain ⟨d0, d1, d2, d3, he⟩ := H.out.ent _ (List.getElem_mem hk)
    have htr := (H.out.wf.st _ (List.getElem_mem hk)).2.1
    rw [hn, htr] at he
    have hel := lt_of_heap he
    have e0 : w.cell? ⟨eb num, 0, none⟩ = some (.int .i64 num) := by simp [World.cell?, he]
    have e7 : w.cell? ⟨eb num, 7, none⟩ = some (.int .i64 0) := by simp [World.cell?, he]
    rcases (H.out.wf.st _ (List.getElem_mem hk)).1 with hs | hs
    · have e8 : w.cell? ⟨eb num, 8, none⟩ = some (.int .i64 0) := by simp [World.cell?, he, hs]
      have HP : Hid (pollM S num = (⟨#[]⟩, 0, 6, S)) := poll_wait H.out.wf hk hf hs
      clear hf hs he htr hn hk
      go_enter Tryz.func56, Tryz.ntmps56
      go_wp2_with fail
      refine (orEmpty_some _ _).mono ?_
      rintro e w1 ⟨rfl, rfl⟩
      go_wp2_with fail
      refine (entry_pending0 (eb num) _ (by rw [World.cell?_alloc_lt _ _ ⟨eb num, 8, none⟩ hel]; exact e8)).mono ?_
      rintro e w1 ⟨rfl, rfl⟩
      go_wp2_with fail
      refine (entry_fault (eb num) num 0 6 _ (by rw [World.cell?_alloc_lt _ _ ⟨eb num, 0, none⟩ hel]; exact e0) (by rw [World.cell?_alloc_lt _ _ ⟨eb num, 7, none⟩ hel]; exact e7)).mono ?_
      rintro e w1 ⟨rfl, hr, hb⟩
      have hz : w.heap.size < w1.heap.size := by have := hb.size; simp at this; omega
      have a0 := hb.cell (p := ⟨w.heap.size, 0, none⟩) (by simp)
      have a1 := hb.cell (p := ⟨w.heap.size, 1, none⟩) (by simp)
      have f0 := hb.frozen (p := ⟨w.heap.size, 0, none⟩) (by simp)
      have f1 := hb.frozen (p := ⟨w.heap.size, 1, none⟩) (by simp)
      simp at a0 a1 f0 f1 hr
      have HR := hide hr
      have HB := hide hb
      clear hr hb hlk
      go_wp2
      refine bodyPost_ret (v := .tuple #[.agg #[.slice none 0 0, .int .i64 0], .iface 130 (.pointer (some ⟨w.heap.size + 1, 0, none⟩))]) (by simp [results, Tryz.results56, go_sem, a0, a1]) rfl ⟨⟨_, rfl, ?_⟩, ?_, ?_⟩
      · unfold pollErr; rw [HP.out]
        refine Or.inr ⟨w.heap.size + 1, rfl, ?_⟩
        rw [Below.heap_setCell _ _ _ _ (by show w.heap.size + 1 ≠ w.heap.size; omega), Below.heap_setCell _ _ _ _ (by show w.heap.size + 1 ≠ w.heap.size; omega)]; exact HR.out
      · rw [HP.out]; exact H0.out.grow ((((alloc_below _ _).trans (HB.out.mono (by simp))).setCell (Nat.le_refl _) _).setCell (Nat.le_refl _) _)
      · exact (((Kept.alloc (Kept.refl _ _) _).below HB.out).setCell (p := ⟨w.heap.size, 0, none⟩) (Or.inr (Nat.le_refl _)) _).setCell (p := ⟨w.heap.size, 1, none⟩) (Or.inr (Nat.le_refl _)) _
    · have e8 : w.cell? ⟨eb num, 8, none⟩ = some (.int .i64 4) := by simp [World.cell?, he, hs]
      have HP : Hid (pollM S num = (⟨#[]⟩, 0, 8, { S with reqs := S.reqs.eraseIdx k })) := poll_given H.out.wf hk hf hs
      have hme : eb num ≠ bm := fun e => by obtain ⟨es, ck, hb, _⟩ := H.out.map; rw [e, hb] at he; cases he
      have HM : Hid ((w.alloc (.cells #[.slice none 0 0, .int .i64 0] 66)).ownsMap Tryz.prog 3 ptrR bm S.last.toNat D) := H.out.map.alloc _
      have hkey := keyOf_int_mk (P := Tryz.prog) Tryz.underlying3 hw
      have HN : Hid ((S.reqs[k]).num = num) := hn
      have HT : Hid ((Lit.int .i64 num).wf = true) := hw
      clear hf hs he htr hn hw
      have k3' : (w.alloc (.cells #[.slice none 0 0, .int .i64 0] 66)).cell? ⟨xb, 3, none⟩ = some (.map (some bm)) := by rw [World.cell?_alloc_lt _ _ ⟨xb, 3, none⟩ hlt]; exact k3
      go_enter Tryz.func56, Tryz.ntmps56
      go_wp2_with fail
      refine (orEmpty_some _ _).mono ?_
      rintro e w1 ⟨rfl, rfl⟩
      go_wp2_with fail
      refine (entry_pending4 (eb num) _ (by rw [World.cell?_alloc_lt _ _ ⟨eb num, 8, none⟩ hel]; exact e8)).mono ?_
      rintro e w1 ⟨rfl, rfl⟩
      go_wp2_with (first | (at_delete; go_must (refine wpList_delete_own _ rfl _ _ 76 3 rfl 122 keyLaw Tryz.underlying76 ptrR bm S.last.toNat D rfl HM.out _ (.int .i64 num) rfl hkey ?_; intro w1 hown1 hturn1)) | fail)
      have hg1 := hturn1.grown
      have hz1 : w.heap.size + 1 ≤ w1.heap.size := by have := hg1.size; simpa using this
      have hbk : ∀ j, j < w.heap.size + 1 → j ≠ bm → w1.heap[j]? = (w.alloc (.cells #[.slice none 0 0, .int .i64 0] 66)).heap[j]? := fun j hj hne => hg1.block j (by simpa using hj) (by simpa using hne)
      have hbe : w1.heap[eb num]? = w.heap[eb num]? := (hbk _ (by omega) hme).trans (Below.heap_alloc _ _ _ hel)
      have g0 := (World.cell?_of_block (a := ⟨eb num, 0, none⟩) hbe).trans e0
      have g7 := (World.cell?_of_block (a := ⟨eb num, 7, none⟩) hbe).trans e7
      have g8 := (World.cell?_of_block (a := ⟨eb num, 8, none⟩) hbe).trans e8
      have hba : w1.heap[w.heap.size]? = (w.alloc (.cells #[.slice none 0 0, .int .i64 0] 66)).heap[w.heap.size]? := hbk _ (by omega) (by omega)
      have HD : Hid (ProgBlk w1 F xb { S with reqs := S.reqs.eraseIdx k } bm (D.del (.int .i64 (S.reqs[k]).num)) eb c) := by
        refine H.out.deleted hk (by rw [HN.out]; exact hown1) (fun j hj hne => (hbk j (by omega) hne).trans (Below.heap_alloc _ _ _ hj)) (by omega)
      have HK1 : Hid (Kept F w w1) := (Kept.alloc (Kept.refl _ _) _).grown hg1 (fun j hj => by cases hj; exact Or.inl H.out.ownM)
      have p0 : w1.cell? ⟨w.heap.size, 0, none⟩ = some (.slice none 0 0) := by rw [World.cell?_of_block (a := ⟨w.heap.size, 0, none⟩) hba]; simp
      have p1 : w1.cell? ⟨w.heap.size, 1, none⟩ = some (.int .i64 0) := by rw [World.cell?_of_block (a := ⟨w.heap.size, 1, none⟩) hba]; simp
      have r0 : w1.frozen? ⟨w.heap.size, 0, none⟩ = false := by rw [World.frozen?_of_block (a := ⟨w.heap.size, 0, none⟩) hba]; simp
      have r1 : w1.frozen? ⟨w.heap.size, 1, none⟩ = false := by rw [World.frozen?_of_block (a := ⟨w.heap.size, 1, none⟩) hba]; simp
      clear hown1 hturn1 hg1 hbk hbe hba hlk e0 e7 e8 k3 k3'
      go_wp2_with fail
      refine (entry_outcome4 (eb num) num 0 _ g0 g7 g8).mono ?_
      rintro e w2 ⟨⟨g, rfl, hr, hgz⟩, hb⟩
      have q0 := (hb.cell (p := ⟨w.heap.size, 0, none⟩) (by show w.heap.size < _; omega)).trans p0
      have q1 := (hb.cell (p := ⟨w.heap.size, 1, none⟩) (by show w.heap.size < _; omega)).trans p1
      have s0 := (hb.frozen (p := ⟨w.heap.size, 0, none⟩) (by show w.heap.size < _; omega)).trans r0
      have s1 := (hb.frozen (p := ⟨w.heap.size, 1, none⟩) (by show w.heap.size < _; omega)).trans r1
      have HR := hide hr
      have HB := hide hb
      have hsz := hb.size
      clear hr hb p0 p1 r0 r1 g0 g7 g8
      go_wp2
      refine bodyPost_ret (v := .tuple #[.agg #[.slice none 0 0, .int .i64 0], .iface 130 (.pointer (some ⟨g, 0, none⟩))]) (by simp [results, Tryz.results56, go_sem, q0, q1]) rfl ⟨⟨_, rfl, ?_⟩, ?_, ?_⟩
      · unfold pollErr; rw [HP.out]
        refine Or.inr ⟨g, rfl, ?_⟩
        rw [Below.heap_setCell _ _ _ _ (by show g ≠ w.heap.size; omega), Below.heap_setCell _ _ _ _ (by show g ≠ w.heap.size; omega)]; exact HR.out
      · rw [HP.out]
        have hz2 : ((w2.setCell ⟨w.heap.size, 0, none⟩ (.slice none 0 0)).setCell ⟨w.heap.size, 1, none⟩ (.int .i64 0)).heap.size = w2.heap.size := by simp [World.setCell]
        refine ProgAt.wid (F := F) ⟨bm, _, eb, c, HD.out.same (fun j hj hjl => ?_) (by rw [hz2]; exact hsz)⟩ (fun _ h => Or.inl h) (Foot.lt H.out.ltF (by rw [hz2]; omega))
        have hjw := H.out.ltF j hj
        rw [Below.heap_setCell _ _ _ _ (by show j ≠ w.heap.size; omega), Below.heap_setCell _ _ _ _ (by show j ≠ w.heap.size; omega)]
        exact HB.out.block j hjl
      · exact ((HK1.out.below HB.out).setCell (p := ⟨w.heap.size, 0, none⟩) (Or.inr (Nat.le_refl _)) _).setCell (p := ⟨w.heap.size, 1, none⟩) (Or.inr (Nat.le_refl _)) _
end Go.Proofs.YtgepgklgemndeaaGreatDoor
