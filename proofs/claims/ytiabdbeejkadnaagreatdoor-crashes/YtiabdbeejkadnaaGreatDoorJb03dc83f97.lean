import Derived.Test.YtiabdbeejkadnaaGreatDoorJ9b4e2ed356
import Derived.Deep.RegionWith
import Derived.Test.YtiabdbeejkadnaaGreatDoorJb670e55ca4
import Derived.Deep.MidRow
import Derived.Shelf.Sort.Plain
import Derived.Test.YtiabdbeejkadnaaGreatDoorProg
/- The program's queue (stage 2's code): Cancel, Tick, Now; plain.Cancel. Own work of the verifier. -/
namespace Go.Proofs.YtiabdbeejkadnaaGreatDoor
open Go.RowKit Go.Maps

/-- what Cancel's error tells -/
def cancelErr (S : St) (num : Int) : Int × Int × Int := if (cancelM S num).1 = 9 then (9, num, (cancelM S num).2.1) else ((cancelM S num).1, -1, 0)
theorem cancel_none {S : St} {num : Int} (hp : placeM S num = -1) : cancelM S num = (5, 0, S) := by
  unfold cancelM; rw [hp]; rfl
theorem cancel_at {S : St} {num : Int} {k : Nat} (hk : k < S.reqs.length) (hp : placeM S num = k) : cancelM S num = if 2 ≤ (S.reqs[k]).state then (9, (S.reqs[k]).tries, S) else (0, 0, { S with reqs := setState S.reqs k 4 }) := by
  unfold cancelM
  rw [hp, if_neg (by omega)]
  have e : ((k : Int)).toNat = k := by omega
  rw [e]
  dsimp only
  rw [getD_of hk]

set_option maxHeartbeats 1000000 in
theorem prog_cancel (S : St) (F : Nat → Prop) (xb : Nat) (num : Int) (w : World) (h : ProgAt w F xb S) (hw : (Lit.int .i64 num).wf = true) :
    Calls Tryz.prog 93 #[.pointer (some ⟨xb, 0, none⟩), .int .i64 num] w fun e w' => (∃ ev, e = .returned ev ∧ ErrIs w' ev (cancelErr S num).1 (cancelErr S num).2.1 (cancelErr S num).2.2) ∧ ProgAt w' (Foot F w w') xb (cancelM S num).2.2 ∧ Kept F w w' := by
  have H0 := hide h
  obtain ⟨bm, D, eb, c, af, cf, vs, h⟩ := h
  have H := hide h
  have k3 := h.cell 3 _ h.q.c3
  have hlk := h.look (W := w) num hw rfl
  clear h hw
  rcases held_cases S num with ⟨h1, h2⟩ | ⟨h1, k, hk, h2, h3, _⟩
  · rw [h1] at hlk
    have HP := hide (cancel_none h2)
    clear h1 h2
    go_enter Tryz.func93, Tryz.ntmps93
    go_wp2_with fail
    refine (orEmpty_some _ _).mono ?_
    rintro e w1 ⟨rfl, rfl⟩
    go_wp2
    go_ret
    refine ⟨⟨_, rfl, ?_⟩, ?_, Kept.refl _ _⟩
    · unfold cancelErr; rw [HP.out]; exact Or.inl ⟨rfl, rfl, rfl⟩
    · rw [HP.out]; exact H0.out.grow (Below.refl _ _)
  · rw [h1] at hlk
    simp only [if_true] at hlk
    obtain ⟨ds, hds, he⟩ := H.out.e.ent _ (List.getElem_mem hk)
    have HDS := hide hds
    have hE : F (eb num) := by rw [← h3]; exact H.out.e.entF _ (List.getElem_mem hk)
    have HN := hide h3
    have HWf := hide H.out.wf
    rw [h3] at he
    have e0 : w.cell? ⟨eb num, 0, none⟩ = some (.int .i64 num) := by simp [World.cell?, he, entC, h3]
    have e7 : w.cell? ⟨eb num, 7, none⟩ = some (.int .i64 (S.reqs[k]).tries) := by simp [World.cell?, he, entC]
    have e9 : w.cell? ⟨eb num, 9, none⟩ = some (.int .i64 (S.reqs[k]).state) := by simp [World.cell?, he, entC]
    have f9 : w.frozen? ⟨eb num, 9, none⟩ = false := by simp [World.frozen?, he]
    have HE := hide he
    clear h1 he h3 hds
    by_cases hs : 2 ≤ (S.reqs[k]).state
    · have HP : Hid (cancelM S num = (9, (S.reqs[k]).tries, S)) := by show _ = _; rw [cancel_at hk h2, if_pos hs]
      have HS := hide hs
      clear h2 hs
      generalize (S.reqs[k]).tries = tr at *
      go_enter Tryz.func93, Tryz.ntmps93
      go_wp2_with fail
      refine (orEmpty_some _ _).mono ?_
      rintro e w1 ⟨rfl, rfl⟩
      go_wp2_with fail
      refine (entry_not_pending (eb num) _ _ e9 HS.out).mono ?_
      rintro e w2 ⟨rfl, rfl⟩
      go_wp2_with fail
      refine (entry_fault (eb num) num tr 9 _ e0 e7).mono ?_
      rintro e w1 ⟨rfl, hr, hb⟩
      have HR := hide hr
      have HB := hide hb
      clear hr hb hlk
      go_wp2
      go_ret
      refine ⟨⟨_, rfl, ?_⟩, ?_, Go.Proofs.YtiabdbeejkadnaaGreatDoor.Below.kept HB.out F⟩
      · unfold cancelErr; rw [HP.out]; exact Or.inr ⟨_, rfl, HR.out⟩
      · rw [HP.out]; exact H0.out.grow HB.out
    · have HP : Hid (cancelM S num = (0, 0, { S with reqs := setState S.reqs k 4 })) := by show _ = _; rw [cancel_at hk h2, if_neg hs]
      have HS : Hid ((S.reqs[k]).state = 0 ∨ (S.reqs[k]).state = 1) := by have := (H.out.wf.rq _ (List.getElem_mem hk)).st; show _ ∨ _; omega
      clear h2 hs e0 e7
      go_enter Tryz.func93, Tryz.ntmps93
      go_wp2_with fail
      refine (orEmpty_some _ _).mono ?_
      rintro e w1 ⟨rfl, rfl⟩
      go_wp2_with fail
      refine (entry_pending (eb num) _ _ e9 HS.out).mono ?_
      rintro e w2 ⟨rfl, rfl⟩
      go_wp2
      go_ret
      have hb : ProgBlk (w2.setCell ⟨eb num, 9, none⟩ (.int .i64 4)) F xb { S with reqs := S.reqs.set k { (S.reqs[k]) with state := 4 } } [] bm D eb c af cf vs := by
        refine H.out.setE hk (ds := ds) rfl ⟨HDS.out.1, HDS.out.2.1, fun _ e => by cases e⟩ ?_ (fun b _ hne => Below.heap_setCell _ _ _ _ (by rw [HN.out] at hne; exact hne)) (by simp [World.setCell]) ?_
        · rw [HN.out, heap_setCell_at HE.out]; rfl
        · have := HWf.out.cancel hk (by have := HS.out; omega)
          rw [setState_eq _ _ _ hk] at this
          exact this
      refine ⟨⟨_, rfl, ?_⟩, ?_, (Kept.refl _ _).setCell (p := ⟨eb num, 9, none⟩) (Or.inl hE) _⟩
      · unfold cancelErr; rw [HP.out]; exact Or.inl ⟨rfl, rfl, rfl⟩
      · rw [HP.out, setState_eq _ _ _ hk]; exact ProgE.wid (F := F) ⟨bm, D, eb, c, af, cf, vs, hb⟩ Foot.of (Foot.lt H.out.ltF (by simp [World.setCell]))

theorem prog_now (S : St) (F : Nat → Prop) (xb : Nat) (w : World) (h : ProgAt w F xb S) :
    Calls Tryz.prog 76 #[.pointer (some ⟨xb, 0, none⟩)] w fun e w' => e = .returned (.int .i64 S.now) ∧ w' = w := by
  obtain ⟨bm, D, eb, c, af, cf, vs, h⟩ := h
  have k1 := h.cell 1 _ h.q.c1
  clear h
  go_enter Tryz.func76, Tryz.ntmps76
  go_wp2_with fail
  refine (orEmpty_some _ _).mono ?_
  rintro e w1 ⟨rfl, rfl⟩
  go_wp2
  go_ret
  exact ⟨rfl, rfl⟩

set_option maxHeartbeats 1000000 in
theorem plain_cancel (S : St) (F : Nat → Prop) (xb : Nat) (num : Int) (w : World) (h : ProgAt w F xb S) (hg : GCell w) (h0 : ¬ F 0) (hw : (Lit.int .i64 num).wf = true) :
    Calls Tryz.prog 57 #[.pointer (some ⟨xb, 0, none⟩), .int .i64 num] w fun e w' => e = .returned (.agg #[.int .i64 (cancelErr S num).1, .int .i64 (cancelErr S num).2.1, .int .i64 (cancelErr S num).2.2, .bool true]) ∧ ProgAt w' (Foot F w w') xb (cancelM S num).2.2 ∧ Kept F w w' := by
  have H : Hid (ProgAt w F xb S) := h
  have hF := h.lt
  have hnF : ¬ F w.heap.size := fun e => by have := hF _ e; omega
  have HF : Hid (∀ k, F k → k < w.heap.size) := hF
  have HG : Hid (GCell w) := hg
  have HW := hide hw
  clear h hF hg hw
  generalize hA : cancelErr S num = r
  obtain ⟨k, n, t⟩ := r
  have HA : Hid (cancelErr S num = (k, n, t)) := hA
  clear hA
  generalize hS : (cancelM S num).2.2 = S'
  have HS : Hid ((cancelM S num).2.2 = S') := hS
  clear hS
  go_enter Tryz.func57, Tryz.ntmps57
  go_wp2_with fail
  refine (prog_cancel S F xb num _ (H.out.same (fun k _ hk => Below.heap_alloc w _ k hk) (by simp)) HW.out).mono ?_
  rintro e w1 ⟨⟨ev, rfl, hE⟩, hP, hK⟩
  rw [HA.out] at hE
  rw [HS.out] at hP
  have HP : Hid (ProgAt w1 (Foot F (w.alloc (.cells #[.int .i64 0, .int .i64 0, .int .i64 0, .bool false] 57)) w1) xb S') := hP
  have HK : Hid (Kept F (w.alloc (.cells #[.int .i64 0, .int .i64 0, .int .i64 0, .bool false] 57)) w1) := hK
  have hg1 : GCell w1 := (HG.out.below (alloc_below _ _)).kept hK h0
  have hz1 : w.heap.size < w1.heap.size := by have := hK.size; simp at this; omega
  obtain ⟨⟨a0, a1, a2, a3⟩, b0, b1, b2, b3⟩ := err_cells hK hnF
  have HE := hide hE
  clear hP hK hE
  go_wp2_with fail
  refine (told_is HE.out hg1).mono ?_
  rintro e w2 ⟨rfl, hb⟩
  have a0' := (hb.cell (p := ⟨w.heap.size, 0, none⟩) hz1).trans a0
  have a1' := (hb.cell (p := ⟨w.heap.size, 1, none⟩) hz1).trans a1
  have a2' := (hb.cell (p := ⟨w.heap.size, 2, none⟩) hz1).trans a2
  have a3' := (hb.cell (p := ⟨w.heap.size, 3, none⟩) hz1).trans a3
  have b0' := (hb.frozen (p := ⟨w.heap.size, 0, none⟩) hz1).trans b0
  have b1' := (hb.frozen (p := ⟨w.heap.size, 1, none⟩) hz1).trans b1
  have b2' := (hb.frozen (p := ⟨w.heap.size, 2, none⟩) hz1).trans b2
  have b3' := (hb.frozen (p := ⟨w.heap.size, 3, none⟩) hz1).trans b3
  have HB := hide hb
  clear hb a0 a1 a2 a3 b0 b1 b2 b3
  go_wp2
  exact bodyPost_ret (v := .agg #[.int .i64 k, .int .i64 n, .int .i64 t, .bool true]) (by simp [results, Tryz.results57, go_sem, a0', a1', a2', a3']) rfl ⟨rfl, plain_fin _ _ _ _ HP.out HK.out HB.out HF.out⟩
end Go.Proofs.YtiabdbeejkadnaaGreatDoor

/- The program's queue (stage 2's code): plain.Poll. Own work of the verifier. -/
namespace Go.Proofs.YtiabdbeejkadnaaGreatDoor
open Go.RowKit Go.Maps

/-- the world of plain.Poll at its first call -/
def pollW (w : World) : World := (w.alloc (.cells #[.slice none 0 0, .int .i64 0] 88)).alloc (.cells #[.int .i64 0, .int .i64 0, .int .i64 0, .bool false] 57)
theorem pollW_below (w : World) : Below w.heap.size w (pollW w) := (alloc_below _ _).trans ((alloc_below _ _).mono (by simp))
theorem pollW_size (w : World) : (pollW w).heap.size = w.heap.size + 2 := by simp [pollW]
theorem pollW_a (w : World) : (pollW w).heap[w.heap.size]? = some (.cells #[.slice none 0 0, .int .i64 0] 88 (0, 0)) := (Below.heap_alloc _ _ _ (by simp)).trans (heap_alloc_new w _)
theorem pollW_e (w : World) : (pollW w).heap[w.heap.size + 1]? = some (.cells #[.int .i64 0, .int .i64 0, .int .i64 0, .bool false] 57 (0, 0)) := by
  have := heap_alloc_new (w.alloc (.cells #[.slice none 0 0, .int .i64 0] 88)) (.cells #[.int .i64 0, .int .i64 0, .int .i64 0, .bool false] 57)
  have e : (w.alloc (.cells #[.slice none 0 0, .int .i64 0] 88)).heap.size = w.heap.size + 1 := by simp
  rw [e] at this; exact this
/-- what plain.Poll's error is -/
def plainErr (S : St) (num : Int) : Int × Int × Int := if (pollM S num).2.2.1 = 0 then (0, -1, 0) else pollErr S num
/-- what plain.Poll's answer is -/
def PlainAns (w w' : World) (r : ByteArray × Int × Int × St) (ao : Option Addr) (n cap : Nat) (t : Int) : Prop :=
  (r.2.2.1 ≠ 0 ∧ ao = none ∧ n = 0 ∧ cap = 0 ∧ t = 0) ∨ (r.2.2.1 = 0 ∧ t = r.2.1 ∧ n = r.1.size ∧ n ≤ 4 ∧ Row w' (fun k => w.heap.size ≤ k) 5 1 ao n cap (encB r.1.data.toList))
theorem PollEnd.plain {S : St} {num : Int} {w w1 : World} {e : Ending} (h : PollEnd S num w e w1) : ∃ ao n cap t ev, e = .returned (.tuple #[.agg #[.slice ao n cap, .int .i64 t], ev]) ∧ ErrIs w1 ev (plainErr S num).1 (plainErr S num).2.1 (plainErr S num).2.2 ∧ PlainAns w w1 (pollM S num) ao n cap t := by
  obtain ⟨av, ev, rfl, ⟨h1, rfl, h2⟩ | ⟨h1, rfl, ao, n, cap, rfl, h2, h3, h4⟩⟩ := h
  · refine ⟨none, 0, 0, 0, ev, rfl, ?_, Or.inl ⟨h1, rfl, rfl, rfl, rfl⟩⟩
    unfold plainErr; rw [if_neg h1]; exact h2
  · refine ⟨ao, n, cap, _, .nilIface, rfl, ?_, Or.inr ⟨h1, rfl, h2, h3, h4⟩⟩
    unfold plainErr; rw [if_pos h1]; exact Or.inl ⟨rfl, rfl, errOf_zero.symm⟩
/-- the end: only the wrapper's own two blocks were written since the call -/
theorem poll_fin {w w1 w2 w3 : World} {F : Nat → Prop} {xb : Nat} {S' : St} {r : ByteArray × Int × Int × St} {ao : Option Addr} {n cap : Nat} {t : Int} (HP : ProgAt w1 F xb S') (HK : Kept F (pollW w) w1) (HA : PlainAns (pollW w) w1 r ao n cap t) (hb : Below w1.heap.size w1 w2) (hF : ∀ k, F k → k < w.heap.size)
    (hk : Kept (fun k => k = w.heap.size ∨ k = w.heap.size + 1) w2 w3) : PlainAns w w3 r ao n cap t ∧ ProgAt w3 F xb S' ∧ Kept F w w3 := by
  have hz1 : w.heap.size + 2 ≤ w1.heap.size := by rw [← pollW_size]; exact HK.size
  have hz2 := hb.size
  have hz3 := hk.size
  have hsame : ∀ k, k < w1.heap.size → k ≠ w.heap.size → k ≠ w.heap.size + 1 → w3.heap[k]? = w1.heap[k]? := fun k hlt h1 h2 => (hk.block k (by omega) (fun e => e.elim h1 h2)).trans (hb.block k hlt)
  refine ⟨?_, HP.same (fun k hk' hlt => hsame k hlt (by have := hF k hk'; omega) (by have := hF k hk'; omega)) (by omega), ?_⟩
  · rcases HA with h | ⟨h1, h2, h3, h4, h5⟩
    · exact Or.inl h
    · refine Or.inr ⟨h1, h2, h3, h4, (h5.same fun a ha => ?_).mono (fun k hk => ?_)⟩
      · obtain ⟨cur, hh, _⟩ := h5.block ha
        have := h5.2 a ha
        rw [pollW_size] at this
        exact hsame _ (lt_of_heap hh) (by omega) (by omega)
      · rw [pollW_size] at hk; omega
  · have k1 : Kept F w w2 := ((Kept.refl F w).below (pollW_below w) |>.then HK).below hb
    refine ⟨hk.os.trans k1.os, hk.tape.trans k1.tape, hk.output.trans k1.output, by omega, fun k hkl hn => ?_⟩
    exact (hk.block k (by omega) (fun e => by omega)).trans (k1.block k hkl hn)

set_option maxHeartbeats 1000000 in
set_option maxRecDepth 1000000 in
theorem plain_poll (S : St) (F : Nat → Prop) (xb : Nat) (num : Int) (w : World) (h : ProgAt w F xb S) (hg : GCell w) (h0 : ¬ F 0) (hw : (Lit.int .i64 num).wf = true) :
    Calls Tryz.prog 37 #[.pointer (some ⟨xb, 0, none⟩), .int .i64 num] w fun e w' => ∃ ao n cap t, e = .returned (.tuple #[.agg #[.slice ao n cap, .int .i64 t], .agg #[.int .i64 (plainErr S num).1, .int .i64 (plainErr S num).2.1, .int .i64 (plainErr S num).2.2, .bool true]]) ∧ PlainAns w w' (pollM S num) ao n cap t ∧ ProgAt w' F xb (pollM S num).2.2.2 ∧ Kept F w w' := by
  have H : Hid (ProgAt w F xb S) := h
  have HF : Hid (∀ k, F k → k < w.heap.size) := h.lt
  have HG : Hid (GCell w) := hg
  have HW := hide hw
  clear h hg hw
  generalize hA : plainErr S num = r
  obtain ⟨k, n, t⟩ := r
  have HA : Hid (plainErr S num = (k, n, t)) := hA
  clear hA
  go_enter Tryz.func37, Tryz.ntmps37
  go_wp2_with fail
  refine (prog_poll S F xb num (pollW w) (H.out.same (fun k _ hk => (pollW_below w).block k hk) (pollW_below w).size) HW.out).mono ?_
  rintro e w1 ⟨hPE, hP, hK⟩
  obtain ⟨ao, m, cap, tt, ev, rfl, hE, hPA⟩ := hPE.plain
  rw [HA.out] at hE
  have HPA := hide hPA
  clear hPE hPA
  have hz1 : w.heap.size + 2 ≤ w1.heap.size := by rw [← pollW_size]; exact hK.size
  have hA1 : w1.heap[w.heap.size]? = some (.cells #[.slice none 0 0, .int .i64 0] 88 (0, 0)) := (hK.block w.heap.size (by rw [pollW_size]; omega) (fun e => by have := HF.out _ e; omega)).trans (pollW_a w)
  have hE1 : w1.heap[w.heap.size + 1]? = some (.cells #[.int .i64 0, .int .i64 0, .int .i64 0, .bool false] 57 (0, 0)) := (hK.block (w.heap.size + 1) (by rw [pollW_size]; omega) (fun e => by have := HF.out _ e; omega)).trans (pollW_e w)
  have hg1 : GCell w1 := (HG.out.below (pollW_below w)).kept hK h0
  have HP := hide hP
  have HK := hide hK
  have HE := hide hE
  have HG1 := hide hg1
  clear hP hK hE hg1
  have hz0 : w.heap.size < w1.heap.size := by omega
  have hz01 : w.heap.size + 1 < w1.heap.size := by omega
  have HA1 := hide hA1
  have HE1 := hide hE1
  obtain ⟨x0, x1, x2, x3⟩ := cells2 hA1
  obtain ⟨⟨y0, y1, y2, y3⟩, y4, y5, y6, y7⟩ := cells4 hE1
  clear hA1 hE1
  have hT : Calls Tryz.prog 51 #[ev] ((w1.alloc (.cells #[.slice ao m cap, .int .i64 tt] 88)).drew) fun e w2 => e = .returned (.agg #[.int .i64 k, .int .i64 n, .int .i64 t, .bool true]) ∧ w2.heap[w.heap.size]? = some (.cells #[.slice none 0 0, .int .i64 0] 88 (0, 0)) ∧ w2.heap[w.heap.size + 1]? = some (.cells #[.int .i64 0, .int .i64 0, .int .i64 0, .bool false] 57 (0, 0)) ∧ w2.heap[w1.heap.size]? = some (.cells #[.slice ao m cap, .int .i64 tt] 88 (0, 0)) ∧ Below w1.heap.size w1 w2 := by
    refine (told_is (k := k) (r := n) (t := t) (w := (w1.alloc (.cells #[.slice ao m cap, .int .i64 tt] 88)).drew) (HE.out.same (fun b hb => Below.heap_alloc w1 _ b hb)) (HG1.out.below ((alloc_below w1 _).drew))).mono ?_
    rintro e w2 ⟨rfl, hb⟩
    have hl : ∀ j, j < w1.heap.size + 1 → w2.heap[j]? = (w1.alloc (.cells #[.slice ao m cap, .int .i64 tt] 88)).heap[j]? := fun j hj => hb.block j (by show j < (w1.alloc _).heap.size; simpa using hj)
    have hl' : ∀ j, j < w1.heap.size → w2.heap[j]? = w1.heap[j]? := fun j hj => (hl j (by omega)).trans (Below.heap_alloc _ _ _ hj)
    exact ⟨rfl, (hl' _ hz0).trans HA1.out, (hl' _ hz01).trans HE1.out, (hl _ (by omega)).trans (heap_alloc_new w1 _), ((alloc_below w1 (.cells #[.slice ao m cap, .int .i64 tt] 88)).drew).trans (hb.mono (by show _ ≤ (w1.alloc _).heap.size; simp))⟩
  have HT := hide hT
  clear hT
  go_wp2
  go_region_with (go_at_call 51; refine HT.out.mono ?_; rintro e w2 ⟨rfl, h1, h2, h3, hb⟩; obtain ⟨z0, z1, z2, z3⟩ := cells2 h1; obtain ⟨⟨v0, v1, v2, v3⟩, v4, v5, v6, v7⟩ := cells4 h2; obtain ⟨r0, r1, r2, r3⟩ := cells2 h3; have HB := hide hb; clear hb h1 h2 h3)
  all_goals go_wp2
  all_goals have hk6 : Kept (fun k => k = w.heap.size ∨ k = w.heap.size + 1) w2 ((((((w2.setCell ⟨w.heap.size, 0, none⟩ (.slice ao m cap)).setCell ⟨w.heap.size, 1, none⟩ (.int .i64 tt)).setCell ⟨w.heap.size + 1, 0, none⟩ (.int .i64 k)).setCell ⟨w.heap.size + 1, 1, none⟩ (.int .i64 n)).setCell ⟨w.heap.size + 1, 2, none⟩ (.int .i64 t)).setCell ⟨w.heap.size + 1, 3, none⟩ (.bool true)) := ((((((Kept.refl _ w2).setCell (p := ⟨w.heap.size, 0, none⟩) (Or.inl (Or.inl rfl)) _).setCell (p := ⟨w.heap.size, 1, none⟩) (Or.inl (Or.inl rfl)) _).setCell (p := ⟨w.heap.size + 1, 0, none⟩) (Or.inl (Or.inr rfl)) _).setCell (p := ⟨w.heap.size + 1, 1, none⟩) (Or.inl (Or.inr rfl)) _).setCell (p := ⟨w.heap.size + 1, 2, none⟩) (Or.inl (Or.inr rfl)) _).setCell (p := ⟨w.heap.size + 1, 3, none⟩) (Or.inl (Or.inr rfl)) _
  all_goals exact bodyPost_ret (v := .tuple #[.agg #[.slice ao m cap, .int .i64 tt], .agg #[.int .i64 k, .int .i64 n, .int .i64 t, .bool true]]) (by simp [results, Tryz.results37, go_sem, z0, z1, v0, v1, v2, v3]) rfl ⟨ao, m, cap, tt, rfl, poll_fin HP.out HK.out HPA.out HB.out HF.out hk6⟩
end Go.Proofs.YtiabdbeejkadnaaGreatDoor

/- The program's queue (stage 2's code): New, plain.New. Own work of the verifier. -/
namespace Go.Proofs.YtiabdbeejkadnaaGreatDoor
open Go.RowKit Go.Maps

def newC (depth : Int) (bm : Nat) : Array Value := #[.int .i64 depth, .int .i64 0, .int .i64 0, .map (some bm), .slice none 0 0, .int .i64 0, .int .u8 0, .int .u8 0, .int .u8 0, .int .u8 0, .int .u8 0, .int .u8 0, .int .u8 0, .int .u8 0, .int .u8 0, .int .u8 0, .int .u8 0, .int .u8 0, .int .u8 0, .int .u8 0, .int .u8 0, .int .u8 0, .int .u8 0, .int .u8 0, .int .u8 0, .int .u8 0, .int .u8 0, .int .u8 0, .int .u8 0, .int .u8 0, .int .u8 0, .int .u8 0, .int .u8 0, .int .u8 0, .int .u8 0, .int .u8 0, .int .u8 0, .int .u8 0, .int .u8 0, .int .u8 0, .int .u8 0, .int .u8 0, .int .u8 0, .int .u8 0, .int .u8 0, .int .u8 0, .int .u8 0, .int .u8 0, .int .u8 0, .int .u8 0, .int .u8 0, .int .u8 0, .int .u8 0, .int .u8 0, .int .u8 0, .int .u8 0, .int .u8 0, .int .u8 0, .int .u8 0, .int .u8 0, .int .u8 0, .int .u8 0, .int .u8 0, .int .u8 0, .int .u8 0, .int .u8 0, .int .u8 0, .int .u8 0, .int .u8 0, .int .u8 0] 
theorem newC_eq (depth : Int) (bm : Nat) : newC depth bm = #[.int .i64 depth, .int .i64 0, .int .i64 0, .map (some bm), .slice none 0 0, .int .i64 0] ++ Array.replicate 64 (.int .u8 0) := by kernel_rfl
theorem new_progAt (depth : Int) (w : World) (h1 : 1 ≤ depth) (h4 : depth ≤ 4) : ProgAt ((w.alloc (.map #[] 0)).alloc (.cells (newC depth w.heap.size) 78)) (Foot (fun _ => False) w ((w.alloc (.map #[] 0)).alloc (.cells (newC depth w.heap.size) 78))) (w.heap.size + 1) (St.new depth) := by
  have hz : ((w.alloc (.map #[] 0)).alloc (.cells (newC depth w.heap.size) 78)).heap.size = w.heap.size + 2 := by simp
  have e1 : (w.alloc (.map #[] 0)).heap.size = w.heap.size + 1 := by simp
  have hb := heap_alloc_new (w.alloc (.map #[] 0)) (.cells (newC depth w.heap.size) 78)
  rw [e1] at hb
  refine ⟨w.heap.size, .map [], fun _ => 0, newC depth w.heap.size, none, 0, [], Or.inr ⟨by omega, by rw [hz]; omega⟩, hb, ⟨by rw [newC_eq]; simp, rfl, rfl, rfl, rfl, rfl, rfl, fun j hj => ?_⟩, Or.inr ⟨Nat.le_refl _, by rw [hz]; omega⟩, ⟨(World.ownsMap_made w _ _ _).alloc _, rfl, fun n => rfl, fun r hr => by simp [St.new] at hr⟩, ⟨fun r hr => by simp [St.new] at hr, fun r hr => by simp [St.new] at hr, fun r hr => by simp [St.new] at hr⟩, ⟨rfl, Row.nil _ _ _ _, fun x hx => by simp [St.new] at hx⟩, fun k hk => hk.elim (fun h => h.elim) (fun h => h.2), Wf.new depth ⟨h1, h4⟩⟩
  have e4 : 6 + j - 6 = j := by omega
  rw [newC_eq, Array.getElem?_append_right (by simp)]
  have e5 : (St.new depth).disk.getD j 0 = 0 := by show (List.replicate 64 (0 : UInt8)).getD j 0 = 0; rw [List.getD_eq_getElem?_getD, List.getElem?_replicate, if_pos hj]; rfl
  rw [e5]
  simp [e4, hj, u8]

theorem prog_new_ok (depth : Int) (w : World) (h1 : 1 ≤ depth) (h4 : depth ≤ 4) :
    Calls Tryz.prog 50 #[.int .i64 depth] w fun e w' => e = .returned (.tuple #[.pointer (some ⟨w.heap.size + 1, 0, none⟩), .nilIface]) ∧ w' = ((w.alloc (.map #[] 0)).alloc (.cells (newC depth w.heap.size) 78)) := by
  have hmm := @run_makeMap Tryz.prog
  have b1 : decide (depth < 1) = false := by simp; omega
  have b2 : decide (4 < depth) = false := by simp; omega
  go_enter Tryz.func50, Tryz.ntmps50
  go_wp2
  go_ret2
  exact ⟨rfl, rfl⟩
theorem prog_new_no (depth : Int) (w : World) (h : depth < 1 ∨ 4 < depth) :
    Calls Tryz.prog 50 #[.int .i64 depth] w fun e w' => e = .returned (.tuple #[.pointer none, errOf 1]) ∧ w' = w := by
  by_cases h1 : depth < 1
  · have b1 : decide (depth < 1) = true := by simp; omega
    clear h
    go_enter Tryz.func50, Tryz.ntmps50
    go_wp2
    go_ret2
    exact ⟨rfl, rfl⟩
  · have b1 : decide (depth < 1) = false := by simp; omega
    have h2 : 4 < depth := by omega
    have b2 : decide (4 < depth) = true := by simp; omega
    clear h
    go_enter Tryz.func50, Tryz.ntmps50
    go_wp2
    go_ret2
    exact ⟨rfl, rfl⟩
set_option maxHeartbeats 1000000 in
theorem plain_new_ok (depth : Int) (w : World) (hg : GCell w) (h1 : 1 ≤ depth) (h4 : depth ≤ 4) :
    Calls Tryz.prog 23 #[.int .i64 depth] w fun e w' => ∃ xb, e = .returned (.tuple #[.pointer (some ⟨xb, 0, none⟩), .agg #[.int .i64 0, .int .i64 (-1), .int .i64 0, .bool true]]) ∧ ProgAt w' (Foot (fun _ => False) w w') xb (St.new depth) ∧ Below w.heap.size w w' := by
  have HG : Hid (GCell w) := hg
  clear hg
  go_enter Tryz.func23, Tryz.ntmps23
  go_wp2_with fail
  refine (prog_new_ok depth _ h1 h4).mono ?_
  rintro e w1 ⟨rfl, hw1⟩
  have hP := new_progAt depth (w.alloc (.cells #[.int .i64 0, .int .i64 0, .int .i64 0, .bool false] 57)) h1 h4
  rw [← hw1] at hP
  have hb1 : Below (w.alloc (.cells #[.int .i64 0, .int .i64 0, .int .i64 0, .bool false] 57)).heap.size (w.alloc (.cells #[.int .i64 0, .int .i64 0, .int .i64 0, .bool false] 57)) w1 := by
    rw [hw1]; exact (alloc_below _ _).trans ((alloc_below _ _).mono (by simp))
  have HP := hide hP
  have HK := hide (Go.Proofs.YtiabdbeejkadnaaGreatDoor.Below.kept hb1 (fun _ => False))
  have hz1 : w.heap.size < w1.heap.size := by have := hb1.size; simp at this; omega
  obtain ⟨⟨a0, a1, a2, a3⟩, b0, b1, b2, b3⟩ := err_cells HK.out (fun h => h)
  have hg1 : GCell w1 := (HG.out.below (alloc_below _ _)).below hb1
  clear hP hb1 hw1
  simp only [World.size_alloc] at HP ⊢
  go_wp2_with fail
  refine (told_nil _).mono ?_
  rintro e w2 ⟨rfl, hb⟩
  have a0' := (hb.cell (p := ⟨w.heap.size, 0, none⟩) hz1).trans a0
  have a1' := (hb.cell (p := ⟨w.heap.size, 1, none⟩) hz1).trans a1
  have a2' := (hb.cell (p := ⟨w.heap.size, 2, none⟩) hz1).trans a2
  have a3' := (hb.cell (p := ⟨w.heap.size, 3, none⟩) hz1).trans a3
  have b0' := (hb.frozen (p := ⟨w.heap.size, 0, none⟩) hz1).trans b0
  have b1' := (hb.frozen (p := ⟨w.heap.size, 1, none⟩) hz1).trans b1
  have b2' := (hb.frozen (p := ⟨w.heap.size, 2, none⟩) hz1).trans b2
  have b3' := (hb.frozen (p := ⟨w.heap.size, 3, none⟩) hz1).trans b3
  have HB := hide hb
  clear hb a0 a1 a2 a3 b0 b1 b2 b3
  go_wp2
  refine bodyPost_ret (v := .tuple #[.pointer (some ⟨w.heap.size + 1 + 1, 0, none⟩), .agg #[.int .i64 0, .int .i64 (-1), .int .i64 0, .bool true]]) (by simp [results, Tryz.results23, go_sem, a0', a1', a2', a3']) rfl ⟨_, rfl, (plain_fin _ _ _ _ HP.out HK.out HB.out (fun _ h => h.elim)).1, (plain_fin _ _ _ _ HP.out HK.out HB.out (fun _ h => h.elim)).2.toBelow (fun _ h => h.elim) (Nat.le_refl _)⟩

set_option maxHeartbeats 1000000 in
theorem plain_new_no (depth : Int) (w : World) (hg : GCell w) (h : depth < 1 ∨ 4 < depth) :
    Calls Tryz.prog 23 #[.int .i64 depth] w fun e w' => e = .returned (.tuple #[.pointer none, .agg #[.int .i64 1, .int .i64 (-1), .int .i64 0, .bool true]]) ∧ Below w.heap.size w w' := by
  have HG : Hid (GCell w) := hg
  clear hg
  go_enter Tryz.func23, Tryz.ntmps23
  go_wp2_with fail
  refine (prog_new_no depth _ h).mono ?_
  rintro e w1 ⟨rfl, hw1⟩
  have hb1 : Below (w.alloc (.cells #[.int .i64 0, .int .i64 0, .int .i64 0, .bool false] 57)).heap.size (w.alloc (.cells #[.int .i64 0, .int .i64 0, .int .i64 0, .bool false] 57)) w1 := by
    rw [hw1]; exact Below.refl _ _
  have HK := hide (Go.Proofs.YtiabdbeejkadnaaGreatDoor.Below.kept hb1 (fun _ => False))
  have hz1 : w.heap.size < w1.heap.size := by have := hb1.size; simp at this; omega
  obtain ⟨⟨a0, a1, a2, a3⟩, b0, b1, b2, b3⟩ := err_cells HK.out (fun h => h)
  have hg1 : GCell w1 := (HG.out.below (alloc_below _ _)).below hb1
  have HB1 := hide ((alloc_below w (.cells #[.int .i64 0, .int .i64 0, .int .i64 0, .bool false] 57)).trans (hb1.mono (by simp)))
  clear hb1 hw1
  go_wp2_with fail
  refine (told_err 1 _ hg1).mono ?_
  rintro e w2 ⟨rfl, hb⟩
  have a0' := (hb.cell (p := ⟨w.heap.size, 0, none⟩) hz1).trans a0
  have a1' := (hb.cell (p := ⟨w.heap.size, 1, none⟩) hz1).trans a1
  have a2' := (hb.cell (p := ⟨w.heap.size, 2, none⟩) hz1).trans a2
  have a3' := (hb.cell (p := ⟨w.heap.size, 3, none⟩) hz1).trans a3
  have b0' := (hb.frozen (p := ⟨w.heap.size, 0, none⟩) hz1).trans b0
  have b1' := (hb.frozen (p := ⟨w.heap.size, 1, none⟩) hz1).trans b1
  have b2' := (hb.frozen (p := ⟨w.heap.size, 2, none⟩) hz1).trans b2
  have b3' := (hb.frozen (p := ⟨w.heap.size, 3, none⟩) hz1).trans b3
  have HB := hide hb
  clear hb a0 a1 a2 a3 b0 b1 b2 b3
  go_wp2
  exact bodyPost_ret (v := .tuple #[.pointer none, .agg #[.int .i64 1, .int .i64 (-1), .int .i64 0, .bool true]]) (by simp [results, Tryz.results23, go_sem, a0', a1', a2', a3']) rfl ⟨rfl, ((((HB1.out.trans (HB.out.mono (Nat.le_of_lt hz1))).setCell (Nat.le_refl _) _).setCell (Nat.le_refl _) _).setCell (Nat.le_refl _) _).setCell (Nat.le_refl _) _⟩

end Go.Proofs.YtiabdbeejkadnaaGreatDoor

/- The program's queue (stage 2's code): Disk. Own work of the verifier. -/
namespace Go.Proofs.YtiabdbeejkadnaaGreatDoor
open Go.RowKit Go.Maps

theorem ix_page (cs : Array Value) (k : Nat) (hk : k < 16) (w : World) : (Instr.index 76 (.agg cs) (.int .i64 k)).run Tryz.prog w = .ok (.agg (cs.extract (k * 4) (k * 4 + 4))) w := by
  have h2 : (Go.sizeOf 75).run Tryz.prog w = .ok 4 w := Tryz.sizeOf75 w
  simp [Instr.index, run_underlying Tryz.underlying76, asIntOf, go_sem, h2]
  intro h
  omega
theorem take4 (l : List UInt8) (a : Nat) (h : a + 4 ≤ l.length) : (l.drop a).take 4 = [l.getD a 0, l.getD (a + 1) 0, l.getD (a + 2) 0, l.getD (a + 3) 0] := by
  apply List.ext_getElem
  · simp; omega
  · intro i h1 h2
    simp at h2
    rw [List.getElem_take, List.getElem_drop]
    match i, h2 with
    | 0, _ => simp [show a < l.length by omega]
    | 1, _ => simp [show a + 1 < l.length by omega]
    | 2, _ => simp [show a + 2 < l.length by omega]
    | 3, _ => simp [show a + 3 < l.length by omega]
    | i + 4, h2 => omega
theorem encB_append (l m : List UInt8) : encB (l ++ m) = encB l ++ encB m := by simp [encB]
theorem encB_u8 (l : List UInt8) : encB l = l.map u8 := rfl
theorem page_at (l : List UInt8) (k : Nat) (h : k * 4 + 4 ≤ l.length) : (encB l).toArray.extract (k * 4) (k * 4 + 4) = #[u8 (l.getD (k * 4) 0), u8 (l.getD (k * 4 + 1) 0), u8 (l.getD (k * 4 + 2) 0), u8 (l.getD (k * 4 + 3) 0)] := by
  rw [List.extract_toArray, List.extract_eq_take_drop, encB_u8, ← List.map_drop, ← List.map_take]
  have e : k * 4 + 4 - k * 4 = 4 := by omega
  rw [e, take4 l (k * 4) h]
  rfl
theorem take_page (l : List UInt8) (k : Nat) (h : k * 4 + 4 ≤ l.length) : l.take (4 * (k + 1)) = l.take (4 * k) ++ [l.getD (k * 4) 0, l.getD (k * 4 + 1) 0, l.getD (k * 4 + 2) 0, l.getD (k * 4 + 3) 0] := by
  rw [← take4 l (k * 4) h, Nat.mul_add, Nat.mul_comm k 4, List.take_add]

set_option maxHeartbeats 1000000 in
set_option maxRecDepth 1000000 in
theorem prog_disk (S : St) (F : Nat → Prop) (xb : Nat) (w : World) (h : ProgAt w F xb S) :
    Calls Tryz.prog 75 #[.pointer (some ⟨xb, 0, none⟩)] w fun e w' => ∃ ao cap, e = .returned (.slice ao 64 cap) ∧ Row w' (fun b => w.heap.size ≤ b) 5 1 ao 64 cap (encB S.disk) ∧ Below w.heap.size w w' := by
  have hdl : S.disk.length = 64 := h.wf.disk
  obtain ⟨bm, D, eb, c, af, cf, vs, h⟩ := h
  obtain ⟨i0, hi, hi0, hi1, hi2⟩ := info_parts info_byte
  have HR : Hid (w.rangeAt xb 6 (encB S.disk)) := by
    intro j v hv
    have hj : j < 64 := by
      have e1 := (List.getElem?_eq_some_iff.1 hv).1
      simp [encB] at e1; omega
    have := h.cell (6 + j) _ (h.q.cd j hj)
    rw [encB_u8, List.getElem?_map, List.getElem?_eq_getElem (by omega)] at hv
    simp at hv
    rw [← hv]
    rw [List.getD_eq_getElem?_getD, List.getElem?_eq_getElem (by omega)] at this
    exact this
  clear h
  have HDL := hide hdl
  generalize S.disk = dk at *
  clear hdl
  go_enter Tryz.func75, Tryz.ntmps75
  go_wp2_with fail
  refine (orEmpty_some _ _).mono ?_
  rintro e w1 ⟨rfl, hw1⟩
  have hw2 := hw1.symm
  subst hw2
  clear hw1
  go_wp2_with (first | (refine wpList_load_mid rfl 76 _ rfl xb 6 rfl (encB dk) _ HR.out Tryz.underlying76 rfl (by rw [encB_u8, List.length_map, HDL.out]; kernel_rfl) ?_) | fail)
  go_loopw [3, 11] (fun l i wr => ∃ (k cap : Nat) (ao : Option Addr), k ≤ 16 ∧ i = .int .i64 k ∧ l = .slice ao (4 * k) cap ∧ Hid (Row wr (fun b => w.heap.size ≤ b) 5 1 ao (4 * k) cap (encB (dk.take (4 * k)))) ∧ Hid (Below w.heap.size w wr)) (fun _ i _ => 16 - (intOf i).toNat)
  case atStart => exact ⟨0, 0, none, Nat.zero_le _, rfl, rfl, Row.nil _ _ _ _, Below.refl _ _⟩
  case round =>
    obtain ⟨k, cap, ao, hk, rfl, rfl, hrow, hb⟩ := hrel
    by_cases hlt : k < 16
    · have hkl : k * 4 + 4 ≤ dk.length := by rw [HDL.out]; omega
      have HT := hide (take_page dk k hkl)
      have hik : ∀ W, (Instr.index 76 (.agg (encB dk).toArray) (.int .i64 k)).run Tryz.prog W = .ok (.agg #[u8 (dk.getD (k * 4) 0), u8 (dk.getD (k * 4 + 1) 0), u8 (dk.getD (k * 4 + 2) 0), u8 (dk.getD (k * 4 + 3) 0)]) W := fun W => by rw [ix_page _ k hlt W, page_at dk k hkl]
      have HV : Hid ([u8 (dk.getD (k * 4) 0), u8 (dk.getD (k * 4 + 1) 0), u8 (dk.getD (k * 4 + 2) 0), u8 (dk.getD (k * 4 + 3) 0)] = encB [dk.getD (k * 4) 0, dk.getD (k * 4 + 1) 0, dk.getD (k * 4 + 2) 0, dk.getD (k * 4 + 3) 0]) := rfl
      have H1 : Hid (∀ u ∈ [u8 (dk.getD (k * 4) 0), u8 (dk.getD (k * 4 + 1) 0), u8 (dk.getD (k * 4 + 2) 0), u8 (dk.getD (k * 4 + 3) 0)], u.oneCell' = true) := by intro u hu; simp at hu; rcases hu with rfl | rfl | rfl | rfl <;> rfl
      have e3 : Hid (∀ j, ∃ b, u8 (dk.getD j 0) = .int .u8 b) := fun j => ⟨_, rfl⟩
      obtain ⟨v0, hv0⟩ := e3.out (k * 4)
      obtain ⟨v1, hv1⟩ := e3.out (k * 4 + 1)
      obtain ⟨v2, hv2⟩ := e3.out (k * 4 + 2)
      obtain ⟨v3, hv3⟩ := e3.out (k * 4 + 3)
      rw [hv0, hv1, hv2, hv3] at hik HV H1
      clear hv0 hv1 hv2 hv3 e3
      have HO : Hid ((wr.alloc (.cells #[.int .u8 v0, .int .u8 v1, .int .u8 v2, .int .u8 v3] 75)).ownsRow 0 5 1 (.slice ao (4 * k) cap) (4 * k) (encB (dk.take (4 * k)))) := (hrow.out.alloc _).1
      have HW : Hid (∀ (t : Nat) (u : Value), [Value.int .u8 v0, .int .u8 v1, .int .u8 v2, .int .u8 v3][t]? = some u → (wr.alloc (.cells #[.int .u8 v0, .int .u8 v1, .int .u8 v2, .int .u8 v3] 75)).cell? ((⟨wr.heap.size, 0, none⟩ : Addr).add t) = some u) := fun t u => news_new t u
      go_wp2_with (at_builtin; go_must (refine wpList_append_lies _ rfl (.tmp 14) (.tmp 15) 86 rfl 0 5 i0 (.int .u8 0) 1 1 Tryz.underlying86 hi hi0 hi1 hi2 rfl (by decide) (.slice ao (4 * k) cap) (4 * k) (encB (dk.take (4 * k))) rfl HO.out ⟨wr.heap.size, 0, none⟩ 4 4 [Value.int .u8 v0, .int .u8 v1, .int .u8 v2, .int .u8 v3] rfl rfl HW.out H1.out (by decide) (by unfold maxLen; omega) (by omega) (Nat.zero_le _) (wr.heap.size + 1) (by simp) ?_; intro g cap' w2 hown hgrow hat hlt3; have HX := hide (own_rel hb.out hrow.out hgrow hown hat); clear hown hgrow hat hlt3))
      go_roundw
      case rel => exact ⟨k + 1, cap', some ⟨g, 0, none⟩, by omega, by go_num, by rw [Nat.mul_add], by have := HX.out.2; rw [HV.out, ← encB_append, ← HT.out] at this; exact this, HX.out.1⟩
      case measure => simp [intOf]; omega
    · have HE : Hid (k = 16) := by show k = 16; omega
      go_wp2
      go_ret
      refine ⟨ao, cap, ?_, ?_, hb.out⟩
      · rw [HE.out]; rfl
      · have := hrow.out
        rw [HE.out, List.take_of_length_le (by rw [HDL.out]; omega)] at this
        exact this
end Go.Proofs.YtiabdbeejkadnaaGreatDoor

/- math/bits.Len's contract at this dump (after the kit's lay-plain.mjs). -/
namespace Go.Proofs
open Go.Shelf
def Tryz.lays125_ren : Go.Shelf.Ren := ⟨fun | 125 => 62 | 128 => 106 | 129 => 107 | n => n, fun | 3 => 3 | 46 => 126 | 51 => 171 | 53 => 173 | 4 => 4 | 5 => 5 | 9 => 9 | n => n, fun | n => n⟩
theorem Tryz.lays125 : Go.Proofs.Lays.n125 Tryz.prog Tryz.lays125_ren := {
  mixed := by kernel_rfl
  f125 := Tryz.func62.trans (congrArg some (by kernel_rfl))
  f128 := Tryz.func106.trans (congrArg some (by kernel_rfl))
  f129 := Tryz.func107.trans (congrArg some (by kernel_rfl))
  t3 := Tryz.underlying3
  a3 := Tryz.isAgg3
  z3 := Tryz.sizeOf3
  v3 := Tryz.zeroValue3
  t4 := Tryz.underlying4
  a4 := Tryz.isAgg4
  z4 := Tryz.sizeOf4
  v4 := Tryz.zeroValue4
  t5 := Tryz.underlying5
  a5 := Tryz.isAgg5
  z5 := Tryz.sizeOf5
  v5 := Tryz.zeroValue5
  t9 := Tryz.underlying9
  a9 := Tryz.isAgg9
  z9 := Tryz.sizeOf9
  v9 := Tryz.zeroValue9
  t46 := Tryz.underlying126
  a46 := Tryz.isAgg126
  z46 := Tryz.sizeOf126
  v46 := Tryz.zeroValue126
  t51 := Tryz.underlying171
  a51 := Tryz.isAgg171
  z51 := Tryz.sizeOf171
  v51 := Tryz.zeroValue171
  t53 := Tryz.underlying173
  a53 := Tryz.isAgg173
  z53 := Tryz.sizeOf173
  v53 := Tryz.zeroValue173 }
end Go.Proofs
