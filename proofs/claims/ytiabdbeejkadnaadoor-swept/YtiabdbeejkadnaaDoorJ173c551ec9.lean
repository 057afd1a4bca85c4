import Derived.Test.YtiabdbeejkadnaaDoorJ817e2a0cbe
import Derived.Deep.RegionWith
import Derived.Test.YtiabdbeejkadnaaDoorJ893c7c0032
import Derived.Test.YtiabdbeejkadnaaDoorJbcbec54be5
/- The program's queue (stage 2's code): plain.Poll. Own work of the verifier. -/
namespace Go.Proofs.YtiabdbeejkadnaaDoor
open Go.RowKit Go.Maps

/-- the world of plain.Poll at its first call -/
def pollW (w : World) : World := (w.alloc (.cells #[.slice none 0 0, .int .i64 0] 45)).alloc (.cells #[.int .i64 0, .int .i64 0, .int .i64 0, .bool false] 24)
theorem pollW_below (w : World) : Below w.heap.size w (pollW w) := (alloc_below _ _).trans ((alloc_below _ _).mono (by simp))
theorem pollW_size (w : World) : (pollW w).heap.size = w.heap.size + 2 := by simp [pollW]
theorem pollW_a (w : World) : (pollW w).heap[w.heap.size]? = some (.cells #[.slice none 0 0, .int .i64 0] 45 (0, 0)) := (Below.heap_alloc _ _ _ (by simp)).trans (heap_alloc_new w _)
theorem pollW_e (w : World) : (pollW w).heap[w.heap.size + 1]? = some (.cells #[.int .i64 0, .int .i64 0, .int .i64 0, .bool false] 24 (0, 0)) := by
  have := heap_alloc_new (w.alloc (.cells #[.slice none 0 0, .int .i64 0] 45)) (.cells #[.int .i64 0, .int .i64 0, .int .i64 0, .bool false] 24)
  have e : (w.alloc (.cells #[.slice none 0 0, .int .i64 0] 45)).heap.size = w.heap.size + 1 := by simp
  rw [e] at this; exact this
/-- what plain.Poll's error is -/
def plainErr (S : St) (num : Int) : Int × Int × Int := if (pollM S num).2.2.1 = 0 then (0, -1, 0) else pollErr S num
/-- what plain.Poll's answer is -/
def PlainAns (w w' : World) (r : ByteArray × Int × Int × St) (ao : Option Addr) (n cap : Nat) (t : Int) : Prop :=
  (r.2.2.1 ≠ 0 ∧ ao = none ∧ n = 0 ∧ cap = 0 ∧ t = 0) ∨ (r.2.2.1 = 0 ∧ t = r.2.1 ∧ n = r.1.size ∧ n ≤ 4 ∧ Row w' (fun k => w.heap.size ≤ k) 5 1 ao n cap (encB r.1.data.toList))
theorem PollEnd.plain {S : St} {num : Int} {w w1 : World} {e : Ending} (h : PollEnd S num w e w1) : ∃ ao n cap t ev, e = .returned (.tuple #[.agg #[.slice ao n cap, .int .i64 t], ev]) ∧ ErrIs w1 ev (plainErr S num).1 (plainErr S num).2.1 (plainErr S num).2.2 ∧ PlainAns w w1 (pollM S num) ao n cap t := by
  obtain ⟨av, ev, rfl, ⟨h1, rfl, h2⟩ | ⟨h1, rfl, ao, n, cap, rfl, h2, h3, h4⟩⟩ := h
  · refine ⟨none, 0, 0, 0, ev, rfl, ?_, Or.inl ⟨h1, rfl, rfl, rfl, rfl⟩⟩
    unfold plainErr; rw [if_neg h1]; exact h2
  · refine ⟨ao, n, cap, _, .nilIface, rfl, ?_, Or.inr ⟨h1, rfl, h2, h3, h4⟩⟩
    unfold plainErr; rw [if_pos h1]; exact Or.inl ⟨rfl, rfl, errOf_zero.symm⟩
/-- the end: only the wrapper's own two blocks were written since the call -/
theorem poll_fin {w w1 w2 w3 : World} {F : Nat → Prop} {xb : Nat} {S' : St} {r : ByteArray × Int × Int × St} {ao : Option Addr} {n cap : Nat} {t : Int} (HP : ProgAt w1 F xb S') (HK : Kept F (pollW w) w1) (HA : PlainAns (pollW w) w1 r ao n cap t) (hb : Below w1.heap.size w1 w2) (hF : ∀ k, F k → k < w.heap.size)
    (hk : Kept (fun k => k = w.heap.size ∨ k = w.heap.size + 1) w2 w3) : PlainAns w w3 r ao n cap t ∧ ProgAt w3 F xb S' ∧ Kept F w w3 := by
  have hz1 : w.heap.size + 2 ≤ w1.heap.size := by rw [← pollW_size]; exact HK.size
  have hz2 := hb.size
  have hz3 := hk.size
  have hsame : ∀ k, k < w1.heap.size → k ≠ w.heap.size → k ≠ w.heap.size + 1 → w3.heap[k]? = w1.heap[k]? := fun k hlt h1 h2 => (hk.block k (by omega) (fun e => e.elim h1 h2)).trans (hb.block k hlt)
  refine ⟨?_, HP.same (fun k hk' hlt => hsame k hlt (by have := hF k hk'; omega) (by have := hF k hk'; omega)) (by omega), ?_⟩
  · rcases HA with h | ⟨h1, h2, h3, h4, h5⟩
    · exact Or.inl h
    · refine Or.inr ⟨h1, h2, h3, h4, (h5.same fun a ha => ?_).mono (fun k hk => ?_)⟩
      · obtain ⟨cur, hh, _⟩ := h5.block ha
        have := h5.2 a ha
        rw [pollW_size] at this
        exact hsame _ (lt_of_heap hh) (by omega) (by omega)
      · rw [pollW_size] at hk; omega
  · have k1 : Kept F w w2 := ((Kept.refl F w).below (pollW_below w) |>.then HK).below hb
    refine ⟨hk.os.trans k1.os, hk.tape.trans k1.tape, hk.output.trans k1.output, by omega, fun k hkl hn => ?_⟩
    exact (hk.block k (by omega) (fun e => by omega)).trans (k1.block k hkl hn)

set_option maxHeartbeats 1000000 in
set_option maxRecDepth 1000000 in
theorem plain_poll (S : St) (F : Nat → Prop) (xb : Nat) (num : Int) (w : World) (h : ProgAt w F xb S) (hg : GCell w) (h0 : ¬ F 0) (hw : (Lit.int .i64 num).wf = true) :
    Calls Tryd.prog 13 #[.pointer (some ⟨xb, 0, none⟩), .int .i64 num] w fun e w' => ∃ ao n cap t, e = .returned (.tuple #[.agg #[.slice ao n cap, .int .i64 t], .agg #[.int .i64 (plainErr S num).1, .int .i64 (plainErr S num).2.1, .int .i64 (plainErr S num).2.2, .bool true]]) ∧ PlainAns w w' (pollM S num) ao n cap t ∧ ProgAt w' F xb (pollM S num).2.2.2 ∧ Kept F w w' := by
  have H : Hid (ProgAt w F xb S) := h
  have HF : Hid (∀ k, F k → k < w.heap.size) := h.lt
  have HG : Hid (GCell w) := hg
  have HW := hide hw
  clear h hg hw
  generalize hA : plainErr S num = r
  obtain ⟨k, n, t⟩ := r
  have HA : Hid (plainErr S num = (k, n, t)) := hA
  clear hA
  go_enter Tryd.func13, Tryd.ntmps13
  go_wp2_with fail
  refine (prog_poll S F xb num (pollW w) (H.out.same (fun k _ hk => (pollW_below w).block k hk) (pollW_below w).size) HW.out).mono ?_
  rintro e w1 ⟨hPE, hP, hK⟩
  obtain ⟨ao, m, cap, tt, ev, rfl, hE, hPA⟩ := hPE.plain
  rw [HA.out] at hE
  have HPA := hide hPA
  clear hPE hPA
  have hz1 : w.heap.size + 2 ≤ w1.heap.size := by rw [← pollW_size]; exact hK.size
  have hA1 : w1.heap[w.heap.size]? = some (.cells #[.slice none 0 0, .int .i64 0] 45 (0, 0)) := (hK.block w.heap.size (by rw [pollW_size]; omega) (fun e => by have := HF.out _ e; omega)).trans (pollW_a w)
  have hE1 : w1.heap[w.heap.size + 1]? = some (.cells #[.int .i64 0, .int .i64 0, .int .i64 0, .bool false] 24 (0, 0)) := (hK.block (w.heap.size + 1) (by rw [pollW_size]; omega) (fun e => by have := HF.out _ e; omega)).trans (pollW_e w)
  have hg1 : GCell w1 := (HG.out.below (pollW_below w)).kept hK h0
  have HP := hide hP
  have HK := hide hK
  have HE := hide hE
  have HG1 := hide hg1
  clear hP hK hE hg1
  have hz0 : w.heap.size < w1.heap.size := by omega
  have hz01 : w.heap.size + 1 < w1.heap.size := by omega
  have HA1 := hide hA1
  have HE1 := hide hE1
  obtain ⟨x0, x1, x2, x3⟩ := cells2 hA1
  obtain ⟨⟨y0, y1, y2, y3⟩, y4, y5, y6, y7⟩ := cells4 hE1
  clear hA1 hE1
  have hT : Calls Tryd.prog 18 #[ev] ((w1.alloc (.cells #[.slice ao m cap, .int .i64 tt] 45)).drew) fun e w2 => e = .returned (.agg #[.int .i64 k, .int .i64 n, .int .i64 t, .bool true]) ∧ w2.heap[w.heap.size]? = some (.cells #[.slice none 0 0, .int .i64 0] 45 (0, 0)) ∧ w2.heap[w.heap.size + 1]? = some (.cells #[.int .i64 0, .int .i64 0, .int .i64 0, .bool false] 24 (0, 0)) ∧ w2.heap[w1.heap.size]? = some (.cells #[.slice ao m cap, .int .i64 tt] 45 (0, 0)) ∧ Below w1.heap.size w1 w2 := by
    refine (told_is (k := k) (r := n) (t := t) (w := (w1.alloc (.cells #[.slice ao m cap, .int .i64 tt] 45)).drew) (HE.out.same (fun b hb => Below.heap_alloc w1 _ b hb)) (HG1.out.below ((alloc_below w1 _).drew))).mono ?_
    rintro e w2 ⟨rfl, hb⟩
    have hl : ∀ j, j < w1.heap.size + 1 → w2.heap[j]? = (w1.alloc (.cells #[.slice ao m cap, .int .i64 tt] 45)).heap[j]? := fun j hj => hb.block j (by show j < (w1.alloc _).heap.size; simpa using hj)
    have hl' : ∀ j, j < w1.heap.size → w2.heap[j]? = w1.heap[j]? := fun j hj => (hl j (by omega)).trans (Below.heap_alloc _ _ _ hj)
    exact ⟨rfl, (hl' _ hz0).trans HA1.out, (hl' _ hz01).trans HE1.out, (hl _ (by omega)).trans (heap_alloc_new w1 _), ((alloc_below w1 (.cells #[.slice ao m cap, .int .i64 tt] 45)).drew).trans (hb.mono (by show _ ≤ (w1.alloc _).heap.size; simp))⟩
  have HT := hide hT
  clear hT
  go_wp2
  go_region_with (go_at_call 18; refine HT.out.mono ?_; rintro e w2 ⟨rfl, h1, h2, h3, hb⟩; obtain ⟨z0, z1, z2, z3⟩ := cells2 h1; obtain ⟨⟨v0, v1, v2, v3⟩, v4, v5, v6, v7⟩ := cells4 h2; obtain ⟨r0, r1, r2, r3⟩ := cells2 h3; have HB := hide hb; clear hb h1 h2 h3)
  all_goals go_wp2
  all_goals have hk6 : Kept (fun k => k = w.heap.size ∨ k = w.heap.size + 1) w2 ((((((w2.setCell ⟨w.heap.size, 0, none⟩ (.slice ao m cap)).setCell ⟨w.heap.size, 1, none⟩ (.int .i64 tt)).setCell ⟨w.heap.size + 1, 0, none⟩ (.int .i64 k)).setCell ⟨w.heap.size + 1, 1, none⟩ (.int .i64 n)).setCell ⟨w.heap.size + 1, 2, none⟩ (.int .i64 t)).setCell ⟨w.heap.size + 1, 3, none⟩ (.bool true)) := ((((((Kept.refl _ w2).setCell (p := ⟨w.heap.size, 0, none⟩) (Or.inl (Or.inl rfl)) _).setCell (p := ⟨w.heap.size, 1, none⟩) (Or.inl (Or.inl rfl)) _).setCell (p := ⟨w.heap.size + 1, 0, none⟩) (Or.inl (Or.inr rfl)) _).setCell (p := ⟨w.heap.size + 1, 1, none⟩) (Or.inl (Or.inr rfl)) _).setCell (p := ⟨w.heap.size + 1, 2, none⟩) (Or.inl (Or.inr rfl)) _).setCell (p := ⟨w.heap.size + 1, 3, none⟩) (Or.inl (Or.inr rfl)) _
  all_goals exact bodyPost_ret (v := .tuple #[.agg #[.slice ao m cap, .int .i64 tt], .agg #[.int .i64 k, .int .i64 n, .int .i64 t, .bool true]]) (by simp [results, Tryd.results13, go_sem, z0, z1, v0, v1, v2, v3]) rfl ⟨ao, m, cap, tt, rfl, poll_fin HP.out HK.out HPA.out HB.out HF.out hk6⟩
end Go.Proofs.YtiabdbeejkadnaaDoor

/- The keeps: calls on the world's queue. Own work of the verifier. -/
namespace Go.Proofs.YtiabdbeejkadnaaDoor
open Go.RowKit Go.Maps

section
variable {w w' : World} {F Fx Fk : Nat → Prop} {wb xb : Nat} {S S' : St} {rs : List KR} {ar : Option Addr} {cr : Nat}
/-- behind a call on the queue alone -/
theorem KAt.lift (hP : ∀ k, Fx k → k < w.heap.size) (hB : KBlk w Fk wb xb rs ar cr) (hd : ∀ k, Fx k → ¬ Fk k) (hF : ∀ k, F k ↔ (Fx k ∨ Fk k)) {Fn : Nat → Prop} (hP' : ProgAt w' Fn xb S') (hFn : ∀ k, Fn k → Fx k ∨ (w.heap.size ≤ k ∧ k < w'.heap.size)) (hK : Kept Fx w w') : KAt w' (Foot F w w') wb xb S' rs ∧ Kept F w w' := by
  have hz := hK.size
  have hB' := hB.kept hK (fun k hk e => hd k e hk)
  refine ⟨⟨fun k => Fx k ∨ (w.heap.size ≤ k ∧ k < w'.heap.size), Fk, ar, cr, hP'.wid hFn (fun k hk => ?_), hB', fun k hk e => ?_, fun k => ?_⟩, hK.mono fun k _ e => (hF k).2 (Or.inl e)⟩
  · rcases hk with e | e
    · have := hP k e; omega
    · exact e.2
  · rcases hk with e' | e'
    · exact hd k e' e
    · have := hB.ltF k e; omega
  · unfold Foot
    rw [hF k]
    constructor
    · rintro ((e | e) | e)
      · exact Or.inl (Or.inl e)
      · exact Or.inr e
      · exact Or.inl (Or.inr e)
    · rintro ((e | e) | e)
      · exact Or.inl (Or.inl e)
      · exact Or.inr e
      · exact Or.inl (Or.inr e)
theorem KAt.q0 (h : KAt w F wb xb S rs) : w.cell? ⟨wb, 0, none⟩ = some (.pointer (some ⟨xb, 0, none⟩)) ∧ wb < w.heap.size := by
  obtain ⟨Fx, Fk, ar, cr, hP, hB, hd, hF⟩ := h
  exact ⟨hB.c0, lt_of_heap hB.blk⟩
theorem KAt.below (h : KAt w F wb xb S rs) (hb : Below w.heap.size w w') : KAt w' F wb xb S rs := by
  obtain ⟨Fx, Fk, ar, cr, hP, hB, hd, hF⟩ := h
  exact ⟨Fx, Fk, ar, cr, hP.same (fun k _ hk => hb.block k hk) hb.size, hB.below hb, hd, hF⟩
theorem KAt.wf (h : KAt w F wb xb S rs) : Wf S := by
  obtain ⟨Fx, Fk, ar, cr, hP, _⟩ := h
  exact hP.wf
end
theorem keep_step (S : St) (rs : List KR) (F : Nat → Prop) (wb xb : Nat) (w : World) (h : KAt w F wb xb S rs) (hl : S.last ≤ 1000000) :
    Calls Tryd.prog 11 #[.pointer (some ⟨xb, 0, none⟩)] w fun e w' => (∃ ao cap, e = .returned (.tuple #[.agg #[.bool ((nextM S).getD cmdZ).write, .int .i64 ((nextM S).getD cmdZ).page, .int .i64 ((nextM S).getD cmdZ).count, .slice ao ((nextM S).getD cmdZ).requests.length cap], .bool (nextM S).isSome])) ∧ KAt w' (Foot F w w') wb xb (stepM S).2 rs ∧ Kept F w w' := by
  obtain ⟨Fx, Fk, ar, cr, hP, hB, hd, hF⟩ := h
  refine (prog_step S Fx xb w hP hl).mono ?_
  rintro e w1 ⟨ao, n, cap, F', rfl, hn, hrow, hP1, hF1, hF2, hK1⟩
  subst hn
  exact ⟨⟨ao, cap, rfl⟩, KAt.lift hP.lt hB hd hF hP1 hF2 hK1⟩
theorem keep_tick (S : St) (rs : List KR) (F : Nat → Prop) (wb xb : Nat) (w : World) (h : KAt w F wb xb S rs) (hn : S.now ≤ 1000000000) :
    Calls Tryd.prog 14 #[.pointer (some ⟨xb, 0, none⟩)] w fun e w' => e = .returned (.tuple #[]) ∧ KAt w' (Foot F w w') wb xb { S with now := S.now + 1 } rs ∧ Kept F w w' := by
  have hw := h.wf
  obtain ⟨Fx, Fk, ar, cr, hP, hB, hd, hF⟩ := h
  refine (prog_tick S Fx xb w hP ⟨hw.now, hn⟩).mono ?_
  rintro e w1 ⟨rfl, hP1, hK1⟩
  exact ⟨rfl, KAt.lift hP.lt hB hd hF hP1 (fun k hk => hk) hK1⟩
theorem keep_complete (S : St) (rs : List KR) (F : Nat → Prop) (wb xb : Nat) (kk : Int) (fault : Bool) (w : World) (h : KAt w F wb xb S rs) (hg : GCell w) (h0 : ¬ F 0) (hn : S.now ≤ 1000000000) (hl : S.last ≤ 1000000) :
    Calls Tryd.prog 12 #[.pointer (some ⟨xb, 0, none⟩), .int .i64 kk, .bool fault] w fun e w' => e = .returned (.agg #[.int .i64 (if (completeM S kk fault).1 then 0 else 10), .int .i64 (-1), .int .i64 0, .bool true]) ∧ KAt w' (Foot F w w') wb xb (completeM S kk fault).2 rs ∧ Kept F w w' := by
  obtain ⟨Fx, Fk, ar, cr, hP, hB, hd, hF⟩ := h
  refine (plain_complete S Fx xb kk fault w hP hg (fun e => h0 ((hF 0).2 (Or.inl e))) hn hl).mono ?_
  rintro e w1 ⟨rfl, hP1, hK1⟩
  exact ⟨rfl, KAt.lift hP.lt hB hd hF hP1 (fun k hk => hk) hK1⟩
theorem keep_plainPoll (S : St) (rs : List KR) (F : Nat → Prop) (wb xb : Nat) (num : Int) (w : World) (h : KAt w F wb xb S rs) (hg : GCell w) (h0 : ¬ F 0) (hw : (Lit.int .i64 num).wf = true) :
    Calls Tryd.prog 13 #[.pointer (some ⟨xb, 0, none⟩), .int .i64 num] w fun e w' => (∃ ao n cap t, e = .returned (.tuple #[.agg #[.slice ao n cap, .int .i64 t], .agg #[.int .i64 (plainErr S num).1, .int .i64 (plainErr S num).2.1, .int .i64 (plainErr S num).2.2, .bool true]]) ∧ PlainAns w w' (pollM S num) ao n cap t) ∧ KAt w' (Foot F w w') wb xb (pollM S num).2.2.2 rs ∧ Kept F w w' := by
  obtain ⟨Fx, Fk, ar, cr, hP, hB, hd, hF⟩ := h
  refine (plain_poll S Fx xb num w hP hg (fun e => h0 ((hF 0).2 (Or.inl e))) hw).mono ?_
  rintro e w1 ⟨ao, n, cap, t, rfl, hA, hP1, hK1⟩
  exact ⟨⟨ao, n, cap, t, rfl, hA⟩, KAt.lift hP.lt hB hd hF hP1 (fun k hk => Or.inl hk) hK1⟩
end Go.Proofs.YtiabdbeejkadnaaDoor
