import Derived.Test.YtiabdbeejkadnabGreatDoorJb72f04db65
import Derived.Deep.RegionWith
import Derived.Test.YtiabdbeejkadnabGreatDoorJ5d202420ae
import Derived.Test.YtiabdbeejkadnabGreatDoorJ6fc0213a5c
import Derived.Test.YtiabdbeejkadnabGreatDoorJ0c3df23578
/- The program's queue (stage 2's code): plain.Poll. Own work of the verifier. -/
namespace Go.Proofs.YtiabdbeejkadnabGreatDoor
open Go.RowKit Go.Maps

/-- the world of plain.Poll at its first call -/
def pollW (w : World) : World := (w.alloc (.cells #[.slice none 0 0, .int .i64 0] 39)).alloc (.cells #[.int .i64 0, .int .i64 0, .int .i64 0, .bool false] 35)
theorem pollW_below (w : World) : Below w.heap.size w (pollW w) := (alloc_below _ _).trans ((alloc_below _ _).mono (by simp))
theorem pollW_size (w : World) : (pollW w).heap.size = w.heap.size + 2 := by simp [pollW]
theorem pollW_a (w : World) : (pollW w).heap[w.heap.size]? = some (.cells #[.slice none 0 0, .int .i64 0] 39 (0, 0)) := (Below.heap_alloc _ _ _ (by simp)).trans (heap_alloc_new w _)
theorem pollW_e (w : World) : (pollW w).heap[w.heap.size + 1]? = some (.cells #[.int .i64 0, .int .i64 0, .int .i64 0, .bool false] 35 (0, 0)) := by
  have := heap_alloc_new (w.alloc (.cells #[.slice none 0 0, .int .i64 0] 39)) (.cells #[.int .i64 0, .int .i64 0, .int .i64 0, .bool false] 35)
  have e : (w.alloc (.cells #[.slice none 0 0, .int .i64 0] 39)).heap.size = w.heap.size + 1 := by simp
  rw [e] at this; exact this
/-- what plain.Poll's error is -/
def plainErr (S : St) (num : Int) : Int × Int × Int := if (pollM S num).2.2.1 = 0 then (0, -1, 0) else pollErr S num
/-- what plain.Poll's answer is -/
def PlainAns (w w' : World) (r : ByteArray × Int × Int × St) (ao : Option Addr) (n cap : Nat) (t : Int) : Prop :=
  (r.2.2.1 ≠ 0 ∧ ao = none ∧ n = 0 ∧ cap = 0 ∧ t = 0) ∨ (r.2.2.1 = 0 ∧ t = r.2.1 ∧ n = r.1.size ∧ n ≤ 4 ∧ Row w' (fun k => w.heap.size ≤ k) 5 1 ao n cap (encB r.1.data.toList))
theorem PollEnd.plain {S : St} {num : Int} {w w1 : World} {e : Ending} (h : PollEnd S num w e w1) : ∃ ao n cap t ev, e = .returned (.tuple #[.agg #[.slice ao n cap, .int .i64 t], ev]) ∧ ErrIs w1 ev (plainErr S num).1 (plainErr S num).2.1 (plainErr S num).2.2 ∧ PlainAns w w1 (pollM S num) ao n cap t := by
  obtain ⟨av, ev, rfl, ⟨h1, rfl, h2⟩ | ⟨h1, rfl, ao, n, cap, rfl, h2, h3, h4⟩⟩ := h
  · refine ⟨none, 0, 0, 0, ev, rfl, ?_, Or.inl ⟨h1, rfl, rfl, rfl, rfl⟩⟩
    unfold plainErr; rw [if_neg h1]; exact h2
  · refine ⟨ao, n, cap, _, .nilIface, rfl, ?_, Or.inr ⟨h1, rfl, h2, h3, h4⟩⟩
    unfold plainErr; rw [if_pos h1]; exact Or.inl ⟨rfl, rfl, errOf_zero.symm⟩
/-- the end: only the wrapper's own two blocks were written since the call -/
theorem poll_fin {w w1 w2 w3 : World} {F : Nat → Prop} {xb : Nat} {S' : St} {r : ByteArray × Int × Int × St} {ao : Option Addr} {n cap : Nat} {t : Int} (HP : ProgAt w1 F xb S') (HK : Kept F (pollW w) w1) (HA : PlainAns (pollW w) w1 r ao n cap t) (hb : Below w1.heap.size w1 w2) (hF : ∀ k, F k → k < w.heap.size)
    (hk : Kept (fun k => k = w.heap.size ∨ k = w.heap.size + 1) w2 w3) : PlainAns w w3 r ao n cap t ∧ ProgAt w3 F xb S' ∧ Kept F w w3 := by
  have hz1 : w.heap.size + 2 ≤ w1.heap.size := by rw [← pollW_size]; exact HK.size
  have hz2 := hb.size
  have hz3 := hk.size
  have hsame : ∀ k, k < w1.heap.size → k ≠ w.heap.size → k ≠ w.heap.size + 1 → w3.heap[k]? = w1.heap[k]? := fun k hlt h1 h2 => (hk.block k (by omega) (fun e => e.elim h1 h2)).trans (hb.block k hlt)
  refine ⟨?_, HP.same (fun k hk' hlt => hsame k hlt (by have := hF k hk'; omega) (by have := hF k hk'; omega)) (by omega), ?_⟩
  · rcases HA with h | ⟨h1, h2, h3, h4, h5⟩
    · exact Or.inl h
    · refine Or.inr ⟨h1, h2, h3, h4, (h5.same fun a ha => ?_).mono (fun k hk => ?_)⟩
      · obtain ⟨cur, hh, _⟩ := h5.block ha
        have := h5.2 a ha
        rw [pollW_size] at this
        exact hsame _ (lt_of_heap hh) (by omega) (by omega)
      · rw [pollW_size] at hk; omega
  · have k1 : Kept F w w2 := ((Kept.refl F w).below (pollW_below w) |>.then HK).below hb
    refine ⟨hk.os.trans k1.os, hk.tape.trans k1.tape, hk.output.trans k1.output, by omega, fun k hkl hn => ?_⟩
    exact (hk.block k (by omega) (fun e => by omega)).trans (k1.block k hkl hn)

set_option maxHeartbeats 1000000 in
set_option maxRecDepth 1000000 in
theorem plain_poll (S : St) (F : Nat → Prop) (xb : Nat) (num : Int) (w : World) (h : ProgAt w F xb S) (hg : GCell w) (h0 : ¬ F 0) (hw : (Lit.int .i64 num).wf = true) :
    Calls Tryz.prog 10 #[.pointer (some ⟨xb, 0, none⟩), .int .i64 num] w fun e w' => ∃ ao n cap t, e = .returned (.tuple #[.agg #[.slice ao n cap, .int .i64 t], .agg #[.int .i64 (plainErr S num).1, .int .i64 (plainErr S num).2.1, .int .i64 (plainErr S num).2.2, .bool true]]) ∧ PlainAns w w' (pollM S num) ao n cap t ∧ ProgAt w' F xb (pollM S num).2.2.2 ∧ Kept F w w' := by
  have H : Hid (ProgAt w F xb S) := h
  have HF : Hid (∀ k, F k → k < w.heap.size) := h.lt
  have HG : Hid (GCell w) := hg
  have HW := hide hw
  clear h hg hw
  generalize hA : plainErr S num = r
  obtain ⟨k, n, t⟩ := r
  have HA : Hid (plainErr S num = (k, n, t)) := hA
  clear hA
  go_enter Tryz.func10, Tryz.ntmps10
  go_wp2_with fail
  refine (prog_poll S F xb num (pollW w) (H.out.same (fun k _ hk => (pollW_below w).block k hk) (pollW_below w).size) HW.out).mono ?_
  rintro e w1 ⟨hPE, hP, hK⟩
  obtain ⟨ao, m, cap, tt, ev, rfl, hE, hPA⟩ := hPE.plain
  rw [HA.out] at hE
  have HPA := hide hPA
  clear hPE hPA
  have hz1 : w.heap.size + 2 ≤ w1.heap.size := by rw [← pollW_size]; exact hK.size
  have hA1 : w1.heap[w.heap.size]? = some (.cells #[.slice none 0 0, .int .i64 0] 39 (0, 0)) := (hK.block w.heap.size (by rw [pollW_size]; omega) (fun e => by have := HF.out _ e; omega)).trans (pollW_a w)
  have hE1 : w1.heap[w.heap.size + 1]? = some (.cells #[.int .i64 0, .int .i64 0, .int .i64 0, .bool false] 35 (0, 0)) := (hK.block (w.heap.size + 1) (by rw [pollW_size]; omega) (fun e => by have := HF.out _ e; omega)).trans (pollW_e w)
  have hg1 : GCell w1 := (HG.out.below (pollW_below w)).kept hK h0
  have HP := hide hP
  have HK := hide hK
  have HE := hide hE
  have HG1 := hide hg1
  clear hP hK hE hg1
  have hz0 : w.heap.size < w1.heap.size := by omega
  have hz01 : w.heap.size + 1 < w1.heap.size := by omega
  have HA1 := hide hA1
  have HE1 := hide hE1
  obtain ⟨x0, x1, x2, x3⟩ := cells2 hA1
  obtain ⟨⟨y0, y1, y2, y3⟩, y4, y5, y6, y7⟩ := cells4 hE1
  clear hA1 hE1
  have hT : Calls Tryz.prog 25 #[ev] ((w1.alloc (.cells #[.slice ao m cap, .int .i64 tt] 39)).drew) fun e w2 => e = .returned (.agg #[.int .i64 k, .int .i64 n, .int .i64 t, .bool true]) ∧ w2.heap[w.heap.size]? = some (.cells #[.slice none 0 0, .int .i64 0] 39 (0, 0)) ∧ w2.heap[w.heap.size + 1]? = some (.cells #[.int .i64 0, .int .i64 0, .int .i64 0, .bool false] 35 (0, 0)) ∧ w2.heap[w1.heap.size]? = some (.cells #[.slice ao m cap, .int .i64 tt] 39 (0, 0)) ∧ Below w1.heap.size w1 w2 := by
    refine (told_is (k := k) (r := n) (t := t) (w := (w1.alloc (.cells #[.slice ao m cap, .int .i64 tt] 39)).drew) (HE.out.same (fun b hb => Below.heap_alloc w1 _ b hb)) (HG1.out.below ((alloc_below w1 _).drew))).mono ?_
    rintro e w2 ⟨rfl, hb⟩
    have hl : ∀ j, j < w1.heap.size + 1 → w2.heap[j]? = (w1.alloc (.cells #[.slice ao m cap, .int .i64 tt] 39)).heap[j]? := fun j hj => hb.block j (by show j < (w1.alloc _).heap.size; simpa using hj)
    have hl' : ∀ j, j < w1.heap.size → w2.heap[j]? = w1.heap[j]? := fun j hj => (hl j (by omega)).trans (Below.heap_alloc _ _ _ hj)
    exact ⟨rfl, (hl' _ hz0).trans HA1.out, (hl' _ hz01).trans HE1.out, (hl _ (by omega)).trans (heap_alloc_new w1 _), ((alloc_below w1 (.cells #[.slice ao m cap, .int .i64 tt] 39)).drew).trans (hb.mono (by show _ ≤ (w1.alloc _).heap.size; simp))⟩
  have HT := hide hT
  clear hT
  go_wp2
  go_region_with (go_at_call 25; refine HT.out.mono ?_; rintro e w2 ⟨rfl, h1, h2, h3, hb⟩; obtain ⟨z0, z1, z2, z3⟩ := cells2 h1; obtain ⟨⟨v0, v1, v2, v3⟩, v4, v5, v6, v7⟩ := cells4 h2; obtain ⟨r0, r1, r2, r3⟩ := cells2 h3; have HB := hide hb; clear hb h1 h2 h3)
  all_goals go_wp2
  all_goals have hk6 : Kept (fun k => k = w.heap.size ∨ k = w.heap.size + 1) w2 ((((((w2.setCell ⟨w.heap.size, 0, none⟩ (.slice ao m cap)).setCell ⟨w.heap.size, 1, none⟩ (.int .i64 tt)).setCell ⟨w.heap.size + 1, 0, none⟩ (.int .i64 k)).setCell ⟨w.heap.size + 1, 1, none⟩ (.int .i64 n)).setCell ⟨w.heap.size + 1, 2, none⟩ (.int .i64 t)).setCell ⟨w.heap.size + 1, 3, none⟩ (.bool true)) := ((((((Kept.refl _ w2).setCell (p := ⟨w.heap.size, 0, none⟩) (Or.inl (Or.inl rfl)) _).setCell (p := ⟨w.heap.size, 1, none⟩) (Or.inl (Or.inl rfl)) _).setCell (p := ⟨w.heap.size + 1, 0, none⟩) (Or.inl (Or.inr rfl)) _).setCell (p := ⟨w.heap.size + 1, 1, none⟩) (Or.inl (Or.inr rfl)) _).setCell (p := ⟨w.heap.size + 1, 2, none⟩) (Or.inl (Or.inr rfl)) _).setCell (p := ⟨w.heap.size + 1, 3, none⟩) (Or.inl (Or.inr rfl)) _
  all_goals exact bodyPost_ret (v := .tuple #[.agg #[.slice ao m cap, .int .i64 tt], .agg #[.int .i64 k, .int .i64 n, .int .i64 t, .bool true]]) (by simp [results, Tryz.results10, go_sem, z0, z1, v0, v1, v2, v3]) rfl ⟨ao, m, cap, tt, rfl, poll_fin HP.out HK.out HPA.out HB.out HF.out hk6⟩
end Go.Proofs.YtiabdbeejkadnabGreatDoor

/- The keeps: calls on the world's queue. Own work of the verifier. -/
namespace Go.Proofs.YtiabdbeejkadnabGreatDoor
open Go.RowKit Go.Maps

section
variable {w w' : World} {F Fx Fk : Nat → Prop} {wb xb : Nat} {S S' : St} {rs : List KR} {ar : Option Addr} {cr : Nat}
/-- behind a call on the queue alone -/
theorem KAt.lift (hP : ∀ k, Fx k → k < w.heap.size) (hB : KBlk w Fk wb xb rs ar cr) (hd : ∀ k, Fx k → ¬ Fk k) (hF : ∀ k, F k ↔ (Fx k ∨ Fk k)) {Fn : Nat → Prop} (hP' : ProgAt w' Fn xb S') (hFn : ∀ k, Fn k → Fx k ∨ (w.heap.size ≤ k ∧ k < w'.heap.size)) (hK : Kept Fx w w') : KAt w' (Foot F w w') wb xb S' rs ∧ Kept F w w' := by
  have hz := hK.size
  have hB' := hB.kept hK (fun k hk e => hd k e hk)
  refine ⟨⟨fun k => Fx k ∨ (w.heap.size ≤ k ∧ k < w'.heap.size), Fk, ar, cr, hP'.wid hFn (fun k hk => ?_), hB', fun k hk e => ?_, fun k => ?_⟩, hK.mono fun k _ e => (hF k).2 (Or.inl e)⟩
  · rcases hk with e | e
    · have := hP k e; omega
    · exact e.2
  · rcases hk with e' | e'
    · exact hd k e' e
    · have := hB.ltF k e; omega
  · unfold Foot
    rw [hF k]
    constructor
    · rintro ((e | e) | e)
      · exact Or.inl (Or.inl e)
      · exact Or.inr e
      · exact Or.inl (Or.inr e)
    · rintro ((e | e) | e)
      · exact Or.inl (Or.inl e)
      · exact Or.inr e
      · exact Or.inl (Or.inr e)
theorem KAt.q0 (h : KAt w F wb xb S rs) : w.cell? ⟨wb, 0, none⟩ = some (.pointer (some ⟨xb, 0, none⟩)) ∧ wb < w.heap.size := by
  obtain ⟨Fx, Fk, ar, cr, hP, hB, hd, hF⟩ := h
  exact ⟨hB.c0, lt_of_heap hB.blk⟩
theorem KAt.below (h : KAt w F wb xb S rs) (hb : Below w.heap.size w w') : KAt w' F wb xb S rs := by
  obtain ⟨Fx, Fk, ar, cr, hP, hB, hd, hF⟩ := h
  exact ⟨Fx, Fk, ar, cr, hP.same (fun k _ hk => hb.block k hk) hb.size, hB.below hb, hd, hF⟩
theorem KAt.wf (h : KAt w F wb xb S rs) : Wf S := by
  obtain ⟨Fx, Fk, ar, cr, hP, _⟩ := h
  exact hP.wf
end
theorem keep_step (S : St) (rs : List KR) (F : Nat → Prop) (wb xb : Nat) (w : World) (h : KAt w F wb xb S rs) (hl : S.last ≤ 1000000) :
    Calls Tryz.prog 12 #[.pointer (some ⟨xb, 0, none⟩)] w fun e w' => (∃ ao cap, e = .returned (.tuple #[.agg #[.bool ((nextM S).getD cmdZ).write, .int .i64 ((nextM S).getD cmdZ).page, .int .i64 ((nextM S).getD cmdZ).count, .slice ao ((nextM S).getD cmdZ).requests.length cap], .bool (nextM S).isSome])) ∧ KAt w' (Foot F w w') wb xb (stepM S).2 rs ∧ Kept F w w' := by
  obtain ⟨Fx, Fk, ar, cr, hP, hB, hd, hF⟩ := h
  refine (prog_step S Fx xb w hP hl).mono ?_
  rintro e w1 ⟨ao, n, cap, F', rfl, hn, hrow, hP1, hF1, hF2, hK1⟩
  subst hn
  exact ⟨⟨ao, cap, rfl⟩, KAt.lift hP.lt hB hd hF hP1 hF2 hK1⟩
theorem keep_tick (S : St) (rs : List KR) (F : Nat → Prop) (wb xb : Nat) (w : World) (h : KAt w F wb xb S rs) (hn : S.now ≤ 1000000000) :
    Calls Tryz.prog 33 #[.pointer (some ⟨xb, 0, none⟩)] w fun e w' => e = .returned (.tuple #[]) ∧ KAt w' (Foot F w w') wb xb { S with now := S.now + 1 } rs ∧ Kept F w w' := by
  have hw := h.wf
  obtain ⟨Fx, Fk, ar, cr, hP, hB, hd, hF⟩ := h
  refine (prog_tick S Fx xb w hP ⟨hw.now, hn⟩).mono ?_
  rintro e w1 ⟨rfl, hP1, hK1⟩
  exact ⟨rfl, KAt.lift hP.lt hB hd hF hP1 (fun k hk => hk) hK1⟩
theorem keep_complete (S : St) (rs : List KR) (F : Nat → Prop) (wb xb : Nat) (kk : Int) (fault : Bool) (w : World) (h : KAt w F wb xb S rs) (hg : GCell w) (h0 : ¬ F 0) (hn : S.now ≤ 1000000000) (hl : S.last ≤ 1000000) :
    Calls Tryz.prog 13 #[.pointer (some ⟨xb, 0, none⟩), .int .i64 kk, .bool fault] w fun e w' => e = .returned (.agg #[.int .i64 (if (completeM S kk fault).1 then 0 else 10), .int .i64 (-1), .int .i64 0, .bool true]) ∧ KAt w' (Foot F w w') wb xb (completeM S kk fault).2 rs ∧ Kept F w w' := by
  obtain ⟨Fx, Fk, ar, cr, hP, hB, hd, hF⟩ := h
  refine (plain_complete S Fx xb kk fault w hP hg (fun e => h0 ((hF 0).2 (Or.inl e))) hn hl).mono ?_
  rintro e w1 ⟨rfl, hP1, hK1⟩
  exact ⟨rfl, KAt.lift hP.lt hB hd hF hP1 (fun k hk => hk) hK1⟩
theorem keep_plainPoll (S : St) (rs : List KR) (F : Nat → Prop) (wb xb : Nat) (num : Int) (w : World) (h : KAt w F wb xb S rs) (hg : GCell w) (h0 : ¬ F 0) (hw : (Lit.int .i64 num).wf = true) :
    Calls Tryz.prog 10 #[.pointer (some ⟨xb, 0, none⟩), .int .i64 num] w fun e w' => (∃ ao n cap t, e = .returned (.tuple #[.agg #[.slice ao n cap, .int .i64 t], .agg #[.int .i64 (plainErr S num).1, .int .i64 (plainErr S num).2.1, .int .i64 (plainErr S num).2.2, .bool true]]) ∧ PlainAns w w' (pollM S num) ao n cap t) ∧ KAt w' (Foot F w w') wb xb (pollM S num).2.2.2 rs ∧ Kept F w w' := by
  obtain ⟨Fx, Fk, ar, cr, hP, hB, hd, hF⟩ := h
  refine (plain_poll S Fx xb num w hP hg (fun e => h0 ((hF 0).2 (Or.inl e))) hw).mono ?_
  rintro e w1 ⟨ao, n, cap, t, rfl, hA, hP1, hK1⟩
  exact ⟨⟨ao, n, cap, t, rfl, hA⟩, KAt.lift hP.lt hB hd hF hP1 (fun k hk => Or.inl hk) hK1⟩
end Go.Proofs.YtiabdbeejkadnabGreatDoor

/- How a command lies in memory. Own work of the verifier. -/
namespace Go.Proofs.YtiabdbeejkadnabGreatDoor
open Go.RowKit

def encC (x : Cmd × Option Addr × Nat) : List Value := [.bool x.1.write, .int .i64 x.1.page, .int .i64 x.1.count, .slice x.2.1 x.1.requests.length x.2.2]
theorem info_cmd : (Tryz.prog.info? 45).map (fun i => (i.zero, i.size, i.bytes)) = some (some (.agg #[.bool false, .int .i64 0, .int .i64 0, .slice none 0 0]), 4, 48) := by kernel_rfl
theorem encC_at (l : List (Cmd × Option Addr × Nat)) (i t : Nat) (hi : i < l.length) (ht : t < 4) : (l.flatMap encC)[i * 4 + t]? = (encC l[i])[t]? := by
  induction l generalizing i with
  | nil => simp at hi
  | cons r l ih =>
    cases i with
    | zero =>
      simp only [List.flatMap_cons, Nat.zero_mul, Nat.zero_add]
      rw [List.getElem?_append_left (by simpa [encC] using ht)]
      simp
    | succ i =>
      simp only [List.flatMap_cons]
      rw [List.getElem?_append_right (by simp [encC]; omega)]
      have e : (i + 1) * 4 + t - (encC r).length = i * 4 + t := by simp [encC]; omega
      rw [e, ih i (by simpa using hi)]
      simp
end Go.Proofs.YtiabdbeejkadnabGreatDoor

/- The program's queue: Flights. Own work of the verifier. -/
namespace Go.Proofs.YtiabdbeejkadnabGreatDoor
open Go.RowKit Go.Maps Go.Sort Go.Shelf

theorem flight_in {w : World} {F : Nat → Prop} {xb : Nat} {S : St} {bm : Nat} {D : DataW Unit} {eb : Int → Nat} {c : Array Value} {af : Option Addr} {cf : Nat} {vs : List (Option Addr × Nat)} (h : ProgBlk w F xb S [] bm D eb c af cf vs) {k : Nat} (hk : k < S.flights.length) :
    CmdIn w eb (S.flights[k]).requests (S.flights[k]).write (S.flights[k]).page ((S.flights[k]).page + (S.flights[k]).count - 1) ∧ (0 ≤ (S.flights[k]).page ∧ (S.flights[k]).page < 16) ∧ 0 ≤ (S.flights[k]).page + (S.flights[k]).count - 1 ∧ (S.flights[k]).page + (S.flights[k]).count - 1 < 16 := by
  have hc := h.wf.fl _ (List.getElem_mem hk)
  have hfind : ∀ n ∈ (S.flights[k]).requests, ∃ r ∈ S.reqs, r.num = n := fun n hn => h.wf.airIn n (List.mem_append_left _ (List.mem_flatMap.2 ⟨_, List.getElem_mem hk, hn⟩))
  have hcell : ∀ r ∈ S.reqs, w.cell? ⟨eb r.num, 0, none⟩ = some (.int .i64 r.num) ∧ w.cell? ⟨eb r.num, 1, none⟩ = some (.int .i64 r.page) ∧ w.cell? ⟨eb r.num, 2, none⟩ = some (.bool r.write) := fun r hr => by
    obtain ⟨ds, _, he⟩ := h.e.ent r hr
    simp [World.cell?, he, entC]
  have hhd : ∀ n, (S.flights[k]).requests.head? = some n → n ∈ (S.flights[k]).requests := fun n hn => List.mem_of_head? hn
  have hlt : ∀ n, (S.flights[k]).requests.getLast? = some n → n ∈ (S.flights[k]).requests := fun n hn => List.mem_of_getLast? hn
  refine ⟨⟨fun n hn => ?_, fun n hn => ?_, fun n hn => ?_, fun n hn => ?_⟩, ?_, ?_⟩
  · obtain ⟨r, hr, rfl⟩ := hfind n hn
    exact (hcell r hr).1
  · obtain ⟨r, hr, rfl⟩ := hfind n (hhd n hn)
    rw [← hc.wr r hr (hhd _ hn)]; exact (hcell r hr).2.2
  · obtain ⟨r, hr, rfl⟩ := hfind n (hhd n hn)
    rw [← hc.fst r hr hn]; exact (hcell r hr).2.1
  · obtain ⟨r, hr, rfl⟩ := hfind n (hlt n hn)
    rw [← hc.lst r hr hn]; exact (hcell r hr).2.1
  · cases hh : (S.flights[k]).requests.head? with
    | none => exact absurd (List.head?_eq_none_iff.1 hh) hc.ne
    | some n =>
      obtain ⟨r, hr, rfl⟩ := hfind n (hhd n hh)
      rw [← hc.fst r hr hh]; exact (h.wf.rq r hr).page
  · cases hh : (S.flights[k]).requests.getLast? with
    | none => exact absurd (List.getLast?_eq_none_iff.1 hh) hc.ne
    | some n =>
      obtain ⟨r, hr, rfl⟩ := hfind n (hlt n hh)
      rw [← hc.lst r hr hh]; exact (h.wf.rq r hr).page
/-- what Flights hands out: a row of commands, each with a row of its own -/
structure FlOut (lim : Nat) (w : World) (fl : List Cmd) (ao : Option Addr) (n cap : Nat) (vs : List (Option Addr × Nat)) : Prop where
  len : vs.length = fl.length
  cnt : n = fl.length
  row : Row w (fun b => lim ≤ b) 45 4 ao n cap ((fl.zip vs).flatMap encC)
  ins : ∀ j (hj : j < fl.length) (hv : j < vs.length), Row w (fun b => lim ≤ b) 3 1 (vs[j]).1 (fl[j]).requests.length (vs[j]).2 (encI (fl[j]).requests)
  ap : ∀ i j (hi : i < vs.length) (hj : j < vs.length), i < j → ∀ a b, (vs[i]).1 = some a → (vs[j]).1 = some b → a.block ≠ b.block
theorem FlOut.nil (lim : Nat) (w : World) : FlOut lim w [] none 0 0 [] := ⟨rfl, rfl, Row.nil _ _ _ _, fun j hj => by simp at hj, fun i j hi => by simp at hi⟩
/-- one command more -/
theorem FlOut.push {lim : Nat} {wr w2 w3 : World} {fl : List Cmd} {ao : Option Addr} {n cap : Nat} {vs : List (Option Addr × Nat)} {c : Cmd} {xa : Option Addr} {xn xc g cap' : Nat} {o : Obj} {w : World} (hw : lim = w.heap.size) (h : FlOut lim wr fl ao n cap vs) (hb0 : Below w.heap.size w wr) (hb : Below wr.heap.size wr w2) (hx : Row w2 (fun b => wr.heap.size ≤ b) 3 1 xa xn xc (encI c.requests)) (hxn : xn = c.requests.length)
    (hgrow : (w2.alloc o).grownBy w3 (Value.ownBlock (.slice ao n cap))) (hown : w3.ownsRow 0 45 4 (.slice (some ⟨g, 0, none⟩) (n + 1) cap') (n + 1) ((fl.zip vs).flatMap encC ++ [.bool c.write, .int .i64 c.page, .int .i64 c.count, .slice xa xn xc])) (hat : Value.ownBlock (.slice ao n cap) = some g ∨ g = w2.heap.size + 1) :
    FlOut lim w3 (fl ++ [c]) (some ⟨g, 0, none⟩) (n + 1) cap' (vs ++ [(xa, xc)]) ∧ Below w.heap.size w w3 := by
  subst hw hxn
  have hz0 := hb0.size
  have hz := hb.size
  have hrow2 : Row w2 (fun b => w.heap.size ≤ b) 45 4 ao n cap ((fl.zip vs).flatMap encC) := h.row.same fun a ha => by
    obtain ⟨cu, hcu, _⟩ := h.row.block ha
    exact hb.block _ (lt_of_heap hcu)
  obtain ⟨r1, r2⟩ := own_rel (hb0.trans (hb.mono hz0)) hrow2 hgrow hown hat
  have hzip : (fl ++ [c]).zip (vs ++ [(xa, xc)]) = fl.zip vs ++ [(c, xa, xc)] := by rw [List.zip_append h.len.symm]; rfl
  have hkeep : ∀ b cs, w2.heap[b]? = some (Obj.cells cs 3 (0, 0)) → w3.heap[b]? = w2.heap[b]? := fun b cs hcs => by
    refine (hgrow.block b (by simp; have := lt_of_heap hcs; omega) (fun e => ?_)).trans (Below.heap_alloc _ _ _ (lt_of_heap hcs))
    cases ao with
    | none => simp [Value.ownBlock] at e
    | some a =>
      simp [Value.ownBlock] at e
      exact (hrow2.ne hcs (by decide)) a rfl e.symm
  have hold : ∀ j (hj : j < fl.length) (hv : j < vs.length), Row w3 (fun b => w.heap.size ≤ b) 3 1 (vs[j]).1 (fl[j]).requests.length (vs[j]).2 (encI (fl[j]).requests) := fun j hj hv => by
    have h1 := h.ins j hj hv
    exact h1.same fun a ha => by
      obtain ⟨cu, hcu, _⟩ := h1.block ha
      have e1 := hb.block _ (lt_of_heap hcu)
      exact (hkeep _ cu (e1.trans hcu)).trans e1
  have hnew : Row w3 (fun b => w.heap.size ≤ b) 3 1 xa c.requests.length xc (encI c.requests) := (hx.same fun a ha => by
    obtain ⟨cu, hcu, _⟩ := hx.block ha
    exact hkeep _ cu hcu).mono fun b hb' => by omega
  refine ⟨⟨by rw [List.length_append, List.length_append, h.len]; rfl, by rw [List.length_append, h.cnt]; rfl, ?_, fun j hj hv => ?_, fun i j hi hj hij a b ha hb' => ?_⟩, r1⟩
  · rw [hzip, List.flatMap_append]
    exact r2
  · rcases Nat.lt_or_ge j fl.length with hl | hl
    · have hlv : j < vs.length := by rw [h.len]; exact hl
      rw [List.getElem_append_left hl, List.getElem_append_left hlv]
      exact hold j hl hlv
    · have e : j = fl.length := by rw [List.length_append] at hj; simp at hj; omega
      subst e
      have e2 : (vs ++ [(xa, xc)])[fl.length]'hv = (xa, xc) := by
        rw [List.getElem_append_right (by rw [h.len]; exact Nat.le_refl _)]; simp
      rw [e2, List.getElem_append_right (Nat.le_refl _)]
      simpa using hnew
  · rw [List.length_append] at hi hj
    simp at hi hj
    have hiv : i < vs.length := by omega
    rw [List.getElem_append_left hiv] at ha
    rcases Nat.lt_or_ge j vs.length with hl | hl
    · rw [List.getElem_append_left hl] at hb'
      exact h.ap i j hiv hl hij a b ha hb'
    · have e2 : (vs ++ [(xa, xc)])[j]'(by rw [List.length_append]; simp; omega) = (xa, xc) := by
        rw [List.getElem_append_right hl]; simp
      rw [e2] at hb'
      have h1 := h.ins i (by rw [← h.len]; exact hiv) hiv
      obtain ⟨cu, hcu, _⟩ := h1.block ha
      have h2 := lt_of_heap hcu
      have h3 := hx.2 b hb'
      omega
set_option maxHeartbeats 4000000 in
set_option maxRecDepth 1000000 in
theorem prog_flights (S : St) (F : Nat → Prop) (xb : Nat) (w : World) (h : ProgAt w F xb S) (hl : S.last ≤ 1000000) :
    Calls Tryz.prog 17 #[.pointer (some ⟨xb, 0, none⟩)] w fun e w' => (∃ ao n cap vs, e = .returned (.slice ao n cap) ∧ FlOut w.heap.size w' S.flights ao n cap vs) ∧ Below w.heap.size w w' := by
  obtain ⟨i0, hi, hi0, hi1, hi2⟩ := info_parts info_cmd
  obtain ⟨bm, D, eb, c, af, cf, vs, h⟩ := h
  have d4 := h.cell 4 _ h.q.c4
  have hxl := h.lt
  have hf4 : S.flights.length ≤ 4 := by have := h.wf.flLen; have := h.wf.depth; omega
  have HQ := hide h
  have HCM : Hid (∀ k (hk : k < S.flights.length) (wr : World), Below w.heap.size w wr → ∃ gf ga vc, af = some ⟨gf, 0, none⟩ ∧ wr.cell? ⟨gf, k, none⟩ = some (.slice (some ⟨ga, 0, none⟩) (S.flights[k]).requests.length vc) ∧ Calls Tryz.prog 30 #[.slice (some ⟨ga, 0, none⟩) (S.flights[k]).requests.length vc] wr fun e w' => CmdAt (S.flights[k]) wr e w') := fun k hk wr hb => by
    obtain ⟨gf, cur, hg, hgF, hgb, _, _⟩ := Row.some h.l.row (by omega)
    have h' : ProgBlk wr F xb S [] bm D eb c af cf vs := h.same (fun b _ hb' => hb.block b hb') hb.size
    subst hg
    obtain ⟨ga, hga, _, _, hin⟩ := h'.l.inner hk (h'.wf.fl _ (List.getElem_mem hk)).ne
    have ck := h'.l.cell hk
    rw [hga] at ck
    obtain ⟨hci, hp, hq⟩ := flight_in h' hk
    refine ⟨gf, ga, _, rfl, ck, ?_⟩
    refine (prog_command F eb (S.flights[k]).requests ga _ _ (S.flights[k]).write (S.flights[k]).page ((S.flights[k]).page + (S.flights[k]).count - 1) wr hin rfl (h'.wf.fl _ (List.getElem_mem hk)).ne hci (flight_len h'.wf hk hl) hp hq).mono ?_
    intro e w' hx
    have e1 : (⟨(S.flights[k]).write, (S.flights[k]).page, (S.flights[k]).page + (S.flights[k]).count - 1 - (S.flights[k]).page + 1, (S.flights[k]).requests⟩ : Cmd) = S.flights[k] := by
      have : (S.flights[k]).page + (S.flights[k]).count - 1 - (S.flights[k]).page + 1 = (S.flights[k]).count := by omega
      rw [this]
    rw [e1] at hx
    exact hx
  clear h
  go_enter Tryz.func17, Tryz.ntmps17
  go_wp2_with fail
  refine (orEmpty_some _ _).mono ?_
  rintro e w1 ⟨rfl, hw⟩
  have hw := hw.symm
  subst hw
  go_wp2
  go_loopw [3, 12] (fun l i wr => ∃ (j n cap : Nat) (ao : Option Addr) (us : List (Option Addr × Nat)), j ≤ S.flights.length ∧ i = .int .i64 j ∧ l = .slice ao n cap ∧ n = j ∧ Hid (FlOut w.heap.size wr (S.flights.take j) ao n cap us) ∧ Hid (Below w.heap.size w wr)) (fun _ i _ => S.flights.length - (intOf i).toNat)
  case atStart => exact ⟨0, 0, 0, none, [], Nat.zero_le _, rfl, rfl, rfl, FlOut.nil _ _, Below.refl _ _⟩
  case round =>
    obtain ⟨j, n, cap, ao, us, hj, rfl, rfl, hnj, hF, hb⟩ := hrel
    have HNJ := hide hnj
    clear hnj
    by_cases hlt : j < S.flights.length
    · obtain ⟨gf, ga, vc, hgf, ck, hcmd⟩ := HCM.out j hlt wr hb.out
      have HCMD := hide hcmd
      have HTK : Hid (S.flights.take (j + 1) = S.flights.take j ++ [S.flights[j]]) := List.take_succ_eq_append_getElem hlt
      have hji : (j : Int) < (S.flights.length : Int) := by omega
      subst hgf
      clear hcmd
      generalize S.flights[j] = cm at *
      go_wp2_with fail
      refine HCMD.out.mono ?_
      rintro e w2 ⟨xa, xn, xc, rfl, hxn, hxr, hxb⟩
      have hn4 : n ≤ 4 := by have := HNJ.out; omega
      have HO : Hid ((w2.alloc (.cells #[.bool cm.write, .int .i64 cm.page, .int .i64 cm.count, .slice xa xn xc] 45)).ownsRow 0 45 4 (.slice ao n cap) n (((S.flights.take j).zip us).flatMap encC)) := ((hF.out.row.same fun a ha => by obtain ⟨cu, hcu, _⟩ := hF.out.row.block ha; exact hxb.block _ (lt_of_heap hcu)).alloc _).1
      have HW : Hid (∀ (t : Nat) (u : Value), [Value.bool cm.write, .int .i64 cm.page, .int .i64 cm.count, .slice xa xn xc][t]? = some u → (w2.alloc (.cells #[.bool cm.write, .int .i64 cm.page, .int .i64 cm.count, .slice xa xn xc] 45)).cell? ((⟨w2.heap.size, 0, none⟩ : Addr).add t) = some u) := fun t u => news_new t u
      have HPUSH : Hid (∀ (g cap' : Nat) (w3 : World), w3.ownsRow 0 45 4 (.slice (some ⟨g, 0, none⟩) (n + 1) cap') (n + 1) (((S.flights.take j).zip us).flatMap encC ++ [.bool cm.write, .int .i64 cm.page, .int .i64 cm.count, .slice xa xn xc]) → (w2.alloc (.cells #[.bool cm.write, .int .i64 cm.page, .int .i64 cm.count, .slice xa xn xc] 45)).grownBy w3 (Value.ownBlock (.slice ao n cap)) → (Value.ownBlock (.slice ao n cap) = some g ∨ g = w2.heap.size + 1) → FlOut w.heap.size w3 (S.flights.take (j + 1)) (some ⟨g, 0, none⟩) (n + 1) cap' (us ++ [(xa, xc)]) ∧ Below w.heap.size w w3) := fun g cap' w3 h1 h2 h3 => by
        rw [HTK.out]
        exact FlOut.push rfl hF.out hb.out hxb hxr hxn h2 h1 h3
      clear hxr hxb hxn HCMD
      go_wp2_with (at_builtin; go_must (refine wpList_append_lies _ rfl (.tmp 16) (.tmp 19) 54 rfl 0 45 i0 (.agg #[.bool false, .int .i64 0, .int .i64 0, .slice none 0 0]) 4 48 Tryz.underlying54 hi hi0 hi1 hi2 rfl (by decide) (.slice ao n cap) n (((S.flights.take j).zip us).flatMap encC) rfl HO.out ⟨w2.heap.size, 0, none⟩ 1 1 [Value.bool cm.write, .int .i64 cm.page, .int .i64 cm.count, .slice xa xn xc] rfl rfl HW.out (by intro u hu; simp at hu; rcases hu with rfl | rfl | rfl | rfl <;> rfl) (by decide) (by unfold maxLen; omega) (by omega) (Nat.zero_le _) (w2.heap.size + 1) (by simp) ?_; intro g cap' w3 hown hgrow hat hlt3; have HX := hide (HPUSH.out g cap' w3 hown hgrow hat); clear hown hgrow hat hlt3))
      go_roundw
      case rel => exact ⟨j + 1, n + 1, cap', some ⟨g, 0, none⟩, us ++ [(xa, xc)], by omega, by go_num, rfl, by have := HNJ.out; omega, HX.out.1, HX.out.2⟩
      case measure => simp [intOf]; omega
    · have hjl : S.flights.take j = S.flights := List.take_of_length_le (by omega)
      have HFIN : Hid (FlOut w.heap.size wr S.flights ao n cap us) := by have := hF.out; rw [hjl] at this; exact this
      clear hjl hF
      go_wp2
      go_ret
      exact ⟨⟨ao, n, cap, us, rfl, HFIN.out⟩, hb.out⟩
end Go.Proofs.YtiabdbeejkadnabGreatDoor

/- The keeps: flies. Own work of the verifier. -/
namespace Go.Proofs.YtiabdbeejkadnabGreatDoor
open Go.RowKit Go.Maps

/-- is it under way? -/
def flownB (fl : List Cmd) (num : Int) : Bool := fl.any fun c => c.requests.contains num
theorem flat_le (fl : List Cmd) : ∀ (i : Nat) (hi : i < fl.length), (fl[i]).requests.length ≤ (fl.flatMap (·.requests)).length := by
  induction fl with
  | nil => intro i hi; simp at hi
  | cons a l ih =>
    intro i hi
    cases i with
    | zero => simp
    | succ i =>
      have := ih i (by simpa using hi)
      simp only [List.getElem_cons_succ, List.flatMap_cons, List.length_append]
      omega
theorem FlOut.cells {lim : Nat} {w : World} {fl : List Cmd} {ao : Option Addr} {n cap : Nat} {vs : List (Option Addr × Nat)} (h : FlOut lim w fl ao n cap vs) {i : Nat} (hi : i < fl.length) :
    ∃ g c0 a c, ao = some ⟨g, 0, none⟩ ∧ n = fl.length ∧ lim ≤ g ∧ g < w.heap.size ∧ cap = c0 ∧ w.cell? ⟨g, i * 4, none⟩ = some (.bool (fl[i]).write) ∧ w.cell? ⟨g, i * 4 + 1, none⟩ = some (.int .i64 (fl[i]).page) ∧ w.cell? ⟨g, i * 4 + 2, none⟩ = some (.int .i64 (fl[i]).count) ∧ w.cell? ⟨g, i * 4 + 3, none⟩ = some (.slice a (fl[i]).requests.length c) ∧ Row w (fun b => lim ≤ b) 3 1 a (fl[i]).requests.length c (encI (fl[i]).requests) := by
  obtain ⟨g, cur, hg, hgl, hgb, _, _⟩ := Row.some h.row (by have := h.cnt; omega)
  subst hg
  have hv : i < vs.length := by rw [h.len]; exact hi
  have hz : i < (fl.zip vs).length := by rw [List.length_zip]; omega
  have hq : ∀ t, t < 4 → w.cell? ⟨g, i * 4 + t, none⟩ = (encC (fl[i], vs[i]))[t]? := fun t ht => by
    rw [Row.cellAt h.row (i * 4 + t) (by have := h.cnt; omega), encC_at _ i t hz ht]; simp
  exact ⟨g, cap, (vs[i]).1, (vs[i]).2, rfl, h.cnt, hgl, lt_of_heap hgb, rfl, hq 0 (by omega), hq 1 (by omega), hq 2 (by omega), hq 3 (by omega), h.ins i hi hv⟩
theorem keep_flights (S : St) (rs : List KR) (F : Nat → Prop) (wb xb : Nat) (w : World) (h : KAt w F wb xb S rs) (hl : S.last ≤ 1000000) :
    Calls Tryz.prog 17 #[.pointer (some ⟨xb, 0, none⟩)] w fun e w' => (∃ ao n cap vs, e = .returned (.slice ao n cap) ∧ FlOut w.heap.size w' S.flights ao n cap vs) ∧ Below w.heap.size w w' := by
  obtain ⟨Fx, Fk, ar, cr, hP, hB, hd, hF⟩ := h
  exact prog_flights S Fx xb w hP hl
set_option maxHeartbeats 4000000 in
set_option maxRecDepth 1000000 in
theorem keep_flies (S : St) (rs : List KR) (F : Nat → Prop) (wb xb : Nat) (num : Int) (w : World) (h : KAt w F wb xb S rs) (hl : S.last ≤ 1000000) :
    Calls Tryz.prog 57 #[.pointer (some ⟨wb, 0, none⟩), .int .i64 num] w fun e w' => e = .returned (.bool (flownB S.flights num)) ∧ Below w.heap.size w w' := by
  have hlen : S.flights.length ≤ 4 := by have := h.wf.flLen; have := h.wf.depth; omega
  have hrl : ∀ i (hi : i < S.flights.length), (S.flights[i]).requests.length ≤ 1000000 := fun i hi => by
    have h1 := h.wf.airLen
    have h2 := h.wf.reqsLen
    have h3 : (S.flights[i]).requests.length ≤ (airs S ++ []).length := by
      simp only [airs, List.append_nil]
      exact flat_le _ i hi
    omega
  obtain ⟨c0, hwl⟩ := h.q0
  have HFL := hide (keep_flights S rs F wb xb w h hl)
  clear h
  generalize S.flights = fl at *
  go_enter Tryz.func57, Tryz.ntmps57
  go_wp2_with fail
  refine HFL.out.mono ?_
  rintro e w1 ⟨⟨ao, n, cap, vs, rfl, hFO⟩, hb⟩
  have HB := hide hb
  have HFO := hide hFO
  have hcn : n = fl.length := hFO.cnt
  subst hcn
  clear hb hFO HFL c0 hwl
  go_wp2
  go_loopw [6] (fun vi wr => ∃ i : Nat, i ≤ fl.length ∧ vi = .int .i64 i ∧ Hid (wr = w1) ∧ Hid (∀ j (hj : j < fl.length), j < i → num ∉ (fl[j]).requests)) (fun vi _ => fl.length - (intOf vi).toNat)
  case atStart => exact ⟨0, by omega, rfl, rfl, fun j hj h => by omega⟩
  case round =>
    obtain ⟨i, hi, rfl, hwr, hno⟩ := hrel
    have hwr := hwr.out
    subst hwr
    by_cases hlt : i < fl.length
    · have hlti : (i : Int) < (fl.length : Int) := by omega
      obtain ⟨g, cc, a, c, rfl, _, hgl, hgz, rfl, k0, k1, k2, k3, krow⟩ := HFO.out.cells hlt
      have HRW := hide krow
      have hr1 := hrl i hlt
      clear krow k0 k1 k2
      generalize hrq : (fl[i]).requests = rq at *
      have HRQ := hide hrq
      clear hrq
      go_wp2
      go_loopw [7] (fun vk wr2 => ∃ k : Nat, k ≤ rq.length ∧ vk = .int .i64 k ∧ Hid (wr2 = wr) ∧ Hid (∀ t (ht : t < rq.length), t < k → rq[t] ≠ num)) (fun vk _ => rq.length - (intOf vk).toNat)
      case atStart => exact ⟨0, by omega, rfl, rfl, fun t ht h => by omega⟩
      case round =>
        obtain ⟨k, hk, rfl, hw2, hne⟩ := hrel
        have hw2 := hw2.out
        subst hw2
        by_cases hkl : k < rq.length
        · have hkli : (k : Int) < (rq.length : Int) := by omega
          obtain ⟨gi, cur, hga, hgil, hgib, _, _⟩ := Row.some HRW.out (by omega)
          subst hga
          have e0 : wr.cell? ⟨gi, k, none⟩ = some (.int .i64 rq[k]) := by
            rw [Row.cellAt HRW.out k (by omega)]; simp [encI, hkl]
          generalize hrk : rq[k] = x at *
          have HRK := hide hrk
          clear hrk
          by_cases hx : x = num
          · have hxx : (x == num) = true := by simp [hx]
            have HT : Hid (flownB fl num = true) := by
              unfold Hid flownB
              rw [List.any_eq_true]
              exact ⟨fl[i], List.getElem_mem hlt, by rw [HRQ.out]; simp only [List.contains_eq_mem, decide_eq_true_eq]; rw [← hx, ← HRK.out]; exact List.getElem_mem hkl⟩
            clear hx
            go_wp2
            go_ret
            rw [HT.out]
            exact ⟨rfl, HB.out⟩
          · have hxx : (x == num) = false := by simp [hx]
            go_wp2
            go_roundw
            case rel => exact ⟨k + 1, by omega, by go_num, trivial, fun t ht h => by
              by_cases e : t = k
              · subst e; rw [HRK.out]; exact hx
              · exact hne.out t ht (by omega)⟩
            case measure => simp [intOf]; omega
        · have hke : k = rq.length := by omega
          subst hke
          go_wp2
          go_roundw
          case rel => exact ⟨i + 1, by omega, by go_num, trivial, fun j hj h => by
            by_cases e : j = i
            · subst e
              rw [HRQ.out]
              intro hm
              obtain ⟨t, ht, e⟩ := List.getElem_of_mem hm
              exact hne.out t ht ht e
            · exact hno.out j hj (by omega)⟩
          case measure => simp [intOf]; omega
    · have HT : Hid (flownB fl num = false) := by
        unfold Hid flownB
        rw [List.any_eq_false]
        intro c hc
        obtain ⟨j, hj, rfl⟩ := List.getElem_of_mem hc
        simpa using hno.out j hj (by omega)
      go_wp2
      go_ret
      rw [HT.out]
      exact ⟨rfl, HB.out⟩
end Go.Proofs.YtiabdbeejkadnabGreatDoor
