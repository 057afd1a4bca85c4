import Derived.Test.YtiabdbeejkadnabGreatDoorJf04770ab70
import Derived.WalkLawsBesides
import Derived.Deep.RegionWith
import Derived.Deep.AppendLies
import Derived.Deep.RegionLaw
/- The keeps: their small functions, their world, begun. Own work of the verifier. -/
namespace Go.Proofs.YtiabdbeejkadnabGreatDoor
open Go.RowKit Go.Maps

/-- which of n things the raw number c speaks of -/
def kpickM (c n : Int) : Int := if c < 0 then (-(c + 1)) % n else c % n
theorem kpickM_lt (c n : Int) (hn : 0 < n) : 0 ≤ kpickM c n ∧ kpickM c n < n := by
  unfold kpickM
  split
  · exact ⟨Int.emod_nonneg _ (by omega), Int.emod_lt_of_pos _ hn⟩
  · exact ⟨Int.emod_nonneg _ (by omega), Int.emod_lt_of_pos _ hn⟩
theorem keep_pick (c n : Int) (w : World) (hc : -9223372036854775808 ≤ c ∧ c ≤ 9223372036854775807) (hn : 0 < n) (hn2 : n ≤ 1000000) :
    Calls Tryz.prog 7 #[.int .i64 c, .int .i64 n] w fun e w' => e = .returned (.int .i64 (kpickM c n)) ∧ w' = w := by
  obtain ⟨h1, h2⟩ := hc
  by_cases hneg : c < 0
  · have hp : Hid (kpickM c n = -((c + 1).tmod n)) := by
      simp only [Hid, kpickM, hneg, if_true]
      rw [← Int.neg_tmod, Int.tmod_eq_emod_of_nonneg (by omega)]
    have hb0 : (n == 0) = false := beq_eq_false_iff_ne.2 (by omega)
    go_enter Tryz.func7, Tryz.ntmps7
    go_wp2
    go_ret
    exact ⟨by rw [hp.out]; rfl, rfl⟩
  · have hp : Hid (kpickM c n = c % n) := by simp [Hid, kpickM, hneg]
    have hb0 : (n == 0) = false := beq_eq_false_iff_ne.2 (by omega)
    go_enter Tryz.func7, Tryz.ntmps7
    go_wp2
    go_ret
    exact ⟨by rw [hp.out]; rfl, rfl⟩
/-- is an error none? -/
def fineB (k r t : Int) : Bool := k == 0 && r == -1 && t == 0
theorem kerr_eq (k r t : Int) (w : World) : (binOp .eql 35 (.agg #[.int .i64 k, .int .i64 r, .int .i64 t, .bool true]) (.agg #[.int .i64 0, .int .i64 (-1), .int .i64 0, .bool true])).run Tryz.prog w = .ok (.bool (fineB k r t)) w := by
  have u1 := Tryz.underlying3
  have u2 := Tryz.underlying33
  have u3 := Tryz.underlying4
  have hS : Tryz.prog.underlying 35 = some (.struct (Tryz.prog.fieldsOf 35)) := by kernel_rfl
  have hp : Tryz.prog.stoodInHeld 35 = false := by kernel_rfl
  rw [run_eql_struct, show (10000 : Nat) = 9999 + 1 from rfl, run_equalIn_agg w 9999 35 _ _ hS hp]
  simp only [Program.fieldsOf, Tryz.underlying35]
  unfold fineB
  by_cases h1 : k = 0
  · subst h1
    by_cases h2 : r = -1
    · subst h2
      by_cases h3 : t = 0
      · subst h3; go_simp
      · have b3 : (t == 0) = false := beq_eq_false_iff_ne.2 h3
        simp only [b3]; go_simp
    · have b2 : (r == -1) = false := beq_eq_false_iff_ne.2 h2
      simp only [b2]; go_simp
  · have b1 : (k == 0) = false := beq_eq_false_iff_ne.2 h1
    simp only [b1]; go_simp
theorem keep_fine (k r t : Int) (w : World) : Calls Tryz.prog 11 #[.agg #[.int .i64 k, .int .i64 r, .int .i64 t, .bool true]] w fun e w' => e = .returned (.bool (fineB k r t)) ∧ Below w.heap.size w w' := by
  have he := kerr_eq k r t
  go_enter Tryz.func11, Tryz.ntmps11
  go_wp2
  go_ret
  exact ⟨rfl, (Below.refl _ _).alloc (Nat.le_refl _) _⟩

/-! ### the keeps' world -/
structure KR where
  num : Int
  write : Bool
  page : Int
  data : ByteArray
  how : Int
  read : ByteArray
def encK (r : KR) : List Value := [.int .i64 r.num, .bool r.write, .int .i64 r.page, .string r.data, .int .i64 r.how, .string r.read]
structure KBlk (w : World) (F : Nat → Prop) (wb xb : Nat) (rs : List KR) (ar : Option Addr) (cr : Nat) : Prop where
  own : F wb
  blk : w.heap[wb]? = some (.cells #[.pointer (some ⟨xb, 0, none⟩), .slice ar rs.length cr] 32 (0, 0))
  row : Row w F 28 6 ar rs.length cr (rs.flatMap encK)
  ltF : ∀ k, F k → k < w.heap.size
/-- A KEEP's WORLD at wb: its queue holds S; what was asked of it: rs -/
def KAt (w : World) (F : Nat → Prop) (wb xb : Nat) (S : St) (rs : List KR) : Prop := ∃ Fx Fk ar cr, ProgAt w Fx xb S ∧ KBlk w Fk wb xb rs ar cr ∧ (∀ k, Fx k → ¬ Fk k) ∧ ∀ k, F k ↔ (Fx k ∨ Fk k)
set_option maxHeartbeats 1000000 in
theorem keep_begun (depth : Int) (w : World) (hg : GCell w) (hc : -9223372036854775808 ≤ depth ∧ depth ≤ 9223372036854775807) :
    Calls Tryz.prog 6 #[.int .i64 depth] w fun e w' => (∃ wb xb, e = .returned (.tuple #[.pointer (some ⟨wb, 0, none⟩), .bool true]) ∧ KAt w' (Foot (fun _ => False) w w') wb xb (St.new (1 + kpickM depth 4)) []) ∧ Below w.heap.size w w' := by
  have hp := kpickM_lt depth 4 (by omega)
  have HG := hide hg
  have HNEW : Hid (∀ W, GCell W → Calls Tryz.prog 23 #[.int .i64 (1 + kpickM depth 4)] W fun e w' => ∃ xb, e = .returned (.tuple #[.pointer (some ⟨xb, 0, none⟩), .agg #[.int .i64 0, .int .i64 (-1), .int .i64 0, .bool true]]) ∧ ProgAt w' (Foot (fun _ => False) W w') xb (St.new (1 + kpickM depth 4)) ∧ Below W.heap.size W w') := fun W hW => plain_new_ok (1 + kpickM depth 4) W hW (by omega) (by omega)
  clear hg
  go_enter Tryz.func6, Tryz.ntmps6
  go_wp2_with fail
  refine (keep_pick depth 4 w hc (by omega) (by omega)).mono ?_
  rintro e w0 ⟨rfl, hw0⟩
  have hw0 := hw0.symm
  subst hw0
  generalize hpk : kpickM depth 4 = pk at *
  have HPK := hide hpk
  clear hpk
  go_wp2_with fail
  refine (HNEW.out _ HG.out).mono ?_
  rintro e w1 ⟨xb, rfl, hP, hb⟩
  have HP := hide hP
  have HB := hide hb
  clear hP hb
  go_wp2_with fail
  refine (keep_fine 0 (-1) 0 _).mono ?_
  rintro e w2 ⟨rfl, hb2⟩
  have ef : fineB 0 (-1) 0 = true := rfl
  rw [ef]
  have HB2 := hide ((alloc_below w1 (.cells #[.int .i64 0, .int .i64 (-1), .int .i64 0, .bool true] 35)).trans (hb2.mono (by simp)))
  have hz2 : w1.heap.size < w2.heap.size := by have := hb2.size; simp at this; omega
  clear hb2
  have HFIN : Hid (KAt (w2.alloc (.cells #[.pointer (some ⟨xb, 0, none⟩), .slice none 0 0] 32)) (Foot (fun _ => False) w (w2.alloc (.cells #[.pointer (some ⟨xb, 0, none⟩), .slice none 0 0] 32))) w2.heap.size xb (St.new (1 + pk)) [] ∧ Below w.heap.size w (w2.alloc (.cells #[.pointer (some ⟨xb, 0, none⟩), .slice none 0 0] 32))) := by
    have z1 := HB.out.size
    have z2 := HB2.out.size
    have hbw : Below w.heap.size w w2 := HB.out.trans (HB2.out.mono z1)
    refine ⟨⟨fun k => w.heap.size ≤ k ∧ k < w1.heap.size, fun k => w1.heap.size ≤ k ∧ k ≤ w2.heap.size, none, 0, ?_, ⟨⟨by omega, Nat.le_refl _⟩, heap_alloc_new w2 _, Row.nil _ _ _ _, fun k hk => by simp; omega⟩, fun k hk e => by omega, fun k => ?_⟩, hbw.trans ((alloc_below _ _).mono hbw.size)⟩
    · refine ((HP.out.same (fun k _ hk => (HB2.out.block k hk)) HB2.out.size).same (fun k _ hk => Below.heap_alloc _ _ _ hk) (by simp)).wid (fun k hk => ?_) (fun k hk => by simp; omega)
      rcases hk with e | e
      · exact e.elim
      · exact e
    · unfold Foot
      simp only [World.size_alloc, false_or]
      omega
  go_wp2
  go_ret2
  rw [HPK.out]
  exact ⟨⟨w2.heap.size, xb, rfl, HFIN.out.1⟩, HFIN.out.2⟩
end Go.Proofs.YtiabdbeejkadnabGreatDoor

/- The program's queue (stage 2's code): Write. Own work of the verifier. -/
namespace Go.Proofs.YtiabdbeejkadnabGreatDoor
open Go.RowKit Go.Maps

/-- a write's request with its bytes laid in -/
theorem copy_entry (w : World) (page : Int) (bb cap : Nat) (v0 v1 v2 v3 : Int) (q0 : w.cell? ⟨bb, 0, none⟩ = some (.int .u8 v0)) (q1 : w.cell? ⟨bb, 1, none⟩ = some (.int .u8 v1)) (q2 : w.cell? ⟨bb, 2, none⟩ = some (.int .u8 v2)) (q3 : w.cell? ⟨bb, 3, none⟩ = some (.int .u8 v3)) :
    ∃ w2, (Builtin.copy_ #[37, 37] 3 #[.slice (some ⟨w.heap.size, 3, none⟩) 4 4, .slice (some ⟨bb, 0, none⟩) 4 cap]).run Tryz.prog (w.alloc (.cells #[.int .i64 0, .int .i64 page, .bool true, .int .u8 0, .int .u8 0, .int .u8 0, .int .u8 0, .int .i64 0, .int .i64 0, .int .i64 0] 80)) = .ok (.int .i64 4) w2 ∧
      w2.heap[w.heap.size]? = some (.cells #[.int .i64 0, .int .i64 page, .bool true, .int .u8 v0, .int .u8 v1, .int .u8 v2, .int .u8 v3, .int .i64 0, .int .i64 0, .int .i64 0] 80 (0, 0)) ∧ Below w.heap.size w w2 ∧ w.heap.size < w2.heap.size := by
  have hbl := lt_of_cell q0
  have hr := run_copy_row (P := Tryz.prog) (w.alloc (.cells #[.int .i64 0, .int .i64 page, .bool true, .int .u8 0, .int .u8 0, .int .u8 0, .int .u8 0, .int .i64 0, .int .i64 0, .int .i64 0] 80)) 37 37 3 5 w.heap.size 3 4 4 ⟨bb, 0, none⟩ 4 cap
    #[.int .i64 0, .int .i64 page, .bool true, .int .u8 0, .int .u8 0, .int .u8 0, .int .u8 0, .int .i64 0, .int .i64 0, .int .i64 0] 80 [.int .u8 v0, .int .u8 v1, .int .u8 v2, .int .u8 v3] Tryz.underlying37 (by kernel_rfl) (heap_alloc_new w _) rfl (fun j v hj => ?_) (by simp) (fun v hv => ?_)
  · refine ⟨_, hr, ?_, ?_, ?_⟩
    · rw [setRow_heap _ _ _ _ _ _ (heap_alloc_new w _)]; rfl
    · refine ⟨rfl, rfl, rfl, by simp, fun k hk => ?_⟩
      rw [setRow_other _ _ _ _ (by omega)]
      exact Below.heap_alloc _ _ _ hk
    · simp
  · rw [Addr.add_lit, Nat.zero_add, World.cell?_alloc_lt _ _ ⟨bb, j, none⟩ hbl]
    match j, hj with
    | 0, hj => simp at hj; subst hj; exact q0
    | 1, hj => simp at hj; subst hj; exact q1
    | 2, hj => simp at hj; subst hj; exact q2
    | 3, hj => simp at hj; subst hj; exact q3
    | j + 4, hj => simp at hj
  · simp at hv
    rcases hv with rfl | rfl | rfl | rfl <;> rfl

theorem foot_mid {w w2 w' : World} {F : Nat → Prop} {xb : Nat} {S : St} (hb : Below w.heap.size w w2) (hF : ∀ k, F k → k < w.heap.size) (h : ProgAt w' (Foot F w2 w') xb S ∧ Kept F w2 w') : ProgAt w' (Foot F w w') xb S ∧ Kept F w w' :=
  ⟨h.1.wid (fun k hk => Foot.mid hb.size k hk) (Foot.lt hF (Nat.le_trans hb.size h.2.size)), (Go.Proofs.YtiabdbeejkadnabGreatDoor.Below.kept hb F).then h.2⟩

set_option maxHeartbeats 1000000 in
set_option maxRecDepth 1000000 in
theorem prog_write_ok (S : St) (F : Nat → Prop) (xb bb cap : Nat) (page : Int) (data : ByteArray) (v0 v1 v2 v3 : Int) (w : World) (h : ProgAt w F xb S) (hl : S.last ≤ 1000000) (hp0 : ¬ page < 0) (hp1 : ¬ 16 ≤ page)
    (q0 : w.cell? ⟨bb, 0, none⟩ = some (.int .u8 v0)) (q1 : w.cell? ⟨bb, 1, none⟩ = some (.int .u8 v1)) (q2 : w.cell? ⟨bb, 2, none⟩ = some (.int .u8 v2)) (q3 : w.cell? ⟨bb, 3, none⟩ = some (.int .u8 v3)) (hf : ¬ 40 ≤ (S.reqs.length : Int) - S.told.length) (hd4 : data.size = 4) (e0 : .int .u8 v0 = u8 (data.data.toList.getD 0 0)) (e1 : .int .u8 v1 = u8 (data.data.toList.getD 1 0)) (e2 : .int .u8 v2 = u8 (data.data.toList.getD 2 0)) (e3 : .int .u8 v3 = u8 (data.data.toList.getD 3 0)) :
    Calls Tryz.prog 44 #[.pointer (some ⟨xb, 0, none⟩), .int .i64 page, .slice (some ⟨bb, 0, none⟩) 4 cap] w fun e w' => e = .returned (.tuple #[.int .i64 (S.last + 1), .nilIface]) ∧ ProgAt w' (Foot F w w') xb (askOk S true page data) ∧ Kept F w w' := by
  have H : Hid (ProgAt w F xb S) := h
  have HD : Hid (DataOk ⟨S.last + 1, true, page, data, 0, 0, 0, false, false, ⟨#[]⟩⟩ data.data.toList) := ⟨by rw [Array.length_toList]; exact hd4, fun _ => rfl, fun e => by cases e⟩
  have HW : Hid (Wf (askOk S true page data)) := h.wf.ask hf true page data (by omega) (fun _ => hd4)
  have E0 := hide e0
  have E1 := hide e1
  have E2 := hide e2
  have E3 := hide e3
  clear e0 e1 e2 e3
  have hbl := lt_of_cell q0
  clear h
  go_enter Tryz.func44, Tryz.ntmps44
  go_wp2_with fail
  refine (onDisk_yes page _ (by omega) (by omega)).mono ?_
  rintro e w1 ⟨rfl, rfl⟩
  obtain ⟨w2, hcp, he, hb, hz⟩ := copy_entry w1 page bb cap v0 v1 v2 v3 q0 q1 q2 q3
  have n0 : w2.cell? ⟨w1.heap.size, 0, none⟩ = some (.int .i64 0) := by simp [World.cell?, he]
  have n1 : w2.cell? ⟨w1.heap.size, 1, none⟩ = some (.int .i64 page) := by simp [World.cell?, he]
  have n2 : w2.cell? ⟨w1.heap.size, 2, none⟩ = some (.bool true) := by simp [World.cell?, he]
  have n3 : w2.cell? ⟨w1.heap.size, 3, none⟩ = some (.int .u8 v0) := by simp [World.cell?, he]
  have n4 : w2.cell? ⟨w1.heap.size, 4, none⟩ = some (.int .u8 v1) := by simp [World.cell?, he]
  have n5 : w2.cell? ⟨w1.heap.size, 5, none⟩ = some (.int .u8 v2) := by simp [World.cell?, he]
  have n6 : w2.cell? ⟨w1.heap.size, 6, none⟩ = some (.int .u8 v3) := by simp [World.cell?, he]
  have n7 : w2.cell? ⟨w1.heap.size, 7, none⟩ = some (.int .i64 0) := by simp [World.cell?, he]
  have n8 : w2.cell? ⟨w1.heap.size, 8, none⟩ = some (.int .i64 0) := by simp [World.cell?, he]
  have n9 : w2.cell? ⟨w1.heap.size, 9, none⟩ = some (.int .i64 0) := by simp [World.cell?, he]
  have HB := hide hb
  have H2 : Hid (ProgAt w2 F xb S) := H.out.same (fun k _ hk => hb.block k hk) hb.size
  have HL : Hid (∀ k, F k → k < w1.heap.size) := H.out.lt
  clear hb he
  go_wp2
  go_region_with (first
    | (go_at_call 28; refine (orEmpty_some _ _).mono ?_; rintro e w' ⟨rfl, rfl⟩)
    | (go_at_call 64; refine (prog_add S [] F xb true page data data.data.toList _ ?_ ?_ hl HD.out HW.out (.int .u8 v0) (.int .u8 v1) (.int .u8 v2) (.int .u8 v3) E0.out E1.out E2.out E3.out).mono ?_; exact H2.out.same (fun _ _ _ => rfl) (Nat.le_refl _); omega; rintro e w' ⟨rfl, hR⟩; have HR := hide hR; clear hR))
  all_goals (try go_wp2)
  all_goals go_ret2
  all_goals exact ⟨rfl, foot_mid HB.out.drew HL.out HR.out⟩

set_option maxHeartbeats 1000000 in
set_option maxRecDepth 1000000 in
theorem prog_write_full (S : St) (F : Nat → Prop) (xb bb cap : Nat) (page : Int) (v0 v1 v2 v3 : Int) (w : World) (h : ProgAt w F xb S) (hp0 : ¬ page < 0) (hp1 : ¬ 16 ≤ page)
    (q0 : w.cell? ⟨bb, 0, none⟩ = some (.int .u8 v0)) (q1 : w.cell? ⟨bb, 1, none⟩ = some (.int .u8 v1)) (q2 : w.cell? ⟨bb, 2, none⟩ = some (.int .u8 v2)) (q3 : w.cell? ⟨bb, 3, none⟩ = some (.int .u8 v3)) (hf : 40 ≤ (S.reqs.length : Int) - S.told.length) :
    Calls Tryz.prog 44 #[.pointer (some ⟨xb, 0, none⟩), .int .i64 page, .slice (some ⟨bb, 0, none⟩) 4 cap] w fun e w' => e = .returned (.tuple #[.int .i64 0, .iface 33 (.int .i64 4)]) ∧ ProgAt w' (Foot F w w') xb S ∧ Kept F w w' := by
  have H : Hid (ProgAt w F xb S) := h
  have hbl := lt_of_cell q0
  clear h
  go_enter Tryz.func44, Tryz.ntmps44
  go_wp2_with fail
  refine (onDisk_yes page _ (by omega) (by omega)).mono ?_
  rintro e w1 ⟨rfl, rfl⟩
  obtain ⟨w2, hcp, he, hb, hz⟩ := copy_entry w1 page bb cap v0 v1 v2 v3 q0 q1 q2 q3
  have n0 : w2.cell? ⟨w1.heap.size, 0, none⟩ = some (.int .i64 0) := by simp [World.cell?, he]
  have n1 : w2.cell? ⟨w1.heap.size, 1, none⟩ = some (.int .i64 page) := by simp [World.cell?, he]
  have n2 : w2.cell? ⟨w1.heap.size, 2, none⟩ = some (.bool true) := by simp [World.cell?, he]
  have n3 : w2.cell? ⟨w1.heap.size, 3, none⟩ = some (.int .u8 v0) := by simp [World.cell?, he]
  have n4 : w2.cell? ⟨w1.heap.size, 4, none⟩ = some (.int .u8 v1) := by simp [World.cell?, he]
  have n5 : w2.cell? ⟨w1.heap.size, 5, none⟩ = some (.int .u8 v2) := by simp [World.cell?, he]
  have n6 : w2.cell? ⟨w1.heap.size, 6, none⟩ = some (.int .u8 v3) := by simp [World.cell?, he]
  have n7 : w2.cell? ⟨w1.heap.size, 7, none⟩ = some (.int .i64 0) := by simp [World.cell?, he]
  have n8 : w2.cell? ⟨w1.heap.size, 8, none⟩ = some (.int .i64 0) := by simp [World.cell?, he]
  have n9 : w2.cell? ⟨w1.heap.size, 9, none⟩ = some (.int .i64 0) := by simp [World.cell?, he]
  have HB := hide hb
  have H2 : Hid (ProgAt w2 F xb S) := H.out.same (fun k _ hk => hb.block k hk) hb.size
  have HL : Hid (∀ k, F k → k < w1.heap.size) := H.out.lt
  clear hb he
  go_wp2
  go_region_with (first
    | (go_at_call 28; refine (orEmpty_some _ _).mono ?_; rintro e w' ⟨rfl, rfl⟩)
    | (go_at_call 64; refine (prog_add_full S [] F xb true page (.int .u8 v0) (.int .u8 v1) (.int .u8 v2) (.int .u8 v3) _ ?_ hf).mono ?_; exact H2.out.same (fun _ _ _ => rfl) (Nat.le_refl _); rintro e w' ⟨rfl, hR⟩; have HR := hide hR; clear hR))
  all_goals (try go_wp2)
  all_goals go_ret2
  all_goals exact ⟨rfl, foot_mid HB.out.drew HL.out HR.out⟩

/-- Write, whole: the data are the n bytes at the head of block bb -/
theorem prog_write (S : St) (F : Nat → Prop) (xb bb cap : Nat) (page : Int) (data : ByteArray) (w : World) (h : ProgAt w F xb S) (hl : S.last ≤ 1000000) (_hds : data.size ≤ 1000000)
    (hc : ∀ j, j < data.size → w.cell? ⟨bb, j, none⟩ = some (u8 (data.data.toList.getD j 0))) :
    Calls Tryz.prog 44 #[.pointer (some ⟨xb, 0, none⟩), .int .i64 page, .slice (some ⟨bb, 0, none⟩) data.size cap] w fun e w' => e = .returned (.tuple #[.int .i64 (askM S true page data).1, errOf (askM S true page data).2.1]) ∧ ProgAt w' (Foot F w w') xb (askM S true page data).2.2 ∧ Kept F w w' := by
  by_cases hp : page < 0 ∨ 16 ≤ page
  · have e : askM S true page data = (0, 2, S) := by unfold askM; rw [if_pos hp]
    rw [e]
    have H : Hid (ProgAt w F xb S) := h
    clear h hc e
    go_enter Tryz.func44, Tryz.ntmps44
    go_wp2_with fail
    refine (onDisk_no page _ hp).mono ?_
    rintro e w1 ⟨rfl, rfl⟩
    go_wp2
    go_ret2
    exact ⟨rfl, H.out.grow (Below.refl _ _), Kept.refl _ _⟩
  · have hp0 : ¬ page < 0 := fun e => hp (Or.inl e)
    have hp1 : ¬ 16 ≤ page := fun e => hp (Or.inr e)
    by_cases hd : data.size = 4
    · have q0 := hc 0 (by omega)
      have q1 := hc 1 (by omega)
      have q2 := hc 2 (by omega)
      have q3 := hc 3 (by omega)
      by_cases hf : 40 ≤ (S.reqs.length : Int) - S.told.length
      · have e : askM S true page data = (0, 4, S) := by unfold askM; rw [if_neg hp, if_neg (by simp [hd]), if_pos hf]
        rw [e, hd]
        exact prog_write_full S F xb bb cap page _ _ _ _ w h hp0 hp1 q0 q1 q2 q3 hf
      · have e : askM S true page data = (S.last + 1, 0, askOk S true page data) := askM_ok hp (by simp [hd]) hf
        rw [e, hd]
        exact prog_write_ok S F xb bb cap page data _ _ _ _ w h hl hp0 hp1 q0 q1 q2 q3 hf hd rfl rfl rfl rfl
    · have e : askM S true page data = (0, 3, S) := by unfold askM; rw [if_neg hp, if_pos ⟨rfl, hd⟩]
      rw [e]
      have H : Hid (ProgAt w F xb S) := h
      have hb : ((data.size : Int) != 4) = true := by rw [bne_iff_ne]; omega
      clear h hc e hd
      go_enter Tryz.func44, Tryz.ntmps44
      go_wp2_with fail
      refine (onDisk_yes page _ (by omega) (by omega)).mono ?_
      rintro e w1 ⟨rfl, rfl⟩
      go_wp2
      go_ret2
      exact ⟨rfl, H.out.grow (Below.refl _ _), Kept.refl _ _⟩

set_option maxHeartbeats 1000000 in
theorem plain_write (S : St) (F : Nat → Prop) (xb bb cap : Nat) (page : Int) (data : ByteArray) (w : World) (h : ProgAt w F xb S) (hc : ∀ j, j < data.size → w.cell? ⟨bb, j, none⟩ = some (u8 (data.data.toList.getD j 0))) (hbb : bb < w.heap.size) (hds : data.size ≤ 1000000) (hg : GCell w) (h0 : ¬ F 0) (hl : S.last ≤ 1000000) :
    Calls Tryz.prog 24 #[.pointer (some ⟨xb, 0, none⟩), .int .i64 page, .slice (some ⟨bb, 0, none⟩) data.size cap] w fun e w' => e = .returned (.tuple #[.int .i64 (askM S true page data).1, .agg #[.int .i64 (askM S true page data).2.1, .int .i64 (-1), .int .i64 0, .bool true]]) ∧ ProgAt w' (Foot F w w') xb (askM S true page data).2.2 ∧ Kept F w w' := by
  have H : Hid (ProgAt w F xb S) := h
  have hF := h.lt
  have hnF : ¬ F w.heap.size := fun e => by have := hF _ e; omega
  have HF : Hid (∀ k, F k → k < w.heap.size) := hF
  have HG : Hid (GCell w) := hg
  have HC : Hid (∀ j, j < data.size → w.cell? ⟨bb, j, none⟩ = some (u8 (data.data.toList.getD j 0))) := hc
  clear h hF hg hc
  generalize hA : askM S true page data = r
  obtain ⟨n, k, S'⟩ := r
  have HA : Hid (askM S true page data = (n, k, S')) := hA
  clear hA
  go_enter Tryz.func24, Tryz.ntmps24
  go_wp2_with fail
  refine (prog_write S F xb bb cap page data _ (H.out.same (fun k _ hk => Below.heap_alloc w _ k hk) (by simp)) hl hds (fun j hj => by rw [World.cell?_alloc_lt _ _ ⟨bb, j, none⟩ hbb]; exact HC.out j hj)).mono ?_
  rintro e w1 ⟨rfl, hP, hK⟩
  rw [HA.out] at hP ⊢
  have HP : Hid (ProgAt w1 (Foot F (w.alloc (.cells #[.int .i64 0, .int .i64 0, .int .i64 0, .bool false] 35)) w1) xb S') := hP
  have HK : Hid (Kept F (w.alloc (.cells #[.int .i64 0, .int .i64 0, .int .i64 0, .bool false] 35)) w1) := hK
  have hg1 : GCell w1 := (HG.out.below (alloc_below _ _)).kept hK h0
  have hz1 : w.heap.size < w1.heap.size := by have := hK.size; simp at this; omega
  obtain ⟨⟨a0, a1, a2, a3⟩, b0, b1, b2, b3⟩ := err_cells hK hnF
  clear hP hK
  go_wp2_with fail
  refine (told_err k _ hg1).mono ?_
  rintro e w2 ⟨rfl, hb⟩
  have a0' := (hb.cell (p := ⟨w.heap.size, 0, none⟩) hz1).trans a0
  have a1' := (hb.cell (p := ⟨w.heap.size, 1, none⟩) hz1).trans a1
  have a2' := (hb.cell (p := ⟨w.heap.size, 2, none⟩) hz1).trans a2
  have a3' := (hb.cell (p := ⟨w.heap.size, 3, none⟩) hz1).trans a3
  have b0' := (hb.frozen (p := ⟨w.heap.size, 0, none⟩) hz1).trans b0
  have b1' := (hb.frozen (p := ⟨w.heap.size, 1, none⟩) hz1).trans b1
  have b2' := (hb.frozen (p := ⟨w.heap.size, 2, none⟩) hz1).trans b2
  have b3' := (hb.frozen (p := ⟨w.heap.size, 3, none⟩) hz1).trans b3
  have HB := hide hb
  clear hb a0 a1 a2 a3 b0 b1 b2 b3
  go_wp2
  exact bodyPost_ret (v := .tuple #[.int .i64 n, .agg #[.int .i64 k, .int .i64 (-1), .int .i64 0, .bool true]]) (by simp [results, Tryz.results24, go_sem, a0', a1', a2', a3']) rfl ⟨rfl, plain_fin _ _ _ _ HP.out HK.out HB.out HF.out⟩
end Go.Proofs.YtiabdbeejkadnabGreatDoor

/- The keeps: ask. Own work of the verifier. -/
namespace Go.Proofs.YtiabdbeejkadnabGreatDoor
open Go.RowKit Go.Maps

theorem info_kreq : (Tryz.prog.info? 28).map (fun i => (i.zero, i.size, i.bytes)) = some (some (.agg #[.int .i64 0, .bool false, .int .i64 0, .string ⟨#[]⟩, .int .i64 0, .string ⟨#[]⟩]), 6, 64) := by kernel_rfl
section
variable {w w1 w2 : World} {F Fx Fk : Nat → Prop} {wb xb : Nat} {S S' : St} {rs : List KR} {ar : Option Addr} {cr : Nat}
theorem KBlk.same (h : KBlk w Fk wb xb rs ar cr) (hs : ∀ k, Fk k → k < w.heap.size → w1.heap[k]? = w.heap[k]?) (hz : w.heap.size ≤ w1.heap.size) : KBlk w1 Fk wb xb rs ar cr :=
  ⟨h.own, (hs _ h.own (lt_of_heap h.blk)).trans h.blk, h.row.same fun a ha => by obtain ⟨c, hc, _⟩ := h.row.block ha; exact hs _ (h.row.2 a ha) (lt_of_heap hc), fun k hk => Nat.lt_of_lt_of_le (h.ltF k hk) hz⟩
theorem KBlk.kept {G : Nat → Prop} (h : KBlk w Fk wb xb rs ar cr) (hK : Kept G w w1) (hn : ∀ k, Fk k → ¬ G k) : KBlk w1 Fk wb xb rs ar cr := h.same (fun k hk hl => hK.block k hl (hn k hk)) hK.size
theorem KBlk.below (h : KBlk w Fk wb xb rs ar cr) (hb : Below w.heap.size w w1) : KBlk w1 Fk wb xb rs ar cr := h.same (fun k _ hl => hb.block k hl) hb.size
theorem KBlk.c0 (h : KBlk w Fk wb xb rs ar cr) : w.cell? ⟨wb, 0, none⟩ = some (.pointer (some ⟨xb, 0, none⟩)) := by simp [World.cell?, h.blk]
theorem KBlk.c1 (h : KBlk w Fk wb xb rs ar cr) : w.cell? ⟨wb, 1, none⟩ = some (.slice ar rs.length cr) := by simp [World.cell?, h.blk]
theorem KBlk.fz (h : KBlk w Fk wb xb rs ar cr) (j : Nat) : w.frozen? ⟨wb, j, none⟩ = false := by simp [World.frozen?, h.blk]
theorem KAt.lt (h : KAt w F wb xb S rs) : ∀ k, F k → k < w.heap.size := by
  obtain ⟨Fx, Fk, ar, cr, hP, hB, hd, hF⟩ := h
  exact fun k hk => ((hF k).1 hk).elim (hP.lt k) (hB.ltF k)
theorem KBlk.wid {Fk' : Nat → Prop} (h : KBlk w Fk wb xb rs ar cr) (hF : ∀ k, Fk k → Fk' k) (hl : ∀ k, Fk' k → k < w.heap.size) : KBlk w Fk' wb xb rs ar cr := ⟨hF _ h.own, h.blk, h.row.mono hF, hl⟩
/-- behind a call on the queue, and one on what was asked -/
theorem KAt.fin {wA w3 w5 : World} {rs' : List KR} {Fn : Nat → Prop} (hA : Below w.heap.size w wA) (hAz : w.heap.size < wA.heap.size) (hPl : ∀ k, Fx k → k < w.heap.size) (hBl : ∀ k, Fk k → k < w.heap.size) (hd : ∀ k, Fx k → ¬ Fk k) (hF : ∀ k, F k ↔ (Fx k ∨ Fk k)) (hP1 : ProgAt w1 (Foot Fx wA w1) xb S')
    (hK1 : Kept Fx wA w1) (h2 : (w2.os = w1.os ∧ w2.tape = w1.tape ∧ w2.output = w1.output ∧ w1.heap.size ≤ w2.heap.size) ∧ ∀ k, k < w1.heap.size → k ≠ w.heap.size → w2.heap[k]? = w1.heap[k]?)
    (h3 : w3.heap = w2.heap ∧ w3.os = w2.os ∧ w3.tape = w2.tape ∧ w3.output = w2.output) (hB5 : KBlk w5 Fn wb xb rs' ar cr) (hFn : ∀ k, Fn k → Fk k ∨ w3.heap.size ≤ k) (hK5 : Kept Fk w3 w5) : KAt w5 (Foot F w w5) wb xb S' rs' ∧ Kept F w w5 := by
  obtain ⟨⟨o2, t2, p2, z2⟩, e2⟩ := h2
  obtain ⟨e3, o3, t3, p3⟩ := h3
  have z1 : w.heap.size + 1 ≤ w1.heap.size := by have := hK1.size; omega
  have z3 : w3.heap.size = w2.heap.size := by rw [e3]
  have z5 := hK5.size
  have hx : ∀ k, Foot Fx wA w1 k → k < w1.heap.size ∧ k ≠ w.heap.size ∧ ¬ Fk k := fun k hk => by
    rcases hk with e | e
    · have := hPl k e; exact ⟨by omega, by omega, hd k e⟩
    · exact ⟨by omega, by omega, fun e' => by have := hBl k e'; omega⟩
  have hs : ∀ k, k < w1.heap.size → k ≠ w.heap.size → ¬ Fk k → w5.heap[k]? = w1.heap[k]? := fun k h1 h2 h3 => by
    rw [hK5.block k (by omega) h3, e3]; exact e2 k h1 h2
  refine ⟨⟨Foot Fx wA w1, fun k => Foot F w w5 k ∧ ¬ Foot Fx wA w1 k, ar, cr, hP1.same (fun k hk _ => by obtain ⟨h1, h2, h3⟩ := hx k hk; exact hs k h1 h2 h3) (by omega), hB5.wid (fun k hk => ?_) (fun k hk => ?_), fun k hk e => e.2 hk, fun k => ?_⟩, ?_⟩
  · rcases hFn k hk with e | e
    · exact ⟨Or.inl ((hF k).2 (Or.inr e)), fun e' => (hx k e').2.2 e⟩
    · exact ⟨Or.inr ⟨by omega, hB5.ltF k hk⟩, fun e' => by have := (hx k e').1; omega⟩
  · rcases hk.1 with e | e
    · rcases (hF k).1 e with e | e
      · have := hPl k e; omega
      · have := hBl k e; omega
    · exact e.2
  · constructor
    · intro hk
      by_cases e : Foot Fx wA w1 k
      · exact Or.inl e
      · exact Or.inr ⟨hk, e⟩
    · rintro (hk | hk)
      · rcases hk with e | e
        · exact Or.inl ((hF k).2 (Or.inl e))
        · exact Or.inr ⟨by omega, by omega⟩
      · exact hk.1
  · refine ⟨hK5.os.trans (o3.trans (o2.trans (hK1.os.trans hA.os))), hK5.tape.trans (t3.trans (t2.trans (hK1.tape.trans hA.tape))), hK5.output.trans (p3.trans (p2.trans (hK1.output.trans hA.output))), by omega, fun k hk hn => ?_⟩
    rw [hs k (by omega) (by omega) (fun e => hn ((hF k).2 (Or.inr e))), hK1.block k (by omega) (fun e => hn ((hF k).2 (Or.inl e)))]
    exact hA.block k hk
/-- behind an append to what was asked, and the store of the row -/
theorem KBlk.pushed {o : Obj} {g n' cap : Nat} {rs' : List KR} (h : KBlk w Fk wb xb rs ar cr) (hgrow : ((w.alloc o).drew).grownBy w2 (Value.ownBlock (.slice ar rs.length cr))) (hown : w2.ownsRow 0 28 6 (.slice (some ⟨g, 0, none⟩) n' cap) n' (rs'.flatMap encK)) (hn : n' = rs'.length) (hat : Value.ownBlock (.slice ar rs.length cr) = some g ∨ g = w.heap.size + 1) (hlt : g < w2.heap.size) :
    KBlk (w2.setCell ⟨wb, 1, none⟩ (.slice (some ⟨g, 0, none⟩) n' cap)) (fun k => Fk k ∨ (w.heap.size ≤ k ∧ k < w2.heap.size)) wb xb rs' (some ⟨g, 0, none⟩) cap ∧ Kept Fk w (w2.setCell ⟨wb, 1, none⟩ (.slice (some ⟨g, 0, none⟩) n' cap)) ∧ w2.heap[wb]? = w.heap[wb]? := by
  subst hn
  have hob : ∀ k, Value.ownBlock (.slice ar rs.length cr) = some k → ∃ a, ar = some a ∧ a.block = k := by
    intro k hk
    cases ar with
    | none => simp [Value.ownBlock] at hk
    | some a => exact ⟨a, rfl, by simpa [Value.ownBlock] using hk⟩
  have hs : ∀ k, k < w.heap.size → (∀ a, ar = some a → a.block ≠ k) → w2.heap[k]? = w.heap[k]? := by
    intro k hk hne
    have e1 := hgrow.block k (by simp [World.drew]; omega) (fun e => by obtain ⟨a, ha, hak⟩ := hob k e.symm; exact hne a ha hak)
    exact e1.trans (Below.heap_alloc w o k hk)
  have hz : w.heap.size ≤ w2.heap.size := by have := hgrow.size; simp [World.drew] at this; omega
  have hge : Fk g ∨ w.heap.size ≤ g := by
    rcases hat with e | e
    · obtain ⟨a, ha, rfl⟩ := hob g e; exact Or.inl (h.row.2 a ha)
    · exact Or.inr (by omega)
  have hwb : w2.heap[wb]? = w.heap[wb]? := hs wb (lt_of_heap h.blk) (h.row.ne h.blk (by decide))
  have hz2 : (w2.setCell ⟨wb, 1, none⟩ (.slice (some ⟨g, 0, none⟩) rs'.length cap)).heap.size = w2.heap.size := by simp [World.setCell]
  have hb := hwb.trans h.blk
  have hrow : Row w2 (fun k => Fk k ∨ (w.heap.size ≤ k ∧ k < w2.heap.size)) 28 6 (some ⟨g, 0, none⟩) rs'.length cap (rs'.flatMap encK) := ⟨hown, fun a ha => by cases ha; exact hge.elim Or.inl (fun e => Or.inr ⟨e, hlt⟩)⟩
  refine ⟨⟨Or.inl h.own, by rw [heap_setCell_at hb]; rfl, hrow.setCell_other (hrow.ne hb (by decide)) _, fun k hk => ?_⟩, ?_, hwb⟩
  · rw [hz2]
    rcases hk with e | e
    · have := h.ltF k e; omega
    · exact e.2
  · refine Kept.setCell ((((Kept.refl Fk w).alloc o).drew).grown hgrow (fun k hk => ?_)) (Or.inl h.own) _
    obtain ⟨a, ha, rfl⟩ := hob k hk
    exact Or.inl (h.row.2 a ha)
end
theorem six {w : World} {b : Nat} {r : KR} (h : w.heap[b]? = some (.cells (encK r).toArray 28 (0, 0))) : (w.cell? ⟨b, 0, none⟩ = some (.int .i64 r.num) ∧ w.cell? ⟨b, 1, none⟩ = some (.bool r.write) ∧ w.cell? ⟨b, 2, none⟩ = some (.int .i64 r.page) ∧ w.cell? ⟨b, 3, none⟩ = some (.string r.data) ∧ w.cell? ⟨b, 4, none⟩ = some (.int .i64 r.how) ∧ w.cell? ⟨b, 5, none⟩ = some (.string r.read)) ∧ ∀ j, w.frozen? ⟨b, j, none⟩ = false := by
  simp [World.cell?, World.frozen?, h, encK]
set_option maxHeartbeats 4000000 in
set_option maxRecDepth 1000000 in
/-- a read that is taken in -/
theorem keep_ask_r (S : St) (rs : List KR) (F : Nat → Prop) (wb xb : Nat) (page v : Int) (w : World) (h : KAt w F wb xb S rs) (hg : GCell w) (h0 : ¬ F 0) (hlast : S.last = rs.length) (hl : rs.length ≤ 100000) (hp : 0 ≤ page ∧ page < 16) (hf : ¬ 40 ≤ (S.reqs.length : Int) - S.told.length) :
    Calls Tryz.prog 8 #[.pointer (some ⟨wb, 0, none⟩), .bool false, .int .i64 page, .int .u8 v] w fun e w' => e = .returned (.bool true) ∧ KAt w' (Foot F w w') wb xb (askOk S false page ⟨#[]⟩) (rs ++ [⟨rs.length + 1, false, page, ⟨#[]⟩, 0, ⟨#[]⟩⟩]) ∧ Kept F w w' := by
  obtain ⟨i0, hi, hi0, hi1, hi2⟩ := info_parts info_kreq
  obtain ⟨Fx, Fk, ar, cr, hP, hB, hd, hF⟩ := h
  have hask : askM S false page ⟨#[]⟩ = (S.last + 1, 0, askOk S false page ⟨#[]⟩) := by
    unfold askM; rw [if_neg (by omega), if_neg (by simp), if_neg hf]
  have hb0 := hide (alloc_below w (.cells #[.int .i64 0, .bool false, .int .i64 page, .string ⟨#[]⟩, .int .i64 0, .string ⟨#[]⟩] 28))
  have HRD := hide (plain_read S Fx xb page _ (hP.same (fun k _ hk => hb0.out.block k hk) hb0.out.size) (hg.below hb0.out) (fun e => h0 ((hF 0).2 (Or.inl e))) (by omega))
  rw [hask] at HRD
  have c0 := (hb0.out.cell (p := ⟨wb, 0, none⟩) (lt_of_heap hB.blk)).trans hB.c0
  have HB := hide hB
  have HD := hide hd
  have HF := hide hF
  have HPl := hide hP.lt
  have hwl : wb < w.heap.size := lt_of_heap hB.blk
  have HLA := hide hlast
  clear hP hB hd hF hask hf
  go_enter Tryz.func8, Tryz.ntmps8
  go_wp2_with fail
  refine HRD.out.mono ?_
  rintro e w1 ⟨rfl, hP1, hK1⟩
  have hnx : ∀ k, w.heap.size ≤ k → ¬ Fx k := fun k hk e => by have := HPl.out k e; omega
  have hz1 : w.heap.size < w1.heap.size := by have := hK1.size; simp at this; omega
  have q : w1.heap[w.heap.size]? = some (.cells #[.int .i64 0, .bool false, .int .i64 page, .string ⟨#[]⟩, .int .i64 0, .string ⟨#[]⟩] 28 (0, 0)) := (hK1.block w.heap.size (by simp) (hnx _ (Nat.le_refl _))).trans (heap_alloc_new w _)
  obtain ⟨⟨r0, r1, r2, r3, r4, r5⟩, rf⟩ := six (r := ⟨0, false, page, ⟨#[]⟩, 0, ⟨#[]⟩⟩) q
  have f0 := rf 0
  have HB1 := hide ((HB.out.below hb0.out).kept hK1 (fun k hk e => HD.out k e hk))
  have HK1 := hide hK1
  have HP1 := hide hP1
  rw [HLA.out]
  generalize hA : askOk S false page ⟨#[]⟩ = S' at *
  have HA := hide hA
  clear hA hP1 hK1 HRD rf
  go_wp2_with fail
  refine (keep_fine 0 (-1) 0 _).mono ?_
  rintro e w2 ⟨rfl, hb2⟩
  have ef : fineB 0 (-1) 0 = true := rfl
  rw [ef]
  have hz2 : w1.heap.size < w2.heap.size := by have := hb2.size; simp [World.setCell] at this; omega
  have hwk : ¬ Fk w.heap.size := fun e => by have := HB.out.ltF _ e; omega
  have q2 : w2.heap[w.heap.size]? = some (.cells (encK ⟨rs.length + 1, false, page, ⟨#[]⟩, 0, ⟨#[]⟩⟩).toArray 28 (0, 0)) := by
    rw [hb2.block w.heap.size (by simp [World.setCell]; omega), Below.heap_alloc _ _ _ (by simp [World.setCell]; omega), heap_setCell_at q]; rfl
  obtain ⟨⟨s0, s1, s2, s3, s4, s5⟩, sf⟩ := six q2
  have HB2 : Hid (KBlk w2 Fk wb xb rs ar cr) := (((HB1.out.same (w1 := w1.setCell ⟨w.heap.size, 0, none⟩ (.int .i64 ((rs.length : Int) + 1))) (fun k hk _ => Below.heap_setCell _ _ _ _ (fun e => hwk (by have e' : k = w.heap.size := e; rw [← e']; exact hk))) (by simp [World.setCell])).below (alloc_below _ _)).below hb2)
  have HK2 : Hid (Kept Fx (w.alloc (.cells #[.int .i64 0, .bool false, .int .i64 page, .string ⟨#[]⟩, .int .i64 0, .string ⟨#[]⟩] 28)) w1 ∧ (w2.os = w1.os ∧ w2.tape = w1.tape ∧ w2.output = w1.output ∧ w1.heap.size ≤ w2.heap.size) ∧ ∀ k, k < w1.heap.size → k ≠ w.heap.size → w2.heap[k]? = w1.heap[k]?) := ⟨HK1.out, ⟨hb2.os, hb2.tape, hb2.output, by omega⟩, fun k hk hne => by
    rw [hb2.block k (by simp [World.setCell]; omega), Below.heap_alloc _ _ _ (by simp [World.setCell]; omega), Below.heap_setCell _ _ _ _ hne]⟩
  have c1 := HB2.out.c1
  have f1 := HB2.out.fz 1
  have hwl2 : wb < w2.heap.size := lt_of_heap HB2.out.blk
  have hww : w.heap.size < w2.heap.size := by omega
  have hee : (((rs.length : Int) + 1) != ((rs.length : Int) + 1)) = false := by simp
  clear q q2 hb2 sf r0 r1 r2 r3 r4 r5 f0 c0 HK1 HB1
  go_wp2
  go_quiet (fail)
  go_wp2
  have HB3 : Hid (KBlk (w2.drewN nq) Fk wb xb rs ar cr) := HB2.out.same (fun _ _ _ => rfl) (Nat.le_refl _)
  have hW : Hid ((w2.drewN nq).heap = w2.heap ∧ (w2.drewN nq).os = w2.os ∧ (w2.drewN nq).tape = w2.tape ∧ (w2.drewN nq).output = w2.output) := ⟨rfl, rfl, rfl, rfl⟩
  replace c1 : (w2.drewN nq).cell? ⟨wb, 1, none⟩ = _ := c1
  replace f1 : (w2.drewN nq).frozen? ⟨wb, 1, none⟩ = false := f1
  replace s0 : (w2.drewN nq).cell? ⟨w.heap.size, 0, none⟩ = some (.int .i64 ((rs.length : Int) + 1)) := s0
  replace s1 : (w2.drewN nq).cell? ⟨w.heap.size, 1, none⟩ = some (.bool false) := s1
  replace s2 : (w2.drewN nq).cell? ⟨w.heap.size, 2, none⟩ = some (.int .i64 page) := s2
  replace s3 : (w2.drewN nq).cell? ⟨w.heap.size, 3, none⟩ = some (.string ⟨#[]⟩) := s3
  replace s4 : (w2.drewN nq).cell? ⟨w.heap.size, 4, none⟩ = some (.int .i64 0) := s4
  replace s5 : (w2.drewN nq).cell? ⟨w.heap.size, 5, none⟩ = some (.string ⟨#[]⟩) := s5
  replace hwl2 : wb < (w2.drewN nq).heap.size := hwl2
  replace hww : w.heap.size < (w2.drewN nq).heap.size := hww
  clear HB2
  generalize w2.drewN nq = w3 at *
  have HO : Hid (((w3.alloc (.cells #[.int .i64 ((rs.length : Int) + 1), .bool false, .int .i64 page, .string ⟨#[]⟩, .int .i64 0, .string ⟨#[]⟩] 28)).drew).ownsRow 0 28 6 (.slice ar rs.length cr) rs.length (rs.flatMap encK)) := (HB3.out.row.alloc _).1
  have HN : Hid (∀ (j : Nat) (u : Value), [Value.int .i64 ((rs.length : Int) + 1), .bool false, .int .i64 page, .string ⟨#[]⟩, .int .i64 0, .string ⟨#[]⟩][j]? = some u → ((w3.alloc (.cells #[.int .i64 ((rs.length : Int) + 1), .bool false, .int .i64 page, .string ⟨#[]⟩, .int .i64 0, .string ⟨#[]⟩] 28)).drew).cell? ((⟨w3.heap.size, 0, none⟩ : Addr).add j) = some u) := fun j u => news_new j u
  have HPU : Hid (∀ (g cap : Nat) (w4 : World), w4.ownsRow 0 28 6 (.slice (some ⟨g, 0, none⟩) (rs.length + 1) cap) (rs.length + 1) (rs.flatMap encK ++ [Value.int .i64 ((rs.length : Int) + 1), .bool false, .int .i64 page, .string ⟨#[]⟩, .int .i64 0, .string ⟨#[]⟩]) → ((w3.alloc (.cells #[.int .i64 ((rs.length : Int) + 1), .bool false, .int .i64 page, .string ⟨#[]⟩, .int .i64 0, .string ⟨#[]⟩] 28)).drew).grownBy w4 (Value.ownBlock (.slice ar rs.length cr)) → (Value.ownBlock (.slice ar rs.length cr) = some g ∨ g = w3.heap.size + 1) → g < w4.heap.size → KBlk (w4.setCell ⟨wb, 1, none⟩ (.slice (some ⟨g, 0, none⟩) (rs.length + 1) cap)) (fun k => Fk k ∨ (w3.heap.size ≤ k ∧ k < w4.heap.size)) wb xb (rs ++ [⟨rs.length + 1, false, page, ⟨#[]⟩, 0, ⟨#[]⟩⟩]) (some ⟨g, 0, none⟩) cap ∧ Kept Fk w3 (w4.setCell ⟨wb, 1, none⟩ (.slice (some ⟨g, 0, none⟩) (rs.length + 1) cap)) ∧ w4.heap[wb]? = w3.heap[wb]?) := fun g cap w4 h1 h2 h3 h4 => by
    have e : rs.flatMap encK ++ [Value.int .i64 ((rs.length : Int) + 1), .bool false, .int .i64 page, .string ⟨#[]⟩, .int .i64 0, .string ⟨#[]⟩] = (rs ++ [(⟨rs.length + 1, false, page, ⟨#[]⟩, 0, ⟨#[]⟩⟩ : KR)]).flatMap encK := by simp [List.flatMap_append, encK]
    rw [e] at h1
    exact HB3.out.pushed h2 h1 (by simp) h3 h4
  go_region_law (refine step_append_lies _ rfl (.tmp 86) (.tmp 88) 30 rfl 0 28 i0 (.agg #[.int .i64 0, .bool false, .int .i64 0, .string ⟨#[]⟩, .int .i64 0, .string ⟨#[]⟩]) 6 64 Tryz.underlying30 hi hi0 hi1 hi2 rfl (by decide) (.slice ar rs.length cr) rs.length (rs.flatMap encK) (by simp [Act.eval]) HO.out ⟨w3.heap.size, 0, none⟩ 1 1 [Value.int .i64 ((rs.length : Int) + 1), .bool false, .int .i64 page, .string ⟨#[]⟩, .int .i64 0, .string ⟨#[]⟩] (by simp [Act.eval]) rfl HN.out (by intro u hu; simp at hu; rcases hu with rfl | rfl | rfl | rfl | rfl | rfl <;> rfl) (by decide) (by unfold maxLen; omega) (by omega) (Nat.zero_le _) (w3.heap.size + 1) (by simp) ?_; intro g cap w4 hown hgrow hat hlt4; have HX := hide (HPU.out g cap w4 hown hgrow hat hlt4); clear hown hgrow hat hlt4)
  all_goals
    have m1 := (World.cell?_of_block (a := ⟨wb, 1, none⟩) HX.out.2.2).trans c1
    have n1 := (World.frozen?_of_block (a := ⟨wb, 1, none⟩) HX.out.2.2).trans f1
    clear s0 s1 s2 s3 s4 s5 c1 f1
    go_wp2
    go_ret
    obtain ⟨r1, r2⟩ := KAt.fin hb0.out (by simp) HPl.out HB.out.ltF HD.out HF.out HP1.out HK2.out.1 HK2.out.2 hW.out HX.out.1 (fun k hk => hk.elim Or.inl (fun e => Or.inr e.1)) HX.out.2.1
    rw [HA.out]
    exact ⟨rfl, r1, r2⟩
end Go.Proofs.YtiabdbeejkadnabGreatDoor
