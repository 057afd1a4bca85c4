import Derived.Test.YtiabdbeejkadnaaDoorJd7c8c1a655
import Derived.Test.YtiabdbeejkadnaaDoorCards
import Derived.Test.YtiabdbeejkadnaaDoorTie
import Derived.ProofKit
import Derived.OpenShut
import Derived.Carry
import Derived.Deep.DeepHandedRow
import Derived.LaidLaws
import Derived.LaidHandle
import Derived.Stop.Joined
import Derived.SevenTiedAt
/- The keeps: Tried. Own work of the verifier. -/
namespace Go.Proofs.YtiabdbeejkadnaaDoor
open Go.RowKit Go.Maps

section
variable {w W : World} {F : Nat → Prop} {wb xb i : Nat} {rs : List KR} {wrb : Bool} {p a now h n : Int} {d : ByteArray}
theorem kt_early (hk : KWF w W F wb xb (tS wrb p d i a now h) rs) (hlt : now < a) :
    Calls Tryd.prog 11 #[.pointer (some ⟨xb, 0, none⟩)] W fun e w' => (∃ ao cap, e = .returned (.tuple #[.agg #[.bool false, .int .i64 0, .int .i64 0, .slice ao 0 cap], .bool false])) ∧ KWF w w' (Foot F W w') wb xb (tS wrb p d i a now h) rs ∧ Kept F W w' := by
  have := kw_step w W F wb xb _ rs hk (by show (1 : Int) ≤ 1000000; omega)
  rw [t_early hlt, t_none hlt] at this
  exact this
theorem kt_step (hk : KWF w W F wb xb (tS wrb p d i a now h) rs) (hle : a ≤ now) (hp : 0 ≤ p ∧ p < 16) (hh : 0 ≤ h) :
    Calls Tryd.prog 11 #[.pointer (some ⟨xb, 0, none⟩)] W fun e w' => (∃ ao cap, e = .returned (.tuple #[.agg #[.bool wrb, .int .i64 p, .int .i64 1, .slice ao 1 cap], .bool true])) ∧ KWF w w' (Foot F W w') wb xb (tAir wrb p d i a now) rs ∧ Kept F W w' := by
  have := kw_step w W F wb xb _ rs hk (by show (1 : Int) ≤ 1000000; omega)
  rw [t_step hle hp hh, t_next hle hp hh] at this
  exact this
theorem kt_pending (hk : KWF w W F wb xb (tS wrb p d i a now h) rs) :
    Calls Tryd.prog 13 #[.pointer (some ⟨xb, 0, none⟩), .int .i64 1] W fun e w' => e = .returned (.tuple #[.agg #[.slice none 0 0, .int .i64 0], .agg #[.int .i64 6, .int .i64 1, .int .i64 i, .bool true]]) ∧ KWF w w' (Foot F W w') wb xb (tS wrb p d i a now h) rs ∧ Kept F W w' := by
  have he : plainErr (tS wrb p d i a now h) 1 = (6, 1, (i : Int)) := by unfold plainErr pollErr; rw [t_poll]; rfl
  refine (kw_plainPoll w W F wb xb _ rs 1 hk rfl).mono ?_
  rintro e w1 ⟨⟨ao, n, cap, t, rfl, hA⟩, h2, h3⟩
  rw [he]
  rw [t_poll] at hA h2
  rcases hA with ⟨_, rfl, rfl, rfl, rfl⟩ | ⟨e, _⟩
  · exact ⟨rfl, h2, h3⟩
  · cases e
theorem kt_tick (hk : KWF w W F wb xb (tS wrb p d i a now h) rs) (hn : now ≤ 1000000000) :
    Calls Tryd.prog 14 #[.pointer (some ⟨xb, 0, none⟩)] W fun e w' => e = .returned (.tuple #[]) ∧ KWF w w' (Foot F W w') wb xb (tS wrb p d i a (now + 1) h) rs ∧ Kept F W w' := kw_tick w W F wb xb _ rs hk hn
theorem kt_again (hk : KWF w W F wb xb (tAir wrb p d i a now) rs) (hi : i < 3) (hn : now ≤ 1000000000) :
    Calls Tryd.prog 12 #[.pointer (some ⟨xb, 0, none⟩), .int .i64 0, .bool true] W fun e w' => e = .returned (.agg #[.int .i64 0, .int .i64 (-1), .int .i64 0, .bool true]) ∧ KWF w w' (Foot F W w') wb xb (tS wrb p d (i + 1) (now + ((2 ^ i : Nat) : Int)) now (p + 1)) rs ∧ Kept F W w' := by
  have := kw_complete w W F wb xb _ rs 0 true hk hn (by show (1 : Int) ≤ 1000000; omega)
  rw [t_again hi] at this
  exact this
theorem kt_fail (hk : KWF w W F wb xb (tAir wrb p d 3 a now) rs) (hp : 0 ≤ p ∧ p < 16) (hn : now ≤ 1000000000) :
    Calls Tryd.prog 12 #[.pointer (some ⟨xb, 0, none⟩), .int .i64 0, .bool true] W fun e w' => e = .returned (.agg #[.int .i64 0, .int .i64 (-1), .int .i64 0, .bool true]) ∧ (∃ S, KWF w w' (Foot F W w') wb xb S rs ∧ TFin wrb p d false S) ∧ Kept F W w' := by
  obtain ⟨S, h1, h2⟩ := t_fail (wr := wrb) (d := d) (a := a) (now := now) hp
  have := kw_complete w W F wb xb _ rs 0 true hk hn (by show (1 : Int) ≤ 1000000; omega)
  rw [h1] at this
  refine this.mono ?_
  rintro e w1 ⟨g1, g2, g3⟩
  exact ⟨g1, ⟨S, g2, h2⟩, g3⟩
theorem kt_last {S : St} {good : Bool} (hk : KWF w W F wb xb S rs) (hf : TFin wrb p d good S) :
    Calls Tryd.prog 11 #[.pointer (some ⟨xb, 0, none⟩)] W fun e w' => (∃ ao cap, e = .returned (.tuple #[.agg #[.bool false, .int .i64 0, .int .i64 0, .slice ao 0 cap], .bool false])) ∧ KWF w w' (Foot F W w') wb xb S rs ∧ Kept F W w' := by
  have := kw_step w W F wb xb _ rs hk (by rw [hf.last]; omega)
  rw [hf.step, hf.next] at this
  exact this
/-- what poll leaves -/
structure TDone (wrb : Bool) (p : Int) (d : ByteArray) (good : Bool) (S : St) (r : KR) : Prop where
  how : r.how = (if good then 1 else 2)
  data : r.data = d
  len : S.disk.length = 64
  disk : getM S.disk (4 * p).toNat = (if good && wrb then d else ⟨#[0, 0, 0, 0]⟩)
theorem kt_poll {S : St} {good : Bool} (hk : KWF w W F wb xb S [⟨1, wrb, p, d, 0, ⟨#[]⟩⟩]) (hf : TFin wrb p d good S) :
    Calls Tryd.prog 16 #[.pointer (some ⟨wb, 0, none⟩), .int .i64 0] W fun e w' => e = .returned (.bool true) ∧ ∃ S' r', KWF w w' (Foot F W w') wb xb S' [r'] ∧ TDone wrb p d good S' r' := by
  obtain ⟨s, tr, k, S', r', e1, e2, e3, h1, h2, h3, h4, h5, h6, h7⟩ := hf.poll
  refine (kw_poll w W F wb xb S [⟨1, wrb, p, d, 0, ⟨#[]⟩⟩] S' s tr k e1 e2 e3 ⟨1, wrb, p, d, 0, ⟨#[]⟩⟩ r' 0 hk (by simp) rfl (by simp) rfl ⟨by show (0 : Int) ≠ 1; decide, by show (0 : Int) ≠ 2; decide⟩ h1 h2 h3).mono ?_
  rintro e w1 ⟨g1, g2, g3⟩
  exact ⟨g1, S', r', g2, h4, h5, h6, h7⟩
theorem kt_conv {W0 : World} {P : Nat → Prop} {g cap : Nat} {disk : List UInt8} {a : Nat} (h : Row W0 P 5 1 (some ⟨g, 0, none⟩) 64 cap (encB disk)) (hl : disk.length = 64) (ha : a + 4 ≤ 64) (c : Nat) :
    (convert 43 9 (.slice (some ⟨g, a, none⟩) 4 c)).run Tryd.prog W0 = .ok (.string (getM disk a)) W0 := by
  have hlen : (getM disk a).data.toList.length = 4 := by simp [getM]; omega
  have := run_convert_bytes_back (P := Tryd.prog) W0 43 9 5 ⟨g, a, none⟩ c (getM disk a).data.toList Tryd.underlying43 Tryd.underlying5 Tryd.underlying9 (fun j hj => by
    have hj4 : j < 4 := by omega
    rw [Addr.add_lit, h.cellAt (a + j) (by omega)]
    simp [getM, encB, List.getElem?_eq_getElem (show a + j < disk.length by omega)])
  rw [hlen] at this
  exact this
theorem kt_zero (W0 : World) : (convert 43 9 (.slice (some ⟨W0.heap.size, 0, none⟩) 4 4)).run Tryd.prog (W0.alloc (.cells #[.int .u8 0, .int .u8 0, .int .u8 0, .int .u8 0] 5)) = .ok (.string ⟨#[0, 0, 0, 0]⟩) (W0.alloc (.cells #[.int .u8 0, .int .u8 0, .int .u8 0, .int .u8 0] 5)) := by
  have hW := heap_alloc_new W0 (.cells #[.int .u8 0, .int .u8 0, .int .u8 0, .int .u8 0] 5)
  exact run_convert_bytes_back (P := Tryd.prog) _ 43 9 5 ⟨W0.heap.size, 0, none⟩ 4 [0, 0, 0, 0] Tryd.underlying43 Tryd.underlying5 Tryd.underlying9 (fun j hj => by
    have hj4 : j < 4 := hj
    rw [Addr.add_lit, Nat.zero_add]
    have h4 : j = 0 ∨ j = 1 ∨ j = 2 ∨ j = 3 := by omega
    rcases h4 with rfl | rfl | rfl | rfl <;> (simp only [World.cell?]; rw [hW]; rfl))
theorem kt_cells {S : St} {r : KR} (hk : KWF w W F wb xb S [r]) : ∃ g c, W.cell? ⟨wb, 1, none⟩ = some (.slice (some ⟨g, 0, none⟩) 1 c) ∧ W.cell? ⟨g, 3, none⟩ = some (.string r.data) ∧ W.cell? ⟨g, 4, none⟩ = some (.int .i64 r.how) ∧ g < W.heap.size ∧ wb < W.heap.size := by
  obtain ⟨Fx, Fk, ar, cr, hP, hB, hd, hF⟩ := hk.at_
  obtain ⟨g, cur, hgg, hgF, hgb, _, _⟩ := Row.some hB.row (by simp)
  subst hgg
  refine ⟨g, cr, hB.c1, ?_, ?_, lt_of_heap hgb, lt_of_heap hB.blk⟩
  · rw [Row.cellAt hB.row 3 (by simp)]; rfl
  · rw [Row.cellAt hB.row 4 (by simp)]; rfl
theorem kt_four {W w' : World} {F : Nat → Prop} {v0 v1 v2 v3 : Value} {t : TypeId} (hK : Kept F (W.alloc (.cells #[v0, v1, v2, v3] t)) w') (hn : ¬ F W.heap.size) : w'.heap[W.heap.size]? = some (.cells #[v0, v1, v2, v3] t (0, 0)) := (hK.block _ (by simp) hn).trans (heap_alloc_new W _)
theorem kt_good (hk : KWF w W F wb xb (tAir wrb p d i a now) rs) (hi : i ≤ 3) (hp : 0 ≤ p ∧ p < 16) (hd : wrb = true → d = ⟨#[9, 0, 0, 1]⟩) (hn : now ≤ 1000000000) :
    Calls Tryd.prog 12 #[.pointer (some ⟨xb, 0, none⟩), .int .i64 0, .bool false] W fun e w' => e = .returned (.agg #[.int .i64 0, .int .i64 (-1), .int .i64 0, .bool true]) ∧ (∃ S, KWF w w' (Foot F W w') wb xb S rs ∧ TFin wrb p d true S) ∧ Kept F W w' := by
  obtain ⟨S, h1, h2⟩ := t_good (wr := wrb) (d := d) (a := a) (now := now) hi hp hd
  have := kw_complete w W F wb xb _ rs 0 false hk hn (by show (1 : Int) ≤ 1000000; omega)
  rw [h1] at this
  refine this.mono ?_
  rintro e w1 ⟨g1, g2, g3⟩
  exact ⟨g1, ⟨S, g2, h2⟩, g3⟩
end
set_option maxHeartbeats 4000000 in
set_option maxRecDepth 1000000 in
theorem tried_walk (write page faults : Int) (w : World) (hg : GCell w) (h1 : -9223372036854775808 ≤ write ∧ write ≤ 9223372036854775807) (h2 : -9223372036854775808 ≤ page ∧ page ≤ 9223372036854775807) (h3 : -9223372036854775808 ≤ faults ∧ faults ≤ 9223372036854775807) :
    Calls Tryd.prog 5 #[.int .i64 write, .int .i64 page, .int .i64 faults] w fun e w' => e = .returned (.bool true) ∧ Below w.heap.size w w' := by
  have HP1 : Hid (∀ W, Calls Tryd.prog 9 #[.int .i64 write, .int .i64 2] W fun e w' => e = .returned (.int .i64 (kpickM write 2)) ∧ w' = W) := fun W => keep_pick write 2 W h1 (by omega) (by omega)
  have HP2 : Hid (∀ W, Calls Tryd.prog 9 #[.int .i64 page, .int .i64 16] W fun e w' => e = .returned (.int .i64 (kpickM page 16)) ∧ w' = W) := fun W => keep_pick page 16 W h2 (by omega) (by omega)
  have HP3 : Hid (∀ W, Calls Tryd.prog 9 #[.int .i64 faults, .int .i64 5] W fun e w' => e = .returned (.int .i64 (kpickM faults 5)) ∧ w' = W) := fun W => keep_pick faults 5 W h3 (by omega) (by omega)
  have HBG := hide (kw_begun w 0 hg (by omega))
  rw [show kpickM 0 4 = 0 from rfl, show (1 : Int) + 0 = 1 from rfl] at HBG
  have hq := kpickM_lt page 16 (by omega)
  have hn := kpickM_lt faults 5 (by omega)
  generalize kpickM write 2 = pw at *
  generalize kpickM page 16 = p0 at *
  obtain ⟨p, rfl⟩ := Int.eq_ofNat_of_zero_le hq.1
  generalize hnn : kpickM faults 5 = n at *
  clear h1 h2 h3 hg hnn
  go_enter Tryd.func5, Tryd.ntmps5
  go_wp2_with fail
  refine HBG.out.mono ?_
  rintro e w1 ⟨wb, xb, rfl, F1, hk1⟩
  have HK1 := hide hk1
  clear hk1 HBG
  go_wp2_with fail
  refine (HP1.out _).mono ?_
  rintro e w2 ⟨rfl, hw2⟩
  have hw2 := hw2.symm
  subst hw2
  go_wp2_with fail
  refine (HP2.out _).mono ?_
  rintro e w2 ⟨rfl, hw2⟩
  have hw2 := hw2.symm
  subst hw2
  generalize hwb : (pw == 1) = wrb at *
  have HASK : Hid (Calls Tryd.prog 10 #[.pointer (some ⟨wb, 0, none⟩), .bool wrb, .int .i64 p, .int .u8 9] w1 fun e w' => e = .returned (.bool true) ∧ KWF w w' (Foot F1 w1 w') wb xb (askOk (St.new 1) wrb p (if wrb then kdata 9 0 else ⟨#[]⟩)) [⟨1, wrb, p, (if wrb then kdata 9 0 else ⟨#[]⟩), 0, ⟨#[]⟩⟩] ∧ Kept F1 w1 w') := kw_ask w w1 F1 wb xb (St.new 1) [] wrb p 9 HK1.out rfl (by simp) hq (by simp [St.new])
  rw [ask_tS] at HASK
  have hdd : Hid (wrb = true → (if wrb then kdata 9 0 else (⟨#[]⟩ : ByteArray)) = ⟨#[9, 0, 0, 1]⟩) := fun e => by rw [e]; rfl
  generalize hdv : (if wrb then kdata 9 0 else (⟨#[]⟩ : ByteArray)) = d at *
  clear hdv
  go_wp2_with fail
  refine HASK.out.mono ?_
  rintro e w2 ⟨rfl, hk2, hkk⟩
  have HK2 := hide hk2
  clear hk2 hkk HK1 HASK
  go_wp2_with fail
  refine (HP3.out _).mono ?_
  rintro e w3 ⟨rfl, hw3⟩
  have hw3 := hw3.symm
  subst hw3
  go_wp2
  go_loopw [11, 12] (fun vw vi wr => ∃ (i wt : Nat), i ≤ 4 ∧ wt ≤ 8 ∧ vw = .int .i64 wt ∧ vi = .int .i64 i ∧ Hid (∃ F, (i < 4 ∧ (i : Int) ≤ n ∧ ∃ t h : Int, 0 ≤ t ∧ t ≤ 20 * i ∧ 0 ≤ h ∧ KWF w wr F wb xb (tS wrb p d i (t + wt) t h) [⟨1, wrb, p, d, 0, ⟨#[]⟩⟩]) ∨ (i = 4 ∧ n = 4 ∧ ∃ S, KWF w wr F wb xb S [⟨1, wrb, p, d, 0, ⟨#[]⟩⟩] ∧ TFin wrb p d false S))) (fun _ vi _ => 4 - (intOf vi).toNat)
  case atStart => exact ⟨0, 0, by omega, by omega, rfl, rfl, _, Or.inl ⟨by omega, by omega, 0, 0, by omega, by omega, by omega, HK2.out⟩⟩
  case round =>
    clear HK2
    obtain ⟨i, wt, hi4, hwt, rfl, rfl, hR⟩ := hrel
    by_cases hlt : i < 4
    · obtain ⟨F0, ⟨_, hin, t, h, ht0, ht1, hh0, hk0⟩ | ⟨e, _⟩⟩ := hR.out
      · have hlti : (i : Int) < 4 := by omega
        have HK0 := hide hk0
        clear hR hk0
        go_wp2
        go_loopw [13] (fun vk wk => ∃ k : Nat, k ≤ wt ∧ vk = .int .i64 k ∧ Hid (∃ F, KWF w wk F wb xb (tS wrb p d i (t + wt) (t + k) h) [⟨1, wrb, p, d, 0, ⟨#[]⟩⟩])) (fun vk _ => wt - (intOf vk).toNat)
        case atStart => exact ⟨0, by omega, rfl, _, by simpa using HK0.out⟩
        case round =>
          clear HK0
          obtain ⟨k, hkw, rfl, hK⟩ := hrel
          obtain ⟨F1, hk1⟩ := hK.out
          have q1 := hk1.q
          obtain ⟨q0, qz⟩ := q1
          by_cases hkl : k < wt
          · have hki : (k : Int) < (wt : Int) := by omega
            have HST := hide (kt_early hk1 (by omega))
            clear hK hk1
            go_wp2_with fail
            refine HST.out.mono ?_
            rintro e w4 ⟨⟨ao, cap, rfl⟩, hk2, _⟩
            clear q0 qz HST
            have q2 := hk2.q
            obtain ⟨q0, qz⟩ := q2
            have HPO : Hid (∀ o, Calls Tryd.prog 13 #[.pointer (some ⟨xb, 0, none⟩), .int .i64 1] (w4.alloc o) fun e w' => e = .returned (.tuple #[.agg #[.slice none 0 0, .int .i64 0], .agg #[.int .i64 6, .int .i64 1, .int .i64 i, .bool true]]) ∧ (∃ F, KWF w w' F wb xb (tS wrb p d i (t + wt) (t + k) h) [⟨1, wrb, p, d, 0, ⟨#[]⟩⟩])) := fun o => (kt_pending (hk2.alloc o)).mono fun e w' ⟨g1, g2, _⟩ => ⟨g1, _, g2⟩
            clear hk2
            go_wp2_with fail
            refine (HPO.out _).mono ?_
            rintro e w5 ⟨rfl, F3, hk3⟩
            clear q0 qz HPO
            have q2 := hk3.q
            obtain ⟨q0, qz⟩ := q2
            have HTI : Hid (∀ o o', Calls Tryd.prog 14 #[.pointer (some ⟨xb, 0, none⟩)] ((w5.alloc o).alloc o') fun e w' => e = .returned (.tuple #[]) ∧ (∃ F, KWF w w' F wb xb (tS wrb p d i (t + wt) (t + (k + 1 : Nat)) h) [⟨1, wrb, p, d, 0, ⟨#[]⟩⟩])) := fun o o' => (kt_tick ((hk3.alloc o).alloc o') (by omega)).mono fun e w' ⟨g1, g2, _⟩ => ⟨g1, _, by rw [show t + ((k + 1 : Nat) : Int) = t + k + 1 by omega]; exact g2⟩
            have hii : ((i : Int) != (i : Int)) = false := by simp
            clear hk3
            go_wp2_with fail
            refine (HTI.out _ _).mono ?_
            rintro e w6 ⟨rfl, hk6⟩
            have HK6 := hide hk6
            clear hk6 HTI q0 qz
            go_wp2
            go_roundw
            case rel => exact ⟨k + 1, by omega, by go_num, HK6⟩
            case measure => simp [intOf]; omega
          · have hke : k = wt := by omega
            subst hke
            have HST := hide (kt_step hk1 (by omega) hq hh0)
            clear hK hk1
            go_wp2_with fail
            refine HST.out.mono ?_
            rintro e w4 ⟨⟨ao, cap, rfl⟩, hk2, _⟩
            clear q0 qz HST
            obtain ⟨q0, qz⟩ := hk2.q
            have hnew := hk2.new w4.heap.size (Nat.le_refl _)
            have hww : (wrb != wrb) = false := by simp
            by_cases hfin : (i : Int) < n
            · by_cases hi3 : i < 3
              · have HCO : Hid (Calls Tryd.prog 12 #[.pointer (some ⟨xb, 0, none⟩), .int .i64 0, .bool true] (w4.alloc (.cells #[.bool wrb, .int .i64 (p : Int), .int .i64 1, .slice ao 1 cap] 34)) fun e w' => e = .returned (.agg #[.int .i64 0, .int .i64 (-1), .int .i64 0, .bool true]) ∧ (∃ F, KWF w w' F wb xb (tS wrb p d (i + 1) ((t + k) + ((2 ^ i : Nat) : Int)) (t + k) (p + 1)) [⟨1, wrb, p, d, 0, ⟨#[]⟩⟩]) ∧ w'.heap[w4.heap.size]? = some (.cells #[.bool wrb, .int .i64 (p : Int), .int .i64 1, .slice ao 1 cap] 34 (0, 0))) := (kt_again (hk2.alloc _) hi3 (by omega)).mono fun e w' ⟨g1, g2, g3⟩ => ⟨g1, ⟨_, g2⟩, kt_four g3 hnew⟩
                clear hk2 hnew
                go_wp2_with fail
                refine HCO.out.mono ?_
                rintro e w5 ⟨rfl, ⟨F5, hk5⟩, hc5⟩
                have HK5 := hide hk5
                have HC5 := hide hc5
                clear HCO q0 qz hk5 hc5
                go_wp2_with fail
                refine (keep_fine 0 (-1) 0 _).mono ?_
                rintro e w6 ⟨rfl, hb6⟩
                have ef : fineB 0 (-1) 0 = true := rfl
                rw [ef]
                have HB6 := hide hb6
                have hzz := lt_of_heap HC5.out
                have hz6 : w4.heap.size < w6.heap.size := by have := hb6.size; simp at this; omega
                have hc6 : w6.heap[w4.heap.size]? = some (.cells #[.bool wrb, .int .i64 (p : Int), .int .i64 1, .slice ao 1 cap] 34 (0, 0)) := by
                  rw [hb6.block _ (by simp; omega), Below.heap_alloc _ _ _ hzz]; exact HC5.out
                obtain ⟨⟨c0, c1, c2, c3⟩, _⟩ := cells4 hc6
                have HK6 : Hid (∃ F, KWF w w6 F wb xb (tS wrb p d (i + 1) ((t + k) + ((2 ^ i : Nat) : Int)) (t + k) (p + 1)) [⟨1, wrb, p, d, 0, ⟨#[]⟩⟩]) := ⟨_, (HK5.out.alloc _).below hb6⟩
                clear hb6 hc6 hzz HB6 HK5
                have h3 : i = 0 ∨ i = 1 ∨ i = 2 := by omega
                rcases h3 with rfl | rfl | rfl
                · go_wp2
                  go_roundw
                  case rel => exact ⟨1, 1, by omega, by omega, by go_num, by go_num, HK6.out.elim fun F6 h6 => ⟨F6, Or.inl ⟨by omega, by omega, t + k, p + 1, by omega, by omega, by omega, h6⟩⟩⟩
                  case measure => simp [intOf]
                · go_wp2
                  go_roundw
                  case rel => exact ⟨2, 2, by omega, by omega, by go_num, by go_num, HK6.out.elim fun F6 h6 => ⟨F6, Or.inl ⟨by omega, by omega, t + k, p + 1, by omega, by omega, by omega, h6⟩⟩⟩
                  case measure => simp [intOf]
                · go_wp2
                  go_roundw
                  case rel => exact ⟨3, 4, by omega, by omega, by go_num, by go_num, HK6.out.elim fun F6 h6 => ⟨F6, Or.inl ⟨by omega, by omega, t + k, p + 1, by omega, by omega, by omega, h6⟩⟩⟩
                  case measure => simp [intOf]
              · have hi3' : i = 3 := by omega
                subst hi3'
                obtain rfl : n = 4 := by omega
                have HCO : Hid (Calls Tryd.prog 12 #[.pointer (some ⟨xb, 0, none⟩), .int .i64 0, .bool true] (w4.alloc (.cells #[.bool wrb, .int .i64 (p : Int), .int .i64 1, .slice ao 1 cap] 34)) fun e w' => e = .returned (.agg #[.int .i64 0, .int .i64 (-1), .int .i64 0, .bool true]) ∧ (∃ F S, KWF w w' F wb xb S [⟨1, wrb, p, d, 0, ⟨#[]⟩⟩] ∧ TFin wrb p d false S) ∧ w'.heap[w4.heap.size]? = some (.cells #[.bool wrb, .int .i64 (p : Int), .int .i64 1, .slice ao 1 cap] 34 (0, 0))) := (kt_fail (hk2.alloc _) hq (by omega)).mono fun e w' ⟨g1, ⟨S, g2, g4⟩, g3⟩ => ⟨g1, ⟨_, S, g2, g4⟩, kt_four g3 hnew⟩
                clear hk2 hnew
                go_wp2_with fail
                refine HCO.out.mono ?_
                rintro e w5 ⟨rfl, ⟨F5, S5, hk5⟩, hc5⟩
                have HK5 := hide hk5
                have HC5 := hide hc5
                clear HCO q0 qz hk5 hc5
                go_wp2_with fail
                refine (keep_fine 0 (-1) 0 _).mono ?_
                rintro e w6 ⟨rfl, hb6⟩
                have ef : fineB 0 (-1) 0 = true := rfl
                rw [ef]
                have hzz := lt_of_heap HC5.out
                have hz6 : w4.heap.size < w6.heap.size := by have := hb6.size; simp at this; omega
                have hc6 : w6.heap[w4.heap.size]? = some (.cells #[.bool wrb, .int .i64 (p : Int), .int .i64 1, .slice ao 1 cap] 34 (0, 0)) := by
                  rw [hb6.block _ (by simp; omega), Below.heap_alloc _ _ _ hzz]; exact HC5.out
                obtain ⟨⟨c0, c1, c2, c3⟩, _⟩ := cells4 hc6
                have HK6 : Hid (KWF w w6 F5 wb xb S5 [⟨1, wrb, p, d, 0, ⟨#[]⟩⟩] ∧ TFin wrb p d false S5) := ⟨(HK5.out.1.alloc _).below hb6, HK5.out.2⟩
                clear hb6 hc6 hzz HK5
                go_wp2
                go_roundw
                case rel => exact ⟨4, 8, by omega, by omega, by go_num, by go_num, F5, Or.inr ⟨rfl, by omega, S5, HK6.out⟩⟩
                case measure => simp [intOf]
            · have hfd : decide ((i : Int) < n) = false := decide_eq_false hfin
              have HCO : Hid (Calls Tryd.prog 12 #[.pointer (some ⟨xb, 0, none⟩), .int .i64 0, .bool false] (w4.alloc (.cells #[.bool wrb, .int .i64 (p : Int), .int .i64 1, .slice ao 1 cap] 34)) fun e w' => e = .returned (.agg #[.int .i64 0, .int .i64 (-1), .int .i64 0, .bool true]) ∧ (∃ F S, KWF w w' F wb xb S [⟨1, wrb, p, d, 0, ⟨#[]⟩⟩] ∧ TFin wrb p d true S) ∧ w'.heap[w4.heap.size]? = some (.cells #[.bool wrb, .int .i64 (p : Int), .int .i64 1, .slice ao 1 cap] 34 (0, 0))) := (kt_good (hk2.alloc _) (by omega) hq hdd.out (by omega)).mono fun e w' ⟨g1, ⟨S, g2, g4⟩, g3⟩ => ⟨g1, ⟨_, S, g2, g4⟩, kt_four g3 hnew⟩
              clear hk2 hnew
              go_wp2_with fail
              refine HCO.out.mono ?_
              rintro e w5 ⟨rfl, ⟨F5, S5, hk5⟩, hc5⟩
              have HK5 := hide hk5
              have HC5 := hide hc5
              clear HCO q0 qz hk5 hc5
              go_wp2_with fail
              refine (keep_fine 0 (-1) 0 _).mono ?_
              rintro e w6 ⟨rfl, hb6⟩
              have ef : fineB 0 (-1) 0 = true := rfl
              rw [ef]
              have hzz := lt_of_heap HC5.out
              have hz6 : w4.heap.size < w6.heap.size := by have := hb6.size; simp at this; omega
              have hc6 : w6.heap[w4.heap.size]? = some (.cells #[.bool wrb, .int .i64 (p : Int), .int .i64 1, .slice ao 1 cap] 34 (0, 0)) := by
                rw [hb6.block _ (by simp; omega), Below.heap_alloc _ _ _ hzz]; exact HC5.out
              obtain ⟨⟨c0, c1, c2, c3⟩, _⟩ := cells4 hc6
              have HF : Hid (KWF w w6 F5 wb xb S5 [⟨1, wrb, p, d, 0, ⟨#[]⟩⟩] ∧ TFin wrb p d true S5) := ⟨(HK5.out.1.alloc _).below hb6, HK5.out.2⟩
              have hn4 : n < 4 := by omega
              clear hb6 hc6 hzz HK5 HC5
              obtain ⟨q0, qz⟩ := HF.out.1.q
              have HST := hide (kt_last HF.out.1 HF.out.2)
              go_wp2_with fail
              refine HST.out.mono ?_
              rintro e wa ⟨⟨ao9, cap9, rfl⟩, hka, _⟩
              clear q0 qz HST
              have HPO : Hid (∀ o, Calls Tryd.prog 16 #[.pointer (some ⟨wb, 0, none⟩), .int .i64 0] (wa.alloc o) fun e w' => e = .returned (.bool true) ∧ ∃ F S' r', KWF w w' F wb xb S' [r'] ∧ TDone wrb p d true S' r') := fun o => (kt_poll (hka.alloc o) HF.out.2).mono fun e w' ⟨g1, S', r', g2, g3⟩ => ⟨g1, _, S', r', g2, g3⟩
              clear hka HF
              go_wp2_with fail
              refine (HPO.out _).mono ?_
              rintro e wc ⟨rfl, Fc, S', r', hkc, hdn⟩
              obtain ⟨q0, qz⟩ := hkc.q
              have HDI := hide (kw_disk w wc Fc wb xb S' [r'] hkc)
              clear hkc HPO
              go_wp2_with fail
              refine HDI.out.mono ?_
              rintro e wd ⟨ad, cd, rfl, hrow, hkd, _⟩
              obtain ⟨gd, curd, hgd, _, hgb, hcd, _⟩ := Row.some hrow (by omega)
              subst hgd
              have HROW := hide hrow
              have HKD := hide hkd
              have HDN := hide hdn
              have hgz := lt_of_heap hgb
              clear hrow hkd hdn hgb HDI q0 qz
              go_wp2_with fail
              refine (HP2.out _).mono ?_
              rintro e w9 ⟨rfl, hw9⟩
              have hw9 := hw9.symm
              subst hw9
              obtain ⟨gr, cr, k1, k3, k4, kz, kwz⟩ := kt_cells HKD.out
              rw [HDN.out.data] at k3
              rw [HDN.out.how] at k4
              have HV := hide HDN.out.disk
              rw [show (4 * (p : Int)).toNat = 4 * p by omega] at HV
              have hcz : (convert 43 9 (.slice (some ⟨wd.heap.size, 0, none⟩) 4 4)).run Tryd.prog (wd.alloc (.cells #[.int .u8 0, .int .u8 0, .int .u8 0, .int .u8 0] 5)) = .ok (.string ⟨#[0, 0, 0, 0]⟩) (wd.alloc (.cells #[.int .u8 0, .int .u8 0, .int .u8 0, .int .u8 0] 5)) := kt_zero wd
              have hcd : ∀ c, (convert 43 9 (.slice (some ⟨gd, 4 * p, none⟩) 4 c)).run Tryd.prog (wd.alloc (.cells #[.int .u8 0, .int .u8 0, .int .u8 0, .int .u8 0] 5)) = .ok (.string (getM S'.disk (4 * p))) (wd.alloc (.cells #[.int .u8 0, .int .u8 0, .int .u8 0, .int .u8 0] 5)) := fun c => kt_conv (HROW.out.alloc _) HDN.out.len (by omega) c
              rw [HV.out] at hcd
              have HEND := hide (HKD.out.bel.trans ((alloc_below wd (.cells #[.int .u8 0, .int .u8 0, .int .u8 0, .int .u8 0] 5)).mono HKD.out.bel.size))
              have hpp : (p : Int) < 16 := hq.2
              clear HKD HDN HROW HV
              cases wrb with
              | true =>
                rw [show (if (true && true) = true then d else (⟨#[0, 0, 0, 0]⟩ : ByteArray)) = d from rfl] at hcd
                have hdl := hdd.out rfl
                clear hdd
                subst hdl
                go_wp2
                go_ret
                exact ⟨rfl, HEND.out⟩
              | false =>
                rw [show (if (true && false) = true then d else (⟨#[0, 0, 0, 0]⟩ : ByteArray)) = ⟨#[0, 0, 0, 0]⟩ from rfl] at hcd
                go_wp2
                go_ret
                exact ⟨rfl, HEND.out⟩
      · omega
    · obtain ⟨F0, ⟨h4, _⟩ | ⟨he4, hn4, S0, hk0⟩⟩ := hR.out
      · omega
      · subst he4 hn4
        have HF := hide hk0
        clear hR hk0
        obtain ⟨q0, qz⟩ := HF.out.1.q
        have HST := hide (kt_last HF.out.1 HF.out.2)
        go_wp2_with fail
        refine HST.out.mono ?_
        rintro e wa ⟨⟨ao9, cap9, rfl⟩, hka, _⟩
        clear q0 qz HST
        have HPO : Hid (∀ o, Calls Tryd.prog 16 #[.pointer (some ⟨wb, 0, none⟩), .int .i64 0] (wa.alloc o) fun e w' => e = .returned (.bool true) ∧ ∃ F S' r', KWF w w' F wb xb S' [r'] ∧ TDone wrb p d false S' r') := fun o => (kt_poll (hka.alloc o) HF.out.2).mono fun e w' ⟨g1, S', r', g2, g3⟩ => ⟨g1, _, S', r', g2, g3⟩
        clear hka HF
        go_wp2_with fail
        refine (HPO.out _).mono ?_
        rintro e wc ⟨rfl, Fc, S', r', hkc, hdn⟩
        obtain ⟨q0, qz⟩ := hkc.q
        have HDI := hide (kw_disk w wc Fc wb xb S' [r'] hkc)
        clear hkc HPO
        go_wp2_with fail
        refine HDI.out.mono ?_
        rintro e wd ⟨ad, cd, rfl, hrow, hkd, _⟩
        obtain ⟨gd, curd, hgd, _, hgb, hcd, _⟩ := Row.some hrow (by omega)
        subst hgd
        have HROW := hide hrow
        have HKD := hide hkd
        have HDN := hide hdn
        have hgz := lt_of_heap hgb
        clear hrow hkd hdn hgb HDI q0 qz
        go_wp2_with fail
        refine (HP2.out _).mono ?_
        rintro e w9 ⟨rfl, hw9⟩
        have hw9 := hw9.symm
        subst hw9
        obtain ⟨gr, cr, k1, k3, k4, kz, kwz⟩ := kt_cells HKD.out
        rw [HDN.out.data] at k3
        rw [HDN.out.how] at k4
        have HV := hide HDN.out.disk
        rw [show (4 * (p : Int)).toNat = 4 * p by omega] at HV
        have hcz : (convert 43 9 (.slice (some ⟨wd.heap.size, 0, none⟩) 4 4)).run Tryd.prog (wd.alloc (.cells #[.int .u8 0, .int .u8 0, .int .u8 0, .int .u8 0] 5)) = .ok (.string ⟨#[0, 0, 0, 0]⟩) (wd.alloc (.cells #[.int .u8 0, .int .u8 0, .int .u8 0, .int .u8 0] 5)) := kt_zero wd
        have hcd : ∀ c, (convert 43 9 (.slice (some ⟨gd, 4 * p, none⟩) 4 c)).run Tryd.prog (wd.alloc (.cells #[.int .u8 0, .int .u8 0, .int .u8 0, .int .u8 0] 5)) = .ok (.string (getM S'.disk (4 * p))) (wd.alloc (.cells #[.int .u8 0, .int .u8 0, .int .u8 0, .int .u8 0] 5)) := fun c => kt_conv (HROW.out.alloc _) HDN.out.len (by omega) c
        rw [HV.out] at hcd
        have HEND := hide (HKD.out.bel.trans ((alloc_below wd (.cells #[.int .u8 0, .int .u8 0, .int .u8 0, .int .u8 0] 5)).mono HKD.out.bel.size))
        have hpp : (p : Int) < 16 := hq.2
        clear HKD HDN HROW HV
        rw [show (if (false && wrb) = true then d else (⟨#[0, 0, 0, 0]⟩ : ByteArray)) = ⟨#[0, 0, 0, 0]⟩ from rfl] at hcd
        go_wp2
        go_ret
        exact ⟨rfl, HEND.out⟩
end Go.Proofs.YtiabdbeejkadnaaDoor

/- The keep Tried: the row and its tied card. Own work of the verifier. -/
namespace Go.Proofs.YtiabdbeejkadnaaDoor
open Go.ChangeShapes Go.WideShapes Go.RowKit

theorem kOwn : ownKnob Tryd.prog.godebug = none := by kernel_rfl
theorem kEt : Tryd.prog.globalNamed "errors.errorType" = some 0 := by kernel_rfl
theorem kRt : (Tryd.prog.cutTypes.find? (·.1 == "internal/reflectlite.rtype")).map (·.2) = some 124 := by kernel_rfl
theorem kOneRow : ((List.range 200).filter fun t => Tryd.prog.rowNamed t [101, 114, 114, 111, 114]) = [55] := by kernel_rfl
theorem kSize : Tryd.prog.types.size = 200 := by kernel_rfl

theorem handle_of_laid {W : World} (h : laidMetH Tryd.prog Rows.triedRow.laid W) : W.cell? ⟨0, 0, none⟩ = some (.iface 124 (.agg #[.pointer (some ⟨1, 55, none⟩)])) := by
  have h' : laidMet Tryd.prog [] W ∧ handlesMet Tryd.prog Rows.triedRow.laid W := h
  obtain ⟨name, u, ty, e1, e2, e3, e4, e5⟩ := h'.2 _ (List.mem_singleton.2 rfl)
  have en : name = [101, 114, 114, 111, 114] := (Option.some.inj e1).symm
  subst en
  obtain rfl := Option.some.inj (kRt.symm.trans e2)
  have hm : ty ∈ (List.range 200).filter fun t => Tryd.prog.rowNamed t [101, 114, 114, 111, 114] := List.mem_filter.2 ⟨List.mem_range.2 (by rw [← kSize]; exact e3), e4⟩
  rw [kOneRow] at hm
  obtain rfl := List.mem_singleton.1 hm
  have hh : typeHandle Tryd.prog 55 = .pointer (some ⟨1, 55, none⟩) := by kernel_rfl
  rw [hh] at e5
  simpa using World.var?_cell kEt e5 0

noncomputable def laidWorld (os : Os) : World :=
  let w0 := World.holding Tryd.prog os ⟨#[], #[], []⟩
  { w0 with heap := w0.heap.modify 0 fun
      | .cells _ t frozen => .cells #[.iface 124 (.agg #[.pointer (some ⟨1, 55, none⟩)])] t frozen
      | o => o }
theorem laidWorld_met (os : Os) (args : Array Value) : laidMetH Tryd.prog Rows.triedRow.laid ((laidWorld os).forCall (fun _ _ => 0) ⟨#[], args, []⟩).memory :=
  laidMetH_of_parts (laidMet_nil _ _) (by kernel_rfl)

theorem wf_range {x : Int} (h : (Lit.int .i64 x).wf = true) : -9223372036854775808 ≤ x ∧ x ≤ 9223372036854775807 := by
  simp only [Lit.wf, Bool.and_eq_true, decide_eq_true_eq] at h
  have e1 : IntKind.i64.min = -9223372036854775808 := by decide
  have e2 : IntKind.i64.max = 9223372036854775807 := by decide
  rw [e1, e2] at h
  exact h
theorem laidOut : laidOutB Tryd.prog = true := by kernel_rfl
set_option maxRecDepth 100000 in
theorem tried_lifted (os : Os) (started : os.Started) (H : Type) (enc : TypeId × Value → H) :
    ReturnsInHanded {} Tryd.checked os 5 .any (fun w args => (Rows.triedSpec.pre enc Tryd.prog Tryd.f5 [] false w args ∧ laidMetH Tryd.prog Rows.triedRow.laid w) ∧ sizedMet enc Tryd.prog Tryd.f5 (OpenSpec.ofChange Rows.triedSpec) false w args)
      (Rows.triedSpec.post enc Tryd.prog Tryd.f5 false true false false) := by
  refine returnsInHanded_of_change_and (C := Tryd.checked) (X := fun w _ => laidMetH Tryd.prog Rows.triedRow.laid w) (fun _ _ _ hh h => h.of_heap hh) kOwn started (by kernel_rfl) Tryd.func5
    (ChangeSpec.witness_at (enc := enc) (C := Tryd.checked) (os := os) (X := fun w _ => laidMetH Tryd.prog Rows.triedRow.laid w) false (laidWorld os) #[.int .i64 0, .int .i64 0, .int .i64 0] 8 rfl (by kernel_rfl) (by kernel_rfl) (by kernel_rfl) (by kernel_rfl) (by kernel_rfl) (laidWorld_met os _)) ?_
  intro W base args ds gs before hval0 hW _ hsz0 hL _
  have hsz : (DataW.weightsEach Tryd.prog (Tryd.f5.params.toList ++ Rows.triedSpec.plain.varTypes Tryd.prog) (ds ++ gs)).all (· ≤ reachBytes) = true := hsz0
  have hval : ∀ (j : Nat) t v, Tryd.f5.params[j]? = some t → args[j]? = some v → Value.okWide Tryd.prog W .any base t v := hval0
  clear hsz0 hval0
  have hW' := hW
  obtain ⟨p, q, hA0, hV, rfl, hfz, hnd⟩ := hW
  have hA : DataW.TrodAll enc Tryd.prog W 0 (fun _ => true) true Tryd.f5.params.toList args.toList ds p := hA0
  rw [Tryd.params5] at hA hsz hval
  obtain ⟨v0, v1, v2, d0, d1, d2, p0, p1, p2, rfl, rfl, rfl, h0, h1, h2⟩ := trodAll_three hA
  obtain ⟨x0, rfl, rfl, rfl, hw0⟩ := open_int Tryd.underlying3 (hval 0 _ _ rfl rfl) h0
  obtain ⟨x1, rfl, rfl, rfl, hw1⟩ := open_int Tryd.underlying3 (hval 1 _ _ rfl rfl) h1
  obtain ⟨x2, rfl, rfl, rfl, hw2⟩ := open_int Tryd.underlying3 (hval 2 _ _ rfl rfl) h2
  obtain ⟨rfl, rfl⟩ := trodVars_none hV
  clear hA0 hA
  simp only [List.append_nil] at hW' hsz
  have hg : GCell W := handle_of_laid hL
  refine (tried_walk x0 x1 x2 W hg (wf_range hw0) (wf_range hw1) (wf_range hw2)).mono ?_
  rintro e W' ⟨rfl, hb⟩
  have e1 : Rows.triedSpec.fn H ([.lit (.int .i64 x0), .lit (.int .i64 x1), .lit (.int .i64 x2)] ++ []) = { results := [.lit (.bool true)], args := [.lit (.int .i64 x0), .lit (.int .i64 x1), .lit (.int .i64 x2)] } := by simp [Rows.triedSpec]
  refine ⟨_, rfl, _, _, _, [], [], [], hW', ?_, ?_, ?_, hb.frame _, fun h => by cases h⟩
  · rw [e1]; exact trodAll_mk1 (shut_bool Tryd.underlying4 true)
  · rw [e1]; exact trodAll_mk3 (shut_int Tryd.underlying3 hw0) (shut_int Tryd.underlying3 hw1) (shut_int Tryd.underlying3 hw2)
  · rw [e1]; rfl

theorem tried_said : Rows.TriedSaid :=
  OpenClaim.holds_of_wide 5 Tryd.f5 rfl rfl rfl rfl rfl rfl rfl ⟨rfl, rfl, rfl, rfl, rfl⟩ rfl rfl rfl rfl rfl (by kernel_rfl) Tryd.func5 (by kernel_rfl)
    (of_decide_eq_true (by kernel_rfl)) (by unfold Func.isWrapper; first | (rw [if_pos (by decide +kernel)]; kernel_rfl) | (rw [if_neg (by decide +kernel)]; exact ⟨rfl, rfl⟩))
    (fun os started H enc _ => tried_lifted os started H enc)

theorem tried_plain (f : FuncId) (fn : Func) (hf : Tryd.pinned.checked.prog.funcNamed "elevator/elevatorkeep.Tried" = some f) (hfn : Tryd.pinned.checked.prog.funcs[f]? = some fn) :
    true = Tryd.pinned.checked.prog.looks [] ∧ ∀ (j : Nat) t, fn.params[j]? = some t → Tryd.pinned.checked.prog.wantsStandIn t = false := by
  obtain rfl : f = 5 := Option.some.inj ((show Tryd.prog.funcNamed "elevator/elevatorkeep.Tried" = some 5 by kernel_rfl).symm.trans hf) |>.symm
  obtain rfl : fn = Tryd.f5 := (Option.some.inj (Tryd.func5.symm.trans hfn)).symm
  refine ⟨by kernel_rfl, fun j t ht => ?_⟩
  rw [Tryd.params5] at ht
  cases j with
  | zero =>
    have e : t = 3 := by simpa using ht.symm
    subst e
    show Tryd.prog.wantsStandIn 3 = false
    kernel_rfl
  | succ j =>
    cases j with
    | zero =>
      have e : t = 3 := by simpa using ht.symm
      subst e
      show Tryd.prog.wantsStandIn 3 = false
      kernel_rfl
    | succ j =>
      cases j with
      | zero =>
        have e : t = 3 := by simpa using ht.symm
        subst e
        show Tryd.prog.wantsStandIn 3 = false
        kernel_rfl
      | succ j =>
        simp at ht

/-- a tied card, whatever its cell 'goes' -/
theorem tied_at (Lk : Looks) {p : Pinned} {s : OpenSpec} {c : OpenClaim} (g : Bool) (kinds : List LaidKind) (tests : Bool) (har : Bool × String) (lk : Bool)
    (hc : c.holds p s) (hw : c.wfByText s = true) (htie : c.laidByTextAt Lk p kinds tests)
    (hst : c.start = .entering) (hnb : c.noBlocks = false ∧ c.again = false) (hm : p.checked.prog.mainIs = some (har.1, har.2.toList)) (hn : (!har.1 && har.2.isEmpty && !lk) = false)
    (hl : ∀ f fn, p.checked.prog.funcNamed c.func = some f → p.checked.prog.funcs[f]? = some fn → lk = p.checked.prog.looks [] ∧ ∀ (j : Nat) t, fn.params[j]? = some t → p.checked.prog.wantsStandIn t = false)
    (hg : g = c.goesBy p.checked.prog) :
    Claim7.holds p (.plain s) { stood := { row := c, standIns := [], harness := har, looks := lk }, kinds := [], alts := [], goes := g, laidByText := true, laidKinds := kinds, laidTests := tests, laidLooks := Lk } := by
  have h6 : ∀ r : OpenClaim, Claim7.isSixth { stood := { row := r, standIns := [], harness := har, looks := lk }, kinds := [] } = false := fun r => by simpa [Claim7.isSixth] using hn
  exact ⟨Claim7.tied_new_at Lk kinds tests (Claim7.new_of_sixth hc har lk hst hnb hm (h6 c) hl) hw, (fun D hD => by cases hD), htie, (fun h => by cases h), hg⟩
theorem tried_card : Rows.TriedCardSaid :=
  tied_at .later _ _ _ _ _ tried_said (by kernel_rfl) tried_row_tie rfl ⟨rfl, rfl⟩ (by kernel_rfl) rfl tried_plain (by kernel_rfl)
#print axioms tried_card
end Go.Proofs.YtiabdbeejkadnaaDoor
