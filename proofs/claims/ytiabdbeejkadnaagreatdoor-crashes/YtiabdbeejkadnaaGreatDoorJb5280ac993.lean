import Derived.Test.YtiabdbeejkadnaaGreatDoorJd80480c7a9
/- The law: told (Disk, none). Own work of the verifier. -/
namespace Go.Proofs.YtiabdbeejkadnaaGreatDoor
open Go.RowKit Go.Maps

theorem RefAt.now {w : World} {F : Nat → Prop} {m : Nat} {S : St} (h : RefAt w F m S) : w.cell? ⟨m, 4, none⟩ = some (.int .i64 S.now) := by
  obtain ⟨G, ar, cr, at_, ct, af, cf, ad, cd, h⟩ := h
  exact h.c4

set_option maxHeartbeats 1000000 in
set_option maxRecDepth 1000000 in
theorem law_told_disk (wb B N : Nat) (FW : Nat → Prop) (ps : List PQ) (bs is : List (Option Addr × Nat)) (i : Nat) (a b c : Int) (s : ByteArray) (w : World) (h : AllAt w wb FW ps bs is B N) (hi : i < ps.length) (hN : N ≤ 100000) :
    Calls Tryz.prog 49 #[.pointer (some ⟨wb, 0, none⟩), .agg #[.pointer (some ⟨(ps[i]).x, 0, none⟩), .pointer (some ⟨(ps[i]).m, 0, none⟩)], opV 8 a b c s] w fun e w' => Steps w wb B N e w' := by
  unfold opV
  have HA := hide h
  have hpair := h.pair i hi
  clear h
  generalize (ps[i]).x = x at *
  generalize (ps[i]).m = m at *
  generalize (ps[i]).S = S at *
  generalize (ps[i]).F = F at *
  have hwf := hpair.wf
  obtain ⟨Fx, Fm, hP, hM, hd, hF⟩ := hpair
  have hb0 := hide (askW_below x m 8 a b c s w)
  have HP := hide (hP.below hb0.out)
  have HM := hide (hM.below hb0.out)
  have hsz := askW_size x m 8 a b c s w
  have HO := hide (askW_p x m 8 a b c s w)
  have hdl : Hid (S.disk.length = 64) := hwf.disk
  clear hP hM hd hF
  go_enter Tryz.func49, Tryz.ntmps49
  go_wp2_with fail
  refine (prog_disk S Fx x (askW x m 8 a b c s w) HP.out).mono ?_
  rintro e w1 ⟨ao, cap, rfl, hrow, hb1⟩
  obtain ⟨g, cur, rfl, hg, hgb, hcap, hcs⟩ := Row.some hrow (by omega)
  have hz1 : w.heap.size + 1 < w1.heap.size := by have := hb1.size; omega
  have hz1' : w.heap.size < w1.heap.size := by omega
  obtain ⟨p0, p1, _⟩ := cells2 ((hb1.block w.heap.size (by omega)).trans HO.out)
  have HB1 := hide (hb0.out.trans (hb1.mono (by omega)))
  have HROW := hide hrow
  have HP1 := hide (HP.out.below hb1)
  have HM1 := hide (HM.out.below hb1)
  have n4 := HM1.out.now
  have hcv : (convert 86 9 (.slice (some ⟨g, 0, none⟩) 64 cap)).run Tryz.prog w1 = .ok (.string ⟨S.disk.toArray⟩) w1 := by
    have := run_convert_bytes_back (P := Tryz.prog) w1 86 9 5 ⟨g, 0, none⟩ cap S.disk Tryz.underlying86 Tryz.underlying5 Tryz.underlying9 (fun i hi => by
      rw [Addr.add_lit, Nat.zero_add]
      show w1.cell? _ = _
      rw [Row.cellAt HROW.out i (by have := hdl.out; omega)]
      simp [encB, hi])
    rw [hdl.out] at this
    exact this
  have hnow : (S.now == S.now) = true := by simp
  have HCV := hide hcv
  clear hb1 hrow hcv hgb hcs hg hcap
  generalize hDD : S.disk.toArray = DD at *
  have HDD : Hid (S.disk.toArray = DD) := hDD
  clear hDD
  go_wp2_with fail
  refine (prog_now S _ x w1 HP1.out).mono ?_
  rintro e w2 ⟨rfl, hw2⟩
  have hw2 := hw2.symm
  subst hw2
  go_wp2_with fail
  refine (ref_disk S Fm m w1 HM1.out (by have := hdl.out; omega)).mono ?_
  rintro e w2 ⟨rfl, hw2⟩
  have hw2 := hw2.symm
  subst hw2
  rw [HDD.out]
  have hcv := HCV.out
  go_wp2_with fail
  have hl1 : Hid (Row w1 (fun k => w.heap.size ≤ k) 5 1 (some ⟨g, 0, none⟩) 64 cap (encB S.disk)) := HROW.out.mono (fun k hk => by omega)
  refine (law_mine_row ((HA.out.below HB1.out).wat) hl1.out HA.out.wat.lt HB1.out.size (by have := HA.out.lens; omega) HA.out.caps.1).mono ?_
  rintro e w4 ⟨rfl, FW', G, bs', hW, hK, hG, hF', hl', hc'⟩
  have HX := hide (HA.out.wOp HB1.out hW hK hG hF' (by have := HA.out.lens; omega) ⟨hc', HA.out.caps.2⟩)
  clear hW hK hG hF' hl' hc'
  go_wp2
  go_ret
  exact ⟨rfl, ⟨_, _, _, _, HX.out.1⟩, HX.out.2⟩

set_option maxHeartbeats 1000000 in
set_option maxRecDepth 1000000 in
theorem law_told_none (wb B N : Nat) (x m : Nat) (k a b c : Int) (s : ByteArray) (w : World) (h : Inv w wb B N) (h6 : k ≠ 6) (h8 : k ≠ 8) (h9 : k ≠ 9) (h12 : k ≠ 12) (h13 : k ≠ 13) :
    Calls Tryz.prog 49 #[.pointer (some ⟨wb, 0, none⟩), .agg #[.pointer (some ⟨x, 0, none⟩), .pointer (some ⟨m, 0, none⟩)], opV k a b c s] w fun e w' => e = .returned (.bool true) ∧ Inv w' wb B N ∧ Below B w w' := by
  unfold opV
  have b6 : (k == 6) = false := beq_eq_false_iff_ne.2 h6
  have b8 : (k == 8) = false := beq_eq_false_iff_ne.2 h8
  have b9 : (k == 9) = false := beq_eq_false_iff_ne.2 h9
  have b12 : (k == 12) = false := beq_eq_false_iff_ne.2 h12
  have b13 : (k == 13) = false := beq_eq_false_iff_ne.2 h13
  have HI := hide (h.below (askW_below x m k a b c s w))
  clear h h6 h8 h9 h12 h13
  go_enter Tryz.func49, Tryz.ntmps49
  go_wp2
  go_ret
  exact ⟨rfl, HI.out.1, HI.out.2⟩

theorem law_told (wb B N : Nat) (FW : Nat → Prop) (ps : List PQ) (bs is : List (Option Addr × Nat)) (i : Nat) (k a b c : Int) (s : ByteArray) (w : World) (h : AllAt w wb FW ps bs is B N) (hi : i < ps.length) (hN : N ≤ 100000) (h9 : k ≠ 9) (h12 : k ≠ 12) (h13 : k ≠ 13) :
    Calls Tryz.prog 49 #[.pointer (some ⟨wb, 0, none⟩), .agg #[.pointer (some ⟨(ps[i]).x, 0, none⟩), .pointer (some ⟨(ps[i]).m, 0, none⟩)], opV k a b c s] w fun e w' => Steps w wb B N e w' := by
  by_cases h6 : k = 6
  · subst h6; exact law_told_waiting wb B N FW ps bs is i a b c s w h hi hN
  · by_cases h8 : k = 8
    · subst h8; exact law_told_disk wb B N FW ps bs is i a b c s w h hi hN
    · refine (law_told_none wb B N _ _ k a b c s w ⟨_, _, _, _, h⟩ h6 h8 h9 h12 h13).mono ?_
      rintro e w' ⟨rfl, h1, h2⟩
      exact ⟨rfl, h1.more (by omega), h2⟩
end Go.Proofs.YtiabdbeejkadnaaGreatDoor

/- The law: polled, where there is an answer. Own work of the verifier. -/
namespace Go.Proofs.YtiabdbeejkadnaaGreatDoor
open Go.RowKit Go.Maps

theorem conv_nil (w : World) : (convert 86 9 (.slice none 0 0)).run Tryz.prog w = .ok (.string ⟨#[]⟩) w := by kernel_rfl
theorem conv_row {w : World} {P : Nat → Prop} {ao : Option Addr} {n cap : Nat} {s : ByteArray} (h : Row w P 5 1 ao n cap (encB s.data.toList)) (hn : n = s.size) :
    (convert 86 9 (.slice ao n cap)).run Tryz.prog w = .ok (.string s) w := by
  have hsl : s.data.toList.length = n := by rw [hn, Array.length_toList]; rfl
  rcases h.1.2 with ⟨h0, h1⟩ | ⟨g, cap', cur, hv, _, hh, h1, h2, h3, _⟩
  · cases h0
    have e : s = ⟨#[]⟩ := by
      cases s with | mk d => cases d with | mk l => cases l with
        | nil => rfl
        | cons a l => simp at hsl
    rw [e]
    exact conv_nil w
  · cases hv
    have e : (⟨s.data.toList.toArray⟩ : ByteArray) = s := by cases s; simp
    generalize s.data.toList = l at *
    have := run_convert_bytes_back (P := Tryz.prog) w 86 9 5 ⟨g, 0, none⟩ cap l Tryz.underlying86 Tryz.underlying5 Tryz.underlying9 (fun i hi => by
      rw [Addr.add_lit, Nat.zero_add]
      show w.cell? _ = _
      rw [Row.cellAt h i (by omega)]
      simp [encB, hi])
    rw [hsl, e] at this
    exact this
set_option maxHeartbeats 1000000 in
set_option maxRecDepth 1000000 in
theorem law_polled_ok (wb B N : Nat) (FW : Nat → Prop) (ps : List PQ) (bs is : List (Option Addr × Nat)) (i : Nat) (num : Int) (w : World) (h : AllAt w wb FW ps bs is B N) (hi : i < ps.length) (hN : N ≤ 100000) (hw : (Lit.int .i64 num).wf = true) (h0F : ¬ (ps[i]).F 0) (hk0 : (pollM (ps[i]).S num).2.2.1 = 0) :
    Calls Tryz.prog 43 #[.pointer (some ⟨wb, 0, none⟩), .agg #[.pointer (some ⟨(ps[i]).x, 0, none⟩), .pointer (some ⟨(ps[i]).m, 0, none⟩)], .int .i64 num] w fun e w' => Steps w wb B N e w' := by
  have HA := hide h
  have hpair := h.pair i hi
  have hlast := (h.st i hi).1
  have hla := hide (pollM_same (ps[i]).S num)
  have HOP : Hid (∀ (w3 : World) (F' : Nat → Prop) (S' : St), PairAt w3 F' (ps[i]).x (ps[i]).m S' → (∀ k, F' k → (ps[i]).F k ∨ w.heap.size ≤ k) → S'.last = (ps[i]).S.last ∧ S'.now = (ps[i]).S.now → Kept (ps[i]).F w w3 → AllAt w3 wb FW (ps.set i ⟨(ps[i]).x, (ps[i]).m, S', F'⟩) bs is B N ∧ Below B w w3) := fun w3 F' S' h1 h2 h3 h4 => h.pairOpG i hi (Nat.le_refl N) h1 h2 (by have := (h.st i hi).1; rw [h3.1]; exact this) (by have := (h.st i hi).2; rw [h3.2]; exact this) h4
  have hltW := h.wat.lt
  have hlow := h.low
  clear h
  have hg := HA.out.g
  generalize hPX : (ps[i]).x = x at *
  generalize (ps[i]).m = m at *
  generalize (ps[i]).S = S at *
  generalize (ps[i]).F = F at *
  have hwf := hpair.wf
  have hltF := hpair.lt
  obtain ⟨Fx, Fm, hP, hM, hd, hF⟩ := hpair
  have h0x : ¬ Fx 0 := fun e => h0F ((hF 0).2 (Or.inl e))
  have hPl := hP.lt
  have HM := hide hM
  have HD := hide hd
  have HF := hide hF
  have HG := hide hg
  have HPl := hide hPl
  have hnx : ¬ Fx w.heap.size := fun e => by have := hPl _ e; omega
  have hP0 := hide (hP.below (alloc_below w (.cells #[.pointer (some ⟨x, 0, none⟩), .pointer (some ⟨m, 0, none⟩)] 99)))
  clear hM hd hF hg hPl hP hPX
  have hpe : plainErr S num = (0, -1, 0) := by unfold plainErr; rw [if_pos hk0]
  generalize hA : pollM S num = r at *
  obtain ⟨s, t, k, S'⟩ := r
  have HA2 : Hid (pollM S num = (s, t, k, S')) := hA
  clear hA
  replace hk0 : k = 0 := hk0
  subst hk0
  go_enter Tryz.func43, Tryz.ntmps43
  go_wp2_with fail
  refine (plain_poll S Fx x num _ hP0.out (HG.out.below (alloc_below _ _)) h0x hw).mono ?_
  rintro e w1 ⟨ao, n, cap, t', rfl, hans, hP1, hK1⟩
  rw [HA2.out] at hP1 hans
  rw [hpe]
  rcases hans with ⟨hz, _⟩ | ⟨_, ht, hn, hn4, hrow⟩
  · exact absurd rfl hz
  replace ht : t' = t := ht
  rw [ht]
  clear ht
  replace hn : n = s.size := hn
  replace hrow : Row w1 (fun k => (w.alloc (.cells #[.pointer (some ⟨x, 0, none⟩), .pointer (some ⟨m, 0, none⟩)] 99)).heap.size ≤ k) 5 1 ao n cap (encB s.data.toList) := hrow
  have HP1 := hide hP1
  have HK1 := hide hK1
  have HROW := hide hrow
  have HNN := hide hn
  have hz1 : w.heap.size < w1.heap.size := by have := hK1.size; simp at this; omega
  have p1 : w1.cell? ⟨w.heap.size, 1, none⟩ = some (.pointer (some ⟨m, 0, none⟩)) := (hK1.cell (p := ⟨w.heap.size, 1, none⟩) (by simp) hnx).trans (by simp)
  clear hP1 hK1 hrow hn
  obtain ⟨wa, hwa⟩ : ∃ wa, wa = (w1.alloc (.cells #[.slice ao n cap, .int .i64 t] 88)).alloc (.cells #[.int .i64 0, .int .i64 (-1), .int .i64 0, .bool true] 57) := ⟨_, rfl⟩
  have HWA := hide hwa
  have hb1 : Below w1.heap.size w1 wa := by rw [hwa]; exact (alloc_below _ _).trans ((alloc_below _ _).mono (by simp))
  have HB1 := hide hb1
  have hM1 := hide (pair_mid HM.out HD.out (alloc_below _ _) HK1.out hb1)
  have hma : wa.heap.size = w1.heap.size + 2 := by rw [hwa]; simp
  have hnm : ¬ Fm w1.heap.size := fun e => by have := HM.out.lt _ e; omega
  have hnm2 : ¬ Fm (w1.heap.size + 1) := fun e => by have := HM.out.lt _ e; omega
  have ha1 : Hid (wa.heap[w1.heap.size]? = some (.cells #[.slice ao n cap, .int .i64 t] 88 (0, 0))) := by rw [hwa]; exact (Below.heap_alloc _ _ _ (by simp)).trans (heap_alloc_new w1 _)
  have ha2 : Hid (wa.heap[w1.heap.size + 1]? = some (.cells #[.int .i64 0, .int .i64 (-1), .int .i64 0, .bool true] 57 (0, 0))) := by
    rw [hwa]
    have := heap_alloc_new (w1.alloc (.cells #[.slice ao n cap, .int .i64 t] 88)) (.cells #[.int .i64 0, .int .i64 (-1), .int .i64 0, .bool true] 57)
    simp only [World.size_alloc] at this
    exact this
  clear hb1 hwa
  go_wp2_with fail
  rw [← HWA.out]
  refine (ref_poll_g S Fm m num _ hM1.out (by have := hwf.toldLen; have := hwf.reqsLen; omega) (by have := hwf.reqsLen; omega) (fun r hr => (hwf.rq r hr).st)).mono ?_
  rintro e w2 ⟨rfl, hM2, hK2⟩
  rw [HA2.out] at hM2
  rw [HA2.out]
  have HM2 := hide hM2
  have HK2 := hide hK2
  have hz2 : w1.heap.size + 1 < w2.heap.size := by have := hK2.size; omega
  have qa : w2.heap[w1.heap.size]? = some (.cells #[.slice ao n cap, .int .i64 t] 88 (0, 0)) := (hK2.block _ (by omega) hnm).trans ha1.out
  have q : w2.heap[w1.heap.size + 1]? = some (.cells #[.int .i64 0, .int .i64 (-1), .int .i64 0, .bool true] 57 (0, 0)) := (hK2.block _ (by omega) hnm2).trans ha2.out
  obtain ⟨⟨q0, q1, q2, q3⟩, _⟩ := cells4 q
  obtain ⟨qa0, qa1, _⟩ := cells2 qa
  have HR2 : Hid (Row w2 (fun k => w.heap.size ≤ k ∧ k < w1.heap.size) 5 1 ao n cap (encB s.data.toList)) := by
    have h1 : ∀ a, ao = some a → w.heap.size ≤ a.block ∧ a.block < w1.heap.size := fun a ha => by
      obtain ⟨cu, hcu, _⟩ := HROW.out.block ha
      have h1 := HROW.out.2 a ha
      simp at h1
      exact ⟨by omega, lt_of_heap hcu⟩
    have h2 := HROW.out.same (w' := w2) fun a ha => by
      obtain ⟨e1, e2⟩ := h1 a ha
      exact (hK2.block a.block (by omega) (fun e => by have := HM.out.lt _ e; omega)).trans (HB1.out.block a.block e2)
    exact ⟨h2.1, h1⟩
  clear hM2 hK2 q qa
  go_wp2_with fail
  refine (law_fine _).mono ?_
  rintro e w3 ⟨rfl, hb3⟩
  have r0 := (hb3.cell (p := ⟨w1.heap.size, 0, none⟩) (by show w1.heap.size < _; omega)).trans qa0
  have r1 := (hb3.cell (p := ⟨w1.heap.size, 1, none⟩) (by show w1.heap.size < _; omega)).trans qa1
  have HB3 := hide hb3
  have HR3 : Hid (Row w3 (fun k => w.heap.size ≤ k ∧ k < w1.heap.size) 5 1 ao n cap (encB s.data.toList)) := HR2.out.same fun a ha => by
    have := HR2.out.2 a ha
    exact hb3.block a.block (by omega)
  have hcv := conv_row HR3.out HNN.out
  have hz3 := hb3.size
  clear hb3 qa0 qa1 q0 q1 q2 q3
  have hte : (t == t) = true := by simp
  have HPA : Hid (PairAt w3 (fun k => Fx k ∨ Foot Fm wa w2 k) x m S' ∧ Kept F w w3) := by
    refine ⟨⟨Fx, Foot Fm wa w2, ?_, HM2.out.below HB3.out, ?_, fun k => Iff.rfl⟩, ?_⟩
    · exact ((HP1.out.below HB1.out).kept HK2.out (fun k hk hn => HD.out k hk hn)).below HB3.out
    · rintro k hk (hn | hn)
      · exact HD.out k hk hn
      · have := HPl.out k hk; omega
    · have k1 : Kept F w w1 := (Go.Proofs.YtiabdbeejkadnaaGreatDoor.Below.kept (alloc_below w (.cells #[.pointer (some ⟨x, 0, none⟩), .pointer (some ⟨m, 0, none⟩)] 99)) F).then (HK1.out.mono fun k _ hk => (HF.out k).2 (Or.inl hk))
      exact ((k1.below HB1.out).then (HK2.out.mono fun k _ hk => (HF.out k).2 (Or.inr hk))).below HB3.out
  have HAA := hide (HOP.out w3 _ S' HPA.out.1 (fun k hk => by
    rcases hk with hk | hk | hk
    · exact Or.inl ((HF.out k).2 (Or.inl hk))
    · exact Or.inl ((HF.out k).2 (Or.inr hk))
    · exact Or.inr (by omega)) hla.out HPA.out.2)
  have HPD : Hid (∀ j (hj : j < (ps.set i ⟨x, m, S', fun k => Fx k ∨ Foot Fm wa w2 k⟩).length), ∀ k, (w.heap.size ≤ k ∧ k < w1.heap.size) → ¬ ((ps.set i ⟨x, m, S', fun k => Fx k ∨ Foot Fm wa w2 k⟩)[j]).F k) := fun j hj k hk => by
    rw [List.length_set] at hj
    simp only [List.getElem_set]
    by_cases e : i = j
    · subst e
      simp only [if_true]
      rintro (hn | hn | hn)
      · have := HPl.out k hn; omega
      · have := HM.out.lt k hn; omega
      · omega
    · simp only [e, if_false]
      intro hn
      have := (HA.out.pair j hj).lt k hn
      omega
  clear HOP HPA
  go_wp2_with fail
  refine (law_mine_rowP HAA.out.1.wat HR3.out (fun k hk e => by have := hltW k hk; omega) (by have := HA.out.lens; omega) HA.out.caps.1).mono ?_
  rintro e w4 ⟨rfl, FW', G, bs', hW, hK, hG, hF', hl', hc'⟩
  have HX := hide (HAA.out.1.wOpG (Nat.le_succ N) (Below.refl _ _) hW hK hG hF' (fun k hk => by omega) HPD.out (by have := HA.out.lens; omega) ⟨hc', HA.out.caps.2⟩)
  clear hW hK hG hF' hl' hc'
  go_wp2
  go_ret
  exact ⟨rfl, ⟨_, _, _, _, HX.out.1⟩, HAA.out.2.trans HX.out.2⟩
end Go.Proofs.YtiabdbeejkadnaaGreatDoor

/- The law: step. Own work of the verifier. -/
namespace Go.Proofs.YtiabdbeejkadnaaGreatDoor
open Go.RowKit Go.Maps

theorem encQ_at (qs : List (Nat × Nat)) (j : Nat) (h : j < qs.length) : (encQ qs)[j * 2]? = some (.pointer (some ⟨(qs[j]).1, 0, none⟩)) ∧ (encQ qs)[j * 2 + 1]? = some (.pointer (some ⟨(qs[j]).2, 0, none⟩)) := by
  unfold encQ
  induction qs generalizing j with
  | nil => simp at h
  | cons q l ih =>
    cases j with
    | zero => simp
    | succ j =>
      have := ih j (by simpa using h)
      have e1 : (j + 1) * 2 = j * 2 + 2 := by omega
      rw [e1]
      simpa using this

theorem Does.steps {w w' : World} {wb B N : Nat} {FW : Nat → Prop} {ps : List PQ} {bs is : List (Option Addr × Nat)} {j : Nat} {e : Ending} (h : AllAt w wb FW ps bs is B N) (hj : j < ps.length) (hd : Does w (ps[j]).F (ps[j]).x (ps[j]).m (ps[j]).S e w') : Steps w wb B N e w' := by
  obtain ⟨he, S', hP, hl, hn, hK⟩ := hd
  have := h.pairOp j hj hP hl (by have := h.st j hj; rw [hn]; omega) hK
  exact ⟨he, ⟨_, _, _, _, this.1⟩, this.2⟩
theorem Steps.after {w w0 w' : World} {wb B N : Nat} {e : Ending} (h : Steps w0 wb B N e w') (hb : Below B w w0) : Steps w wb B N e w' := ⟨h.1, h.2.1, hb.trans h.2.2⟩
theorem RefAt.tick {w : World} {F : Nat → Prop} {m : Nat} {S : St} (h : RefAt w F m S) (x : Int) : RefAt (w.setCell ⟨m, 4, none⟩ (.int .i64 x)) (Foot F w (w.setCell ⟨m, 4, none⟩ (.int .i64 x))) m { S with now := x } ∧ Kept F w (w.setCell ⟨m, 4, none⟩ (.int .i64 x)) := by
  obtain ⟨G, ar, cr, at_, ct, af, cf, ad, cd, h⟩ := h
  exact ⟨⟨G, ar, cr, at_, ct, af, cf, ad, cd, (h.setNow x).wid Foot.of (Foot.lt h.ltF (by simp [World.setCell]))⟩, (Kept.refl _ _).setCell (p := ⟨m, 4, none⟩) (Or.inl h.own) _⟩
theorem RefAt.nowF {w : World} {F : Nat → Prop} {m : Nat} {S : St} (h : RefAt w F m S) : w.frozen? ⟨m, 4, none⟩ = false := by
  obtain ⟨G, ar, cr, at_, ct, af, cf, ad, cd, h⟩ := h
  exact h.fz 4

theorem law_polled (wb B N : Nat) (FW : Nat → Prop) (ps : List PQ) (bs is : List (Option Addr × Nat)) (i : Nat) (num : Int) (w : World) (h : AllAt w wb FW ps bs is B N) (hi : i < ps.length) (hN : N ≤ 100000) (hw : (Lit.int .i64 num).wf = true) (h0F : ¬ (ps[i]).F 0) :
    Calls Tryz.prog 43 #[.pointer (some ⟨wb, 0, none⟩), .agg #[.pointer (some ⟨(ps[i]).x, 0, none⟩), .pointer (some ⟨(ps[i]).m, 0, none⟩)], .int .i64 num] w fun e w' => Steps w wb B N e w' := by
  by_cases hk0 : (pollM (ps[i]).S num).2.2.1 = 0
  · exact law_polled_ok wb B N FW ps bs is i num w h hi hN hw h0F hk0
  · refine (law_polled_no _ _ _ _ _ num w (h.pair i hi) h.g h0F hw (by have := h.st i hi; omega) hk0).mono ?_
    rintro e w1 hD
    exact Does.steps h hi hD
/-- a step of a kind that is played -/
structure OpOk (k a b : Int) (s : ByteArray) : Prop where
  k9 : k ≠ 9
  k10 : k ≠ 10
  k11 : k ≠ 11
  k12 : k ≠ 12
  k13 : k ≠ 13
  a : -9223372036854775808 ≤ a ∧ a ≤ 9223372036854775807
  b : (Lit.int .i64 b).wf = true
  s : s.size ≤ 1000000

set_option maxHeartbeats 1000000 in
set_option maxRecDepth 1000000 in
theorem law_step_new (wb B N : Nat) (a b c : Int) (s : ByteArray) (w : World) (h : Inv w wb B N) (hN : N ≤ 100000) :
    Calls Tryz.prog 21 #[.pointer (some ⟨wb, 0, none⟩), opV 1 a b c s] w fun e w' => Steps w wb B N e w' := by
  have HI := hide (h.below (alloc_below w (.cells #[.int .i64 1, .int .i64 a, .int .i64 b, .int .i64 c, .string s] 52)))
  clear h
  unfold opV
  go_enter Tryz.func21, Tryz.ntmps21
  go_wp2_with fail
  refine (law_opened wb B N 1 a b c s _ HI.out.1 hN).mono ?_
  rintro e w1 ⟨rfl, hI, hb⟩
  have HX := hide (And.intro hI (HI.out.2.trans hb))
  clear hI hb
  go_wp2
  go_ret
  exact ⟨rfl, HX.out.1, HX.out.2⟩

set_option maxHeartbeats 1000000 in
set_option maxRecDepth 1000000 in
theorem law_step_old (wb B N : Nat) (k a b c : Int) (s : ByteArray) (w : World) (h : Inv w wb B N) (hN : N ≤ 100000) (hk : k ≠ 1) (hO : OpOk k a b s) :
    Calls Tryz.prog 21 #[.pointer (some ⟨wb, 0, none⟩), opV k a b c s] w fun e w' => Steps w wb B N e w' := by
  obtain ⟨FW, ps, bs, is, hA0⟩ := h
  have hA := hA0.below (alloc_below w (.cells #[.int .i64 k, .int .i64 a, .int .i64 b, .int .i64 c, .string s] 52))
  have HB0 := hide ((alloc_below w (.cells #[.int .i64 k, .int .i64 a, .int .i64 b, .int .i64 c, .string s] 52)).mono hA0.low)
  have HA := hide hA
  have HA0 := hide hA0
  have HO := hide hO
  have b1 : (k == 1) = false := beq_eq_false_iff_ne.2 hk
  obtain ⟨R, L, aq, cq, ab, cb, ai, ci, hW, hFW⟩ := hA.wat
  have HW := hide hW
  have c0 := hW.c0
  rw [List.length_map] at c0
  have hwl : wb < w.heap.size := by
    obtain ⟨R, L, aq, cq, ab, cb, ai, ci, hW0, _⟩ := hA0.wat
    exact hW0.lt
  have c0' : w.cell? ⟨wb, 0, none⟩ = some (.slice aq ps.length cq) := by
    rw [← World.cell?_alloc_lt w (.cells #[.int .i64 k, .int .i64 a, .int .i64 b, .int .i64 c, .string s] 52) ⟨wb, 0, none⟩ hwl]
    exact c0
  clear hA hA0 hO hk hW hFW c0
  unfold opV
  by_cases hz : ps.length = 0
  · rw [hz] at c0'
    go_enter Tryz.func21, Tryz.ntmps21
    go_wp2
    go_ret
    exact ⟨rfl, Inv.more ⟨_, _, _, _, HA.out⟩ (by omega), HB0.out⟩
  · have hnb : ((ps.length : Int) == 0) = false := beq_eq_false_iff_ne.2 (by omega)
    obtain ⟨j, hj⟩ : ∃ j : Nat, pickM a (ps.length : Int) = (j : Int) := ⟨(pickM a (ps.length : Int)).toNat, by have := pickM_lt a (ps.length : Int) (by omega); omega⟩
    have hjl : j < ps.length := by have := pickM_lt a (ps.length : Int) (by omega); omega
    have HPick : Hid (∀ W, Calls Tryz.prog 41 #[.int .i64 a, .int .i64 (ps.length : Int)] W fun e w' => e = .returned (.int .i64 (j : Int)) ∧ w' = W) := fun W => by
      have := law_pick a (ps.length : Int) W HO.out.a (by omega) (by have := HA.out.lens; omega)
      rw [hj] at this
      exact this
    obtain ⟨g, cur, hg, _, hgb, _, _⟩ := Row.some HW.out.rq (by rw [List.length_map]; omega)
    subst hg
    obtain ⟨x, hx⟩ : ∃ x, x = (ps[j]).x := ⟨_, rfl⟩
    obtain ⟨m, hm⟩ : ∃ m, m = (ps[j]).m := ⟨_, rfl⟩
    have r0 : (w.alloc (.cells #[.int .i64 k, .int .i64 a, .int .i64 b, .int .i64 c, .string s] 52)).cell? ⟨g, j * 2, none⟩ = some (.pointer (some ⟨x, 0, none⟩)) := by
      rw [Row.cellAt HW.out.rq (j * 2) (by rw [List.length_map]; omega), (encQ_at _ j (by rw [List.length_map]; omega)).1, hx]; simp
    have r1 : (w.alloc (.cells #[.int .i64 k, .int .i64 a, .int .i64 b, .int .i64 c, .string s] 52)).cell? ⟨g, j * 2 + 1, none⟩ = some (.pointer (some ⟨m, 0, none⟩)) := by
      rw [Row.cellAt HW.out.rq (j * 2 + 1) (by rw [List.length_map]; omega), (encQ_at _ j (by rw [List.length_map]; omega)).2, hm]; simp
    have c0 : (w.alloc (.cells #[.int .i64 k, .int .i64 a, .int .i64 b, .int .i64 c, .string s] 52)).cell? ⟨wb, 0, none⟩ = some (.slice (some ⟨g, 0, none⟩) ps.length cq) := (World.cell?_alloc_lt _ _ ⟨wb, 0, none⟩ hwl).trans c0'
    obtain ⟨o0, o1, o2, o3, o4⟩ := cells5 (heap_alloc_new w (.cells #[.int .i64 k, .int .i64 a, .int .i64 b, .int .i64 c, .string s] 52))
    have hw0 : w.heap.size < (w.alloc (.cells #[.int .i64 k, .int .i64 a, .int .i64 b, .int .i64 c, .string s] 52)).heap.size := by simp
    have HX := hide hx
    have HM := hide hm
    have HJ := hide hj
    have hi1 : (0 : Int) ≤ (j : Int) := by omega
    have hi2 : (j : Int) < (ps.length : Int) := by omega
    have HJL := hide hjl
    clear hx hm hj hgb hz
    go_enter Tryz.func21, Tryz.ntmps21
    go_wp2
    clear c0' hwl
    generalize w.alloc (.cells #[.int .i64 k, .int .i64 a, .int .i64 b, .int .i64 c, .string s] 52) = w0 at *
    have ne0 := World.new_ne w0 _ c0
    have ne1 := World.new_ne w0 _ o1
    have ne2 := World.new_ne w0 _ r0
    have ne3 := World.new_ne w0 _ r1
    go_cut [5] from 8 (fun vp wx => ∃ pb, vp = .pointer (some ⟨pb, 0, none⟩) ∧ Hid (Below w0.heap.size w0 wx ∧ wx.heap[pb]? = some (.cells #[.pointer (some ⟨x, 0, none⟩), .pointer (some ⟨m, 0, none⟩)] 99 (0, 0)) ∧ w0.heap.size ≤ pb))
    case first =>
      go_region_held3 (fun W => W.cell? ⟨wb, 0, none⟩ = some (.slice (some ⟨g, 0, none⟩) ps.length cq) ∧ W.cell? ⟨w.heap.size, 1, none⟩ = some (.int .i64 a) ∧ W.cell? ⟨g, j * 2, none⟩ = some (.pointer (some ⟨x, 0, none⟩)) ∧ W.cell? ⟨g, j * 2 + 1, none⟩ = some (.pointer (some ⟨m, 0, none⟩))) (go_keep)
        (first | (go_at_call 41; refine (HPick.out _).mono ?_; rintro e w1 ⟨rfl, hw1⟩; have hw1 := hw1.symm; subst hw1))
      all_goals go_wp2_with fail
      all_goals go_meet
      all_goals exact ⟨_, rfl, (alloc_below _ _).drew, heap_alloc_new w0 _, Nat.le_refl _⟩
    case rest =>
      obtain ⟨pb, rfl, hmid⟩ := hcut
      have hx := HX.out
      have hm := HM.out
      subst hx hm
      clear HX HM HPick ne0 ne1 ne2 ne3 r0 r1 c0
      have HAc := hide (HA.out.below hmid.out.1)
      have HBc := hide (HB0.out.trans (hmid.out.1.mono HA.out.low))
      obtain ⟨p0, p1, _⟩ := cells2 hmid.out.2.1
      have q0 := (hmid.out.1.cell (p := ⟨w.heap.size, 0, none⟩) hw0).trans o0
      have q1 := (hmid.out.1.cell (p := ⟨w.heap.size, 1, none⟩) hw0).trans o1
      have q2 := (hmid.out.1.cell (p := ⟨w.heap.size, 2, none⟩) hw0).trans o2
      have q3 := (hmid.out.1.cell (p := ⟨w.heap.size, 3, none⟩) hw0).trans o3
      have q4 := (hmid.out.1.cell (p := ⟨w.heap.size, 4, none⟩) hw0).trans o4
      have hpl : pb < wc.heap.size := lt_of_heap hmid.out.2.1
      have HPL := hide hmid.out.2.2
      have hwc : w.heap.size < wc.heap.size := by have := hmid.out.1.size; omega
      clear o0 o1 o2 o3 o4 hmid hi1 hi2
      have hs1 := hide (HAc.out.st j HJL.out)
      have h0F : Hid (¬ (ps[j]).F 0) := fun e => by have := HAc.out.geP j HJL.out 0 e; have := HAc.out.pos; omega
      by_cases hk2 : k = 2
      · subst hk2
        go_wp2_with fail
        refine (law_asked_read _ _ _ _ a b c s wc (HAc.out.pair j HJL.out) HAc.out.g h0F.out (by have := hs1.out; omega)).mono ?_
        rintro e w1 hD
        have HD := hide ((Does.steps HAc.out HJL.out hD).after HBc.out)
        obtain ⟨rfl, _⟩ := hD
        go_wp2
        go_ret
        exact HD.out
      have b2 : (k == 2) = false := beq_eq_false_iff_ne.2 hk2
      by_cases hk3 : k = 3
      · subst hk3
        go_wp2_with fail
        refine (law_asked_write _ _ _ _ a b c s wc (HAc.out.pair j HJL.out) HAc.out.g h0F.out (by have := hs1.out; omega) HO.out.s).mono ?_
        rintro e w1 hD
        have HD := hide ((Does.steps HAc.out HJL.out hD).after HBc.out)
        obtain ⟨rfl, _⟩ := hD
        go_wp2
        go_ret
        exact HD.out
      have b3 : (k == 3) = false := beq_eq_false_iff_ne.2 hk3
      by_cases hk4 : k = 4
      · subst hk4
        go_wp2_with fail
        refine (law_polled wb B N FW ps bs is j b wc HAc.out HJL.out hN HO.out.b h0F.out).mono ?_
        rintro e w1 hD
        have HD := hide (hD.after HBc.out)
        obtain ⟨rfl, _⟩ := hD
        go_wp2
        go_ret
        exact HD.out
      have b4 : (k == 4) = false := beq_eq_false_iff_ne.2 hk4
      by_cases hk5 : k = 5
      · subst hk5
        go_wp2_with fail
        refine (law_cancelled _ _ _ _ b wc (HAc.out.pair j HJL.out) HAc.out.g h0F.out HO.out.b (by have := hs1.out; omega)).mono ?_
        rintro e w1 hD
        have HD := hide ((Does.steps HAc.out HJL.out hD).after HBc.out)
        obtain ⟨rfl, _⟩ := hD
        go_wp2
        go_ret
        exact HD.out
      have b5 : (k == 5) = false := beq_eq_false_iff_ne.2 hk5
      have b10 : (k == 10) = false := beq_eq_false_iff_ne.2 HO.out.k10
      have b11 : (k == 11) = false := beq_eq_false_iff_ne.2 HO.out.k11
      by_cases hk7 : k = 7
      · subst hk7
        obtain ⟨Fx, Fm, hP, hM, hd, hF⟩ := HAc.out.pair j HJL.out
        have HM := hide hM
        have HD := hide hd
        have HF := hide hF
        have HPl := hide hP.lt
        have hnx : ¬ Fx pb := fun e => by have := HA.out.geP; have := (HA.out.pair j HJL.out).lt pb ((HF.out pb).2 (Or.inl e)); have := HPL.out; omega
        have hlF : Hid (∀ k, (ps[j]).F k → k < w.heap.size) := (HA0.out.pair j HJL.out).lt
        have hnx2 : ¬ Fx w.heap.size := fun e => by have := hlF.out _ ((HF.out _).2 (Or.inl e)); omega
        have hmF : Fm (ps[j]).m := by obtain ⟨G, ar, cr, at_, ct, af, cf, ad, cd, h⟩ := hM; exact h.own
        have hml : (ps[j]).m < w.heap.size := hlF.out _ ((HF.out _).2 (Or.inr hmF))
        have hpw : w.heap.size < pb := by have := HPL.out; omega
        have nm1 : (ps[j]).m ≠ pb := by omega
        have nm2 : (ps[j]).m ≠ w.heap.size := by omega
        have nm3 : pb ≠ (ps[j]).m := by omega
        have nm4 : w.heap.size ≠ (ps[j]).m := by omega
        clear hd hF
        go_wp2_with fail
        refine (prog_tick _ Fx _ wc hP (by have := hs1.out; omega)).mono ?_
        rintro e w1 ⟨rfl, hP1, hK1⟩
        have HP1 := hide hP1
        have HK1 := hide hK1
        have t0 := (hK1.cell (p := ⟨pb, 0, none⟩) hpl hnx).trans p0
        have t1 := (hK1.cell (p := ⟨pb, 1, none⟩) hpl hnx).trans p1
        have s0 := (hK1.cell (p := ⟨w.heap.size, 0, none⟩) hwc hnx2).trans q0
        have s1 := (hK1.cell (p := ⟨w.heap.size, 1, none⟩) hwc hnx2).trans q1
        have s2 := (hK1.cell (p := ⟨w.heap.size, 2, none⟩) hwc hnx2).trans q2
        have s3 := (hK1.cell (p := ⟨w.heap.size, 3, none⟩) hwc hnx2).trans q3
        have s4 := (hK1.cell (p := ⟨w.heap.size, 4, none⟩) hwc hnx2).trans q4
        have HM1 := hide (pair_mid HM.out HD.out (Below.refl _ _) hK1 (Below.refl _ _))
        have n4 := HM1.out.now
        have f4 := HM1.out.nowF
        have hnow : -1000000 ≤ (ps[j]).S.now ∧ (ps[j]).S.now ≤ 1000000 := by have := hs1.out; omega
        have hz1 := hide hK1.size
        clear hP1 hK1 p0 p1 q0 q1 q2 q3 q4 hP hM
        have HM2 := hide (HM1.out.tick ((ps[j]).S.now + 1))
        have HPF := hide (pair_fin HM.out HPl.out HD.out HF.out (Below.refl _ _) HP1.out HK1.out (Below.refl _ _) HM2.out.1 HM2.out.2 (Below.refl _ _))
        have HNX := hide (HAc.out.pairOp j HJL.out HPF.out.1 (by show (ps[j]).S.last ≤ _; omega) (by have := hs1.out; show 0 ≤ (ps[j]).S.now + 1 ∧ (ps[j]).S.now + 1 ≤ _; omega) HPF.out.2)
        go_wp2_with fail
        refine (law_told_none wb B (N + 1) _ _ 7 a b c s _ ⟨_, _, _, _, HNX.out.1⟩ (by omega) (by omega) (by omega) (by omega) (by omega)).mono ?_
        rintro e w2 ⟨rfl, hI2, hb2⟩
        have HR : Hid (Steps w wb B N (.returned (.bool true)) w2) := ⟨rfl, hI2, HBc.out.trans (HNX.out.2.trans hb2)⟩
        clear hI2 hb2
        go_wp2
        go_ret
        exact HR.out
      · have b7 : (k == 7) = false := beq_eq_false_iff_ne.2 hk7
        go_wp2_with fail
        refine (law_told wb B N FW ps bs is j k a b c s wc HAc.out HJL.out hN HO.out.k9 HO.out.k12 HO.out.k13).mono ?_
        rintro e w1 hD
        have HD := hide (hD.after HBc.out)
        obtain ⟨rfl, _⟩ := hD
        go_wp2
        go_ret
        exact HD.out

theorem law_step (wb B N : Nat) (k a b c : Int) (s : ByteArray) (w : World) (h : Inv w wb B N) (hN : N ≤ 100000) (hO : OpOk k a b s) :
    Calls Tryz.prog 21 #[.pointer (some ⟨wb, 0, none⟩), opV k a b c s] w fun e w' => Steps w wb B N e w' := by
  by_cases hk : k = 1
  · subst hk; exact law_step_new wb B N a b c s w h hN
  · exact law_step_old wb B N k a b c s w h hN hk hO
end Go.Proofs.YtiabdbeejkadnaaGreatDoor

/- The law: small. Own work of the verifier. -/
namespace Go.Proofs.YtiabdbeejkadnaaGreatDoor
open Go.RowKit Go.Maps

structure OpD where
  k : Int
  a : Int
  b : Int
  c : Int
  s : ByteArray
/-- the script, as it lies in memory: n steps -/
def Script (w : World) (blk off n : Nat) (O : Nat → OpD) : Prop := ∀ i, i < n →
  w.cell? ⟨blk, off + i * 5, none⟩ = some (.int .i64 (O i).k) ∧ w.cell? ⟨blk, off + i * 5 + 1, none⟩ = some (.int .i64 (O i).a) ∧ w.cell? ⟨blk, off + i * 5 + 2, none⟩ = some (.int .i64 (O i).b) ∧ w.cell? ⟨blk, off + i * 5 + 3, none⟩ = some (.int .i64 (O i).c) ∧ w.cell? ⟨blk, off + i * 5 + 4, none⟩ = some (.string (O i).s)
theorem Script.below {w w' : World} {blk off n : Nat} {O : Nat → OpD} {B : Nat} (h : Script w blk off n O) (hb : Below B w w') (hB : blk < B) : Script w' blk off n O := fun i hi => by
  obtain ⟨h0, h1, h2, h3, h4⟩ := h i hi
  exact ⟨(hb.cell (p := ⟨blk, _, none⟩) hB).trans h0, (hb.cell (p := ⟨blk, _, none⟩) hB).trans h1, (hb.cell (p := ⟨blk, _, none⟩) hB).trans h2, (hb.cell (p := ⟨blk, _, none⟩) hB).trans h3, (hb.cell (p := ⟨blk, _, none⟩) hB).trans h4⟩

theorem small_nil (ao : Option Addr) (cap : Nat) (w : World) : Calls Tryz.prog 20 #[.slice ao 0 cap] w fun e w' => e = .returned (.bool true) ∧ w' = w := by
  go_enter Tryz.func20, Tryz.ntmps20
  go_wp2
  refine wp_loop_rounds 1 ?_
  rw [rounds_succ]
  go_wp2
  go_ret
  exact ⟨rfl, rfl⟩

/-- what small tells -/
def Smalls (w : World) (n : Nat) (O : Nat → OpD) (e : Ending) (w' : World) : Prop := ∃ r, e = .returned (.bool r) ∧ w' = w ∧ (r = true → n ≤ 65536 ∧ ∀ i, i < n → (O i).s.size ≤ 65536)
set_option maxHeartbeats 1000000 in
set_option maxRecDepth 1000000 in
theorem small_some (blk off n cap : Nat) (O : Nat → OpD) (w : World) (h : Script w blk off n O) (hs : ∀ i, i < n → (O i).s.size ≤ 2 ^ 48) (hn : n ≤ 2 ^ 48) :
    Calls Tryz.prog 20 #[.slice (some ⟨blk, off, none⟩) n cap] w fun e w' => Smalls w n O e w' := by
  have H := hide h
  have HS := hide hs
  clear h hs
  by_cases hbig : 65536 < n
  · have hb : (65536 : Int) < (n : Int) := by omega
    go_enter Tryz.func20, Tryz.ntmps20
    go_wp2
    go_ret
    exact ⟨false, rfl, rfl, fun h => by cases h⟩
  · have hb : ¬ (65536 : Int) < (n : Int) := by omega
    go_enter Tryz.func20, Tryz.ntmps20
    go_wp2
    go_loop [3, 4] (fun v i => ∃ (j : Nat) (nv : Int), j ≤ n ∧ i = .int .i64 j ∧ v = .int .i64 nv ∧ 0 ≤ nv ∧ nv ≤ 65536 ∧ Hid (∀ i, i < j → (O i).s.size ≤ 65536)) (fun _ i => n - (intOf i).toNat)
    case atStart => exact ⟨0, n, Nat.zero_le _, rfl, rfl, by omega, by omega, fun i hi => by omega⟩
    case round =>
      obtain ⟨j, nv, hj, rfl, rfl, h0, h1, hall⟩ := hrel
      by_cases hlt : j < n
      · have q := (H.out j hlt).2.2.2.2
        have hsz := HS.out j hlt
        have hi2 : (j : Int) < (n : Int) := by omega
        by_cases hov : 65536 < nv + ((O j).s.size : Int)
        · go_wp2
          go_ret
          exact ⟨false, rfl, rfl, fun h => by cases h⟩
        · have HOV := hide hov
          go_wp2
          go_round
          case rel => exact ⟨j + 1, nv + ((O j).s.size : Int), by omega, by go_num, by go_num, by omega, by omega, fun i hi => by
            rcases Nat.lt_or_ge i j with h | h
            · exact hall.out i h
            · have : i = j := by omega
              subst this; omega⟩
          case measure => simp [intOf]; omega
      · have HJ : Hid (j = n) := by show j = n; omega
        go_wp2
        go_ret
        exact ⟨true, rfl, rfl, fun _ => ⟨by omega, fun i hi => hall.out i (by rw [HJ.out]; exact hi)⟩⟩
end Go.Proofs.YtiabdbeejkadnaaGreatDoor
