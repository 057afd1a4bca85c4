/- The law: polled, where there is an answer. Own work of the verifier. -/
import Derived.Test.YtiabdbeejkadnaaGreatDoorPairH
namespace Go.Proofs.YtiabdbeejkadnaaGreatDoor
open Go.RowKit Go.Maps

theorem conv_nil (w : World) : (convert 86 9 (.slice none 0 0)).run Tryz.prog w = .ok (.string ⟨#[]⟩) w := by kernel_rfl
theorem conv_row {w : World} {P : Nat → Prop} {ao : Option Addr} {n cap : Nat} {s : ByteArray} (h : Row w P 5 1 ao n cap (encB s.data.toList)) (hn : n = s.size) :
    (convert 86 9 (.slice ao n cap)).run Tryz.prog w = .ok (.string s) w := by
  have hsl : s.data.toList.length = n := by rw [hn, Array.length_toList]; rfl
  rcases h.1.2 with ⟨h0, h1⟩ | ⟨g, cap', cur, hv, _, hh, h1, h2, h3, _⟩
  · cases h0
    have e : s = ⟨#[]⟩ := by
      cases s with | mk d => cases d with | mk l => cases l with
        | nil => rfl
        | cons a l => simp at hsl
    rw [e]
    exact conv_nil w
  · cases hv
    have e : (⟨s.data.toList.toArray⟩ : ByteArray) = s := by cases s; simp
    generalize s.data.toList = l at *
    have := run_convert_bytes_back (P := Tryz.prog) w 86 9 5 ⟨g, 0, none⟩ cap l Tryz.underlying86 Tryz.underlying5 Tryz.underlying9 (fun i hi => by
      rw [Addr.add_lit, Nat.zero_add]
      show w.cell? _ = _
      rw [Row.cellAt h i (by omega)]
      simp [encB, hi])
    rw [hsl, e] at this
    exact this
set_option maxHeartbeats 1000000 in
set_option maxRecDepth 1000000 in
theorem law_polled_ok (wb B N : Nat) (FW : Nat → Prop) (ps : List PQ) (bs is : List (Option Addr × Nat)) (i : Nat) (num : Int) (w : World) (h : AllAt w wb FW ps bs is B N) (hi : i < ps.length) (hN : N ≤ 100000) (hw : (Lit.int .i64 num).wf = true) (h0F : ¬ (ps[i]).F 0) (hk0 : (pollM (ps[i]).S num).2.2.1 = 0) :
    Calls Tryz.prog 43 #[.pointer (some ⟨wb, 0, none⟩), .agg #[.pointer (some ⟨(ps[i]).x, 0, none⟩), .pointer (some ⟨(ps[i]).m, 0, none⟩)], .int .i64 num] w fun e w' => Steps w wb B N e w' := by
  have HA := hide h
  have hpair := h.pair i hi
  have hlast := (h.st i hi).1
  have hla := hide (pollM_same (ps[i]).S num)
  have HOP : Hid (∀ (w3 : World) (F' : Nat → Prop) (S' : St), PairAt w3 F' (ps[i]).x (ps[i]).m S' → (∀ k, F' k → (ps[i]).F k ∨ w.heap.size ≤ k) → S'.last = (ps[i]).S.last ∧ S'.now = (ps[i]).S.now → Kept (ps[i]).F w w3 → AllAt w3 wb FW (ps.set i ⟨(ps[i]).x, (ps[i]).m, S', F'⟩) bs is B N ∧ Below B w w3) := fun w3 F' S' h1 h2 h3 h4 => h.pairOpG i hi (Nat.le_refl N) h1 h2 (by have := (h.st i hi).1; rw [h3.1]; exact this) (by have := (h.st i hi).2; rw [h3.2]; exact this) h4
  have hltW := h.wat.lt
  have hlow := h.low
  clear h
  have hg := HA.out.g
  generalize hPX : (ps[i]).x = x at *
  generalize (ps[i]).m = m at *
  generalize (ps[i]).S = S at *
  generalize (ps[i]).F = F at *
  have hwf := hpair.wf
  have hltF := hpair.lt
  obtain ⟨Fx, Fm, hP, hM, hd, hF⟩ := hpair
  have h0x : ¬ Fx 0 := fun e => h0F ((hF 0).2 (Or.inl e))
  have hPl := hP.lt
  have HM := hide hM
  have HD := hide hd
  have HF := hide hF
  have HG := hide hg
  have HPl := hide hPl
  have hnx : ¬ Fx w.heap.size := fun e => by have := hPl _ e; omega
  have hP0 := hide (hP.below (alloc_below w (.cells #[.pointer (some ⟨x, 0, none⟩), .pointer (some ⟨m, 0, none⟩)] 99)))
  clear hM hd hF hg hPl hP hPX
  have hpe : plainErr S num = (0, -1, 0) := by unfold plainErr; rw [if_pos hk0]
  generalize hA : pollM S num = r at *
  obtain ⟨s, t, k, S'⟩ := r
  have HA2 : Hid (pollM S num = (s, t, k, S')) := hA
  clear hA
  replace hk0 : k = 0 := hk0
  subst hk0
  go_enter Tryz.func43, Tryz.ntmps43
  go_wp2_with fail
  refine (plain_poll S Fx x num _ hP0.out (HG.out.below (alloc_below _ _)) h0x hw).mono ?_
  rintro e w1 ⟨ao, n, cap, t', rfl, hans, hP1, hK1⟩
  rw [HA2.out] at hP1 hans
  rw [hpe]
  rcases hans with ⟨hz, _⟩ | ⟨_, ht, hn, hn4, hrow⟩
  · exact absurd rfl hz
  replace ht : t' = t := ht
  rw [ht]
  clear ht
  replace hn : n = s.size := hn
  replace hrow : Row w1 (fun k => (w.alloc (.cells #[.pointer (some ⟨x, 0, none⟩), .pointer (some ⟨m, 0, none⟩)] 99)).heap.size ≤ k) 5 1 ao n cap (encB s.data.toList) := hrow
  have HP1 := hide hP1
  have HK1 := hide hK1
  have HROW := hide hrow
  have HNN := hide hn
  have hz1 : w.heap.size < w1.heap.size := by have := hK1.size; simp at this; omega
  have p1 : w1.cell? ⟨w.heap.size, 1, none⟩ = some (.pointer (some ⟨m, 0, none⟩)) := (hK1.cell (p := ⟨w.heap.size, 1, none⟩) (by simp) hnx).trans (by simp)
  clear hP1 hK1 hrow hn
  obtain ⟨wa, hwa⟩ : ∃ wa, wa = (w1.alloc (.cells #[.slice ao n cap, .int .i64 t] 88)).alloc (.cells #[.int .i64 0, .int .i64 (-1), .int .i64 0, .bool true] 57) := ⟨_, rfl⟩
  have HWA := hide hwa
  have hb1 : Below w1.heap.size w1 wa := by rw [hwa]; exact (alloc_below _ _).trans ((alloc_below _ _).mono (by simp))
  have HB1 := hide hb1
  have hM1 := hide (pair_mid HM.out HD.out (alloc_below _ _) HK1.out hb1)
  have hma : wa.heap.size = w1.heap.size + 2 := by rw [hwa]; simp
  have hnm : ¬ Fm w1.heap.size := fun e => by have := HM.out.lt _ e; omega
  have hnm2 : ¬ Fm (w1.heap.size + 1) := fun e => by have := HM.out.lt _ e; omega
  have ha1 : Hid (wa.heap[w1.heap.size]? = some (.cells #[.slice ao n cap, .int .i64 t] 88 (0, 0))) := by rw [hwa]; exact (Below.heap_alloc _ _ _ (by simp)).trans (heap_alloc_new w1 _)
  have ha2 : Hid (wa.heap[w1.heap.size + 1]? = some (.cells #[.int .i64 0, .int .i64 (-1), .int .i64 0, .bool true] 57 (0, 0))) := by
    rw [hwa]
    have := heap_alloc_new (w1.alloc (.cells #[.slice ao n cap, .int .i64 t] 88)) (.cells #[.int .i64 0, .int .i64 (-1), .int .i64 0, .bool true] 57)
    simp only [World.size_alloc] at this
    exact this
  clear hb1 hwa
  go_wp2_with fail
  rw [← HWA.out]
  refine (ref_poll_g S Fm m num _ hM1.out (by have := hwf.toldLen; have := hwf.reqsLen; omega) (by have := hwf.reqsLen; omega) (fun r hr => (hwf.rq r hr).st)).mono ?_
  rintro e w2 ⟨rfl, hM2, hK2⟩
  rw [HA2.out] at hM2
  rw [HA2.out]
  have HM2 := hide hM2
  have HK2 := hide hK2
  have hz2 : w1.heap.size + 1 < w2.heap.size := by have := hK2.size; omega
  have qa : w2.heap[w1.heap.size]? = some (.cells #[.slice ao n cap, .int .i64 t] 88 (0, 0)) := (hK2.block _ (by omega) hnm).trans ha1.out
  have q : w2.heap[w1.heap.size + 1]? = some (.cells #[.int .i64 0, .int .i64 (-1), .int .i64 0, .bool true] 57 (0, 0)) := (hK2.block _ (by omega) hnm2).trans ha2.out
  obtain ⟨⟨q0, q1, q2, q3⟩, _⟩ := cells4 q
  obtain ⟨qa0, qa1, _⟩ := cells2 qa
  have HR2 : Hid (Row w2 (fun k => w.heap.size ≤ k ∧ k < w1.heap.size) 5 1 ao n cap (encB s.data.toList)) := by
    have h1 : ∀ a, ao = some a → w.heap.size ≤ a.block ∧ a.block < w1.heap.size := fun a ha => by
      obtain ⟨cu, hcu, _⟩ := HROW.out.block ha
      have h1 := HROW.out.2 a ha
      simp at h1
      exact ⟨by omega, lt_of_heap hcu⟩
    have h2 := HROW.out.same (w' := w2) fun a ha => by
      obtain ⟨e1, e2⟩ := h1 a ha
      exact (hK2.block a.block (by omega) (fun e => by have := HM.out.lt _ e; omega)).trans (HB1.out.block a.block e2)
    exact ⟨h2.1, h1⟩
  clear hM2 hK2 q qa
  go_wp2_with fail
  refine (law_fine _).mono ?_
  rintro e w3 ⟨rfl, hb3⟩
  have r0 := (hb3.cell (p := ⟨w1.heap.size, 0, none⟩) (by show w1.heap.size < _; omega)).trans qa0
  have r1 := (hb3.cell (p := ⟨w1.heap.size, 1, none⟩) (by show w1.heap.size < _; omega)).trans qa1
  have HB3 := hide hb3
  have HR3 : Hid (Row w3 (fun k => w.heap.size ≤ k ∧ k < w1.heap.size) 5 1 ao n cap (encB s.data.toList)) := HR2.out.same fun a ha => by
    have := HR2.out.2 a ha
    exact hb3.block a.block (by omega)
  have hcv := conv_row HR3.out HNN.out
  have hz3 := hb3.size
  clear hb3 qa0 qa1 q0 q1 q2 q3
  have hte : (t == t) = true := by simp
  have HPA : Hid (PairAt w3 (fun k => Fx k ∨ Foot Fm wa w2 k) x m S' ∧ Kept F w w3) := by
    refine ⟨⟨Fx, Foot Fm wa w2, ?_, HM2.out.below HB3.out, ?_, fun k => Iff.rfl⟩, ?_⟩
    · exact ((HP1.out.below HB1.out).kept HK2.out (fun k hk hn => HD.out k hk hn)).below HB3.out
    · rintro k hk (hn | hn)
      · exact HD.out k hk hn
      · have := HPl.out k hk; omega
    · have k1 : Kept F w w1 := (Go.Proofs.YtiabdbeejkadnaaGreatDoor.Below.kept (alloc_below w (.cells #[.pointer (some ⟨x, 0, none⟩), .pointer (some ⟨m, 0, none⟩)] 99)) F).then (HK1.out.mono fun k _ hk => (HF.out k).2 (Or.inl hk))
      exact ((k1.below HB1.out).then (HK2.out.mono fun k _ hk => (HF.out k).2 (Or.inr hk))).below HB3.out
  have HAA := hide (HOP.out w3 _ S' HPA.out.1 (fun k hk => by
    rcases hk with hk | hk | hk
    · exact Or.inl ((HF.out k).2 (Or.inl hk))
    · exact Or.inl ((HF.out k).2 (Or.inr hk))
    · exact Or.inr (by omega)) hla.out HPA.out.2)
  have HPD : Hid (∀ j (hj : j < (ps.set i ⟨x, m, S', fun k => Fx k ∨ Foot Fm wa w2 k⟩).length), ∀ k, (w.heap.size ≤ k ∧ k < w1.heap.size) → ¬ ((ps.set i ⟨x, m, S', fun k => Fx k ∨ Foot Fm wa w2 k⟩)[j]).F k) := fun j hj k hk => by
    rw [List.length_set] at hj
    simp only [List.getElem_set]
    by_cases e : i = j
    · subst e
      simp only [if_true]
      rintro (hn | hn | hn)
      · have := HPl.out k hn; omega
      · have := HM.out.lt k hn; omega
      · omega
    · simp only [e, if_false]
      intro hn
      have := (HA.out.pair j hj).lt k hn
      omega
  clear HOP HPA
  go_wp2_with fail
  refine (law_mine_rowP HAA.out.1.wat HR3.out (fun k hk e => by have := hltW k hk; omega) (by have := HA.out.lens; omega) HA.out.caps.1).mono ?_
  rintro e w4 ⟨rfl, FW', G, bs', hW, hK, hG, hF', hl', hc'⟩
  have HX := hide (HAA.out.1.wOpG (Nat.le_succ N) (Below.refl _ _) hW hK hG hF' (fun k hk => by omega) HPD.out (by have := HA.out.lens; omega) ⟨hc', HA.out.caps.2⟩)
  clear hW hK hG hF' hl' hc'
  go_wp2
  go_ret
  exact ⟨rfl, ⟨_, _, _, _, HX.out.1⟩, HAA.out.2.trans HX.out.2⟩
end Go.Proofs.YtiabdbeejkadnaaGreatDoor
