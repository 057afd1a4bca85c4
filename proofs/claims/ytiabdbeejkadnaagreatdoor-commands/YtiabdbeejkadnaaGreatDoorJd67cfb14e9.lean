import Derived.Test.YtiabdbeejkadnaaGreatDoorJc6eb64ed19
import Derived.Test.YtiabdbeejkadnaaGreatDoorJ143e74821a
import Derived.Test.YtiabdbeejkadnaaGreatDoorRefS
import Derived.Test.YtiabdbeejkadnaaGreatDoorPX
/- The law: flown. Own work of the verifier. -/
namespace Go.Proofs.YtiabdbeejkadnaaGreatDoor
open Go.RowKit Go.Maps

theorem ref_flights (S : St) (F : Nat → Prop) (mb : Nat) (w : World) (h : RefAt w F mb S) :
    Calls Tryz.prog 69 #[.pointer (some ⟨mb, 0, none⟩)] w fun e w' => (∃ af cf vs, e = .returned (.slice af S.flights.length cf) ∧ vs.length = S.flights.length ∧ Row w F 44 4 af S.flights.length cf ((S.flights.zip vs).flatMap encC) ∧ ∀ j (hj : j < S.flights.length) (hv : j < vs.length), Row w F 3 1 (vs[j]).1 (S.flights[j]).requests.length (vs[j]).2 (encI (S.flights[j]).requests)) ∧ w' = w := by
  obtain ⟨G, ar, cr, at_, ct, af, cf, ad, cd, h⟩ := h
  have c3 := h.c3
  obtain ⟨vs, hvl, hRf, hins⟩ := h.flights
  have HX : Hid (∃ af' cf' vs, Ending.returned (.slice af S.flights.length cf) = Ending.returned (.slice af' S.flights.length cf') ∧ vs.length = S.flights.length ∧ Row w F 44 4 af' S.flights.length cf' ((S.flights.zip vs).flatMap encC) ∧ ∀ j (hj : j < S.flights.length) (hv : j < vs.length), Row w F 3 1 (vs[j]).1 (S.flights[j]).requests.length (vs[j]).2 (encI (S.flights[j]).requests)) := by
    refine ⟨af, cf, vs, rfl, hvl, hRf.mono h.sub, fun j hj hv => ?_⟩
    have hm : (S.flights[j], vs[j]) ∈ S.flights.zip vs := by
      rw [List.mem_iff_getElem]
      exact ⟨j, by simp [hvl]; exact hj, by simp⟩
    exact (hins _ hm).mono h.sub
  clear h hRf hins hvl
  go_enter Tryz.func69, Tryz.ntmps69
  go_wp2
  go_ret
  exact ⟨HX.out, rfl⟩

def gone (us : List (Option Addr × Nat)) (j k : Nat) : Prop := ∃ i, ∃ hi : i < us.length, i < j ∧ ∃ a, (us[i]).1 = some a ∧ a.block = k
def here (us : List (Option Addr × Nat)) (j k : Nat) : Prop := ∃ hi : j < us.length, ∃ a, (us[j]).1 = some a ∧ a.block = k
theorem gone_succ {us : List (Option Addr × Nat)} {j k : Nat} : gone us (j + 1) k ↔ gone us j k ∨ here us j k := by
  constructor
  · rintro ⟨i, hi, hij, h⟩
    rcases Nat.lt_or_ge i j with e | e
    · exact Or.inl ⟨i, hi, e, h⟩
    · have : i = j := by omega
      subst this; exact Or.inr ⟨hi, h⟩
  · rintro (⟨i, hi, hij, h⟩ | ⟨hi, h⟩)
    · exact ⟨i, hi, by omega, h⟩
    · exact ⟨j, hi, by omega, h⟩
section
variable {lim : Nat} {W wr : World} {fl : List Cmd} {ao : Option Addr} {n cap : Nat} {us : List (Option Addr × Nat)}
theorem FlOut.goneAt (h : FlOut lim W fl ao n cap us) {j k : Nat} (hg : gone us j k) : lim ≤ k ∧ ∃ cs, W.heap[k]? = some (.cells cs 3 (0, 0)) := by
  obtain ⟨i, hi, _, a, ha, rfl⟩ := hg
  have h1 := h.ins i (by rw [← h.len]; exact hi) hi
  obtain ⟨cu, hcu, _⟩ := h1.block ha
  exact ⟨h1.2 a ha, cu, hcu⟩
theorem FlOut.hereAt (h : FlOut lim W fl ao n cap us) {j k : Nat} (hg : here us j k) : lim ≤ k ∧ (∃ cs, W.heap[k]? = some (.cells cs 3 (0, 0))) ∧ ¬ gone us j k := by
  obtain ⟨hi, a, ha, rfl⟩ := hg
  have h1 := h.ins j (by rw [← h.len]; exact hi) hi
  obtain ⟨cu, hcu, _⟩ := h1.block ha
  refine ⟨h1.2 a ha, ⟨cu, hcu⟩, ?_⟩
  rintro ⟨i, hi', hij, b, hb, e⟩
  exact h.ap i j hi' hi hij b a hb ha e
end
/-- behind j of the commands -/
def FlInv (W wr : World) (FW : Nat → Prop) (us : List (Option Addr × Nat)) (wb : Nat) (qs : List (Nat × Nat)) (bs is : List (Option Addr × Nat)) (j : Nat) : Prop :=
  ∃ FW' is', WAt wr FW' wb qs bs is' ∧ is'.length = is.length + j ∧ (∀ x ∈ is', x.2 ≤ maxLen) ∧ (∀ k, FW' k → FW k ∨ gone us j k ∨ W.heap.size ≤ k) ∧ Kept (fun k => FW k ∨ gone us j k) W wr
theorem FlInv.step {W wr : World} {FW : Nat → Prop} {us : List (Option Addr × Nat)} {wb : Nat} {qs : List (Nat × Nat)} {bs is : List (Option Addr × Nat)} {j lim : Nat} {fl : List Cmd} {ao : Option Addr} {n cap : Nat} {Q : Nat → Prop} {ao2 : Option Addr} {cap2 : Nat} (h : FlInv W wr FW us wb qs bs is j) (hF : FlOut lim W fl ao n cap us) (hj : j < fl.length) (hv : j < us.length) (hlim : ∀ k, FW k → k < lim) (hnl : (fl[j]).requests.length ≤ 1000000) (hil : is.length ≤ 500000) (hj4 : j ≤ 10)
    (hrow2 : Row wr Q 3 1 ao2 (fl[j]).requests.length cap2 (encI (fl[j]).requests)) :
    Calls Tryz.prog 70 #[.pointer (some ⟨wb, 0, none⟩), cmdV (fl[j]).write (fl[j]).page (fl[j]).count (us[j]).1 (fl[j]).requests.length (us[j]).2, cmdV (fl[j]).write (fl[j]).page (fl[j]).count ao2 (fl[j]).requests.length cap2] wr fun e w' => e = .returned (.bool true) ∧ FlInv W w' FW us wb qs bs is (j + 1) := by
  obtain ⟨FW', is', hW, hl, hc, hFW, hK⟩ := h
  have h0 := hF.ins j hj hv
  have hP : Row wr (here us j) 3 1 (us[j]).1 (fl[j]).requests.length (us[j]).2 (encI (fl[j]).requests) := by
    refine ⟨(h0.same fun a ha => ?_).1, fun a ha => ⟨hv, a, ha, rfl⟩⟩
    obtain ⟨h1, ⟨cs, h2⟩, h3⟩ := hF.hereAt (j := j) ⟨hv, a, ha, rfl⟩
    exact hK.block _ (lt_of_heap h2) (fun e => e.elim (fun e => by have := hlim _ e; omega) h3)
  have hz := hK.size
  refine (law_command hW hP hrow2 rfl hnl (fun k hk hh => ?_) (by omega) hc).mono ?_
  · obtain ⟨h1, ⟨cs, h2⟩, h3⟩ := hF.hereAt hh
    rcases hFW k hk with e | e | e
    · have := hlim k e; omega
    · exact h3 e
    · have := lt_of_heap h2; omega
  · rintro e w' ⟨rfl, w3, FW2, G, is2, hb, hW2, hK2, hG, hFW2, hl2, hc2⟩
    have hzb := hb.size
    refine ⟨rfl, FW2, is2, hW2, by omega, hc2, fun k hk => ?_, ?_⟩
    · rcases hFW2 k hk with e | e | e
      · rcases hFW k e with e | e | e
        · exact Or.inl e
        · exact Or.inr (Or.inl (gone_succ.2 (Or.inl e)))
        · exact Or.inr (Or.inr e)
      · exact Or.inr (Or.inl (gone_succ.2 (Or.inr e)))
      · exact Or.inr (Or.inr (by omega))
    · have k1 : Kept (fun k => FW k ∨ gone us (j + 1) k) W wr := hK.mono fun k _ e => e.elim Or.inl (fun e => Or.inr (gone_succ.2 (Or.inl e)))
      refine (k1.below hb).trans (hK2.mono fun k _ e => ?_)
      rcases hG k e with e | e
      · rcases hFW k e with e | e | e
        · exact Or.inl (Or.inl e)
        · exact Or.inl (Or.inr (gone_succ.2 (Or.inl e)))
        · exact Or.inr e
      · exact Or.inl (Or.inr (gone_succ.2 (Or.inr e)))
theorem FlInv.drew {W wr : World} {FW : Nat → Prop} {us : List (Option Addr × Nat)} {wb : Nat} {qs : List (Nat × Nat)} {bs is : List (Option Addr × Nat)} {j : Nat} (h : FlInv W wr FW us wb qs bs is j) : FlInv W wr.drew FW us wb qs bs is j := by
  obtain ⟨FW', is', hW, hl, hc, hFW, hK⟩ := h
  exact ⟨FW', is', hW.same (fun _ _ _ => rfl) (Nat.le_refl _), hl, hc, hFW, hK.drew⟩
/-- nothing of the law's world, nor of its queues, has turned -/
theorem AllAt.other {w w' : World} {wb : Nat} {FW G : Nat → Prop} {ps : List PQ} {bs is : List (Option Addr × Nat)} {B N : Nat} (h : AllAt w wb FW ps bs is B N) (hK : Kept G w w') (h1 : ∀ k, G k → ¬ FW k) (h2 : ∀ i (hi : i < ps.length), ∀ k, G k → ¬ (ps[i]).F k) (h3 : ∀ k, G k → B ≤ k) : AllAt w' wb FW ps bs is B N ∧ Below B w w' := by
  have hb : Below B w w' := hK.toBelow h3 h.low
  exact ⟨⟨h.wat.kept hK (fun k hk e => h1 k e hk), fun i hi => (h.pair i hi).kept hK (fun k hk e => h2 i hi k e hk), h.apW, h.apP, h.geW, h.geP, h.gcell hb, h.pos, Nat.le_trans h.low hK.size, h.lens, h.st, h.caps⟩, hb⟩
set_option maxHeartbeats 4000000 in
set_option maxRecDepth 1000000 in
theorem law_flown (wb B N : Nat) (FW : Nat → Prop) (ps : List PQ) (bs is : List (Option Addr × Nat)) (i : Nat) (w : World) (h : AllAt w wb FW ps bs is B N) (hi : i < ps.length) (hN : N ≤ 100000) :
    Calls Tryz.prog 45 #[.pointer (some ⟨wb, 0, none⟩), .agg #[.pointer (some ⟨(ps[i]).x, 0, none⟩), .pointer (some ⟨(ps[i]).m, 0, none⟩)]] w fun e w' => Steps w wb B N e w' := by
  have HA := hide h
  have hpair := h.pair i hi
  have hlast := (h.st i hi).1
  have hltW := h.wat.lt
  have hlow := h.low
  have HAPF : Hid (∀ k, FW k → ¬ (ps[i]).F k) := h.apW i hi
  have HPL : Hid (∀ j (hj : j < ps.length), ∀ k, (ps[j]).F k → k < w.heap.size) := fun j hj => (h.pair j hj).lt
  clear h
  generalize (ps[i]).x = x at *
  generalize (ps[i]).m = m at *
  generalize (ps[i]).S = S at *
  generalize hFF : (ps[i]).F = F at *
  have hwf := hpair.wf
  obtain ⟨Fx, Fm, hP, hM, hd, hF⟩ := hpair
  have HML : Hid (∀ k, Fm k → k < w.heap.size) := hM.lt
  have HMW : Hid (∀ k, Fm k → ¬ FW k) := fun k hk e => HAPF.out k e ((hF k).2 (Or.inr hk))
  have hb0 := hide (alloc_below w (.cells #[.pointer (some ⟨x, 0, none⟩), .pointer (some ⟨m, 0, none⟩)] 99))
  have HP := hide (hP.below hb0.out)
  have HM := hide (hM.below hb0.out)
  have HO := hide (heap_alloc_new w (.cells #[.pointer (some ⟨x, 0, none⟩), .pointer (some ⟨m, 0, none⟩)] 99))
  have hsz : (w.alloc (.cells #[.pointer (some ⟨x, 0, none⟩), .pointer (some ⟨m, 0, none⟩)] 99)).heap.size = w.heap.size + 1 := by simp
  have HLEN : Hid (∀ j (hj : j < S.flights.length), (S.flights[j]).requests.length ≤ 1000000) := fun j hj => flight_len hwf hj (by omega)
  have hf4 : S.flights.length ≤ 4 := by have := hwf.flLen; have := hwf.depth; omega
  clear hP hM hd hF hFF
  go_enter Tryz.func45, Tryz.ntmps45
  go_wp2_with fail
  refine (prog_flights S Fx x _ HP.out (by omega)).mono ?_
  rintro e w1 ⟨⟨ao, n, cap, us, rfl, hfl⟩, hb1⟩
  have HFL := hide hfl
  have hz1 : w.heap.size < w1.heap.size := by have := hb1.size; omega
  obtain ⟨_, p1, _⟩ := cells2 ((hb1.block w.heap.size (by omega)).trans HO.out)
  have HB1 := hide (hb0.out.trans (hb1.mono (by omega)))
  have HM1 := hide (HM.out.below hb1)
  have hn : n = S.flights.length := hfl.cnt
  subst hn
  rw [hsz] at hfl
  have HFO := hide hfl
  clear hb1 hfl HFL
  go_wp2_with fail
  refine (ref_flights S Fm m w1 HM1.out).mono ?_
  rintro e w2 ⟨⟨af, cf, vs, rfl, hvl, hRf, hins⟩, hw2⟩
  have hw2 := hw2.symm
  subst hw2
  have HRF := hide hRf
  have HINS := hide hins
  have HVL := hide hvl
  have HI0 : Hid (FlInv w1 w1 FW us wb (ps.map fun p => (p.x, p.m)) bs is 0) := ⟨FW, is, (HA.out.below HB1.out).wat, rfl, HA.out.caps.2, fun k hk => Or.inl hk, Kept.refl _ _⟩
  have hee : ((S.flights.length : Int) != (S.flights.length : Int)) = false := by simp
  clear hRf hins hvl
  go_wp2
  go_loopw [7, 8] (fun vi _ wr => ∃ j : Nat, j ≤ S.flights.length ∧ vi = .int .i64 j ∧ Hid (FlInv w1 wr FW us wb (ps.map fun p => (p.x, p.m)) bs is j)) (fun vi _ _ => S.flights.length - (intOf vi).toNat)
  case atStart => exact ⟨0, Nat.zero_le _, rfl, HI0.out⟩
  case round =>
    obtain ⟨j, hj, rfl, HI⟩ := hrel
    have hgK := HI.out
    obtain ⟨FW1, is1, _, _, _, _, hK1⟩ := hgK
    have HK1 := hide hK1
    clear hK1
    have hAO : ∀ a, ao = some a → ¬ (FW a.block ∨ gone us j a.block) := fun a ha e => by
      have h1 := HFO.out.row.2 a ha
      rcases e with e | e
      · have := hltW _ e; omega
      · obtain ⟨_, cs, hcs⟩ := HFO.out.goneAt e
        exact (HFO.out.row.ne hcs (by decide)) a ha rfl
    have HRL : Hid (Row wr (fun b => w.heap.size + 1 ≤ b) 44 4 ao S.flights.length cap ((S.flights.zip us).flatMap encC)) := HFO.out.row.same fun a ha => by
      obtain ⟨cu, hcu, _⟩ := HFO.out.row.block ha
      exact HK1.out.block _ (lt_of_heap hcu) (hAO a ha)
    have HFM : Hid (∀ k, Fm k → ¬ (FW k ∨ gone us j k)) := fun k hk e => by
      rcases e with e | e
      · exact HMW.out k hk e
      · have := (HFO.out.goneAt e).1; have := HML.out k hk; omega
    have HRM : Hid (Row wr Fm 44 4 af S.flights.length cf ((S.flights.zip vs).flatMap encC)) := HRF.out.same fun a ha => by
      obtain ⟨cu, hcu, _⟩ := HRF.out.block ha
      exact HK1.out.block _ (lt_of_heap hcu) (HFM.out _ (HRF.out.2 a ha))
    by_cases hlt : j < S.flights.length
    · have hji : (j : Int) < (S.flights.length : Int) := by omega
      have hju : j < us.length := by rw [HFO.out.len]; exact hlt
      have hjv : j < vs.length := by rw [HVL.out]; exact hlt
      have hju2 : j < (S.flights.zip us).length := by rw [List.length_zip, HFO.out.len]; omega
      have hjv2 : j < (S.flights.zip vs).length := by rw [List.length_zip, HVL.out]; omega
      obtain ⟨ga, cua, hga, _, hgab, _, _⟩ := Row.some HRL.out (by omega)
      obtain ⟨gm, cum, hgm, _, hgmb, _, _⟩ := Row.some HRM.out (by omega)
      subst hga hgm
      have hL : ∀ t, t < 4 → wr.cell? ⟨ga, j * 4 + t, none⟩ = (encC (S.flights[j], us[j]))[t]? := fun t ht => by
        rw [Row.cellAt HRL.out (j * 4 + t) (by omega), encC_at _ j t hju2 ht]; simp
      have hM : ∀ t, t < 4 → wr.cell? ⟨gm, j * 4 + t, none⟩ = (encC (S.flights[j], vs[j]))[t]? := fun t ht => by
        rw [Row.cellAt HRM.out (j * 4 + t) (by omega), encC_at _ j t hjv2 ht]; simp
      have HMI : Hid (Row wr Fm 3 1 (vs[j]).1 (S.flights[j]).requests.length (vs[j]).2 (encI (S.flights[j]).requests)) := by
        have h1 := HINS.out j hlt hjv
        exact h1.same fun a ha => by
          obtain ⟨cu, hcu, _⟩ := h1.block ha
          exact HK1.out.block _ (lt_of_heap hcu) (HFM.out _ (h1.2 a ha))
      have HCMD := hide ((HI.out.drew).step HFO.out hlt hju (fun k hk => by have := hltW k hk; omega) (HLEN.out j hlt) (by have := HA.out.lens; omega) (by omega) (HMI.out.same (w' := wr.drew) (fun _ _ => rfl)))
      -- the cells, as they lie behind the call too
      have HSTAY : Hid (∀ w4, FlInv w1 w4 FW us wb (ps.map fun p => (p.x, p.m)) bs is (j + 1) → w4.heap[ga]? = wr.heap[ga]? ∧ w4.heap[gm]? = wr.heap[gm]?) := fun w4 hI4 => by
        obtain ⟨_, _, _, _, _, _, hK4⟩ := hI4
        refine ⟨?_, ?_⟩
        · obtain ⟨cu, hcu, _⟩ := HFO.out.row.block rfl
          have e1 := hK4.block ga (lt_of_heap hcu) (fun e => by
            rcases e with e | e
            · have h9 : w.heap.size + 1 ≤ ga := HFO.out.row.2 _ rfl
              have := hltW _ e; omega
            · obtain ⟨_, cs, hcs⟩ := HFO.out.goneAt e
              exact (HFO.out.row.ne hcs (by decide)) _ rfl rfl)
          have e2 := HK1.out.block ga (lt_of_heap hcu) (hAO _ rfl)
          exact e1.trans e2.symm
        · obtain ⟨cu, hcu, _⟩ := HRF.out.block rfl
          have hFmg : Fm gm := HRF.out.2 _ rfl
          have e1 := hK4.block gm (lt_of_heap hcu) (fun e => by
            rcases e with e | e
            · exact HMW.out _ hFmg e
            · have := (HFO.out.goneAt e).1; have := HML.out _ hFmg; omega)
          have e2 := HK1.out.block gm (lt_of_heap hcu) (HFM.out _ hFmg)
          exact e1.trans e2.symm
      unfold cmdV at HCMD
      generalize S.flights[j] = cm at *
      generalize us[j] = u at *
      generalize vs[j] = v at *
      obtain ⟨ua, uc⟩ := u
      obtain ⟨va, vc⟩ := v
      have l0 : wr.cell? ⟨ga, j * 4, none⟩ = some (.bool cm.write) := hL 0 (by omega)
      have l1 : wr.cell? ⟨ga, j * 4 + 1, none⟩ = some (.int .i64 cm.page) := hL 1 (by omega)
      have l2 : wr.cell? ⟨ga, j * 4 + 2, none⟩ = some (.int .i64 cm.count) := hL 2 (by omega)
      have l3 : wr.cell? ⟨ga, j * 4 + 3, none⟩ = some (.slice ua cm.requests.length uc) := hL 3 (by omega)
      have m0 : wr.cell? ⟨gm, j * 4, none⟩ = some (.bool cm.write) := hM 0 (by omega)
      have m1 : wr.cell? ⟨gm, j * 4 + 1, none⟩ = some (.int .i64 cm.page) := hM 1 (by omega)
      have m2 : wr.cell? ⟨gm, j * 4 + 2, none⟩ = some (.int .i64 cm.count) := hM 2 (by omega)
      have m3 : wr.cell? ⟨gm, j * 4 + 3, none⟩ = some (.slice va cm.requests.length vc) := hM 3 (by omega)
      clear hL hM HRL HRM HMI hgab hgmb hAO HFM HK1
      go_wp2_with fail
      go_region_held3 (fun W => (W.cell? ⟨ga, j * 4, none⟩ = some (.bool cm.write) ∧ W.cell? ⟨ga, j * 4 + 1, none⟩ = some (.int .i64 cm.page) ∧ W.cell? ⟨ga, j * 4 + 2, none⟩ = some (.int .i64 cm.count) ∧ W.cell? ⟨ga, j * 4 + 3, none⟩ = some (.slice ua cm.requests.length uc)) ∧ (W.cell? ⟨gm, j * 4, none⟩ = some (.bool cm.write) ∧ W.cell? ⟨gm, j * 4 + 1, none⟩ = some (.int .i64 cm.page) ∧ W.cell? ⟨gm, j * 4 + 2, none⟩ = some (.int .i64 cm.count) ∧ W.cell? ⟨gm, j * 4 + 3, none⟩ = some (.slice va cm.requests.length vc))) (go_keep)
        (first | (go_at_call 70; refine HCMD.out.mono ?_; rintro e w4 ⟨rfl, hI4⟩; obtain ⟨s1, s2⟩ := HSTAY.out w4 hI4; have HI4 := hide hI4; have l0' := (World.cell?_of_block (a := ⟨ga, j * 4, none⟩) s1).trans l0; have l1' := (World.cell?_of_block (a := ⟨ga, j * 4 + 1, none⟩) s1).trans l1; have l2' := (World.cell?_of_block (a := ⟨ga, j * 4 + 2, none⟩) s1).trans l2; have l3' := (World.cell?_of_block (a := ⟨ga, j * 4 + 3, none⟩) s1).trans l3; have m0' := (World.cell?_of_block (a := ⟨gm, j * 4, none⟩) s2).trans m0; have m1' := (World.cell?_of_block (a := ⟨gm, j * 4 + 1, none⟩) s2).trans m1; have m2' := (World.cell?_of_block (a := ⟨gm, j * 4 + 2, none⟩) s2).trans m2; have m3' := (World.cell?_of_block (a := ⟨gm, j * 4 + 3, none⟩) s2).trans m3; clear hI4 s1 s2))
      all_goals go_wp2
      all_goals go_roundw
      case rel => exact ⟨j + 1, by omega, by go_num, HI4.out⟩
      case measure => simp [intOf]; omega
    · have hje : j = S.flights.length := by omega
      have HAL : Hid (∃ FW' is', AllAt wr wb FW' ps bs is' B (N + 1) ∧ Below B w wr ∧ ∀ k, FW' k → FW k ∨ gone us j k ∨ w1.heap.size ≤ k) := by
        obtain ⟨FW', is', hW, hl, hc, hFW, hK⟩ := HI.out
        obtain ⟨r1, r2⟩ := (HA.out.below HB1.out).wOpG (P := gone us j) (M := N + 1) (Nat.le_succ N) (Below.refl _ _) hW hK (fun k hk => hk) hFW (fun k hk => by have := (HFO.out.goneAt hk).1; omega) (fun j' hj' k hk e => by have := (HFO.out.goneAt hk).1; have := HPL.out j' hj' k e; omega) (by have := HA.out.lens; omega) ⟨HA.out.caps.1, hc⟩
        exact ⟨FW', is', r1, (HB1.out.mono hlow).trans r2, hFW⟩
      obtain ⟨FW2, is2, hAL, hBL, hFL⟩ := HAL.out
      have HAL2 := hide hAL
      have HBL2 := hide hBL
      have HFIN : Hid (∀ (G : Nat → Prop) (w5 : World), Kept G wr w5 → (∀ k, G k → ∃ a, ao = some a ∧ a.block = k) → Steps w wb B N (.returned (.bool true)) w5) := fun G w5 hK5 hG5 => by
        have hge : ∀ k, G k → w.heap.size + 1 ≤ k ∧ k < w1.heap.size := fun k hk => by
          obtain ⟨a, ha, rfl⟩ := hG5 k hk
          obtain ⟨cu, hcu, _⟩ := HFO.out.row.block ha
          exact ⟨HFO.out.row.2 a ha, lt_of_heap hcu⟩
        obtain ⟨r1, r2⟩ := HAL2.out.other hK5 (fun k hk e => by
          have h1 := hge k hk
          rcases hFL k e with e | e | e
          · have := hltW k e; omega
          · obtain ⟨a, ha, rfl⟩ := hG5 k hk
            exact hAO a ha (Or.inr e)
          · omega) (fun j' hj' k hk e => by have := hge k hk; have := HPL.out j' hj' k e; omega) (fun k hk => by have := hge k hk; omega)
        exact ⟨rfl, ⟨_, _, _, _, r1⟩, HBL2.out.trans r2⟩
      clear hAL hBL hFL HAL HI HK1 hAO HFM HRM
      have hrl := HRL.out
      rcases hrl.1.2 with ⟨h0, h00⟩ | ⟨ga, cap', cur, hv, _, hh, h1, h2, h3, _⟩
      · simp only [Value.slice.injEq] at h0
        obtain ⟨rfl, hfl0, rfl⟩ := h0
        clear hrl
        go_wp2
        go_loop [10] (fun vi => vi = .int .i64 0) (fun _ => 0)
        case atStart => rfl
        case round =>
          subst hrel
          go_wp2
          go_ret
          exact HFIN.out (fun _ => False) wr (Kept.refl _ _) (fun k hk => hk.elim)
      · simp only [Value.slice.injEq] at hv
        obtain ⟨rfl, _, rfl⟩ := hv
        clear hrl
        have HHH := hide hh
        have h3' : cur.size = cap * 4 := h3
        have hcm : cap ≤ maxLen := h2
        unfold maxLen at hcm
        obtain ⟨w5, hw5⟩ : ∃ w5, w5 = wr := ⟨_, rfl⟩
        subst hw5
        go_wp2
        go_loopw [10] (fun vi wx => ∃ t : Nat, t ≤ cap ∧ vi = .int .i64 t ∧ Hid (∃ cu : Array Value, wx.heap[ga]? = some (.cells cu 44 (0, 0)) ∧ cu.size = cap * 4) ∧ Hid (Kept (fun k => k = ga) w5 wx)) (fun vi _ => cap - (intOf vi).toNat)
        case atStart => exact ⟨0, Nat.zero_le _, rfl, ⟨cur, HHH.out, h3'⟩, Kept.refl _ _⟩
        case round =>
          obtain ⟨t, ht, rfl, hcu, hKx⟩ := hrel
          by_cases htl : t < cap
          · obtain ⟨cu, hcu1, hcu2⟩ := hcu.out
            have hti : (t : Int) < (cap : Int) := by omega
            have hy : ∀ s, s < 4 → ∃ v, wr.cell? ⟨ga, t * 4 + s, none⟩ = some v := fun s hs => ⟨cu[t * 4 + s]'(by omega), by simp [World.cell?, hcu1]⟩
            obtain ⟨v0, y0⟩ := hy 0 (by omega)
            replace y0 : wr.cell? ⟨ga, t * 4, none⟩ = some v0 := y0
            obtain ⟨v1, y1⟩ := hy 1 (by omega)
            obtain ⟨v2, y2⟩ := hy 2 (by omega)
            obtain ⟨v3, y3⟩ := hy 3 (by omega)
            have hz : ∀ s, wr.frozen? ⟨ga, s, none⟩ = false := fun s => by simp [World.frozen?, hcu1]
            have z0 := hz (t * 4)
            have z1 := hz (t * 4 + 1)
            have z2 := hz (t * 4 + 2)
            have z3 := hz (t * 4 + 3)
            have HNX : Hid ((∃ cu : Array Value, ((((wr.setCell ⟨ga, t * 4, none⟩ (.bool false)).setCell ⟨ga, t * 4 + 1, none⟩ (.int .i64 77)).setCell ⟨ga, t * 4 + 2, none⟩ (.int .i64 0)).setCell ⟨ga, t * 4 + 3, none⟩ (.slice none 0 0)).heap[ga]? = some (.cells cu 44 (0, 0)) ∧ cu.size = cap * 4) ∧ Kept (fun k => k = ga) w5 ((((wr.setCell ⟨ga, t * 4, none⟩ (.bool false)).setCell ⟨ga, t * 4 + 1, none⟩ (.int .i64 77)).setCell ⟨ga, t * 4 + 2, none⟩ (.int .i64 0)).setCell ⟨ga, t * 4 + 3, none⟩ (.slice none 0 0))) := by
              refine ⟨⟨_, heap_setCell_at (heap_setCell_at (heap_setCell_at (heap_setCell_at hcu1 _) _) _) _, by simpa using hcu2⟩, ?_⟩
              have hE : ∀ s, Ext (fun k => k = ga) w5 (⟨ga, s, none⟩ : Addr).block := fun s => Or.inl rfl
              exact (((hKx.out.setCell (hE _) _).setCell (hE _) _).setCell (hE _) _).setCell (hE _) _
            clear hy hz hcu1 hcu2 hcu
            go_wp2
            go_roundw
            case rel => exact ⟨t + 1, by omega, by go_num, HNX.out.1, HNX.out.2⟩
            case measure => simp [intOf]; omega
          · go_wp2
            go_ret
            exact HFIN.out (fun k => k = ga) _ hKx.out (fun k hk => ⟨⟨ga, 0, none⟩, rfl, hk.symm⟩)
end Go.Proofs.YtiabdbeejkadnaaGreatDoor

/- plain.Complete (stage 2's code). Own work of the verifier. -/
namespace Go.Proofs.YtiabdbeejkadnaaGreatDoor
open Go.RowKit Go.Maps

set_option maxHeartbeats 1000000 in
theorem plain_complete (S : St) (F : Nat → Prop) (xb : Nat) (kk : Int) (fault : Bool) (w : World) (h : ProgAt w F xb S) (hg : GCell w) (h0 : ¬ F 0) (hn : S.now ≤ 1000000000) (hl : S.last ≤ 1000000) :
    Calls Tryz.prog 27 #[.pointer (some ⟨xb, 0, none⟩), .int .i64 kk, .bool fault] w fun e w' => e = .returned (.agg #[.int .i64 (if (completeM S kk fault).1 then 0 else 10), .int .i64 (-1), .int .i64 0, .bool true]) ∧ ProgAt w' (Foot F w w') xb (completeM S kk fault).2 ∧ Kept F w w' := by
  have H : Hid (ProgAt w F xb S) := h
  have hF := h.lt
  have hnF : ¬ F w.heap.size := fun e => by have := hF _ e; omega
  have HF : Hid (∀ k, F k → k < w.heap.size) := hF
  have HG : Hid (GCell w) := hg
  clear h hF hg
  generalize hA : (if (completeM S kk fault).1 then 0 else 10 : Int) = ek
  have HA : Hid ((if (completeM S kk fault).1 then .nilIface else errOf 10 : Value) = errOf ek) := by rw [Hid, ← hA]; split <;> rfl
  clear hA
  generalize hS : (completeM S kk fault).2 = S'
  have HS : Hid ((completeM S kk fault).2 = S') := hS
  clear hS
  go_enter Tryz.func27, Tryz.ntmps27
  go_wp2_with fail
  refine (prog_complete S F xb kk fault _ (H.out.same (fun k _ hk => Below.heap_alloc w _ k hk) (by simp)) hn hl).mono ?_
  rintro e w1 ⟨rfl, hP, hK⟩
  rw [HA.out]
  rw [HS.out] at hP
  have hP := hP.wid (fun k hk => Foot.of (w := w.alloc (.cells #[.int .i64 0, .int .i64 0, .int .i64 0, .bool false] 57)) (w' := w1) k hk) (Foot.lt (fun k hk => by have := HF.out k hk; simp; omega) hK.size)
  have hE : ErrIs w1 (errOf ek) ek (-1) 0 := Or.inl ⟨rfl, rfl, rfl⟩
  have HP : Hid (ProgAt w1 (Foot F (w.alloc (.cells #[.int .i64 0, .int .i64 0, .int .i64 0, .bool false] 57)) w1) xb S') := hP
  have HK : Hid (Kept F (w.alloc (.cells #[.int .i64 0, .int .i64 0, .int .i64 0, .bool false] 57)) w1) := hK
  have hg1 : GCell w1 := (HG.out.below (alloc_below _ _)).kept hK h0
  have hz1 : w.heap.size < w1.heap.size := by have := hK.size; simp at this; omega
  obtain ⟨⟨a0, a1, a2, a3⟩, b0, b1, b2, b3⟩ := err_cells hK hnF
  have HE := hide hE
  clear hP hK hE
  go_wp2_with fail
  refine (told_is HE.out hg1).mono ?_
  rintro e w2 ⟨rfl, hb⟩
  have a0' := (hb.cell (p := ⟨w.heap.size, 0, none⟩) hz1).trans a0
  have a1' := (hb.cell (p := ⟨w.heap.size, 1, none⟩) hz1).trans a1
  have a2' := (hb.cell (p := ⟨w.heap.size, 2, none⟩) hz1).trans a2
  have a3' := (hb.cell (p := ⟨w.heap.size, 3, none⟩) hz1).trans a3
  have b0' := (hb.frozen (p := ⟨w.heap.size, 0, none⟩) hz1).trans b0
  have b1' := (hb.frozen (p := ⟨w.heap.size, 1, none⟩) hz1).trans b1
  have b2' := (hb.frozen (p := ⟨w.heap.size, 2, none⟩) hz1).trans b2
  have b3' := (hb.frozen (p := ⟨w.heap.size, 3, none⟩) hz1).trans b3
  have HB := hide hb
  clear hb a0 a1 a2 a3 b0 b1 b2 b3
  go_wp2
  exact bodyPost_ret (v := .agg #[.int .i64 ek, .int .i64 (-1), .int .i64 0, .bool true]) (by simp [results, Tryz.results27, go_sem, a0', a1', a2', a3']) rfl ⟨rfl, plain_fin _ _ _ _ HP.out HK.out HB.out HF.out⟩
end Go.Proofs.YtiabdbeejkadnaaGreatDoor
