import Derived.Test.YtiabdbeejkadnaaGreatDoorJ2748aa994a
import Derived.Test.YtiabdbeejkadnaaGreatDoorJdc26f69e4d
import Derived.Test.YtiabdbeejkadnaaGreatDoorJ6f47aa9e97
import Derived.Test.YtiabdbeejkadnaaGreatDoorJ1a89d247e5
import Derived.Test.YtiabdbeejkadnaaGreatDoorJb5280ac993
import Derived.Shelf.SlicesE.DeleteFunc
import Derived.Ground.SlgfProg
import Derived.Test.YtiabdbeejkadnaaGreatDoorProg
/- The law: flown. Own work of the verifier. -/
namespace Go.Proofs.YtiabdbeejkadnaaGreatDoor
open Go.RowKit Go.Maps

theorem ref_flights (S : St) (F : Nat → Prop) (mb : Nat) (w : World) (h : RefAt w F mb S) :
    Calls Tryz.prog 69 #[.pointer (some ⟨mb, 0, none⟩)] w fun e w' => (∃ af cf vs, e = .returned (.slice af S.flights.length cf) ∧ vs.length = S.flights.length ∧ Row w F 44 4 af S.flights.length cf ((S.flights.zip vs).flatMap encC) ∧ ∀ j (hj : j < S.flights.length) (hv : j < vs.length), Row w F 3 1 (vs[j]).1 (S.flights[j]).requests.length (vs[j]).2 (encI (S.flights[j]).requests)) ∧ w' = w := by
  obtain ⟨G, ar, cr, at_, ct, af, cf, ad, cd, h⟩ := h
  have c3 := h.c3
  obtain ⟨vs, hvl, hRf, hins⟩ := h.flights
  have HX : Hid (∃ af' cf' vs, Ending.returned (.slice af S.flights.length cf) = Ending.returned (.slice af' S.flights.length cf') ∧ vs.length = S.flights.length ∧ Row w F 44 4 af' S.flights.length cf' ((S.flights.zip vs).flatMap encC) ∧ ∀ j (hj : j < S.flights.length) (hv : j < vs.length), Row w F 3 1 (vs[j]).1 (S.flights[j]).requests.length (vs[j]).2 (encI (S.flights[j]).requests)) := by
    refine ⟨af, cf, vs, rfl, hvl, hRf.mono h.sub, fun j hj hv => ?_⟩
    have hm : (S.flights[j], vs[j]) ∈ S.flights.zip vs := by
      rw [List.mem_iff_getElem]
      exact ⟨j, by simp [hvl]; exact hj, by simp⟩
    exact (hins _ hm).mono h.sub
  clear h hRf hins hvl
  go_enter Tryz.func69, Tryz.ntmps69
  go_wp2
  go_ret
  exact ⟨HX.out, rfl⟩

def gone (us : List (Option Addr × Nat)) (j k : Nat) : Prop := ∃ i, ∃ hi : i < us.length, i < j ∧ ∃ a, (us[i]).1 = some a ∧ a.block = k
def here (us : List (Option Addr × Nat)) (j k : Nat) : Prop := ∃ hi : j < us.length, ∃ a, (us[j]).1 = some a ∧ a.block = k
theorem gone_succ {us : List (Option Addr × Nat)} {j k : Nat} : gone us (j + 1) k ↔ gone us j k ∨ here us j k := by
  constructor
  · rintro ⟨i, hi, hij, h⟩
    rcases Nat.lt_or_ge i j with e | e
    · exact Or.inl ⟨i, hi, e, h⟩
    · have : i = j := by omega
      subst this; exact Or.inr ⟨hi, h⟩
  · rintro (⟨i, hi, hij, h⟩ | ⟨hi, h⟩)
    · exact ⟨i, hi, by omega, h⟩
    · exact ⟨j, hi, by omega, h⟩
section
variable {lim : Nat} {W wr : World} {fl : List Cmd} {ao : Option Addr} {n cap : Nat} {us : List (Option Addr × Nat)}
theorem FlOut.goneAt (h : FlOut lim W fl ao n cap us) {j k : Nat} (hg : gone us j k) : lim ≤ k ∧ ∃ cs, W.heap[k]? = some (.cells cs 3 (0, 0)) := by
  obtain ⟨i, hi, _, a, ha, rfl⟩ := hg
  have h1 := h.ins i (by rw [← h.len]; exact hi) hi
  obtain ⟨cu, hcu, _⟩ := h1.block ha
  exact ⟨h1.2 a ha, cu, hcu⟩
theorem FlOut.hereAt (h : FlOut lim W fl ao n cap us) {j k : Nat} (hg : here us j k) : lim ≤ k ∧ (∃ cs, W.heap[k]? = some (.cells cs 3 (0, 0))) ∧ ¬ gone us j k := by
  obtain ⟨hi, a, ha, rfl⟩ := hg
  have h1 := h.ins j (by rw [← h.len]; exact hi) hi
  obtain ⟨cu, hcu, _⟩ := h1.block ha
  refine ⟨h1.2 a ha, ⟨cu, hcu⟩, ?_⟩
  rintro ⟨i, hi', hij, b, hb, e⟩
  exact h.ap i j hi' hi hij b a hb ha e
end
/-- behind j of the commands -/
def FlInv (W wr : World) (FW : Nat → Prop) (us : List (Option Addr × Nat)) (wb : Nat) (qs : List (Nat × Nat)) (bs is : List (Option Addr × Nat)) (j : Nat) : Prop :=
  ∃ FW' is', WAt wr FW' wb qs bs is' ∧ is'.length = is.length + j ∧ (∀ x ∈ is', x.2 ≤ maxLen) ∧ (∀ k, FW' k → FW k ∨ gone us j k ∨ W.heap.size ≤ k) ∧ Kept (fun k => FW k ∨ gone us j k) W wr
theorem FlInv.step {W wr : World} {FW : Nat → Prop} {us : List (Option Addr × Nat)} {wb : Nat} {qs : List (Nat × Nat)} {bs is : List (Option Addr × Nat)} {j lim : Nat} {fl : List Cmd} {ao : Option Addr} {n cap : Nat} {Q : Nat → Prop} {ao2 : Option Addr} {cap2 : Nat} (h : FlInv W wr FW us wb qs bs is j) (hF : FlOut lim W fl ao n cap us) (hj : j < fl.length) (hv : j < us.length) (hlim : ∀ k, FW k → k < lim) (hnl : (fl[j]).requests.length ≤ 1000000) (hil : is.length ≤ 500000) (hj4 : j ≤ 10)
    (hrow2 : Row wr Q 3 1 ao2 (fl[j]).requests.length cap2 (encI (fl[j]).requests)) :
    Calls Tryz.prog 70 #[.pointer (some ⟨wb, 0, none⟩), cmdV (fl[j]).write (fl[j]).page (fl[j]).count (us[j]).1 (fl[j]).requests.length (us[j]).2, cmdV (fl[j]).write (fl[j]).page (fl[j]).count ao2 (fl[j]).requests.length cap2] wr fun e w' => e = .returned (.bool true) ∧ FlInv W w' FW us wb qs bs is (j + 1) := by
  obtain ⟨FW', is', hW, hl, hc, hFW, hK⟩ := h
  have h0 := hF.ins j hj hv
  have hP : Row wr (here us j) 3 1 (us[j]).1 (fl[j]).requests.length (us[j]).2 (encI (fl[j]).requests) := by
    refine ⟨(h0.same fun a ha => ?_).1, fun a ha => ⟨hv, a, ha, rfl⟩⟩
    obtain ⟨h1, ⟨cs, h2⟩, h3⟩ := hF.hereAt (j := j) ⟨hv, a, ha, rfl⟩
    exact hK.block _ (lt_of_heap h2) (fun e => e.elim (fun e => by have := hlim _ e; omega) h3)
  have hz := hK.size
  refine (law_command hW hP hrow2 rfl hnl (fun k hk hh => ?_) (by omega) hc).mono ?_
  · obtain ⟨h1, ⟨cs, h2⟩, h3⟩ := hF.hereAt hh
    rcases hFW k hk with e | e | e
    · have := hlim k e; omega
    · exact h3 e
    · have := lt_of_heap h2; omega
  · rintro e w' ⟨rfl, w3, FW2, G, is2, hb, hW2, hK2, hG, hFW2, hl2, hc2⟩
    have hzb := hb.size
    refine ⟨rfl, FW2, is2, hW2, by omega, hc2, fun k hk => ?_, ?_⟩
    · rcases hFW2 k hk with e | e | e
      · rcases hFW k e with e | e | e
        · exact Or.inl e
        · exact Or.inr (Or.inl (gone_succ.2 (Or.inl e)))
        · exact Or.inr (Or.inr e)
      · exact Or.inr (Or.inl (gone_succ.2 (Or.inr e)))
      · exact Or.inr (Or.inr (by omega))
    · have k1 : Kept (fun k => FW k ∨ gone us (j + 1) k) W wr := hK.mono fun k _ e => e.elim Or.inl (fun e => Or.inr (gone_succ.2 (Or.inl e)))
      refine (k1.below hb).trans (hK2.mono fun k _ e => ?_)
      rcases hG k e with e | e
      · rcases hFW k e with e | e | e
        · exact Or.inl (Or.inl e)
        · exact Or.inl (Or.inr (gone_succ.2 (Or.inl e)))
        · exact Or.inr e
      · exact Or.inl (Or.inr (gone_succ.2 (Or.inr e)))
theorem FlInv.drew {W wr : World} {FW : Nat → Prop} {us : List (Option Addr × Nat)} {wb : Nat} {qs : List (Nat × Nat)} {bs is : List (Option Addr × Nat)} {j : Nat} (h : FlInv W wr FW us wb qs bs is j) : FlInv W wr.drew FW us wb qs bs is j := by
  obtain ⟨FW', is', hW, hl, hc, hFW, hK⟩ := h
  exact ⟨FW', is', hW.same (fun _ _ _ => rfl) (Nat.le_refl _), hl, hc, hFW, hK.drew⟩
/-- nothing of the law's world, nor of its queues, has turned -/
theorem AllAt.other {w w' : World} {wb : Nat} {FW G : Nat → Prop} {ps : List PQ} {bs is : List (Option Addr × Nat)} {B N : Nat} (h : AllAt w wb FW ps bs is B N) (hK : Kept G w w') (h1 : ∀ k, G k → ¬ FW k) (h2 : ∀ i (hi : i < ps.length), ∀ k, G k → ¬ (ps[i]).F k) (h3 : ∀ k, G k → B ≤ k) : AllAt w' wb FW ps bs is B N ∧ Below B w w' := by
  have hb : Below B w w' := hK.toBelow h3 h.low
  exact ⟨⟨h.wat.kept hK (fun k hk e => h1 k e hk), fun i hi => (h.pair i hi).kept hK (fun k hk e => h2 i hi k e hk), h.apW, h.apP, h.geW, h.geP, h.gcell hb, h.pos, Nat.le_trans h.low hK.size, h.lens, h.st, h.caps⟩, hb⟩
set_option maxHeartbeats 4000000 in
set_option maxRecDepth 1000000 in
theorem law_flown (wb B N : Nat) (FW : Nat → Prop) (ps : List PQ) (bs is : List (Option Addr × Nat)) (i : Nat) (w : World) (h : AllAt w wb FW ps bs is B N) (hi : i < ps.length) (hN : N ≤ 100000) :
    Calls Tryz.prog 45 #[.pointer (some ⟨wb, 0, none⟩), .agg #[.pointer (some ⟨(ps[i]).x, 0, none⟩), .pointer (some ⟨(ps[i]).m, 0, none⟩)]] w fun e w' => Steps w wb B N e w' := by
  have HA := hide h
  have hpair := h.pair i hi
  have hlast := (h.st i hi).1
  have hltW := h.wat.lt
  have hlow := h.low
  have HAPF : Hid (∀ k, FW k → ¬ (ps[i]).F k) := h.apW i hi
  have HPL : Hid (∀ j (hj : j < ps.length), ∀ k, (ps[j]).F k → k < w.heap.size) := fun j hj => (h.pair j hj).lt
  clear h
  generalize (ps[i]).x = x at *
  generalize (ps[i]).m = m at *
  generalize (ps[i]).S = S at *
  generalize hFF : (ps[i]).F = F at *
  have hwf := hpair.wf
  obtain ⟨Fx, Fm, hP, hM, hd, hF⟩ := hpair
  have HML : Hid (∀ k, Fm k → k < w.heap.size) := hM.lt
  have HMW : Hid (∀ k, Fm k → ¬ FW k) := fun k hk e => HAPF.out k e ((hF k).2 (Or.inr hk))
  have hb0 := hide (alloc_below w (.cells #[.pointer (some ⟨x, 0, none⟩), .pointer (some ⟨m, 0, none⟩)] 99))
  have HP := hide (hP.below hb0.out)
  have HM := hide (hM.below hb0.out)
  have HO := hide (heap_alloc_new w (.cells #[.pointer (some ⟨x, 0, none⟩), .pointer (some ⟨m, 0, none⟩)] 99))
  have hsz : (w.alloc (.cells #[.pointer (some ⟨x, 0, none⟩), .pointer (some ⟨m, 0, none⟩)] 99)).heap.size = w.heap.size + 1 := by simp
  have HLEN : Hid (∀ j (hj : j < S.flights.length), (S.flights[j]).requests.length ≤ 1000000) := fun j hj => flight_len hwf hj (by omega)
  have hf4 : S.flights.length ≤ 4 := by have := hwf.flLen; have := hwf.depth; omega
  clear hP hM hd hF hFF
  go_enter Tryz.func45, Tryz.ntmps45
  go_wp2_with fail
  refine (prog_flights S Fx x _ HP.out (by omega)).mono ?_
  rintro e w1 ⟨⟨ao, n, cap, us, rfl, hfl⟩, hb1⟩
  have HFL := hide hfl
  have hz1 : w.heap.size < w1.heap.size := by have := hb1.size; omega
  obtain ⟨_, p1, _⟩ := cells2 ((hb1.block w.heap.size (by omega)).trans HO.out)
  have HB1 := hide (hb0.out.trans (hb1.mono (by omega)))
  have HM1 := hide (HM.out.below hb1)
  have hn : n = S.flights.length := hfl.cnt
  subst hn
  rw [hsz] at hfl
  have HFO := hide hfl
  clear hb1 hfl HFL
  go_wp2_with fail
  refine (ref_flights S Fm m w1 HM1.out).mono ?_
  rintro e w2 ⟨⟨af, cf, vs, rfl, hvl, hRf, hins⟩, hw2⟩
  have hw2 := hw2.symm
  subst hw2
  have HRF := hide hRf
  have HINS := hide hins
  have HVL := hide hvl
  have HI0 : Hid (FlInv w1 w1 FW us wb (ps.map fun p => (p.x, p.m)) bs is 0) := ⟨FW, is, (HA.out.below HB1.out).wat, rfl, HA.out.caps.2, fun k hk => Or.inl hk, Kept.refl _ _⟩
  have hee : ((S.flights.length : Int) != (S.flights.length : Int)) = false := by simp
  clear hRf hins hvl
  go_wp2
  go_loopw [7, 8] (fun vi _ wr => ∃ j : Nat, j ≤ S.flights.length ∧ vi = .int .i64 j ∧ Hid (FlInv w1 wr FW us wb (ps.map fun p => (p.x, p.m)) bs is j)) (fun vi _ _ => S.flights.length - (intOf vi).toNat)
  case atStart => exact ⟨0, Nat.zero_le _, rfl, HI0.out⟩
  case round =>
    obtain ⟨j, hj, rfl, HI⟩ := hrel
    have hgK := HI.out
    obtain ⟨FW1, is1, _, _, _, _, hK1⟩ := hgK
    have HK1 := hide hK1
    clear hK1
    have hAO : ∀ a, ao = some a → ¬ (FW a.block ∨ gone us j a.block) := fun a ha e => by
      have h1 := HFO.out.row.2 a ha
      rcases e with e | e
      · have := hltW _ e; omega
      · obtain ⟨_, cs, hcs⟩ := HFO.out.goneAt e
        exact (HFO.out.row.ne hcs (by decide)) a ha rfl
    have HRL : Hid (Row wr (fun b => w.heap.size + 1 ≤ b) 44 4 ao S.flights.length cap ((S.flights.zip us).flatMap encC)) := HFO.out.row.same fun a ha => by
      obtain ⟨cu, hcu, _⟩ := HFO.out.row.block ha
      exact HK1.out.block _ (lt_of_heap hcu) (hAO a ha)
    have HFM : Hid (∀ k, Fm k → ¬ (FW k ∨ gone us j k)) := fun k hk e => by
      rcases e with e | e
      · exact HMW.out k hk e
      · have := (HFO.out.goneAt e).1; have := HML.out k hk; omega
    have HRM : Hid (Row wr Fm 44 4 af S.flights.length cf ((S.flights.zip vs).flatMap encC)) := HRF.out.same fun a ha => by
      obtain ⟨cu, hcu, _⟩ := HRF.out.block ha
      exact HK1.out.block _ (lt_of_heap hcu) (HFM.out _ (HRF.out.2 a ha))
    by_cases hlt : j < S.flights.length
    · have hji : (j : Int) < (S.flights.length : Int) := by omega
      have hju : j < us.length := by rw [HFO.out.len]; exact hlt
      have hjv : j < vs.length := by rw [HVL.out]; exact hlt
      have hju2 : j < (S.flights.zip us).length := by rw [List.length_zip, HFO.out.len]; omega
      have hjv2 : j < (S.flights.zip vs).length := by rw [List.length_zip, HVL.out]; omega
      obtain ⟨ga, cua, hga, _, hgab, _, _⟩ := Row.some HRL.out (by omega)
      obtain ⟨gm, cum, hgm, _, hgmb, _, _⟩ := Row.some HRM.out (by omega)
      subst hga hgm
      have hL : ∀ t, t < 4 → wr.cell? ⟨ga, j * 4 + t, none⟩ = (encC (S.flights[j], us[j]))[t]? := fun t ht => by
        rw [Row.cellAt HRL.out (j * 4 + t) (by omega), encC_at _ j t hju2 ht]; simp
      have hM : ∀ t, t < 4 → wr.cell? ⟨gm, j * 4 + t, none⟩ = (encC (S.flights[j], vs[j]))[t]? := fun t ht => by
        rw [Row.cellAt HRM.out (j * 4 + t) (by omega), encC_at _ j t hjv2 ht]; simp
      have HMI : Hid (Row wr Fm 3 1 (vs[j]).1 (S.flights[j]).requests.length (vs[j]).2 (encI (S.flights[j]).requests)) := by
        have h1 := HINS.out j hlt hjv
        exact h1.same fun a ha => by
          obtain ⟨cu, hcu, _⟩ := h1.block ha
          exact HK1.out.block _ (lt_of_heap hcu) (HFM.out _ (h1.2 a ha))
      have HCMD := hide ((HI.out.drew).step HFO.out hlt hju (fun k hk => by have := hltW k hk; omega) (HLEN.out j hlt) (by have := HA.out.lens; omega) (by omega) (HMI.out.same (w' := wr.drew) (fun _ _ => rfl)))
      -- the cells, as they lie behind the call too
      have HSTAY : Hid (∀ w4, FlInv w1 w4 FW us wb (ps.map fun p => (p.x, p.m)) bs is (j + 1) → w4.heap[ga]? = wr.heap[ga]? ∧ w4.heap[gm]? = wr.heap[gm]?) := fun w4 hI4 => by
        obtain ⟨_, _, _, _, _, _, hK4⟩ := hI4
        refine ⟨?_, ?_⟩
        · obtain ⟨cu, hcu, _⟩ := HFO.out.row.block rfl
          have e1 := hK4.block ga (lt_of_heap hcu) (fun e => by
            rcases e with e | e
            · have h9 : w.heap.size + 1 ≤ ga := HFO.out.row.2 _ rfl
              have := hltW _ e; omega
            · obtain ⟨_, cs, hcs⟩ := HFO.out.goneAt e
              exact (HFO.out.row.ne hcs (by decide)) _ rfl rfl)
          have e2 := HK1.out.block ga (lt_of_heap hcu) (hAO _ rfl)
          exact e1.trans e2.symm
        · obtain ⟨cu, hcu, _⟩ := HRF.out.block rfl
          have hFmg : Fm gm := HRF.out.2 _ rfl
          have e1 := hK4.block gm (lt_of_heap hcu) (fun e => by
            rcases e with e | e
            · exact HMW.out _ hFmg e
            · have := (HFO.out.goneAt e).1; have := HML.out _ hFmg; omega)
          have e2 := HK1.out.block gm (lt_of_heap hcu) (HFM.out _ hFmg)
          exact e1.trans e2.symm
      unfold cmdV at HCMD
      generalize S.flights[j] = cm at *
      generalize us[j] = u at *
      generalize vs[j] = v at *
      obtain ⟨ua, uc⟩ := u
      obtain ⟨va, vc⟩ := v
      have l0 : wr.cell? ⟨ga, j * 4, none⟩ = some (.bool cm.write) := hL 0 (by omega)
      have l1 : wr.cell? ⟨ga, j * 4 + 1, none⟩ = some (.int .i64 cm.page) := hL 1 (by omega)
      have l2 : wr.cell? ⟨ga, j * 4 + 2, none⟩ = some (.int .i64 cm.count) := hL 2 (by omega)
      have l3 : wr.cell? ⟨ga, j * 4 + 3, none⟩ = some (.slice ua cm.requests.length uc) := hL 3 (by omega)
      have m0 : wr.cell? ⟨gm, j * 4, none⟩ = some (.bool cm.write) := hM 0 (by omega)
      have m1 : wr.cell? ⟨gm, j * 4 + 1, none⟩ = some (.int .i64 cm.page) := hM 1 (by omega)
      have m2 : wr.cell? ⟨gm, j * 4 + 2, none⟩ = some (.int .i64 cm.count) := hM 2 (by omega)
      have m3 : wr.cell? ⟨gm, j * 4 + 3, none⟩ = some (.slice va cm.requests.length vc) := hM 3 (by omega)
      clear hL hM HRL HRM HMI hgab hgmb hAO HFM HK1
      go_wp2_with fail
      go_region_held3 (fun W => (W.cell? ⟨ga, j * 4, none⟩ = some (.bool cm.write) ∧ W.cell? ⟨ga, j * 4 + 1, none⟩ = some (.int .i64 cm.page) ∧ W.cell? ⟨ga, j * 4 + 2, none⟩ = some (.int .i64 cm.count) ∧ W.cell? ⟨ga, j * 4 + 3, none⟩ = some (.slice ua cm.requests.length uc)) ∧ (W.cell? ⟨gm, j * 4, none⟩ = some (.bool cm.write) ∧ W.cell? ⟨gm, j * 4 + 1, none⟩ = some (.int .i64 cm.page) ∧ W.cell? ⟨gm, j * 4 + 2, none⟩ = some (.int .i64 cm.count) ∧ W.cell? ⟨gm, j * 4 + 3, none⟩ = some (.slice va cm.requests.length vc))) (go_keep)
        (first | (go_at_call 70; refine HCMD.out.mono ?_; rintro e w4 ⟨rfl, hI4⟩; obtain ⟨s1, s2⟩ := HSTAY.out w4 hI4; have HI4 := hide hI4; have l0' := (World.cell?_of_block (a := ⟨ga, j * 4, none⟩) s1).trans l0; have l1' := (World.cell?_of_block (a := ⟨ga, j * 4 + 1, none⟩) s1).trans l1; have l2' := (World.cell?_of_block (a := ⟨ga, j * 4 + 2, none⟩) s1).trans l2; have l3' := (World.cell?_of_block (a := ⟨ga, j * 4 + 3, none⟩) s1).trans l3; have m0' := (World.cell?_of_block (a := ⟨gm, j * 4, none⟩) s2).trans m0; have m1' := (World.cell?_of_block (a := ⟨gm, j * 4 + 1, none⟩) s2).trans m1; have m2' := (World.cell?_of_block (a := ⟨gm, j * 4 + 2, none⟩) s2).trans m2; have m3' := (World.cell?_of_block (a := ⟨gm, j * 4 + 3, none⟩) s2).trans m3; clear hI4 s1 s2))
      all_goals go_wp2
      all_goals go_roundw
      case rel => exact ⟨j + 1, by omega, by go_num, HI4.out⟩
      case measure => simp [intOf]; omega
    · have hje : j = S.flights.length := by omega
      have HAL : Hid (∃ FW' is', AllAt wr wb FW' ps bs is' B (N + 1) ∧ Below B w wr ∧ ∀ k, FW' k → FW k ∨ gone us j k ∨ w1.heap.size ≤ k) := by
        obtain ⟨FW', is', hW, hl, hc, hFW, hK⟩ := HI.out
        obtain ⟨r1, r2⟩ := (HA.out.below HB1.out).wOpG (P := gone us j) (M := N + 1) (Nat.le_succ N) (Below.refl _ _) hW hK (fun k hk => hk) hFW (fun k hk => by have := (HFO.out.goneAt hk).1; omega) (fun j' hj' k hk e => by have := (HFO.out.goneAt hk).1; have := HPL.out j' hj' k e; omega) (by have := HA.out.lens; omega) ⟨HA.out.caps.1, hc⟩
        exact ⟨FW', is', r1, (HB1.out.mono hlow).trans r2, hFW⟩
      obtain ⟨FW2, is2, hAL, hBL, hFL⟩ := HAL.out
      have HAL2 := hide hAL
      have HBL2 := hide hBL
      have HFIN : Hid (∀ (G : Nat → Prop) (w5 : World), Kept G wr w5 → (∀ k, G k → ∃ a, ao = some a ∧ a.block = k) → Steps w wb B N (.returned (.bool true)) w5) := fun G w5 hK5 hG5 => by
        have hge : ∀ k, G k → w.heap.size + 1 ≤ k ∧ k < w1.heap.size := fun k hk => by
          obtain ⟨a, ha, rfl⟩ := hG5 k hk
          obtain ⟨cu, hcu, _⟩ := HFO.out.row.block ha
          exact ⟨HFO.out.row.2 a ha, lt_of_heap hcu⟩
        obtain ⟨r1, r2⟩ := HAL2.out.other hK5 (fun k hk e => by
          have h1 := hge k hk
          rcases hFL k e with e | e | e
          · have := hltW k e; omega
          · obtain ⟨a, ha, rfl⟩ := hG5 k hk
            exact hAO a ha (Or.inr e)
          · omega) (fun j' hj' k hk e => by have := hge k hk; have := HPL.out j' hj' k e; omega) (fun k hk => by have := hge k hk; omega)
        exact ⟨rfl, ⟨_, _, _, _, r1⟩, HBL2.out.trans r2⟩
      clear hAL hBL hFL HAL HI HK1 hAO HFM HRM
      have hrl := HRL.out
      rcases hrl.1.2 with ⟨h0, h00⟩ | ⟨ga, cap', cur, hv, _, hh, h1, h2, h3, _⟩
      · simp only [Value.slice.injEq] at h0
        obtain ⟨rfl, hfl0, rfl⟩ := h0
        clear hrl
        go_wp2
        go_loop [10] (fun vi => vi = .int .i64 0) (fun _ => 0)
        case atStart => rfl
        case round =>
          subst hrel
          go_wp2
          go_ret
          exact HFIN.out (fun _ => False) wr (Kept.refl _ _) (fun k hk => hk.elim)
      · simp only [Value.slice.injEq] at hv
        obtain ⟨rfl, _, rfl⟩ := hv
        clear hrl
        have HHH := hide hh
        have h3' : cur.size = cap * 4 := h3
        have hcm : cap ≤ maxLen := h2
        unfold maxLen at hcm
        obtain ⟨w5, hw5⟩ : ∃ w5, w5 = wr := ⟨_, rfl⟩
        subst hw5
        go_wp2
        go_loopw [10] (fun vi wx => ∃ t : Nat, t ≤ cap ∧ vi = .int .i64 t ∧ Hid (∃ cu : Array Value, wx.heap[ga]? = some (.cells cu 44 (0, 0)) ∧ cu.size = cap * 4) ∧ Hid (Kept (fun k => k = ga) w5 wx)) (fun vi _ => cap - (intOf vi).toNat)
        case atStart => exact ⟨0, Nat.zero_le _, rfl, ⟨cur, HHH.out, h3'⟩, Kept.refl _ _⟩
        case round =>
          obtain ⟨t, ht, rfl, hcu, hKx⟩ := hrel
          by_cases htl : t < cap
          · obtain ⟨cu, hcu1, hcu2⟩ := hcu.out
            have hti : (t : Int) < (cap : Int) := by omega
            have hy : ∀ s, s < 4 → ∃ v, wr.cell? ⟨ga, t * 4 + s, none⟩ = some v := fun s hs => ⟨cu[t * 4 + s]'(by omega), by simp [World.cell?, hcu1]⟩
            obtain ⟨v0, y0⟩ := hy 0 (by omega)
            replace y0 : wr.cell? ⟨ga, t * 4, none⟩ = some v0 := y0
            obtain ⟨v1, y1⟩ := hy 1 (by omega)
            obtain ⟨v2, y2⟩ := hy 2 (by omega)
            obtain ⟨v3, y3⟩ := hy 3 (by omega)
            have hz : ∀ s, wr.frozen? ⟨ga, s, none⟩ = false := fun s => by simp [World.frozen?, hcu1]
            have z0 := hz (t * 4)
            have z1 := hz (t * 4 + 1)
            have z2 := hz (t * 4 + 2)
            have z3 := hz (t * 4 + 3)
            have HNX : Hid ((∃ cu : Array Value, ((((wr.setCell ⟨ga, t * 4, none⟩ (.bool false)).setCell ⟨ga, t * 4 + 1, none⟩ (.int .i64 77)).setCell ⟨ga, t * 4 + 2, none⟩ (.int .i64 0)).setCell ⟨ga, t * 4 + 3, none⟩ (.slice none 0 0)).heap[ga]? = some (.cells cu 44 (0, 0)) ∧ cu.size = cap * 4) ∧ Kept (fun k => k = ga) w5 ((((wr.setCell ⟨ga, t * 4, none⟩ (.bool false)).setCell ⟨ga, t * 4 + 1, none⟩ (.int .i64 77)).setCell ⟨ga, t * 4 + 2, none⟩ (.int .i64 0)).setCell ⟨ga, t * 4 + 3, none⟩ (.slice none 0 0))) := by
              refine ⟨⟨_, heap_setCell_at (heap_setCell_at (heap_setCell_at (heap_setCell_at hcu1 _) _) _) _, by simpa using hcu2⟩, ?_⟩
              have hE : ∀ s, Ext (fun k => k = ga) w5 (⟨ga, s, none⟩ : Addr).block := fun s => Or.inl rfl
              exact (((hKx.out.setCell (hE _) _).setCell (hE _) _).setCell (hE _) _).setCell (hE _) _
            clear hy hz hcu1 hcu2 hcu
            go_wp2
            go_roundw
            case rel => exact ⟨t + 1, by omega, by go_num, HNX.out.1, HNX.out.2⟩
            case measure => simp [intOf]; omega
          · go_wp2
            go_ret
            exact HFIN.out (fun k => k = ga) _ hKx.out (fun k hk => ⟨⟨ga, 0, none⟩, rfl, hk.symm⟩)
end Go.Proofs.YtiabdbeejkadnaaGreatDoor

/- Stage 3: Crash as a plain function on the document's state. Own work of the verifier. -/
namespace Go.Proofs.YtiabdbeejkadnaaGreatDoor

def encO (l : List Bool) : List Value := l.map Value.bool
def keptAt (K : List Bool) (i : Nat) : Bool := K.getD i false
/-- the writes under way, as their commands were sent -/
def wrNums (fl : List Cmd) : List Int := (fl.filter (·.write)).flatMap (·.requests)
def rqOf (S : St) (n : Int) : Rq := S.reqs.getD ((findR S.reqs n).getD 0) Rq.zero
def putR (S : St) (D : List UInt8) (n : Int) : List UInt8 := putM D (4 * (rqOf S n).page).toNat (rqOf S n).data.data.toList
/-- the disk behind those of ns, the first of them at place i of what is kept -/
def crashD (S : St) (K : List Bool) : List Int → Nat → List UInt8 → List UInt8
  | [], _, D => D
  | n :: ns, i, D => crashD S K ns (i + 1) (if keptAt K i then putR S D n else D)
def sD (S : St) (D : List UInt8) : St := { S with disk := D }
def crashM (S : St) (K : List Bool) : St := { S with reqs := [], told := [], flights := [], head := 0, disk := crashD S K (wrNums S.flights) 0 S.disk }
theorem crashD_append (S : St) (K : List Bool) (a b : List Int) (i : Nat) (D : List UInt8) : crashD S K (a ++ b) i D = crashD S K b (i + a.length) (crashD S K a i D) := by
  induction a generalizing i D with
  | nil => simp [crashD]
  | cons n a ih => simp only [List.cons_append, crashD, ih, List.length_cons]; congr 1; omega
theorem crashD_len (S : St) (K : List Bool) (ns : List Int) (i : Nat) (D : List UInt8) : (crashD S K ns i D).length = D.length := by
  induction ns generalizing i D with
  | nil => rfl
  | cons n ns ih =>
    simp only [crashD]
    rw [ih]
    split
    · simp [putR, putM_len]
    · rfl
theorem crashD_snoc (S : St) (K : List Bool) (a : List Int) (n : Int) (D : List UInt8) : crashD S K (a ++ [n]) 0 D = if keptAt K a.length then putR S (crashD S K a 0 D) n else crashD S K a 0 D := by
  rw [crashD_append]; simp [crashD]
theorem wrNums_write (fl : List Cmd) (c : Cmd) (h : c.write = true) : wrNums (fl ++ [c]) = wrNums fl ++ c.requests := by
  unfold wrNums; rw [List.filter_append]; simp [h]
theorem wrNums_read (fl : List Cmd) (c : Cmd) (h : c.write = false) : wrNums (fl ++ [c]) = wrNums fl := by
  unfold wrNums; rw [List.filter_append]; simp [h]
theorem rqOf_found {S : St} {n : Int} {k : Nat} (hk : k < S.reqs.length) (hf : findR S.reqs n = some k) : rqOf S n = S.reqs[k] := by
  unfold rqOf; rw [hf]; simp [hk]
theorem Wf.crash {S : St} (h : Wf S) (K : List Bool) : Wf (crashM S K) where
  depth := h.depth
  last := h.last
  now := h.now
  head := ⟨Int.le_refl 0, by show (0 : Int) ≤ 16; decide⟩
  disk := by show (crashD S K _ 0 S.disk).length = 64; rw [crashD_len]; exact h.disk
  sorted := List.Pairwise.nil
  rq := fun r hr => by cases hr
  airIn := fun n hn => by simp [airs, crashM] at hn
  nodup := by simp [airs, crashM]
  toldIn := fun n hn => by cases hn
  toldNd := List.nodup_nil
  len := by simp [crashM]
  flLen := by show (0 : Int) ≤ S.depth; have := h.depth; omega
  fl := fun c hc => by cases hc
theorem wrNums_len {S : St} {E : List Int} (h : WfE S E) : (wrNums S.flights).length ≤ S.reqs.length := by
  have h1 : (wrNums S.flights).length ≤ (airs S).length := by
    unfold wrNums airs
    generalize S.flights = l
    induction l with
    | nil => simp
    | cons c l ih =>
      rw [List.filter_cons]
      split
      · simp only [List.flatMap_cons, List.length_append]; omega
      · simp only [List.flatMap_cons, List.length_append]; omega
  have h2 := h.airLen
  rw [List.length_append] at h2
  omega
end Go.Proofs.YtiabdbeejkadnaaGreatDoor

/- The law: bits, still. Own work of the verifier. -/
namespace Go.Proofs.YtiabdbeejkadnaaGreatDoor
open Go.RowKit Go.Maps

theorem info_bool : (Tryz.prog.info? 4).map (fun i => (i.zero, i.size, i.bytes)) = some (some (.bool false), 1, 1) := by kernel_rfl
def bitB (b : UInt8) : Bool := (b.toNat : Int) % 2 == 1
def bitsM (s : ByteArray) : List Bool := s.data.toList.map bitB
theorem bitsM_len (s : ByteArray) : (bitsM s).length = s.size := by
  show (s.data.toList.map bitB).length = s.data.size
  rw [List.length_map, Array.length_toList]
theorem bitsM_at (s : ByteArray) {j : Nat} (h : j < s.size) : (bitsM s)[j]? = some (bitB s[j]) := by
  have h' : j < s.data.size := h
  simp [bitsM]
  exact ⟨_, Array.getElem?_eq_getElem h', rfl⟩
theorem bits_take {s : ByteArray} {j : Nat} (h : j < s.size) : (bitsM s).take (j + 1) = (bitsM s).take j ++ [bitB s[j]] := by
  have h1 : j < (bitsM s).length := by rw [bitsM_len]; exact h
  rw [List.take_succ_eq_append_getElem h1]
  have := bitsM_at s h
  rw [List.getElem?_eq_getElem h1] at this
  simp at this
  rw [this]
set_option maxHeartbeats 1000000 in
set_option maxRecDepth 1000000 in
theorem law_bits (s : ByteArray) (w : World) (hs : s.size ≤ 1000000) :
    Calls Tryz.prog 79 #[.string s] w fun e w' => (∃ ao n cap, e = .returned (.slice ao n cap) ∧ n = s.size ∧ Row w' (fun b => w.heap.size ≤ b) 4 1 ao n cap (encO (bitsM s))) ∧ Below w.heap.size w w' := by
  obtain ⟨i0, hi, hi0, hi1, hi2⟩ := info_parts info_bool
  go_enter Tryz.func79, Tryz.ntmps79
  go_wp2
  go_loopw [3, 4] (fun l i wr => ∃ (j cap : Nat) (ao : Option Addr), j ≤ s.size ∧ i = .int .i64 j ∧ l = .slice ao j cap ∧ Hid (Row wr (fun b => w.heap.size ≤ b) 4 1 ao j cap (encO ((bitsM s).take j))) ∧ Hid (Below w.heap.size w wr)) (fun _ i _ => s.size - (intOf i).toNat)
  case atStart => exact ⟨0, 0, none, Nat.zero_le _, rfl, rfl, Row.nil _ _ _ _, Below.refl _ _⟩
  case round =>
    obtain ⟨j, cap, ao, hj, rfl, rfl, hrow, hb⟩ := hrel
    by_cases hlt : j < s.size
    · have hji : (j : Int) < (s.size : Int) := by omega
      have HTK := hide (bits_take hlt)
      have HO : Hid ((wr.alloc (.cells #[.bool (bitB s[j])] 4)).ownsRow 0 4 1 (.slice ao j cap) j (encO ((bitsM s).take j))) := (hrow.out.alloc _).1
      have HW : Hid (∀ (t : Nat) (u : Value), [Value.bool (bitB s[j])][t]? = some u → (wr.alloc (.cells #[.bool (bitB s[j])] 4)).cell? ((⟨wr.heap.size, 0, none⟩ : Addr).add t) = some u) := fun t u => news_new t u
      go_wp2_with (at_builtin; go_must (refine wpList_append_lies _ rfl (.tmp 11) (.tmp 17) 65 rfl 0 4 i0 (.bool false) 1 1 Tryz.underlying65 hi hi0 hi1 hi2 rfl (by decide) (.slice ao j cap) j (encO ((bitsM s).take j)) rfl HO.out ⟨wr.heap.size, 0, none⟩ 1 1 [Value.bool (bitB s[j])] rfl rfl HW.out (by intro u hu; simp at hu; subst hu; rfl) (by decide) (by unfold maxLen; omega) (by omega) (Nat.zero_le _) (wr.heap.size + 1) (by simp) ?_; intro g cap' w2 hown hgrow hat hlt3; have HX := hide (own_rel hb.out hrow.out hgrow hown hat); clear hown hgrow hat hlt3))
      go_roundw
      case rel => exact ⟨j + 1, cap', some ⟨g, 0, none⟩, by omega, by go_num, rfl, by rw [HTK.out]; simpa [Hid, encO] using HX.out.2, HX.out.1⟩
      case measure => simp [intOf]; omega
    · have hjs : j = s.size := by omega
      have htk : (bitsM s).take j = bitsM s := List.take_of_length_le (by rw [bitsM_len]; omega)
      rw [htk] at hrow
      have HJS := hide hjs
      clear htk hjs
      go_wp2
      go_ret
      exact ⟨⟨ao, j, cap, rfl, HJS.out, hrow.out⟩, hb.out⟩
set_option maxHeartbeats 1000000 in
set_option maxRecDepth 1000000 in
theorem law_still (s : ByteArray) (P : Nat → Prop) (ao : Option Addr) (n cap : Nat) (w : World) (hrow : Row w P 4 1 ao n cap (encO (bitsM s))) (hn : n = s.size) (hs : s.size ≤ 1000000) :
    Calls Tryz.prog 81 #[.slice ao n cap, .string s] w fun e w' => e = .returned (.bool true) ∧ Below w.heap.size w w' := by
  subst hn
  have HR := hide hrow
  clear hrow
  go_enter Tryz.func81, Tryz.ntmps81
  go_wp2
  go_loopw [5] (fun i wr => ∃ j nd : Nat, j ≤ s.size ∧ i = .int .i64 j ∧ Hid (wr = w.drewN nd)) (fun i _ => s.size - (intOf i).toNat)
  case atStart => exact ⟨0, 0, Nat.zero_le _, rfl, rfl⟩
  case round =>
    obtain ⟨j, nd, hj, rfl, hwr⟩ := hrel
    by_cases hlt : j < s.size
    · have hji : (j : Int) < (s.size : Int) := by omega
      obtain ⟨g, cur, hg, _, _, _, _⟩ := Row.some HR.out (by omega)
      subst hg
      have ck : wr.cell? ⟨g, j, none⟩ = some (.bool (bitB s[j])) := by
        rw [hwr.out]
        show w.cell? ⟨g, j, none⟩ = _
        rw [Row.cellAt HR.out j (by omega)]
        unfold encO
        rw [List.getElem?_map, bitsM_at s hlt]; rfl
      unfold bitB at ck
      have e1 : (((s[j].toNat : Int) % 2 == 1) == ((s[j].toNat : Int) % 2 == 1)) = true := by simp
      have e2 : (((s[j].toNat : Int) % 2 == 1) != ((s[j].toNat : Int) % 2 == 1)) = false := by simp
      go_wp2
      go_quiet (fail)
      go_wp2
      go_roundw
      case rel => exact ⟨j + 1, nd + nq, by omega, by go_num, by rw [Hid, hwr.out]; simp [World.drewN, Nat.add_assoc]⟩
      case measure => simp [intOf]; omega
    · go_wp2
      go_ret
      exact ⟨rfl, by rw [hwr.out]; exact below_drewN (Below.refl _ _) nd⟩
end Go.Proofs.YtiabdbeejkadnaaGreatDoor

/- slices.DeleteFunc's contract at this dump (after the kit's lay-plain.mjs). -/
namespace Go.Proofs
open Go.Shelf
def Tryz.dlfF_ren : Go.Shelf.Ren := ⟨fun | 6 => 148 | 10 => 135 | n => n, fun | 22 => 81 | 23 => 92 | 25 => 154 | 3 => 3 | 0 => 0 | 4 => 4 | n => n, fun | n => n⟩
theorem Tryz.dlfF : Go.Proofs.SlLaysH.n10 Tryz.prog Tryz.dlfF_ren := {
  mixed := by kernel_rfl
  f6 := ⟨Tryz.f148.name, by decide, Tryz.func148.trans (congrArg some (by kernel_rfl))⟩
  f10 := ⟨Tryz.f135.name, by decide, Tryz.func135.trans (congrArg some (by kernel_rfl))⟩
  t0 := Tryz.underlying0
  a0 := Tryz.isAgg0
  z0 := Tryz.sizeOf0
  v0 := Tryz.zeroValue0
  t3 := Tryz.underlying3
  a3 := Tryz.isAgg3
  z3 := Tryz.sizeOf3
  v3 := Tryz.zeroValue3
  t4 := Tryz.underlying4
  a4 := Tryz.isAgg4
  z4 := Tryz.sizeOf4
  v4 := Tryz.zeroValue4
  t22 := Tryz.underlying81
  a22 := Tryz.isAgg81
  z22 := Tryz.sizeOf81
  v22 := Tryz.zeroValue81
  a23 := Tryz.isAgg92
  z23 := Tryz.sizeOf92
  t25 := Tryz.underlying154
  a25 := Tryz.isAgg154
  z25 := Tryz.sizeOf154
  v25 := Tryz.zeroValue154 }
end Go.Proofs
