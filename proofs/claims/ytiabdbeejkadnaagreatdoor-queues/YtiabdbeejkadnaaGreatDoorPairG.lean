/- The law: told (Waiting, Disk, none). Own work of the verifier. -/
import Derived.Test.YtiabdbeejkadnaaGreatDoorPairF
namespace Go.Proofs.YtiabdbeejkadnaaGreatDoor
open Go.RowKit Go.Maps

theorem waitM_len (S : St) : (waitM S).length ≤ S.reqs.length := by
  unfold waitM
  rw [List.length_map]
  exact List.length_filter_le _ _
/-- what is needed of a row of one's own to hand it to 'owned', 'mine' -/
theorem row_parts {w : World} {lim : Nat} {e : TypeId} {ao : Option Addr} {n cap : Nat} {xs : List Value} (h : Row w (fun b => lim ≤ b) e 1 ao n cap xs) : (ao = none ∧ n = 0 ∧ cap = 0) ∨ ∃ g cur, ao = some ⟨g, 0, none⟩ ∧ lim ≤ g ∧ w.heap[g]? = some (.cells cur e (0, 0)) ∧ cur.size = cap ∧ cap ≤ maxLen := by
  rcases h.1.2 with ⟨h0, _⟩ | ⟨g, cap', cur, hv, _, hh, h1, h2, h3, _⟩
  · cases h0; exact Or.inl ⟨rfl, rfl, rfl⟩
  · cases hv
    exact Or.inr ⟨g, cur, rfl, h.2 _ rfl, hh, by omega, h2⟩

theorem row_partsP {w : World} {P : Nat → Prop} {e : TypeId} {ao : Option Addr} {n cap : Nat} {xs : List Value} (h : Row w P e 1 ao n cap xs) : (ao = none ∧ n = 0 ∧ cap = 0) ∨ ∃ g cur, ao = some ⟨g, 0, none⟩ ∧ P g ∧ w.heap[g]? = some (.cells cur e (0, 0)) ∧ cur.size = cap ∧ cap ≤ maxLen := by
  rcases h.1.2 with ⟨h0, _⟩ | ⟨g, cap', cur, hv, _, hh, h1, h2, h3, _⟩
  · cases h0; exact Or.inl ⟨rfl, rfl, rfl⟩
  · cases hv
    exact Or.inr ⟨g, cur, rfl, h.2 _ rfl, hh, by omega, h2⟩
/-- 'owned', whatever the slice: P is where it lies -/
theorem law_owned_rowP {FW P : Nat → Prop} {wb : Nat} {qs : List (Nat × Nat)} {bs is : List (Option Addr × Nat)} {ao : Option Addr} {n cap : Nat} {xs : List Value} {w : World} (h : WAt w FW wb qs bs is) (hrow : Row w P 3 1 ao n cap xs) (hF : ∀ k, FW k → ¬ P k) (hl : is.length ≤ 1000000) (hc : ∀ x ∈ is, x.2 ≤ maxLen) :
    Calls Tryz.prog 74 #[.pointer (some ⟨wb, 0, none⟩), .slice ao n cap] w fun e w' => e = .returned (.tuple #[]) ∧ ∃ FW' G is', WAt w' FW' wb qs bs is' ∧ Kept G w w' ∧ (∀ k, G k → FW k ∨ P k) ∧ (∀ k, FW' k → FW k ∨ P k ∨ w.heap.size ≤ k) ∧ is'.length = is.length + 1 ∧ ∀ x ∈ is', x.2 ≤ maxLen := by
  rcases row_partsP hrow with ⟨rfl, rfl, rfl⟩ | ⟨g, cur, rfl, hg, hh, hcs, hcm⟩
  · refine (law_owned_nil FW wb qs bs is w h hl).mono ?_
    rintro e w' ⟨rfl, hW, hK⟩
    refine ⟨rfl, _, _, _, hW, hK, fun k hk => Or.inl hk, fun k hk => hk.elim Or.inl (fun e => Or.inr (Or.inr e.1)), by simp, fun x hx => ?_⟩
    rw [List.mem_append, List.mem_singleton] at hx
    rcases hx with hx | rfl
    · exact hc x hx
    · exact Nat.zero_le _
  · refine (law_owned_some FW wb qs bs is g n cap cur w h hh hcs hcm (fun e => hF g e hg) hl).mono ?_
    rintro e w' ⟨rfl, hW, hK⟩
    refine ⟨rfl, _, _, _, hW, hK, fun k hk => hk.elim Or.inl (fun e => Or.inr (by rw [e]; exact hg)), fun k hk => hk.elim (fun e => e.elim Or.inl (fun e => Or.inr (Or.inl (by rw [e]; exact hg)))) (fun e => Or.inr (Or.inr e.1)), by simp, fun x hx => ?_⟩
    rw [List.mem_append, List.mem_singleton] at hx
    rcases hx with hx | rfl
    · exact hc x hx
    · exact hcm
/-- 'owned', whatever the slice -/
theorem law_owned_row {FW : Nat → Prop} {wb : Nat} {qs : List (Nat × Nat)} {bs is : List (Option Addr × Nat)} {ao : Option Addr} {n cap lim : Nat} {xs : List Value} {w : World} (h : WAt w FW wb qs bs is) (hrow : Row w (fun b => lim ≤ b) 3 1 ao n cap xs) (hF : ∀ k, FW k → k < lim) (hlim : lim ≤ w.heap.size) (hl : is.length ≤ 1000000) (hc : ∀ x ∈ is, x.2 ≤ maxLen) :
    Calls Tryz.prog 74 #[.pointer (some ⟨wb, 0, none⟩), .slice ao n cap] w fun e w' => e = .returned (.tuple #[]) ∧ ∃ FW' G is', WAt w' FW' wb qs bs is' ∧ Kept G w w' ∧ (∀ k, G k → FW k ∨ lim ≤ k) ∧ (∀ k, FW' k → FW k ∨ lim ≤ k) ∧ is'.length = is.length + 1 ∧ ∀ x ∈ is', x.2 ≤ maxLen := by
  refine (law_owned_rowP h hrow (fun k hk e => by have := hF k hk; omega) hl hc).mono ?_
  rintro e w' ⟨rfl, FW', G, l', h1, h2, h3, h4, h5⟩
  exact ⟨rfl, FW', G, l', h1, h2, h3, fun k hk => (h4 k hk).elim Or.inl (fun e => Or.inr (e.elim id (fun e => Nat.le_trans hlim e))), h5⟩
/-- 'mine', whatever the slice: P is where it lies -/
theorem law_mine_rowP {FW P : Nat → Prop} {wb : Nat} {qs : List (Nat × Nat)} {bs is : List (Option Addr × Nat)} {ao : Option Addr} {n cap : Nat} {xs : List Value} {w : World} (h : WAt w FW wb qs bs is) (hrow : Row w P 5 1 ao n cap xs) (hF : ∀ k, FW k → ¬ P k) (hl : bs.length ≤ 1000000) (hc : ∀ x ∈ bs, x.2 ≤ maxLen) :
    Calls Tryz.prog 67 #[.pointer (some ⟨wb, 0, none⟩), .slice ao n cap] w fun e w' => e = .returned (.tuple #[]) ∧ ∃ FW' G bs', WAt w' FW' wb qs bs' is ∧ Kept G w w' ∧ (∀ k, G k → FW k ∨ P k) ∧ (∀ k, FW' k → FW k ∨ P k ∨ w.heap.size ≤ k) ∧ bs'.length = bs.length + 1 ∧ ∀ x ∈ bs', x.2 ≤ maxLen := by
  rcases row_partsP hrow with ⟨rfl, rfl, rfl⟩ | ⟨g, cur, rfl, hg, hh, hcs, hcm⟩
  · refine (law_mine_nil FW wb qs bs is w h hl).mono ?_
    rintro e w' ⟨rfl, hW, hK⟩
    refine ⟨rfl, _, _, _, hW, hK, fun k hk => Or.inl hk, fun k hk => hk.elim Or.inl (fun e => Or.inr (Or.inr e.1)), by simp, fun x hx => ?_⟩
    rw [List.mem_append, List.mem_singleton] at hx
    rcases hx with hx | rfl
    · exact hc x hx
    · exact Nat.zero_le _
  · refine (law_mine_some FW wb qs bs is g n cap cur w h hh hcs hcm (fun e => hF g e hg) hl).mono ?_
    rintro e w' ⟨rfl, hW, hK⟩
    refine ⟨rfl, _, _, _, hW, hK, fun k hk => hk.elim Or.inl (fun e => Or.inr (by rw [e]; exact hg)), fun k hk => hk.elim (fun e => e.elim Or.inl (fun e => Or.inr (Or.inl (by rw [e]; exact hg)))) (fun e => Or.inr (Or.inr e.1)), by simp, fun x hx => ?_⟩
    rw [List.mem_append, List.mem_singleton] at hx
    rcases hx with hx | rfl
    · exact hc x hx
    · exact hcm
/-- 'mine', whatever the slice -/
theorem law_mine_row {FW : Nat → Prop} {wb : Nat} {qs : List (Nat × Nat)} {bs is : List (Option Addr × Nat)} {ao : Option Addr} {n cap lim : Nat} {xs : List Value} {w : World} (h : WAt w FW wb qs bs is) (hrow : Row w (fun b => lim ≤ b) 5 1 ao n cap xs) (hF : ∀ k, FW k → k < lim) (hlim : lim ≤ w.heap.size) (hl : bs.length ≤ 1000000) (hc : ∀ x ∈ bs, x.2 ≤ maxLen) :
    Calls Tryz.prog 67 #[.pointer (some ⟨wb, 0, none⟩), .slice ao n cap] w fun e w' => e = .returned (.tuple #[]) ∧ ∃ FW' G bs', WAt w' FW' wb qs bs' is ∧ Kept G w w' ∧ (∀ k, G k → FW k ∨ lim ≤ k) ∧ (∀ k, FW' k → FW k ∨ lim ≤ k) ∧ bs'.length = bs.length + 1 ∧ ∀ x ∈ bs', x.2 ≤ maxLen := by
  refine (law_mine_rowP h hrow (fun k hk e => by have := hF k hk; omega) hl hc).mono ?_
  rintro e w' ⟨rfl, FW', G, l', h1, h2, h3, h4, h5⟩
  exact ⟨rfl, FW', G, l', h1, h2, h3, fun k hk => (h4 k hk).elim Or.inl (fun e => Or.inr (e.elim id (fun e => Nat.le_trans hlim e))), h5⟩

set_option maxHeartbeats 1000000 in
set_option maxRecDepth 1000000 in
theorem law_told_waiting (wb B N : Nat) (FW : Nat → Prop) (ps : List PQ) (bs is : List (Option Addr × Nat)) (i : Nat) (a b c : Int) (s : ByteArray) (w : World) (h : AllAt w wb FW ps bs is B N) (hi : i < ps.length) (hN : N ≤ 100000) :
    Calls Tryz.prog 49 #[.pointer (some ⟨wb, 0, none⟩), .agg #[.pointer (some ⟨(ps[i]).x, 0, none⟩), .pointer (some ⟨(ps[i]).m, 0, none⟩)], opV 6 a b c s] w fun e w' => Steps w wb B N e w' := by
  unfold opV
  have HA := hide h
  have hpair := h.pair i hi
  have hlast := (h.st i hi).1
  clear h
  generalize (ps[i]).x = x at *
  generalize (ps[i]).m = m at *
  generalize (ps[i]).S = S at *
  generalize (ps[i]).F = F at *
  have hwf := hpair.wf
  obtain ⟨Fx, Fm, hP, hM, hd, hF⟩ := hpair
  have hb0 := hide (askW_below x m 6 a b c s w)
  have HP := hide (hP.below hb0.out)
  have HM := hide (hM.below hb0.out)
  have hsz := askW_size x m 6 a b c s w
  obtain ⟨p0, p1, _⟩ := cells2 (askW_p x m 6 a b c s w)
  have HO := hide (askW_p x m 6 a b c s w)
  clear hP hM hd hF
  go_enter Tryz.func49, Tryz.ntmps49
  go_wp2_with fail
  refine (prog_waiting S Fx x (askW x m 6 a b c s w) HP.out).mono ?_
  rintro e w1 ⟨ao, n, cap, rfl, hn, hrow, hb1⟩
  have hz1 : w.heap.size + 1 < w1.heap.size := by have := hb1.size; omega
  have hz1' : w.heap.size < w1.heap.size := by omega
  obtain ⟨_, p1, _⟩ := cells2 ((hb1.block w.heap.size (by omega)).trans HO.out)
  have HB1 := hide (hb0.out.trans (hb1.mono (by omega)))
  have HROW := hide hrow
  have HM1 := hide (HM.out.below hb1)
  have HNN := hide hn
  clear hb1 hrow hn
  go_wp2_with fail
  refine (ref_waiting S Fm m w1 HM1.out (by have := hwf.reqsLen; omega)).mono ?_
  rintro e w2 ⟨ao2, n2, cap2, rfl, hn2, hrow2, hb2⟩
  have e2 : n2 = n := by rw [hn2, HNN.out]
  subst e2
  have HB2 := hide hb2
  have HROW2 := hide hrow2
  have HROW1 : Hid (Row w2 (fun k => (askW x m 6 a b c s w).heap.size ≤ k) 3 1 ao n2 cap (encI (waitM S))) := HROW.out.same (fun a ha => by obtain ⟨c, hc, _⟩ := Row.block HROW.out ha; exact hb2.block _ (lt_of_heap hc))
  clear hrow2 hb2 hn2 HROW
  go_wp2_with fail
  refine (law_same (waitM S) _ _ ao ao2 n2 cap cap2 w2 HROW1.out HROW2.out HNN.out (by have := hwf.reqsLen; have := waitM_len S; have := HNN.out; omega)).mono ?_
  rintro e w3 ⟨rfl, nd, hw3⟩
  have HW3 := hide hw3
  clear hw3
  have HB3 : Hid (Below w.heap.size w w3) := by rw [HW3.out]; exact below_drewN (HB1.out.trans (HB2.out.mono (Nat.le_of_lt hz1'))) nd
  have HROW3 : Hid (Row w3 (fun k => w.heap.size ≤ k) 3 1 ao n2 cap (encI (waitM S))) := by
    rw [HW3.out]
    exact (HROW1.out.same (w' := w2.drewN nd) (fun _ _ => rfl)).mono (fun k hk => by omega)
  go_wp2_with fail
  refine (law_owned_row ((HA.out.below HB3.out).wat) HROW3.out HA.out.wat.lt HB3.out.size (by have := HA.out.lens; omega) HA.out.caps.2).mono ?_
  rintro e w4 ⟨rfl, FW', G, is', hW, hK, hG, hF', hl', hc'⟩
  have HX := hide (HA.out.wOp HB3.out hW hK hG hF' (by have := HA.out.lens; omega) ⟨HA.out.caps.1, hc'⟩)
  clear hW hK hG hF' hl' hc'
  go_wp2
  go_ret
  exact ⟨rfl, ⟨_, _, _, _, HX.out.1⟩, HX.out.2⟩
end Go.Proofs.YtiabdbeejkadnaaGreatDoor
