import Derived.Test.YtiabdbeejkadnaaGreatDoorJ25cab82b42
/- The law: opened. Own work of the verifier. -/
namespace Go.Proofs.YtiabdbeejkadnaaGreatDoor
open Go.RowKit Go.Maps

def Inv (w : World) (wb B N : Nat) : Prop := ∃ FW ps bs is, AllAt w wb FW ps bs is B N
/-- what a step does: true; the invariant; only blocks from B on have turned -/
def Steps (w : World) (wb B N : Nat) (e : Ending) (w' : World) : Prop := e = .returned (.bool true) ∧ Inv w' wb B (N + 1) ∧ Below B w w'
theorem Inv.below {w w' : World} {wb B N : Nat} (h : Inv w wb B N) (hb : Below w.heap.size w w') : Inv w' wb B N ∧ Below B w w' := by
  obtain ⟨FW, ps, bs, is, h⟩ := h
  exact ⟨⟨FW, ps, bs, is, h.below hb⟩, hb.mono h.low⟩
theorem Inv.more {w : World} {wb B N : Nat} (h : Inv w wb B N) {N' : Nat} (hN : N ≤ N') : Inv w wb B N' := by
  obtain ⟨FW, ps, bs, is, h⟩ := h
  exact ⟨FW, ps, bs, is, h.more hN⟩
theorem Inv.g {w : World} {wb B N : Nat} (h : Inv w wb B N) : GCell w := by
  obtain ⟨FW, ps, bs, is, h⟩ := h
  exact h.g

set_option maxHeartbeats 1000000 in
set_option maxRecDepth 1000000 in
theorem law_opened_no (wb B N : Nat) (k a b c : Int) (s : ByteArray) (w : World) (h : Inv w wb B N) (hd : a < 1 ∨ 4 < a) :
    Calls Tryz.prog 40 #[.pointer (some ⟨wb, 0, none⟩), opV k a b c s] w fun e w' => Steps w wb B N e w' := by
  unfold opV
  have HI := hide h
  have HD := hide hd
  clear h hd
  go_enter Tryz.func40, Tryz.ntmps40
  go_wp2_with fail
  refine (plain_new_no a _ (HI.out.g.below (alloc_below _ _)) HD.out).mono ?_
  rintro e w1 ⟨rfl, hb1⟩
  have hz1 : w.heap.size < w1.heap.size := by have := hb1.size; simp at this; omega
  have o1 : w1.cell? ⟨w.heap.size, 1, none⟩ = some (.int .i64 a) := (hb1.cell (p := ⟨w.heap.size, 1, none⟩) (by simp)).trans (by simp)
  have HB1 := hide ((alloc_below w _).trans (hb1.mono (by simp)))
  clear hb1
  go_wp2_with fail
  refine (ref_new_no a _ HD.out).mono ?_
  rintro e w2 ⟨⟨v, rfl⟩, hb2⟩
  have hz2 : w1.heap.size < w2.heap.size := by have := hb2.size; simp at this; omega
  obtain ⟨⟨q0, q1, q2, q3⟩, _⟩ := cells4 ((hb2.block w1.heap.size (by simp)).trans (heap_alloc_new w1 (.cells #[.int .i64 1, .int .i64 (-1), .int .i64 0, .bool true] 57)))
  have HB2 := hide ((alloc_below w1 (.cells #[.int .i64 1, .int .i64 (-1), .int .i64 0, .bool true] 57)).trans (hb2.mono (by simp)))
  clear hb2
  go_wp2_with fail
  refine (law_none 1 _).mono ?_
  rintro e w3 ⟨rfl, hb3⟩
  have HB3 := hide hb3
  clear hb3
  go_wp2
  go_ret
  have hb : Below w.heap.size w w3 := (HB1.out.trans (HB2.out.mono (Nat.le_of_lt hz1))).trans (HB3.out.mono (by omega))
  exact ⟨rfl, (HI.out.below hb).1.more (by omega), (HI.out.below hb).2⟩

/-- one queue more -/
theorem AllAt.push {w w3 w4 : World} {wb : Nat} {FW FW' F' : Nat → Prop} {ps : List PQ} {bs is : List (Option Addr × Nat)} {B N : Nat} {x m : Nat} {S : St} (h : AllAt w wb FW ps bs is B N) (hb : Below w.heap.size w w3) (hP : PairAt w3 F' x m S) (hF' : ∀ k, F' k → w.heap.size ≤ k)
    (hW : WAt w4 FW' wb (ps.map (fun p => (p.x, p.m)) ++ [(x, m)]) bs is) (hK : Kept FW w3 w4) (hFW' : ∀ k, FW' k → FW k ∨ w3.heap.size ≤ k) (hS : S.last ≤ N + 1 ∧ 0 ≤ S.now ∧ S.now ≤ N + 1) :
    AllAt w4 wb FW' (ps ++ [⟨x, m, S, F'⟩]) bs is B (N + 1) ∧ Below B w w4 := by
  have hz := hb.size
  have hz4 := hK.size
  have hK' : Kept FW w w4 := (Go.Proofs.YtiabdbeejkadnaaGreatDoor.Below.kept hb FW).then hK
  have hB : Below B w w4 := hK'.toBelow h.geW h.low
  have hlt : ∀ j (hj : j < ps.length), ∀ k, (ps[j]).F k → k < w.heap.size := fun j hj => (h.pair j hj).lt
  have hPl := hP.lt
  have hWl := h.wat.lt
  have hsp : ∀ j, j < (ps ++ [(⟨x, m, S, F'⟩ : PQ)]).length → j < ps.length ∨ j = ps.length := fun j hj => by simp at hj; omega
  have e1 : ∀ j (hj : j < ps.length) (h' : j < (ps ++ [(⟨x, m, S, F'⟩ : PQ)]).length), (ps ++ [(⟨x, m, S, F'⟩ : PQ)])[j] = ps[j] := fun j hj h' => List.getElem_append_left hj
  have e2 : ∀ (h' : ps.length < (ps ++ [(⟨x, m, S, F'⟩ : PQ)]).length), (ps ++ [(⟨x, m, S, F'⟩ : PQ)])[ps.length] = ⟨x, m, S, F'⟩ := fun h' => by simp
  refine ⟨⟨by rw [List.map_append]; exact hW, fun j hj => ?_, fun j hj k hk => ?_, fun j j' hj hj' hne k => ?_, fun k hk => ?_, fun j hj k => ?_, h.gcell hB, h.pos, Nat.le_trans h.low hK'.size, by have := h.lens; rw [List.length_append]; simp; omega, fun j hj => ?_, h.caps⟩, hB⟩
  · rcases hsp j hj with h' | rfl
    · rw [e1 j h' hj]; exact (h.pair j h').kept hK' (fun k hk hw => h.apW j h' k hw hk)
    · rw [e2 hj]; exact hP.kept hK (fun k hk hw => by have := hF' k hk; have := hWl k hw; omega)
  · rcases hsp j hj with h' | rfl
    · rw [e1 j h' hj]
      intro hp
      rcases hFW' k hk with hk | hk
      · exact h.apW j h' k hk hp
      · have := hlt j h' k hp; omega
    · rw [e2 hj]
      intro hp
      rcases hFW' k hk with hk | hk
      · have := hF' k hp; have := hWl k hk; omega
      · have := hPl k hp; omega
  · rcases hsp j hj with h1 | rfl
    · rcases hsp j' hj' with h2 | rfl
      · rw [e1 j h1 hj, e1 j' h2 hj']; exact h.apP j j' h1 h2 hne k
      · rw [e1 j h1 hj, e2 hj']; intro hk hk'; have := hlt j h1 k hk; have := hF' k hk'; omega
    · rcases hsp j' hj' with h2 | rfl
      · rw [e2 hj, e1 j' h2 hj']; intro hk hk'; have := hlt j' h2 k hk'; have := hF' k hk; omega
      · exact absurd rfl hne
  · rcases hFW' k hk with hk | hk
    · exact h.geW k hk
    · have := h.low; omega
  · rcases hsp j hj with h' | rfl
    · rw [e1 j h' hj]; exact h.geP j h' k
    · rw [e2 hj]; intro hk; have := hF' k hk; have := h.low; omega
  · rcases hsp j hj with h' | rfl
    · rw [e1 j h' hj]; have := h.st j h'; omega
    · rw [e2 hj]; exact hS

theorem info_pair : (Tryz.prog.info? 99).map (fun i => (i.zero, i.size, i.bytes)) = some (some (.agg #[.pointer none, .pointer none]), 2, 16) := by kernel_rfl

set_option maxHeartbeats 1000000 in
set_option maxRecDepth 1000000 in
theorem law_opened_ok (wb B N : Nat) (k a b c : Int) (s : ByteArray) (w : World) (h : Inv w wb B N) (h1 : 1 ≤ a) (h4 : a ≤ 4) (hN : N ≤ 100000) :
    Calls Tryz.prog 40 #[.pointer (some ⟨wb, 0, none⟩), opV k a b c s] w fun e w' => Steps w wb B N e w' := by
  unfold opV
  have HI := hide h
  clear h
  go_enter Tryz.func40, Tryz.ntmps40
  go_wp2_with fail
  refine (plain_new_ok a _ (HI.out.g.below (alloc_below _ _)) h1 h4).mono ?_
  rintro e w1 ⟨xb, rfl, hP, hb1⟩
  have hz1 : w.heap.size < w1.heap.size := by have := hb1.size; simp at this; omega
  have o1 : w1.cell? ⟨w.heap.size, 1, none⟩ = some (.int .i64 a) := (hb1.cell (p := ⟨w.heap.size, 1, none⟩) (by simp)).trans (by simp)
  have HB1 := hide ((alloc_below w (.cells #[.int .i64 k, .int .i64 a, .int .i64 b, .int .i64 c, .string s] 52)).trans (hb1.mono (by simp)))
  have HP := hide hP
  clear hb1 hP
  go_wp2_with fail
  refine (ref_new_ok a _ h1 h4).mono ?_
  rintro e w2 ⟨rfl, hM, hb2⟩
  have hz2 : w1.heap.size < w2.heap.size := by have := hb2.size; simp at this; omega
  obtain ⟨⟨q0, q1, q2, q3⟩, _⟩ := cells4 ((hb2.block w1.heap.size (by simp)).trans (heap_alloc_new w1 (.cells #[.int .i64 0, .int .i64 (-1), .int .i64 0, .bool true] 57)))
  have HB2 := hide ((alloc_below w1 (.cells #[.int .i64 0, .int .i64 (-1), .int .i64 0, .bool true] 57)).trans (hb2.mono (by simp)))
  have HM := hide hM
  clear hb2 hM
  go_wp2_with fail
  refine (law_fine _).mono ?_
  rintro e w3 ⟨rfl, hb3⟩
  have hbb := (HB1.out.trans (HB2.out.mono (Nat.le_of_lt hz1))).trans (hb3.mono (by omega))
  have HB := hide hbb
  have HB3 := hide hb3
  obtain ⟨FW, ps, bs, is, hA⟩ := HI.out
  have HA := hide hA
  have hA3 := hA.below hbb
  obtain ⟨R, L, aq, cq, ab, cb, ai, ci, hW, hFW⟩ := hA3.wat
  have HW := hide hW
  have HFW := hide hFW
  have c0 := hW.c0
  have f0 := hW.fz 0
  have hwl := hW.lt
  have hln : ps.length ≤ 100000 := by have := hA.lens; omega
  rw [List.length_map] at c0
  clear hb3 q0 q1 q2 q3 hW hFW hA3 hA hbb
  generalize hB : ps.length = nb at *
  have hB' : Hid (ps.length = nb) := hB
  clear hB
  obtain ⟨i0, hi, hi0, hi1, hi2⟩ := info_parts info_pair
  have HO : Hid ((w3.alloc (.cells #[.pointer (some ⟨xb, 0, none⟩), .pointer (some ⟨w1.heap.size + 1 + 1, 0, none⟩)] 99)).ownsRow 0 99 2 (.slice aq nb cq) nb (encQ (ps.map fun p => (p.x, p.m)))) := by
    have := (HW.out.rq.alloc (.cells #[.pointer (some ⟨xb, 0, none⟩), .pointer (some ⟨w1.heap.size + 1 + 1, 0, none⟩)] 99)).1
    rw [List.length_map, hB'.out] at this; exact this
  have HN : Hid (∀ (t : Nat) (u : Value), [Value.pointer (some ⟨xb, 0, none⟩), .pointer (some ⟨w1.heap.size + 1 + 1, 0, none⟩)][t]? = some u → (w3.alloc (.cells #[.pointer (some ⟨xb, 0, none⟩), .pointer (some ⟨w1.heap.size + 1 + 1, 0, none⟩)] 99)).cell? ((⟨w3.heap.size, 0, none⟩ : Addr).add t) = some u) := fun t u => news_new t u
  go_wp2_with (at_builtin; go_must (refine wpList_append_lies _ rfl (.tmp 44) (.tmp 48) 46 rfl 0 99 i0 (.agg #[.pointer none, .pointer none]) 2 16 Tryz.underlying46 hi hi0 hi1 hi2 rfl (by decide) (.slice aq nb cq) nb (encQ (ps.map fun p => (p.x, p.m))) rfl HO.out ⟨w3.heap.size, 0, none⟩ 1 1 [Value.pointer (some ⟨xb, 0, none⟩), .pointer (some ⟨w1.heap.size + 1 + 1, 0, none⟩)] rfl rfl HN.out (by intro u hu; simp at hu; rcases hu with rfl | rfl <;> rfl) (by decide) (by unfold maxLen; omega) (by omega) (Nat.zero_le _) (w3.heap.size + 1) (by simp) ?_; intro g2 cap2 w4 hown hgrow hat hlt3; have HX := hide (And.intro hown (And.intro hgrow (And.intro hat hlt3))); have m1 := HW.out.grow_c0 hgrow (by rw [List.length_map, hB'.out]); clear hown hgrow hat hlt3; obtain ⟨m1, m2⟩ := m1))
  go_ret
  obtain ⟨hown, hgrow, hat, hlt3⟩ := HX.out
  have hPQ := WBlk.pushQ (x := (xb, w1.heap.size + 1 + 1)) HW.out (by rw [List.length_map, hB'.out]) rfl hgrow hown hat hlt3
  have hM' := HM.out
  rw [World.size_alloc] at hM'
  have z3 := HB3.out.size
  have zo : (w.alloc (.cells #[.int .i64 k, .int .i64 a, .int .i64 b, .int .i64 c, .string s] 52)).heap.size = w.heap.size + 1 := World.size_alloc _ _
  have ze : (w1.alloc (.cells #[.int .i64 0, .int .i64 (-1), .int .i64 0, .bool true] 57)).heap.size = w1.heap.size + 1 := World.size_alloc _ _
  have hPair : PairAt w3 (fun j => Foot (fun _ => False) (w.alloc (.cells #[.int .i64 k, .int .i64 a, .int .i64 b, .int .i64 c, .string s] 52)) w1 j ∨ Foot (fun _ => False) (w1.alloc (.cells #[.int .i64 0, .int .i64 (-1), .int .i64 0, .bool true] 57)) w2 j) xb (w1.heap.size + 1 + 1) (St.new a) := by
    refine ⟨_, _, (HP.out.below HB2.out).below HB3.out, hM'.below HB3.out, ?_, fun _ => Iff.rfl⟩
    rintro j (h | h) (h' | h')
    · exact h
    · exact h
    · exact h'
    · omega
  have hfin := HA.out.push HB.out hPair (by rintro j ((h | h) | (h | h)); exact h.elim; omega; exact h.elim; omega)
    (FW' := fun j => FW j ∨ (w3.heap.size ≤ j ∧ j < (w4.setCell ⟨wb, 0, none⟩ (.slice (some ⟨g2, 0, none⟩) (nb + 1) cap2)).heap.size))
    ⟨_, _, _, _, _, _, _, _, hPQ, fun j => ?_⟩ ?_ (fun j hj => hj.elim Or.inl (fun e => Or.inr e.1)) ⟨by show (0 : Int) ≤ _; omega, by show (0 : Int) ≤ 0; omega, by show (0 : Int) ≤ _; omega⟩
  · exact ⟨rfl, ⟨_, _, _, _, hfin.1⟩, hfin.2⟩
  · constructor
    · rintro (h | h)
      · exact ((HFW.out j).1 h).elim (fun h => Or.inl (Or.inl h)) (fun h => Or.inr h)
      · exact Or.inl (Or.inr h)
    · rintro ((h | h) | h)
      · exact Or.inl ((HFW.out j).2 (Or.inl h))
      · exact Or.inr h
      · exact Or.inl ((HFW.out j).2 (Or.inr h))
  · refine Kept.setCell (Kept.grown ((Kept.refl _ _).alloc _) hgrow (fun k hk => ?_)) (p := ⟨wb, 0, none⟩) (Or.inl ((HFW.out wb).2 (Or.inl HW.out.own))) _
    obtain ⟨a, ha, rfl⟩ := ownBlock_some hk
    exact Or.inl ((HFW.out _).2 (Or.inl (HW.out.rq.2 a ha)))

theorem law_opened (wb B N : Nat) (k a b c : Int) (s : ByteArray) (w : World) (h : Inv w wb B N) (hN : N ≤ 100000) :
    Calls Tryz.prog 40 #[.pointer (some ⟨wb, 0, none⟩), opV k a b c s] w fun e w' => Steps w wb B N e w' := by
  by_cases hd : a < 1 ∨ 4 < a
  · exact law_opened_no wb B N k a b c s w h hd
  · exact law_opened_ok wb B N k a b c s w h (by omega) (by omega) hN
end Go.Proofs.YtiabdbeejkadnaaGreatDoor

/- The law: told (Waiting, Disk, none). Own work of the verifier. -/
namespace Go.Proofs.YtiabdbeejkadnaaGreatDoor
open Go.RowKit Go.Maps

theorem waitM_len (S : St) : (waitM S).length ≤ S.reqs.length := by
  unfold waitM
  rw [List.length_map]
  exact List.length_filter_le _ _
/-- what is needed of a row of one's own to hand it to 'owned', 'mine' -/
theorem row_parts {w : World} {lim : Nat} {e : TypeId} {ao : Option Addr} {n cap : Nat} {xs : List Value} (h : Row w (fun b => lim ≤ b) e 1 ao n cap xs) : (ao = none ∧ n = 0 ∧ cap = 0) ∨ ∃ g cur, ao = some ⟨g, 0, none⟩ ∧ lim ≤ g ∧ w.heap[g]? = some (.cells cur e (0, 0)) ∧ cur.size = cap ∧ cap ≤ maxLen := by
  rcases h.1.2 with ⟨h0, _⟩ | ⟨g, cap', cur, hv, _, hh, h1, h2, h3, _⟩
  · cases h0; exact Or.inl ⟨rfl, rfl, rfl⟩
  · cases hv
    exact Or.inr ⟨g, cur, rfl, h.2 _ rfl, hh, by omega, h2⟩

theorem row_partsP {w : World} {P : Nat → Prop} {e : TypeId} {ao : Option Addr} {n cap : Nat} {xs : List Value} (h : Row w P e 1 ao n cap xs) : (ao = none ∧ n = 0 ∧ cap = 0) ∨ ∃ g cur, ao = some ⟨g, 0, none⟩ ∧ P g ∧ w.heap[g]? = some (.cells cur e (0, 0)) ∧ cur.size = cap ∧ cap ≤ maxLen := by
  rcases h.1.2 with ⟨h0, _⟩ | ⟨g, cap', cur, hv, _, hh, h1, h2, h3, _⟩
  · cases h0; exact Or.inl ⟨rfl, rfl, rfl⟩
  · cases hv
    exact Or.inr ⟨g, cur, rfl, h.2 _ rfl, hh, by omega, h2⟩
/-- 'owned', whatever the slice: P is where it lies -/
theorem law_owned_rowP {FW P : Nat → Prop} {wb : Nat} {qs : List (Nat × Nat)} {bs is : List (Option Addr × Nat)} {ao : Option Addr} {n cap : Nat} {xs : List Value} {w : World} (h : WAt w FW wb qs bs is) (hrow : Row w P 3 1 ao n cap xs) (hF : ∀ k, FW k → ¬ P k) (hl : is.length ≤ 1000000) (hc : ∀ x ∈ is, x.2 ≤ maxLen) :
    Calls Tryz.prog 74 #[.pointer (some ⟨wb, 0, none⟩), .slice ao n cap] w fun e w' => e = .returned (.tuple #[]) ∧ ∃ FW' G is', WAt w' FW' wb qs bs is' ∧ Kept G w w' ∧ (∀ k, G k → FW k ∨ P k) ∧ (∀ k, FW' k → FW k ∨ P k ∨ w.heap.size ≤ k) ∧ is'.length = is.length + 1 ∧ ∀ x ∈ is', x.2 ≤ maxLen := by
  rcases row_partsP hrow with ⟨rfl, rfl, rfl⟩ | ⟨g, cur, rfl, hg, hh, hcs, hcm⟩
  · refine (law_owned_nil FW wb qs bs is w h hl).mono ?_
    rintro e w' ⟨rfl, hW, hK⟩
    refine ⟨rfl, _, _, _, hW, hK, fun k hk => Or.inl hk, fun k hk => hk.elim Or.inl (fun e => Or.inr (Or.inr e.1)), by simp, fun x hx => ?_⟩
    rw [List.mem_append, List.mem_singleton] at hx
    rcases hx with hx | rfl
    · exact hc x hx
    · exact Nat.zero_le _
  · refine (law_owned_some FW wb qs bs is g n cap cur w h hh hcs hcm (fun e => hF g e hg) hl).mono ?_
    rintro e w' ⟨rfl, hW, hK⟩
    refine ⟨rfl, _, _, _, hW, hK, fun k hk => hk.elim Or.inl (fun e => Or.inr (by rw [e]; exact hg)), fun k hk => hk.elim (fun e => e.elim Or.inl (fun e => Or.inr (Or.inl (by rw [e]; exact hg)))) (fun e => Or.inr (Or.inr e.1)), by simp, fun x hx => ?_⟩
    rw [List.mem_append, List.mem_singleton] at hx
    rcases hx with hx | rfl
    · exact hc x hx
    · exact hcm
/-- 'owned', whatever the slice -/
theorem law_owned_row {FW : Nat → Prop} {wb : Nat} {qs : List (Nat × Nat)} {bs is : List (Option Addr × Nat)} {ao : Option Addr} {n cap lim : Nat} {xs : List Value} {w : World} (h : WAt w FW wb qs bs is) (hrow : Row w (fun b => lim ≤ b) 3 1 ao n cap xs) (hF : ∀ k, FW k → k < lim) (hlim : lim ≤ w.heap.size) (hl : is.length ≤ 1000000) (hc : ∀ x ∈ is, x.2 ≤ maxLen) :
    Calls Tryz.prog 74 #[.pointer (some ⟨wb, 0, none⟩), .slice ao n cap] w fun e w' => e = .returned (.tuple #[]) ∧ ∃ FW' G is', WAt w' FW' wb qs bs is' ∧ Kept G w w' ∧ (∀ k, G k → FW k ∨ lim ≤ k) ∧ (∀ k, FW' k → FW k ∨ lim ≤ k) ∧ is'.length = is.length + 1 ∧ ∀ x ∈ is', x.2 ≤ maxLen := by
  refine (law_owned_rowP h hrow (fun k hk e => by have := hF k hk; omega) hl hc).mono ?_
  rintro e w' ⟨rfl, FW', G, l', h1, h2, h3, h4, h5⟩
  exact ⟨rfl, FW', G, l', h1, h2, h3, fun k hk => (h4 k hk).elim Or.inl (fun e => Or.inr (e.elim id (fun e => Nat.le_trans hlim e))), h5⟩
/-- 'mine', whatever the slice: P is where it lies -/
theorem law_mine_rowP {FW P : Nat → Prop} {wb : Nat} {qs : List (Nat × Nat)} {bs is : List (Option Addr × Nat)} {ao : Option Addr} {n cap : Nat} {xs : List Value} {w : World} (h : WAt w FW wb qs bs is) (hrow : Row w P 5 1 ao n cap xs) (hF : ∀ k, FW k → ¬ P k) (hl : bs.length ≤ 1000000) (hc : ∀ x ∈ bs, x.2 ≤ maxLen) :
    Calls Tryz.prog 67 #[.pointer (some ⟨wb, 0, none⟩), .slice ao n cap] w fun e w' => e = .returned (.tuple #[]) ∧ ∃ FW' G bs', WAt w' FW' wb qs bs' is ∧ Kept G w w' ∧ (∀ k, G k → FW k ∨ P k) ∧ (∀ k, FW' k → FW k ∨ P k ∨ w.heap.size ≤ k) ∧ bs'.length = bs.length + 1 ∧ ∀ x ∈ bs', x.2 ≤ maxLen := by
  rcases row_partsP hrow with ⟨rfl, rfl, rfl⟩ | ⟨g, cur, rfl, hg, hh, hcs, hcm⟩
  · refine (law_mine_nil FW wb qs bs is w h hl).mono ?_
    rintro e w' ⟨rfl, hW, hK⟩
    refine ⟨rfl, _, _, _, hW, hK, fun k hk => Or.inl hk, fun k hk => hk.elim Or.inl (fun e => Or.inr (Or.inr e.1)), by simp, fun x hx => ?_⟩
    rw [List.mem_append, List.mem_singleton] at hx
    rcases hx with hx | rfl
    · exact hc x hx
    · exact Nat.zero_le _
  · refine (law_mine_some FW wb qs bs is g n cap cur w h hh hcs hcm (fun e => hF g e hg) hl).mono ?_
    rintro e w' ⟨rfl, hW, hK⟩
    refine ⟨rfl, _, _, _, hW, hK, fun k hk => hk.elim Or.inl (fun e => Or.inr (by rw [e]; exact hg)), fun k hk => hk.elim (fun e => e.elim Or.inl (fun e => Or.inr (Or.inl (by rw [e]; exact hg)))) (fun e => Or.inr (Or.inr e.1)), by simp, fun x hx => ?_⟩
    rw [List.mem_append, List.mem_singleton] at hx
    rcases hx with hx | rfl
    · exact hc x hx
    · exact hcm
/-- 'mine', whatever the slice -/
theorem law_mine_row {FW : Nat → Prop} {wb : Nat} {qs : List (Nat × Nat)} {bs is : List (Option Addr × Nat)} {ao : Option Addr} {n cap lim : Nat} {xs : List Value} {w : World} (h : WAt w FW wb qs bs is) (hrow : Row w (fun b => lim ≤ b) 5 1 ao n cap xs) (hF : ∀ k, FW k → k < lim) (hlim : lim ≤ w.heap.size) (hl : bs.length ≤ 1000000) (hc : ∀ x ∈ bs, x.2 ≤ maxLen) :
    Calls Tryz.prog 67 #[.pointer (some ⟨wb, 0, none⟩), .slice ao n cap] w fun e w' => e = .returned (.tuple #[]) ∧ ∃ FW' G bs', WAt w' FW' wb qs bs' is ∧ Kept G w w' ∧ (∀ k, G k → FW k ∨ lim ≤ k) ∧ (∀ k, FW' k → FW k ∨ lim ≤ k) ∧ bs'.length = bs.length + 1 ∧ ∀ x ∈ bs', x.2 ≤ maxLen := by
  refine (law_mine_rowP h hrow (fun k hk e => by have := hF k hk; omega) hl hc).mono ?_
  rintro e w' ⟨rfl, FW', G, l', h1, h2, h3, h4, h5⟩
  exact ⟨rfl, FW', G, l', h1, h2, h3, fun k hk => (h4 k hk).elim Or.inl (fun e => Or.inr (e.elim id (fun e => Nat.le_trans hlim e))), h5⟩

set_option maxHeartbeats 1000000 in
set_option maxRecDepth 1000000 in
theorem law_told_waiting (wb B N : Nat) (FW : Nat → Prop) (ps : List PQ) (bs is : List (Option Addr × Nat)) (i : Nat) (a b c : Int) (s : ByteArray) (w : World) (h : AllAt w wb FW ps bs is B N) (hi : i < ps.length) (hN : N ≤ 100000) :
    Calls Tryz.prog 49 #[.pointer (some ⟨wb, 0, none⟩), .agg #[.pointer (some ⟨(ps[i]).x, 0, none⟩), .pointer (some ⟨(ps[i]).m, 0, none⟩)], opV 6 a b c s] w fun e w' => Steps w wb B N e w' := by
  unfold opV
  have HA := hide h
  have hpair := h.pair i hi
  have hlast := (h.st i hi).1
  clear h
  generalize (ps[i]).x = x at *
  generalize (ps[i]).m = m at *
  generalize (ps[i]).S = S at *
  generalize (ps[i]).F = F at *
  have hwf := hpair.wf
  obtain ⟨Fx, Fm, hP, hM, hd, hF⟩ := hpair
  have hb0 := hide (askW_below x m 6 a b c s w)
  have HP := hide (hP.below hb0.out)
  have HM := hide (hM.below hb0.out)
  have hsz := askW_size x m 6 a b c s w
  obtain ⟨p0, p1, _⟩ := cells2 (askW_p x m 6 a b c s w)
  have HO := hide (askW_p x m 6 a b c s w)
  clear hP hM hd hF
  go_enter Tryz.func49, Tryz.ntmps49
  go_wp2_with fail
  refine (prog_waiting S Fx x (askW x m 6 a b c s w) HP.out).mono ?_
  rintro e w1 ⟨ao, n, cap, rfl, hn, hrow, hb1⟩
  have hz1 : w.heap.size + 1 < w1.heap.size := by have := hb1.size; omega
  have hz1' : w.heap.size < w1.heap.size := by omega
  obtain ⟨_, p1, _⟩ := cells2 ((hb1.block w.heap.size (by omega)).trans HO.out)
  have HB1 := hide (hb0.out.trans (hb1.mono (by omega)))
  have HROW := hide hrow
  have HM1 := hide (HM.out.below hb1)
  have HNN := hide hn
  clear hb1 hrow hn
  go_wp2_with fail
  refine (ref_waiting S Fm m w1 HM1.out (by have := hwf.reqsLen; omega)).mono ?_
  rintro e w2 ⟨ao2, n2, cap2, rfl, hn2, hrow2, hb2⟩
  have e2 : n2 = n := by rw [hn2, HNN.out]
  subst e2
  have HB2 := hide hb2
  have HROW2 := hide hrow2
  have HROW1 : Hid (Row w2 (fun k => (askW x m 6 a b c s w).heap.size ≤ k) 3 1 ao n2 cap (encI (waitM S))) := HROW.out.same (fun a ha => by obtain ⟨c, hc, _⟩ := Row.block HROW.out ha; exact hb2.block _ (lt_of_heap hc))
  clear hrow2 hb2 hn2 HROW
  go_wp2_with fail
  refine (law_same (waitM S) _ _ ao ao2 n2 cap cap2 w2 HROW1.out HROW2.out HNN.out (by have := hwf.reqsLen; have := waitM_len S; have := HNN.out; omega)).mono ?_
  rintro e w3 ⟨rfl, nd, hw3⟩
  have HW3 := hide hw3
  clear hw3
  have HB3 : Hid (Below w.heap.size w w3) := by rw [HW3.out]; exact below_drewN (HB1.out.trans (HB2.out.mono (Nat.le_of_lt hz1'))) nd
  have HROW3 : Hid (Row w3 (fun k => w.heap.size ≤ k) 3 1 ao n2 cap (encI (waitM S))) := by
    rw [HW3.out]
    exact (HROW1.out.same (w' := w2.drewN nd) (fun _ _ => rfl)).mono (fun k hk => by omega)
  go_wp2_with fail
  refine (law_owned_row ((HA.out.below HB3.out).wat) HROW3.out HA.out.wat.lt HB3.out.size (by have := HA.out.lens; omega) HA.out.caps.2).mono ?_
  rintro e w4 ⟨rfl, FW', G, is', hW, hK, hG, hF', hl', hc'⟩
  have HX := hide (HA.out.wOp HB3.out hW hK hG hF' (by have := HA.out.lens; omega) ⟨HA.out.caps.1, hc'⟩)
  clear hW hK hG hF' hl' hc'
  go_wp2
  go_ret
  exact ⟨rfl, ⟨_, _, _, _, HX.out.1⟩, HX.out.2⟩
end Go.Proofs.YtiabdbeejkadnaaGreatDoor

/- The law: told (Disk, none). Own work of the verifier. -/
namespace Go.Proofs.YtiabdbeejkadnaaGreatDoor
open Go.RowKit Go.Maps

theorem RefAt.now {w : World} {F : Nat → Prop} {m : Nat} {S : St} (h : RefAt w F m S) : w.cell? ⟨m, 4, none⟩ = some (.int .i64 S.now) := by
  obtain ⟨G, ar, cr, at_, ct, af, cf, ad, cd, h⟩ := h
  exact h.c4

set_option maxHeartbeats 1000000 in
set_option maxRecDepth 1000000 in
theorem law_told_disk (wb B N : Nat) (FW : Nat → Prop) (ps : List PQ) (bs is : List (Option Addr × Nat)) (i : Nat) (a b c : Int) (s : ByteArray) (w : World) (h : AllAt w wb FW ps bs is B N) (hi : i < ps.length) (hN : N ≤ 100000) :
    Calls Tryz.prog 49 #[.pointer (some ⟨wb, 0, none⟩), .agg #[.pointer (some ⟨(ps[i]).x, 0, none⟩), .pointer (some ⟨(ps[i]).m, 0, none⟩)], opV 8 a b c s] w fun e w' => Steps w wb B N e w' := by
  unfold opV
  have HA := hide h
  have hpair := h.pair i hi
  clear h
  generalize (ps[i]).x = x at *
  generalize (ps[i]).m = m at *
  generalize (ps[i]).S = S at *
  generalize (ps[i]).F = F at *
  have hwf := hpair.wf
  obtain ⟨Fx, Fm, hP, hM, hd, hF⟩ := hpair
  have hb0 := hide (askW_below x m 8 a b c s w)
  have HP := hide (hP.below hb0.out)
  have HM := hide (hM.below hb0.out)
  have hsz := askW_size x m 8 a b c s w
  have HO := hide (askW_p x m 8 a b c s w)
  have hdl : Hid (S.disk.length = 64) := hwf.disk
  clear hP hM hd hF
  go_enter Tryz.func49, Tryz.ntmps49
  go_wp2_with fail
  refine (prog_disk S Fx x (askW x m 8 a b c s w) HP.out).mono ?_
  rintro e w1 ⟨ao, cap, rfl, hrow, hb1⟩
  obtain ⟨g, cur, rfl, hg, hgb, hcap, hcs⟩ := Row.some hrow (by omega)
  have hz1 : w.heap.size + 1 < w1.heap.size := by have := hb1.size; omega
  have hz1' : w.heap.size < w1.heap.size := by omega
  obtain ⟨p0, p1, _⟩ := cells2 ((hb1.block w.heap.size (by omega)).trans HO.out)
  have HB1 := hide (hb0.out.trans (hb1.mono (by omega)))
  have HROW := hide hrow
  have HP1 := hide (HP.out.below hb1)
  have HM1 := hide (HM.out.below hb1)
  have n4 := HM1.out.now
  have hcv : (convert 86 9 (.slice (some ⟨g, 0, none⟩) 64 cap)).run Tryz.prog w1 = .ok (.string ⟨S.disk.toArray⟩) w1 := by
    have := run_convert_bytes_back (P := Tryz.prog) w1 86 9 5 ⟨g, 0, none⟩ cap S.disk Tryz.underlying86 Tryz.underlying5 Tryz.underlying9 (fun i hi => by
      rw [Addr.add_lit, Nat.zero_add]
      show w1.cell? _ = _
      rw [Row.cellAt HROW.out i (by have := hdl.out; omega)]
      simp [encB, hi])
    rw [hdl.out] at this
    exact this
  have hnow : (S.now == S.now) = true := by simp
  have HCV := hide hcv
  clear hb1 hrow hcv hgb hcs hg hcap
  generalize hDD : S.disk.toArray = DD at *
  have HDD : Hid (S.disk.toArray = DD) := hDD
  clear hDD
  go_wp2_with fail
  refine (prog_now S _ x w1 HP1.out).mono ?_
  rintro e w2 ⟨rfl, hw2⟩
  have hw2 := hw2.symm
  subst hw2
  go_wp2_with fail
  refine (ref_disk S Fm m w1 HM1.out (by have := hdl.out; omega)).mono ?_
  rintro e w2 ⟨rfl, hw2⟩
  have hw2 := hw2.symm
  subst hw2
  rw [HDD.out]
  have hcv := HCV.out
  go_wp2_with fail
  have hl1 : Hid (Row w1 (fun k => w.heap.size ≤ k) 5 1 (some ⟨g, 0, none⟩) 64 cap (encB S.disk)) := HROW.out.mono (fun k hk => by omega)
  refine (law_mine_row ((HA.out.below HB1.out).wat) hl1.out HA.out.wat.lt HB1.out.size (by have := HA.out.lens; omega) HA.out.caps.1).mono ?_
  rintro e w4 ⟨rfl, FW', G, bs', hW, hK, hG, hF', hl', hc'⟩
  have HX := hide (HA.out.wOp HB1.out hW hK hG hF' (by have := HA.out.lens; omega) ⟨hc', HA.out.caps.2⟩)
  clear hW hK hG hF' hl' hc'
  go_wp2
  go_ret
  exact ⟨rfl, ⟨_, _, _, _, HX.out.1⟩, HX.out.2⟩

set_option maxHeartbeats 1000000 in
set_option maxRecDepth 1000000 in
theorem law_told_none (wb B N : Nat) (x m : Nat) (k a b c : Int) (s : ByteArray) (w : World) (h : Inv w wb B N) (h6 : k ≠ 6) (h8 : k ≠ 8) (h9 : k ≠ 9) (h12 : k ≠ 12) (h13 : k ≠ 13) :
    Calls Tryz.prog 49 #[.pointer (some ⟨wb, 0, none⟩), .agg #[.pointer (some ⟨x, 0, none⟩), .pointer (some ⟨m, 0, none⟩)], opV k a b c s] w fun e w' => e = .returned (.bool true) ∧ Inv w' wb B N ∧ Below B w w' := by
  unfold opV
  have b6 : (k == 6) = false := beq_eq_false_iff_ne.2 h6
  have b8 : (k == 8) = false := beq_eq_false_iff_ne.2 h8
  have b9 : (k == 9) = false := beq_eq_false_iff_ne.2 h9
  have b12 : (k == 12) = false := beq_eq_false_iff_ne.2 h12
  have b13 : (k == 13) = false := beq_eq_false_iff_ne.2 h13
  have HI := hide (h.below (askW_below x m k a b c s w))
  clear h h6 h8 h9 h12 h13
  go_enter Tryz.func49, Tryz.ntmps49
  go_wp2
  go_ret
  exact ⟨rfl, HI.out.1, HI.out.2⟩

theorem law_told (wb B N : Nat) (FW : Nat → Prop) (ps : List PQ) (bs is : List (Option Addr × Nat)) (i : Nat) (k a b c : Int) (s : ByteArray) (w : World) (h : AllAt w wb FW ps bs is B N) (hi : i < ps.length) (hN : N ≤ 100000) (h9 : k ≠ 9) (h12 : k ≠ 12) (h13 : k ≠ 13) :
    Calls Tryz.prog 49 #[.pointer (some ⟨wb, 0, none⟩), .agg #[.pointer (some ⟨(ps[i]).x, 0, none⟩), .pointer (some ⟨(ps[i]).m, 0, none⟩)], opV k a b c s] w fun e w' => Steps w wb B N e w' := by
  by_cases h6 : k = 6
  · subst h6; exact law_told_waiting wb B N FW ps bs is i a b c s w h hi hN
  · by_cases h8 : k = 8
    · subst h8; exact law_told_disk wb B N FW ps bs is i a b c s w h hi hN
    · refine (law_told_none wb B N _ _ k a b c s w ⟨_, _, _, _, h⟩ h6 h8 h9 h12 h13).mono ?_
      rintro e w' ⟨rfl, h1, h2⟩
      exact ⟨rfl, h1.more (by omega), h2⟩
end Go.Proofs.YtiabdbeejkadnaaGreatDoor

/- The law: polled, where there is an answer. Own work of the verifier. -/
namespace Go.Proofs.YtiabdbeejkadnaaGreatDoor
open Go.RowKit Go.Maps

theorem conv_nil (w : World) : (convert 86 9 (.slice none 0 0)).run Tryz.prog w = .ok (.string ⟨#[]⟩) w := by kernel_rfl
theorem conv_row {w : World} {P : Nat → Prop} {ao : Option Addr} {n cap : Nat} {s : ByteArray} (h : Row w P 5 1 ao n cap (encB s.data.toList)) (hn : n = s.size) :
    (convert 86 9 (.slice ao n cap)).run Tryz.prog w = .ok (.string s) w := by
  have hsl : s.data.toList.length = n := by rw [hn, Array.length_toList]; rfl
  rcases h.1.2 with ⟨h0, h1⟩ | ⟨g, cap', cur, hv, _, hh, h1, h2, h3, _⟩
  · cases h0
    have e : s = ⟨#[]⟩ := by
      cases s with | mk d => cases d with | mk l => cases l with
        | nil => rfl
        | cons a l => simp at hsl
    rw [e]
    exact conv_nil w
  · cases hv
    have e : (⟨s.data.toList.toArray⟩ : ByteArray) = s := by cases s; simp
    generalize s.data.toList = l at *
    have := run_convert_bytes_back (P := Tryz.prog) w 86 9 5 ⟨g, 0, none⟩ cap l Tryz.underlying86 Tryz.underlying5 Tryz.underlying9 (fun i hi => by
      rw [Addr.add_lit, Nat.zero_add]
      show w.cell? _ = _
      rw [Row.cellAt h i (by omega)]
      simp [encB, hi])
    rw [hsl, e] at this
    exact this
set_option maxHeartbeats 1000000 in
set_option maxRecDepth 1000000 in
theorem law_polled_ok (wb B N : Nat) (FW : Nat → Prop) (ps : List PQ) (bs is : List (Option Addr × Nat)) (i : Nat) (num : Int) (w : World) (h : AllAt w wb FW ps bs is B N) (hi : i < ps.length) (hN : N ≤ 100000) (hw : (Lit.int .i64 num).wf = true) (h0F : ¬ (ps[i]).F 0) (hk0 : (pollM (ps[i]).S num).2.2.1 = 0) :
    Calls Tryz.prog 43 #[.pointer (some ⟨wb, 0, none⟩), .agg #[.pointer (some ⟨(ps[i]).x, 0, none⟩), .pointer (some ⟨(ps[i]).m, 0, none⟩)], .int .i64 num] w fun e w' => Steps w wb B N e w' := by
  have HA := hide h
  have hpair := h.pair i hi
  have hlast := (h.st i hi).1
  have hla := hide (pollM_same (ps[i]).S num)
  have HOP : Hid (∀ (w3 : World) (F' : Nat → Prop) (S' : St), PairAt w3 F' (ps[i]).x (ps[i]).m S' → (∀ k, F' k → (ps[i]).F k ∨ w.heap.size ≤ k) → S'.last = (ps[i]).S.last ∧ S'.now = (ps[i]).S.now → Kept (ps[i]).F w w3 → AllAt w3 wb FW (ps.set i ⟨(ps[i]).x, (ps[i]).m, S', F'⟩) bs is B N ∧ Below B w w3) := fun w3 F' S' h1 h2 h3 h4 => h.pairOpG i hi (Nat.le_refl N) h1 h2 (by have := (h.st i hi).1; rw [h3.1]; exact this) (by have := (h.st i hi).2; rw [h3.2]; exact this) h4
  have hltW := h.wat.lt
  have hlow := h.low
  clear h
  have hg := HA.out.g
  generalize hPX : (ps[i]).x = x at *
  generalize (ps[i]).m = m at *
  generalize (ps[i]).S = S at *
  generalize (ps[i]).F = F at *
  have hwf := hpair.wf
  have hltF := hpair.lt
  obtain ⟨Fx, Fm, hP, hM, hd, hF⟩ := hpair
  have h0x : ¬ Fx 0 := fun e => h0F ((hF 0).2 (Or.inl e))
  have hPl := hP.lt
  have HM := hide hM
  have HD := hide hd
  have HF := hide hF
  have HG := hide hg
  have HPl := hide hPl
  have hnx : ¬ Fx w.heap.size := fun e => by have := hPl _ e; omega
  have hP0 := hide (hP.below (alloc_below w (.cells #[.pointer (some ⟨x, 0, none⟩), .pointer (some ⟨m, 0, none⟩)] 99)))
  clear hM hd hF hg hPl hP hPX
  have hpe : plainErr S num = (0, -1, 0) := by unfold plainErr; rw [if_pos hk0]
  generalize hA : pollM S num = r at *
  obtain ⟨s, t, k, S'⟩ := r
  have HA2 : Hid (pollM S num = (s, t, k, S')) := hA
  clear hA
  replace hk0 : k = 0 := hk0
  subst hk0
  go_enter Tryz.func43, Tryz.ntmps43
  go_wp2_with fail
  refine (plain_poll S Fx x num _ hP0.out (HG.out.below (alloc_below _ _)) h0x hw).mono ?_
  rintro e w1 ⟨ao, n, cap, t', rfl, hans, hP1, hK1⟩
  rw [HA2.out] at hP1 hans
  rw [hpe]
  rcases hans with ⟨hz, _⟩ | ⟨_, ht, hn, hn4, hrow⟩
  · exact absurd rfl hz
  replace ht : t' = t := ht
  rw [ht]
  clear ht
  replace hn : n = s.size := hn
  replace hrow : Row w1 (fun k => (w.alloc (.cells #[.pointer (some ⟨x, 0, none⟩), .pointer (some ⟨m, 0, none⟩)] 99)).heap.size ≤ k) 5 1 ao n cap (encB s.data.toList) := hrow
  have HP1 := hide hP1
  have HK1 := hide hK1
  have HROW := hide hrow
  have HNN := hide hn
  have hz1 : w.heap.size < w1.heap.size := by have := hK1.size; simp at this; omega
  have p1 : w1.cell? ⟨w.heap.size, 1, none⟩ = some (.pointer (some ⟨m, 0, none⟩)) := (hK1.cell (p := ⟨w.heap.size, 1, none⟩) (by simp) hnx).trans (by simp)
  clear hP1 hK1 hrow hn
  obtain ⟨wa, hwa⟩ : ∃ wa, wa = (w1.alloc (.cells #[.slice ao n cap, .int .i64 t] 88)).alloc (.cells #[.int .i64 0, .int .i64 (-1), .int .i64 0, .bool true] 57) := ⟨_, rfl⟩
  have HWA := hide hwa
  have hb1 : Below w1.heap.size w1 wa := by rw [hwa]; exact (alloc_below _ _).trans ((alloc_below _ _).mono (by simp))
  have HB1 := hide hb1
  have hM1 := hide (pair_mid HM.out HD.out (alloc_below _ _) HK1.out hb1)
  have hma : wa.heap.size = w1.heap.size + 2 := by rw [hwa]; simp
  have hnm : ¬ Fm w1.heap.size := fun e => by have := HM.out.lt _ e; omega
  have hnm2 : ¬ Fm (w1.heap.size + 1) := fun e => by have := HM.out.lt _ e; omega
  have ha1 : Hid (wa.heap[w1.heap.size]? = some (.cells #[.slice ao n cap, .int .i64 t] 88 (0, 0))) := by rw [hwa]; exact (Below.heap_alloc _ _ _ (by simp)).trans (heap_alloc_new w1 _)
  have ha2 : Hid (wa.heap[w1.heap.size + 1]? = some (.cells #[.int .i64 0, .int .i64 (-1), .int .i64 0, .bool true] 57 (0, 0))) := by
    rw [hwa]
    have := heap_alloc_new (w1.alloc (.cells #[.slice ao n cap, .int .i64 t] 88)) (.cells #[.int .i64 0, .int .i64 (-1), .int .i64 0, .bool true] 57)
    simp only [World.size_alloc] at this
    exact this
  clear hb1 hwa
  go_wp2_with fail
  rw [← HWA.out]
  refine (ref_poll_g S Fm m num _ hM1.out (by have := hwf.toldLen; have := hwf.reqsLen; omega) (by have := hwf.reqsLen; omega) (fun r hr => (hwf.rq r hr).st)).mono ?_
  rintro e w2 ⟨rfl, hM2, hK2⟩
  rw [HA2.out] at hM2
  rw [HA2.out]
  have HM2 := hide hM2
  have HK2 := hide hK2
  have hz2 : w1.heap.size + 1 < w2.heap.size := by have := hK2.size; omega
  have qa : w2.heap[w1.heap.size]? = some (.cells #[.slice ao n cap, .int .i64 t] 88 (0, 0)) := (hK2.block _ (by omega) hnm).trans ha1.out
  have q : w2.heap[w1.heap.size + 1]? = some (.cells #[.int .i64 0, .int .i64 (-1), .int .i64 0, .bool true] 57 (0, 0)) := (hK2.block _ (by omega) hnm2).trans ha2.out
  obtain ⟨⟨q0, q1, q2, q3⟩, _⟩ := cells4 q
  obtain ⟨qa0, qa1, _⟩ := cells2 qa
  have HR2 : Hid (Row w2 (fun k => w.heap.size ≤ k ∧ k < w1.heap.size) 5 1 ao n cap (encB s.data.toList)) := by
    have h1 : ∀ a, ao = some a → w.heap.size ≤ a.block ∧ a.block < w1.heap.size := fun a ha => by
      obtain ⟨cu, hcu, _⟩ := HROW.out.block ha
      have h1 := HROW.out.2 a ha
      simp at h1
      exact ⟨by omega, lt_of_heap hcu⟩
    have h2 := HROW.out.same (w' := w2) fun a ha => by
      obtain ⟨e1, e2⟩ := h1 a ha
      exact (hK2.block a.block (by omega) (fun e => by have := HM.out.lt _ e; omega)).trans (HB1.out.block a.block e2)
    exact ⟨h2.1, h1⟩
  clear hM2 hK2 q qa
  go_wp2_with fail
  refine (law_fine _).mono ?_
  rintro e w3 ⟨rfl, hb3⟩
  have r0 := (hb3.cell (p := ⟨w1.heap.size, 0, none⟩) (by show w1.heap.size < _; omega)).trans qa0
  have r1 := (hb3.cell (p := ⟨w1.heap.size, 1, none⟩) (by show w1.heap.size < _; omega)).trans qa1
  have HB3 := hide hb3
  have HR3 : Hid (Row w3 (fun k => w.heap.size ≤ k ∧ k < w1.heap.size) 5 1 ao n cap (encB s.data.toList)) := HR2.out.same fun a ha => by
    have := HR2.out.2 a ha
    exact hb3.block a.block (by omega)
  have hcv := conv_row HR3.out HNN.out
  have hz3 := hb3.size
  clear hb3 qa0 qa1 q0 q1 q2 q3
  have hte : (t == t) = true := by simp
  have HPA : Hid (PairAt w3 (fun k => Fx k ∨ Foot Fm wa w2 k) x m S' ∧ Kept F w w3) := by
    refine ⟨⟨Fx, Foot Fm wa w2, ?_, HM2.out.below HB3.out, ?_, fun k => Iff.rfl⟩, ?_⟩
    · exact ((HP1.out.below HB1.out).kept HK2.out (fun k hk hn => HD.out k hk hn)).below HB3.out
    · rintro k hk (hn | hn)
      · exact HD.out k hk hn
      · have := HPl.out k hk; omega
    · have k1 : Kept F w w1 := (Go.Proofs.YtiabdbeejkadnaaGreatDoor.Below.kept (alloc_below w (.cells #[.pointer (some ⟨x, 0, none⟩), .pointer (some ⟨m, 0, none⟩)] 99)) F).then (HK1.out.mono fun k _ hk => (HF.out k).2 (Or.inl hk))
      exact ((k1.below HB1.out).then (HK2.out.mono fun k _ hk => (HF.out k).2 (Or.inr hk))).below HB3.out
  have HAA := hide (HOP.out w3 _ S' HPA.out.1 (fun k hk => by
    rcases hk with hk | hk | hk
    · exact Or.inl ((HF.out k).2 (Or.inl hk))
    · exact Or.inl ((HF.out k).2 (Or.inr hk))
    · exact Or.inr (by omega)) hla.out HPA.out.2)
  have HPD : Hid (∀ j (hj : j < (ps.set i ⟨x, m, S', fun k => Fx k ∨ Foot Fm wa w2 k⟩).length), ∀ k, (w.heap.size ≤ k ∧ k < w1.heap.size) → ¬ ((ps.set i ⟨x, m, S', fun k => Fx k ∨ Foot Fm wa w2 k⟩)[j]).F k) := fun j hj k hk => by
    rw [List.length_set] at hj
    simp only [List.getElem_set]
    by_cases e : i = j
    · subst e
      simp only [if_true]
      rintro (hn | hn | hn)
      · have := HPl.out k hn; omega
      · have := HM.out.lt k hn; omega
      · omega
    · simp only [e, if_false]
      intro hn
      have := (HA.out.pair j hj).lt k hn
      omega
  clear HOP HPA
  go_wp2_with fail
  refine (law_mine_rowP HAA.out.1.wat HR3.out (fun k hk e => by have := hltW k hk; omega) (by have := HA.out.lens; omega) HA.out.caps.1).mono ?_
  rintro e w4 ⟨rfl, FW', G, bs', hW, hK, hG, hF', hl', hc'⟩
  have HX := hide (HAA.out.1.wOpG (Nat.le_succ N) (Below.refl _ _) hW hK hG hF' (fun k hk => by omega) HPD.out (by have := HA.out.lens; omega) ⟨hc', HA.out.caps.2⟩)
  clear hW hK hG hF' hl' hc'
  go_wp2
  go_ret
  exact ⟨rfl, ⟨_, _, _, _, HX.out.1⟩, HAA.out.2.trans HX.out.2⟩
end Go.Proofs.YtiabdbeejkadnaaGreatDoor
