/- The law: opened. Own work of the verifier. -/
import Derived.Test.YtiabdbeejkadnaaGreatDoorPairE
namespace Go.Proofs.YtiabdbeejkadnaaGreatDoor
open Go.RowKit Go.Maps

def Inv (w : World) (wb B N : Nat) : Prop := ∃ FW ps bs is, AllAt w wb FW ps bs is B N
/-- what a step does: true; the invariant; only blocks from B on have turned -/
def Steps (w : World) (wb B N : Nat) (e : Ending) (w' : World) : Prop := e = .returned (.bool true) ∧ Inv w' wb B (N + 1) ∧ Below B w w'
theorem Inv.below {w w' : World} {wb B N : Nat} (h : Inv w wb B N) (hb : Below w.heap.size w w') : Inv w' wb B N ∧ Below B w w' := by
  obtain ⟨FW, ps, bs, is, h⟩ := h
  exact ⟨⟨FW, ps, bs, is, h.below hb⟩, hb.mono h.low⟩
theorem Inv.more {w : World} {wb B N : Nat} (h : Inv w wb B N) {N' : Nat} (hN : N ≤ N') : Inv w wb B N' := by
  obtain ⟨FW, ps, bs, is, h⟩ := h
  exact ⟨FW, ps, bs, is, h.more hN⟩
theorem Inv.g {w : World} {wb B N : Nat} (h : Inv w wb B N) : GCell w := by
  obtain ⟨FW, ps, bs, is, h⟩ := h
  exact h.g

set_option maxHeartbeats 1000000 in
set_option maxRecDepth 1000000 in
theorem law_opened_no (wb B N : Nat) (k a b c : Int) (s : ByteArray) (w : World) (h : Inv w wb B N) (hd : a < 1 ∨ 4 < a) :
    Calls Tryz.prog 40 #[.pointer (some ⟨wb, 0, none⟩), opV k a b c s] w fun e w' => Steps w wb B N e w' := by
  unfold opV
  have HI := hide h
  have HD := hide hd
  clear h hd
  go_enter Tryz.func40, Tryz.ntmps40
  go_wp2_with fail
  refine (plain_new_no a _ (HI.out.g.below (alloc_below _ _)) HD.out).mono ?_
  rintro e w1 ⟨rfl, hb1⟩
  have hz1 : w.heap.size < w1.heap.size := by have := hb1.size; simp at this; omega
  have o1 : w1.cell? ⟨w.heap.size, 1, none⟩ = some (.int .i64 a) := (hb1.cell (p := ⟨w.heap.size, 1, none⟩) (by simp)).trans (by simp)
  have HB1 := hide ((alloc_below w _).trans (hb1.mono (by simp)))
  clear hb1
  go_wp2_with fail
  refine (ref_new_no a _ HD.out).mono ?_
  rintro e w2 ⟨⟨v, rfl⟩, hb2⟩
  have hz2 : w1.heap.size < w2.heap.size := by have := hb2.size; simp at this; omega
  obtain ⟨⟨q0, q1, q2, q3⟩, _⟩ := cells4 ((hb2.block w1.heap.size (by simp)).trans (heap_alloc_new w1 (.cells #[.int .i64 1, .int .i64 (-1), .int .i64 0, .bool true] 57)))
  have HB2 := hide ((alloc_below w1 (.cells #[.int .i64 1, .int .i64 (-1), .int .i64 0, .bool true] 57)).trans (hb2.mono (by simp)))
  clear hb2
  go_wp2_with fail
  refine (law_none 1 _).mono ?_
  rintro e w3 ⟨rfl, hb3⟩
  have HB3 := hide hb3
  clear hb3
  go_wp2
  go_ret
  have hb : Below w.heap.size w w3 := (HB1.out.trans (HB2.out.mono (Nat.le_of_lt hz1))).trans (HB3.out.mono (by omega))
  exact ⟨rfl, (HI.out.below hb).1.more (by omega), (HI.out.below hb).2⟩

/-- one queue more -/
theorem AllAt.push {w w3 w4 : World} {wb : Nat} {FW FW' F' : Nat → Prop} {ps : List PQ} {bs is : List (Option Addr × Nat)} {B N : Nat} {x m : Nat} {S : St} (h : AllAt w wb FW ps bs is B N) (hb : Below w.heap.size w w3) (hP : PairAt w3 F' x m S) (hF' : ∀ k, F' k → w.heap.size ≤ k)
    (hW : WAt w4 FW' wb (ps.map (fun p => (p.x, p.m)) ++ [(x, m)]) bs is) (hK : Kept FW w3 w4) (hFW' : ∀ k, FW' k → FW k ∨ w3.heap.size ≤ k) (hS : S.last ≤ N + 1 ∧ 0 ≤ S.now ∧ S.now ≤ N + 1) :
    AllAt w4 wb FW' (ps ++ [⟨x, m, S, F'⟩]) bs is B (N + 1) ∧ Below B w w4 := by
  have hz := hb.size
  have hz4 := hK.size
  have hK' : Kept FW w w4 := (Go.Proofs.YtiabdbeejkadnaaGreatDoor.Below.kept hb FW).then hK
  have hB : Below B w w4 := hK'.toBelow h.geW h.low
  have hlt : ∀ j (hj : j < ps.length), ∀ k, (ps[j]).F k → k < w.heap.size := fun j hj => (h.pair j hj).lt
  have hPl := hP.lt
  have hWl := h.wat.lt
  have hsp : ∀ j, j < (ps ++ [(⟨x, m, S, F'⟩ : PQ)]).length → j < ps.length ∨ j = ps.length := fun j hj => by simp at hj; omega
  have e1 : ∀ j (hj : j < ps.length) (h' : j < (ps ++ [(⟨x, m, S, F'⟩ : PQ)]).length), (ps ++ [(⟨x, m, S, F'⟩ : PQ)])[j] = ps[j] := fun j hj h' => List.getElem_append_left hj
  have e2 : ∀ (h' : ps.length < (ps ++ [(⟨x, m, S, F'⟩ : PQ)]).length), (ps ++ [(⟨x, m, S, F'⟩ : PQ)])[ps.length] = ⟨x, m, S, F'⟩ := fun h' => by simp
  refine ⟨⟨by rw [List.map_append]; exact hW, fun j hj => ?_, fun j hj k hk => ?_, fun j j' hj hj' hne k => ?_, fun k hk => ?_, fun j hj k => ?_, h.gcell hB, h.pos, Nat.le_trans h.low hK'.size, by have := h.lens; rw [List.length_append]; simp; omega, fun j hj => ?_, h.caps⟩, hB⟩
  · rcases hsp j hj with h' | rfl
    · rw [e1 j h' hj]; exact (h.pair j h').kept hK' (fun k hk hw => h.apW j h' k hw hk)
    · rw [e2 hj]; exact hP.kept hK (fun k hk hw => by have := hF' k hk; have := hWl k hw; omega)
  · rcases hsp j hj with h' | rfl
    · rw [e1 j h' hj]
      intro hp
      rcases hFW' k hk with hk | hk
      · exact h.apW j h' k hk hp
      · have := hlt j h' k hp; omega
    · rw [e2 hj]
      intro hp
      rcases hFW' k hk with hk | hk
      · have := hF' k hp; have := hWl k hk; omega
      · have := hPl k hp; omega
  · rcases hsp j hj with h1 | rfl
    · rcases hsp j' hj' with h2 | rfl
      · rw [e1 j h1 hj, e1 j' h2 hj']; exact h.apP j j' h1 h2 hne k
      · rw [e1 j h1 hj, e2 hj']; intro hk hk'; have := hlt j h1 k hk; have := hF' k hk'; omega
    · rcases hsp j' hj' with h2 | rfl
      · rw [e2 hj, e1 j' h2 hj']; intro hk hk'; have := hlt j' h2 k hk'; have := hF' k hk; omega
      · exact absurd rfl hne
  · rcases hFW' k hk with hk | hk
    · exact h.geW k hk
    · have := h.low; omega
  · rcases hsp j hj with h' | rfl
    · rw [e1 j h' hj]; exact h.geP j h' k
    · rw [e2 hj]; intro hk; have := hF' k hk; have := h.low; omega
  · rcases hsp j hj with h' | rfl
    · rw [e1 j h' hj]; have := h.st j h'; omega
    · rw [e2 hj]; exact hS

theorem info_pair : (Tryz.prog.info? 99).map (fun i => (i.zero, i.size, i.bytes)) = some (some (.agg #[.pointer none, .pointer none]), 2, 16) := by kernel_rfl

set_option maxHeartbeats 1000000 in
set_option maxRecDepth 1000000 in
theorem law_opened_ok (wb B N : Nat) (k a b c : Int) (s : ByteArray) (w : World) (h : Inv w wb B N) (h1 : 1 ≤ a) (h4 : a ≤ 4) (hN : N ≤ 100000) :
    Calls Tryz.prog 40 #[.pointer (some ⟨wb, 0, none⟩), opV k a b c s] w fun e w' => Steps w wb B N e w' := by
  unfold opV
  have HI := hide h
  clear h
  go_enter Tryz.func40, Tryz.ntmps40
  go_wp2_with fail
  refine (plain_new_ok a _ (HI.out.g.below (alloc_below _ _)) h1 h4).mono ?_
  rintro e w1 ⟨xb, rfl, hP, hb1⟩
  have hz1 : w.heap.size < w1.heap.size := by have := hb1.size; simp at this; omega
  have o1 : w1.cell? ⟨w.heap.size, 1, none⟩ = some (.int .i64 a) := (hb1.cell (p := ⟨w.heap.size, 1, none⟩) (by simp)).trans (by simp)
  have HB1 := hide ((alloc_below w (.cells #[.int .i64 k, .int .i64 a, .int .i64 b, .int .i64 c, .string s] 52)).trans (hb1.mono (by simp)))
  have HP := hide hP
  clear hb1 hP
  go_wp2_with fail
  refine (ref_new_ok a _ h1 h4).mono ?_
  rintro e w2 ⟨rfl, hM, hb2⟩
  have hz2 : w1.heap.size < w2.heap.size := by have := hb2.size; simp at this; omega
  obtain ⟨⟨q0, q1, q2, q3⟩, _⟩ := cells4 ((hb2.block w1.heap.size (by simp)).trans (heap_alloc_new w1 (.cells #[.int .i64 0, .int .i64 (-1), .int .i64 0, .bool true] 57)))
  have HB2 := hide ((alloc_below w1 (.cells #[.int .i64 0, .int .i64 (-1), .int .i64 0, .bool true] 57)).trans (hb2.mono (by simp)))
  have HM := hide hM
  clear hb2 hM
  go_wp2_with fail
  refine (law_fine _).mono ?_
  rintro e w3 ⟨rfl, hb3⟩
  have hbb := (HB1.out.trans (HB2.out.mono (Nat.le_of_lt hz1))).trans (hb3.mono (by omega))
  have HB := hide hbb
  have HB3 := hide hb3
  obtain ⟨FW, ps, bs, is, hA⟩ := HI.out
  have HA := hide hA
  have hA3 := hA.below hbb
  obtain ⟨R, L, aq, cq, ab, cb, ai, ci, hW, hFW⟩ := hA3.wat
  have HW := hide hW
  have HFW := hide hFW
  have c0 := hW.c0
  have f0 := hW.fz 0
  have hwl := hW.lt
  have hln : ps.length ≤ 100000 := by have := hA.lens; omega
  rw [List.length_map] at c0
  clear hb3 q0 q1 q2 q3 hW hFW hA3 hA hbb
  generalize hB : ps.length = nb at *
  have hB' : Hid (ps.length = nb) := hB
  clear hB
  obtain ⟨i0, hi, hi0, hi1, hi2⟩ := info_parts info_pair
  have HO : Hid ((w3.alloc (.cells #[.pointer (some ⟨xb, 0, none⟩), .pointer (some ⟨w1.heap.size + 1 + 1, 0, none⟩)] 99)).ownsRow 0 99 2 (.slice aq nb cq) nb (encQ (ps.map fun p => (p.x, p.m)))) := by
    have := (HW.out.rq.alloc (.cells #[.pointer (some ⟨xb, 0, none⟩), .pointer (some ⟨w1.heap.size + 1 + 1, 0, none⟩)] 99)).1
    rw [List.length_map, hB'.out] at this; exact this
  have HN : Hid (∀ (t : Nat) (u : Value), [Value.pointer (some ⟨xb, 0, none⟩), .pointer (some ⟨w1.heap.size + 1 + 1, 0, none⟩)][t]? = some u → (w3.alloc (.cells #[.pointer (some ⟨xb, 0, none⟩), .pointer (some ⟨w1.heap.size + 1 + 1, 0, none⟩)] 99)).cell? ((⟨w3.heap.size, 0, none⟩ : Addr).add t) = some u) := fun t u => news_new t u
  go_wp2_with (at_builtin; go_must (refine wpList_append_lies _ rfl (.tmp 44) (.tmp 48) 46 rfl 0 99 i0 (.agg #[.pointer none, .pointer none]) 2 16 Tryz.underlying46 hi hi0 hi1 hi2 rfl (by decide) (.slice aq nb cq) nb (encQ (ps.map fun p => (p.x, p.m))) rfl HO.out ⟨w3.heap.size, 0, none⟩ 1 1 [Value.pointer (some ⟨xb, 0, none⟩), .pointer (some ⟨w1.heap.size + 1 + 1, 0, none⟩)] rfl rfl HN.out (by intro u hu; simp at hu; rcases hu with rfl | rfl <;> rfl) (by decide) (by unfold maxLen; omega) (by omega) (Nat.zero_le _) (w3.heap.size + 1) (by simp) ?_; intro g2 cap2 w4 hown hgrow hat hlt3; have HX := hide (And.intro hown (And.intro hgrow (And.intro hat hlt3))); have m1 := HW.out.grow_c0 hgrow (by rw [List.length_map, hB'.out]); clear hown hgrow hat hlt3; obtain ⟨m1, m2⟩ := m1))
  go_ret
  obtain ⟨hown, hgrow, hat, hlt3⟩ := HX.out
  have hPQ := WBlk.pushQ (x := (xb, w1.heap.size + 1 + 1)) HW.out (by rw [List.length_map, hB'.out]) rfl hgrow hown hat hlt3
  have hM' := HM.out
  rw [World.size_alloc] at hM'
  have z3 := HB3.out.size
  have zo : (w.alloc (.cells #[.int .i64 k, .int .i64 a, .int .i64 b, .int .i64 c, .string s] 52)).heap.size = w.heap.size + 1 := World.size_alloc _ _
  have ze : (w1.alloc (.cells #[.int .i64 0, .int .i64 (-1), .int .i64 0, .bool true] 57)).heap.size = w1.heap.size + 1 := World.size_alloc _ _
  have hPair : PairAt w3 (fun j => Foot (fun _ => False) (w.alloc (.cells #[.int .i64 k, .int .i64 a, .int .i64 b, .int .i64 c, .string s] 52)) w1 j ∨ Foot (fun _ => False) (w1.alloc (.cells #[.int .i64 0, .int .i64 (-1), .int .i64 0, .bool true] 57)) w2 j) xb (w1.heap.size + 1 + 1) (St.new a) := by
    refine ⟨_, _, (HP.out.below HB2.out).below HB3.out, hM'.below HB3.out, ?_, fun _ => Iff.rfl⟩
    rintro j (h | h) (h' | h')
    · exact h
    · exact h
    · exact h'
    · omega
  have hfin := HA.out.push HB.out hPair (by rintro j ((h | h) | (h | h)); exact h.elim; omega; exact h.elim; omega)
    (FW' := fun j => FW j ∨ (w3.heap.size ≤ j ∧ j < (w4.setCell ⟨wb, 0, none⟩ (.slice (some ⟨g2, 0, none⟩) (nb + 1) cap2)).heap.size))
    ⟨_, _, _, _, _, _, _, _, hPQ, fun j => ?_⟩ ?_ (fun j hj => hj.elim Or.inl (fun e => Or.inr e.1)) ⟨by show (0 : Int) ≤ _; omega, by show (0 : Int) ≤ 0; omega, by show (0 : Int) ≤ _; omega⟩
  · exact ⟨rfl, ⟨_, _, _, _, hfin.1⟩, hfin.2⟩
  · constructor
    · rintro (h | h)
      · exact ((HFW.out j).1 h).elim (fun h => Or.inl (Or.inl h)) (fun h => Or.inr h)
      · exact Or.inl (Or.inr h)
    · rintro ((h | h) | h)
      · exact Or.inl ((HFW.out j).2 (Or.inl h))
      · exact Or.inr h
      · exact Or.inl ((HFW.out j).2 (Or.inr h))
  · refine Kept.setCell (Kept.grown ((Kept.refl _ _).alloc _) hgrow (fun k hk => ?_)) (p := ⟨wb, 0, none⟩) (Or.inl ((HFW.out wb).2 (Or.inl HW.out.own))) _
    obtain ⟨a, ha, rfl⟩ := ownBlock_some hk
    exact Or.inl ((HFW.out _).2 (Or.inl (HW.out.rq.2 a ha)))

theorem law_opened (wb B N : Nat) (k a b c : Int) (s : ByteArray) (w : World) (h : Inv w wb B N) (hN : N ≤ 100000) :
    Calls Tryz.prog 40 #[.pointer (some ⟨wb, 0, none⟩), opV k a b c s] w fun e w' => Steps w wb B N e w' := by
  by_cases hd : a < 1 ∨ 4 < a
  · exact law_opened_no wb B N k a b c s w h hd
  · exact law_opened_ok wb B N k a b c s w h (by omega) (by omega) hN
end Go.Proofs.YtiabdbeejkadnaaGreatDoor
