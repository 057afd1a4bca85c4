import Derived.Test.YtiabdbeejkadnaaGreatDoorJb5038e5980
/- The law's world with its queues: one queue more. Own work of the verifier. -/
namespace Go.Proofs.YtiabdbeejkadnaaGreatDoor
open Go.RowKit Go.Maps
section
variable {w : World} {R L : Nat → Prop} {wb : Nat} {qs : List (Nat × Nat)} {bs is : List (Option Addr × Nat)} {aq : Option Addr} {cq : Nat} {ab : Option Addr} {cb : Nat} {ai : Option Addr} {ci : Nat}
theorem WBlk.grow_c0 {w2 : World} {o : Obj} {nb : Nat} (h : WBlk w R L wb qs bs is aq cq ab cb ai ci) (hgrow : (w.alloc o).grownBy w2 (Value.ownBlock (.slice aq nb cq))) (hn : qs.length = nb) : w2.cell? ⟨wb, 0, none⟩ = some (.slice aq nb cq) ∧ w2.frozen? ⟨wb, 0, none⟩ = false := by
  have hb : w2.heap[wb]? = w.heap[wb]? := (hgrow.block wb (by have := h.lt; simp; omega) (fun e => by obtain ⟨a, ha, hab⟩ := ownBlock_some e.symm; exact h.rq.ne h.blk (by decide) a ha hab)).trans (Below.heap_alloc _ _ _ h.lt)
  exact ⟨by rw [World.cell?_of_block (a := ⟨wb, 0, none⟩) hb, h.c0, hn], by rw [World.frozen?_of_block (a := ⟨wb, 0, none⟩) hb]; exact h.fz 0⟩
/-- one queue more: the world's block, its rows and lists behind the append and the store -/
theorem WBlk.pushQ {wr w2 : World} {x : Nat × Nat} {o : Obj} {nb g2 cap2 : Nat} {news : List Value} (HR : WBlk wr R L wb qs bs is aq cq ab cb ai ci)
    (hnb : qs.length = nb) (hnews : news = [.pointer (some ⟨x.1, 0, none⟩), .pointer (some ⟨x.2, 0, none⟩)])
    (hgrow : (wr.alloc o).grownBy w2 (Value.ownBlock (.slice aq nb cq))) (hown : w2.ownsRow 0 99 2 (.slice (some ⟨g2, 0, none⟩) (nb + 1) cap2) (nb + 1) (encQ qs ++ news)) (hat : Value.ownBlock (.slice aq nb cq) = some g2 ∨ g2 = wr.heap.size + 1) (hlt : g2 < w2.heap.size) :
    WBlk (w2.setCell ⟨wb, 0, none⟩ (.slice (some ⟨g2, 0, none⟩) (nb + 1) cap2)) (fun k => R k ∨ (wr.heap.size ≤ k ∧ k < (w2.setCell ⟨wb, 0, none⟩ (.slice (some ⟨g2, 0, none⟩) (nb + 1) cap2)).heap.size)) L wb (qs ++ [x]) bs is (some ⟨g2, 0, none⟩) cap2 ab cb ai ci := by
  have hz2 : ∀ v, (w2.setCell ⟨wb, 0, none⟩ v).heap.size = w2.heap.size := fun v => by simp [World.setCell]
  have hzz : wr.heap.size ≤ w2.heap.size := by have := hgrow.size; simp at this; omega
  have hs : ∀ k, k < wr.heap.size → (∀ a, aq = some a → a.block ≠ k) → w2.heap[k]? = wr.heap[k]? := fun k hk hne =>
    (hgrow.block k (by simp; omega) (fun e => by obtain ⟨a, ha, hab⟩ := ownBlock_some e.symm; exact hne a ha hab)).trans (Below.heap_alloc _ _ _ hk)
  have hwb : w2.heap[wb]? = wr.heap[wb]? := hs wb HR.lt (HR.rq.ne HR.blk (by decide))
  have hcl : ∀ k, L k → k < wr.heap.size → (w2.setCell ⟨wb, 0, none⟩ (.slice (some ⟨g2, 0, none⟩) (nb + 1) cap2)).heap[k]? = wr.heap[k]? := by
    intro k hk hlk
    rw [Below.heap_setCell _ _ _ _ (fun e => HR.apart wb HR.own (by have e' : k = wb := e; rw [← e']; exact hk))]
    exact hs k hlk (fun a ha e => HR.apart k (e ▸ HR.rq.2 a ha) hk)
  have hR : ∀ k, R k → (fun k => R k ∨ (wr.heap.size ≤ k ∧ k < (w2.setCell ⟨wb, 0, none⟩ (.slice (some ⟨g2, 0, none⟩) (nb + 1) cap2)).heap.size)) k := fun k hk => Or.inl hk
  have hblk2 := hwb.trans HR.blk
  have hlen : (encQ qs ++ news) = encQ (qs ++ [x]) := by rw [hnews]; simp [encQ]
  have hg2R : R g2 ∨ (wr.heap.size ≤ g2 ∧ g2 < (w2.setCell ⟨wb, 0, none⟩ (.slice (some ⟨g2, 0, none⟩) (nb + 1) cap2)).heap.size) := by
    rcases hat with e | e
    · obtain ⟨a, ha, hab⟩ := ownBlock_some e; exact Or.inl (hab ▸ HR.rq.2 a ha)
    · exact Or.inr ⟨by omega, by rw [hz2]; exact hlt⟩
  refine ⟨?_, Or.inl HR.own, ?_, ?_, ?_, ?_, ?_, ?_, ?_, ?_⟩
  · rw [heap_setCell_at hblk2]
    simp [List.length_append, hnb]
  · have hr2 : Row w2 (fun k => R k ∨ (wr.heap.size ≤ k ∧ k < (w2.setCell ⟨wb, 0, none⟩ (.slice (some ⟨g2, 0, none⟩) (nb + 1) cap2)).heap.size)) 99 2 (some ⟨g2, 0, none⟩) (nb + 1) cap2 (encQ qs ++ news) := ⟨hown, fun a ha => by cases ha; exact hg2R⟩
    rw [hlen] at hr2
    have hl2 : (qs ++ [x]).length = nb + 1 := by rw [List.length_append, hnb]; rfl
    rw [hl2]
    exact hr2.setCell_other (hr2.ne hblk2 (by decide)) _
  · have : Row w2 R 86 1 ab bs.length cb (encL bs) := HR.rb.same fun a ha => by obtain ⟨c, hc, _⟩ := HR.rb.block ha; exact hs _ (lt_of_heap hc) (HR.rq.ne hc (by decide))
    exact (this.setCell_other (this.ne hblk2 (by decide)) _).mono hR
  · have : Row w2 R 24 1 ai is.length ci (encL is) := HR.ri.same fun a ha => by obtain ⟨c, hc, _⟩ := HR.ri.block ha; exact hs _ (lt_of_heap hc) (HR.rq.ne hc (by decide))
    exact (this.setCell_other (this.ne hblk2 (by decide)) _).mono hR
  · intro i hi
    rcases HR.lb i hi with h | ⟨g, h1, h2, h3⟩
    · exact Or.inl h
    · exact Or.inr ⟨g, h1, h2, (hcl g h2 (lt_of_heap h3)).trans h3⟩
  · intro i hi
    rcases HR.li i hi with h | ⟨g, h1, h2, h3⟩
    · exact Or.inl h
    · exact Or.inr ⟨g, h1, h2, (hcl g h2 (lt_of_heap h3)).trans h3⟩
  · intro k hk hLk
    rcases hk with hk | hk
    · exact HR.apart k hk hLk
    · have := HR.ltL k hLk; omega
  · intro k hk
    rcases hk with hk | hk
    · rw [hz2]; have := HR.ltR k hk; omega
    · exact hk.2
  · intro k hk
    rw [hz2]; have := HR.ltL k hk; omega
end

/-! ### all queues of the law's world -/
structure PQ where
  x : Nat
  m : Nat
  S : St
  F : Nat → Prop
structure AllAt (w : World) (wb : Nat) (FW : Nat → Prop) (ps : List PQ) (bs is : List (Option Addr × Nat)) (B N : Nat) : Prop where
  wat : WAt w FW wb (ps.map fun p => (p.x, p.m)) bs is
  pair : ∀ i (h : i < ps.length), PairAt w (ps[i]).F (ps[i]).x (ps[i]).m (ps[i]).S
  apW : ∀ i (h : i < ps.length), ∀ k, FW k → ¬ (ps[i]).F k
  apP : ∀ i j (hi : i < ps.length) (hj : j < ps.length), i ≠ j → ∀ k, (ps[i]).F k → ¬ (ps[j]).F k
  geW : ∀ k, FW k → B ≤ k
  geP : ∀ i (h : i < ps.length), ∀ k, (ps[i]).F k → B ≤ k
  g : GCell w
  pos : 0 < B
  low : B ≤ w.heap.size
  lens : ps.length ≤ N ∧ bs.length ≤ N ∧ is.length ≤ 4 * N
  st : ∀ i (h : i < ps.length), (ps[i]).S.last ≤ N ∧ 0 ≤ (ps[i]).S.now ∧ (ps[i]).S.now ≤ N
  caps : (∀ x ∈ bs, x.2 ≤ maxLen) ∧ ∀ x ∈ is, x.2 ≤ maxLen
section
variable {w w' w3 : World} {wb : Nat} {FW FW' G : Nat → Prop} {ps : List PQ} {bs is bs' is' : List (Option Addr × Nat)} {B N : Nat}
theorem AllAt.gcell (h : AllAt w wb FW ps bs is B N) (hb : Below B w w') : GCell w' := (hb.cell (p := ⟨0, 0, none⟩) h.pos).trans h.g
/-- only new blocks -/
theorem AllAt.below (h : AllAt w wb FW ps bs is B N) (hb : Below w.heap.size w w') : AllAt w' wb FW ps bs is B N where
  wat := h.wat.same (fun k _ hk => hb.block k hk) hb.size
  pair := fun i hi => (h.pair i hi).below hb
  apW := h.apW
  apP := h.apP
  geW := h.geW
  geP := h.geP
  g := h.gcell (hb.mono h.low)
  pos := h.pos
  low := Nat.le_trans h.low hb.size
  lens := h.lens
  st := h.st
  caps := h.caps
theorem AllAt.more (h : AllAt w wb FW ps bs is B N) {N' : Nat} (hN : N ≤ N') : AllAt w wb FW ps bs is B N' :=
  ⟨h.wat, h.pair, h.apW, h.apP, h.geW, h.geP, h.g, h.pos, h.low, by have := h.lens; omega, fun i hi => by have := h.st i hi; omega, h.caps⟩
/-- a call on one queue, whatever of the new blocks is booked to it -/
theorem AllAt.pairOpG (h : AllAt w wb FW ps bs is B N) (i : Nat) (hi : i < ps.length) {S' : St} {F' : Nat → Prop} {M : Nat} (hM : N ≤ M) (hP : PairAt w' F' (ps[i]).x (ps[i]).m S') (hF' : ∀ k, F' k → (ps[i]).F k ∨ w.heap.size ≤ k) (hl : S'.last ≤ M) (hn : 0 ≤ S'.now ∧ S'.now ≤ M) (hK : Kept (ps[i]).F w w') :
    AllAt w' wb FW (ps.set i ⟨(ps[i]).x, (ps[i]).m, S', F'⟩) bs is B M ∧ Below B w w' := by
  have hb : Below B w w' := hK.toBelow (h.geP i hi) h.low
  have hlt : ∀ j (hj : j < ps.length), ∀ k, (ps[j]).F k → k < w.heap.size := fun j hj => (h.pair j hj).lt
  refine ⟨⟨?_, fun j hj => ?_, fun j hj k hk => ?_, fun j j' hj hj' hne k hk hk' => ?_, h.geW, fun j hj k hk => ?_, h.gcell hb, h.pos, Nat.le_trans h.low hK.size, by have := h.lens; rw [List.length_set]; omega, fun j hj => ?_, h.caps⟩, hb⟩
  · have e : (ps.set i ⟨(ps[i]).x, (ps[i]).m, S', F'⟩).map (fun p => (p.x, p.m)) = ps.map (fun p => (p.x, p.m)) := by
      apply List.ext_getElem
      · simp
      · intro j h1 h2
        simp only [List.getElem_map, List.getElem_set]
        split
        · rename_i e; subst e; rfl
        · rfl
    rw [e]
    exact h.wat.kept hK (fun k hk => h.apW i hi k hk)
  · rw [List.length_set] at hj
    simp only [List.getElem_set]
    by_cases e : i = j
    · subst e; simp only [if_true]; exact hP
    · simp only [e, if_false]
      exact (h.pair j hj).kept hK (fun k hk => h.apP j i hj hi (fun x => e x.symm) k hk)
  · rw [List.length_set] at hj
    simp only [List.getElem_set]
    by_cases e : i = j
    · subst e; simp only [if_true]
      intro hk0
      rcases hF' k hk0 with hk' | hk'
      · exact h.apW i hi k hk hk'
      · have := h.wat.lt k hk; omega
    · simp only [e, if_false]; exact h.apW j hj k hk
  · rw [List.length_set] at hj hj'
    simp only [List.getElem_set] at hk hk'
    by_cases e : i = j
    · subst e
      simp only [if_true] at hk
      simp only [hne, if_false] at hk'
      rcases hF' k hk with hk | hk
      · exact h.apP i j' hi hj' hne k hk hk'
      · have := hlt j' hj' k hk'; omega
    · simp only [e, if_false] at hk
      by_cases e' : i = j'
      · subst e'
        simp only [if_true] at hk'
        rcases hF' k hk' with hk' | hk'
        · exact h.apP j i hj hi hne k hk hk'
        · have := hlt j hj k hk; omega
      · simp only [e', if_false] at hk'
        exact h.apP j j' hj hj' hne k hk hk'
  · rw [List.length_set] at hj
    simp only [List.getElem_set] at hk
    by_cases e : i = j
    · subst e; simp only [if_true] at hk
      rcases hF' k hk with hk | hk
      · exact h.geP i hi k hk
      · have := h.low; omega
    · simp only [e, if_false] at hk; exact h.geP j hj k hk
  · rw [List.length_set] at hj
    simp only [List.getElem_set]
    by_cases e : i = j
    · subst e; simp only [if_true]; exact ⟨hl, hn.1, hn.2⟩
    · simp only [e, if_false]; have := h.st j hj; omega
/-- a call on one queue -/
theorem AllAt.pairOp (h : AllAt w wb FW ps bs is B N) (i : Nat) (hi : i < ps.length) {S' : St} (hP : PairAt w' (Foot (ps[i]).F w w') (ps[i]).x (ps[i]).m S') (hl : S'.last ≤ (ps[i]).S.last + 1) (hn : 0 ≤ S'.now ∧ S'.now ≤ (ps[i]).S.now + 1) (hK : Kept (ps[i]).F w w') :
    AllAt w' wb FW (ps.set i ⟨(ps[i]).x, (ps[i]).m, S', Foot (ps[i]).F w w'⟩) bs is B (N + 1) ∧ Below B w w' :=
  h.pairOpG i hi (Nat.le_succ N) hP (fun _ hk => hk.elim Or.inl (fun e => Or.inr e.1)) (by have := h.st i hi; omega) (by have := h.st i hi; omega) hK
/-- a call on the world's own lists -/
theorem AllAt.wOp (h : AllAt w wb FW ps bs is B N) (hb : Below w.heap.size w w3) (hW : WAt w' FW' wb (ps.map fun p => (p.x, p.m)) bs' is') (hK : Kept G w3 w') (hG : ∀ k, G k → FW k ∨ w.heap.size ≤ k) (hF' : ∀ k, FW' k → FW k ∨ w.heap.size ≤ k)
    (hl : bs'.length ≤ N + 1 ∧ is'.length ≤ 4 * (N + 1)) (hc : (∀ x ∈ bs', x.2 ≤ maxLen) ∧ ∀ x ∈ is', x.2 ≤ maxLen) : AllAt w' wb FW' ps bs' is' B (N + 1) ∧ Below B w w' := by
  have hz := hb.size
  have hK' : Kept FW w w' := (Go.Proofs.YtiabdbeejkadnaaGreatDoor.Below.kept hb FW).trans (hK.mono fun k _ hk => hG k hk)
  have hB : Below B w w' := hK'.toBelow h.geW h.low
  refine ⟨⟨hW, fun i hi => (h.pair i hi).kept hK' (fun k hk hw => h.apW i hi k hw hk), fun i hi k hk hp => ?_, h.apP, fun k hk => ?_, h.geP, h.gcell hB, h.pos, Nat.le_trans h.low hK'.size, by have := h.lens; omega, fun i hi => by have := h.st i hi; omega, hc⟩, hB⟩
  · rcases hF' k hk with hk | hk
    · exact h.apW i hi k hk hp
    · have := (h.pair i hi).lt k hp; omega
  · rcases hF' k hk with hk | hk
    · exact h.geW k hk
    · have := h.low; omega
/-- a call on the world's own lists, where what is taken up lies in P, apart from all queues -/
theorem AllAt.wOpG (h : AllAt w wb FW ps bs is B N) {P : Nat → Prop} {M : Nat} (hM : N ≤ M) (hb : Below w.heap.size w w3) (hW : WAt w' FW' wb (ps.map fun p => (p.x, p.m)) bs' is') (hK : Kept G w3 w') (hG : ∀ k, G k → FW k ∨ P k) (hF' : ∀ k, FW' k → FW k ∨ P k ∨ w.heap.size ≤ k)
    (hPB : ∀ k, P k → B ≤ k) (hPp : ∀ i (hi : i < ps.length), ∀ k, P k → ¬ (ps[i]).F k) (hl : bs'.length ≤ M ∧ is'.length ≤ 4 * M) (hc : (∀ x ∈ bs', x.2 ≤ maxLen) ∧ ∀ x ∈ is', x.2 ≤ maxLen) : AllAt w' wb FW' ps bs' is' B M ∧ Below B w w' := by
  have hz := hb.size
  have hK' : Kept (fun k => FW k ∨ P k) w w' := (Go.Proofs.YtiabdbeejkadnaaGreatDoor.Below.kept hb _).then (hK.mono fun k _ hk => hG k hk)
  have hB : Below B w w' := hK'.toBelow (fun k hk => hk.elim (h.geW k) (hPB k)) h.low
  refine ⟨⟨hW, fun i hi => (h.pair i hi).kept hK' (fun k hk hw => hw.elim (fun hw => h.apW i hi k hw hk) (fun hw => hPp i hi k hw hk)), fun i hi k hk hp => ?_, h.apP, fun k hk => ?_, h.geP, h.gcell hB, h.pos, Nat.le_trans h.low hK'.size, by have := h.lens; omega, fun i hi => by have := h.st i hi; omega, hc⟩, hB⟩
  · rcases hF' k hk with hk | hk | hk
    · exact h.apW i hi k hk hp
    · exact hPp i hi k hk hp
    · have := (h.pair i hi).lt k hp; omega
  · rcases hF' k hk with hk | hk | hk
    · exact h.geW k hk
    · exact hPB k hk
    · have := h.low; omega
end
end Go.Proofs.YtiabdbeejkadnaaGreatDoor

/- The law: opened. Own work of the verifier. -/
namespace Go.Proofs.YtiabdbeejkadnaaGreatDoor
open Go.RowKit Go.Maps

def Inv (w : World) (wb B N : Nat) : Prop := ∃ FW ps bs is, AllAt w wb FW ps bs is B N
/-- what a step does: true; the invariant; only blocks from B on have turned -/
def Steps (w : World) (wb B N : Nat) (e : Ending) (w' : World) : Prop := e = .returned (.bool true) ∧ Inv w' wb B (N + 1) ∧ Below B w w'
theorem Inv.below {w w' : World} {wb B N : Nat} (h : Inv w wb B N) (hb : Below w.heap.size w w') : Inv w' wb B N ∧ Below B w w' := by
  obtain ⟨FW, ps, bs, is, h⟩ := h
  exact ⟨⟨FW, ps, bs, is, h.below hb⟩, hb.mono h.low⟩
theorem Inv.more {w : World} {wb B N : Nat} (h : Inv w wb B N) {N' : Nat} (hN : N ≤ N') : Inv w wb B N' := by
  obtain ⟨FW, ps, bs, is, h⟩ := h
  exact ⟨FW, ps, bs, is, h.more hN⟩
theorem Inv.g {w : World} {wb B N : Nat} (h : Inv w wb B N) : GCell w := by
  obtain ⟨FW, ps, bs, is, h⟩ := h
  exact h.g

set_option maxHeartbeats 1000000 in
set_option maxRecDepth 1000000 in
theorem law_opened_no (wb B N : Nat) (k a b c : Int) (s : ByteArray) (w : World) (h : Inv w wb B N) (hd : a < 1 ∨ 4 < a) :
    Calls Tryz.prog 40 #[.pointer (some ⟨wb, 0, none⟩), opV k a b c s] w fun e w' => Steps w wb B N e w' := by
  unfold opV
  have HI := hide h
  have HD := hide hd
  clear h hd
  go_enter Tryz.func40, Tryz.ntmps40
  go_wp2_with fail
  refine (plain_new_no a _ (HI.out.g.below (alloc_below _ _)) HD.out).mono ?_
  rintro e w1 ⟨rfl, hb1⟩
  have hz1 : w.heap.size < w1.heap.size := by have := hb1.size; simp at this; omega
  have o1 : w1.cell? ⟨w.heap.size, 1, none⟩ = some (.int .i64 a) := (hb1.cell (p := ⟨w.heap.size, 1, none⟩) (by simp)).trans (by simp)
  have HB1 := hide ((alloc_below w _).trans (hb1.mono (by simp)))
  clear hb1
  go_wp2_with fail
  refine (ref_new_no a _ HD.out).mono ?_
  rintro e w2 ⟨⟨v, rfl⟩, hb2⟩
  have hz2 : w1.heap.size < w2.heap.size := by have := hb2.size; simp at this; omega
  obtain ⟨⟨q0, q1, q2, q3⟩, _⟩ := cells4 ((hb2.block w1.heap.size (by simp)).trans (heap_alloc_new w1 (.cells #[.int .i64 1, .int .i64 (-1), .int .i64 0, .bool true] 57)))
  have HB2 := hide ((alloc_below w1 (.cells #[.int .i64 1, .int .i64 (-1), .int .i64 0, .bool true] 57)).trans (hb2.mono (by simp)))
  clear hb2
  go_wp2_with fail
  refine (law_none 1 _).mono ?_
  rintro e w3 ⟨rfl, hb3⟩
  have HB3 := hide hb3
  clear hb3
  go_wp2
  go_ret
  have hb : Below w.heap.size w w3 := (HB1.out.trans (HB2.out.mono (Nat.le_of_lt hz1))).trans (HB3.out.mono (by omega))
  exact ⟨rfl, (HI.out.below hb).1.more (by omega), (HI.out.below hb).2⟩

/-- one queue more -/
theorem AllAt.push {w w3 w4 : World} {wb : Nat} {FW FW' F' : Nat → Prop} {ps : List PQ} {bs is : List (Option Addr × Nat)} {B N : Nat} {x m : Nat} {S : St} (h : AllAt w wb FW ps bs is B N) (hb : Below w.heap.size w w3) (hP : PairAt w3 F' x m S) (hF' : ∀ k, F' k → w.heap.size ≤ k)
    (hW : WAt w4 FW' wb (ps.map (fun p => (p.x, p.m)) ++ [(x, m)]) bs is) (hK : Kept FW w3 w4) (hFW' : ∀ k, FW' k → FW k ∨ w3.heap.size ≤ k) (hS : S.last ≤ N + 1 ∧ 0 ≤ S.now ∧ S.now ≤ N + 1) :
    AllAt w4 wb FW' (ps ++ [⟨x, m, S, F'⟩]) bs is B (N + 1) ∧ Below B w w4 := by
  have hz := hb.size
  have hz4 := hK.size
  have hK' : Kept FW w w4 := (Go.Proofs.YtiabdbeejkadnaaGreatDoor.Below.kept hb FW).then hK
  have hB : Below B w w4 := hK'.toBelow h.geW h.low
  have hlt : ∀ j (hj : j < ps.length), ∀ k, (ps[j]).F k → k < w.heap.size := fun j hj => (h.pair j hj).lt
  have hPl := hP.lt
  have hWl := h.wat.lt
  have hsp : ∀ j, j < (ps ++ [(⟨x, m, S, F'⟩ : PQ)]).length → j < ps.length ∨ j = ps.length := fun j hj => by simp at hj; omega
  have e1 : ∀ j (hj : j < ps.length) (h' : j < (ps ++ [(⟨x, m, S, F'⟩ : PQ)]).length), (ps ++ [(⟨x, m, S, F'⟩ : PQ)])[j] = ps[j] := fun j hj h' => List.getElem_append_left hj
  have e2 : ∀ (h' : ps.length < (ps ++ [(⟨x, m, S, F'⟩ : PQ)]).length), (ps ++ [(⟨x, m, S, F'⟩ : PQ)])[ps.length] = ⟨x, m, S, F'⟩ := fun h' => by simp
  refine ⟨⟨by rw [List.map_append]; exact hW, fun j hj => ?_, fun j hj k hk => ?_, fun j j' hj hj' hne k => ?_, fun k hk => ?_, fun j hj k => ?_, h.gcell hB, h.pos, Nat.le_trans h.low hK'.size, by have := h.lens; rw [List.length_append]; simp; omega, fun j hj => ?_, h.caps⟩, hB⟩
  · rcases hsp j hj with h' | rfl
    · rw [e1 j h' hj]; exact (h.pair j h').kept hK' (fun k hk hw => h.apW j h' k hw hk)
    · rw [e2 hj]; exact hP.kept hK (fun k hk hw => by have := hF' k hk; have := hWl k hw; omega)
  · rcases hsp j hj with h' | rfl
    · rw [e1 j h' hj]
      intro hp
      rcases hFW' k hk with hk | hk
      · exact h.apW j h' k hk hp
      · have := hlt j h' k hp; omega
    · rw [e2 hj]
      intro hp
      rcases hFW' k hk with hk | hk
      · have := hF' k hp; have := hWl k hk; omega
      · have := hPl k hp; omega
  · rcases hsp j hj with h1 | rfl
    · rcases hsp j' hj' with h2 | rfl
      · rw [e1 j h1 hj, e1 j' h2 hj']; exact h.apP j j' h1 h2 hne k
      · rw [e1 j h1 hj, e2 hj']; intro hk hk'; have := hlt j h1 k hk; have := hF' k hk'; omega
    · rcases hsp j' hj' with h2 | rfl
      · rw [e2 hj, e1 j' h2 hj']; intro hk hk'; have := hlt j' h2 k hk'; have := hF' k hk; omega
      · exact absurd rfl hne
  · rcases hFW' k hk with hk | hk
    · exact h.geW k hk
    · have := h.low; omega
  · rcases hsp j hj with h' | rfl
    · rw [e1 j h' hj]; exact h.geP j h' k
    · rw [e2 hj]; intro hk; have := hF' k hk; have := h.low; omega
  · rcases hsp j hj with h' | rfl
    · rw [e1 j h' hj]; have := h.st j h'; omega
    · rw [e2 hj]; exact hS

theorem info_pair : (Tryz.prog.info? 99).map (fun i => (i.zero, i.size, i.bytes)) = some (some (.agg #[.pointer none, .pointer none]), 2, 16) := by kernel_rfl

set_option maxHeartbeats 1000000 in
set_option maxRecDepth 1000000 in
theorem law_opened_ok (wb B N : Nat) (k a b c : Int) (s : ByteArray) (w : World) (h : Inv w wb B N) (h1 : 1 ≤ a) (h4 : a ≤ 4) (hN : N ≤ 100000) :
    Calls Tryz.prog 40 #[.pointer (some ⟨wb, 0, none⟩), opV k a b c s] w fun e w' => Steps w wb B N e w' := by
  unfold opV
  have HI := hide h
  clear h
  go_enter Tryz.func40, Tryz.ntmps40
  go_wp2_with fail
  refine (plain_new_ok a _ (HI.out.g.below (alloc_below _ _)) h1 h4).mono ?_
  rintro e w1 ⟨xb, rfl, hP, hb1⟩
  have hz1 : w.heap.size < w1.heap.size := by have := hb1.size; simp at this; omega
  have o1 : w1.cell? ⟨w.heap.size, 1, none⟩ = some (.int .i64 a) := (hb1.cell (p := ⟨w.heap.size, 1, none⟩) (by simp)).trans (by simp)
  have HB1 := hide ((alloc_below w (.cells #[.int .i64 k, .int .i64 a, .int .i64 b, .int .i64 c, .string s] 52)).trans (hb1.mono (by simp)))
  have HP := hide hP
  clear hb1 hP
  go_wp2_with fail
  refine (ref_new_ok a _ h1 h4).mono ?_
  rintro e w2 ⟨rfl, hM, hb2⟩
  have hz2 : w1.heap.size < w2.heap.size := by have := hb2.size; simp at this; omega
  obtain ⟨⟨q0, q1, q2, q3⟩, _⟩ := cells4 ((hb2.block w1.heap.size (by simp)).trans (heap_alloc_new w1 (.cells #[.int .i64 0, .int .i64 (-1), .int .i64 0, .bool true] 57)))
  have HB2 := hide ((alloc_below w1 (.cells #[.int .i64 0, .int .i64 (-1), .int .i64 0, .bool true] 57)).trans (hb2.mono (by simp)))
  have HM := hide hM
  clear hb2 hM
  go_wp2_with fail
  refine (law_fine _).mono ?_
  rintro e w3 ⟨rfl, hb3⟩
  have hbb := (HB1.out.trans (HB2.out.mono (Nat.le_of_lt hz1))).trans (hb3.mono (by omega))
  have HB := hide hbb
  have HB3 := hide hb3
  obtain ⟨FW, ps, bs, is, hA⟩ := HI.out
  have HA := hide hA
  have hA3 := hA.below hbb
  obtain ⟨R, L, aq, cq, ab, cb, ai, ci, hW, hFW⟩ := hA3.wat
  have HW := hide hW
  have HFW := hide hFW
  have c0 := hW.c0
  have f0 := hW.fz 0
  have hwl := hW.lt
  have hln : ps.length ≤ 100000 := by have := hA.lens; omega
  rw [List.length_map] at c0
  clear hb3 q0 q1 q2 q3 hW hFW hA3 hA hbb
  generalize hB : ps.length = nb at *
  have hB' : Hid (ps.length = nb) := hB
  clear hB
  obtain ⟨i0, hi, hi0, hi1, hi2⟩ := info_parts info_pair
  have HO : Hid ((w3.alloc (.cells #[.pointer (some ⟨xb, 0, none⟩), .pointer (some ⟨w1.heap.size + 1 + 1, 0, none⟩)] 99)).ownsRow 0 99 2 (.slice aq nb cq) nb (encQ (ps.map fun p => (p.x, p.m)))) := by
    have := (HW.out.rq.alloc (.cells #[.pointer (some ⟨xb, 0, none⟩), .pointer (some ⟨w1.heap.size + 1 + 1, 0, none⟩)] 99)).1
    rw [List.length_map, hB'.out] at this; exact this
  have HN : Hid (∀ (t : Nat) (u : Value), [Value.pointer (some ⟨xb, 0, none⟩), .pointer (some ⟨w1.heap.size + 1 + 1, 0, none⟩)][t]? = some u → (w3.alloc (.cells #[.pointer (some ⟨xb, 0, none⟩), .pointer (some ⟨w1.heap.size + 1 + 1, 0, none⟩)] 99)).cell? ((⟨w3.heap.size, 0, none⟩ : Addr).add t) = some u) := fun t u => news_new t u
  go_wp2_with (at_builtin; go_must (refine wpList_append_lies _ rfl (.tmp 44) (.tmp 48) 46 rfl 0 99 i0 (.agg #[.pointer none, .pointer none]) 2 16 Tryz.underlying46 hi hi0 hi1 hi2 rfl (by decide) (.slice aq nb cq) nb (encQ (ps.map fun p => (p.x, p.m))) rfl HO.out ⟨w3.heap.size, 0, none⟩ 1 1 [Value.pointer (some ⟨xb, 0, none⟩), .pointer (some ⟨w1.heap.size + 1 + 1, 0, none⟩)] rfl rfl HN.out (by intro u hu; simp at hu; rcases hu with rfl | rfl <;> rfl) (by decide) (by unfold maxLen; omega) (by omega) (Nat.zero_le _) (w3.heap.size + 1) (by simp) ?_; intro g2 cap2 w4 hown hgrow hat hlt3; have HX := hide (And.intro hown (And.intro hgrow (And.intro hat hlt3))); have m1 := HW.out.grow_c0 hgrow (by rw [List.length_map, hB'.out]); clear hown hgrow hat hlt3; obtain ⟨m1, m2⟩ := m1))
  go_ret
  obtain ⟨hown, hgrow, hat, hlt3⟩ := HX.out
  have hPQ := WBlk.pushQ (x := (xb, w1.heap.size + 1 + 1)) HW.out (by rw [List.length_map, hB'.out]) rfl hgrow hown hat hlt3
  have hM' := HM.out
  rw [World.size_alloc] at hM'
  have z3 := HB3.out.size
  have zo : (w.alloc (.cells #[.int .i64 k, .int .i64 a, .int .i64 b, .int .i64 c, .string s] 52)).heap.size = w.heap.size + 1 := World.size_alloc _ _
  have ze : (w1.alloc (.cells #[.int .i64 0, .int .i64 (-1), .int .i64 0, .bool true] 57)).heap.size = w1.heap.size + 1 := World.size_alloc _ _
  have hPair : PairAt w3 (fun j => Foot (fun _ => False) (w.alloc (.cells #[.int .i64 k, .int .i64 a, .int .i64 b, .int .i64 c, .string s] 52)) w1 j ∨ Foot (fun _ => False) (w1.alloc (.cells #[.int .i64 0, .int .i64 (-1), .int .i64 0, .bool true] 57)) w2 j) xb (w1.heap.size + 1 + 1) (St.new a) := by
    refine ⟨_, _, (HP.out.below HB2.out).below HB3.out, hM'.below HB3.out, ?_, fun _ => Iff.rfl⟩
    rintro j (h | h) (h' | h')
    · exact h
    · exact h
    · exact h'
    · omega
  have hfin := HA.out.push HB.out hPair (by rintro j ((h | h) | (h | h)); exact h.elim; omega; exact h.elim; omega)
    (FW' := fun j => FW j ∨ (w3.heap.size ≤ j ∧ j < (w4.setCell ⟨wb, 0, none⟩ (.slice (some ⟨g2, 0, none⟩) (nb + 1) cap2)).heap.size))
    ⟨_, _, _, _, _, _, _, _, hPQ, fun j => ?_⟩ ?_ (fun j hj => hj.elim Or.inl (fun e => Or.inr e.1)) ⟨by show (0 : Int) ≤ _; omega, by show (0 : Int) ≤ 0; omega, by show (0 : Int) ≤ _; omega⟩
  · exact ⟨rfl, ⟨_, _, _, _, hfin.1⟩, hfin.2⟩
  · constructor
    · rintro (h | h)
      · exact ((HFW.out j).1 h).elim (fun h => Or.inl (Or.inl h)) (fun h => Or.inr h)
      · exact Or.inl (Or.inr h)
    · rintro ((h | h) | h)
      · exact Or.inl ((HFW.out j).2 (Or.inl h))
      · exact Or.inr h
      · exact Or.inl ((HFW.out j).2 (Or.inr h))
  · refine Kept.setCell (Kept.grown ((Kept.refl _ _).alloc _) hgrow (fun k hk => ?_)) (p := ⟨wb, 0, none⟩) (Or.inl ((HFW.out wb).2 (Or.inl HW.out.own))) _
    obtain ⟨a, ha, rfl⟩ := ownBlock_some hk
    exact Or.inl ((HFW.out _).2 (Or.inl (HW.out.rq.2 a ha)))

theorem law_opened (wb B N : Nat) (k a b c : Int) (s : ByteArray) (w : World) (h : Inv w wb B N) (hN : N ≤ 100000) :
    Calls Tryz.prog 40 #[.pointer (some ⟨wb, 0, none⟩), opV k a b c s] w fun e w' => Steps w wb B N e w' := by
  by_cases hd : a < 1 ∨ 4 < a
  · exact law_opened_no wb B N k a b c s w h hd
  · exact law_opened_ok wb B N k a b c s w h (by omega) (by omega) hN
end Go.Proofs.YtiabdbeejkadnaaGreatDoor

/- The law: told (Waiting, Disk, none). Own work of the verifier. -/
namespace Go.Proofs.YtiabdbeejkadnaaGreatDoor
open Go.RowKit Go.Maps

theorem waitM_len (S : St) : (waitM S).length ≤ S.reqs.length := by
  unfold waitM
  rw [List.length_map]
  exact List.length_filter_le _ _
/-- what is needed of a row of one's own to hand it to 'owned', 'mine' -/
theorem row_parts {w : World} {lim : Nat} {e : TypeId} {ao : Option Addr} {n cap : Nat} {xs : List Value} (h : Row w (fun b => lim ≤ b) e 1 ao n cap xs) : (ao = none ∧ n = 0 ∧ cap = 0) ∨ ∃ g cur, ao = some ⟨g, 0, none⟩ ∧ lim ≤ g ∧ w.heap[g]? = some (.cells cur e (0, 0)) ∧ cur.size = cap ∧ cap ≤ maxLen := by
  rcases h.1.2 with ⟨h0, _⟩ | ⟨g, cap', cur, hv, _, hh, h1, h2, h3, _⟩
  · cases h0; exact Or.inl ⟨rfl, rfl, rfl⟩
  · cases hv
    exact Or.inr ⟨g, cur, rfl, h.2 _ rfl, hh, by omega, h2⟩

theorem row_partsP {w : World} {P : Nat → Prop} {e : TypeId} {ao : Option Addr} {n cap : Nat} {xs : List Value} (h : Row w P e 1 ao n cap xs) : (ao = none ∧ n = 0 ∧ cap = 0) ∨ ∃ g cur, ao = some ⟨g, 0, none⟩ ∧ P g ∧ w.heap[g]? = some (.cells cur e (0, 0)) ∧ cur.size = cap ∧ cap ≤ maxLen := by
  rcases h.1.2 with ⟨h0, _⟩ | ⟨g, cap', cur, hv, _, hh, h1, h2, h3, _⟩
  · cases h0; exact Or.inl ⟨rfl, rfl, rfl⟩
  · cases hv
    exact Or.inr ⟨g, cur, rfl, h.2 _ rfl, hh, by omega, h2⟩
/-- 'owned', whatever the slice: P is where it lies -/
theorem law_owned_rowP {FW P : Nat → Prop} {wb : Nat} {qs : List (Nat × Nat)} {bs is : List (Option Addr × Nat)} {ao : Option Addr} {n cap : Nat} {xs : List Value} {w : World} (h : WAt w FW wb qs bs is) (hrow : Row w P 3 1 ao n cap xs) (hF : ∀ k, FW k → ¬ P k) (hl : is.length ≤ 1000000) (hc : ∀ x ∈ is, x.2 ≤ maxLen) :
    Calls Tryz.prog 74 #[.pointer (some ⟨wb, 0, none⟩), .slice ao n cap] w fun e w' => e = .returned (.tuple #[]) ∧ ∃ FW' G is', WAt w' FW' wb qs bs is' ∧ Kept G w w' ∧ (∀ k, G k → FW k ∨ P k) ∧ (∀ k, FW' k → FW k ∨ P k ∨ w.heap.size ≤ k) ∧ is'.length = is.length + 1 ∧ ∀ x ∈ is', x.2 ≤ maxLen := by
  rcases row_partsP hrow with ⟨rfl, rfl, rfl⟩ | ⟨g, cur, rfl, hg, hh, hcs, hcm⟩
  · refine (law_owned_nil FW wb qs bs is w h hl).mono ?_
    rintro e w' ⟨rfl, hW, hK⟩
    refine ⟨rfl, _, _, _, hW, hK, fun k hk => Or.inl hk, fun k hk => hk.elim Or.inl (fun e => Or.inr (Or.inr e.1)), by simp, fun x hx => ?_⟩
    rw [List.mem_append, List.mem_singleton] at hx
    rcases hx with hx | rfl
    · exact hc x hx
    · exact Nat.zero_le _
  · refine (law_owned_some FW wb qs bs is g n cap cur w h hh hcs hcm (fun e => hF g e hg) hl).mono ?_
    rintro e w' ⟨rfl, hW, hK⟩
    refine ⟨rfl, _, _, _, hW, hK, fun k hk => hk.elim Or.inl (fun e => Or.inr (by rw [e]; exact hg)), fun k hk => hk.elim (fun e => e.elim Or.inl (fun e => Or.inr (Or.inl (by rw [e]; exact hg)))) (fun e => Or.inr (Or.inr e.1)), by simp, fun x hx => ?_⟩
    rw [List.mem_append, List.mem_singleton] at hx
    rcases hx with hx | rfl
    · exact hc x hx
    · exact hcm
/-- 'owned', whatever the slice -/
theorem law_owned_row {FW : Nat → Prop} {wb : Nat} {qs : List (Nat × Nat)} {bs is : List (Option Addr × Nat)} {ao : Option Addr} {n cap lim : Nat} {xs : List Value} {w : World} (h : WAt w FW wb qs bs is) (hrow : Row w (fun b => lim ≤ b) 3 1 ao n cap xs) (hF : ∀ k, FW k → k < lim) (hlim : lim ≤ w.heap.size) (hl : is.length ≤ 1000000) (hc : ∀ x ∈ is, x.2 ≤ maxLen) :
    Calls Tryz.prog 74 #[.pointer (some ⟨wb, 0, none⟩), .slice ao n cap] w fun e w' => e = .returned (.tuple #[]) ∧ ∃ FW' G is', WAt w' FW' wb qs bs is' ∧ Kept G w w' ∧ (∀ k, G k → FW k ∨ lim ≤ k) ∧ (∀ k, FW' k → FW k ∨ lim ≤ k) ∧ is'.length = is.length + 1 ∧ ∀ x ∈ is', x.2 ≤ maxLen := by
  refine (law_owned_rowP h hrow (fun k hk e => by have := hF k hk; omega) hl hc).mono ?_
  rintro e w' ⟨rfl, FW', G, l', h1, h2, h3, h4, h5⟩
  exact ⟨rfl, FW', G, l', h1, h2, h3, fun k hk => (h4 k hk).elim Or.inl (fun e => Or.inr (e.elim id (fun e => Nat.le_trans hlim e))), h5⟩
/-- 'mine', whatever the slice: P is where it lies -/
theorem law_mine_rowP {FW P : Nat → Prop} {wb : Nat} {qs : List (Nat × Nat)} {bs is : List (Option Addr × Nat)} {ao : Option Addr} {n cap : Nat} {xs : List Value} {w : World} (h : WAt w FW wb qs bs is) (hrow : Row w P 5 1 ao n cap xs) (hF : ∀ k, FW k → ¬ P k) (hl : bs.length ≤ 1000000) (hc : ∀ x ∈ bs, x.2 ≤ maxLen) :
    Calls Tryz.prog 67 #[.pointer (some ⟨wb, 0, none⟩), .slice ao n cap] w fun e w' => e = .returned (.tuple #[]) ∧ ∃ FW' G bs', WAt w' FW' wb qs bs' is ∧ Kept G w w' ∧ (∀ k, G k → FW k ∨ P k) ∧ (∀ k, FW' k → FW k ∨ P k ∨ w.heap.size ≤ k) ∧ bs'.length = bs.length + 1 ∧ ∀ x ∈ bs', x.2 ≤ maxLen := by
  rcases row_partsP hrow with ⟨rfl, rfl, rfl⟩ | ⟨g, cur, rfl, hg, hh, hcs, hcm⟩
  · refine (law_mine_nil FW wb qs bs is w h hl).mono ?_
    rintro e w' ⟨rfl, hW, hK⟩
    refine ⟨rfl, _, _, _, hW, hK, fun k hk => Or.inl hk, fun k hk => hk.elim Or.inl (fun e => Or.inr (Or.inr e.1)), by simp, fun x hx => ?_⟩
    rw [List.mem_append, List.mem_singleton] at hx
    rcases hx with hx | rfl
    · exact hc x hx
    · exact Nat.zero_le _
  · refine (law_mine_some FW wb qs bs is g n cap cur w h hh hcs hcm (fun e => hF g e hg) hl).mono ?_
    rintro e w' ⟨rfl, hW, hK⟩
    refine ⟨rfl, _, _, _, hW, hK, fun k hk => hk.elim Or.inl (fun e => Or.inr (by rw [e]; exact hg)), fun k hk => hk.elim (fun e => e.elim Or.inl (fun e => Or.inr (Or.inl (by rw [e]; exact hg)))) (fun e => Or.inr (Or.inr e.1)), by simp, fun x hx => ?_⟩
    rw [List.mem_append, List.mem_singleton] at hx
    rcases hx with hx | rfl
    · exact hc x hx
    · exact hcm
/-- 'mine', whatever the slice -/
theorem law_mine_row {FW : Nat → Prop} {wb : Nat} {qs : List (Nat × Nat)} {bs is : List (Option Addr × Nat)} {ao : Option Addr} {n cap lim : Nat} {xs : List Value} {w : World} (h : WAt w FW wb qs bs is) (hrow : Row w (fun b => lim ≤ b) 5 1 ao n cap xs) (hF : ∀ k, FW k → k < lim) (hlim : lim ≤ w.heap.size) (hl : bs.length ≤ 1000000) (hc : ∀ x ∈ bs, x.2 ≤ maxLen) :
    Calls Tryz.prog 67 #[.pointer (some ⟨wb, 0, none⟩), .slice ao n cap] w fun e w' => e = .returned (.tuple #[]) ∧ ∃ FW' G bs', WAt w' FW' wb qs bs' is ∧ Kept G w w' ∧ (∀ k, G k → FW k ∨ lim ≤ k) ∧ (∀ k, FW' k → FW k ∨ lim ≤ k) ∧ bs'.length = bs.length + 1 ∧ ∀ x ∈ bs', x.2 ≤ maxLen := by
  refine (law_mine_rowP h hrow (fun k hk e => by have := hF k hk; omega) hl hc).mono ?_
  rintro e w' ⟨rfl, FW', G, l', h1, h2, h3, h4, h5⟩
  exact ⟨rfl, FW', G, l', h1, h2, h3, fun k hk => (h4 k hk).elim Or.inl (fun e => Or.inr (e.elim id (fun e => Nat.le_trans hlim e))), h5⟩

set_option maxHeartbeats 1000000 in
set_option maxRecDepth 1000000 in
theorem law_told_waiting (wb B N : Nat) (FW : Nat → Prop) (ps : List PQ) (bs is : List (Option Addr × Nat)) (i : Nat) (a b c : Int) (s : ByteArray) (w : World) (h : AllAt w wb FW ps bs is B N) (hi : i < ps.length) (hN : N ≤ 100000) :
    Calls Tryz.prog 49 #[.pointer (some ⟨wb, 0, none⟩), .agg #[.pointer (some ⟨(ps[i]).x, 0, none⟩), .pointer (some ⟨(ps[i]).m, 0, none⟩)], opV 6 a b c s] w fun e w' => Steps w wb B N e w' := by
  unfold opV
  have HA := hide h
  have hpair := h.pair i hi
  have hlast := (h.st i hi).1
  clear h
  generalize (ps[i]).x = x at *
  generalize (ps[i]).m = m at *
  generalize (ps[i]).S = S at *
  generalize (ps[i]).F = F at *
  have hwf := hpair.wf
  obtain ⟨Fx, Fm, hP, hM, hd, hF⟩ := hpair
  have hb0 := hide (askW_below x m 6 a b c s w)
  have HP := hide (hP.below hb0.out)
  have HM := hide (hM.below hb0.out)
  have hsz := askW_size x m 6 a b c s w
  obtain ⟨p0, p1, _⟩ := cells2 (askW_p x m 6 a b c s w)
  have HO := hide (askW_p x m 6 a b c s w)
  clear hP hM hd hF
  go_enter Tryz.func49, Tryz.ntmps49
  go_wp2_with fail
  refine (prog_waiting S Fx x (askW x m 6 a b c s w) HP.out).mono ?_
  rintro e w1 ⟨ao, n, cap, rfl, hn, hrow, hb1⟩
  have hz1 : w.heap.size + 1 < w1.heap.size := by have := hb1.size; omega
  have hz1' : w.heap.size < w1.heap.size := by omega
  obtain ⟨_, p1, _⟩ := cells2 ((hb1.block w.heap.size (by omega)).trans HO.out)
  have HB1 := hide (hb0.out.trans (hb1.mono (by omega)))
  have HROW := hide hrow
  have HM1 := hide (HM.out.below hb1)
  have HNN := hide hn
  clear hb1 hrow hn
  go_wp2_with fail
  refine (ref_waiting S Fm m w1 HM1.out (by have := hwf.reqsLen; omega)).mono ?_
  rintro e w2 ⟨ao2, n2, cap2, rfl, hn2, hrow2, hb2⟩
  have e2 : n2 = n := by rw [hn2, HNN.out]
  subst e2
  have HB2 := hide hb2
  have HROW2 := hide hrow2
  have HROW1 : Hid (Row w2 (fun k => (askW x m 6 a b c s w).heap.size ≤ k) 3 1 ao n2 cap (encI (waitM S))) := HROW.out.same (fun a ha => by obtain ⟨c, hc, _⟩ := Row.block HROW.out ha; exact hb2.block _ (lt_of_heap hc))
  clear hrow2 hb2 hn2 HROW
  go_wp2_with fail
  refine (law_same (waitM S) _ _ ao ao2 n2 cap cap2 w2 HROW1.out HROW2.out HNN.out (by have := hwf.reqsLen; have := waitM_len S; have := HNN.out; omega)).mono ?_
  rintro e w3 ⟨rfl, nd, hw3⟩
  have HW3 := hide hw3
  clear hw3
  have HB3 : Hid (Below w.heap.size w w3) := by rw [HW3.out]; exact below_drewN (HB1.out.trans (HB2.out.mono (Nat.le_of_lt hz1'))) nd
  have HROW3 : Hid (Row w3 (fun k => w.heap.size ≤ k) 3 1 ao n2 cap (encI (waitM S))) := by
    rw [HW3.out]
    exact (HROW1.out.same (w' := w2.drewN nd) (fun _ _ => rfl)).mono (fun k hk => by omega)
  go_wp2_with fail
  refine (law_owned_row ((HA.out.below HB3.out).wat) HROW3.out HA.out.wat.lt HB3.out.size (by have := HA.out.lens; omega) HA.out.caps.2).mono ?_
  rintro e w4 ⟨rfl, FW', G, is', hW, hK, hG, hF', hl', hc'⟩
  have HX := hide (HA.out.wOp HB3.out hW hK hG hF' (by have := HA.out.lens; omega) ⟨HA.out.caps.1, hc'⟩)
  clear hW hK hG hF' hl' hc'
  go_wp2
  go_ret
  exact ⟨rfl, ⟨_, _, _, _, HX.out.1⟩, HX.out.2⟩
end Go.Proofs.YtiabdbeejkadnaaGreatDoor
