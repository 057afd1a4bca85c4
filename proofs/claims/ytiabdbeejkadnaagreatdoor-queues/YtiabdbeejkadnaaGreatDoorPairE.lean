/- The law's world with its queues: one queue more. Own work of the verifier. -/
import Derived.Test.YtiabdbeejkadnaaGreatDoorPairD
namespace Go.Proofs.YtiabdbeejkadnaaGreatDoor
open Go.RowKit Go.Maps
section
variable {w : World} {R L : Nat → Prop} {wb : Nat} {qs : List (Nat × Nat)} {bs is : List (Option Addr × Nat)} {aq : Option Addr} {cq : Nat} {ab : Option Addr} {cb : Nat} {ai : Option Addr} {ci : Nat}
theorem WBlk.grow_c0 {w2 : World} {o : Obj} {nb : Nat} (h : WBlk w R L wb qs bs is aq cq ab cb ai ci) (hgrow : (w.alloc o).grownBy w2 (Value.ownBlock (.slice aq nb cq))) (hn : qs.length = nb) : w2.cell? ⟨wb, 0, none⟩ = some (.slice aq nb cq) ∧ w2.frozen? ⟨wb, 0, none⟩ = false := by
  have hb : w2.heap[wb]? = w.heap[wb]? := (hgrow.block wb (by have := h.lt; simp; omega) (fun e => by obtain ⟨a, ha, hab⟩ := ownBlock_some e.symm; exact h.rq.ne h.blk (by decide) a ha hab)).trans (Below.heap_alloc _ _ _ h.lt)
  exact ⟨by rw [World.cell?_of_block (a := ⟨wb, 0, none⟩) hb, h.c0, hn], by rw [World.frozen?_of_block (a := ⟨wb, 0, none⟩) hb]; exact h.fz 0⟩
/-- one queue more: the world's block, its rows and lists behind the append and the store -/
theorem WBlk.pushQ {wr w2 : World} {x : Nat × Nat} {o : Obj} {nb g2 cap2 : Nat} {news : List Value} (HR : WBlk wr R L wb qs bs is aq cq ab cb ai ci)
    (hnb : qs.length = nb) (hnews : news = [.pointer (some ⟨x.1, 0, none⟩), .pointer (some ⟨x.2, 0, none⟩)])
    (hgrow : (wr.alloc o).grownBy w2 (Value.ownBlock (.slice aq nb cq))) (hown : w2.ownsRow 0 99 2 (.slice (some ⟨g2, 0, none⟩) (nb + 1) cap2) (nb + 1) (encQ qs ++ news)) (hat : Value.ownBlock (.slice aq nb cq) = some g2 ∨ g2 = wr.heap.size + 1) (hlt : g2 < w2.heap.size) :
    WBlk (w2.setCell ⟨wb, 0, none⟩ (.slice (some ⟨g2, 0, none⟩) (nb + 1) cap2)) (fun k => R k ∨ (wr.heap.size ≤ k ∧ k < (w2.setCell ⟨wb, 0, none⟩ (.slice (some ⟨g2, 0, none⟩) (nb + 1) cap2)).heap.size)) L wb (qs ++ [x]) bs is (some ⟨g2, 0, none⟩) cap2 ab cb ai ci := by
  have hz2 : ∀ v, (w2.setCell ⟨wb, 0, none⟩ v).heap.size = w2.heap.size := fun v => by simp [World.setCell]
  have hzz : wr.heap.size ≤ w2.heap.size := by have := hgrow.size; simp at this; omega
  have hs : ∀ k, k < wr.heap.size → (∀ a, aq = some a → a.block ≠ k) → w2.heap[k]? = wr.heap[k]? := fun k hk hne =>
    (hgrow.block k (by simp; omega) (fun e => by obtain ⟨a, ha, hab⟩ := ownBlock_some e.symm; exact hne a ha hab)).trans (Below.heap_alloc _ _ _ hk)
  have hwb : w2.heap[wb]? = wr.heap[wb]? := hs wb HR.lt (HR.rq.ne HR.blk (by decide))
  have hcl : ∀ k, L k → k < wr.heap.size → (w2.setCell ⟨wb, 0, none⟩ (.slice (some ⟨g2, 0, none⟩) (nb + 1) cap2)).heap[k]? = wr.heap[k]? := by
    intro k hk hlk
    rw [Below.heap_setCell _ _ _ _ (fun e => HR.apart wb HR.own (by have e' : k = wb := e; rw [← e']; exact hk))]
    exact hs k hlk (fun a ha e => HR.apart k (e ▸ HR.rq.2 a ha) hk)
  have hR : ∀ k, R k → (fun k => R k ∨ (wr.heap.size ≤ k ∧ k < (w2.setCell ⟨wb, 0, none⟩ (.slice (some ⟨g2, 0, none⟩) (nb + 1) cap2)).heap.size)) k := fun k hk => Or.inl hk
  have hblk2 := hwb.trans HR.blk
  have hlen : (encQ qs ++ news) = encQ (qs ++ [x]) := by rw [hnews]; simp [encQ]
  have hg2R : R g2 ∨ (wr.heap.size ≤ g2 ∧ g2 < (w2.setCell ⟨wb, 0, none⟩ (.slice (some ⟨g2, 0, none⟩) (nb + 1) cap2)).heap.size) := by
    rcases hat with e | e
    · obtain ⟨a, ha, hab⟩ := ownBlock_some e; exact Or.inl (hab ▸ HR.rq.2 a ha)
    · exact Or.inr ⟨by omega, by rw [hz2]; exact hlt⟩
  refine ⟨?_, Or.inl HR.own, ?_, ?_, ?_, ?_, ?_, ?_, ?_, ?_⟩
  · rw [heap_setCell_at hblk2]
    simp [List.length_append, hnb]
  · have hr2 : Row w2 (fun k => R k ∨ (wr.heap.size ≤ k ∧ k < (w2.setCell ⟨wb, 0, none⟩ (.slice (some ⟨g2, 0, none⟩) (nb + 1) cap2)).heap.size)) 99 2 (some ⟨g2, 0, none⟩) (nb + 1) cap2 (encQ qs ++ news) := ⟨hown, fun a ha => by cases ha; exact hg2R⟩
    rw [hlen] at hr2
    have hl2 : (qs ++ [x]).length = nb + 1 := by rw [List.length_append, hnb]; rfl
    rw [hl2]
    exact hr2.setCell_other (hr2.ne hblk2 (by decide)) _
  · have : Row w2 R 86 1 ab bs.length cb (encL bs) := HR.rb.same fun a ha => by obtain ⟨c, hc, _⟩ := HR.rb.block ha; exact hs _ (lt_of_heap hc) (HR.rq.ne hc (by decide))
    exact (this.setCell_other (this.ne hblk2 (by decide)) _).mono hR
  · have : Row w2 R 24 1 ai is.length ci (encL is) := HR.ri.same fun a ha => by obtain ⟨c, hc, _⟩ := HR.ri.block ha; exact hs _ (lt_of_heap hc) (HR.rq.ne hc (by decide))
    exact (this.setCell_other (this.ne hblk2 (by decide)) _).mono hR
  · intro i hi
    rcases HR.lb i hi with h | ⟨g, h1, h2, h3⟩
    · exact Or.inl h
    · exact Or.inr ⟨g, h1, h2, (hcl g h2 (lt_of_heap h3)).trans h3⟩
  · intro i hi
    rcases HR.li i hi with h | ⟨g, h1, h2, h3⟩
    · exact Or.inl h
    · exact Or.inr ⟨g, h1, h2, (hcl g h2 (lt_of_heap h3)).trans h3⟩
  · intro k hk hLk
    rcases hk with hk | hk
    · exact HR.apart k hk hLk
    · have := HR.ltL k hLk; omega
  · intro k hk
    rcases hk with hk | hk
    · rw [hz2]; have := HR.ltR k hk; omega
    · exact hk.2
  · intro k hk
    rw [hz2]; have := HR.ltL k hk; omega
end

/-! ### all queues of the law's world -/
structure PQ where
  x : Nat
  m : Nat
  S : St
  F : Nat → Prop
structure AllAt (w : World) (wb : Nat) (FW : Nat → Prop) (ps : List PQ) (bs is : List (Option Addr × Nat)) (B N : Nat) : Prop where
  wat : WAt w FW wb (ps.map fun p => (p.x, p.m)) bs is
  pair : ∀ i (h : i < ps.length), PairAt w (ps[i]).F (ps[i]).x (ps[i]).m (ps[i]).S
  apW : ∀ i (h : i < ps.length), ∀ k, FW k → ¬ (ps[i]).F k
  apP : ∀ i j (hi : i < ps.length) (hj : j < ps.length), i ≠ j → ∀ k, (ps[i]).F k → ¬ (ps[j]).F k
  geW : ∀ k, FW k → B ≤ k
  geP : ∀ i (h : i < ps.length), ∀ k, (ps[i]).F k → B ≤ k
  g : GCell w
  pos : 0 < B
  low : B ≤ w.heap.size
  lens : ps.length ≤ N ∧ bs.length ≤ N ∧ is.length ≤ 4 * N
  st : ∀ i (h : i < ps.length), (ps[i]).S.last ≤ N ∧ 0 ≤ (ps[i]).S.now ∧ (ps[i]).S.now ≤ N
  caps : (∀ x ∈ bs, x.2 ≤ maxLen) ∧ ∀ x ∈ is, x.2 ≤ maxLen
section
variable {w w' w3 : World} {wb : Nat} {FW FW' G : Nat → Prop} {ps : List PQ} {bs is bs' is' : List (Option Addr × Nat)} {B N : Nat}
theorem AllAt.gcell (h : AllAt w wb FW ps bs is B N) (hb : Below B w w') : GCell w' := (hb.cell (p := ⟨0, 0, none⟩) h.pos).trans h.g
/-- only new blocks -/
theorem AllAt.below (h : AllAt w wb FW ps bs is B N) (hb : Below w.heap.size w w') : AllAt w' wb FW ps bs is B N where
  wat := h.wat.same (fun k _ hk => hb.block k hk) hb.size
  pair := fun i hi => (h.pair i hi).below hb
  apW := h.apW
  apP := h.apP
  geW := h.geW
  geP := h.geP
  g := h.gcell (hb.mono h.low)
  pos := h.pos
  low := Nat.le_trans h.low hb.size
  lens := h.lens
  st := h.st
  caps := h.caps
theorem AllAt.more (h : AllAt w wb FW ps bs is B N) {N' : Nat} (hN : N ≤ N') : AllAt w wb FW ps bs is B N' :=
  ⟨h.wat, h.pair, h.apW, h.apP, h.geW, h.geP, h.g, h.pos, h.low, by have := h.lens; omega, fun i hi => by have := h.st i hi; omega, h.caps⟩
/-- a call on one queue, whatever of the new blocks is booked to it -/
theorem AllAt.pairOpG (h : AllAt w wb FW ps bs is B N) (i : Nat) (hi : i < ps.length) {S' : St} {F' : Nat → Prop} {M : Nat} (hM : N ≤ M) (hP : PairAt w' F' (ps[i]).x (ps[i]).m S') (hF' : ∀ k, F' k → (ps[i]).F k ∨ w.heap.size ≤ k) (hl : S'.last ≤ M) (hn : 0 ≤ S'.now ∧ S'.now ≤ M) (hK : Kept (ps[i]).F w w') :
    AllAt w' wb FW (ps.set i ⟨(ps[i]).x, (ps[i]).m, S', F'⟩) bs is B M ∧ Below B w w' := by
  have hb : Below B w w' := hK.toBelow (h.geP i hi) h.low
  have hlt : ∀ j (hj : j < ps.length), ∀ k, (ps[j]).F k → k < w.heap.size := fun j hj => (h.pair j hj).lt
  refine ⟨⟨?_, fun j hj => ?_, fun j hj k hk => ?_, fun j j' hj hj' hne k hk hk' => ?_, h.geW, fun j hj k hk => ?_, h.gcell hb, h.pos, Nat.le_trans h.low hK.size, by have := h.lens; rw [List.length_set]; omega, fun j hj => ?_, h.caps⟩, hb⟩
  · have e : (ps.set i ⟨(ps[i]).x, (ps[i]).m, S', F'⟩).map (fun p => (p.x, p.m)) = ps.map (fun p => (p.x, p.m)) := by
      apply List.ext_getElem
      · simp
      · intro j h1 h2
        simp only [List.getElem_map, List.getElem_set]
        split
        · rename_i e; subst e; rfl
        · rfl
    rw [e]
    exact h.wat.kept hK (fun k hk => h.apW i hi k hk)
  · rw [List.length_set] at hj
    simp only [List.getElem_set]
    by_cases e : i = j
    · subst e; simp only [if_true]; exact hP
    · simp only [e, if_false]
      exact (h.pair j hj).kept hK (fun k hk => h.apP j i hj hi (fun x => e x.symm) k hk)
  · rw [List.length_set] at hj
    simp only [List.getElem_set]
    by_cases e : i = j
    · subst e; simp only [if_true]
      intro hk0
      rcases hF' k hk0 with hk' | hk'
      · exact h.apW i hi k hk hk'
      · have := h.wat.lt k hk; omega
    · simp only [e, if_false]; exact h.apW j hj k hk
  · rw [List.length_set] at hj hj'
    simp only [List.getElem_set] at hk hk'
    by_cases e : i = j
    · subst e
      simp only [if_true] at hk
      simp only [hne, if_false] at hk'
      rcases hF' k hk with hk | hk
      · exact h.apP i j' hi hj' hne k hk hk'
      · have := hlt j' hj' k hk'; omega
    · simp only [e, if_false] at hk
      by_cases e' : i = j'
      · subst e'
        simp only [if_true] at hk'
        rcases hF' k hk' with hk' | hk'
        · exact h.apP j i hj hi hne k hk hk'
        · have := hlt j hj k hk; omega
      · simp only [e', if_false] at hk'
        exact h.apP j j' hj hj' hne k hk hk'
  · rw [List.length_set] at hj
    simp only [List.getElem_set] at hk
    by_cases e : i = j
    · subst e; simp only [if_true] at hk
      rcases hF' k hk with hk | hk
      · exact h.geP i hi k hk
      · have := h.low; omega
    · simp only [e, if_false] at hk; exact h.geP j hj k hk
  · rw [List.length_set] at hj
    simp only [List.getElem_set]
    by_cases e : i = j
    · subst e; simp only [if_true]; exact ⟨hl, hn.1, hn.2⟩
    · simp only [e, if_false]; have := h.st j hj; omega
/-- a call on one queue -/
theorem AllAt.pairOp (h : AllAt w wb FW ps bs is B N) (i : Nat) (hi : i < ps.length) {S' : St} (hP : PairAt w' (Foot (ps[i]).F w w') (ps[i]).x (ps[i]).m S') (hl : S'.last ≤ (ps[i]).S.last + 1) (hn : 0 ≤ S'.now ∧ S'.now ≤ (ps[i]).S.now + 1) (hK : Kept (ps[i]).F w w') :
    AllAt w' wb FW (ps.set i ⟨(ps[i]).x, (ps[i]).m, S', Foot (ps[i]).F w w'⟩) bs is B (N + 1) ∧ Below B w w' :=
  h.pairOpG i hi (Nat.le_succ N) hP (fun _ hk => hk.elim Or.inl (fun e => Or.inr e.1)) (by have := h.st i hi; omega) (by have := h.st i hi; omega) hK
/-- a call on the world's own lists -/
theorem AllAt.wOp (h : AllAt w wb FW ps bs is B N) (hb : Below w.heap.size w w3) (hW : WAt w' FW' wb (ps.map fun p => (p.x, p.m)) bs' is') (hK : Kept G w3 w') (hG : ∀ k, G k → FW k ∨ w.heap.size ≤ k) (hF' : ∀ k, FW' k → FW k ∨ w.heap.size ≤ k)
    (hl : bs'.length ≤ N + 1 ∧ is'.length ≤ 4 * (N + 1)) (hc : (∀ x ∈ bs', x.2 ≤ maxLen) ∧ ∀ x ∈ is', x.2 ≤ maxLen) : AllAt w' wb FW' ps bs' is' B (N + 1) ∧ Below B w w' := by
  have hz := hb.size
  have hK' : Kept FW w w' := (Go.Proofs.YtiabdbeejkadnaaGreatDoor.Below.kept hb FW).trans (hK.mono fun k _ hk => hG k hk)
  have hB : Below B w w' := hK'.toBelow h.geW h.low
  refine ⟨⟨hW, fun i hi => (h.pair i hi).kept hK' (fun k hk hw => h.apW i hi k hw hk), fun i hi k hk hp => ?_, h.apP, fun k hk => ?_, h.geP, h.gcell hB, h.pos, Nat.le_trans h.low hK'.size, by have := h.lens; omega, fun i hi => by have := h.st i hi; omega, hc⟩, hB⟩
  · rcases hF' k hk with hk | hk
    · exact h.apW i hi k hk hp
    · have := (h.pair i hi).lt k hp; omega
  · rcases hF' k hk with hk | hk
    · exact h.geW k hk
    · have := h.low; omega
/-- a call on the world's own lists, where what is taken up lies in P, apart from all queues -/
theorem AllAt.wOpG (h : AllAt w wb FW ps bs is B N) {P : Nat → Prop} {M : Nat} (hM : N ≤ M) (hb : Below w.heap.size w w3) (hW : WAt w' FW' wb (ps.map fun p => (p.x, p.m)) bs' is') (hK : Kept G w3 w') (hG : ∀ k, G k → FW k ∨ P k) (hF' : ∀ k, FW' k → FW k ∨ P k ∨ w.heap.size ≤ k)
    (hPB : ∀ k, P k → B ≤ k) (hPp : ∀ i (hi : i < ps.length), ∀ k, P k → ¬ (ps[i]).F k) (hl : bs'.length ≤ M ∧ is'.length ≤ 4 * M) (hc : (∀ x ∈ bs', x.2 ≤ maxLen) ∧ ∀ x ∈ is', x.2 ≤ maxLen) : AllAt w' wb FW' ps bs' is' B M ∧ Below B w w' := by
  have hz := hb.size
  have hK' : Kept (fun k => FW k ∨ P k) w w' := (Go.Proofs.YtiabdbeejkadnaaGreatDoor.Below.kept hb _).then (hK.mono fun k _ hk => hG k hk)
  have hB : Below B w w' := hK'.toBelow (fun k hk => hk.elim (h.geW k) (hPB k)) h.low
  refine ⟨⟨hW, fun i hi => (h.pair i hi).kept hK' (fun k hk hw => hw.elim (fun hw => h.apW i hi k hw hk) (fun hw => hPp i hi k hw hk)), fun i hi k hk hp => ?_, h.apP, fun k hk => ?_, h.geP, h.gcell hB, h.pos, Nat.le_trans h.low hK'.size, by have := h.lens; omega, fun i hi => by have := h.st i hi; omega, hc⟩, hB⟩
  · rcases hF' k hk with hk | hk | hk
    · exact h.apW i hi k hk hp
    · exact hPp i hi k hk hp
    · have := (h.pair i hi).lt k hp; omega
  · rcases hF' k hk with hk | hk | hk
    · exact h.geW k hk
    · exact hPB k hk
    · have := h.low; omega
end
end Go.Proofs.YtiabdbeejkadnaaGreatDoor
