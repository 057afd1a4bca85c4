import Derived.Test.YtiabdbeejkadnaaGreatDoorJ5ba13d981d
/- The law's world: mine, owned: what came out is the caller's. Own work of the verifier. -/
namespace Go.Proofs.YtiabdbeejkadnaaGreatDoor
open Go.RowKit
section
variable {w : World} {R L : Nat → Prop} {wb : Nat} {qs : List (Nat × Nat)} {bs is : List (Option Addr × Nat)} {aq : Option Addr} {cq : Nat} {ab : Option Addr} {cb : Nat} {ai : Option Addr} {ci : Nat}
theorem ownBlock_some {ao : Option Addr} {n c k : Nat} (h : Value.ownBlock (.slice ao n c) = some k) : ∃ a, ao = some a ∧ a.block = k := by
  cases ao with
  | none => simp [Value.ownBlock] at h
  | some a => exact ⟨a, rfl, by simpa [Value.ownBlock] using h⟩
/-- what the walk reads of the world's block behind an append to one of its rows -/
theorem WBlk.grow_c1 {w2 : World} {o : Obj} {nb : Nat} (h : WBlk w R L wb qs bs is aq cq ab cb ai ci) (hgrow : (w.alloc o).grownBy w2 (Value.ownBlock (.slice ab nb cb))) (hn : bs.length = nb) : w2.cell? ⟨wb, 1, none⟩ = some (.slice ab nb cb) ∧ w2.frozen? ⟨wb, 1, none⟩ = false := by
  have hb : w2.heap[wb]? = w.heap[wb]? := (hgrow.block wb (by have := h.lt; simp; omega) (fun e => by obtain ⟨a, ha, hab⟩ := ownBlock_some e.symm; exact h.rb.ne h.blk (by decide) a ha hab)).trans (Below.heap_alloc _ _ _ h.lt)
  exact ⟨by rw [World.cell?_of_block (a := ⟨wb, 1, none⟩) hb, h.c1, hn], by rw [World.frozen?_of_block (a := ⟨wb, 1, none⟩) hb]; exact h.fz 1⟩
theorem WBlk.grow_c2 {w2 : World} {o : Obj} {nb : Nat} (h : WBlk w R L wb qs bs is aq cq ab cb ai ci) (hgrow : (w.alloc o).grownBy w2 (Value.ownBlock (.slice ai nb ci))) (hn : is.length = nb) : w2.cell? ⟨wb, 2, none⟩ = some (.slice ai nb ci) ∧ w2.frozen? ⟨wb, 2, none⟩ = false := by
  have hb : w2.heap[wb]? = w.heap[wb]? := (hgrow.block wb (by have := h.lt; simp; omega) (fun e => by obtain ⟨a, ha, hab⟩ := ownBlock_some e.symm; exact h.ri.ne h.blk (by decide) a ha hab)).trans (Below.heap_alloc _ _ _ h.lt)
  exact ⟨by rw [World.cell?_of_block (a := ⟨wb, 2, none⟩) hb, h.c2, hn], by rw [World.frozen?_of_block (a := ⟨wb, 2, none⟩) hb]; exact h.fz 2⟩

/-- one list more: the world's block, its rows and lists behind the append and the store -/
theorem WBlk.pushB {w wr w2 : World} {L' : Nat → Prop} {x : Option Addr × Nat} {o : Obj} {nb g2 cap2 : Nat} {news : List Value} (HR : WBlk wr R L wb qs bs is aq cq ab cb ai ci) (hz : w.heap.size ≤ wr.heap.size)
    (hL : ∀ k, L k → L' k) (hLl : ∀ k, L' k → k < w.heap.size) (hap : ∀ k, R k → ¬ L' k) (hx : Own1 wr L' 5 x.1 x.2 (byteAt nb)) (hnb : bs.length = nb) (hnews : news = [.slice x.1 x.2 x.2])
    (hgrow : (wr.alloc o).grownBy w2 (Value.ownBlock (.slice ab nb cb))) (hown : w2.ownsRow 0 86 1 (.slice (some ⟨g2, 0, none⟩) (nb + 1) cap2) (nb + 1) (encL bs ++ news)) (hat : Value.ownBlock (.slice ab nb cb) = some g2 ∨ g2 = wr.heap.size + 1) (hlt : g2 < w2.heap.size) :
    WBlk (w2.setCell ⟨wb, 1, none⟩ (.slice (some ⟨g2, 0, none⟩) (nb + 1) cap2)) (fun k => R k ∨ (w.heap.size ≤ k ∧ k < (w2.setCell ⟨wb, 1, none⟩ (.slice (some ⟨g2, 0, none⟩) (nb + 1) cap2)).heap.size)) L' wb qs (bs ++ [x]) is aq cq (some ⟨g2, 0, none⟩) cap2 ai ci := by
  have hz2 : ∀ v, (w2.setCell ⟨wb, 1, none⟩ v).heap.size = w2.heap.size := fun v => by simp [World.setCell]
  have hzz : wr.heap.size ≤ w2.heap.size := by have := hgrow.size; simp at this; omega
  have hs : ∀ k, k < wr.heap.size → (∀ a, ab = some a → a.block ≠ k) → w2.heap[k]? = wr.heap[k]? := fun k hk hne =>
    (hgrow.block k (by simp; omega) (fun e => by obtain ⟨a, ha, hab⟩ := ownBlock_some e.symm; exact hne a ha hab)).trans (Below.heap_alloc _ _ _ hk)
  have hwb : w2.heap[wb]? = wr.heap[wb]? := hs wb HR.lt (HR.rb.ne HR.blk (by decide))
  have hcl : ∀ k, L' k → k < wr.heap.size → (w2.setCell ⟨wb, 1, none⟩ (.slice (some ⟨g2, 0, none⟩) (nb + 1) cap2)).heap[k]? = wr.heap[k]? := by
    intro k hk hlk
    rw [Below.heap_setCell _ _ _ _ (fun e => hap wb HR.own (by have e' : k = wb := e; rw [← e']; exact hk))]
    exact hs k hlk (fun a ha e => hap k (e ▸ HR.rb.2 a ha) hk)
  have hR : ∀ k, R k → (fun k => R k ∨ (w.heap.size ≤ k ∧ k < (w2.setCell ⟨wb, 1, none⟩ (.slice (some ⟨g2, 0, none⟩) (nb + 1) cap2)).heap.size)) k := fun k hk => Or.inl hk
  have hblk2 := hwb.trans HR.blk
  have hlen : (encL bs ++ news) = encL (bs ++ [x]) := by rw [hnews]; simp [encL]
  have hg2R : R g2 ∨ (w.heap.size ≤ g2 ∧ g2 < (w2.setCell ⟨wb, 1, none⟩ (.slice (some ⟨g2, 0, none⟩) (nb + 1) cap2)).heap.size) := by
    rcases hat with e | e
    · obtain ⟨a, ha, hab⟩ := ownBlock_some e; exact Or.inl (hab ▸ HR.rb.2 a ha)
    · exact Or.inr ⟨by omega, by rw [hz2]; exact hlt⟩
  refine ⟨?_, Or.inl HR.own, ?_, ?_, ?_, ?_, ?_, ?_, ?_, ?_⟩
  · rw [heap_setCell_at hblk2]
    simp [List.length_append, hnb]
  · have : Row w2 R 99 2 aq qs.length cq (encQ qs) := HR.rq.same fun a ha => by obtain ⟨c, hc, _⟩ := HR.rq.block ha; exact hs _ (lt_of_heap hc) (HR.rb.ne hc (by decide))
    exact (this.setCell_other (this.ne hblk2 (by decide)) _).mono hR
  · have hr2 : Row w2 (fun k => R k ∨ (w.heap.size ≤ k ∧ k < (w2.setCell ⟨wb, 1, none⟩ (.slice (some ⟨g2, 0, none⟩) (nb + 1) cap2)).heap.size)) 86 1 (some ⟨g2, 0, none⟩) (nb + 1) cap2 (encL bs ++ news) := ⟨hown, fun a ha => by cases ha; exact hg2R⟩
    rw [hlen] at hr2
    have hl2 : (bs ++ [x]).length = nb + 1 := by rw [List.length_append, hnb]; rfl
    rw [hl2]
    exact hr2.setCell_other (hr2.ne hblk2 (by decide)) _
  · have : Row w2 R 24 1 ai is.length ci (encL is) := HR.ri.same fun a ha => by obtain ⟨c, hc, _⟩ := HR.ri.block ha; exact hs _ (lt_of_heap hc) (HR.rb.ne hc (by decide))
    exact (this.setCell_other (this.ne hblk2 (by decide)) _).mono hR
  · intro i hi
    by_cases he : i < bs.length
    · have := (HR.lb i he)
      rw [List.getElem_append_left he]
      rcases this with h | ⟨g, h1, h2, h3⟩
      · exact Or.inl h
      · exact Or.inr ⟨g, h1, hL g h2, (hcl g (hL g h2) (lt_of_heap h3)).trans h3⟩
    · have hi' : i = nb := by simp at hi; omega
      subst hi'
      rw [List.getElem_append_right (by omega)]
      simp only [hnb, Nat.sub_self, List.getElem_cons_zero]
      exact hx.same hcl
  · intro i hi
    rcases HR.li i hi with h | ⟨g, h1, h2, h3⟩
    · exact Or.inl h
    · exact Or.inr ⟨g, h1, hL g h2, (hcl g (hL g h2) (lt_of_heap h3)).trans h3⟩
  · intro k hk hL'k
    rcases hk with hk | hk
    · exact hap k hk hL'k
    · have := hLl k hL'k; omega
  · intro k hk
    rcases hk with hk | hk
    · rw [hz2]; have := HR.ltR k hk; omega
    · exact hk.2
  · intro k hk
    rw [hz2]; have := hLl k hk; omega

/-- one list more: the world's block, its rows and lists behind the append and the store -/
theorem WBlk.pushI {w wr w2 : World} {L' : Nat → Prop} {x : Option Addr × Nat} {o : Obj} {nb g2 cap2 : Nat} {news : List Value} (HR : WBlk wr R L wb qs bs is aq cq ab cb ai ci) (hz : w.heap.size ≤ wr.heap.size)
    (hL : ∀ k, L k → L' k) (hLl : ∀ k, L' k → k < w.heap.size) (hap : ∀ k, R k → ¬ L' k) (hx : Own1 wr L' 3 x.1 x.2 (intAt nb)) (hnb : is.length = nb) (hnews : news = [.slice x.1 x.2 x.2])
    (hgrow : (wr.alloc o).grownBy w2 (Value.ownBlock (.slice ai nb ci))) (hown : w2.ownsRow 0 24 1 (.slice (some ⟨g2, 0, none⟩) (nb + 1) cap2) (nb + 1) (encL is ++ news)) (hat : Value.ownBlock (.slice ai nb ci) = some g2 ∨ g2 = wr.heap.size + 1) (hlt : g2 < w2.heap.size) :
    WBlk (w2.setCell ⟨wb, 2, none⟩ (.slice (some ⟨g2, 0, none⟩) (nb + 1) cap2)) (fun k => R k ∨ (w.heap.size ≤ k ∧ k < (w2.setCell ⟨wb, 2, none⟩ (.slice (some ⟨g2, 0, none⟩) (nb + 1) cap2)).heap.size)) L' wb qs bs (is ++ [x]) aq cq ab cb (some ⟨g2, 0, none⟩) cap2 := by
  have hz2 : ∀ v, (w2.setCell ⟨wb, 2, none⟩ v).heap.size = w2.heap.size := fun v => by simp [World.setCell]
  have hzz : wr.heap.size ≤ w2.heap.size := by have := hgrow.size; simp at this; omega
  have hs : ∀ k, k < wr.heap.size → (∀ a, ai = some a → a.block ≠ k) → w2.heap[k]? = wr.heap[k]? := fun k hk hne =>
    (hgrow.block k (by simp; omega) (fun e => by obtain ⟨a, ha, hab⟩ := ownBlock_some e.symm; exact hne a ha hab)).trans (Below.heap_alloc _ _ _ hk)
  have hwb : w2.heap[wb]? = wr.heap[wb]? := hs wb HR.lt (HR.ri.ne HR.blk (by decide))
  have hcl : ∀ k, L' k → k < wr.heap.size → (w2.setCell ⟨wb, 2, none⟩ (.slice (some ⟨g2, 0, none⟩) (nb + 1) cap2)).heap[k]? = wr.heap[k]? := by
    intro k hk hlk
    rw [Below.heap_setCell _ _ _ _ (fun e => hap wb HR.own (by have e' : k = wb := e; rw [← e']; exact hk))]
    exact hs k hlk (fun a ha e => hap k (e ▸ HR.ri.2 a ha) hk)
  have hR : ∀ k, R k → (fun k => R k ∨ (w.heap.size ≤ k ∧ k < (w2.setCell ⟨wb, 2, none⟩ (.slice (some ⟨g2, 0, none⟩) (nb + 1) cap2)).heap.size)) k := fun k hk => Or.inl hk
  have hblk2 := hwb.trans HR.blk
  have hlen : (encL is ++ news) = encL (is ++ [x]) := by rw [hnews]; simp [encL]
  have hg2R : R g2 ∨ (w.heap.size ≤ g2 ∧ g2 < (w2.setCell ⟨wb, 2, none⟩ (.slice (some ⟨g2, 0, none⟩) (nb + 1) cap2)).heap.size) := by
    rcases hat with e | e
    · obtain ⟨a, ha, hab⟩ := ownBlock_some e; exact Or.inl (hab ▸ HR.ri.2 a ha)
    · exact Or.inr ⟨by omega, by rw [hz2]; exact hlt⟩
  refine ⟨?_, Or.inl HR.own, ?_, ?_, ?_, ?_, ?_, ?_, ?_, ?_⟩
  · rw [heap_setCell_at hblk2]
    simp [List.length_append, hnb]
  · have : Row w2 R 99 2 aq qs.length cq (encQ qs) := HR.rq.same fun a ha => by obtain ⟨c, hc, _⟩ := HR.rq.block ha; exact hs _ (lt_of_heap hc) (HR.ri.ne hc (by decide))
    exact (this.setCell_other (this.ne hblk2 (by decide)) _).mono hR
  · have : Row w2 R 86 1 ab bs.length cb (encL bs) := HR.rb.same fun a ha => by obtain ⟨c, hc, _⟩ := HR.rb.block ha; exact hs _ (lt_of_heap hc) (HR.ri.ne hc (by decide))
    exact (this.setCell_other (this.ne hblk2 (by decide)) _).mono hR
  · have hr2 : Row w2 (fun k => R k ∨ (w.heap.size ≤ k ∧ k < (w2.setCell ⟨wb, 2, none⟩ (.slice (some ⟨g2, 0, none⟩) (nb + 1) cap2)).heap.size)) 24 1 (some ⟨g2, 0, none⟩) (nb + 1) cap2 (encL is ++ news) := ⟨hown, fun a ha => by cases ha; exact hg2R⟩
    rw [hlen] at hr2
    have hl2 : (is ++ [x]).length = nb + 1 := by rw [List.length_append, hnb]; rfl
    rw [hl2]
    exact hr2.setCell_other (hr2.ne hblk2 (by decide)) _
  · intro i hi
    rcases HR.lb i hi with h | ⟨g, h1, h2, h3⟩
    · exact Or.inl h
    · exact Or.inr ⟨g, h1, hL g h2, (hcl g (hL g h2) (lt_of_heap h3)).trans h3⟩
  · intro i hi
    by_cases he : i < is.length
    · have := (HR.li i he)
      rw [List.getElem_append_left he]
      rcases this with h | ⟨g, h1, h2, h3⟩
      · exact Or.inl h
      · exact Or.inr ⟨g, h1, hL g h2, (hcl g (hL g h2) (lt_of_heap h3)).trans h3⟩
    · have hi' : i = nb := by simp at hi; omega
      subst hi'
      rw [List.getElem_append_right (by omega)]
      simp only [hnb, Nat.sub_self, List.getElem_cons_zero]
      exact hx.same hcl
  · intro k hk hL'k
    rcases hk with hk | hk
    · exact hap k hk hL'k
    · have := hLl k hL'k; omega
  · intro k hk
    rcases hk with hk | hk
    · rw [hz2]; have := HR.ltR k hk; omega
    · exact hk.2
  · intro k hk
    rw [hz2]; have := hLl k hk; omega
end

set_option maxHeartbeats 1000000 in
set_option maxRecDepth 1000000 in
theorem law_mine_some (F : Nat → Prop) (wb : Nat) (qs : List (Nat × Nat)) (bs is : List (Option Addr × Nat)) (g n cap : Nat) (cur : Array Value) (w : World) (h : WAt w F wb qs bs is) (hg : w.heap[g]? = some (.cells cur 5 (0, 0))) (hcs : cur.size = cap) (hcm : cap ≤ maxLen) (hnF : ¬ F g) (hl : bs.length ≤ 1000000) :
    Calls Tryz.prog 67 #[.pointer (some ⟨wb, 0, none⟩), .slice (some ⟨g, 0, none⟩) n cap] w fun e w' => e = .returned (.tuple #[]) ∧ WAt w' (Foot (fun k => F k ∨ k = g) w w') wb qs (bs ++ [(some ⟨g, 0, none⟩, cap)]) is ∧ Kept (fun k => F k ∨ k = g) w w' := by
  obtain ⟨R, L, aq, cq, ab, cb, ai, ci, h, hF⟩ := h
  obtain ⟨i0, hi, hi0, hi1, hi2⟩ := info_parts info_bs
  have hwg : wb ≠ g := fun e => hnF ((hF g).2 (Or.inl (e ▸ h.own)))
  have c1 := h.c1
  have f1 := h.fz 1
  have hlt := h.lt
  have H : Hid (WBlk w R L wb qs bs is aq cq ab cb ai ci) := h
  have HF : Hid (∀ k, F k ↔ (R k ∨ L k)) := hF
  have HG : Hid (¬ F g) := hnF
  have H0 : Hid (w.heap[g]? = some (.cells cur 5 (0, 0))) := hg
  clear h hF hnF hg
  unfold maxLen at hcm
  generalize hB : bs.length = nb at *
  have hB' : Hid (bs.length = nb) := hB
  clear hB
  go_enter Tryz.func67, Tryz.ntmps67
  go_wp2
  go_loopw [5] (fun i wr => ∃ k : Nat, k ≤ cap ∧ i = .int .i64 k ∧ Hid (∃ arr : Array Value, wr.heap[g]? = some (.cells arr 5 (0, 0)) ∧ arr.size = cap ∧ ∀ j, j < k → arr[j]? = some (byteAt nb)) ∧ Hid (Kept (fun b => b = g) w wr)) (fun i _ => cap - (intOf i).toNat)
  case atStart => exact ⟨0, Nat.zero_le _, rfl, ⟨cur, H0.out, hcs, fun j hj => by omega⟩, Kept.refl _ _⟩
  case round =>
    obtain ⟨k, hk, rfl, ha, hK⟩ := hrel
    have d1 : wr.cell? ⟨wb, 1, none⟩ = some (.slice ab nb cb) := (hK.out.cell (p := ⟨wb, 1, none⟩) hlt hwg).trans c1
    have e1 : wr.frozen? ⟨wb, 1, none⟩ = false := (hK.out.frozen (p := ⟨wb, 1, none⟩) hlt hwg).trans f1
    obtain ⟨arr, harr, hsz, hall⟩ := ha.out
    by_cases hlt2 : k < cap
    · have q0 : ∃ v, wr.cell? ⟨g, k, none⟩ = some v := ⟨arr[k]'(by omega), by simp [World.cell?, harr, hsz, hlt2]⟩
      have q1 : wr.frozen? ⟨g, k, none⟩ = false := by simp [World.frozen?, harr]
      obtain ⟨v0, q0⟩ := q0
      have HA : Hid (∃ arr' : Array Value, (wr.setCell ⟨g, k, none⟩ (byteAt nb)).heap[g]? = some (.cells arr' 5 (0, 0)) ∧ arr'.size = cap ∧ ∀ j, j < k + 1 → arr'[j]? = some (byteAt nb)) := by
        refine ⟨arr.setIfInBounds k (byteAt nb), heap_setCell_at harr _, by simpa using hsz, fun j hj => ?_⟩
        rw [Array.getElem?_setIfInBounds]
        by_cases e : k = j
        · rw [if_pos e, if_pos (by omega)]
        · rw [if_neg e]; exact hall j (by omega)
      have HK2 : Hid (Kept (fun b => b = g) w (wr.setCell ⟨g, k, none⟩ (byteAt nb))) := hK.out.setCell (p := ⟨g, k, none⟩) (Or.inl rfl) _
      clear hall harr ha hK hsz arr
      go_wp2
      go_roundw
      case rel => exact ⟨k + 1, by omega, by go_num, HA, HK2⟩
      case measure => simp [intOf]; omega
    · have hke : k = cap := by omega
      have HE : Hid (wr.heap[g]? = some (.cells (Array.replicate cap (byteAt nb)) 5 (0, 0))) := by
        have : arr = Array.replicate cap (byteAt nb) := by
          apply Array.ext_getElem?
          intro j
          by_cases hj : j < cap
          · rw [hall j (by omega)]; simp [hj]
          · rw [Array.getElem?_eq_none (by omega), Array.getElem?_eq_none (by simp; omega)]
        rw [← this]; exact harr
      clear hall harr ha hsz arr hke
      have HR : Hid (WBlk wr R L wb qs bs is aq cq ab cb ai ci) := H.out.same (fun t ht hl => hK.out.block t hl (fun e => HG.out ((HF.out g).2 (e ▸ ht)))) hK.out.size
      have HO : Hid ((wr.alloc (.cells #[.slice (some ⟨g, 0, none⟩) cap cap] 86)).ownsRow 0 86 1 (.slice ab nb cb) nb (encL bs)) := by
        have := (HR.out.rb.alloc (.cells #[.slice (some ⟨g, 0, none⟩) cap cap] 86)).1
        rw [hB'.out] at this; exact this
      have HW : Hid (∀ (t : Nat) (u : Value), [Value.slice (some ⟨g, 0, none⟩) cap cap][t]? = some u → (wr.alloc (.cells #[.slice (some ⟨g, 0, none⟩) cap cap] 86)).cell? ((⟨wr.heap.size, 0, none⟩ : Addr).add t) = some u) := fun t u => news_new t u
      go_wp2_with (at_builtin; go_must (refine wpList_append_lies _ rfl (.tmp 29) (.tmp 31) 47 rfl 0 86 i0 (.slice none 0 0) 1 24 Tryz.underlying47 hi hi0 hi1 hi2 rfl (by decide) (.slice ab nb cb) nb (encL bs) rfl HO.out ⟨wr.heap.size, 0, none⟩ 1 1 [Value.slice (some ⟨g, 0, none⟩) cap cap] rfl rfl HW.out (by intro u hu; simp at hu; subst hu; rfl) (by decide) (by unfold maxLen; omega) (by omega) (Nat.zero_le _) (wr.heap.size + 1) (by simp) ?_; intro g2 cap2 w2 hown hgrow hat hlt3; have HX := hide (And.intro hown (And.intro hgrow (And.intro hat hlt3))); have m1 := HR.out.grow_c1 hgrow (by rw [hB'.out]); clear hown hgrow hat hlt3; obtain ⟨m1, m2⟩ := m1))
      go_end0
      obtain ⟨hown, hgrow, hat, hlt3⟩ := HX.out
      have hgl : g < w.heap.size := lt_of_heap H0.out
      have hP := WBlk.pushB (w := w) (L' := fun k => L k ∨ k = g) (x := (some ⟨g, 0, none⟩, cap)) HR.out hK.out.size (fun _ h => Or.inl h) (fun k hk => hk.elim (H.out.ltL k) (fun e => e ▸ hgl)) (fun k hk hL => hL.elim (H.out.apart k hk) (fun e => HG.out ((HF.out g).2 (Or.inl (e ▸ hk))))) (Or.inr ⟨g, rfl, Or.inr rfl, HE.out⟩) hB'.out rfl hgrow hown hat hlt3
      have hz2 : ∀ v, (w2.setCell ⟨wb, 1, none⟩ v).heap.size = w2.heap.size := fun v => by simp [World.setCell]
      refine ⟨rfl, ⟨_, _, _, _, _, _, _, _, hP, fun k => ?_⟩, ?_⟩
      · constructor
        · rintro ((h | h) | h)
          · exact ((HF.out k).1 h).elim (fun h => Or.inl (Or.inl h)) (fun h => Or.inr (Or.inl h))
          · exact Or.inr (Or.inr h)
          · exact Or.inl (Or.inr h)
        · rintro ((h | h) | (h | h))
          · exact Or.inl (Or.inl ((HF.out k).2 (Or.inl h)))
          · exact Or.inr h
          · exact Or.inl (Or.inl ((HF.out k).2 (Or.inr h)))
          · exact Or.inl (Or.inr h)
      · refine Kept.setCell (Kept.grown ((hK.out.mono (fun _ _ h => Or.inr h)).alloc _) hgrow (fun k hk => ?_)) (p := ⟨wb, 1, none⟩) (Or.inl (Or.inl ((HF.out wb).2 (Or.inl H.out.own)))) _
        obtain ⟨a, ha, rfl⟩ := ownBlock_some hk
        exact Or.inl (Or.inl ((HF.out _).2 (Or.inl (H.out.rb.2 a ha))))

set_option maxHeartbeats 1000000 in
set_option maxRecDepth 1000000 in
theorem law_owned_some (F : Nat → Prop) (wb : Nat) (qs : List (Nat × Nat)) (bs is : List (Option Addr × Nat)) (g n cap : Nat) (cur : Array Value) (w : World) (h : WAt w F wb qs bs is) (hg : w.heap[g]? = some (.cells cur 3 (0, 0))) (hcs : cur.size = cap) (hcm : cap ≤ maxLen) (hnF : ¬ F g) (hl : is.length ≤ 1000000) :
    Calls Tryz.prog 74 #[.pointer (some ⟨wb, 0, none⟩), .slice (some ⟨g, 0, none⟩) n cap] w fun e w' => e = .returned (.tuple #[]) ∧ WAt w' (Foot (fun k => F k ∨ k = g) w w') wb qs bs (is ++ [(some ⟨g, 0, none⟩, cap)]) ∧ Kept (fun k => F k ∨ k = g) w w' := by
  obtain ⟨R, L, aq, cq, ab, cb, ai, ci, h, hF⟩ := h
  obtain ⟨i0, hi, hi0, hi1, hi2⟩ := info_parts info_is
  have hwg : wb ≠ g := fun e => hnF ((hF g).2 (Or.inl (e ▸ h.own)))
  have c1 := h.c2
  have f1 := h.fz 2
  have hlt := h.lt
  have H : Hid (WBlk w R L wb qs bs is aq cq ab cb ai ci) := h
  have HF : Hid (∀ k, F k ↔ (R k ∨ L k)) := hF
  have HG : Hid (¬ F g) := hnF
  have H0 : Hid (w.heap[g]? = some (.cells cur 3 (0, 0))) := hg
  clear h hF hnF hg
  unfold maxLen at hcm
  generalize hB : is.length = nb at *
  have hB' : Hid (is.length = nb) := hB
  clear hB
  go_enter Tryz.func74, Tryz.ntmps74
  go_wp2
  go_loopw [5] (fun i wr => ∃ k : Nat, k ≤ cap ∧ i = .int .i64 k ∧ Hid (∃ arr : Array Value, wr.heap[g]? = some (.cells arr 3 (0, 0)) ∧ arr.size = cap ∧ ∀ j, j < k → arr[j]? = some (intAt nb)) ∧ Hid (Kept (fun b => b = g) w wr)) (fun i _ => cap - (intOf i).toNat)
  case atStart => exact ⟨0, Nat.zero_le _, rfl, ⟨cur, H0.out, hcs, fun j hj => by omega⟩, Kept.refl _ _⟩
  case round =>
    obtain ⟨k, hk, rfl, ha, hK⟩ := hrel
    have d1 : wr.cell? ⟨wb, 2, none⟩ = some (.slice ai nb ci) := (hK.out.cell (p := ⟨wb, 2, none⟩) hlt hwg).trans c1
    have e1 : wr.frozen? ⟨wb, 2, none⟩ = false := (hK.out.frozen (p := ⟨wb, 2, none⟩) hlt hwg).trans f1
    obtain ⟨arr, harr, hsz, hall⟩ := ha.out
    by_cases hlt2 : k < cap
    · have q0 : ∃ v, wr.cell? ⟨g, k, none⟩ = some v := ⟨arr[k]'(by omega), by simp [World.cell?, harr, hsz, hlt2]⟩
      have q1 : wr.frozen? ⟨g, k, none⟩ = false := by simp [World.frozen?, harr]
      obtain ⟨v0, q0⟩ := q0
      have HA : Hid (∃ arr' : Array Value, (wr.setCell ⟨g, k, none⟩ (intAt nb)).heap[g]? = some (.cells arr' 3 (0, 0)) ∧ arr'.size = cap ∧ ∀ j, j < k + 1 → arr'[j]? = some (intAt nb)) := by
        refine ⟨arr.setIfInBounds k (intAt nb), heap_setCell_at harr _, by simpa using hsz, fun j hj => ?_⟩
        rw [Array.getElem?_setIfInBounds]
        by_cases e : k = j
        · rw [if_pos e, if_pos (by omega)]
        · rw [if_neg e]; exact hall j (by omega)
      have HK2 : Hid (Kept (fun b => b = g) w (wr.setCell ⟨g, k, none⟩ (intAt nb))) := hK.out.setCell (p := ⟨g, k, none⟩) (Or.inl rfl) _
      clear hall harr ha hK hsz arr
      go_wp2
      go_roundw
      case rel => exact ⟨k + 1, by omega, by go_num, HA, HK2⟩
      case measure => simp [intOf]; omega
    · have hke : k = cap := by omega
      have HE : Hid (wr.heap[g]? = some (.cells (Array.replicate cap (intAt nb)) 3 (0, 0))) := by
        have : arr = Array.replicate cap (intAt nb) := by
          apply Array.ext_getElem?
          intro j
          by_cases hj : j < cap
          · rw [hall j (by omega)]; simp [hj]
          · rw [Array.getElem?_eq_none (by omega), Array.getElem?_eq_none (by simp; omega)]
        rw [← this]; exact harr
      clear hall harr ha hsz arr hke
      have HR : Hid (WBlk wr R L wb qs bs is aq cq ab cb ai ci) := H.out.same (fun t ht hl => hK.out.block t hl (fun e => HG.out ((HF.out g).2 (e ▸ ht)))) hK.out.size
      have HO : Hid ((wr.alloc (.cells #[.slice (some ⟨g, 0, none⟩) cap cap] 24)).ownsRow 0 24 1 (.slice ai nb ci) nb (encL is)) := by
        have := (HR.out.ri.alloc (.cells #[.slice (some ⟨g, 0, none⟩) cap cap] 24)).1
        rw [hB'.out] at this; exact this
      have HW : Hid (∀ (t : Nat) (u : Value), [Value.slice (some ⟨g, 0, none⟩) cap cap][t]? = some u → (wr.alloc (.cells #[.slice (some ⟨g, 0, none⟩) cap cap] 24)).cell? ((⟨wr.heap.size, 0, none⟩ : Addr).add t) = some u) := fun t u => news_new t u
      go_wp2_with (at_builtin; go_must (refine wpList_append_lies _ rfl (.tmp 29) (.tmp 31) 48 rfl 0 24 i0 (.slice none 0 0) 1 24 Tryz.underlying48 hi hi0 hi1 hi2 rfl (by decide) (.slice ai nb ci) nb (encL is) rfl HO.out ⟨wr.heap.size, 0, none⟩ 1 1 [Value.slice (some ⟨g, 0, none⟩) cap cap] rfl rfl HW.out (by intro u hu; simp at hu; subst hu; rfl) (by decide) (by unfold maxLen; omega) (by omega) (Nat.zero_le _) (wr.heap.size + 1) (by simp) ?_; intro g2 cap2 w2 hown hgrow hat hlt3; have HX := hide (And.intro hown (And.intro hgrow (And.intro hat hlt3))); have m1 := HR.out.grow_c2 hgrow (by rw [hB'.out]); clear hown hgrow hat hlt3; obtain ⟨m1, m2⟩ := m1))
      go_end0
      obtain ⟨hown, hgrow, hat, hlt3⟩ := HX.out
      have hgl : g < w.heap.size := lt_of_heap H0.out
      have hP := WBlk.pushI (w := w) (L' := fun k => L k ∨ k = g) (x := (some ⟨g, 0, none⟩, cap)) HR.out hK.out.size (fun _ h => Or.inl h) (fun k hk => hk.elim (H.out.ltL k) (fun e => e ▸ hgl)) (fun k hk hL => hL.elim (H.out.apart k hk) (fun e => HG.out ((HF.out g).2 (Or.inl (e ▸ hk))))) (Or.inr ⟨g, rfl, Or.inr rfl, HE.out⟩) hB'.out rfl hgrow hown hat hlt3
      have hz2 : ∀ v, (w2.setCell ⟨wb, 2, none⟩ v).heap.size = w2.heap.size := fun v => by simp [World.setCell]
      refine ⟨rfl, ⟨_, _, _, _, _, _, _, _, hP, fun k => ?_⟩, ?_⟩
      · constructor
        · rintro ((h | h) | h)
          · exact ((HF.out k).1 h).elim (fun h => Or.inl (Or.inl h)) (fun h => Or.inr (Or.inl h))
          · exact Or.inr (Or.inr h)
          · exact Or.inl (Or.inr h)
        · rintro ((h | h) | (h | h))
          · exact Or.inl (Or.inl ((HF.out k).2 (Or.inl h)))
          · exact Or.inr h
          · exact Or.inl (Or.inl ((HF.out k).2 (Or.inr h)))
          · exact Or.inl (Or.inr h)
      · refine Kept.setCell (Kept.grown ((hK.out.mono (fun _ _ h => Or.inr h)).alloc _) hgrow (fun k hk => ?_)) (p := ⟨wb, 2, none⟩) (Or.inl (Or.inl ((HF.out wb).2 (Or.inl H.out.own)))) _
        obtain ⟨a, ha, rfl⟩ := ownBlock_some hk
        exact Or.inl (Or.inl ((HF.out _).2 (Or.inl (H.out.ri.2 a ha))))

set_option maxHeartbeats 1000000 in
set_option maxRecDepth 1000000 in
theorem law_mine_nil (F : Nat → Prop) (wb : Nat) (qs : List (Nat × Nat)) (bs is : List (Option Addr × Nat)) (w : World) (h : WAt w F wb qs bs is) (hl : bs.length ≤ 1000000) :
    Calls Tryz.prog 67 #[.pointer (some ⟨wb, 0, none⟩), .slice none 0 0] w fun e w' => e = .returned (.tuple #[]) ∧ WAt w' (Foot F w w') wb qs (bs ++ [(none, 0)]) is ∧ Kept F w w' := by
  obtain ⟨R, L, aq, cq, ab, cb, ai, ci, h, hF⟩ := h
  obtain ⟨i0, hi, hi0, hi1, hi2⟩ := info_parts info_bs
  have c1 := h.c1
  have f1 := h.fz 1
  have hlt := h.lt
  have H : Hid (WBlk w R L wb qs bs is aq cq ab cb ai ci) := h
  have HF : Hid (∀ k, F k ↔ (R k ∨ L k)) := hF
  clear h hF
  generalize hB : bs.length = nb at *
  have hB' : Hid (bs.length = nb) := hB
  clear hB
  have HO : Hid ((w.alloc (.cells #[.slice none 0 0] 86)).ownsRow 0 86 1 (.slice ab nb cb) nb (encL bs)) := by
    have := (H.out.rb.alloc (.cells #[.slice none 0 0] 86)).1
    rw [hB'.out] at this; exact this
  have HW : Hid (∀ (t : Nat) (u : Value), [Value.slice none 0 0][t]? = some u → (w.alloc (.cells #[.slice none 0 0] 86)).cell? ((⟨w.heap.size, 0, none⟩ : Addr).add t) = some u) := fun t u => news_new t u
  go_enter Tryz.func67, Tryz.ntmps67
  go_wp2
  refine wp_loop_rounds 1 ?_
  rw [rounds_succ]
  go_wp2_with (at_builtin; go_must (refine wpList_append_lies _ rfl (.tmp 29) (.tmp 31) 47 rfl 0 86 i0 (.slice none 0 0) 1 24 Tryz.underlying47 hi hi0 hi1 hi2 rfl (by decide) (.slice ab nb cb) nb (encL bs) rfl HO.out ⟨w.heap.size, 0, none⟩ 1 1 [Value.slice none 0 0] rfl rfl HW.out (by intro u hu; simp at hu; subst hu; rfl) (by decide) (by unfold maxLen; omega) (by omega) (Nat.zero_le _) (w.heap.size + 1) (by simp) ?_; intro g2 cap2 w2 hown hgrow hat hlt3; have HX := hide (And.intro hown (And.intro hgrow (And.intro hat hlt3))); have m1 := H.out.grow_c1 hgrow (by rw [hB'.out]); clear hown hgrow hat hlt3; obtain ⟨m1, m2⟩ := m1))
  go_end0
  obtain ⟨hown, hgrow, hat, hlt3⟩ := HX.out
  have hP := WBlk.pushB (w := w) (L' := L) (x := (none, 0)) H.out (Nat.le_refl _) (fun _ h => h) H.out.ltL H.out.apart (Or.inl ⟨rfl, rfl⟩) hB'.out rfl hgrow hown hat hlt3
  refine ⟨rfl, ⟨_, _, _, _, _, _, _, _, hP, fun k => ?_⟩, ?_⟩
  · constructor
    · rintro (h | h)
      · exact ((HF.out k).1 h).elim (fun h => Or.inl (Or.inl h)) (fun h => Or.inr h)
      · exact Or.inl (Or.inr h)
    · rintro ((h | h) | h)
      · exact Or.inl ((HF.out k).2 (Or.inl h))
      · exact Or.inr h
      · exact Or.inl ((HF.out k).2 (Or.inr h))
  · refine Kept.setCell (Kept.grown ((Kept.refl _ _).alloc _) hgrow (fun k hk => ?_)) (p := ⟨wb, 1, none⟩) (Or.inl ((HF.out wb).2 (Or.inl H.out.own))) _
    obtain ⟨a, ha, rfl⟩ := ownBlock_some hk
    exact Or.inl ((HF.out _).2 (Or.inl (H.out.rb.2 a ha)))

set_option maxHeartbeats 1000000 in
set_option maxRecDepth 1000000 in
theorem law_owned_nil (F : Nat → Prop) (wb : Nat) (qs : List (Nat × Nat)) (bs is : List (Option Addr × Nat)) (w : World) (h : WAt w F wb qs bs is) (hl : is.length ≤ 1000000) :
    Calls Tryz.prog 74 #[.pointer (some ⟨wb, 0, none⟩), .slice none 0 0] w fun e w' => e = .returned (.tuple #[]) ∧ WAt w' (Foot F w w') wb qs bs (is ++ [(none, 0)]) ∧ Kept F w w' := by
  obtain ⟨R, L, aq, cq, ab, cb, ai, ci, h, hF⟩ := h
  obtain ⟨i0, hi, hi0, hi1, hi2⟩ := info_parts info_is
  have c1 := h.c2
  have f1 := h.fz 2
  have hlt := h.lt
  have H : Hid (WBlk w R L wb qs bs is aq cq ab cb ai ci) := h
  have HF : Hid (∀ k, F k ↔ (R k ∨ L k)) := hF
  clear h hF
  generalize hB : is.length = nb at *
  have hB' : Hid (is.length = nb) := hB
  clear hB
  have HO : Hid ((w.alloc (.cells #[.slice none 0 0] 24)).ownsRow 0 24 1 (.slice ai nb ci) nb (encL is)) := by
    have := (H.out.ri.alloc (.cells #[.slice none 0 0] 24)).1
    rw [hB'.out] at this; exact this
  have HW : Hid (∀ (t : Nat) (u : Value), [Value.slice none 0 0][t]? = some u → (w.alloc (.cells #[.slice none 0 0] 24)).cell? ((⟨w.heap.size, 0, none⟩ : Addr).add t) = some u) := fun t u => news_new t u
  go_enter Tryz.func74, Tryz.ntmps74
  go_wp2
  refine wp_loop_rounds 1 ?_
  rw [rounds_succ]
  go_wp2_with (at_builtin; go_must (refine wpList_append_lies _ rfl (.tmp 29) (.tmp 31) 48 rfl 0 24 i0 (.slice none 0 0) 1 24 Tryz.underlying48 hi hi0 hi1 hi2 rfl (by decide) (.slice ai nb ci) nb (encL is) rfl HO.out ⟨w.heap.size, 0, none⟩ 1 1 [Value.slice none 0 0] rfl rfl HW.out (by intro u hu; simp at hu; subst hu; rfl) (by decide) (by unfold maxLen; omega) (by omega) (Nat.zero_le _) (w.heap.size + 1) (by simp) ?_; intro g2 cap2 w2 hown hgrow hat hlt3; have HX := hide (And.intro hown (And.intro hgrow (And.intro hat hlt3))); have m1 := H.out.grow_c2 hgrow (by rw [hB'.out]); clear hown hgrow hat hlt3; obtain ⟨m1, m2⟩ := m1))
  go_end0
  obtain ⟨hown, hgrow, hat, hlt3⟩ := HX.out
  have hP := WBlk.pushI (w := w) (L' := L) (x := (none, 0)) H.out (Nat.le_refl _) (fun _ h => h) H.out.ltL H.out.apart (Or.inl ⟨rfl, rfl⟩) hB'.out rfl hgrow hown hat hlt3
  refine ⟨rfl, ⟨_, _, _, _, _, _, _, _, hP, fun k => ?_⟩, ?_⟩
  · constructor
    · rintro (h | h)
      · exact ((HF.out k).1 h).elim (fun h => Or.inl (Or.inl h)) (fun h => Or.inr h)
      · exact Or.inl (Or.inr h)
    · rintro ((h | h) | h)
      · exact Or.inl ((HF.out k).2 (Or.inl h))
      · exact Or.inr h
      · exact Or.inl ((HF.out k).2 (Or.inr h))
  · refine Kept.setCell (Kept.grown ((Kept.refl _ _).alloc _) hgrow (fun k hk => ?_)) (p := ⟨wb, 2, none⟩) (Or.inl ((HF.out wb).2 (Or.inl H.out.own))) _
    obtain ⟨a, ha, rfl⟩ := ownBlock_some hk
    exact Or.inl ((HF.out _).2 (Or.inl (H.out.ri.2 a ha)))
end Go.Proofs.YtiabdbeejkadnaaGreatDoor

/- The law's world: looks; small. Own work of the verifier. -/
namespace Go.Proofs.YtiabdbeejkadnaaGreatDoor
open Go.RowKit

theorem encL_at {ls : List (Option Addr × Nat)} {i : Nat} (h : i < ls.length) : (encL ls)[i]? = some (.slice (ls[i]).1 (ls[i]).2 (ls[i]).2) := by simp [encL, h]

set_option maxHeartbeats 2000000 in
set_option maxRecDepth 1000000 in
theorem law_looks (F : Nat → Prop) (wb : Nat) (qs : List (Nat × Nat)) (bs is : List (Option Addr × Nat)) (w : World) (h : WAt w F wb qs bs is) (hl : bs.length ≤ 1000000) (hl2 : is.length ≤ 1000000) (hm : (∀ x ∈ bs, x.2 ≤ maxLen) ∧ ∀ x ∈ is, x.2 ≤ maxLen) :
    Calls Tryz.prog 22 #[.pointer (some ⟨wb, 0, none⟩)] w fun e w' => e = .returned (.bool true) ∧ w' = w := by
  obtain ⟨R, L, aq, cq, ab, cb, ai, ci, h, hF⟩ := h
  have c1 := h.c1
  have c2 := h.c2
  have H : Hid (WBlk w R L wb qs bs is aq cq ab cb ai ci) := h
  have HM : Hid ((∀ x ∈ bs, x.2 ≤ maxLen) ∧ ∀ x ∈ is, x.2 ≤ maxLen) := hm
  clear h hF hm
  generalize hB : bs.length = nb at *
  generalize hI : is.length = ni at *
  have hB' : Hid (bs.length = nb) := hB
  have hI' : Hid (is.length = ni) := hI
  clear hB hI
  go_enter Tryz.func22, Tryz.ntmps22
  go_wp2
  go_loop [3] (fun i => ∃ k : Nat, k ≤ nb ∧ i = .int .i64 k) (fun i => nb - (intOf i).toNat)
  case atStart => exact ⟨0, Nat.zero_le _, rfl⟩
  case round =>
    obtain ⟨k, hk, rfl⟩ := hrel
    by_cases hlt : k < nb
    · have hkb : k < bs.length := by rw [hB'.out]; exact hlt
      obtain ⟨g, cur, hg, _⟩ := Row.some H.out.rb (by omega)
      have d1 : w.cell? ⟨wb, 1, none⟩ = some (.slice (some ⟨g, 0, none⟩) nb cb) := hg ▸ c1
      obtain ⟨ao, n, hx⟩ : ∃ ao n, bs[k] = (ao, n) := ⟨(bs[k]).1, (bs[k]).2, rfl⟩
      have dk : w.cell? ⟨g, k, none⟩ = some (.slice ao n n) := by
        have hr := H.out.rb
        rw [hg] at hr
        rw [Row.cellAt hr k (by omega), encL_at hkb, hx]
      have hn : n ≤ maxLen := by have := HM.out.1 bs[k] (List.getElem_mem _); rw [hx] at this; exact this
      unfold maxLen at hn
      have HO : Hid (Own1 w L 5 ao n (byteAt k)) := by have := H.out.lb k hkb; rw [hx] at this; exact this
      clear c1 hx hg
      go_wp2
      go_loop [4] (fun i => ∃ j : Nat, j ≤ n ∧ i = .int .i64 j) (fun i => n - (intOf i).toNat)
      case atStart => exact ⟨0, Nat.zero_le _, rfl⟩
      case round =>
        obtain ⟨j, hj, rfl⟩ := hrel
        by_cases hlt2 : j < n
        · obtain ⟨g2, hg2, hc2⟩ := Own1.cell HO.out j hlt2
          have dk2 : w.cell? ⟨g, k, none⟩ = some (.slice (some ⟨g2, 0, none⟩) n n) := hg2 ▸ dk
          unfold byteAt at hc2
          have hb : (((k : Int) % 256) != ((k : Int) % 256)) = false := by simp
          clear dk
          go_wp2
          go_round
          case rel => exact ⟨j + 1, by omega, by go_num⟩
          case measure => simp [intOf]; omega
        · go_wp2
          go_round
          case rel => exact ⟨k + 1, by omega, by go_num⟩
          case measure => simp [intOf]; omega
    · go_wp2
      go_loop [5] (fun i => ∃ k : Nat, k ≤ ni ∧ i = .int .i64 k) (fun i => ni - (intOf i).toNat)
      case atStart => exact ⟨0, Nat.zero_le _, rfl⟩
      case round =>
        obtain ⟨k, hk, rfl⟩ := hrel
        by_cases hlt : k < ni
        · have hkb : k < is.length := by rw [hI'.out]; exact hlt
          obtain ⟨g, cur, hg, _⟩ := Row.some H.out.ri (by omega)
          have d1 : w.cell? ⟨wb, 2, none⟩ = some (.slice (some ⟨g, 0, none⟩) ni ci) := hg ▸ c2
          obtain ⟨ao, n, hx⟩ : ∃ ao n, is[k] = (ao, n) := ⟨(is[k]).1, (is[k]).2, rfl⟩
          have dk : w.cell? ⟨g, k, none⟩ = some (.slice ao n n) := by
            have hr := H.out.ri
            rw [hg] at hr
            rw [Row.cellAt hr k (by omega), encL_at hkb, hx]
          have hn : n ≤ maxLen := by have := HM.out.2 is[k] (List.getElem_mem _); rw [hx] at this; exact this
          unfold maxLen at hn
          have HO : Hid (Own1 w L 3 ao n (intAt k)) := by have := H.out.li k hkb; rw [hx] at this; exact this
          clear c2 hx hg
          go_wp2
          go_loop [6] (fun i => ∃ j : Nat, j ≤ n ∧ i = .int .i64 j) (fun i => n - (intOf i).toNat)
          case atStart => exact ⟨0, Nat.zero_le _, rfl⟩
          case round =>
            obtain ⟨j, hj, rfl⟩ := hrel
            by_cases hlt2 : j < n
            · obtain ⟨g2, hg2, hc2⟩ := Own1.cell HO.out j hlt2
              have dk2 : w.cell? ⟨g, k, none⟩ = some (.slice (some ⟨g2, 0, none⟩) n n) := hg2 ▸ dk
              unfold intAt at hc2
              have hb : ((-(k : Int)) != (-(k : Int))) = false := by simp
              clear dk
              go_wp2
              go_round
              case rel => exact ⟨j + 1, by omega, by go_num⟩
              case measure => simp [intOf]; omega
            · go_wp2
              go_round
              case rel => exact ⟨k + 1, by omega, by go_num⟩
              case measure => simp [intOf]; omega
        · go_wp2
          go_ret
          exact ⟨rfl, rfl⟩
end Go.Proofs.YtiabdbeejkadnaaGreatDoor
