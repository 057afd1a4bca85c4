/- The reference queue: drop, where the request is under way: it is told. Poll in general. Own work of the verifier. -/
import Derived.Test.YtiabdbeejkadnaaGreatDoorRefG
namespace Go.Proofs.YtiabdbeejkadnaaGreatDoor
open Go.RowKit

section
variable {w : World} {F G : Nat → Prop} {mb : Nat} {S : St} {ar : Option Addr} {cr : Nat} {at_ : Option Addr} {ct : Nat} {af : Option Addr} {cf : Nat} {ad : Option Addr} {cd : Nat}
/-- the row of those told is another: stored into the queue -/
theorem RefBlk.setTold {w2 : World} {F' : Nat → Prop} {ao' : Option Addr} {n' cap : Nat} {T' : List Int} (h : RefBlk w F G mb S ar cr at_ ct af cf ad cd)
    (hs : ∀ k, k < w.heap.size → (∀ a, at_ = some a → a.block ≠ k) → w2.heap[k]? = w.heap[k]?) (_hz : w.heap.size ≤ w2.heap.size) (hF : ∀ k, F k → F' k)
    (hl : ∀ k, F' k → k < w2.heap.size) (hn : n' = T'.length) (hrow : Row w2 F' 3 1 ao' n' cap (encI T')) (hg : ∀ b, ao' = some b → (∃ a, at_ = some a ∧ a.block = b.block) ∨ w.heap.size ≤ b.block) :
    RefBlk (w2.setCell ⟨mb, 2, none⟩ (.slice ao' n' cap)) F' G mb { S with told := T' } ar cr ao' cap af cf ad cd where
  own := hF _ h.own
  blk := by
    have hb : w2.heap[mb]? = _ := (hs mb (lt_of_heap h.blk) (h.told.ne h.blk (by decide))).trans h.blk
    rw [heap_setCell_at hb, hn]; rfl
  told := by
    have hb : w2.heap[mb]? = _ := (hs mb (lt_of_heap h.blk) (h.told.ne h.blk (by decide))).trans h.blk
    subst hn
    exact hrow.setCell_other (hrow.ne hb (by decide)) _
  reqs := by
    have hb : w2.heap[mb]? = _ := (hs mb (lt_of_heap h.blk) (h.told.ne h.blk (by decide))).trans h.blk
    have ht : Row w2 F' 175 10 ar S.reqs.length cr (S.reqs.flatMap encR) := (h.reqs.same fun a ha => by
      obtain ⟨c, hc, _⟩ := h.reqs.block ha
      exact hs _ (lt_of_heap hc) (h.told.ne hc (by decide))).mono hF
    exact ht.setCell_other (ht.ne hb (by decide)) _
  disk := by
    have hb : w2.heap[mb]? = _ := (hs mb (lt_of_heap h.blk) (h.told.ne h.blk (by decide))).trans h.blk
    have ht : Row w2 F' 5 1 ad S.disk.length cd (encB S.disk) := (h.disk.same fun a ha => by
      obtain ⟨c, hc, _⟩ := h.disk.block ha
      exact hs _ (lt_of_heap hc) (h.told.ne hc (by decide))).mono hF
    exact ht.setCell_other (ht.ne hb (by decide)) _
  flights := h.flights.same fun k hk => (Below.heap_setCell _ _ _ _ (fun e => h.notMb (by have e' : k = mb := e; rw [← e']; exact hk))).trans (hs k (h.ltF k (h.sub k hk)) (fun a ha e => h.notT a ha (e ▸ hk)))
  sub := fun k hk => hF k (h.sub k hk)
  notMb := h.notMb
  notT := fun b hb hk => by
    rcases hg b hb with ⟨a, ha, hag⟩ | hg
    · exact h.notT a ha (hag ▸ hk)
    · have := h.ltF _ (h.sub _ hk); omega
  notR := h.notR
  notD := h.notD
  ltF := fun k hk => by have := hl k hk; simpa [World.setCell] using this
/-- behind an append to those told, and the store of the new slice -/
theorem RefBlk.tellRow {w2 : World} {o : Obj} {g n' cap : Nat} {T' : List Int} (h : RefBlk w F G mb S ar cr at_ ct af cf ad cd)
    (hgrow : ((w.alloc o).drew).grownBy w2 (Value.ownBlock (.slice at_ S.told.length ct))) (hown : w2.ownsRow 0 3 1 (.slice (some ⟨g, 0, none⟩) n' cap) n' (encI T')) (hn : n' = T'.length)
    (hat : Value.ownBlock (.slice at_ S.told.length ct) = some g ∨ g = w.heap.size + 1) (hlt : g < w2.heap.size) :
    RefAt (w2.setCell ⟨mb, 2, none⟩ (.slice (some ⟨g, 0, none⟩) n' cap)) (Foot F w (w2.setCell ⟨mb, 2, none⟩ (.slice (some ⟨g, 0, none⟩) n' cap))) mb { S with told := T' } ∧ Kept F w (w2.setCell ⟨mb, 2, none⟩ (.slice (some ⟨g, 0, none⟩) n' cap)) ∧ w2.heap[mb]? = w.heap[mb]? := by
  have hob : ∀ k, Value.ownBlock (.slice at_ S.told.length ct) = some k → ∃ a, at_ = some a ∧ a.block = k := by
    intro k hk
    cases at_ with
    | none => simp [Value.ownBlock] at hk
    | some a => exact ⟨a, rfl, by simpa [Value.ownBlock] using hk⟩
  have hs : ∀ k, k < w.heap.size → (∀ a, at_ = some a → a.block ≠ k) → w2.heap[k]? = w.heap[k]? := by
    intro k hk hne
    have e1 := hgrow.block k (by simp [World.drew]; omega) (fun e => by obtain ⟨a, ha, hak⟩ := hob k e.symm; exact hne a ha hak)
    exact e1.trans (Below.heap_alloc w o k hk)
  have hz : w.heap.size ≤ w2.heap.size := by have := hgrow.size; simp [World.drew] at this; omega
  have hge : (∃ a, at_ = some a ∧ a.block = g) ∨ w.heap.size ≤ g := by
    rcases hat with e | e
    · exact Or.inl (hob g e)
    · exact Or.inr (by omega)
  have hz2 : (w2.setCell ⟨mb, 2, none⟩ (.slice (some ⟨g, 0, none⟩) n' cap)).heap.size = w2.heap.size := by simp [World.setCell]
  have hEg : Foot F w (w2.setCell ⟨mb, 2, none⟩ (.slice (some ⟨g, 0, none⟩) n' cap)) g := by
    rcases hge with ⟨a, ha, rfl⟩ | e
    · exact Or.inl (h.told.2 a ha)
    · exact Or.inr ⟨e, by rw [hz2]; exact hlt⟩
  have hrow : Row w2 (Foot F w (w2.setCell ⟨mb, 2, none⟩ (.slice (some ⟨g, 0, none⟩) n' cap))) 3 1 (some ⟨g, 0, none⟩) n' cap (encI T') := ⟨hown, fun a ha => by cases ha; exact hEg⟩
  refine ⟨⟨_, _, _, _, _, _, _, _, _, h.setTold hs hz Foot.of (fun k hk => by rw [← hz2]; exact Foot.lt h.ltF (by rw [hz2]; exact hz) k hk) hn hrow (fun b hb => by cases hb; exact hge)⟩, ?_, hs mb (lt_of_heap h.blk) (h.told.ne h.blk (by decide))⟩
  refine Kept.setCell ((((Kept.refl F w).alloc o).drew).grown hgrow (fun k hk => ?_)) (Or.inl h.own) _
  obtain ⟨a, ha, rfl⟩ := hob k hk
  exact Or.inl (h.told.2 a ha)
end

set_option maxHeartbeats 1000000 in
set_option maxRecDepth 1000000 in
theorem ref_drop_in (S : St) (F : Nat → Prop) (mb k : Nat) (w : World) (h : RefAt w F mb S) (hl : S.told.length ≤ 1000000) (hr : S.reqs.length ≤ 1000000) (hk : k < S.reqs.length) (ha : (S.reqs.getD k Rq.zero).inAir = true) :
    Calls Tryz.prog 109 #[.pointer (some ⟨mb, 0, none⟩), .int .i64 k] w fun e w' => e = .returned (.tuple #[]) ∧ RefAt w' (Foot F w w') mb { S with told := S.told ++ [(S.reqs.getD k Rq.zero).num] } ∧ Kept F w w' := by
  obtain ⟨G, ar, cr, at_, ct, af, cf, ad, cd, h⟩ := h
  obtain ⟨i0, hi, hi0, hi1, hi2⟩ := info_parts info_int
  obtain ⟨g0, cur, hg0, _, _, _, _⟩ := Row.some h.reqs (by omega)
  subst hg0
  have c1 := h.c1
  have c2 := h.c2
  have f2 := h.fz 2
  have hlt := h.lt
  have hgl : g0 < w.heap.size := by obtain ⟨c, hc, _⟩ := h.reqs.block rfl; exact lt_of_heap hc
  have ca : w.cell? ⟨g0, k * 10 + 8, none⟩ = some (.bool true) := by rw [Row.req h.reqs rfl k 8 hk (by omega), ← ha]; rfl
  obtain ⟨num, hnum⟩ : ∃ num, num = (S.reqs.getD k Rq.zero).num := ⟨_, rfl⟩
  have cn : w.cell? ⟨g0, k * 10, none⟩ = some (.int .i64 num) := by have := Row.req h.reqs rfl k 0 hk (by omega); rw [Nat.add_zero] at this; rw [this, hnum]; rfl
  rw [← hnum]
  have H : Hid (RefBlk w F G mb S (some ⟨g0, 0, none⟩) cr at_ ct af cf ad cd) := h
  clear h ha hnum
  generalize hT : S.told.length = nt at *
  have hT' : Hid (S.told.length = nt) := hT
  clear hT
  generalize S.reqs.length = nr at *
  go_enter Tryz.func109, Tryz.ntmps109
  go_wp2_with fail
  have HO : Hid (((w.alloc (.cells (encI [num]).toArray 3)).drew).ownsRow 0 3 1 (.slice at_ nt ct) nt (encI S.told)) := by
    have := (H.out.told.alloc (.cells (encI [num]).toArray 3)).1
    rw [← hT'.out]
    exact this
  have HN : Hid (∀ (j : Nat) (u : Value), (encI [num])[j]? = some u → ((w.alloc (.cells (encI [num]).toArray 3)).drew).cell? ((⟨w.heap.size, 0, none⟩ : Addr).add j) = some u) := fun j u => news_new j u
  have HT : Hid (∀ (g cap : Nat) (w2 : World), w2.ownsRow 0 3 1 (.slice (some ⟨g, 0, none⟩) (nt + 1) cap) (nt + 1) (encI S.told ++ encI [num]) → ((w.alloc (.cells (encI [num]).toArray 3)).drew).grownBy w2 (Value.ownBlock (.slice at_ nt ct)) → (Value.ownBlock (.slice at_ nt ct) = some g ∨ g = w.heap.size + 1) → g < w2.heap.size → RefAt (w2.setCell ⟨mb, 2, none⟩ (.slice (some ⟨g, 0, none⟩) (nt + 1) cap)) (Foot F w (w2.setCell ⟨mb, 2, none⟩ (.slice (some ⟨g, 0, none⟩) (nt + 1) cap))) mb { S with told := S.told ++ [num] } ∧ Kept F w (w2.setCell ⟨mb, 2, none⟩ (.slice (some ⟨g, 0, none⟩) (nt + 1) cap)) ∧ w2.heap[mb]? = w.heap[mb]?) := by
    intro g cap w2 h1 h2 h3 h4
    have e : encI S.told ++ encI [num] = encI (S.told ++ [num]) := by simp [encI]
    rw [e] at h1
    rw [← hT'.out] at h2 h3
    exact H.out.tellRow h2 h1 (by rw [List.length_append, hT'.out]; rfl) h3 h4
  go_region_law (refine step_append_lies _ rfl (.tmp 18) (.tmp 27) 24 rfl 0 3 i0 (.int .i64 0) 1 8 Tryz.underlying24 hi hi0 hi1 hi2 rfl (by decide) (.slice at_ nt ct) nt (encI S.told) (by simp [Act.eval]) HO.out ⟨w.heap.size, 0, none⟩ 1 1 (encI [num]) (by simp [Act.eval]) rfl HN.out (by simp [encI]; rfl) (by decide) (by unfold maxLen; omega) (by omega) (Nat.zero_le _) (w.heap.size + 1) (by simp) ?_; intro g cap w2 hown hgrow hat hlt2; have HX := hide (HT.out g cap w2 hown hgrow hat hlt2); have m2 : w2.cell? ⟨mb, 2, none⟩ = some (.slice at_ nt ct) := (World.cell?_of_block HX.out.2.2).trans c2; have n2 : w2.frozen? ⟨mb, 2, none⟩ = false := (World.frozen?_of_block HX.out.2.2).trans f2; clear hown hgrow hat hlt2)
  all_goals
    go_wp2
    refine bodyPost_ret (results_none rfl _ _ _) rfl ?_
    exact ⟨rfl, HX.out.1, HX.out.2.1⟩
/-- drop, in general -/
theorem ref_drop (S : St) (F : Nat → Prop) (mb k : Nat) (w : World) (h : RefAt w F mb S) (hl : S.told.length ≤ 1000000) (hr : S.reqs.length ≤ 1000000) (hk : k < S.reqs.length) :
    Calls Tryz.prog 109 #[.pointer (some ⟨mb, 0, none⟩), .int .i64 k] w fun e w' => e = .returned (.tuple #[]) ∧ RefAt w' (Foot F w w') mb (dropM S k) ∧ Kept F w w' := by
  unfold dropM
  cases ha : (S.reqs.getD k Rq.zero).inAir with
  | true => exact ref_drop_in S F mb k w h hl hr hk ha
  | false => exact ref_drop_air S F mb k w h hr hk ha
end Go.Proofs.YtiabdbeejkadnaaGreatDoor
