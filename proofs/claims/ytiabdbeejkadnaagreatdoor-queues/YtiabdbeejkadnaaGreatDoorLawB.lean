/- The law's world: what it owns; mine, owned. Own work of the verifier. -/
import Derived.Test.YtiabdbeejkadnaaGreatDoorLawA
namespace Go.Proofs.YtiabdbeejkadnaaGreatDoor
open Go.RowKit

/-- one of the caller's lists: n cells that all hold v, at the head of a block that is its own and holds nothing else -/
def Own1 (w : World) (F : Nat → Prop) (e : TypeId) (ao : Option Addr) (n : Nat) (v : Value) : Prop :=
  (ao = none ∧ n = 0) ∨ ∃ g, ao = some ⟨g, 0, none⟩ ∧ F g ∧ w.heap[g]? = some (.cells (Array.replicate n v) e (0, 0))
theorem Own1.same {w w' : World} {F : Nat → Prop} {e : TypeId} {ao : Option Addr} {n : Nat} {v : Value} (h : Own1 w F e ao n v) (hs : ∀ k, F k → k < w.heap.size → w'.heap[k]? = w.heap[k]?) : Own1 w' F e ao n v := by
  rcases h with h | ⟨g, rfl, hF, hh⟩
  · exact Or.inl h
  · exact Or.inr ⟨g, rfl, hF, (hs g hF (lt_of_heap hh)).trans hh⟩
theorem Own1.cell {w : World} {F : Nat → Prop} {e : TypeId} {ao : Option Addr} {n : Nat} {v : Value} (h : Own1 w F e ao n v) (k : Nat) (hk : k < n) : ∃ g, ao = some ⟨g, 0, none⟩ ∧ w.cell? ⟨g, k, none⟩ = some v := by
  rcases h with ⟨_, rfl⟩ | ⟨g, rfl, hF, hh⟩
  · omega
  · exact ⟨g, rfl, by simp [World.cell?, hh, hk]⟩

/-- the lists of bytes (e: uint8) or numbers that came out: list i holds n_i cells 'f i' -/
def Lists (w : World) (F : Nat → Prop) (e : TypeId) (f : Nat → Value) (ls : List (Option Addr × Nat)) : Prop := ∀ i (h : i < ls.length), Own1 w F e (ls[i]).1 (ls[i]).2 (f i)
theorem Lists.same {w w' : World} {F : Nat → Prop} {e : TypeId} {f : Nat → Value} {ls : List (Option Addr × Nat)} (h : Lists w F e f ls) (hs : ∀ k, F k → k < w.heap.size → w'.heap[k]? = w.heap[k]?) : Lists w' F e f ls := fun i hi => (h i hi).same hs
def encL (ls : List (Option Addr × Nat)) : List Value := ls.map fun x => .slice x.1 x.2 x.2
def byteAt (i : Nat) : Value := .int .u8 ((i : Int) % 256)
def intAt (i : Nat) : Value := .int .i64 (-(i : Int))
/-- the pairs of queues: their two blocks -/
def encQ (qs : List (Nat × Nat)) : List Value := qs.flatMap fun q => [.pointer (some ⟨q.1, 0, none⟩), .pointer (some ⟨q.2, 0, none⟩)]

/-- THE LAW's WORLD at block wb: its three slices' rows lie in R (rows), the lists' own blocks in L. -/
structure WBlk (w : World) (R L : Nat → Prop) (wb : Nat) (qs : List (Nat × Nat)) (bs is : List (Option Addr × Nat)) (aq : Option Addr) (cq : Nat) (ab : Option Addr) (cb : Nat) (ai : Option Addr) (ci : Nat) : Prop where
  blk : w.heap[wb]? = some (.cells #[.slice aq qs.length cq, .slice ab bs.length cb, .slice ai is.length ci] 50 (0, 0))
  own : R wb
  rq : Row w R 99 2 aq qs.length cq (encQ qs)
  rb : Row w R 86 1 ab bs.length cb (encL bs)
  ri : Row w R 24 1 ai is.length ci (encL is)
  lb : Lists w L 5 byteAt bs
  li : Lists w L 3 intAt is
  apart : ∀ k, R k → ¬ L k
  ltR : ∀ k, R k → k < w.heap.size
  ltL : ∀ k, L k → k < w.heap.size
def WAt (w : World) (F : Nat → Prop) (wb : Nat) (qs : List (Nat × Nat)) (bs is : List (Option Addr × Nat)) : Prop :=
  ∃ R L aq cq ab cb ai ci, WBlk w R L wb qs bs is aq cq ab cb ai ci ∧ ∀ k, F k ↔ (R k ∨ L k)

section
variable {w : World} {R L : Nat → Prop} {wb : Nat} {qs : List (Nat × Nat)} {bs is : List (Option Addr × Nat)} {aq : Option Addr} {cq : Nat} {ab : Option Addr} {cb : Nat} {ai : Option Addr} {ci : Nat}
theorem WBlk.c0 (h : WBlk w R L wb qs bs is aq cq ab cb ai ci) : w.cell? ⟨wb, 0, none⟩ = some (.slice aq qs.length cq) := by simp [World.cell?, h.blk]
theorem WBlk.c1 (h : WBlk w R L wb qs bs is aq cq ab cb ai ci) : w.cell? ⟨wb, 1, none⟩ = some (.slice ab bs.length cb) := by simp [World.cell?, h.blk]
theorem WBlk.c2 (h : WBlk w R L wb qs bs is aq cq ab cb ai ci) : w.cell? ⟨wb, 2, none⟩ = some (.slice ai is.length ci) := by simp [World.cell?, h.blk]
theorem WBlk.fz (h : WBlk w R L wb qs bs is aq cq ab cb ai ci) (k : Nat) : w.frozen? ⟨wb, k, none⟩ = false := by simp [World.frozen?, h.blk]
theorem WBlk.lt (h : WBlk w R L wb qs bs is aq cq ab cb ai ci) : wb < w.heap.size := lt_of_heap h.blk
theorem WBlk.same {w' : World} (h : WBlk w R L wb qs bs is aq cq ab cb ai ci) (hs : ∀ k, (R k ∨ L k) → k < w.heap.size → w'.heap[k]? = w.heap[k]?) (hz : w.heap.size ≤ w'.heap.size) : WBlk w' R L wb qs bs is aq cq ab cb ai ci where
  blk := (hs _ (Or.inl h.own) h.lt).trans h.blk
  own := h.own
  rq := h.rq.same fun a ha => by obtain ⟨c, hc, _⟩ := h.rq.block ha; exact hs _ (Or.inl (h.rq.2 a ha)) (lt_of_heap hc)
  rb := h.rb.same fun a ha => by obtain ⟨c, hc, _⟩ := h.rb.block ha; exact hs _ (Or.inl (h.rb.2 a ha)) (lt_of_heap hc)
  ri := h.ri.same fun a ha => by obtain ⟨c, hc, _⟩ := h.ri.block ha; exact hs _ (Or.inl (h.ri.2 a ha)) (lt_of_heap hc)
  lb := h.lb.same fun k hk hl => hs k (Or.inr hk) hl
  li := h.li.same fun k hk hl => hs k (Or.inr hk) hl
  apart := h.apart
  ltR := fun k hk => Nat.lt_of_lt_of_le (h.ltR k hk) hz
  ltL := fun k hk => Nat.lt_of_lt_of_le (h.ltL k hk) hz
end
theorem WAt.same {w w' : World} {F : Nat → Prop} {wb : Nat} {qs : List (Nat × Nat)} {bs is : List (Option Addr × Nat)} (h : WAt w F wb qs bs is) (hs : ∀ k, F k → k < w.heap.size → w'.heap[k]? = w.heap[k]?) (hz : w.heap.size ≤ w'.heap.size) : WAt w' F wb qs bs is := by
  obtain ⟨R, L, aq, cq, ab, cb, ai, ci, h, hF⟩ := h
  exact ⟨R, L, aq, cq, ab, cb, ai, ci, h.same (fun k hk hl => hs k ((hF k).2 hk) hl) hz, hF⟩
theorem WAt.lt {w : World} {F : Nat → Prop} {wb : Nat} {qs : List (Nat × Nat)} {bs is : List (Option Addr × Nat)} (h : WAt w F wb qs bs is) : ∀ k, F k → k < w.heap.size := by
  obtain ⟨R, L, aq, cq, ab, cb, ai, ci, h, hF⟩ := h
  intro k hk
  exact ((hF k).1 hk).elim (h.ltR k) (h.ltL k)
theorem WAt.kept {w w' : World} {F G : Nat → Prop} {wb : Nat} {qs : List (Nat × Nat)} {bs is : List (Option Addr × Nat)} (h : WAt w F wb qs bs is) (hk : Kept G w w') (hn : ∀ k, F k → ¬ G k) : WAt w' F wb qs bs is :=
  h.same (fun k hF hl => hk.block k hl (hn k hF)) hk.size

theorem info_bs : (Tryz.prog.info? 86).map (fun i => (i.zero, i.size, i.bytes)) = some (some (.slice none 0 0), 1, 24) := by kernel_rfl
theorem info_is : (Tryz.prog.info? 24).map (fun i => (i.zero, i.size, i.bytes)) = some (some (.slice none 0 0), 1, 24) := by kernel_rfl
end Go.Proofs.YtiabdbeejkadnaaGreatDoor
