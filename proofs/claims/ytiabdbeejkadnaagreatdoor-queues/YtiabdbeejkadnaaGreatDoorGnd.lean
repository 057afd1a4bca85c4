/- The ground of the proofs: what may have turned ('Kept'), rows of one's own. Own work of the verifier. -/
import Derived.WalkKit
import Derived.WalkSmall
namespace Go.Proofs.YtiabdbeejkadnaaGreatDoor
open Go.RowKit

/-- Only blocks of F, and new ones, may have turned. -/
structure Kept (F : Nat → Prop) (w w' : World) : Prop where
  os : w'.os = w.os
  tape : w'.tape = w.tape
  output : w'.output = w.output
  size : w.heap.size ≤ w'.heap.size
  block : ∀ k, k < w.heap.size → ¬ F k → w'.heap[k]? = w.heap[k]?

/-- F and all blocks that are new since w. -/
def Ext (F : Nat → Prop) (w : World) (k : Nat) : Prop := F k ∨ w.heap.size ≤ k

/-- F and all blocks that were laid between w and w'. -/
def Foot (F : Nat → Prop) (w w' : World) (k : Nat) : Prop := F k ∨ (w.heap.size ≤ k ∧ k < w'.heap.size)
theorem Foot.of {F : Nat → Prop} {w w' : World} (k : Nat) (h : F k) : Foot F w w' k := Or.inl h
theorem Foot.lt {F : Nat → Prop} {w w' : World} (hF : ∀ k, F k → k < w.heap.size) (hz : w.heap.size ≤ w'.heap.size) (k : Nat) (h : Foot F w w' k) : k < w'.heap.size := h.elim (fun e => Nat.lt_of_lt_of_le (hF k e) hz) (fun e => e.2)
theorem Foot.trans {F : Nat → Prop} {w w1 w2 : World} (h1 : w.heap.size ≤ w1.heap.size) (h2 : w1.heap.size ≤ w2.heap.size) (k : Nat) (h : Foot (Foot F w w1) w1 w2 k) : Foot F w w2 k :=
  h.elim (fun e => e.elim Or.inl (fun e => Or.inr ⟨e.1, Nat.lt_of_lt_of_le e.2 h2⟩)) (fun e => Or.inr ⟨Nat.le_trans h1 e.1, e.2⟩)
theorem Foot.mid {F : Nat → Prop} {w w1 w2 : World} (h1 : w.heap.size ≤ w1.heap.size) (k : Nat) (h : Foot F w1 w2 k) : Foot F w w2 k := h.elim Or.inl (fun e => Or.inr ⟨Nat.le_trans h1 e.1, e.2⟩)
theorem Ext.of {F : Nat → Prop} {w : World} {k : Nat} (h : F k) : Ext F w k := Or.inl h
theorem Kept.refl (F : Nat → Prop) (w : World) : Kept F w w := ⟨rfl, rfl, rfl, Nat.le_refl _, fun _ _ _ => rfl⟩
theorem Kept.trans {F : Nat → Prop} {a b c : World} (h : Kept F a b) (k : Kept (Ext F a) b c) : Kept F a c :=
  ⟨k.os.trans h.os, k.tape.trans h.tape, k.output.trans h.output, Nat.le_trans h.size k.size, fun i hi hn => (k.block i (Nat.lt_of_lt_of_le hi h.size) (fun e => e.elim hn (fun e => by omega))).trans (h.block i hi hn)⟩
theorem Kept.trans' {F : Nat → Prop} {a b c : World} (h : Kept F a b) (k : Kept (Foot F a b) b c) : Kept F a c :=
  ⟨k.os.trans h.os, k.tape.trans h.tape, k.output.trans h.output, Nat.le_trans h.size k.size, fun i hi hn => (k.block i (Nat.lt_of_lt_of_le hi h.size) (fun e => e.elim hn (fun e => by omega))).trans (h.block i hi hn)⟩
theorem Kept.then {F : Nat → Prop} {a b c : World} (h : Kept F a b) (k : Kept F b c) : Kept F a c :=
  ⟨k.os.trans h.os, k.tape.trans h.tape, k.output.trans h.output, Nat.le_trans h.size k.size, fun i hi hn => (k.block i (Nat.lt_of_lt_of_le hi h.size) hn).trans (h.block i hi hn)⟩
theorem Kept.mono {F G : Nat → Prop} {w w' : World} (h : Kept F w w') (hFG : ∀ k, k < w.heap.size → F k → G k) : Kept G w w' :=
  ⟨h.os, h.tape, h.output, h.size, fun k hk hn => h.block k hk (fun e => hn (hFG k hk e))⟩
theorem Kept.drew {F : Nat → Prop} {a w : World} (h : Kept F a w) : Kept F a w.drew := ⟨h.os, h.tape, h.output, h.size, h.block⟩
theorem Kept.drewN {F : Nat → Prop} {a w : World} (h : Kept F a w) (n : Nat) : Kept F a (w.drewN n) := ⟨h.os, h.tape, h.output, h.size, h.block⟩
theorem Kept.alloc {F : Nat → Prop} {a w : World} (h : Kept F a w) (o : Obj) : Kept F a (w.alloc o) :=
  h.trans ⟨rfl, rfl, rfl, by simp, fun k hk _ => Below.heap_alloc _ _ _ hk⟩
theorem Kept.setCell {F : Nat → Prop} {a w : World} (h : Kept F a w) {p : Addr} (hp : Ext F a p.block) (u : Value) : Kept F a (w.setCell p u) :=
  h.trans ⟨rfl, rfl, rfl, by simp [World.setCell], fun k _ hn => Below.heap_setCell _ _ _ _ (fun e => hn (e ▸ hp))⟩
theorem Kept.grown {F : Nat → Prop} {a w w' : World} {row : Option Nat} (h : Kept F a w) (hg : w.grownBy w' row) (hr : ∀ k, row = some k → Ext F a k) : Kept F a w' :=
  h.trans ⟨hg.os, hg.tape, hg.output, hg.size, fun k hk hn => hg.block k hk (fun e => hn (hr k e.symm))⟩
theorem Kept.below {F : Nat → Prop} {a w w' : World} (h : Kept F a w) (hb : Below w.heap.size w w') : Kept F a w' :=
  h.trans ⟨hb.os, hb.tape, hb.output, hb.size, fun k hk _ => hb.block k hk⟩
theorem Below.kept {w w' : World} (h : Below w.heap.size w w') (F : Nat → Prop) : Kept F w w' := (Kept.refl F w).below h
theorem Kept.cell {F : Nat → Prop} {w w' : World} (h : Kept F w w') {p : Addr} (hp : p.block < w.heap.size) (hn : ¬ F p.block) : w'.cell? p = w.cell? p := World.cell?_of_block (w := w) (h.block _ hp hn)
theorem Kept.frozen {F : Nat → Prop} {w w' : World} (h : Kept F w w') {p : Addr} (hp : p.block < w.heap.size) (hn : ¬ F p.block) : w'.frozen? p = w.frozen? p := World.frozen?_of_block (w := w) (h.block _ hp hn)
theorem Kept.toBelow {F : Nat → Prop} {w w' : World} (h : Kept F w w') {B : Nat} (hF : ∀ k, F k → B ≤ k) (hB : B ≤ w.heap.size) : Below B w w' :=
  ⟨h.os, h.tape, h.output, h.size, fun k hk => h.block k (by omega) (fun e => by have := hF k e; omega)⟩

theorem hide {p : Prop} (h : p) : Hid p := h
theorem lt_of_heap {w : World} {b : Nat} {o : Obj} (h : w.heap[b]? = some o) : b < w.heap.size := lt_of_block h

/-- A row of one's own: the slice value '.slice ao n cap' owns the cells xs; its block is in F. -/
def Row (w : World) (F : Nat → Prop) (e : TypeId) (size : Nat) (ao : Option Addr) (n cap : Nat) (xs : List Value) : Prop :=
  w.ownsRow 0 e size (.slice ao n cap) n xs ∧ ∀ a, ao = some a → F a.block

theorem Row.nil (w : World) (F : Nat → Prop) (e : TypeId) (size : Nat) : Row w F e size none 0 0 [] := ⟨World.ownsRow_nil _ _ _ _, fun _ h => by cases h⟩
theorem Row.mono {w : World} {F G : Nat → Prop} {e : TypeId} {size : Nat} {ao : Option Addr} {n cap : Nat} {xs : List Value} (h : Row w F e size ao n cap xs) (hFG : ∀ k, F k → G k) : Row w G e size ao n cap xs :=
  ⟨h.1, fun a ha => hFG _ (h.2 a ha)⟩
theorem Row.len {w : World} {F : Nat → Prop} {e : TypeId} {size : Nat} {ao : Option Addr} {n cap : Nat} {xs : List Value} (h : Row w F e size ao n cap xs) : xs.length = n * size := h.1.1
/-- where there is an element there is a block -/
theorem Row.some {w : World} {F : Nat → Prop} {e : TypeId} {size : Nat} {ao : Option Addr} {n cap : Nat} {xs : List Value} (h : Row w F e size ao n cap xs) (hn : 0 < n) :
    ∃ g cur, ao = .some ⟨g, 0, none⟩ ∧ F g ∧ w.heap[g]? = .some (.cells cur e (0, 0)) ∧ n ≤ cap ∧ cur.size = cap * size := by
  rcases h.1.2 with ⟨_, h0⟩ | ⟨g, cap', cur, hv, _, hh, hnc, _, hcs, _⟩
  · omega
  · simp only [Value.slice.injEq] at hv
    obtain ⟨rfl, _, rfl⟩ := hv
    exact ⟨g, cur, rfl, h.2 _ rfl, hh, hnc, hcs⟩
theorem Row.block {w : World} {F : Nat → Prop} {e : TypeId} {size : Nat} {ao : Option Addr} {n cap : Nat} {xs : List Value} (h : Row w F e size ao n cap xs) {a : Addr} (ha : ao = .some a) :
    ∃ cur, w.heap[a.block]? = .some (.cells cur e (0, 0)) ∧ a.off = 0 ∧ n ≤ cap ∧ cur.size = cap * size := by
  rcases h.1.2 with ⟨hv, _⟩ | ⟨g, cap', cur, hv, _, hh, hnc, _, hcs, _⟩
  · simp [ha] at hv
  · simp only [Value.slice.injEq, ha] at hv
    obtain ⟨h1, _, rfl⟩ := hv
    cases h1
    exact ⟨cur, hh, rfl, hnc, hcs⟩
theorem Row.cellAt {w : World} {F : Nat → Prop} {e : TypeId} {size g n cap : Nat} {xs : List Value} (h : Row w F e size (.some ⟨g, 0, none⟩) n cap xs) (j : Nat) (hj : j < n * size) : w.cell? ⟨g, j, none⟩ = xs[j]? := h.1.cellAt j hj
theorem Row.frozenAt {w : World} {F : Nat → Prop} {e : TypeId} {size g n cap : Nat} {xs : List Value} (h : Row w F e size (.some ⟨g, 0, none⟩) n cap xs) (j : Nat) : w.frozen? ⟨g, j, none⟩ = false := h.1.frozenAt j
/-- what is owned stays owned where its block has not turned -/
theorem Row.same {w w' : World} {F : Nat → Prop} {e : TypeId} {size : Nat} {ao : Option Addr} {n cap : Nat} {xs : List Value} (h : Row w F e size ao n cap xs) (hs : ∀ a, ao = .some a → w'.heap[a.block]? = w.heap[a.block]?) : Row w' F e size ao n cap xs := by
  refine ⟨⟨h.1.1, ?_⟩, h.2⟩
  rcases h.1.2 with hn | ⟨g, cap', cur, hv, hb, hh, rest⟩
  · exact Or.inl hn
  · simp only [Value.slice.injEq] at hv
    obtain ⟨rfl, _, rfl⟩ := hv
    exact Or.inr ⟨g, cap, cur, rfl, hb, (hs _ rfl).trans hh, rest⟩
theorem Row.kept {w w' : World} {F G : Nat → Prop} {e : TypeId} {size : Nat} {ao : Option Addr} {n cap : Nat} {xs : List Value} (h : Row w F e size ao n cap xs) (hk : Kept G w w') (hn : ∀ a, ao = .some a → ¬ G a.block) : Row w' F e size ao n cap xs :=
  h.same fun a ha => by obtain ⟨cur, hh, _⟩ := h.block ha; exact hk.block _ (lt_of_heap hh) (hn a ha)
theorem Row.alloc {w : World} {F : Nat → Prop} {e : TypeId} {size : Nat} {ao : Option Addr} {n cap : Nat} {xs : List Value} (h : Row w F e size ao n cap xs) (o : Obj) : Row (w.alloc o) F e size ao n cap xs :=
  h.same fun a ha => by obtain ⟨cur, hh, _⟩ := h.block ha; exact Below.heap_alloc _ _ _ (lt_of_heap hh)
/-- a block of another type is another block -/
theorem Row.ne {w : World} {F : Nat → Prop} {e t : TypeId} {size : Nat} {ao : Option Addr} {n cap : Nat} {xs : List Value} {b : Nat} {cs : Array Value} {fz : Nat × Nat} (h : Row w F e size ao n cap xs) (hb : w.heap[b]? = .some (.cells cs t fz)) (hne : e ≠ t) : ∀ a, ao = .some a → a.block ≠ b := by
  intro a ha he
  obtain ⟨cur, hh, _⟩ := h.block ha
  rw [he, hb] at hh
  simp at hh
  exact hne hh.2.1.symm
theorem Row.setCell_other {w : World} {F : Nat → Prop} {e : TypeId} {size : Nat} {ao : Option Addr} {n cap : Nat} {xs : List Value} (h : Row w F e size ao n cap xs) {p : Addr} (hne : ∀ a, ao = .some a → a.block ≠ p.block) (u : Value) : Row (w.setCell p u) F e size ao n cap xs :=
  h.same fun a ha => Below.heap_setCell _ _ _ _ (hne a ha)
theorem Row.stored {w : World} {F : Nat → Prop} {e : TypeId} {size g n cap : Nat} {xs : List Value} (h : Row w F e size (.some ⟨g, 0, none⟩) n cap xs) (j : Nat) (u : Value) : Row (w.setCell ⟨g, j, none⟩ u) F e size (.some ⟨g, 0, none⟩) n cap (xs.set j u) :=
  ⟨(h.1.stored j u).1, h.2⟩
/-- what the law on append leaves, as a row -/
theorem Row.of_owns {w : World} {F : Nat → Prop} {e : TypeId} {size : Nat} {v : Value} {n : Nat} {xs : List Value} (h : w.ownsRow 0 e size v n xs) (hF : ∀ k, v.ownBlock = .some k → F k) : ∃ ao cap, v = .slice ao n cap ∧ Row w F e size ao n cap xs := by
  rcases h.2 with ⟨rfl, rfl⟩ | ⟨g, cap, cur, rfl, _⟩
  · exact ⟨none, 0, rfl, h, fun _ h => by cases h⟩
  · exact ⟨_, cap, rfl, h, fun a ha => by cases ha; exact hF g rfl⟩
theorem alloc_below (w : World) (o : Obj) : Below w.heap.size w (w.alloc o) := (Below.refl _ _).alloc (Nat.le_refl _) _
theorem heap_setCell_at {w : World} {b j : Nat} {cs : Array Value} {t : TypeId} (h : w.heap[b]? = some (.cells cs t (0, 0))) (u : Value) : (w.setCell ⟨b, j, none⟩ u).heap[b]? = some (.cells (cs.setIfInBounds j u) t (0, 0)) := heap_setCell_same w b j cs t u h
theorem news_new {w : World} {xs : List Value} {t : TypeId} (j : Nat) (u : Value) (h : xs[j]? = some u) : ((w.alloc (.cells xs.toArray t)).drew).cell? ((⟨w.heap.size, 0, none⟩ : Addr).add j) = some u := by
  rw [Addr.add_lit, Nat.zero_add]
  show (w.alloc (.cells xs.toArray t)).cell? ⟨w.heap.size, j, none⟩ = some u
  rw [World.cell?_alloc_at _ _ _ _ rfl]
  simpa using h
theorem own_rel {e : TypeId} {size : Nat} {w wr w2 : World} {ao : Option Addr} {n m cap g cap' : Nat} {xs news : List Value} {o : Obj} (hb : Below w.heap.size w wr) (hrow : Row wr (fun b => w.heap.size ≤ b) e size ao n cap xs)
    (hgrow : (wr.alloc o).grownBy w2 (Value.ownBlock (.slice ao n cap))) (hown : w2.ownsRow 0 e size (.slice (some ⟨g, 0, none⟩) (n + m) cap') (n + m) (xs ++ news)) (hat : Value.ownBlock (.slice ao n cap) = some g ∨ g = wr.heap.size + 1) :
    Below w.heap.size w w2 ∧ Row w2 (fun b => w.heap.size ≤ b) e size (some ⟨g, 0, none⟩) (n + m) cap' (xs ++ news) := by
  have hob : ∀ k, Value.ownBlock (.slice ao n cap) = some k → w.heap.size ≤ k := by
    intro k hk
    cases ao with
    | none => simp [Value.ownBlock] at hk
    | some a => have := hrow.2 a rfl; simp [Value.ownBlock] at hk; omega
  refine ⟨(hb.alloc hb.size o).grown hgrow (by have := hb.size; simp; omega) hob, hown, fun a ha => ?_⟩
  cases ha
  rcases hat with e | e
  · exact hob g e
  · have := hb.size; show w.heap.size ≤ g; omega
end Go.Proofs.YtiabdbeejkadnaaGreatDoor
