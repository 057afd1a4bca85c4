import Derived.WalkKit
import Derived.WalkSmall
/- The ground of the proofs: what may have turned ('Kept'), rows of one's own. Own work of the verifier. -/
namespace Go.Proofs.YtiabdbeejkadnabGreatDoor
open Go.RowKit

/-- Only blocks of F, and new ones, may have turned. -/
structure Kept (F : Nat → Prop) (w w' : World) : Prop where
  os : w'.os = w.os
  tape : w'.tape = w.tape
  output : w'.output = w.output
  size : w.heap.size ≤ w'.heap.size
  block : ∀ k, k < w.heap.size → ¬ F k → w'.heap[k]? = w.heap[k]?

/-- F and all blocks that are new since w. -/
def Ext (F : Nat → Prop) (w : World) (k : Nat) : Prop := F k ∨ w.heap.size ≤ k

/-- F and all blocks that were laid between w and w'. -/
def Foot (F : Nat → Prop) (w w' : World) (k : Nat) : Prop := F k ∨ (w.heap.size ≤ k ∧ k < w'.heap.size)
theorem Foot.of {F : Nat → Prop} {w w' : World} (k : Nat) (h : F k) : Foot F w w' k := Or.inl h
theorem Foot.lt {F : Nat → Prop} {w w' : World} (hF : ∀ k, F k → k < w.heap.size) (hz : w.heap.size ≤ w'.heap.size) (k : Nat) (h : Foot F w w' k) : k < w'.heap.size := h.elim (fun e => Nat.lt_of_lt_of_le (hF k e) hz) (fun e => e.2)
theorem Foot.trans {F : Nat → Prop} {w w1 w2 : World} (h1 : w.heap.size ≤ w1.heap.size) (h2 : w1.heap.size ≤ w2.heap.size) (k : Nat) (h : Foot (Foot F w w1) w1 w2 k) : Foot F w w2 k :=
  h.elim (fun e => e.elim Or.inl (fun e => Or.inr ⟨e.1, Nat.lt_of_lt_of_le e.2 h2⟩)) (fun e => Or.inr ⟨Nat.le_trans h1 e.1, e.2⟩)
theorem Foot.mid {F : Nat → Prop} {w w1 w2 : World} (h1 : w.heap.size ≤ w1.heap.size) (k : Nat) (h : Foot F w1 w2 k) : Foot F w w2 k := h.elim Or.inl (fun e => Or.inr ⟨Nat.le_trans h1 e.1, e.2⟩)
theorem Ext.of {F : Nat → Prop} {w : World} {k : Nat} (h : F k) : Ext F w k := Or.inl h
theorem Kept.refl (F : Nat → Prop) (w : World) : Kept F w w := ⟨rfl, rfl, rfl, Nat.le_refl _, fun _ _ _ => rfl⟩
theorem Kept.trans {F : Nat → Prop} {a b c : World} (h : Kept F a b) (k : Kept (Ext F a) b c) : Kept F a c :=
  ⟨k.os.trans h.os, k.tape.trans h.tape, k.output.trans h.output, Nat.le_trans h.size k.size, fun i hi hn => (k.block i (Nat.lt_of_lt_of_le hi h.size) (fun e => e.elim hn (fun e => by omega))).trans (h.block i hi hn)⟩
theorem Kept.trans' {F : Nat → Prop} {a b c : World} (h : Kept F a b) (k : Kept (Foot F a b) b c) : Kept F a c :=
  ⟨k.os.trans h.os, k.tape.trans h.tape, k.output.trans h.output, Nat.le_trans h.size k.size, fun i hi hn => (k.block i (Nat.lt_of_lt_of_le hi h.size) (fun e => e.elim hn (fun e => by omega))).trans (h.block i hi hn)⟩
theorem Kept.then {F : Nat → Prop} {a b c : World} (h : Kept F a b) (k : Kept F b c) : Kept F a c :=
  ⟨k.os.trans h.os, k.tape.trans h.tape, k.output.trans h.output, Nat.le_trans h.size k.size, fun i hi hn => (k.block i (Nat.lt_of_lt_of_le hi h.size) hn).trans (h.block i hi hn)⟩
theorem Kept.mono {F G : Nat → Prop} {w w' : World} (h : Kept F w w') (hFG : ∀ k, k < w.heap.size → F k → G k) : Kept G w w' :=
  ⟨h.os, h.tape, h.output, h.size, fun k hk hn => h.block k hk (fun e => hn (hFG k hk e))⟩
theorem Kept.drew {F : Nat → Prop} {a w : World} (h : Kept F a w) : Kept F a w.drew := ⟨h.os, h.tape, h.output, h.size, h.block⟩
theorem Kept.drewN {F : Nat → Prop} {a w : World} (h : Kept F a w) (n : Nat) : Kept F a (w.drewN n) := ⟨h.os, h.tape, h.output, h.size, h.block⟩
theorem Kept.alloc {F : Nat → Prop} {a w : World} (h : Kept F a w) (o : Obj) : Kept F a (w.alloc o) :=
  h.trans ⟨rfl, rfl, rfl, by simp, fun k hk _ => Below.heap_alloc _ _ _ hk⟩
theorem Kept.setCell {F : Nat → Prop} {a w : World} (h : Kept F a w) {p : Addr} (hp : Ext F a p.block) (u : Value) : Kept F a (w.setCell p u) :=
  h.trans ⟨rfl, rfl, rfl, by simp [World.setCell], fun k _ hn => Below.heap_setCell _ _ _ _ (fun e => hn (e ▸ hp))⟩
theorem Kept.grown {F : Nat → Prop} {a w w' : World} {row : Option Nat} (h : Kept F a w) (hg : w.grownBy w' row) (hr : ∀ k, row = some k → Ext F a k) : Kept F a w' :=
  h.trans ⟨hg.os, hg.tape, hg.output, hg.size, fun k hk hn => hg.block k hk (fun e => hn (hr k e.symm))⟩
theorem Kept.below {F : Nat → Prop} {a w w' : World} (h : Kept F a w) (hb : Below w.heap.size w w') : Kept F a w' :=
  h.trans ⟨hb.os, hb.tape, hb.output, hb.size, fun k hk _ => hb.block k hk⟩
theorem Below.kept {w w' : World} (h : Below w.heap.size w w') (F : Nat → Prop) : Kept F w w' := (Kept.refl F w).below h
theorem Kept.cell {F : Nat → Prop} {w w' : World} (h : Kept F w w') {p : Addr} (hp : p.block < w.heap.size) (hn : ¬ F p.block) : w'.cell? p = w.cell? p := World.cell?_of_block (w := w) (h.block _ hp hn)
theorem Kept.frozen {F : Nat → Prop} {w w' : World} (h : Kept F w w') {p : Addr} (hp : p.block < w.heap.size) (hn : ¬ F p.block) : w'.frozen? p = w.frozen? p := World.frozen?_of_block (w := w) (h.block _ hp hn)
theorem Kept.toBelow {F : Nat → Prop} {w w' : World} (h : Kept F w w') {B : Nat} (hF : ∀ k, F k → B ≤ k) (hB : B ≤ w.heap.size) : Below B w w' :=
  ⟨h.os, h.tape, h.output, h.size, fun k hk => h.block k (by omega) (fun e => by have := hF k e; omega)⟩

theorem hide {p : Prop} (h : p) : Hid p := h
theorem lt_of_heap {w : World} {b : Nat} {o : Obj} (h : w.heap[b]? = some o) : b < w.heap.size := lt_of_block h

/-- A row of one's own: the slice value '.slice ao n cap' owns the cells xs; its block is in F. -/
def Row (w : World) (F : Nat → Prop) (e : TypeId) (size : Nat) (ao : Option Addr) (n cap : Nat) (xs : List Value) : Prop :=
  w.ownsRow 0 e size (.slice ao n cap) n xs ∧ ∀ a, ao = some a → F a.block

theorem Row.nil (w : World) (F : Nat → Prop) (e : TypeId) (size : Nat) : Row w F e size none 0 0 [] := ⟨World.ownsRow_nil _ _ _ _, fun _ h => by cases h⟩
theorem Row.mono {w : World} {F G : Nat → Prop} {e : TypeId} {size : Nat} {ao : Option Addr} {n cap : Nat} {xs : List Value} (h : Row w F e size ao n cap xs) (hFG : ∀ k, F k → G k) : Row w G e size ao n cap xs :=
  ⟨h.1, fun a ha => hFG _ (h.2 a ha)⟩
theorem Row.len {w : World} {F : Nat → Prop} {e : TypeId} {size : Nat} {ao : Option Addr} {n cap : Nat} {xs : List Value} (h : Row w F e size ao n cap xs) : xs.length = n * size := h.1.1
/-- where there is an element there is a block -/
theorem Row.some {w : World} {F : Nat → Prop} {e : TypeId} {size : Nat} {ao : Option Addr} {n cap : Nat} {xs : List Value} (h : Row w F e size ao n cap xs) (hn : 0 < n) :
    ∃ g cur, ao = .some ⟨g, 0, none⟩ ∧ F g ∧ w.heap[g]? = .some (.cells cur e (0, 0)) ∧ n ≤ cap ∧ cur.size = cap * size := by
  rcases h.1.2 with ⟨_, h0⟩ | ⟨g, cap', cur, hv, _, hh, hnc, _, hcs, _⟩
  · omega
  · simp only [Value.slice.injEq] at hv
    obtain ⟨rfl, _, rfl⟩ := hv
    exact ⟨g, cur, rfl, h.2 _ rfl, hh, hnc, hcs⟩
theorem Row.block {w : World} {F : Nat → Prop} {e : TypeId} {size : Nat} {ao : Option Addr} {n cap : Nat} {xs : List Value} (h : Row w F e size ao n cap xs) {a : Addr} (ha : ao = .some a) :
    ∃ cur, w.heap[a.block]? = .some (.cells cur e (0, 0)) ∧ a.off = 0 ∧ n ≤ cap ∧ cur.size = cap * size := by
  rcases h.1.2 with ⟨hv, _⟩ | ⟨g, cap', cur, hv, _, hh, hnc, _, hcs, _⟩
  · simp [ha] at hv
  · simp only [Value.slice.injEq, ha] at hv
    obtain ⟨h1, _, rfl⟩ := hv
    cases h1
    exact ⟨cur, hh, rfl, hnc, hcs⟩
theorem Row.cellAt {w : World} {F : Nat → Prop} {e : TypeId} {size g n cap : Nat} {xs : List Value} (h : Row w F e size (.some ⟨g, 0, none⟩) n cap xs) (j : Nat) (hj : j < n * size) : w.cell? ⟨g, j, none⟩ = xs[j]? := h.1.cellAt j hj
theorem Row.frozenAt {w : World} {F : Nat → Prop} {e : TypeId} {size g n cap : Nat} {xs : List Value} (h : Row w F e size (.some ⟨g, 0, none⟩) n cap xs) (j : Nat) : w.frozen? ⟨g, j, none⟩ = false := h.1.frozenAt j
/-- what is owned stays owned where its block has not turned -/
theorem Row.same {w w' : World} {F : Nat → Prop} {e : TypeId} {size : Nat} {ao : Option Addr} {n cap : Nat} {xs : List Value} (h : Row w F e size ao n cap xs) (hs : ∀ a, ao = .some a → w'.heap[a.block]? = w.heap[a.block]?) : Row w' F e size ao n cap xs := by
  refine ⟨⟨h.1.1, ?_⟩, h.2⟩
  rcases h.1.2 with hn | ⟨g, cap', cur, hv, hb, hh, rest⟩
  · exact Or.inl hn
  · simp only [Value.slice.injEq] at hv
    obtain ⟨rfl, _, rfl⟩ := hv
    exact Or.inr ⟨g, cap, cur, rfl, hb, (hs _ rfl).trans hh, rest⟩
theorem Row.kept {w w' : World} {F G : Nat → Prop} {e : TypeId} {size : Nat} {ao : Option Addr} {n cap : Nat} {xs : List Value} (h : Row w F e size ao n cap xs) (hk : Kept G w w') (hn : ∀ a, ao = .some a → ¬ G a.block) : Row w' F e size ao n cap xs :=
  h.same fun a ha => by obtain ⟨cur, hh, _⟩ := h.block ha; exact hk.block _ (lt_of_heap hh) (hn a ha)
theorem Row.alloc {w : World} {F : Nat → Prop} {e : TypeId} {size : Nat} {ao : Option Addr} {n cap : Nat} {xs : List Value} (h : Row w F e size ao n cap xs) (o : Obj) : Row (w.alloc o) F e size ao n cap xs :=
  h.same fun a ha => by obtain ⟨cur, hh, _⟩ := h.block ha; exact Below.heap_alloc _ _ _ (lt_of_heap hh)
/-- a block of another type is another block -/
theorem Row.ne {w : World} {F : Nat → Prop} {e t : TypeId} {size : Nat} {ao : Option Addr} {n cap : Nat} {xs : List Value} {b : Nat} {cs : Array Value} {fz : Nat × Nat} (h : Row w F e size ao n cap xs) (hb : w.heap[b]? = .some (.cells cs t fz)) (hne : e ≠ t) : ∀ a, ao = .some a → a.block ≠ b := by
  intro a ha he
  obtain ⟨cur, hh, _⟩ := h.block ha
  rw [he, hb] at hh
  simp at hh
  exact hne hh.2.1.symm
theorem Row.setCell_other {w : World} {F : Nat → Prop} {e : TypeId} {size : Nat} {ao : Option Addr} {n cap : Nat} {xs : List Value} (h : Row w F e size ao n cap xs) {p : Addr} (hne : ∀ a, ao = .some a → a.block ≠ p.block) (u : Value) : Row (w.setCell p u) F e size ao n cap xs :=
  h.same fun a ha => Below.heap_setCell _ _ _ _ (hne a ha)
theorem Row.stored {w : World} {F : Nat → Prop} {e : TypeId} {size g n cap : Nat} {xs : List Value} (h : Row w F e size (.some ⟨g, 0, none⟩) n cap xs) (j : Nat) (u : Value) : Row (w.setCell ⟨g, j, none⟩ u) F e size (.some ⟨g, 0, none⟩) n cap (xs.set j u) :=
  ⟨(h.1.stored j u).1, h.2⟩
/-- what the law on append leaves, as a row -/
theorem Row.of_owns {w : World} {F : Nat → Prop} {e : TypeId} {size : Nat} {v : Value} {n : Nat} {xs : List Value} (h : w.ownsRow 0 e size v n xs) (hF : ∀ k, v.ownBlock = .some k → F k) : ∃ ao cap, v = .slice ao n cap ∧ Row w F e size ao n cap xs := by
  rcases h.2 with ⟨rfl, rfl⟩ | ⟨g, cap, cur, rfl, _⟩
  · exact ⟨none, 0, rfl, h, fun _ h => by cases h⟩
  · exact ⟨_, cap, rfl, h, fun a ha => by cases ha; exact hF g rfl⟩
theorem alloc_below (w : World) (o : Obj) : Below w.heap.size w (w.alloc o) := (Below.refl _ _).alloc (Nat.le_refl _) _
theorem heap_setCell_at {w : World} {b j : Nat} {cs : Array Value} {t : TypeId} (h : w.heap[b]? = some (.cells cs t (0, 0))) (u : Value) : (w.setCell ⟨b, j, none⟩ u).heap[b]? = some (.cells (cs.setIfInBounds j u) t (0, 0)) := heap_setCell_same w b j cs t u h
theorem news_new {w : World} {xs : List Value} {t : TypeId} (j : Nat) (u : Value) (h : xs[j]? = some u) : ((w.alloc (.cells xs.toArray t)).drew).cell? ((⟨w.heap.size, 0, none⟩ : Addr).add j) = some u := by
  rw [Addr.add_lit, Nat.zero_add]
  show (w.alloc (.cells xs.toArray t)).cell? ⟨w.heap.size, j, none⟩ = some u
  rw [World.cell?_alloc_at _ _ _ _ rfl]
  simpa using h
theorem own_rel {e : TypeId} {size : Nat} {w wr w2 : World} {ao : Option Addr} {n m cap g cap' : Nat} {xs news : List Value} {o : Obj} (hb : Below w.heap.size w wr) (hrow : Row wr (fun b => w.heap.size ≤ b) e size ao n cap xs)
    (hgrow : (wr.alloc o).grownBy w2 (Value.ownBlock (.slice ao n cap))) (hown : w2.ownsRow 0 e size (.slice (some ⟨g, 0, none⟩) (n + m) cap') (n + m) (xs ++ news)) (hat : Value.ownBlock (.slice ao n cap) = some g ∨ g = wr.heap.size + 1) :
    Below w.heap.size w w2 ∧ Row w2 (fun b => w.heap.size ≤ b) e size (some ⟨g, 0, none⟩) (n + m) cap' (xs ++ news) := by
  have hob : ∀ k, Value.ownBlock (.slice ao n cap) = some k → w.heap.size ≤ k := by
    intro k hk
    cases ao with
    | none => simp [Value.ownBlock] at hk
    | some a => have := hrow.2 a rfl; simp [Value.ownBlock] at hk; omega
  refine ⟨(hb.alloc hb.size o).grown hgrow (by have := hb.size; simp; omega) hob, hown, fun a ha => ?_⟩
  cases ha
  rcases hat with e | e
  · exact hob g e
  · have := hb.size; show w.heap.size ≤ g; omega
end Go.Proofs.YtiabdbeejkadnabGreatDoor

/- The document's state as a plain model, and what the calls do to it. Own work of the verifier. -/
namespace Go.Proofs.YtiabdbeejkadnabGreatDoor
open Go.RowKit

/-! ### the document's state, as a plain model -/
structure Rq where
  num : Int
  write : Bool
  page : Int
  data : ByteArray
  state : Int
  tries : Int
  after : Int
  alone : Bool
  inAir : Bool
  answer : ByteArray
structure Cmd where
  write : Bool
  page : Int
  count : Int
  requests : List Int
structure St where
  depth : Int
  reqs : List Rq
  told : List Int
  flights : List Cmd
  now : Int
  head : Int
  last : Int
  disk : List UInt8

def encR (r : Rq) : List Value := [.int .i64 r.num, .bool r.write, .int .i64 r.page, .string r.data, .int .i64 r.state, .int .i64 r.tries, .int .i64 r.after, .bool r.alone, .bool r.inAir, .string r.answer]
def encI (l : List Int) : List Value := l.map (Value.int .i64)
def encB (l : List UInt8) : List Value := l.map (fun b => Value.int .u8 b.toNat)

/-- is it among those that are told? -/
def toldHas (T : List Int) (n : Int) : Bool := T.contains n
theorem toldHas_mem {T : List Int} {n : Int} (h : n ∈ T) : toldHas T n = true := by simpa [toldHas] using h
theorem toldHas_take {T : List Int} {n : Int} {k : Nat} (hk : k < T.length) (h : toldHas (T.take k) n = false) (hne : T.getD k 0 ≠ n) : toldHas (T.take (k + 1)) n = false := by
  have hgd : T.getD k 0 = T[k] := by simp [hk]
  rw [hgd] at hne
  simp only [toldHas, List.take_succ_eq_append_getElem hk, List.contains_eq_mem, List.mem_append, List.mem_singleton, decide_eq_false_iff_not] at h ⊢
  exact fun e => e.elim h (fun e => hne e.symm)
theorem toldHas_all {T : List Int} {n : Int} {k : Nat} (hk : T.length ≤ k) (h : toldHas (T.take k) n = false) : toldHas T n = false := by
  rwa [List.take_of_length_le hk] at h
theorem getD_mem {T : List Int} {k : Nat} (hk : k < T.length) : T.getD k 0 ∈ T := by
  rw [List.getD_eq_getElem?_getD]; simp [hk]

def Rq.zero : Rq := ⟨0, false, 0, ⟨#[]⟩, 0, 0, 0, false, false, ⟨#[]⟩⟩

/-- where the request with this number lies -/
def findR (R : List Rq) (num : Int) : Option Nat := R.findIdx? (fun r => r.num == num)
theorem findR_hit {R : List Rq} {num : Int} {k : Nat} (hk : k < R.length) (h : findR (R.take k) num = none) (he : (R.getD k Rq.zero).num = num) : findR R num = some k := by
  have hgd : R.getD k Rq.zero = R[k] := by simp [hk]
  rw [hgd] at he
  unfold findR at h ⊢
  rw [List.findIdx?_eq_some_iff_getElem]
  refine ⟨hk, by simp [he], fun j hj => ?_⟩
  rw [List.findIdx?_eq_none_iff] at h
  have := h R[j] (by rw [List.mem_take_iff_getElem]; exact ⟨j, by omega, rfl⟩)
  simpa using this
theorem findR_next {R : List Rq} {num : Int} {k : Nat} (hk : k < R.length) (h : findR (R.take k) num = none) (hne : (R.getD k Rq.zero).num ≠ num) : findR (R.take (k + 1)) num = none := by
  have hgd : R.getD k Rq.zero = R[k] := by simp [hk]
  rw [hgd] at hne
  unfold findR at h ⊢
  rw [List.findIdx?_eq_none_iff] at h ⊢
  intro x hx
  rw [List.take_succ_eq_append_getElem hk, List.mem_append, List.mem_singleton] at hx
  rcases hx with hx | hx
  · exact h x hx
  · subst hx; simpa using hne
theorem findR_all {R : List Rq} {num : Int} {k : Nat} (hk : R.length ≤ k) (h : findR (R.take k) num = none) : findR R num = none := by
  rwa [List.take_of_length_le hk] at h
def intOr (o : Option Nat) : Int := match o with | some i => i | none => -1
/-- place: where a request lies that is not told; -1: there is none -/
def placeM (S : St) (num : Int) : Int := if toldHas S.told num then -1 else intOr (findR S.reqs num)
theorem findR_lt {R : List Rq} {num : Int} {k : Nat} (h : findR R num = some k) : k < R.length ∧ (R.getD k Rq.zero).num = num := by
  unfold findR at h
  rw [List.findIdx?_eq_some_iff_getElem] at h
  obtain ⟨hk, he, _⟩ := h
  exact ⟨hk, by simpa [hk] using he⟩

/-- Ask: the new request's number (0: none), the kind of an error (0: none) -/
def askOk (S : St) (write : Bool) (page : Int) (data : ByteArray) : St := { S with last := S.last + 1, reqs := S.reqs ++ [⟨S.last + 1, write, page, data, 0, 0, 0, false, false, ⟨#[]⟩⟩] }
def askM (S : St) (write : Bool) (page : Int) (data : ByteArray) : Int × Int × St :=
  if page < 0 ∨ 16 ≤ page then (0, 2, S) else if write = true ∧ data.size ≠ 4 then (0, 3, S) else if 40 ≤ (S.reqs.length : Int) - S.told.length then (0, 4, S) else (S.last + 1, 0, askOk S write page data)

/-- the first i requests but for the one at place k -/
def keepTo (R : List Rq) (k i : Nat) : List Rq := (R.take i).eraseIdx k
theorem keepTo_zero (R : List Rq) (k : Nat) : keepTo R k 0 = [] := by simp [keepTo]
theorem keepTo_all (R : List Rq) (k i : Nat) (h : R.length ≤ i) : keepTo R k i = R.eraseIdx k := by rw [keepTo, List.take_of_length_le h]
theorem keepTo_same (R : List Rq) (k : Nat) : keepTo R k (k + 1) = keepTo R k k := by
  unfold keepTo
  by_cases h : k < R.length
  · have hl : (R.take k).length = k := by rw [List.length_take]; omega
    rw [List.take_succ_eq_append_getElem h, List.eraseIdx_append_of_length_le (by omega), hl, Nat.sub_self, List.eraseIdx_of_length_le (l := R.take k) (k := k) (by omega)]
    simp
  · rw [List.take_of_length_le (by omega), List.take_of_length_le (by omega)]
theorem keepTo_next (R : List Rq) (k i : Nat) (h : i < R.length) (hne : i ≠ k) : keepTo R k (i + 1) = keepTo R k i ++ [R.getD i Rq.zero] := by
  unfold keepTo
  have hgd : R.getD i Rq.zero = R[i] := by simp [h]
  rw [List.take_succ_eq_append_getElem h, hgd]
  rcases Nat.lt_or_ge k i with hk | hk
  · rw [List.eraseIdx_append_of_lt_length (by rw [List.length_take]; omega)]
  · rw [List.eraseIdx_of_length_le (by rw [List.length_append, List.length_take]; simp; omega), List.eraseIdx_of_length_le (by rw [List.length_take]; omega)]
theorem keepTo_len (R : List Rq) (k i : Nat) : (keepTo R k i).length ≤ R.length := by
  unfold keepTo
  have := List.length_eraseIdx_le (R.take i) k
  have := List.length_take_le i R
  have := List.length_take_le' i R
  omega
def dropM (S : St) (k : Nat) : St :=
  if (S.reqs.getD k Rq.zero).inAir then { S with told := S.told ++ [(S.reqs.getD k Rq.zero).num] } else { S with reqs := S.reqs.eraseIdx k }

/-- the cells of row i of a list of requests -/
theorem encRs_at (l : List Rq) (i k : Nat) (hi : i < l.length) (hk : k < 10) : (l.flatMap encR)[i * 10 + k]? = (encR (l.getD i Rq.zero))[k]? := by
  induction l generalizing i with
  | nil => simp at hi
  | cons r l ih =>
    cases i with
    | zero =>
      simp only [List.flatMap_cons, Nat.zero_mul, Nat.zero_add]
      rw [List.getElem?_append_left (by simpa [encR] using hk)]
      simp
    | succ i =>
      simp only [List.flatMap_cons]
      rw [List.getElem?_append_right (by simp [encR]; omega)]
      have e : (i + 1) * 10 + k - (encR r).length = i * 10 + k := by simp [encR]; omega
      rw [e, ih i (by simpa using hi)]
      simp
theorem encRs_len (l : List Rq) : (l.flatMap encR).length = l.length * 10 := by
  induction l with
  | nil => rfl
  | cons r l ih => simp only [List.flatMap_cons, List.length_append, ih, List.length_cons]; simp [encR]; omega

theorem placeM_some {S : St} {num : Int} {k : Nat} (h : placeM S num = k) : k < S.reqs.length ∧ (S.reqs.getD k Rq.zero).num = num := by
  unfold placeM at h
  split at h
  · omega
  · cases hf : findR S.reqs num with
    | none => rw [hf] at h; simp [intOr] at h
    | some i =>
      rw [hf] at h
      have : i = k := by simp [intOr] at h; omega
      subst this
      exact findR_lt hf
theorem placeM_cases (S : St) (num : Int) : placeM S num = -1 ∨ ∃ k : Nat, placeM S num = k := by
  unfold placeM
  split
  · exact Or.inl rfl
  · cases findR S.reqs num with
    | none => exact Or.inl rfl
    | some i => exact Or.inr ⟨i, rfl⟩

/-- Poll: the data, the tries, the kind of an error (0: none), the state behind it -/
def pollM (S : St) (num : Int) : ByteArray × Int × Int × St :=
  if placeM S num < 0 then (⟨#[]⟩, 0, 5, S) else
  let k := (placeM S num).toNat
  let r := S.reqs.getD k Rq.zero
  if r.state = 0 ∨ r.state = 1 then (⟨#[]⟩, r.tries, 6, S) else
  if r.state = 3 then (⟨#[]⟩, r.tries, 7, dropM S k) else
  if r.state = 4 then (⟨#[]⟩, r.tries, 8, dropM S k) else (r.answer, r.tries, 0, dropM S k)
def setState (R : List Rq) (k : Nat) (x : Int) : List Rq := R.set k { R.getD k Rq.zero with state := x }
/-- Cancel: the kind of an error (0: none), the tries, the state behind it -/
def cancelM (S : St) (num : Int) : Int × Int × St :=
  if placeM S num < 0 then (5, 0, S) else
  let k := (placeM S num).toNat
  let r := S.reqs.getD k Rq.zero
  if 2 ≤ r.state then (9, r.tries, S) else (0, 0, { S with reqs := setState S.reqs k 4 })

def waitTo (R : List Rq) (i : Nat) : List Int := ((R.take i).filter (fun r => r.state == 0)).map (·.num)
def waitM (S : St) : List Int := (S.reqs.filter (fun r => r.state == 0)).map (·.num)
theorem waitTo_yes {R : List Rq} {i : Nat} (h : i < R.length) (hs : (R.getD i Rq.zero).state = 0) : waitTo R (i + 1) = waitTo R i ++ [(R.getD i Rq.zero).num] := by
  have hgd : R.getD i Rq.zero = R[i] := by simp [h]
  rw [hgd] at hs ⊢
  simp only [waitTo, List.take_succ_eq_append_getElem h, List.filter_append, List.map_append]
  simp [hs]
theorem waitTo_no {R : List Rq} {i : Nat} (h : i < R.length) (hs : (R.getD i Rq.zero).state ≠ 0) : waitTo R (i + 1) = waitTo R i := by
  have hgd : R.getD i Rq.zero = R[i] := by simp [h]
  rw [hgd] at hs
  simp only [waitTo, List.take_succ_eq_append_getElem h, List.filter_append, List.map_append]
  simp [hs]
theorem waitTo_len (R : List Rq) (i : Nat) : (waitTo R i).length ≤ R.length := by
  unfold waitTo
  rw [List.length_map]
  have h1 := List.length_filter_le (fun r : Rq => r.state == 0) (R.take i)
  have h2 := List.length_take_le' i R
  omega
def St.new (depth : Int) : St := ⟨depth, [], [], [], 0, 0, 0, List.replicate 64 0⟩
end Go.Proofs.YtiabdbeejkadnabGreatDoor
