/- How the reference queue holds the document's state in memory. Own work of the verifier. -/
import Derived.Test.YtiabdbeejkadnaaGreatDoorMod
namespace Go.Proofs.YtiabdbeejkadnaaGreatDoor
open Go.RowKit

/-- the flights: their commands' requests lie in rows of their own (G) -/
def FlightsAt (w : World) (G : Nat → Prop) (ao : Option Addr) (cap : Nat) (l : List Cmd) : Prop :=
  ∃ vs : List (Option Addr × Nat), vs.length = l.length ∧ Row w G 44 4 ao l.length cap ((l.zip vs).flatMap fun x => [.bool x.1.write, .int .i64 x.1.page, .int .i64 x.1.count, .slice x.2.1 x.1.requests.length x.2.2]) ∧
    ∀ x ∈ l.zip vs, Row w G 3 1 x.2.1 x.1.requests.length x.2.2 (encI x.1.requests)

/-- THE REFERENCE QUEUE at block mb holds the state S; all its blocks lie in F. -/
structure RefBlk (w : World) (F G : Nat → Prop) (mb : Nat) (S : St) (ar : Option Addr) (cr : Nat) (at_ : Option Addr) (ct : Nat) (af : Option Addr) (cf : Nat) (ad : Option Addr) (cd : Nat) : Prop where
  own : F mb
  blk : w.heap[mb]? = some (.cells #[.int .i64 S.depth, .slice ar S.reqs.length cr, .slice at_ S.told.length ct, .slice af S.flights.length cf, .int .i64 S.now, .int .i64 S.head, .int .i64 S.last, .slice ad S.disk.length cd] 104 (0, 0))
  reqs : Row w F 175 10 ar S.reqs.length cr (S.reqs.flatMap encR)
  told : Row w F 3 1 at_ S.told.length ct (encI S.told)
  disk : Row w F 5 1 ad S.disk.length cd (encB S.disk)
  flights : FlightsAt w G af cf S.flights
  sub : ∀ k, G k → F k
  notMb : ¬ G mb
  notR : ∀ a, ar = some a → ¬ G a.block
  notT : ∀ a, at_ = some a → ¬ G a.block
  notD : ∀ a, ad = some a → ¬ G a.block
  ltF : ∀ k, F k → k < w.heap.size
def RefAt (w : World) (F : Nat → Prop) (mb : Nat) (S : St) : Prop := ∃ G ar cr at_ ct af cf ad cd, RefBlk w F G mb S ar cr at_ ct af cf ad cd

section
variable {w : World} {F G : Nat → Prop} {mb : Nat} {S : St} {ar : Option Addr} {cr : Nat} {at_ : Option Addr} {ct : Nat} {af : Option Addr} {cf : Nat} {ad : Option Addr} {cd : Nat}
theorem RefBlk.c0 (h : RefBlk w F G mb S ar cr at_ ct af cf ad cd) : w.cell? ⟨mb, 0, none⟩ = some (.int .i64 S.depth) := by simp [World.cell?, h.blk]
theorem RefBlk.c1 (h : RefBlk w F G mb S ar cr at_ ct af cf ad cd) : w.cell? ⟨mb, 1, none⟩ = some (.slice ar S.reqs.length cr) := by simp [World.cell?, h.blk]
theorem RefBlk.c2 (h : RefBlk w F G mb S ar cr at_ ct af cf ad cd) : w.cell? ⟨mb, 2, none⟩ = some (.slice at_ S.told.length ct) := by simp [World.cell?, h.blk]
theorem RefBlk.c3 (h : RefBlk w F G mb S ar cr at_ ct af cf ad cd) : w.cell? ⟨mb, 3, none⟩ = some (.slice af S.flights.length cf) := by simp [World.cell?, h.blk]
theorem RefBlk.c4 (h : RefBlk w F G mb S ar cr at_ ct af cf ad cd) : w.cell? ⟨mb, 4, none⟩ = some (.int .i64 S.now) := by simp [World.cell?, h.blk]
theorem RefBlk.c5 (h : RefBlk w F G mb S ar cr at_ ct af cf ad cd) : w.cell? ⟨mb, 5, none⟩ = some (.int .i64 S.head) := by simp [World.cell?, h.blk]
theorem RefBlk.c6 (h : RefBlk w F G mb S ar cr at_ ct af cf ad cd) : w.cell? ⟨mb, 6, none⟩ = some (.int .i64 S.last) := by simp [World.cell?, h.blk]
theorem RefBlk.c7 (h : RefBlk w F G mb S ar cr at_ ct af cf ad cd) : w.cell? ⟨mb, 7, none⟩ = some (.slice ad S.disk.length cd) := by simp [World.cell?, h.blk]
theorem RefBlk.fz (h : RefBlk w F G mb S ar cr at_ ct af cf ad cd) (k : Nat) : w.frozen? ⟨mb, k, none⟩ = false := by simp [World.frozen?, h.blk]
theorem FlightsAt.same {w w' : World} {G : Nat → Prop} {ao : Option Addr} {cap : Nat} {l : List Cmd} (h : FlightsAt w G ao cap l) (hs : ∀ k, G k → w'.heap[k]? = w.heap[k]?) : FlightsAt w' G ao cap l := by
  obtain ⟨vs, h1, h2, h3⟩ := h
  exact ⟨vs, h1, h2.same (fun a ha => hs _ (h2.2 a ha)), fun x hx => (h3 x hx).same (fun a ha => hs _ ((h3 x hx).2 a ha))⟩
/-- the whole queue where none of its blocks has turned -/
theorem RefBlk.same {w' : World} (h : RefBlk w F G mb S ar cr at_ ct af cf ad cd) (hs : ∀ k, F k → k < w.heap.size → w'.heap[k]? = w.heap[k]?) (hz : w.heap.size ≤ w'.heap.size) : RefBlk w' F G mb S ar cr at_ ct af cf ad cd where
  own := h.own
  blk := (hs _ h.own (lt_of_heap h.blk)).trans h.blk
  reqs := h.reqs.same fun a ha => by obtain ⟨c, hc, _⟩ := h.reqs.block ha; exact hs _ (h.reqs.2 a ha) (lt_of_heap hc)
  told := h.told.same fun a ha => by obtain ⟨c, hc, _⟩ := h.told.block ha; exact hs _ (h.told.2 a ha) (lt_of_heap hc)
  disk := h.disk.same fun a ha => by obtain ⟨c, hc, _⟩ := h.disk.block ha; exact hs _ (h.disk.2 a ha) (lt_of_heap hc)
  flights := h.flights.same fun k hk => hs k (h.sub k hk) (h.ltF k (h.sub k hk))
  sub := h.sub
  notMb := h.notMb
  notR := h.notR
  notT := h.notT
  notD := h.notD
  ltF := fun k hk => Nat.lt_of_lt_of_le (h.ltF k hk) hz
theorem RefBlk.wid {F' : Nat → Prop} (h : RefBlk w F G mb S ar cr at_ ct af cf ad cd) (hF : ∀ k, F k → F' k) (hl : ∀ k, F' k → k < w.heap.size) : RefBlk w F' G mb S ar cr at_ ct af cf ad cd :=
  ⟨hF _ h.own, h.blk, h.reqs.mono hF, h.told.mono hF, h.disk.mono hF, h.flights, fun k hk => hF k (h.sub k hk), h.notMb, h.notR, h.notT, h.notD, hl⟩
theorem RefAt.lt {w : World} {F : Nat → Prop} {mb : Nat} {S : St} (h : RefAt w F mb S) : ∀ k, F k → k < w.heap.size := by
  obtain ⟨G, ar, cr, at_, ct, af, cf, ad, cd, h⟩ := h
  exact h.ltF
theorem RefAt.same {w w' : World} {F : Nat → Prop} {mb : Nat} {S : St} (h : RefAt w F mb S) (hs : ∀ k, F k → k < w.heap.size → w'.heap[k]? = w.heap[k]?) (hz : w.heap.size ≤ w'.heap.size) : RefAt w' F mb S := by
  obtain ⟨G, ar, cr, at_, ct, af, cf, ad, cd, h⟩ := h
  exact ⟨G, ar, cr, at_, ct, af, cf, ad, cd, h.same hs hz⟩
theorem RefAt.wid {w : World} {F F' : Nat → Prop} {mb : Nat} {S : St} (h : RefAt w F mb S) (hF : ∀ k, F k → F' k) (hl : ∀ k, F' k → k < w.heap.size) : RefAt w F' mb S := by
  obtain ⟨G, ar, cr, at_, ct, af, cf, ad, cd, h⟩ := h
  exact ⟨G, ar, cr, at_, ct, af, cf, ad, cd, h.wid hF hl⟩
theorem RefAt.kept {w w' : World} {F G : Nat → Prop} {mb : Nat} {S : St} (h : RefAt w F mb S) (hk : Kept G w w') (hn : ∀ k, F k → ¬ G k) : RefAt w' F mb S :=
  h.same (fun k hFk hlt => hk.block k hlt (hn k hFk)) hk.size
/-- only new blocks since w: the queue stands, and the new ones may be booked to it -/
theorem RefAt.grow {w w' : World} {F : Nat → Prop} {mb : Nat} {S : St} (h : RefAt w F mb S) (hb : Below w.heap.size w w') : RefAt w' (Foot F w w') mb S :=
  (h.same (fun k _ hk => hb.block k hk) hb.size).wid Foot.of (Foot.lt h.lt hb.size)
/-- a plain number of the queue is stored -/
theorem RefBlk.setLast (h : RefBlk w F G mb S ar cr at_ ct af cf ad cd) (x : Int) : RefBlk (w.setCell ⟨mb, 6, none⟩ (.int .i64 x)) F G mb { S with last := x } ar cr at_ ct af cf ad cd where
  own := h.own
  blk := by rw [heap_setCell_at h.blk]; rfl
  reqs := h.reqs.setCell_other (h.reqs.ne h.blk (by decide)) _
  told := h.told.setCell_other (h.told.ne h.blk (by decide)) _
  disk := h.disk.setCell_other (h.disk.ne h.blk (by decide)) _
  flights := h.flights.same fun k hk => Below.heap_setCell _ _ _ _ (fun e => h.notMb (by have e' : k = mb := e; rw [← e']; exact hk))
  sub := h.sub
  notMb := h.notMb
  notR := h.notR
  notT := h.notT
  notD := h.notD
  ltF := fun k hk => by have := h.ltF k hk; simpa [World.setCell] using this
theorem RefBlk.setNow (h : RefBlk w F G mb S ar cr at_ ct af cf ad cd) (x : Int) : RefBlk (w.setCell ⟨mb, 4, none⟩ (.int .i64 x)) F G mb { S with now := x } ar cr at_ ct af cf ad cd where
  own := h.own
  blk := by rw [heap_setCell_at h.blk]; rfl
  reqs := h.reqs.setCell_other (h.reqs.ne h.blk (by decide)) _
  told := h.told.setCell_other (h.told.ne h.blk (by decide)) _
  disk := h.disk.setCell_other (h.disk.ne h.blk (by decide)) _
  flights := h.flights.same fun k hk => Below.heap_setCell _ _ _ _ (fun e => h.notMb (by have e' : k = mb := e; rw [← e']; exact hk))
  sub := h.sub
  notMb := h.notMb
  notR := h.notR
  notT := h.notT
  notD := h.notD
  ltF := fun k hk => by have := h.ltF k hk; simpa [World.setCell] using this
/-- the requests' row is another: stored into the queue -/
theorem RefBlk.setReqs {w2 : World} {F' : Nat → Prop} {ao' : Option Addr} {n' cap : Nat} {R' : List Rq} (h : RefBlk w F G mb S ar cr at_ ct af cf ad cd)
    (hs : ∀ k, k < w.heap.size → (∀ a, ar = some a → a.block ≠ k) → w2.heap[k]? = w.heap[k]?) (_hz : w.heap.size ≤ w2.heap.size) (hF : ∀ k, F k → F' k)
    (hl : ∀ k, F' k → k < w2.heap.size) (hn : n' = R'.length) (hrow : Row w2 F' 175 10 ao' n' cap (R'.flatMap encR)) (hg : ∀ b, ao' = some b → (∃ a, ar = some a ∧ a.block = b.block) ∨ w.heap.size ≤ b.block) :
    RefBlk (w2.setCell ⟨mb, 1, none⟩ (.slice ao' n' cap)) F' G mb { S with reqs := R' } ao' cap at_ ct af cf ad cd where
  own := hF _ h.own
  blk := by
    have hb : w2.heap[mb]? = _ := (hs mb (lt_of_heap h.blk) (h.reqs.ne h.blk (by decide))).trans h.blk
    rw [heap_setCell_at hb, hn]; rfl
  reqs := by
    have hb : w2.heap[mb]? = _ := (hs mb (lt_of_heap h.blk) (h.reqs.ne h.blk (by decide))).trans h.blk
    subst hn
    exact hrow.setCell_other (hrow.ne hb (by decide)) _
  told := by
    have hb : w2.heap[mb]? = _ := (hs mb (lt_of_heap h.blk) (h.reqs.ne h.blk (by decide))).trans h.blk
    have ht : Row w2 F' 3 1 at_ S.told.length ct (encI S.told) := (h.told.same fun a ha => by
      obtain ⟨c, hc, _⟩ := h.told.block ha
      exact hs _ (lt_of_heap hc) (h.reqs.ne hc (by decide))).mono hF
    exact ht.setCell_other (ht.ne hb (by decide)) _
  disk := by
    have hb : w2.heap[mb]? = _ := (hs mb (lt_of_heap h.blk) (h.reqs.ne h.blk (by decide))).trans h.blk
    have ht : Row w2 F' 5 1 ad S.disk.length cd (encB S.disk) := (h.disk.same fun a ha => by
      obtain ⟨c, hc, _⟩ := h.disk.block ha
      exact hs _ (lt_of_heap hc) (h.reqs.ne hc (by decide))).mono hF
    exact ht.setCell_other (ht.ne hb (by decide)) _
  flights := h.flights.same fun k hk => (Below.heap_setCell _ _ _ _ (fun e => h.notMb (by have e' : k = mb := e; rw [← e']; exact hk))).trans (hs k (h.ltF k (h.sub k hk)) (fun a ha e => h.notR a ha (e ▸ hk)))
  sub := fun k hk => hF k (h.sub k hk)
  notMb := h.notMb
  notR := fun b hb hk => by
    rcases hg b hb with ⟨a, ha, hag⟩ | hg
    · exact h.notR a ha (hag ▸ hk)
    · have := h.ltF _ (h.sub _ hk); omega
  notT := h.notT
  notD := h.notD
  ltF := fun k hk => by have := hl k hk; simpa [World.setCell] using this
/-- behind an append to the requests, and the store of the new slice -/
theorem RefBlk.appended {w0 w1 w2 : World} {o : Obj} {g n' cap : Nat} {R' : List Rq} (h : RefBlk w1 F G mb S ar cr at_ ct af cf ad cd) (h0 : ∀ k, F k → k < w0.heap.size) (hK : Kept F w0 w1)
    (hgrow : ((w1.alloc o).drew).grownBy w2 (Value.ownBlock (.slice ar S.reqs.length cr))) (hown : w2.ownsRow 0 175 10 (.slice (some ⟨g, 0, none⟩) n' cap) n' (R'.flatMap encR)) (hn : n' = R'.length)
    (hat : Value.ownBlock (.slice ar S.reqs.length cr) = some g ∨ g = w1.heap.size + 1) (hlt : g < w2.heap.size) :
    RefBlk (w2.setCell ⟨mb, 1, none⟩ (.slice (some ⟨g, 0, none⟩) n' cap)) (Foot F w0 (w2.setCell ⟨mb, 1, none⟩ (.slice (some ⟨g, 0, none⟩) n' cap))) G mb { S with reqs := R' } (some ⟨g, 0, none⟩) cap at_ ct af cf ad cd ∧ Kept F w0 (w2.setCell ⟨mb, 1, none⟩ (.slice (some ⟨g, 0, none⟩) n' cap)) ∧ w2.heap[mb]? = w1.heap[mb]? := by
  have hob : ∀ k, Value.ownBlock (.slice ar S.reqs.length cr) = some k → ∃ a, ar = some a ∧ a.block = k := by
    intro k hk
    cases ar with
    | none => simp [Value.ownBlock] at hk
    | some a => exact ⟨a, rfl, by simpa [Value.ownBlock] using hk⟩
  have hs : ∀ k, k < w1.heap.size → (∀ a, ar = some a → a.block ≠ k) → w2.heap[k]? = w1.heap[k]? := by
    intro k hk hne
    have e1 := hgrow.block k (by simp [World.drew]; omega) (fun e => by obtain ⟨a, ha, hak⟩ := hob k e.symm; exact hne a ha hak)
    exact e1.trans (Below.heap_alloc w1 o k hk)
  have hz : w1.heap.size ≤ w2.heap.size := by have := hgrow.size; simp [World.drew] at this; omega
  have hge : (∃ a, ar = some a ∧ a.block = g) ∨ w1.heap.size ≤ g := by
    rcases hat with e | e
    · exact Or.inl (hob g e)
    · exact Or.inr (by omega)
  have hz2 : (w2.setCell ⟨mb, 1, none⟩ (.slice (some ⟨g, 0, none⟩) n' cap)).heap.size = w2.heap.size := by simp [World.setCell]
  have hEg : Foot F w0 (w2.setCell ⟨mb, 1, none⟩ (.slice (some ⟨g, 0, none⟩) n' cap)) g := by
    rcases hge with ⟨a, ha, rfl⟩ | e
    · exact Or.inl (h.reqs.2 a ha)
    · exact Or.inr ⟨Nat.le_trans hK.size e, by rw [hz2]; exact hlt⟩
  have hrow : Row w2 (Foot F w0 (w2.setCell ⟨mb, 1, none⟩ (.slice (some ⟨g, 0, none⟩) n' cap))) 175 10 (some ⟨g, 0, none⟩) n' cap (R'.flatMap encR) := ⟨hown, fun a ha => by cases ha; exact hEg⟩
  refine ⟨h.setReqs hs hz Foot.of (fun k hk => by rw [← hz2]; exact Foot.lt h0 (by rw [hz2]; exact Nat.le_trans hK.size hz) k hk) hn hrow (fun b hb => by cases hb; exact hge), ?_, hs mb (lt_of_heap h.blk) (h.reqs.ne h.blk (by decide))⟩
  refine Kept.setCell (((hK.alloc o).drew).grown hgrow (fun k hk => ?_)) (Or.inl h.own) _
  obtain ⟨a, ha, rfl⟩ := hob k hk
  exact Or.inl (h.reqs.2 a ha)
theorem RefBlk.lt (h : RefBlk w F G mb S ar cr at_ ct af cf ad cd) : mb < w.heap.size := lt_of_heap h.blk
end
end Go.Proofs.YtiabdbeejkadnaaGreatDoor
