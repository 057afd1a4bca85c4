import Derived.Test.YtiabdbeejkadnabGreatDoorJcb559eaf89
import Derived.BigQuiet
import Derived.WalkSmall
import Derived.Deep.QuietTactic
import Derived.Test.YtiabdbeejkadnabGreatDoorJ0c3df23578
import Derived.Maps.OwnSet
import Derived.Maps.RangeWalk
import Derived.Deep.AppendLies
import Derived.Deep.RegionLaw
import Derived.WalkSpells
/- api.Told and plain.told by contracts. Own work of the verifier. -/
namespace Go.Proofs.YtiabdbeejkadnabGreatDoor
open Go.RowKit Go.Extern.Stop Go.Stop Go.Extern

theorem apiTold_nil (w : World) :
    Calls Tryz.prog 45 #[.nilIface] w fun e w' => e = .returned (.tuple #[.int .i64 0, .int .i64 (-1), .int .i64 0]) ∧ Below w.heap.size w w' := by
  go_enter Tryz.func45, Tryz.ntmps45
  go_wp2_with (go_at_call 65; refine (as_nil _ _).mono ?_; rintro e w' ⟨rfl, rfl⟩)
  go_ret3
  exact ⟨rfl, ((Below.refl _ _).alloc (Nat.le_refl _) _).alloc (by simp) _⟩

set_option maxHeartbeats 1000000 in
theorem apiTold_kind (n : Int) (w : World) (hg : w.cell? ⟨0, 0, none⟩ = some (.iface 164 (.agg #[.pointer (some ⟨1, 67, none⟩)]))) :
    Calls Tryz.prog 45 #[.iface 33 (.int .i64 n)] w fun e w' => e = .returned (.tuple #[.int .i64 n, .int .i64 (-1), .int .i64 0]) ∧ Below w.heap.size w w' := by
  have hlt : 0 < w.heap.size := lt_of_cell hg
  go_enter Tryz.func45, Tryz.ntmps45
  go_wp2_with fail
  refine (as_kp n _ _ (by rw [World.cell?_alloc_lt _ _ ⟨0, 0, none⟩ hlt]; exact hg)).mono ?_
  rintro e w1 ⟨rfl, hb⟩
  have hz : w.heap.size + 1 ≤ w1.heap.size := by have := hb.size; simpa using this
  have hg1 : (w1.alloc (.cells #[.int .i64 0] 33)).cell? ⟨0, 0, none⟩ = some (.iface 164 (.agg #[.pointer (some ⟨1, 67, none⟩)])) := by
    rw [World.cell?_alloc_lt _ _ ⟨0, 0, none⟩ (by show 0 < w1.heap.size; omega), hb.cell (p := ⟨0, 0, none⟩) (by simp), World.cell?_alloc_lt _ _ ⟨0, 0, none⟩ hlt]; exact hg
  go_wp2_with fail
  refine (as_kk n _ (.int .i64 0) _ hg1 (by simp) (by simp)).mono ?_
  rintro e w2 ⟨rfl, w3, rfl, hb2⟩
  have hc : w3.cell? ⟨w1.heap.size, 0, none⟩ = some (.int .i64 0) := by
    rw [hb2.cell (p := ⟨w1.heap.size, 0, none⟩) (by simp)]; simp
  have hc2 : (w3.setCell ⟨w1.heap.size, 0, none⟩ (.int .i64 n)).cell? ⟨w1.heap.size, 0, none⟩ = some (.int .i64 n) := World.cell?_setCell_same _ _ _ hc
  have hbb : Below w.heap.size w (w3.setCell ⟨w1.heap.size, 0, none⟩ (.int .i64 n)) :=
    (((((Below.refl _ _).alloc (Nat.le_refl _) _).trans (hb.mono (by simp))).alloc (by omega) _).trans (hb2.mono (by simp; omega))).setCell (by show w.heap.size ≤ w1.heap.size; omega) _
  generalize w3.setCell ⟨w1.heap.size, 0, none⟩ (.int .i64 n) = w4 at hc2 hbb
  clear hb hb2 hc hg1 hg
  go_wp2
  go_ret3
  exact ⟨rfl, hbb⟩

set_option maxHeartbeats 1000000 in
theorem apiTold_req (pb po : Nat) (k r t : Int) (w : World) (hg : w.cell? ⟨0, 0, none⟩ = some (.iface 164 (.agg #[.pointer (some ⟨1, 67, none⟩)])))
    (h0 : w.cell? ⟨pb, po, none⟩ = some (.int .i64 r)) (h1 : w.cell? ⟨pb, po + 1, none⟩ = some (.int .i64 t)) (h2 : w.cell? ⟨pb, po + 2, none⟩ = some (.int .i64 k)) :
    Calls Tryz.prog 45 #[.iface 125 (.pointer (some ⟨pb, po, none⟩))] w fun e w' => e = .returned (.tuple #[.int .i64 k, .int .i64 r, .int .i64 t]) ∧ Below w.heap.size w w' := by
  have hlt : 0 < w.heap.size := lt_of_cell hg
  have hpb : pb < w.heap.size := lt_of_cell h0
  go_enter Tryz.func45, Tryz.ntmps45
  go_wp2_with fail
  refine (as_pp ⟨pb, po, none⟩ _ (.pointer none) _ (by rw [World.cell?_alloc_lt _ _ ⟨0, 0, none⟩ hlt]; exact hg) (by simp) (by simp)).mono ?_
  rintro e w2 ⟨rfl, w3, rfl, hb2⟩
  have hc : w3.cell? ⟨w.heap.size, 0, none⟩ = some (.pointer none) := by
    rw [hb2.cell (p := ⟨w.heap.size, 0, none⟩) (by simp)]; simp
  have hc2 : (w3.setCell ⟨w.heap.size, 0, none⟩ (.pointer (some ⟨pb, po, none⟩))).cell? ⟨w.heap.size, 0, none⟩ = some (.pointer (some ⟨pb, po, none⟩)) := World.cell?_setCell_same _ _ _ hc
  have hbb : Below w.heap.size w (w3.setCell ⟨w.heap.size, 0, none⟩ (.pointer (some ⟨pb, po, none⟩))) :=
    (((Below.refl _ _).alloc (Nat.le_refl _) _).trans (hb2.mono (by simp))).setCell (Nat.le_refl _) _
  generalize w3.setCell ⟨w.heap.size, 0, none⟩ (.pointer (some ⟨pb, po, none⟩)) = w4 at hc2 hbb
  have g0 := (hbb.cell (p := ⟨pb, po, none⟩) hpb).trans h0
  have g1 := (hbb.cell (p := ⟨pb, po + 1, none⟩) hpb).trans h1
  have g2 := (hbb.cell (p := ⟨pb, po + 2, none⟩) hpb).trans h2
  clear hb2 hc hg h0 h1 h2
  go_wp2
  go_quiet (fail)
  go_wp2
  go_ret3
  exact ⟨rfl, below_drewN hbb _⟩

set_option maxHeartbeats 1000000 in
theorem told_any (v : Value) (k r t : Int) (w : World)
    (HT : Hid (∀ w', Below w.heap.size w w' → Calls Tryz.prog 45 #[v] w' fun e w'' => e = .returned (.tuple #[.int .i64 k, .int .i64 r, .int .i64 t]) ∧ Below w'.heap.size w' w''))
    (HI : Hid (∀ (n : Int) w', 1 ≤ n → Below w.heap.size w w' → Calls Tryz.prog 46 #[v, .iface 33 (.int .i64 n)] w' fun e w'' => e = .returned (.bool (k == n)) ∧ w'' = w')) :
    Calls Tryz.prog 25 #[v] w fun e w' => e = .returned (.agg #[.int .i64 k, .int .i64 r, .int .i64 t, .bool true]) ∧ Below w.heap.size w w' := by
  go_enter Tryz.func25, Tryz.ntmps25
  go_wp2_with fail
  refine (HT.out _ ((Below.refl _ _).alloc (Nat.le_refl _) _)).mono ?_
  rintro e w1 ⟨rfl, hb1⟩
  have hz : w.heap.size + 1 ≤ w1.heap.size := by have := hb1.size; simpa using this
  have hz' : w.heap.size < w1.heap.size := hz
  have hbw : Below w.heap.size w w1 := ((Below.refl _ _).alloc (Nat.le_refl _) _).trans (hb1.mono (by simp))
  have c0 := (hb1.cell (p := ⟨w.heap.size, 0, none⟩) (by simp))
  have c1 := (hb1.cell (p := ⟨w.heap.size, 1, none⟩) (by simp))
  have c2 := (hb1.cell (p := ⟨w.heap.size, 2, none⟩) (by simp))
  have c3 := (hb1.cell (p := ⟨w.heap.size, 3, none⟩) (by simp))
  have f0 := (hb1.frozen (p := ⟨w.heap.size, 0, none⟩) (by simp))
  have f1 := (hb1.frozen (p := ⟨w.heap.size, 1, none⟩) (by simp))
  have f2 := (hb1.frozen (p := ⟨w.heap.size, 2, none⟩) (by simp))
  have f3 := (hb1.frozen (p := ⟨w.heap.size, 3, none⟩) (by simp))
  simp at c0 c1 c2 c3 f0 f1 f2 f3
  clear hb1
  go_wp2
  go_loop [7] (fun i => ∃ n : Nat, 1 ≤ n ∧ n ≤ 11 ∧ i = .int .i64 n) (fun i => (11 - intOf i).toNat)
  case atStart => exact ⟨1, by omega, by omega, rfl⟩
  case round =>
    obtain ⟨n, hn1, hn2, rfl⟩ := hrel
    by_cases hlt : n ≤ 10
    · by_cases hk : k = n
      · have e1 : (k == (n : Int)) = true := beq_iff_eq.2 hk
        have e2 : ((n : Int) == k) = true := beq_iff_eq.2 hk.symm
        clear hk
        go_wp2_with fail
        refine (HI.out n _ (by omega) (hbw.alloc (by omega) _)).mono ?_
        rintro e w2 ⟨rfl, rfl⟩
        go_wp2
        go_round
        case rel => exact ⟨n + 1, by omega, by omega, by go_num⟩
        case measure => simp [intOf]; omega
      · have e1 : (k == (n : Int)) = false := beq_eq_false_iff_ne.2 hk
        have e2 : ((n : Int) == k) = false := beq_eq_false_iff_ne.2 (fun h => hk h.symm)
        clear hk
        go_wp2_with fail
        refine (HI.out n _ (by omega) (hbw.alloc (by omega) _)).mono ?_
        rintro e w2 ⟨rfl, rfl⟩
        go_wp2
        go_round
        case rel => exact ⟨n + 1, by omega, by omega, by go_num⟩
        case measure => simp [intOf]; omega
    · go_wp2
      refine bodyPost_ret (v := .agg #[.int .i64 k, .int .i64 r, .int .i64 t, .bool true]) (by simp [results, Tryz.results25, go_sem, hz', c0, c1, c2, c3]) rfl ⟨rfl, ?_⟩
      exact ((((hbw.setCell (Nat.le_refl _) _).setCell (Nat.le_refl _) _).setCell (Nat.le_refl _) _).setCell (Nat.le_refl _) _).alloc (by simp; omega) _

/-! ### plain.told at nil, at a kind, at a request's error -/
theorem told_nil (w : World) : Calls Tryz.prog 25 #[.nilIface] w fun e w' => e = .returned (.agg #[.int .i64 0, .int .i64 (-1), .int .i64 0, .bool true]) ∧ Below w.heap.size w w' := by
  refine told_any _ 0 (-1) 0 w (fun w' _ => apiTold_nil w') (fun n w' hn _ => ?_)
  have e1 : ((0 : Int) == n) = false := beq_eq_false_iff_ne.2 (by omega)
  rw [e1]
  exact is_nil n w'
theorem told_kind (k : Int) (w : World) (hg : w.cell? ⟨0, 0, none⟩ = some (.iface 164 (.agg #[.pointer (some ⟨1, 67, none⟩)]))) :
    Calls Tryz.prog 25 #[.iface 33 (.int .i64 k)] w fun e w' => e = .returned (.agg #[.int .i64 k, .int .i64 (-1), .int .i64 0, .bool true]) ∧ Below w.heap.size w w' :=
  told_any _ k (-1) 0 w (fun w' hb => apiTold_kind k w' ((hb.cell (p := ⟨0, 0, none⟩) (lt_of_cell hg)).trans hg)) (fun n w' _ _ => is_kind k n w')
theorem told_req (pb po : Nat) (k r t : Int) (w : World) (hg : w.cell? ⟨0, 0, none⟩ = some (.iface 164 (.agg #[.pointer (some ⟨1, 67, none⟩)])))
    (h0 : w.cell? ⟨pb, po, none⟩ = some (.int .i64 r)) (h1 : w.cell? ⟨pb, po + 1, none⟩ = some (.int .i64 t)) (h2 : w.cell? ⟨pb, po + 2, none⟩ = some (.int .i64 k)) :
    Calls Tryz.prog 25 #[.iface 125 (.pointer (some ⟨pb, po, none⟩))] w fun e w' => e = .returned (.agg #[.int .i64 k, .int .i64 r, .int .i64 t, .bool true]) ∧ Below w.heap.size w w' :=
  told_any _ k r t w (fun w' hb => apiTold_req pb po k r t w' ((hb.cell (p := ⟨0, 0, none⟩) (lt_of_cell hg)).trans hg) ((hb.cell (p := ⟨pb, po, none⟩) (lt_of_cell h0)).trans h0) ((hb.cell (p := ⟨pb, po + 1, none⟩) (lt_of_cell h1)).trans h1) ((hb.cell (p := ⟨pb, po + 2, none⟩) (lt_of_cell h2)).trans h2))
    (fun n w' _ hb => is_req pb po k n w' ((hb.cell (p := ⟨pb, po + 2, none⟩) (lt_of_cell h2)).trans h2))
end Go.Proofs.YtiabdbeejkadnabGreatDoor

/- The program's queue (stage 2's code): how it holds the document's state in memory; frames. Own work of the verifier. -/
namespace Go.Proofs.YtiabdbeejkadnabGreatDoor
open Go.RowKit Go.Maps

/-- how a pointer in the map reads: by its block's number -/
def ptrR (v : Value) : Option (DataW Unit × List MemPlace) :=
  match v with
  | .pointer none => some (.nil, [])
  | .pointer (some a) => if a.off = 0 ∧ a = ⟨a.block, 0, none⟩ then some (.lit (.int .i64 a.block), []) else none
  | _ => none
theorem ptrR_mk (b : Nat) : ptrR (.pointer (some ⟨b, 0, none⟩)) = some (.lit (.int .i64 b), []) := by simp [ptrR]
theorem ptrR_inv {v : Value} {b : Nat} {ps : List MemPlace} (h : ptrR v = some (.lit (.int .i64 b), ps)) : v = .pointer (some ⟨b, 0, none⟩) := by
  unfold ptrR at h
  split at h
  · simp at h
  · rename_i a
    split at h
    · rename_i hc
      simp at h
      have e : a.block = b := by omega
      rw [hc.2, e]
    · simp at h
  · simp at h
theorem ptrR_nil {v : Value} {ps : List MemPlace} (h : ptrR v = some (.nil, ps)) : v = .pointer none := by
  unfold ptrR at h
  split at h
  · rfl
  · split at h <;> simp at h
  · simp at h
theorem zeroP (w : World) : (zeroValue 75).run Tryz.prog w = .ok (.pointer none) w := by kernel_rfl
theorem keyLaw : Keyed Tryz.prog 3 := int_keyed Tryz.underlying3

/-- what a request's four bytes are in the program -/
def DataOk (r : Rq) (ds : List UInt8) : Prop := ds.length = 4 ∧ (r.write = true → ds = r.data.data.toList) ∧ (r.write = false → r.state = 2 → ds = r.answer.data.toList)
def u8 (b : UInt8) : Value := .int .u8 b.toNat
def entC (r : Rq) (ds : List UInt8) : Array Value := #[.int .i64 r.num, .int .i64 r.page, .bool r.write, u8 (ds.getD 0 0), u8 (ds.getD 1 0), u8 (ds.getD 2 0), u8 (ds.getD 3 0), .int .i64 r.tries, .int .i64 r.after, .int .i64 r.state]
def encE (eb : Int → Nat) (l : List Int) : List Value := l.map fun n => .pointer (some ⟨eb n, 0, none⟩)
/-- is it held (known, and not told)? -/
def heldB (S : St) (num : Int) : Bool := (findR S.reqs num).isSome && !toldHas S.told num

/-- the queue's own cells -/
structure QPart (c : Array Value) (S : St) (bm : Nat) (af : Option Addr) (cf : Nat) : Prop where
  size : c.size = 70
  c0 : c[0]? = some (.int .i64 S.depth)
  c1 : c[1]? = some (.int .i64 S.now)
  c2 : c[2]? = some (.int .i64 S.last)
  c3 : c[3]? = some (.map (some bm))
  c4 : c[4]? = some (.slice af S.flights.length cf)
  c5 : c[5]? = some (.int .i64 S.head)
  cd : ∀ j, j < 64 → c[6 + j]? = some (u8 (S.disk.getD j 0))
/-- the map -/
structure MPart (w : World) (S : St) (bm : Nat) (D : DataW Unit) (eb : Int → Nat) : Prop where
  map : w.ownsMap Tryz.prog 3 ptrR bm S.last.toNat D
  msize : Maps.size D + S.told.length = S.reqs.length
  has : ∀ num, Maps.has D (.int .i64 num) = heldB S num
  at_ : ∀ r ∈ S.reqs, toldHas S.told r.num = false → D.atKey (.int .i64 r.num) .nil = .lit (.int .i64 (eb r.num))
/-- the requests -/
structure EPart (w : World) (F : Nat → Prop) (R : List Rq) (eb : Int → Nat) : Prop where
  entF : ∀ r ∈ R, F (eb r.num)
  ent : ∀ r ∈ R, ∃ ds, DataOk r ds ∧ w.heap[eb r.num]? = some (.cells (entC r ds) 80 (0, 0))
  inj : ∀ r ∈ R, ∀ r' ∈ R, eb r.num = eb r'.num → r.num = r'.num
/-- the commands under way -/
structure LPart (w : World) (F : Nat → Prop) (eb : Int → Nat) (fl : List Cmd) (af : Option Addr) (cf : Nat) (vs : List (Option Addr × Nat)) : Prop where
  len : vs.length = fl.length
  row : Row w F 73 1 af fl.length cf ((fl.zip vs).map fun x => .slice x.2.1 x.1.requests.length x.2.2)
  ins : ∀ x ∈ fl.zip vs, Row w F 75 1 x.2.1 x.1.requests.length x.2.2 (encE eb x.1.requests)

/-- THE PROGRAM's QUEUE at block xb holds the state S. -/
structure ProgBlk (w : World) (F : Nat → Prop) (xb : Nat) (S : St) (E : List Int) (bm : Nat) (D : DataW Unit) (eb : Int → Nat) (c : Array Value) (af : Option Addr) (cf : Nat) (vs : List (Option Addr × Nat)) : Prop where
  own : F xb
  blk : w.heap[xb]? = some (.cells c 85 (0, 0))
  q : QPart c S bm af cf
  ownM : F bm
  m : MPart w S bm D eb
  e : EPart w F S.reqs eb
  l : LPart w F eb S.flights af cf vs
  ltF : ∀ k, F k → k < w.heap.size
  wf : WfE S E
def ProgE (w : World) (F : Nat → Prop) (xb : Nat) (S : St) (E : List Int) : Prop := ∃ bm D eb c af cf vs, ProgBlk w F xb S E bm D eb c af cf vs
abbrev ProgAt (w : World) (F : Nat → Prop) (xb : Nat) (S : St) : Prop := ProgE w F xb S []

theorem MPart.same {w w' : World} {S : St} {bm : Nat} {D : DataW Unit} {eb : Int → Nat} (h : MPart w S bm D eb) (hb : w'.heap[bm]? = w.heap[bm]?) : MPart w' S bm D eb where
  map := by
    obtain ⟨es, clock, hb', r⟩ := h.map
    exact ⟨es, clock, hb.trans hb', r⟩
  msize := h.msize
  has := h.has
  at_ := h.at_
theorem EPart.same {w w' : World} {F : Nat → Prop} {R : List Rq} {eb : Int → Nat} (h : EPart w F R eb) (hs : ∀ r ∈ R, w'.heap[eb r.num]? = w.heap[eb r.num]?) : EPart w' F R eb where
  entF := h.entF
  ent := fun r hr => by obtain ⟨ds, h1, h2⟩ := h.ent r hr; exact ⟨ds, h1, (hs r hr).trans h2⟩
  inj := h.inj
theorem LPart.same {w w' : World} {F : Nat → Prop} {eb : Int → Nat} {fl : List Cmd} {af : Option Addr} {cf : Nat} {vs : List (Option Addr × Nat)} (h : LPart w F eb fl af cf vs) (hs : ∀ b cs t, w.heap[b]? = some (.cells cs t (0, 0)) → (t = 73 ∨ t = 75) → F b → w'.heap[b]? = w.heap[b]?) : LPart w' F eb fl af cf vs where
  len := h.len
  row := h.row.same fun a ha => by obtain ⟨cur, hh, _⟩ := h.row.block ha; exact hs _ _ _ hh (Or.inl rfl) (h.row.2 a ha)
  ins := fun x hx => (h.ins x hx).same fun a ha => by obtain ⟨cur, hh, _⟩ := (h.ins x hx).block ha; exact hs _ _ _ hh (Or.inr rfl) ((h.ins x hx).2 a ha)

section
variable {w : World} {F : Nat → Prop} {xb : Nat} {S : St} {E : List Int} {bm : Nat} {D : DataW Unit} {eb : Int → Nat} {c : Array Value} {af : Option Addr} {cf : Nat} {vs : List (Option Addr × Nat)}
theorem ProgBlk.cell (h : ProgBlk w F xb S E bm D eb c af cf vs) (j : Nat) (v : Value) (hv : c[j]? = some v) : w.cell? ⟨xb, j, none⟩ = some v := by simp [World.cell?, h.blk, hv]
theorem ProgBlk.fz (h : ProgBlk w F xb S E bm D eb c af cf vs) (k : Nat) : w.frozen? ⟨xb, k, none⟩ = false := by simp [World.frozen?, h.blk]
theorem ProgBlk.lt (h : ProgBlk w F xb S E bm D eb c af cf vs) : xb < w.heap.size := lt_of_heap h.blk
theorem ProgBlk.bmNe (h : ProgBlk w F xb S E bm D eb c af cf vs) {b : Nat} {cs : Array Value} {t : TypeId} (hb : w.heap[b]? = some (.cells cs t (0, 0))) : bm ≠ b := fun e => by obtain ⟨es, ck, hb', _⟩ := h.m.map; rw [e, hb] at hb'; cases hb'
theorem ProgBlk.ebNe (h : ProgBlk w F xb S E bm D eb c af cf vs) {r : Rq} (hr : r ∈ S.reqs) {b : Nat} {cs : Array Value} {t : TypeId} (hb : w.heap[b]? = some (.cells cs t (0, 0))) (ht : t ≠ 80) : eb r.num ≠ b := fun e => by
  obtain ⟨ds, _, h2⟩ := h.e.ent r hr
  rw [e, hb] at h2
  simp at h2
  exact ht h2.2
theorem ProgBlk.same {w' : World} (h : ProgBlk w F xb S E bm D eb c af cf vs) (hs : ∀ k, F k → k < w.heap.size → w'.heap[k]? = w.heap[k]?) (hz : w.heap.size ≤ w'.heap.size) : ProgBlk w' F xb S E bm D eb c af cf vs where
  own := h.own
  blk := (hs _ h.own h.lt).trans h.blk
  q := h.q
  ownM := h.ownM
  m := h.m.same (hs _ h.ownM (h.ltF _ h.ownM))
  e := h.e.same fun r hr => hs _ (h.e.entF r hr) (h.ltF _ (h.e.entF r hr))
  l := h.l.same fun _ _ _ hb _ hF => hs _ hF (lt_of_heap hb)
  ltF := fun k hk => Nat.lt_of_lt_of_le (h.ltF k hk) hz
  wf := h.wf
theorem EPart.mono {R : List Rq} {F' : Nat → Prop} (h : EPart w F R eb) (hF : ∀ k, F k → F' k) : EPart w F' R eb := ⟨fun r hr => hF _ (h.entF r hr), h.ent, h.inj⟩
theorem LPart.mono {F' : Nat → Prop} {fl : List Cmd} (h : LPart w F eb fl af cf vs) (hF : ∀ k, F k → F' k) : LPart w F' eb fl af cf vs := ⟨h.len, h.row.mono hF, fun x hx => (h.ins x hx).mono hF⟩
theorem ProgBlk.wid {F' : Nat → Prop} (h : ProgBlk w F xb S E bm D eb c af cf vs) (hF : ∀ k, F k → F' k) (hl : ∀ k, F' k → k < w.heap.size) : ProgBlk w F' xb S E bm D eb c af cf vs :=
  ⟨hF _ h.own, h.blk, h.q, hF _ h.ownM, h.m, h.e.mono hF, h.l.mono hF, hl, h.wf⟩
/-- the queue's own block has turned -/
theorem ProgBlk.setQ {w' : World} {S' : St} {E' : List Int} {c' : Array Value} (h : ProgBlk w F xb S E bm D eb c af cf vs) (hb : w'.heap[xb]? = some (.cells c' 85 (0, 0))) (hs : ∀ k, k < w.heap.size → k ≠ xb → w'.heap[k]? = w.heap[k]?) (hz : w.heap.size ≤ w'.heap.size)
    (hq : QPart c' S' bm af cf) (hwf : WfE S' E') (h1 : S'.reqs = S.reqs) (h2 : S'.told = S.told) (h3 : S'.flights = S.flights) (h4 : S'.last = S.last) : ProgBlk w' F xb S' E' bm D eb c' af cf vs where
  own := h.own
  blk := hb
  q := hq
  ownM := h.ownM
  m := by
    have := h.m.same (hs bm (h.ltF _ h.ownM) (h.bmNe h.blk))
    exact ⟨by rw [h4]; exact this.map, by rw [h1, h2]; exact this.msize, fun n => by rw [this.has]; unfold heldB; rw [h1, h2], fun r hr => by rw [h1] at hr; rw [h2]; exact this.at_ r hr⟩
  e := by rw [h1]; exact h.e.same fun r hr => hs _ (h.ltF _ (h.e.entF r hr)) (h.ebNe hr h.blk (by decide))
  l := by rw [h3]; exact h.l.same fun b cs t hb' ht hF => hs b (lt_of_heap hb') (fun e => by subst e; rw [h.blk] at hb'; simp at hb'; rcases ht with rfl | rfl <;> exact absurd hb'.2 (by decide))
  ltF := fun k hk => Nat.lt_of_lt_of_le (h.ltF k hk) hz
  wf := hwf
/-- a request's block has turned -/
theorem ProgBlk.setE {w' : World} {E' : List Int} {k : Nat} {x : Rq} {ds : List UInt8} (h : ProgBlk w F xb S E bm D eb c af cf vs) (hk : k < S.reqs.length) (hx : x.num = (S.reqs[k]).num) (hd : DataOk x ds) (hb : w'.heap[eb (S.reqs[k]).num]? = some (.cells (entC x ds) 80 (0, 0)))
    (hs : ∀ b, b < w.heap.size → b ≠ eb (S.reqs[k]).num → w'.heap[b]? = w.heap[b]?) (hz : w.heap.size ≤ w'.heap.size) (hwf : WfE { S with reqs := S.reqs.set k x } E') : ProgBlk w' F xb { S with reqs := S.reqs.set k x } E' bm D eb c af cf vs := by
  obtain ⟨ds0, _, hold⟩ := h.e.ent _ (List.getElem_mem hk)
  have hxb : xb ≠ eb (S.reqs[k]).num := fun e => by rw [← e, h.blk] at hold; simp at hold
  have hin : ∀ r ∈ S.reqs.set k x, ∃ r' ∈ S.reqs, r'.num = r.num := fun r hr => by
    rcases mem_setR h.wf.sorted hk x r hr with rfl | ⟨hr, _⟩
    · exact ⟨S.reqs[k], List.getElem_mem _, hx.symm⟩
    · exact ⟨r, hr, rfl⟩
  refine ⟨h.own, (hs xb h.lt hxb).trans h.blk, ⟨h.q.size, h.q.c0, h.q.c1, h.q.c2, h.q.c3, h.q.c4, h.q.c5, h.q.cd⟩, h.ownM, ?_, ⟨fun r hr => ?_, fun r hr => ?_, fun r hr r' hr' e => ?_⟩, ?_, fun k hk => Nat.lt_of_lt_of_le (h.ltF k hk) hz, hwf⟩
  · have := h.m.same (hs bm (h.ltF _ h.ownM) (h.bmNe hold))
    refine ⟨this.map, ?_, fun n => ?_, fun r hr ht => ?_⟩
    · show _ = (S.reqs.set k x).length; rw [List.length_set]; exact this.msize
    · rw [this.has]; unfold heldB
      show _ = ((findR (S.reqs.set k x) n).isSome && _)
      rw [findR_nums (nums_setR S.reqs k x hk hx)]
    · obtain ⟨r', hr', e⟩ := hin r hr
      have ht : toldHas S.told r.num = false := ht
      rw [← e] at ht ⊢; exact this.at_ r' hr' ht
  · obtain ⟨r', hr', e⟩ := hin r hr
    rw [← e]; exact h.e.entF r' hr'
  · rcases mem_setR h.wf.sorted hk x r hr with rfl | ⟨hr, hne⟩
    · rw [hx]; exact ⟨ds, hd, hb⟩
    · obtain ⟨ds', h1, h2⟩ := h.e.ent r hr
      exact ⟨ds', h1, (hs _ (lt_of_heap h2) (fun e => hne (h.e.inj r hr _ (List.getElem_mem hk) e))).trans h2⟩
  · obtain ⟨a, ha, ea⟩ := hin r hr
    obtain ⟨b, hb, eb'⟩ := hin r' hr'
    rw [← ea, ← eb'] at e ⊢
    exact h.e.inj a ha b hb e
  · exact h.l.same fun b cs t hb' ht hF => hs b (lt_of_heap hb') (fun e => by rw [e, hold] at hb'; simp at hb'; rcases ht with rfl | rfl <;> exact absurd hb'.2 (by decide))
/-- 'v, ok := m[num]' in a world that has the map's block -/
theorem ProgBlk.look {W : World} (h : ProgBlk w F xb S E bm D eb c af cf vs) (num : Int) (hw : (Lit.int .i64 num).wf = true) (hb : W.heap[bm]? = w.heap[bm]?) :
    (Instr.lookup 82 (.map (some bm)) (.int .i64 num) true).run Tryz.prog W = .ok (.tuple #[(if heldB S num = true then .pointer (some ⟨eb num, 0, none⟩) else .pointer none), .bool (heldB S num)]) W := by
  have hm : W.ownsMap Tryz.prog 3 ptrR bm S.last.toNat D := by
    obtain ⟨es, clock, hb', r⟩ := h.m.map
    exact ⟨es, clock, hb.trans hb', r⟩
  obtain ⟨v, ps, hrun, hv⟩ := hm.look_ok keyLaw Tryz.underlying82 (zeroP W) (zd := .nil) (zp := []) rfl (keyOf_int_mk Tryz.underlying3 hw)
  rw [hrun, h.m.has num]
  cases hf : heldB S num with
  | false =>
    have : Maps.has D (.int .i64 num) = false := by rw [h.m.has, hf]
    rw [Maps.atKey_of_not_has this] at hv
    rw [ptrR_nil hv]; rfl
  | true =>
    unfold heldB at hf
    simp only [Bool.and_eq_true, Bool.not_eq_true'] at hf
    obtain ⟨i, hi⟩ := Option.isSome_iff_exists.1 hf.1
    obtain ⟨hk, hn⟩ := findR_get hi
    have := h.m.at_ _ (List.getElem_mem hk) (by rw [hn]; exact hf.2)
    rw [hn] at this
    rw [this] at hv
    rw [ptrR_inv hv]; rfl
end
theorem ProgE.lt {w : World} {F : Nat → Prop} {xb : Nat} {S : St} {E : List Int} (h : ProgE w F xb S E) : ∀ k, F k → k < w.heap.size := by
  obtain ⟨bm, D, eb, c, af, cf, vs, h⟩ := h
  exact h.ltF
theorem ProgE.same {w w' : World} {F : Nat → Prop} {xb : Nat} {S : St} {E : List Int} (h : ProgE w F xb S E) (hs : ∀ k, F k → k < w.heap.size → w'.heap[k]? = w.heap[k]?) (hz : w.heap.size ≤ w'.heap.size) : ProgE w' F xb S E := by
  obtain ⟨bm, D, eb, c, af, cf, vs, h⟩ := h
  exact ⟨bm, D, eb, c, af, cf, vs, h.same hs hz⟩
theorem ProgE.wid {w : World} {F F' : Nat → Prop} {xb : Nat} {S : St} {E : List Int} (h : ProgE w F xb S E) (hF : ∀ k, F k → F' k) (hl : ∀ k, F' k → k < w.heap.size) : ProgE w F' xb S E := by
  obtain ⟨bm, D, eb, c, af, cf, vs, h⟩ := h
  exact ⟨bm, D, eb, c, af, cf, vs, h.wid hF hl⟩
theorem ProgE.kept {w w' : World} {F G : Nat → Prop} {xb : Nat} {S : St} {E : List Int} (h : ProgE w F xb S E) (hk : Kept G w w') (hn : ∀ k, F k → ¬ G k) : ProgE w' F xb S E :=
  h.same (fun k hFk hlt => hk.block k hlt (hn k hFk)) hk.size
theorem ProgE.grow {w w' : World} {F : Nat → Prop} {xb : Nat} {S : St} {E : List Int} (h : ProgE w F xb S E) (hb : Below w.heap.size w w') : ProgE w' (Foot F w w') xb S E :=
  (h.same (fun k _ hk => hb.block k hk) hb.size).wid Foot.of (Foot.lt h.lt hb.size)
theorem ProgE.wf {w : World} {F : Nat → Prop} {xb : Nat} {S : St} {E : List Int} (h : ProgE w F xb S E) : WfE S E := by
  obtain ⟨bm, D, eb, c, af, cf, vs, h⟩ := h
  exact h.wf

theorem orEmpty_some (a : Addr) (w : World) : Calls Tryz.prog 28 #[.pointer (some a)] w fun e w' => e = .returned (.pointer (some a)) ∧ w' = w := by
  go_enter Tryz.func28, Tryz.ntmps28
  go_wp2
  go_ret
  exact ⟨rfl, rfl⟩
theorem onDisk_yes (p : Int) (w : World) (h0 : ¬ p < 0) (h1 : ¬ 16 ≤ p) : Calls Tryz.prog 63 #[.int .i64 p] w fun e w' => e = .returned (.bool true) ∧ w' = w := by
  have b0 : decide (0 ≤ p) = true := by simp; omega
  have b1 : decide (p < 16) = true := by simp; omega
  go_enter Tryz.func63, Tryz.ntmps63
  go_wp2
  go_ret
  exact ⟨rfl, rfl⟩
theorem onDisk_no (p : Int) (w : World) (h : p < 0 ∨ 16 ≤ p) : Calls Tryz.prog 63 #[.int .i64 p] w fun e w' => e = .returned (.bool false) ∧ w' = w := by
  by_cases h0 : p < 0
  · have b0 : decide (0 ≤ p) = false := by simp; omega
    clear h
    go_enter Tryz.func63, Tryz.ntmps63
    go_wp2
    go_ret
    exact ⟨rfl, rfl⟩
  · have b0 : decide (0 ≤ p) = true := by simp; omega
    have b1 : decide (p < 16) = false := by simp; omega
    have h2 : 16 ≤ p := by omega
    clear h
    go_enter Tryz.func63, Tryz.ntmps63
    go_wp2
    go_ret
    exact ⟨rfl, rfl⟩
/-- full -/
theorem prog_full (S : St) (E : List Int) (F : Nat → Prop) (xb : Nat) (w : World) (h : ProgE w F xb S E) :
    Calls Tryz.prog 86 #[.pointer (some ⟨xb, 0, none⟩)] w fun e w' => e = .returned (.bool (decide (40 ≤ (S.reqs.length : Int) - S.told.length))) ∧ w' = w := by
  obtain ⟨bm, D, eb, c, af, cf, vs, h⟩ := h
  have d0 := h.cell 0 _ h.q.c0
  have d3 := h.cell 3 _ h.q.c3
  have hb0 : (S.depth == 0) = false := beq_eq_false_iff_ne.2 (by have := h.wf.depth; omega)
  have HM : Hid (w.ownsMap Tryz.prog 3 ptrR bm S.last.toNat D) := h.m.map
  have hsz : Hid ((Maps.size D : Int) = (S.reqs.length : Int) - S.told.length) := by have := h.m.msize; show (Maps.size D : Int) = _; omega
  clear h
  go_enter Tryz.func86, Tryz.ntmps86
  have hlen : (Builtin.len_ #[82] 3 #[.map (some bm)]).run Tryz.prog w = .ok (.int .i64 (Maps.size D)) w := HM.out.len Tryz.underlying82 _
  go_wp2
  go_ret
  exact ⟨by rw [← hsz.out]; rfl, rfl⟩
end Go.Proofs.YtiabdbeejkadnabGreatDoor
