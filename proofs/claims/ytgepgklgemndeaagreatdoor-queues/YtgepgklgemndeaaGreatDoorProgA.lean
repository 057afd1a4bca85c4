/- The program's queue (stage 1's code): how it holds the document's state in memory; the look-ups. Own work of the verifier. -/
import Derived.Test.YtgepgklgemndeaaGreatDoorLawD
import Derived.Test.YtgepgklgemndeaaGreatDoorTold
import Derived.Maps.OwnSet
import Derived.Maps.RangeWalk
namespace Go.Proofs.YtgepgklgemndeaaGreatDoor
open Go.RowKit Go.Maps

/-- how a pointer in the map reads: by its block's number -/
def ptrR (v : Value) : Option (DataW Unit × List MemPlace) :=
  match v with
  | .pointer none => some (.nil, [])
  | .pointer (some a) => if a.off = 0 ∧ a = ⟨a.block, 0, none⟩ then some (.lit (.int .i64 a.block), []) else none
  | _ => none
theorem ptrR_mk (b : Nat) : ptrR (.pointer (some ⟨b, 0, none⟩)) = some (.lit (.int .i64 b), []) := by simp [ptrR]
theorem ptrR_inv {v : Value} {b : Nat} {ps : List MemPlace} (h : ptrR v = some (.lit (.int .i64 b), ps)) : v = .pointer (some ⟨b, 0, none⟩) := by
  unfold ptrR at h
  split at h
  · simp at h
  · rename_i a
    split at h
    · rename_i hc
      simp at h
      have e : a.block = b := by omega
      rw [hc.2, e]
    · simp at h
  · simp at h
theorem ptrR_nil {v : Value} {ps : List MemPlace} (h : ptrR v = some (.nil, ps)) : v = .pointer none := by
  unfold ptrR at h
  split at h
  · rfl
  · split at h <;> simp at h
  · simp at h
theorem zeroP (w : World) : (zeroValue 122).run Tryz.prog w = .ok (.pointer none) w := by kernel_rfl
theorem keyLaw : Keyed Tryz.prog 3 := int_keyed Tryz.underlying3

/-- what stage 1 knows of the state -/
structure Wf1 (S : St) : Prop where
  depth : 1 ≤ S.depth ∧ S.depth ≤ 4
  told : S.told = []
  flights : S.flights = []
  disk : S.disk = List.replicate 64 0
  len : S.reqs.length ≤ 40
  last : 0 ≤ S.last
  st : ∀ r ∈ S.reqs, (r.state = 0 ∨ r.state = 4) ∧ r.tries = 0 ∧ r.inAir = false
  num : ∀ r ∈ S.reqs, 1 ≤ r.num ∧ r.num ≤ S.last
  sorted : S.reqs.Pairwise (fun a b => a.num < b.num)

/-- THE PROGRAM's QUEUE at block xb holds the state S. -/
structure ProgBlk (w : World) (F : Nat → Prop) (xb : Nat) (S : St) (bm : Nat) (D : DataW Unit) (eb : Int → Nat) (c : Array Value) : Prop where
  own : F xb
  blk : w.heap[xb]? = some (.cells c 81 (0, 0))
  size : c.size = 68
  c0 : c[0]? = some (.int .i64 S.depth)
  c1 : c[1]? = some (.int .i64 S.now)
  c2 : c[2]? = some (.int .i64 S.last)
  c3 : c[3]? = some (.map (some bm))
  cd : ∀ j, j < 64 → c[4 + j]? = some (.int .u8 0)
  ownM : F bm
  map : w.ownsMap Tryz.prog 3 ptrR bm S.last.toNat D
  msize : Maps.size D = S.reqs.length
  has : ∀ num, Maps.has D (.int .i64 num) = (findR S.reqs num).isSome
  at_ : ∀ r ∈ S.reqs, D.atKey (.int .i64 r.num) .nil = .lit (.int .i64 (eb r.num))
  entF : ∀ r ∈ S.reqs, F (eb r.num)
  ent : ∀ r ∈ S.reqs, ∃ d0 d1 d2 d3, w.heap[eb r.num]? = some (.cells #[.int .i64 r.num, .int .i64 r.page, .bool r.write, d0, d1, d2, d3, .int .i64 r.tries, .int .i64 r.state] 125 (0, 0))
  inj : ∀ r ∈ S.reqs, ∀ r' ∈ S.reqs, eb r.num = eb r'.num → r.num = r'.num
  ltF : ∀ k, F k → k < w.heap.size
  wf : Wf1 S
def ProgAt (w : World) (F : Nat → Prop) (xb : Nat) (S : St) : Prop := ∃ bm D eb c, ProgBlk w F xb S bm D eb c

section
variable {w : World} {F : Nat → Prop} {xb : Nat} {S : St} {bm : Nat} {D : DataW Unit} {eb : Int → Nat} {c : Array Value}
theorem ProgBlk.cell (h : ProgBlk w F xb S bm D eb c) (j : Nat) (v : Value) (hv : c[j]? = some v) : w.cell? ⟨xb, j, none⟩ = some v := by simp [World.cell?, h.blk, hv]
theorem ProgBlk.fz (h : ProgBlk w F xb S bm D eb c) (k : Nat) : w.frozen? ⟨xb, k, none⟩ = false := by simp [World.frozen?, h.blk]
theorem ProgBlk.lt (h : ProgBlk w F xb S bm D eb c) : xb < w.heap.size := lt_of_heap h.blk
theorem ProgBlk.same {w' : World} (h : ProgBlk w F xb S bm D eb c) (hs : ∀ k, F k → k < w.heap.size → w'.heap[k]? = w.heap[k]?) (hz : w.heap.size ≤ w'.heap.size) : ProgBlk w' F xb S bm D eb c where
  own := h.own
  blk := (hs _ h.own h.lt).trans h.blk
  size := h.size
  c0 := h.c0
  c1 := h.c1
  c2 := h.c2
  c3 := h.c3
  cd := h.cd
  ownM := h.ownM
  map := by
    obtain ⟨es, clock, hb, r⟩ := h.map
    exact ⟨es, clock, (hs _ h.ownM (lt_of_heap hb)).trans hb, r⟩
  msize := h.msize
  has := h.has
  at_ := h.at_
  entF := h.entF
  ent := fun r hr => by obtain ⟨d0, d1, d2, d3, hh⟩ := h.ent r hr; exact ⟨d0, d1, d2, d3, (hs _ (h.entF r hr) (lt_of_heap hh)).trans hh⟩
  inj := h.inj
  ltF := fun k hk => Nat.lt_of_lt_of_le (h.ltF k hk) hz
  wf := h.wf
theorem ProgBlk.wid {F' : Nat → Prop} (h : ProgBlk w F xb S bm D eb c) (hF : ∀ k, F k → F' k) (hl : ∀ k, F' k → k < w.heap.size) : ProgBlk w F' xb S bm D eb c :=
  ⟨hF _ h.own, h.blk, h.size, h.c0, h.c1, h.c2, h.c3, h.cd, hF _ h.ownM, h.map, h.msize, h.has, h.at_, fun r hr => hF _ (h.entF r hr), h.ent, h.inj, hl, h.wf⟩
/-- 'v, ok := m[num]' in a world that has the map's block -/
theorem ProgBlk.look {W : World} (h : ProgBlk w F xb S bm D eb c) (num : Int) (hw : (Lit.int .i64 num).wf = true) (hb : W.heap[bm]? = w.heap[bm]?) :
    (Instr.lookup 76 (.map (some bm)) (.int .i64 num) true).run Tryz.prog W = .ok (.tuple #[(match findR S.reqs num with | some _ => .pointer (some ⟨eb num, 0, none⟩) | none => .pointer none), .bool (findR S.reqs num).isSome]) W := by
  have hm : W.ownsMap Tryz.prog 3 ptrR bm S.last.toNat D := by
    obtain ⟨es, clock, hb', r⟩ := h.map
    exact ⟨es, clock, hb.trans hb', r⟩
  obtain ⟨v, ps, hrun, hv⟩ := hm.look_ok keyLaw Tryz.underlying76 (zeroP W) (zd := .nil) (zp := []) rfl (keyOf_int_mk Tryz.underlying3 hw)
  rw [hrun, h.has num]
  cases hf : findR S.reqs num with
  | none =>
    have : Maps.has D (.int .i64 num) = false := by rw [h.has, hf]; rfl
    rw [Maps.atKey_of_not_has this] at hv
    rw [ptrR_nil hv]
  | some i =>
    obtain ⟨hi, hn⟩ := findR_lt hf
    have hm : S.reqs.getD i Rq.zero ∈ S.reqs := by rw [List.getD_eq_getElem?_getD]; simp [hi]
    have := h.at_ _ hm
    rw [hn] at this
    rw [this] at hv
    rw [ptrR_inv hv]
end
theorem ProgAt.lt {w : World} {F : Nat → Prop} {xb : Nat} {S : St} (h : ProgAt w F xb S) : ∀ k, F k → k < w.heap.size := by
  obtain ⟨bm, D, eb, c, h⟩ := h
  exact h.ltF
theorem ProgAt.same {w w' : World} {F : Nat → Prop} {xb : Nat} {S : St} (h : ProgAt w F xb S) (hs : ∀ k, F k → k < w.heap.size → w'.heap[k]? = w.heap[k]?) (hz : w.heap.size ≤ w'.heap.size) : ProgAt w' F xb S := by
  obtain ⟨bm, D, eb, c, h⟩ := h
  exact ⟨bm, D, eb, c, h.same hs hz⟩
theorem ProgAt.wid {w : World} {F F' : Nat → Prop} {xb : Nat} {S : St} (h : ProgAt w F xb S) (hF : ∀ k, F k → F' k) (hl : ∀ k, F' k → k < w.heap.size) : ProgAt w F' xb S := by
  obtain ⟨bm, D, eb, c, h⟩ := h
  exact ⟨bm, D, eb, c, h.wid hF hl⟩
theorem ProgAt.kept {w w' : World} {F G : Nat → Prop} {xb : Nat} {S : St} (h : ProgAt w F xb S) (hk : Kept G w w') (hn : ∀ k, F k → ¬ G k) : ProgAt w' F xb S :=
  h.same (fun k hFk hlt => hk.block k hlt (hn k hFk)) hk.size
theorem ProgAt.grow {w w' : World} {F : Nat → Prop} {xb : Nat} {S : St} (h : ProgAt w F xb S) (hb : Below w.heap.size w w') : ProgAt w' (Foot F w w') xb S :=
  (h.same (fun k _ hk => hb.block k hk) hb.size).wid Foot.of (Foot.lt h.lt hb.size)
theorem ProgAt.wf {w : World} {F : Nat → Prop} {xb : Nat} {S : St} (h : ProgAt w F xb S) : Wf1 S := by
  obtain ⟨bm, D, eb, c, h⟩ := h
  exact h.wf

theorem orEmpty_some (a : Addr) (w : World) : Calls Tryz.prog 31 #[.pointer (some a)] w fun e w' => e = .returned (.pointer (some a)) ∧ w' = w := by
  go_enter Tryz.func31, Tryz.ntmps31
  go_wp2
  go_ret
  exact ⟨rfl, rfl⟩
theorem onDisk_yes (p : Int) (w : World) (h0 : ¬ p < 0) (h1 : ¬ 16 ≤ p) : Calls Tryz.prog 67 #[.int .i64 p] w fun e w' => e = .returned (.bool true) ∧ w' = w := by
  have b0 : decide (0 ≤ p) = true := by simp; omega
  have b1 : decide (p < 16) = true := by simp; omega
  go_enter Tryz.func67, Tryz.ntmps67
  go_wp2
  go_ret
  exact ⟨rfl, rfl⟩
theorem onDisk_no (p : Int) (w : World) (h : p < 0 ∨ 16 ≤ p) : Calls Tryz.prog 67 #[.int .i64 p] w fun e w' => e = .returned (.bool false) ∧ w' = w := by
  by_cases h0 : p < 0
  · have b0 : decide (0 ≤ p) = false := by simp; omega
    clear h
    go_enter Tryz.func67, Tryz.ntmps67
    go_wp2
    go_ret
    exact ⟨rfl, rfl⟩
  · have b0 : decide (0 ≤ p) = true := by simp; omega
    have b1 : decide (p < 16) = false := by simp; omega
    have h2 : 16 ≤ p := by omega
    clear h
    go_enter Tryz.func67, Tryz.ntmps67
    go_wp2
    go_ret
    exact ⟨rfl, rfl⟩
/-- full -/
theorem prog_full (S : St) (F : Nat → Prop) (xb : Nat) (w : World) (h : ProgAt w F xb S) :
    Calls Tryz.prog 80 #[.pointer (some ⟨xb, 0, none⟩)] w fun e w' => e = .returned (.bool (decide (40 ≤ (S.reqs.length : Int)))) ∧ w' = w := by
  obtain ⟨bm, D, eb, c, h⟩ := h
  have d0 := h.cell 0 _ h.c0
  have d3 := h.cell 3 _ h.c3
  have hb0 : (S.depth == 0) = false := beq_eq_false_iff_ne.2 (by have := h.wf.depth; omega)
  have HM : Hid (w.ownsMap Tryz.prog 3 ptrR bm S.last.toNat D) := h.map
  have hsz : Hid (Maps.size D = S.reqs.length) := h.msize
  clear h
  go_enter Tryz.func80, Tryz.ntmps80
  have hlen : (Builtin.len_ #[76] 3 #[.map (some bm)]).run Tryz.prog w = .ok (.int .i64 (Maps.size D)) w := HM.out.len Tryz.underlying76 _
  go_wp2
  go_ret
  exact ⟨by rw [← hsz.out]; rfl, rfl⟩
end Go.Proofs.YtgepgklgemndeaaGreatDoor
