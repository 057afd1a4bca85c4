import Derived.Test.YtiabdbeejkadnaaGreatDoorJ750869299a
import Derived.Test.YtiabdbeejkadnaaGreatDoorJ60813d70c8
/- The program's queue (stage 2's code): Step: what it does to the queue. Own work of the verifier. -/
namespace Go.Proofs.YtiabdbeejkadnaaGreatDoor
open Go.RowKit Go.Maps Go.Sort Go.Shelf

theorem mark_take {S : St} {c : Cmd} {C : List Rq} (h : Sends S c C) (hw : Wf S) {k : Nat} (hk : k < c.requests.length) :
    ∃ i, ∃ hi : i < S.reqs.length, (S.reqs[i]).num = c.requests[k] ∧ (S.reqs[i]).state = 0 ∧ markM S.reqs (c.requests.take (k + 1)) = (markM S.reqs (c.requests.take k)).set i { (S.reqs[i]) with state := 1, inAir := true } ∧ (markM S.reqs (c.requests.take k))[i]'(by rw [mark_len]; exact hi) = S.reqs[i] := by
  obtain ⟨r, hr, hrn⟩ : ∃ r ∈ C, r.num = c.requests[k] := by
    have : c.requests[k] ∈ C.map (·.num) := by rw [← h.nums]; exact List.getElem_mem _
    obtain ⟨r, hr, e⟩ := List.mem_map.1 this
    exact ⟨r, hr, e⟩
  obtain ⟨hm, hrd, _⟩ := h.mem r hr
  obtain ⟨i, hi, hir⟩ := List.getElem_of_mem hm
  have hnot : c.requests[k] ∉ c.requests.take k := by
    intro hx
    obtain ⟨j, hj, e⟩ := List.mem_take_iff_getElem.1 hx
    have := (List.pairwise_iff_getElem.1 (h.nodup hw)) j k (by omega) hk (by omega)
    exact this e
  have hin : (S.reqs[i]).num = c.requests[k] := by rw [hir]; exact hrn
  refine ⟨i, hi, hin, by rw [hir]; simp only [readyB, Bool.and_eq_true, beq_iff_eq] at hrd; exact hrd.1.1, ?_, mark_get S.reqs _ hi (by rw [hin]; exact hnot)⟩
  rw [List.take_succ_eq_append_getElem hk, mark_one S.reqs hw.sorted _ _ hi hin]
section
variable {w : World} {F : Nat → Prop} {xb : Nat} {S : St} {bm : Nat} {D : DataW Unit} {eb : Int → Nat} {c : Array Value} {af : Option Addr} {cf : Nat} {vs : List (Option Addr × Nat)}
theorem ProgBlk.marked {cm : Cmd} {C : List Rq} (hs : Sends S cm C) (hw : Wf S) {k : Nat} (hk : k < cm.requests.length) (h : ProgBlk w F xb { S with reqs := markM S.reqs (cm.requests.take k) } (cm.requests.take k) bm D eb c af cf vs) :
    ProgBlk (w.setCell ⟨eb cm.requests[k], 9, none⟩ (.int .i64 1)) F xb { S with reqs := markM S.reqs (cm.requests.take (k + 1)) } (cm.requests.take (k + 1)) bm D eb c af cf vs ∧ F (eb cm.requests[k]) ∧ w.cell? ⟨eb cm.requests[k], 9, none⟩ = some (.int .i64 0) ∧ w.frozen? ⟨eb cm.requests[k], 9, none⟩ = false := by
  obtain ⟨i, hi, hin, hst, hset, hget⟩ := mark_take hs hw hk
  have hi2 : i < ({ S with reqs := markM S.reqs (cm.requests.take k) } : St).reqs.length := by show i < (markM _ _).length; rw [mark_len]; exact hi
  have hg2 : ({ S with reqs := markM S.reqs (cm.requests.take k) } : St).reqs[i]'hi2 = S.reqs[i] := hget
  have hmem : S.reqs[i] ∈ ({ S with reqs := markM S.reqs (cm.requests.take k) } : St).reqs := by rw [← hg2]; exact List.getElem_mem _
  obtain ⟨ds, hds, he⟩ := h.e.ent _ hmem
  have hF := h.e.entF _ hmem
  rw [hin] at he hF
  refine ⟨?_, hF, by simp [World.cell?, he, entC, hst], by simp [World.frozen?, he]⟩
  have hwf := hs.marked hw (k + 1) (by omega)
  rw [hset] at hwf ⊢
  have := h.setE (w' := w.setCell ⟨eb cm.requests[k], 9, none⟩ (.int .i64 1)) (E' := cm.requests.take (k + 1)) (k := i) (x := { (S.reqs[i]) with state := 1, inAir := true }) (ds := ds) hi2 (by rw [hg2]) ⟨hds.1, hds.2.1, fun _ e => by cases e⟩ (by rw [hg2, hin, heap_setCell_at he]; rfl) (fun b _ hne => Below.heap_setCell _ _ _ _ (by rw [hg2, hin] at hne; exact hne)) (by simp [World.setCell]) hwf
  exact this
/-- one command more is under way: the row of commands behind the append, and the store of it -/
theorem ProgBlk.sent {w2 : World} {E : List Int} {F' : Nat → Prop} {cm : Cmd} {af' : Option Addr} {cf' : Nat} {ao : Option Addr} {cap : Nat} (h : ProgBlk w F xb S E bm D eb c af cf vs)
    (hs : ∀ k, k < w.heap.size → (∀ a, af = some a → a.block ≠ k) → w2.heap[k]? = w.heap[k]?) (_hz : w.heap.size ≤ w2.heap.size) (hF : ∀ k, F k → F' k) (hl : ∀ k, F' k → k < w2.heap.size)
    (hrow : Row w2 F' 81 1 af' (S.flights.length + 1) cf' (((S.flights.zip vs).map fun x => Value.slice x.2.1 x.1.requests.length x.2.2) ++ [.slice ao cm.requests.length cap]))
    (hin : Row w2 F' 92 1 ao cm.requests.length cap (encE eb cm.requests)) (hwf : Wf { S with flights := S.flights ++ [cm] }) :
    ProgBlk (w2.setCell ⟨xb, 4, none⟩ (.slice af' (S.flights.length + 1) cf')) F' xb { S with flights := S.flights ++ [cm] } [] bm D eb (c.setIfInBounds 4 (.slice af' (S.flights.length + 1) cf')) af' cf' (vs ++ [(ao, cap)]) := by
  have hxb : w2.heap[xb]? = w.heap[xb]? := hs xb h.lt (h.l.row.ne h.blk (by decide))
  have hblk2 := hxb.trans h.blk
  have hsz := h.q.size
  have hother : ∀ b cs t, w.heap[b]? = some (Obj.cells cs t (0, 0)) → t ≠ 81 → t ≠ 78 → (w2.setCell ⟨xb, 4, none⟩ (.slice af' (S.flights.length + 1) cf')).heap[b]? = w.heap[b]? := fun b cs t hb h1 h2 => by
    rw [Below.heap_setCell _ _ _ _ (fun e => by have e' : b = xb := e; rw [e', h.blk] at hb; simp at hb; exact h2 hb.2.symm)]
    exact hs b (lt_of_heap hb) (fun a ha e => h.l.row.ne hb (fun e' => h1 e'.symm) a ha e)
  refine ⟨hF _ h.own, heap_setCell_at hblk2 _, ⟨by simpa using hsz, ?_, ?_, ?_, ?_, ?_, ?_, ?_⟩, hF _ h.ownM, ?_, ?_, ⟨?_, ?_, ?_⟩, fun k hk => by have := hl k hk; simpa [World.setCell] using this, hwf⟩
  · rw [Array.getElem?_setIfInBounds, if_neg (by decide)]; exact h.q.c0
  · rw [Array.getElem?_setIfInBounds, if_neg (by decide)]; exact h.q.c1
  · rw [Array.getElem?_setIfInBounds, if_neg (by decide)]; exact h.q.c2
  · rw [Array.getElem?_setIfInBounds, if_neg (by decide)]; exact h.q.c3
  · rw [Array.getElem?_setIfInBounds, if_pos rfl, if_pos (by omega)]
    show _ = some (Value.slice af' (S.flights ++ [cm]).length cf')
    rw [List.length_append]; rfl
  · rw [Array.getElem?_setIfInBounds, if_neg (by decide)]; exact h.q.c5
  · intro j hj
    rw [Array.getElem?_setIfInBounds, if_neg (by omega)]; exact h.q.cd j hj
  · have hb : (w2.setCell ⟨xb, 4, none⟩ (.slice af' (S.flights.length + 1) cf')).heap[bm]? = w.heap[bm]? := by
      rw [Below.heap_setCell _ _ _ _ (h.bmNe h.blk)]
      refine hs bm (h.ltF _ h.ownM) (fun a ha e => ?_)
      obtain ⟨cur, hh, _⟩ := h.l.row.block ha
      exact h.bmNe hh e.symm
    have := h.m.same hb
    exact ⟨this.map, this.msize, this.has, this.at_⟩
  · exact (h.e.same fun r hr => by obtain ⟨ds, _, he⟩ := h.e.ent r hr; exact hother _ _ _ he (by decide) (by decide)).mono hF
  · show (vs ++ [_]).length = (S.flights ++ [_]).length
    rw [List.length_append, List.length_append, h.l.len]; rfl
  · show Row _ F' _ 1 af' (S.flights ++ [cm]).length cf' _
    have e1 : ((S.flights ++ [cm]).zip (vs ++ [(ao, cap)])).map (fun x => Value.slice x.2.1 x.1.requests.length x.2.2) = ((S.flights.zip vs).map fun x => Value.slice x.2.1 x.1.requests.length x.2.2) ++ [.slice ao cm.requests.length cap] := by
      rw [List.zip_append h.l.len.symm, List.map_append]; rfl
    have e2 : (S.flights ++ [cm]).length = S.flights.length + 1 := by rw [List.length_append]; rfl
    rw [e1, e2]
    exact hrow.setCell_other (hrow.ne hblk2 (by decide)) _
  · intro x hx
    rw [List.zip_append h.l.len.symm, List.mem_append] at hx
    rcases hx with hx | hx
    · have := h.l.ins x hx
      exact (this.same fun a ha => by obtain ⟨cur, hh, _⟩ := this.block ha; exact hother _ _ _ hh (by decide) (by decide)).mono hF
    · simp at hx
      subst hx
      exact hin.setCell_other (hin.ne hblk2 (by decide)) _
theorem ProgBlk.setHead {E : List Int} (h : ProgBlk w F xb S E bm D eb c af cf vs) (hd : Int) (hwf : WfE { S with head := hd } E) : ProgBlk (w.setCell ⟨xb, 5, none⟩ (.int .i64 hd)) F xb { S with head := hd } E bm D eb (c.setIfInBounds 5 (.int .i64 hd)) af cf vs := by
  have q := h.q
  have hsz := q.size
  refine h.setQ (heap_setCell_at h.blk _) (fun k _ hne => Below.heap_setCell _ _ _ _ hne) (by simp [World.setCell]) ⟨by simpa using hsz, ?_, ?_, ?_, ?_, ?_, ?_, ?_⟩ hwf rfl rfl rfl rfl
  · rw [Array.getElem?_setIfInBounds, if_neg (by decide)]; exact q.c0
  · rw [Array.getElem?_setIfInBounds, if_neg (by decide)]; exact q.c1
  · rw [Array.getElem?_setIfInBounds, if_neg (by decide)]; exact q.c2
  · rw [Array.getElem?_setIfInBounds, if_neg (by decide)]; exact q.c3
  · rw [Array.getElem?_setIfInBounds, if_neg (by decide)]; exact q.c4
  · rw [Array.getElem?_setIfInBounds, if_pos rfl, if_pos (by omega)]
  · intro j hj
    rw [Array.getElem?_setIfInBounds, if_neg (by omega)]; exact q.cd j hj
end
/-- what Step answers -/
def cmdZ : Cmd := ⟨false, 0, 0, []⟩
def StepEnd (F : Nat → Prop) (xb : Nat) (S : St) (w : World) (e : Ending) (w' : World) : Prop := ∃ ao n cap F', e = .returned (.tuple #[.agg #[.bool ((nextM S).getD cmdZ).write, .int .i64 ((nextM S).getD cmdZ).page, .int .i64 ((nextM S).getD cmdZ).count, .slice ao n cap], .bool (nextM S).isSome]) ∧ n = ((nextM S).getD cmdZ).requests.length ∧
  Row w' (fun b => w.heap.size ≤ b ∧ ¬ F' b) 3 1 ao n cap (encI ((nextM S).getD cmdZ).requests) ∧ ProgAt w' F' xb (stepM S).2 ∧ (∀ k, F k → F' k) ∧ (∀ k, F' k → Foot F w w' k) ∧ Kept F w w'
theorem next_cases {S : St} (hw : Wf S) {L : List Rq} (hL : IsReady S L) : (nextL S L = [] ∧ nextM S = none) ∨ (nextL S L ≠ [] ∧ ∃ c, nextM S = some c ∧ Sends S c (nextL S L) ∧ ¬ S.depth ≤ S.flights.length) := by
  unfold nextL
  by_cases hd : S.depth ≤ S.flights.length
  · rw [if_pos hd]; left; exact ⟨rfl, nextM_full hd⟩
  · rw [if_neg hd]
    by_cases he : L = []
    · left; exact ⟨by rw [he]; rfl, next_none hL he⟩
    · obtain ⟨c, h1, h2⟩ := next_sends hw hL hd he
      right; exact ⟨h2.ne, c, h1, h2, hd⟩
end Go.Proofs.YtiabdbeejkadnaaGreatDoor

/- The reference queue: next whole, Step. Own work of the verifier. -/
namespace Go.Proofs.YtiabdbeejkadnaaGreatDoor
open Go.RowKit

theorem info_cmd : (Tryz.prog.info? 44).map (fun i => (i.zero, i.size, i.bytes)) = some (some (.agg #[.bool false, .int .i64 0, .int .i64 0, .slice none 0 0]), 4, 48) := by kernel_rfl
theorem ref_next (S : St) (F : Nat → Prop) (mb : Nat) (w : World) (h : RefAt w F mb S) (hw : Wf S) (hl : S.last ≤ 1000000) :
    Calls Tryz.prog 113 #[.pointer (some ⟨mb, 0, none⟩)] w fun e w' => NextIs S w e w' ∧ Below w.heap.size w w' := by
  have hr : S.reqs.length ≤ 1000000 := by have := hw.reqsLen; omega
  have hfl : S.flights.length ≤ 1000000 := by have := hw.flLen; have := hw.depth; omega
  cases hn : nextM S with
  | none =>
    refine (ref_next_none S F mb w h hw.sorted hr hw.head hfl hn).mono ?_
    rintro e w' ⟨rfl, hb⟩
    exact ⟨by unfold NextIs; rw [hn], hb⟩
  | some c =>
    have hd : ¬ S.depth ≤ S.flights.length := fun e => by rw [nextM_full e] at hn; cases hn
    have hn' := hn
    unfold nextM at hn
    rw [if_neg hd] at hn
    cases hp : pageM S with
    | none => rw [hp] at hn; cases hn
    | some p =>
      rw [hp] at hn
      obtain ⟨⟨hp0, hp1⟩, k, hk, hf⟩ := pageM_is hp
      have hc : cmdAt S p (S.reqs.getD k Rq.zero) = c := by
        simp only [Option.map_some, Option.some.injEq] at hn
        rw [hf] at hn; exact hn
      refine (ref_next_some S F mb w h hw.sorted hr hw.head hfl p k hd hp hp0 hp1 hk hf).mono ?_
      rw [hc]
      rintro e w' ⟨hx, hb⟩
      exact ⟨by unfold NextIs; rw [hn']; exact hx, hb⟩

theorem store4_fin {w1 : World} {b lim : Nat} {w : World} {x0 x1 x2 x3 : Value} {t : TypeId} (o : Obj) (c0 c1 c2 c3 : Value) (hz : w1.heap[b]? = some (.cells #[x0, x1, x2, x3] t (0, 0))) (hB : Below lim w w1) (hl : lim ≤ b) :
    (((((w1.setCell ⟨b, 0, none⟩ c0).setCell ⟨b, 1, none⟩ c1).setCell ⟨b, 2, none⟩ c2).setCell ⟨b, 3, none⟩ c3).alloc o).heap[b]? = some (.cells #[c0, c1, c2, c3] t (0, 0)) ∧ Below lim w (((((w1.setCell ⟨b, 0, none⟩ c0).setCell ⟨b, 1, none⟩ c1).setCell ⟨b, 2, none⟩ c2).setCell ⟨b, 3, none⟩ c3).alloc o) := by
  have h0 := heap_setCell_at (j := 0) hz c0
  have h1 := heap_setCell_at (j := 1) h0 c1
  have h2 := heap_setCell_at (j := 2) h1 c2
  have h3 := heap_setCell_at (j := 3) h2 c3
  have hb4 : Below lim w ((((w1.setCell ⟨b, 0, none⟩ c0).setCell ⟨b, 1, none⟩ c1).setCell ⟨b, 2, none⟩ c2).setCell ⟨b, 3, none⟩ c3) := (((hB.setCell hl _).setCell hl _).setCell hl _).setCell hl _
  have hlt := lt_of_heap h3
  exact ⟨(Below.heap_alloc _ _ _ hlt).trans h3, hb4.trans ((alloc_below _ _).mono (by omega))⟩
set_option maxHeartbeats 2000000 in
set_option maxRecDepth 1000000 in
theorem ref_step_none (S : St) (F : Nat → Prop) (mb : Nat) (w : World) (h : RefAt w F mb S) (hw : Wf S) (hl : S.last ≤ 1000000) (hno : nextM S = none) :
    Calls Tryz.prog 78 #[.pointer (some ⟨mb, 0, none⟩)] w fun e w' => e = .returned (.tuple #[.agg #[.bool false, .int .i64 0, .int .i64 0, .slice none 0 0], .bool false]) ∧ Below w.heap.size w w' := by
  have HNX : Hid (∀ w', Below w.heap.size w w' → Calls Tryz.prog 113 #[.pointer (some ⟨mb, 0, none⟩)] w' fun e w'' => e = .returned (.tuple #[.agg #[.bool false, .int .i64 0, .int .i64 0, .slice none 0 0], .bool false]) ∧ Below w'.heap.size w' w'') := fun w' hb => by
    refine (ref_next S F mb w' (h.below' hb) hw hl).mono ?_
    rintro e w2 ⟨hx, hb2⟩
    unfold NextIs at hx
    rw [hno] at hx
    exact ⟨hx, hb2⟩
  clear h hw
  go_enter Tryz.func78, Tryz.ntmps78
  go_wp2_with fail
  refine (HNX.out _ (alloc_below _ _)).mono ?_
  rintro e w1 ⟨rfl, hb1⟩
  have HB1 := hide ((alloc_below w (.cells #[.bool false, .int .i64 0, .int .i64 0, .slice none 0 0] 44)).trans (hb1.mono (by simp)))
  have HZ1 : Hid (w1.heap[w.heap.size]? = some (.cells #[.bool false, .int .i64 0, .int .i64 0, .slice none 0 0] 44 (0, 0))) := (hb1.block w.heap.size (by simp)).trans (heap_alloc_new w _)
  obtain ⟨⟨z0, z1, z2, z3⟩, y0, y1, y2, y3⟩ := quad HZ1.out
  have hwz : w.heap.size < w1.heap.size := lt_of_heap HZ1.out
  have nx1 : w.heap.size ≠ w1.heap.size := by omega
  have nx2 : w1.heap.size ≠ w.heap.size := by omega
  have HFN := hide (store4_fin (.cells #[.bool false, .int .i64 0, .int .i64 0, .slice none 0 0] 44) (.bool false) (.int .i64 0) (.int .i64 0) (.slice none 0 0) HZ1.out HB1.out (Nat.le_refl _))
  obtain ⟨⟨f0, f1, f2, f3⟩, _⟩ := quad HFN.out.1
  clear hb1
  go_wp2
  refine bodyPost_ret (v := .tuple #[.agg #[.bool false, .int .i64 0, .int .i64 0, .slice none 0 0], .bool false]) ?_ ?_ ?_
  rotate_left
  · rfl
  rotate_left
  · simp [results, Tryz.results78, go_sem, f0, f1, f2, f3]
  exact ⟨rfl, HFN.out.2⟩
theorem findR_is {R : List Rq} (hs : R.Pairwise (fun a b => a.num < b.num)) {i : Nat} (hi : i < R.length) : findR R (R[i]).num = some i := by
  obtain ⟨k, hf⟩ := findR_mem (List.getElem_mem hi)
  obtain ⟨hk, e⟩ := findR_get hf
  rcases Nat.lt_trichotomy k i with h | h | h
  · have := List.pairwise_iff_getElem.1 hs k i hk hi h; omega
  · rw [hf, h]
  · have := List.pairwise_iff_getElem.1 hs i k hi hk h; omega
theorem RefBlk.markJ {w : World} {F G : Nat → Prop} {mb : Nat} {S : St} {g0 cr : Nat} {at_ : Option Addr} {ct : Nat} {af : Option Addr} {cf : Nat} {ad : Option Addr} {cd : Nat} {c : Cmd} {C : List Rq} (hs : Sends S c C) (hw : Wf S) {j : Nat} (hj : j < c.requests.length)
    (h : RefBlk w F G mb { S with reqs := markM S.reqs (c.requests.take j) } (some ⟨g0, 0, none⟩) cr at_ ct af cf ad cd) :
    ∃ i, i < S.reqs.length ∧ intOr (findR (markM S.reqs (c.requests.take j)) c.requests[j]) = (i : Int) ∧ (∃ v, w.cell? ⟨g0, i * 10 + 4, none⟩ = some v) ∧ (∃ v, w.cell? ⟨g0, i * 10 + 8, none⟩ = some v) ∧ RefBlk ((w.setCell ⟨g0, i * 10 + 4, none⟩ (.int .i64 1)).setCell ⟨g0, i * 10 + 8, none⟩ (.bool true)) F G mb { S with reqs := markM S.reqs (c.requests.take (j + 1)) } (some ⟨g0, 0, none⟩) cr at_ ct af cf ad cd := by
  obtain ⟨i, hi, hin, hst, hset, hget⟩ := mark_take hs hw hj
  have hi2 : i < (markM S.reqs (c.requests.take j)).length := by rw [mark_len]; exact hi
  refine ⟨i, hi, ?_, ?_, ?_, ?_⟩
  · have hso : (markM S.reqs (c.requests.take j)).Pairwise (fun a b => a.num < b.num) := (hs.marked hw j (by omega)).sorted
    have hnm : ((markM S.reqs (c.requests.take j))[i]'hi2).num = c.requests[j] := by rw [hget]; exact hin
    rw [← hnm, findR_is hso hi2]; rfl
  · exact ⟨_, (Row.req h.reqs rfl i 4 hi2 (by omega)).trans (by rfl)⟩
  · exact ⟨_, (Row.req h.reqs rfl i 8 hi2 (by omega)).trans (by rfl)⟩
  · have := h.under i hi2
    have e : ({ S with reqs := markM S.reqs (c.requests.take j) } : St).reqs[i]'hi2 = S.reqs[i] := hget
    rw [e] at this
    rw [hset]
    exact this
theorem step_fin {w w2 : World} {F G : Nat → Prop} {mb : Nat} {S' : St} {ar : Option Addr} {cr : Nat} {at_ : Option Addr} {ct : Nat} {af : Option Addr} {cf : Nat} {ad : Option Addr} {cd : Nat} {a3 a5 b0 b1 b2 b3 : Value} {ao : Option Addr} {n cap : Nat} {xs : List Value} (hF : ∀ k, F k → k < w.heap.size) (hmb : F mb)
    (h : RefBlk ((w2.setCell ⟨mb, 3, none⟩ a3).setCell ⟨mb, 5, none⟩ a5) (fun k => F k ∨ (w.heap.size + 1 ≤ k ∧ k < w2.heap.size)) G mb S' ar cr at_ ct af cf ad cd) (hK : Kept F w w2) (hr : Row w2 (fun b => w.heap.size + 1 ≤ b) 3 1 ao n cap xs) :
    Row ((((((w2.setCell ⟨mb, 3, none⟩ a3).setCell ⟨mb, 5, none⟩ a5).setCell ⟨w.heap.size, 0, none⟩ b0).setCell ⟨w.heap.size, 1, none⟩ b1).setCell ⟨w.heap.size, 2, none⟩ b2).setCell ⟨w.heap.size, 3, none⟩ b3) (fun b => w.heap.size ≤ b) 3 1 ao n cap xs ∧ RefAt ((((((w2.setCell ⟨mb, 3, none⟩ a3).setCell ⟨mb, 5, none⟩ a5).setCell ⟨w.heap.size, 0, none⟩ b0).setCell ⟨w.heap.size, 1, none⟩ b1).setCell ⟨w.heap.size, 2, none⟩ b2).setCell ⟨w.heap.size, 3, none⟩ b3) (Foot F w ((((((w2.setCell ⟨mb, 3, none⟩ a3).setCell ⟨mb, 5, none⟩ a5).setCell ⟨w.heap.size, 0, none⟩ b0).setCell ⟨w.heap.size, 1, none⟩ b1).setCell ⟨w.heap.size, 2, none⟩ b2).setCell ⟨w.heap.size, 3, none⟩ b3)) mb S' ∧ Kept F w ((((((w2.setCell ⟨mb, 3, none⟩ a3).setCell ⟨mb, 5, none⟩ a5).setCell ⟨w.heap.size, 0, none⟩ b0).setCell ⟨w.heap.size, 1, none⟩ b1).setCell ⟨w.heap.size, 2, none⟩ b2).setCell ⟨w.heap.size, 3, none⟩ b3) := by
  have hmw := hF mb hmb
  have hs : ∀ k, k ≠ w.heap.size → ((((((w2.setCell ⟨mb, 3, none⟩ a3).setCell ⟨mb, 5, none⟩ a5).setCell ⟨w.heap.size, 0, none⟩ b0).setCell ⟨w.heap.size, 1, none⟩ b1).setCell ⟨w.heap.size, 2, none⟩ b2).setCell ⟨w.heap.size, 3, none⟩ b3).heap[k]? = ((w2.setCell ⟨mb, 3, none⟩ a3).setCell ⟨mb, 5, none⟩ a5).heap[k]? := fun k hk => (Below.heap_setCell _ _ _ _ hk).trans ((Below.heap_setCell _ _ _ _ hk).trans ((Below.heap_setCell _ _ _ _ hk).trans (Below.heap_setCell _ _ _ _ hk)))
  have hs2 : ∀ k, k ≠ mb → ((w2.setCell ⟨mb, 3, none⟩ a3).setCell ⟨mb, 5, none⟩ a5).heap[k]? = w2.heap[k]? := fun k hk => (Below.heap_setCell _ _ _ _ hk).trans (Below.heap_setCell _ _ _ _ hk)
  have hz : ((((((w2.setCell ⟨mb, 3, none⟩ a3).setCell ⟨mb, 5, none⟩ a5).setCell ⟨w.heap.size, 0, none⟩ b0).setCell ⟨w.heap.size, 1, none⟩ b1).setCell ⟨w.heap.size, 2, none⟩ b2).setCell ⟨w.heap.size, 3, none⟩ b3).heap.size = w2.heap.size := by simp [World.setCell]
  have hz2 : ((w2.setCell ⟨mb, 3, none⟩ a3).setCell ⟨mb, 5, none⟩ a5).heap.size = w2.heap.size := by simp [World.setCell]
  have hzw := hK.size
  refine ⟨?_, ?_, ?_⟩
  · exact (hr.same fun a ha => by
      have h1 := hr.2 a ha
      exact (hs _ (by omega)).trans (hs2 _ (by omega))).mono fun b hb => by omega
  · refine ⟨_, _, _, _, _, _, _, _, _, (h.same (fun k hk _ => hs k ?_) (by rw [hz, hz2]; exact Nat.le_refl _)).wid (fun k hk => ?_) (fun k hk => ?_)⟩
    · rcases hk with hk | hk
      · have := hF k hk; omega
      · omega
    · rcases hk with hk | hk
      · exact Or.inl hk
      · exact Or.inr ⟨by omega, by rw [hz]; exact hk.2⟩
    · exact Foot.lt hF (by rw [hz]; exact hzw) k hk
  · exact (((((hK.setCell (p := ⟨mb, 3, none⟩) (Or.inl hmb) _).setCell (p := ⟨mb, 5, none⟩) (Or.inl hmb) _).setCell (p := ⟨w.heap.size, 0, none⟩) (Or.inr (Nat.le_refl _)) _).setCell (p := ⟨w.heap.size, 1, none⟩) (Or.inr (Nat.le_refl _)) _).setCell (p := ⟨w.heap.size, 2, none⟩) (Or.inr (Nat.le_refl _)) _).setCell (p := ⟨w.heap.size, 3, none⟩) (Or.inr (Nat.le_refl _)) _
set_option maxHeartbeats 4000000 in
set_option maxRecDepth 1000000 in
theorem ref_step_some (S : St) (F : Nat → Prop) (mb : Nat) (w : World) (c : Cmd) (h : RefAt w F mb S) (hw : Wf S) (hl : S.last ≤ 1000000) (hno : nextM S = some c) :
    Calls Tryz.prog 78 #[.pointer (some ⟨mb, 0, none⟩)] w fun e w' => (∃ ao n cap, e = .returned (.tuple #[.agg #[.bool c.write, .int .i64 c.page, .int .i64 c.count, .slice ao n cap], .bool true]) ∧ n = c.requests.length ∧ Row w' (fun b => w.heap.size ≤ b) 3 1 ao n cap (encI c.requests)) ∧ RefAt w' (Foot F w w') mb (sendM S c) ∧ Kept F w w' := by
  obtain ⟨i0, hi, hi0, hi1, hi2⟩ := info_parts info_cmd
  obtain ⟨L, hL⟩ := ready_exists S hw.sorted
  obtain ⟨C, hS⟩ : ∃ C, Sends S c C := by
    rcases next_cases hw hL with ⟨_, e⟩ | ⟨_, c', e, hS, _⟩
    · rw [e] at hno; cases hno
    · rw [e] at hno; cases hno; exact ⟨_, hS⟩
  have HNX : Hid (∀ w', Below w.heap.size w w' → Calls Tryz.prog 113 #[.pointer (some ⟨mb, 0, none⟩)] w' fun e w'' => (∃ ao n cap, e = .returned (.tuple #[.agg #[.bool c.write, .int .i64 c.page, .int .i64 c.count, .slice ao n cap], .bool true]) ∧ n = c.requests.length ∧ Row w'' (fun b => w'.heap.size ≤ b) 3 1 ao n cap (encI c.requests)) ∧ Below w'.heap.size w' w'') := fun w' hb => by
    refine (ref_next S F mb w' (h.below' hb) hw hl).mono ?_
    rintro e w2 ⟨hx, hb2⟩
    unfold NextIs at hx
    rw [hno] at hx
    exact ⟨hx, hb2⟩
  have HS := hide hS
  have HW := hide hw
  have HH := hide h
  clear h hw hS hL hno
  go_enter Tryz.func78, Tryz.ntmps78
  go_wp2_with fail
  refine (HNX.out _ (alloc_below _ _)).mono ?_
  rintro e w1 ⟨⟨ao, n, cap, rfl, hn, hrow⟩, hb1⟩
  have HB1 := hide ((alloc_below w (.cells #[.bool false, .int .i64 0, .int .i64 0, .slice none 0 0] 44)).trans (hb1.mono (by simp)))
  have HZ1 : Hid (w1.heap[w.heap.size]? = some (.cells #[.bool false, .int .i64 0, .int .i64 0, .slice none 0 0] 44 (0, 0))) := (hb1.block w.heap.size (by simp)).trans (heap_alloc_new w _)
  have HR1 : Hid (Row w1 (fun b => w.heap.size + 1 ≤ b) 3 1 ao n cap (encI c.requests)) := hrow.mono fun b hb => by simp at hb; omega
  have HN := hide hn
  clear hb1 hrow hn HNX
  have hnl : n ≤ 1000000 := by
    have h1 := (HS.out.marked HW.out c.requests.length (Nat.le_refl _)).airLen
    have h2 := HW.out.reqsLen
    have h3 : ({ S with reqs := markM S.reqs (c.requests.take c.requests.length) } : St).reqs.length = S.reqs.length := mark_len _ _
    have h4 : (airs ({ S with reqs := markM S.reqs (c.requests.take c.requests.length) } : St) ++ c.requests.take c.requests.length).length = (airs ({ S with reqs := markM S.reqs (c.requests.take c.requests.length) } : St)).length + c.requests.length := by rw [List.length_append, List.take_length]
    have := HN.out
    omega
  obtain ⟨G, ar, cr, at_, ct, af, cf, ad, cd, hB⟩ := HH.out
  have hne : 0 < S.reqs.length := by
    obtain ⟨r, l, e⟩ : ∃ r l, C = r :: l := by
      cases hC : C with
      | nil => exact absurd hC HS.out.ne
      | cons r l => exact ⟨r, l, rfl⟩
    have := (HS.out.mem r (by rw [e]; simp)).1
    exact List.length_pos_of_mem this
  obtain ⟨g0, cur, hg0, hgF, hgb, _, _⟩ := Row.some hB.reqs hne
  subst hg0
  have HLT := hide hB.ltF
  have HMB := hide hB.own
  have hwz : w.heap.size < w1.heap.size := lt_of_heap HZ1.out
  have HBW := hide (HB1.out.trans ((alloc_below w1 (.cells #[.bool c.write, .int .i64 c.page, .int .i64 c.count, .slice ao n cap] 44)).mono (Nat.le_of_lt hwz)))
  have HQ0 : Hid (RefBlk (w1.alloc (.cells #[.bool c.write, .int .i64 c.page, .int .i64 c.count, .slice ao n cap] 44)) F G mb { S with reqs := markM S.reqs (c.requests.take 0) } (some ⟨g0, 0, none⟩) cr at_ ct af cf ad cd) := by
    rw [List.take_zero, mark_nil]
    exact hB.same (fun k _ hk => HBW.out.block k hk) HBW.out.size
  have HC0 : Hid ((w1.alloc (.cells #[.bool c.write, .int .i64 c.page, .int .i64 c.count, .slice ao n cap] 44)).heap[w1.heap.size]? = some (.cells #[.bool c.write, .int .i64 c.page, .int .i64 c.count, .slice ao n cap] 44 (0, 0))) := heap_alloc_new w1 _
  have HZ0 := hide ((Below.heap_alloc w1 (.cells #[.bool c.write, .int .i64 c.page, .int .i64 c.count, .slice ao n cap] 44) _ hwz).trans HZ1.out)
  have HR0 := hide (HR1.out.alloc (.cells #[.bool c.write, .int .i64 c.page, .int .i64 c.count, .slice ao n cap] 44))
  have HK0 := hide (Go.Proofs.YtiabdbeejkadnaaGreatDoor.Below.kept HBW.out F)
  clear hB hgb HZ1 HR1
  go_wp2_with fail
  generalize w1.alloc (.cells #[.bool c.write, .int .i64 c.page, .int .i64 c.count, .slice ao n cap] 44) = W0 at HBW HQ0 HC0 HZ0 HR0 HK0 ⊢
  generalize w1.heap.size = cb at *
  go_loopw [6] (fun i wr => ∃ j : Nat, j ≤ n ∧ i = .int .i64 j ∧ Hid (RefBlk wr F G mb { S with reqs := markM S.reqs (c.requests.take j) } (some ⟨g0, 0, none⟩) cr at_ ct af cf ad cd) ∧ Hid (wr.heap[cb]? = some (.cells #[.bool c.write, .int .i64 c.page, .int .i64 c.count, .slice ao n cap] 44 (0, 0))) ∧ Hid (wr.heap[w.heap.size]? = some (.cells #[.bool false, .int .i64 0, .int .i64 0, .slice none 0 0] 44 (0, 0))) ∧ Hid (Row wr (fun b => w.heap.size + 1 ≤ b) 3 1 ao n cap (encI c.requests)) ∧ Hid (Kept F w wr)) (fun i _ => n - (intOf i).toNat)
  case atStart => exact ⟨0, Nat.zero_le _, rfl, HQ0.out, HC0.out, HZ0.out, HR0.out, HK0.out⟩
  case round =>
    clear HQ0 HC0 HZ0 HR0 HK0 HBW HB1
    obtain ⟨j, hj, rfl, HQ, HC, HZ, HR, HK⟩ := hrel
    obtain ⟨⟨v0, v1, v2, v3⟩, _⟩ := quad HC.out
    by_cases hlt : j < n
    · have hjr : j < c.requests.length := by have := HN.out; omega
      obtain ⟨i', hi', hfi, ⟨a4, ha4⟩, ⟨a8, ha8⟩, hQ2⟩ := RefBlk.markJ HS.out HW.out hjr HQ.out
      obtain ⟨g3, cur3, hg3, hg3F, _, _, _⟩ := Row.some HR.out (by omega)
      subst hg3
      have e3 : wr.cell? ⟨g3, j, none⟩ = some (.int .i64 c.requests[j]) := by rw [Row.cellAt HR.out j (by omega)]; simp [encI, hjr]
      have d1 := HQ.out.c1
      have hml : ({ S with reqs := markM S.reqs (c.requests.take j) } : St).reqs.length = S.reqs.length := mark_len _ _
      rw [hml] at d1
      have f4 := HQ.out.reqs.frozenAt (i' * 10 + 4)
      have f8 := HQ.out.reqs.frozenAt (i' * 10 + 8)
      have HAT : Hid (Calls Tryz.prog 110 #[.pointer (some ⟨mb, 0, none⟩), .int .i64 c.requests[j]] wr fun e w' => e = .returned (.int .i64 (i' : Int)) ∧ w' = wr) := by
        have := ref_at _ F mb c.requests[j] wr ⟨_, _, _, _, _, _, _, _, _, HQ.out⟩ (by rw [hml]; have := HW.out.reqsLen; omega)
        have e : intOr (findR ({ S with reqs := markM S.reqs (c.requests.take j) } : St).reqs c.requests[j]) = (i' : Int) := hfi
        rw [e] at this; exact this
      have HQ2 := hide hQ2
      have hrl : S.reqs.length ≤ 1000000 := by have := HW.out.reqsLen; omega
      have gg1 : g0 ≠ cb := fun e => by subst e; exact (HQ.out.reqs.ne HC.out (by decide)) _ rfl rfl
      have gg2 : g0 ≠ w.heap.size := fun e => by have := HLT.out g0 hgF; omega
      have gg3 : g3 ≠ g0 := fun e => by subst e; obtain ⟨cu, hcu, _⟩ := HR.out.block rfl; exact (HQ.out.reqs.ne hcu (by decide)) _ rfl rfl
      have gg4 : g0 ≠ mb := fun e => by subst e; exact (HQ.out.reqs.ne HQ.out.blk (by decide)) _ rfl rfl
      have gg5 : mb ≠ g0 := fun e => gg4 e.symm
      clear hfi hQ2 hml
      go_wp2_with (first | (go_at_call 110; refine HAT.out.mono ?_; rintro e w2 ⟨rfl, hw2⟩; subst hw2))
      go_roundw
      case rel =>
        refine ⟨j + 1, by omega, by go_num, HQ2.out, ?_, ?_, ?_, ?_⟩
        · exact (Below.heap_setCell _ _ _ _ (fun e => gg1 e.symm)).trans ((Below.heap_setCell _ _ _ _ (fun e => gg1 e.symm)).trans HC.out)
        · exact (Below.heap_setCell _ _ _ _ (fun e => gg2 e.symm)).trans ((Below.heap_setCell _ _ _ _ (fun e => gg2 e.symm)).trans HZ.out)
        · exact (HR.out.setCell_other (p := ⟨g0, i' * 10 + 4, none⟩) (fun a ha => by cases ha; exact gg3) _).setCell_other (p := ⟨g0, i' * 10 + 8, none⟩) (fun a ha => by cases ha; exact gg3) _
        · exact (HK.out.setCell (p := ⟨g0, i' * 10 + 4, none⟩) (Or.inl hgF) _).setCell (p := ⟨g0, i' * 10 + 8, none⟩) (Or.inl hgF) _
      case measure => simp [intOf]; omega
    · have hjn : j = n := by omega
      subst hjn
      have hQe : RefBlk wr F G mb { S with reqs := markM S.reqs c.requests } (some ⟨g0, 0, none⟩) cr at_ ct af cf ad cd := by
        have := HQ.out
        rw [List.take_of_length_le (Nat.le_of_eq HN.out.symm)] at this
        exact this
      have HQe := hide hQe
      obtain ⟨vs, hvl, hRf, hins⟩ := hQe.flights
      have c3 : wr.cell? ⟨mb, 3, none⟩ = some (.slice af S.flights.length cf) := hQe.c3
      have c5 : wr.cell? ⟨mb, 5, none⟩ = some (.int .i64 S.head) := hQe.c5
      have k3 := hQe.fz 3
      have k5 := hQe.fz 5
      have hfl4 : S.flights.length ≤ 4 := by have := HW.out.flLen; have := HW.out.depth; omega
      have hcnt := HS.out.cnt
      have HO : Hid (((wr.alloc (.cells [Value.bool c.write, .int .i64 c.page, .int .i64 c.count, .slice ao j cap].toArray 44)).drew).ownsRow 0 44 4 (.slice af S.flights.length cf) S.flights.length ((S.flights.zip vs).flatMap encC)) := (hRf.alloc _).1
      have HNW : Hid (∀ (t : Nat) (u : Value), [Value.bool c.write, .int .i64 c.page, .int .i64 c.count, .slice ao j cap][t]? = some u → ((wr.alloc (.cells [Value.bool c.write, .int .i64 c.page, .int .i64 c.count, .slice ao j cap].toArray 44)).drew).cell? ((⟨wr.heap.size, 0, none⟩ : Addr).add t) = some u) := fun t u => news_new t u
      have hmb0 : mb < w.heap.size := HLT.out mb hQe.own
      have hsz1 : w.heap.size + 1 ≤ wr.heap.size := lt_of_heap HZ.out
      have HSENT : Hid (∀ (g cap' : Nat) (w2 : World), w2.ownsRow 0 44 4 (.slice (some ⟨g, 0, none⟩) (S.flights.length + 1) cap') (S.flights.length + 1) ((S.flights.zip vs).flatMap encC ++ [.bool c.write, .int .i64 c.page, .int .i64 c.count, .slice ao j cap]) → ((wr.alloc (.cells [Value.bool c.write, .int .i64 c.page, .int .i64 c.count, .slice ao j cap].toArray 44)).drew).grownBy w2 (Value.ownBlock (.slice af S.flights.length cf)) → (Value.ownBlock (.slice af S.flights.length cf) = some g ∨ g = wr.heap.size + 1) → g < w2.heap.size → RefBlk ((w2.setCell ⟨mb, 3, none⟩ (.slice (some ⟨g, 0, none⟩) (S.flights.length + 1) cap')).setCell ⟨mb, 5, none⟩ (.int .i64 (c.page + c.count))) (fun k => F k ∨ (w.heap.size + 1 ≤ k ∧ k < w2.heap.size)) (fun k => G k ∨ (w.heap.size + 1 ≤ k ∧ k < w2.heap.size)) mb (sendM S c) (some ⟨g0, 0, none⟩) cr at_ ct (some ⟨g, 0, none⟩) cap' ad cd ∧ Kept F w w2 ∧ w2.heap[mb]? = wr.heap[mb]? ∧ w2.heap[cb]? = wr.heap[cb]? ∧ w2.heap[w.heap.size]? = wr.heap[w.heap.size]? ∧ Row w2 (fun b => w.heap.size + 1 ≤ b) 3 1 ao j cap (encI c.requests)) := by
        intro g cap' w2 h1 h2 h3 h4
        have hbl : ∀ (b : Nat) (cs : Array Value) (t : TypeId), wr.heap[b]? = some (Obj.cells cs t (0, 0)) → t ≠ 44 → w2.heap[b]? = wr.heap[b]? := fun b cs t hb ht => (h2.block b (by have := lt_of_heap hb; simp [World.drew]; omega) (row_off hRf hb (fun e => ht e.symm))).trans (Below.heap_alloc wr _ b (lt_of_heap hb))
        have hbn : ∀ b, b < wr.heap.size → ¬ G b → w2.heap[b]? = wr.heap[b]? := fun b hb hG => (h2.block b (by simp [World.drew]; omega) (fun e => by
          cases af with
          | none => simp [Value.ownBlock] at e
          | some a => simp [Value.ownBlock] at e; exact hG (by rw [e]; exact hRf.2 a rfl))).trans (Below.heap_alloc wr _ b hb)
        have hGl : ∀ k, G k → k < w.heap.size := fun k hk => HLT.out k (HQe.out.sub k hk)
        refine ⟨HQe.out.sentC (lim := w.heap.size + 1) (fun k hk => by have := HLT.out k hk; omega) hsz1 hvl hRf hins HR.out HN.out h2 h1 h3 h4, ?_, hbn mb (by omega) HQe.out.notMb, hbn cb (lt_of_heap HC.out) (fun e => by have := hGl cb e; omega), hbn w.heap.size (by omega) (fun e => by have := hGl _ e; omega), ?_⟩
        · refine (((HK.out.alloc _).drew).grown h2 fun k hk => ?_)
          cases af with
          | none => simp [Value.ownBlock] at hk
          | some a => simp [Value.ownBlock] at hk; subst hk; exact Or.inl (HQe.out.sub _ (hRf.2 a rfl))
        · exact HR.out.same fun a ha => by obtain ⟨cu, hcu, _⟩ := HR.out.block ha; exact hbl _ _ _ hcu (by decide)
      have c3' : ((wr.alloc (.cells #[.bool c.write, .int .i64 c.page, .int .i64 c.count, .slice ao j cap] 44)).drew).cell? ⟨mb, 3, none⟩ = some (.slice af S.flights.length cf) := (World.cell?_of_block (Below.heap_alloc wr _ mb (by omega))).trans c3
      clear hQe hRf hins hvl HQ
      go_wp2_with fail
      go_region_law (refine step_append_lies _ rfl (.tmp 48) (.tmp 50) 39 rfl 0 44 i0 (.agg #[.bool false, .int .i64 0, .int .i64 0, .slice none 0 0]) 4 48 Tryz.underlying39 hi hi0 hi1 hi2 rfl (by decide) (.slice af S.flights.length cf) S.flights.length _ (by simp [Act.eval]) HO.out ⟨wr.heap.size, 0, none⟩ 1 1 [Value.bool c.write, .int .i64 c.page, .int .i64 c.count, .slice ao j cap] (by simp [Act.eval]) rfl HNW.out (by intro u hu; simp at hu; rcases hu with rfl | rfl | rfl | rfl <;> rfl) (by decide) (by unfold maxLen; omega) (by omega) (Nat.zero_le _) (wr.heap.size + 1) (by simp) ?_; intro g cap' w2 hown hgrow hat hlt2; have HX := hide (HSENT.out g cap' w2 hown hgrow hat hlt2); clear hown hgrow hat hlt2)
      all_goals
        have m3 := (World.cell?_of_block (a := ⟨mb, 3, none⟩) HX.out.2.2.1).trans c3
        have m5 := (World.cell?_of_block (a := ⟨mb, 5, none⟩) HX.out.2.2.1).trans c5
        have n3 := (World.frozen?_of_block (a := ⟨mb, 3, none⟩) HX.out.2.2.1).trans k3
        have n5 := (World.frozen?_of_block (a := ⟨mb, 5, none⟩) HX.out.2.2.1).trans k5
        obtain ⟨⟨p0, p1, p2, p3⟩, _⟩ := quad (HX.out.2.2.2.1.trans HC.out)
        obtain ⟨⟨z0, z1, z2, z3⟩, y0, y1, y2, y3⟩ := quad (HX.out.2.2.2.2.1.trans HZ.out)
        have nn1 : mb ≠ cb := by omega
        have nn2 : cb ≠ mb := by omega
        have nn3 : mb ≠ w.heap.size := by omega
        have nn4 : w.heap.size ≠ mb := by omega
        have nn5 : w.heap.size ≠ cb := by omega
        have nn6 : cb ≠ w.heap.size := by omega
        clear c3 c3' c5 k3 k5 v0 v1 v2 v3
        go_wp2
        refine bodyPost_ret (v := .tuple #[.agg #[.bool c.write, .int .i64 c.page, .int .i64 c.count, .slice ao j cap], .bool true]) ?_ ?_ ?_
        rotate_left
        · rfl
        rotate_left
        · simp [results, Tryz.results78, go_sem, z0, z1, z2, z3]
        obtain ⟨r1, r2, r3⟩ := step_fin (b0 := .bool c.write) (b1 := .int .i64 c.page) (b2 := .int .i64 c.count) (b3 := .slice ao j cap) HLT.out HMB.out HX.out.1 HX.out.2.1 HX.out.2.2.2.2.2
        exact ⟨⟨ao, j, cap, rfl, HN.out, r1⟩, r2, r3⟩
/-- what Step does on the reference's side -/
def RefStep (S : St) (w : World) (e : Ending) (w' : World) : Prop :=
  match nextM S with
  | none => e = .returned (.tuple #[.agg #[.bool false, .int .i64 0, .int .i64 0, .slice none 0 0], .bool false])
  | some c => ∃ ao n cap, e = .returned (.tuple #[.agg #[.bool c.write, .int .i64 c.page, .int .i64 c.count, .slice ao n cap], .bool true]) ∧ n = c.requests.length ∧ Row w' (fun b => w.heap.size ≤ b) 3 1 ao n cap (encI c.requests)
theorem ref_step (S : St) (F : Nat → Prop) (mb : Nat) (w : World) (h : RefAt w F mb S) (hw : Wf S) (hl : S.last ≤ 1000000) :
    Calls Tryz.prog 78 #[.pointer (some ⟨mb, 0, none⟩)] w fun e w' => RefStep S w e w' ∧ RefAt w' (Foot F w w') mb (stepM S).2 ∧ Kept F w w' := by
  cases hn : nextM S with
  | none =>
    refine (ref_step_none S F mb w h hw hl hn).mono ?_
    rintro e w' ⟨rfl, hb⟩
    have e1 : (stepM S).2 = S := by unfold stepM; rw [hn]
    rw [e1]
    exact ⟨by unfold RefStep; rw [hn], h.grow hb, Go.Proofs.YtiabdbeejkadnaaGreatDoor.Below.kept hb F⟩
  | some c =>
    refine (ref_step_some S F mb w c h hw hl hn).mono ?_
    rintro e w' ⟨hx, h1, h2⟩
    have e1 : (stepM S).2 = sendM S c := by unfold stepM; rw [hn]
    rw [e1]
    exact ⟨by unfold RefStep; rw [hn]; exact hx, h1, h2⟩
end Go.Proofs.YtiabdbeejkadnaaGreatDoor
