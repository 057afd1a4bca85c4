import Derived.Test.YtiabdbeejkadnabGreatDoorJ09b6ed3503
/- The program's queue (stage 2's code): Step: what it does to the queue. Own work of the verifier. -/
namespace Go.Proofs.YtiabdbeejkadnabGreatDoor
open Go.RowKit Go.Maps Go.Sort Go.Shelf

theorem mark_take {S : St} {c : Cmd} {C : List Rq} (h : Sends S c C) (hw : Wf S) {k : Nat} (hk : k < c.requests.length) :
    ∃ i, ∃ hi : i < S.reqs.length, (S.reqs[i]).num = c.requests[k] ∧ (S.reqs[i]).state = 0 ∧ markM S.reqs (c.requests.take (k + 1)) = (markM S.reqs (c.requests.take k)).set i { (S.reqs[i]) with state := 1, inAir := true } ∧ (markM S.reqs (c.requests.take k))[i]'(by rw [mark_len]; exact hi) = S.reqs[i] := by
  obtain ⟨r, hr, hrn⟩ : ∃ r ∈ C, r.num = c.requests[k] := by
    have : c.requests[k] ∈ C.map (·.num) := by rw [← h.nums]; exact List.getElem_mem _
    obtain ⟨r, hr, e⟩ := List.mem_map.1 this
    exact ⟨r, hr, e⟩
  obtain ⟨hm, hrd, _⟩ := h.mem r hr
  obtain ⟨i, hi, hir⟩ := List.getElem_of_mem hm
  have hnot : c.requests[k] ∉ c.requests.take k := by
    intro hx
    obtain ⟨j, hj, e⟩ := List.mem_take_iff_getElem.1 hx
    have := (List.pairwise_iff_getElem.1 (h.nodup hw)) j k (by omega) hk (by omega)
    exact this e
  have hin : (S.reqs[i]).num = c.requests[k] := by rw [hir]; exact hrn
  refine ⟨i, hi, hin, by rw [hir]; simp only [readyB, Bool.and_eq_true, beq_iff_eq] at hrd; exact hrd.1.1, ?_, mark_get S.reqs _ hi (by rw [hin]; exact hnot)⟩
  rw [List.take_succ_eq_append_getElem hk, mark_one S.reqs hw.sorted _ _ hi hin]
section
variable {w : World} {F : Nat → Prop} {xb : Nat} {S : St} {bm : Nat} {D : DataW Unit} {eb : Int → Nat} {c : Array Value} {af : Option Addr} {cf : Nat} {vs : List (Option Addr × Nat)}
theorem ProgBlk.marked {cm : Cmd} {C : List Rq} (hs : Sends S cm C) (hw : Wf S) {k : Nat} (hk : k < cm.requests.length) (h : ProgBlk w F xb { S with reqs := markM S.reqs (cm.requests.take k) } (cm.requests.take k) bm D eb c af cf vs) :
    ProgBlk (w.setCell ⟨eb cm.requests[k], 9, none⟩ (.int .i64 1)) F xb { S with reqs := markM S.reqs (cm.requests.take (k + 1)) } (cm.requests.take (k + 1)) bm D eb c af cf vs ∧ F (eb cm.requests[k]) ∧ w.cell? ⟨eb cm.requests[k], 9, none⟩ = some (.int .i64 0) ∧ w.frozen? ⟨eb cm.requests[k], 9, none⟩ = false := by
  obtain ⟨i, hi, hin, hst, hset, hget⟩ := mark_take hs hw hk
  have hi2 : i < ({ S with reqs := markM S.reqs (cm.requests.take k) } : St).reqs.length := by show i < (markM _ _).length; rw [mark_len]; exact hi
  have hg2 : ({ S with reqs := markM S.reqs (cm.requests.take k) } : St).reqs[i]'hi2 = S.reqs[i] := hget
  have hmem : S.reqs[i] ∈ ({ S with reqs := markM S.reqs (cm.requests.take k) } : St).reqs := by rw [← hg2]; exact List.getElem_mem _
  obtain ⟨ds, hds, he⟩ := h.e.ent _ hmem
  have hF := h.e.entF _ hmem
  rw [hin] at he hF
  refine ⟨?_, hF, by simp [World.cell?, he, entC, hst], by simp [World.frozen?, he]⟩
  have hwf := hs.marked hw (k + 1) (by omega)
  rw [hset] at hwf ⊢
  have := h.setE (w' := w.setCell ⟨eb cm.requests[k], 9, none⟩ (.int .i64 1)) (E' := cm.requests.take (k + 1)) (k := i) (x := { (S.reqs[i]) with state := 1, inAir := true }) (ds := ds) hi2 (by rw [hg2]) ⟨hds.1, hds.2.1, fun _ e => by cases e⟩ (by rw [hg2, hin, heap_setCell_at he]; rfl) (fun b _ hne => Below.heap_setCell _ _ _ _ (by rw [hg2, hin] at hne; exact hne)) (by simp [World.setCell]) hwf
  exact this
/-- one command more is under way: the row of commands behind the append, and the store of it -/
theorem ProgBlk.sent {w2 : World} {E : List Int} {F' : Nat → Prop} {cm : Cmd} {af' : Option Addr} {cf' : Nat} {ao : Option Addr} {cap : Nat} (h : ProgBlk w F xb S E bm D eb c af cf vs)
    (hs : ∀ k, k < w.heap.size → (∀ a, af = some a → a.block ≠ k) → w2.heap[k]? = w.heap[k]?) (_hz : w.heap.size ≤ w2.heap.size) (hF : ∀ k, F k → F' k) (hl : ∀ k, F' k → k < w2.heap.size)
    (hrow : Row w2 F' 73 1 af' (S.flights.length + 1) cf' (((S.flights.zip vs).map fun x => Value.slice x.2.1 x.1.requests.length x.2.2) ++ [.slice ao cm.requests.length cap]))
    (hin : Row w2 F' 75 1 ao cm.requests.length cap (encE eb cm.requests)) (hwf : Wf { S with flights := S.flights ++ [cm] }) :
    ProgBlk (w2.setCell ⟨xb, 4, none⟩ (.slice af' (S.flights.length + 1) cf')) F' xb { S with flights := S.flights ++ [cm] } [] bm D eb (c.setIfInBounds 4 (.slice af' (S.flights.length + 1) cf')) af' cf' (vs ++ [(ao, cap)]) := by
  have hxb : w2.heap[xb]? = w.heap[xb]? := hs xb h.lt (h.l.row.ne h.blk (by decide))
  have hblk2 := hxb.trans h.blk
  have hsz := h.q.size
  have hother : ∀ b cs t, w.heap[b]? = some (Obj.cells cs t (0, 0)) → t ≠ 73 → t ≠ 85 → (w2.setCell ⟨xb, 4, none⟩ (.slice af' (S.flights.length + 1) cf')).heap[b]? = w.heap[b]? := fun b cs t hb h1 h2 => by
    rw [Below.heap_setCell _ _ _ _ (fun e => by have e' : b = xb := e; rw [e', h.blk] at hb; simp at hb; exact h2 hb.2.symm)]
    exact hs b (lt_of_heap hb) (fun a ha e => h.l.row.ne hb (fun e' => h1 e'.symm) a ha e)
  refine ⟨hF _ h.own, heap_setCell_at hblk2 _, ⟨by simpa using hsz, ?_, ?_, ?_, ?_, ?_, ?_, ?_⟩, hF _ h.ownM, ?_, ?_, ⟨?_, ?_, ?_⟩, fun k hk => by have := hl k hk; simpa [World.setCell] using this, hwf⟩
  · rw [Array.getElem?_setIfInBounds, if_neg (by decide)]; exact h.q.c0
  · rw [Array.getElem?_setIfInBounds, if_neg (by decide)]; exact h.q.c1
  · rw [Array.getElem?_setIfInBounds, if_neg (by decide)]; exact h.q.c2
  · rw [Array.getElem?_setIfInBounds, if_neg (by decide)]; exact h.q.c3
  · rw [Array.getElem?_setIfInBounds, if_pos rfl, if_pos (by omega)]
    show _ = some (Value.slice af' (S.flights ++ [cm]).length cf')
    rw [List.length_append]; rfl
  · rw [Array.getElem?_setIfInBounds, if_neg (by decide)]; exact h.q.c5
  · intro j hj
    rw [Array.getElem?_setIfInBounds, if_neg (by omega)]; exact h.q.cd j hj
  · have hb : (w2.setCell ⟨xb, 4, none⟩ (.slice af' (S.flights.length + 1) cf')).heap[bm]? = w.heap[bm]? := by
      rw [Below.heap_setCell _ _ _ _ (h.bmNe h.blk)]
      refine hs bm (h.ltF _ h.ownM) (fun a ha e => ?_)
      obtain ⟨cur, hh, _⟩ := h.l.row.block ha
      exact h.bmNe hh e.symm
    have := h.m.same hb
    exact ⟨this.map, this.msize, this.has, this.at_⟩
  · exact (h.e.same fun r hr => by obtain ⟨ds, _, he⟩ := h.e.ent r hr; exact hother _ _ _ he (by decide) (by decide)).mono hF
  · show (vs ++ [_]).length = (S.flights ++ [_]).length
    rw [List.length_append, List.length_append, h.l.len]; rfl
  · show Row _ F' _ 1 af' (S.flights ++ [cm]).length cf' _
    have e1 : ((S.flights ++ [cm]).zip (vs ++ [(ao, cap)])).map (fun x => Value.slice x.2.1 x.1.requests.length x.2.2) = ((S.flights.zip vs).map fun x => Value.slice x.2.1 x.1.requests.length x.2.2) ++ [.slice ao cm.requests.length cap] := by
      rw [List.zip_append h.l.len.symm, List.map_append]; rfl
    have e2 : (S.flights ++ [cm]).length = S.flights.length + 1 := by rw [List.length_append]; rfl
    rw [e1, e2]
    exact hrow.setCell_other (hrow.ne hblk2 (by decide)) _
  · intro x hx
    rw [List.zip_append h.l.len.symm, List.mem_append] at hx
    rcases hx with hx | hx
    · have := h.l.ins x hx
      exact (this.same fun a ha => by obtain ⟨cur, hh, _⟩ := this.block ha; exact hother _ _ _ hh (by decide) (by decide)).mono hF
    · simp at hx
      subst hx
      exact hin.setCell_other (hin.ne hblk2 (by decide)) _
theorem ProgBlk.setHead {E : List Int} (h : ProgBlk w F xb S E bm D eb c af cf vs) (hd : Int) (hwf : WfE { S with head := hd } E) : ProgBlk (w.setCell ⟨xb, 5, none⟩ (.int .i64 hd)) F xb { S with head := hd } E bm D eb (c.setIfInBounds 5 (.int .i64 hd)) af cf vs := by
  have q := h.q
  have hsz := q.size
  refine h.setQ (heap_setCell_at h.blk _) (fun k _ hne => Below.heap_setCell _ _ _ _ hne) (by simp [World.setCell]) ⟨by simpa using hsz, ?_, ?_, ?_, ?_, ?_, ?_, ?_⟩ hwf rfl rfl rfl rfl
  · rw [Array.getElem?_setIfInBounds, if_neg (by decide)]; exact q.c0
  · rw [Array.getElem?_setIfInBounds, if_neg (by decide)]; exact q.c1
  · rw [Array.getElem?_setIfInBounds, if_neg (by decide)]; exact q.c2
  · rw [Array.getElem?_setIfInBounds, if_neg (by decide)]; exact q.c3
  · rw [Array.getElem?_setIfInBounds, if_neg (by decide)]; exact q.c4
  · rw [Array.getElem?_setIfInBounds, if_pos rfl, if_pos (by omega)]
  · intro j hj
    rw [Array.getElem?_setIfInBounds, if_neg (by omega)]; exact q.cd j hj
end
/-- what Step answers -/
def cmdZ : Cmd := ⟨false, 0, 0, []⟩
def StepEnd (F : Nat → Prop) (xb : Nat) (S : St) (w : World) (e : Ending) (w' : World) : Prop := ∃ ao n cap F', e = .returned (.tuple #[.agg #[.bool ((nextM S).getD cmdZ).write, .int .i64 ((nextM S).getD cmdZ).page, .int .i64 ((nextM S).getD cmdZ).count, .slice ao n cap], .bool (nextM S).isSome]) ∧ n = ((nextM S).getD cmdZ).requests.length ∧
  Row w' (fun b => w.heap.size ≤ b ∧ ¬ F' b) 3 1 ao n cap (encI ((nextM S).getD cmdZ).requests) ∧ ProgAt w' F' xb (stepM S).2 ∧ (∀ k, F k → F' k) ∧ (∀ k, F' k → Foot F w w' k) ∧ Kept F w w'
theorem next_cases {S : St} (hw : Wf S) {L : List Rq} (hL : IsReady S L) : (nextL S L = [] ∧ nextM S = none) ∨ (nextL S L ≠ [] ∧ ∃ c, nextM S = some c ∧ Sends S c (nextL S L) ∧ ¬ S.depth ≤ S.flights.length) := by
  unfold nextL
  by_cases hd : S.depth ≤ S.flights.length
  · rw [if_pos hd]; left; exact ⟨rfl, nextM_full hd⟩
  · rw [if_neg hd]
    by_cases he : L = []
    · left; exact ⟨by rw [he]; rfl, next_none hL he⟩
    · obtain ⟨c, h1, h2⟩ := next_sends hw hL hd he
      right; exact ⟨h2.ne, c, h1, h2, hd⟩
end Go.Proofs.YtiabdbeejkadnabGreatDoor

/- The program's queue (stage 2's code): Step. Own work of the verifier. -/
namespace Go.Proofs.YtiabdbeejkadnabGreatDoor
open Go.RowKit Go.Maps Go.Sort Go.Shelf

theorem info_fl : (Tryz.prog.info? 73).map (fun i => (i.zero, i.size, i.bytes)) = some (some (.slice none 0 0), 1, 24) := by kernel_rfl
/-- behind the append to the commands under way, and its store -/
def StepMid (w W0 w2 : World) (F : Nat → Prop) (xb : Nat) (S : St) (cm : Cmd) (g2 cap2 : Nat) (eb : Int → Nat) (g cap : Nat) : Prop :=
  Kept F w (w2.setCell ⟨xb, 4, none⟩ (.slice (some ⟨g2, 0, none⟩) (S.flights.length + 1) cap2)) ∧ (∃ bm D c af cf vs, ProgBlk (w2.setCell ⟨xb, 4, none⟩ (.slice (some ⟨g2, 0, none⟩) (S.flights.length + 1) cap2)) (Foot F W0 w2) xb { S with reqs := markM S.reqs cm.requests, flights := S.flights ++ [cm] } [] bm D eb c af cf vs) ∧
    Row (w2.setCell ⟨xb, 4, none⟩ (.slice (some ⟨g2, 0, none⟩) (S.flights.length + 1) cap2)) (Foot F W0 w2) 75 1 (some ⟨g, 0, none⟩) cm.requests.length cap (encE eb cm.requests)
theorem WfE.setHead {S : St} {E : List Int} (h : WfE S E) (hd : Int) (hh : 0 ≤ hd ∧ hd ≤ 16) : WfE { S with head := hd } E :=
  ⟨h.depth, h.last, h.now, hh, h.disk, h.sorted, h.rq, h.airIn, h.nodup, h.toldIn, h.toldNd, h.len, h.flLen, fun c hc => (h.fl c hc).of (fun r hr _ => ⟨r, hr, rfl, rfl, rfl⟩)⟩
theorem step_mid {w W0 wr w2 : World} {F : Nat → Prop} {xb : Nat} {S : St} {cm : Cmd} {C : List Rq} {bm : Nat} {D : DataW Unit} {eb : Int → Nat} {c : Array Value} {af : Option Addr} {cf : Nat} {vs : List (Option Addr × Nat)} {g k cap g2 cap2 : Nat} {o : Obj} {oc : Array Value} {ot : TypeId}
    (hP : ProgBlk wr F xb { S with reqs := markM S.reqs cm.requests } cm.requests bm D eb c af cf vs) (hs : Sends S cm C) (hw : Wf S) (hd : ¬ S.depth ≤ S.flights.length) (hK : Kept F w wr) (hF : ∀ j, F j → j < w.heap.size) (hz0 : W0.heap.size = w.heap.size + 1) (hz1 : W0.heap.size ≤ wr.heap.size)
    (hrow : Row wr (fun b => W0.heap.size ≤ b) 75 1 (some ⟨g, 0, none⟩) k cap (encE eb cm.requests)) (hk : k = cm.requests.length) (hR : wr.heap[w.heap.size]? = some (.cells oc ot (0, 0))) (hot : ot ≠ 73)
    (hgrow : (wr.alloc o).grownBy w2 (Value.ownBlock (.slice af S.flights.length cf))) (hown : w2.ownsRow 0 73 1 (.slice (some ⟨g2, 0, none⟩) (S.flights.length + 1) cap2) (S.flights.length + 1) (((S.flights.zip vs).map fun x => Value.slice x.2.1 x.1.requests.length x.2.2) ++ [.slice (some ⟨g, 0, none⟩) k cap])) (hat : Value.ownBlock (.slice af S.flights.length cf) = some g2 ∨ g2 = wr.heap.size + 1) (hlt : g2 < w2.heap.size) :
    StepMid w W0 w2 F xb S cm g2 cap2 eb g cap ∧ w2.heap[w.heap.size]? = some (.cells oc ot (0, 0)) ∧ w2.cell? ⟨xb, 4, none⟩ = some (.slice af S.flights.length cf) ∧ w2.frozen? ⟨xb, 4, none⟩ = false := by
  subst hk
  have hob : ∀ j, Value.ownBlock (.slice af S.flights.length cf) = some j → ∃ a, af = some a ∧ a.block = j := by
    intro j hj
    cases af with
    | none => simp [Value.ownBlock] at hj
    | some a => exact ⟨a, rfl, by simpa [Value.ownBlock] using hj⟩
  have hsame : ∀ j, j < wr.heap.size → (∀ a, af = some a → a.block ≠ j) → w2.heap[j]? = wr.heap[j]? := fun j hj hne =>
    (hgrow.block j (by simp; omega) (fun e => by obtain ⟨a, ha, hab⟩ := hob j e.symm; exact hne a ha hab)).trans (Below.heap_alloc wr o j hj)
  have hzz : wr.heap.size + 1 ≤ w2.heap.size := by have := hgrow.size; simpa using this
  have hl : ∀ j, Foot F W0 w2 j → j < w2.heap.size := fun j hj => hj.elim (fun e => by have := hF j e; omega) (fun e => e.2)
  have hg2 : Foot F W0 w2 g2 := by
    rcases hat with e | e
    · obtain ⟨a, ha, hab⟩ := hob g2 e
      exact Or.inl (hab ▸ hP.l.row.2 a ha)
    · exact Or.inr ⟨by omega, hlt⟩
  have hin2 : Row w2 (Foot F W0 w2) 75 1 (some ⟨g, 0, none⟩) cm.requests.length cap (encE eb cm.requests) := by
    refine ⟨(hrow.same fun a ha => ?_).1, fun a ha => ?_⟩
    · obtain ⟨cur, hh, _⟩ := hrow.block ha
      exact hsame _ (lt_of_heap hh) (fun a' ha' e => hP.l.row.ne hh (by decide) a' ha' e)
    · obtain ⟨cur, hh, _⟩ := hrow.block ha
      have := hrow.2 a ha
      have := lt_of_heap hh
      exact Or.inr ⟨by omega, by omega⟩
  have hwf : Wf { S with reqs := markM S.reqs cm.requests, flights := S.flights ++ [cm] } := (hs.wf hw hd).setHead S.head hw.head
  have hsent := hP.sent (w2 := w2) (F' := Foot F W0 w2) (cm := cm) (af' := some ⟨g2, 0, none⟩) (cf' := cap2) (ao := some ⟨g, 0, none⟩) (cap := cap) hsame (by omega) (fun j hj => Or.inl hj) hl ⟨hown, fun a ha => by cases ha; exact hg2⟩ hin2 hwf
  have hxb : w2.heap[xb]? = wr.heap[xb]? := hsame xb hP.lt (hP.l.row.ne hP.blk (by decide))
  refine ⟨⟨?_, ⟨bm, D, _, _, _, _, hsent⟩, hin2.setCell_other (hin2.ne (hxb.trans hP.blk) (by decide)) _⟩, (hsame _ (lt_of_heap hR) (fun a ha e => hP.l.row.ne hR (fun e' => hot e'.symm) a ha e)).trans hR, ?_, ?_⟩
  · refine Kept.setCell ((hK.alloc o).grown hgrow (fun j hj => ?_)) (Or.inl hP.own) _
    obtain ⟨a, ha, hab⟩ := hob j hj
    exact Or.inl (hab ▸ hP.l.row.2 a ha)
  · rw [World.cell?_of_block (a := ⟨xb, 4, none⟩) hxb]; exact hP.cell 4 _ hP.q.c4
  · rw [World.frozen?_of_block (a := ⟨xb, 4, none⟩) hxb]; exact hP.fz 4
/-- what a command under way reads of its requests -/
theorem ProgBlk.cmdIn {w : World} {F : Nat → Prop} {xb : Nat} {S : St} {E : List Int} {bm : Nat} {D : DataW Unit} {eb : Int → Nat} {c : Array Value} {af : Option Addr} {cf : Nat} {vs : List (Option Addr × Nat)} (h : ProgBlk w F xb S E bm D eb c af cf vs) {cm : Cmd} (hc : cm ∈ S.flights) :
    CmdIn w eb cm.requests cm.write cm.page (cm.page + cm.count - 1) ∧ (0 ≤ cm.page ∧ cm.page < 16) ∧ (0 ≤ cm.page + cm.count - 1 ∧ cm.page + cm.count - 1 < 16) := by
  have hok := h.wf.fl cm hc
  have hin : ∀ n ∈ cm.requests, ∃ r ∈ S.reqs, r.num = n := fun n hn => h.wf.airIn n (List.mem_append_left _ (List.mem_flatMap.2 ⟨cm, hc, hn⟩))
  have hcell : ∀ n ∈ cm.requests, ∃ r ∈ S.reqs, r.num = n ∧ w.cell? ⟨eb n, 0, none⟩ = some (.int .i64 n) ∧ w.cell? ⟨eb n, 1, none⟩ = some (.int .i64 r.page) ∧ w.cell? ⟨eb n, 2, none⟩ = some (.bool r.write) := fun n hn => by
    obtain ⟨r, hr, rfl⟩ := hin n hn
    have := h.entAt (Below.refl _ _) hr
    exact ⟨r, hr, rfl, this.1, this.2.1, this.2.2.1⟩
  refine ⟨⟨fun n hn => ?_, fun n hn => ?_, fun n hn => ?_, fun n hn => ?_⟩, ?_, ?_⟩
  · obtain ⟨r, _, _, h0, _⟩ := hcell n hn; exact h0
  · obtain ⟨r, hr, rfl, _, _, h2⟩ := hcell n (List.mem_of_head? hn)
    rw [h2, hok.wr r hr (List.mem_of_head? hn)]
  · obtain ⟨r, hr, rfl, _, h1, _⟩ := hcell n (List.mem_of_head? hn)
    rw [h1, hok.fst r hr hn]
  · obtain ⟨r, hr, rfl, _, h1, _⟩ := hcell n (List.mem_of_getLast? hn)
    rw [h1, hok.lst r hr hn]
  · obtain ⟨n, hn⟩ : ∃ n, cm.requests.head? = some n := by
      cases hx : cm.requests with
      | nil => exact absurd hx hok.ne
      | cons a l => exact ⟨a, rfl⟩
    obtain ⟨r, hr, rfl⟩ := hin n (List.mem_of_head? hn)
    rw [← hok.fst r hr hn]; exact (h.wf.rq r hr).page
  · obtain ⟨n, hn⟩ : ∃ n, cm.requests.getLast? = some n := by
      cases hx : cm.requests.getLast? with
      | none => exact absurd (List.getLast?_eq_none_iff.1 hx) hok.ne
      | some a => exact ⟨a, rfl⟩
    obtain ⟨r, hr, rfl⟩ := hin n (List.mem_of_getLast? hn)
    rw [← hok.lst r hr hn]; exact (h.wf.rq r hr).page
set_option maxHeartbeats 4000000 in
set_option maxRecDepth 1000000 in
theorem prog_step (S : St) (F : Nat → Prop) (xb : Nat) (w : World) (h : ProgAt w F xb S) (hl : S.last ≤ 1000000) :
    Calls Tryz.prog 12 #[.pointer (some ⟨xb, 0, none⟩)] w fun e w' => StepEnd F xb S w e w' := by
  obtain ⟨i0, hi, hi0, hi1, hi2⟩ := info_parts info_fl
  obtain ⟨bm, D, eb, c, af, cf, vs, h⟩ := h
  have HQ := hide h
  have hxl := h.lt
  have HF := hide h.ltF
  clear h
  have HB0 : Hid (Below w.heap.size w (w.alloc (.cells #[.bool false, .int .i64 0, .int .i64 0, .slice none 0 0] 45))) := alloc_below _ _
  have HR0 : Hid ((w.alloc (.cells #[.bool false, .int .i64 0, .int .i64 0, .slice none 0 0] 45)).heap[w.heap.size]? = some (.cells #[.bool false, .int .i64 0, .int .i64 0, .slice none 0 0] 45 (0, 0))) := heap_alloc_new w _
  have HZ0 : (w.alloc (.cells #[.bool false, .int .i64 0, .int .i64 0, .slice none 0 0] 45)).heap.size = w.heap.size + 1 := by simp
  have HQ0 : Hid (ProgBlk (w.alloc (.cells #[.bool false, .int .i64 0, .int .i64 0, .slice none 0 0] 45)) F xb S [] bm D eb c af cf vs) := HQ.out.same (fun k _ hk => Below.heap_alloc w _ k hk) (by simp)
  go_enter Tryz.func12, Tryz.ntmps12
  go_wp2_with fail
  generalize hW : w.alloc (.cells #[.bool false, .int .i64 0, .int .i64 0, .slice none 0 0] 45) = W0 at *
  clear hW
  refine (orEmpty_some _ _).mono ?_
  rintro e w1 ⟨rfl, hw⟩
  have hw := hw.symm
  subst hw
  go_wp2_with fail
  refine (prog_next S F xb bm D eb c af cf vs _ HQ0.out hl).mono ?_
  rintro e w1 ⟨L, hL, ao, n, cap, rfl, hn, hrow, hb⟩
  have HL := hide hL
  have HN := hide hn
  have HR := hide hrow
  have HB := hide hb
  have HC := hide (next_cases HQ.out.wf hL)
  clear hL hn hrow hb
  by_cases h0 : n = 0
  · subst h0
    have hnil : nextL S L = [] := List.eq_nil_of_length_eq_zero HN.out.symm
    have hnone : nextM S = none := HC.out.elim (fun e => e.2) (fun e => absurd hnil e.1)
    have HST : Hid (stepM S = (none, S)) := by show _ = _; unfold stepM; rw [hnone]
    have HNM := hide hnone
    have HR1 : w1.heap[w.heap.size]? = some (.cells #[.bool false, .int .i64 0, .int .i64 0, .slice none 0 0] 45 (0, 0)) := (HB.out.block _ (by omega)).trans HR0.out
    obtain ⟨⟨r0, r1, r2, r3⟩, s0, s1, s2, s3⟩ := cells4 HR1
    have hz1 : W0.heap.size ≤ w1.heap.size := HB.out.size
    have hzz : w.heap.size < w1.heap.size := by omega
    clear HR1 hnone hnil
    go_wp2
    have HBW : Below w.heap.size w ((((w1.setCell ⟨w.heap.size, 0, none⟩ (.bool false)).setCell ⟨w.heap.size, 1, none⟩ (.int .i64 0)).setCell ⟨w.heap.size, 2, none⟩ (.int .i64 0)).setCell ⟨w.heap.size, 3, none⟩ (.slice none 0 0)) := ((((HB0.out.trans (HB.out.mono (by omega))).setCell (Nat.le_refl _) _).setCell (Nat.le_refl _) _).setCell (Nat.le_refl _) _).setCell (Nat.le_refl _) _
    refine bodyPost_ret (v := .tuple #[.agg #[.bool false, .int .i64 0, .int .i64 0, .slice none 0 0], .bool false]) (by simp [results, Tryz.results12, go_sem, r0, r1, r2, r3]) rfl ⟨none, 0, 0, F, ?_, ?_, ?_, ?_, fun _ hk => hk, fun k hk => Or.inl hk, Go.Proofs.YtiabdbeejkadnabGreatDoor.Below.kept HBW F⟩
    · rw [HNM.out]; rfl
    · rw [HNM.out]; rfl
    · rw [HNM.out]; exact Row.nil _ _ _ _
    · rw [HST.out]; exact ⟨bm, D, eb, c, af, cf, vs, HQ.out.same (fun k _ hk => HBW.block k hk) HBW.size⟩
  · obtain ⟨cm, hcm, hsnd, hdp⟩ : ∃ cm, nextM S = some cm ∧ Sends S cm (nextL S L) ∧ ¬ S.depth ≤ S.flights.length := HC.out.elim (fun e => absurd (by rw [HN.out, e.1]; rfl) h0) (fun e => e.2)
    have HST : Hid (stepM S = (some cm, sendM S cm)) := by show _ = _; unfold stepM; rw [hcm]
    have HNM := hide hcm
    have HSN := hide hsnd
    have HDP := hide hdp
    have HNN : Hid (n = cm.requests.length) := by show n = _; rw [HN.out, hsnd.nums, List.length_map]
    have HRW : Hid (Row w1 (fun b => W0.heap.size ≤ b) 75 1 ao n cap (encE eb cm.requests)) := by rw [hsnd.nums]; exact HR.out
    have hnl : n ≤ 1000000 := by
      rw [HNN.out]
      have h1 := (hsnd.wf HQ.out.wf hdp).airLen
      have h2 : cm.requests.length ≤ (airs (sendM S cm) ++ []).length := by unfold airs sendM; simp
      have h3 : (sendM S cm).reqs.length = S.reqs.length := mark_len _ _
      have h4 := HQ.out.wf.reqsLen
      omega
    obtain ⟨g, cur, hg, hge, hgb, hncap, _⟩ := Row.some HRW.out (by omega)
    subst hg
    have HQ1 : Hid (ProgBlk w1 F xb S [] bm D eb c af cf vs) := HQ0.out.same (fun k _ hk => HB.out.block k hk) HB.out.size
    have HR1 : Hid (w1.heap[w.heap.size]? = some (.cells #[.bool false, .int .i64 0, .int .i64 0, .slice none 0 0] 45 (0, 0))) := (HB.out.block _ (by omega)).trans HR0.out
    have HBB : Hid (Below w.heap.size w w1) := HB0.out.trans (HB.out.mono (by omega))
    have hz1 : W0.heap.size ≤ w1.heap.size := HB.out.size
    clear hcm hsnd hdp HC HL HN HR hgb
    go_wp2
    go_loopw [18] (fun i wx => ∃ k : Nat, k ≤ n ∧ i = .int .i64 k ∧ Hid (ProgBlk wx F xb { S with reqs := markM S.reqs (cm.requests.take k) } (cm.requests.take k) bm D eb c af cf vs) ∧ Hid (Kept F w1 wx)) (fun i _ => n - (intOf i).toNat)
    case atStart => exact ⟨0, Nat.zero_le _, rfl, by show ProgBlk _ _ _ _ _ _ _ _ _ _ _ _; rw [List.take_zero, mark_nil]; exact HQ1.out, Kept.refl _ _⟩
    case round =>
      obtain ⟨k, hk, rfl, hP, hK⟩ := hrel
      have hgw : ∀ a, (some (⟨g, 0, none⟩ : Addr)) = some a → ¬ F a.block := fun a ha => by cases ha; exact fun e => by have := HF.out _ e; have h2 : W0.heap.size ≤ g := hge; have h3 : g < w.heap.size := this; omega
      have HRX := hide (HRW.out.kept hK.out hgw)
      by_cases hlt : k < n
      · have hkr : k < cm.requests.length := by rw [← HNN.out]; exact hlt
        obtain ⟨m1, m2, m3, m4⟩ := hP.out.marked HSN.out HQ.out.wf hkr
        have ck : wr.cell? ⟨g, k, none⟩ = some (.pointer (some ⟨eb (cm.requests[k]), 0, none⟩)) := by
          rw [Row.cellAt HRX.out k (by omega)]
          simp [encE, hkr]
        have M1 := hide m1
        have M2 : Hid (Kept F w1 (wr.setCell ⟨eb (cm.requests[k]), 9, none⟩ (.int .i64 1))) := hK.out.setCell (p := ⟨eb (cm.requests[k]), 9, none⟩) (Or.inl m2) _
        clear m1 m2 hgw
        generalize cm.requests[k] = x at *
        go_wp2
        go_roundw
        case rel => exact ⟨k + 1, by omega, by go_num, M1, M2⟩
        case measure => simp [intOf]; omega
      · have hkn : k = n := by omega
        subst hkn
        have htk : cm.requests.take k = cm.requests := List.take_of_length_le (by rw [HNN.out]; exact Nat.le_refl _)
        have HP : Hid (ProgBlk wr F xb { S with reqs := markM S.reqs cm.requests } cm.requests bm D eb c af cf vs) := by have := hP.out; rw [htk] at this; exact this
        have hz2 : Hid (w1.heap.size ≤ wr.heap.size) := hK.out.size
        have hxw : xb < wr.heap.size := HP.out.lt
        have d4 := HP.out.cell 4 _ HP.out.q.c4
        have f4 := HP.out.fz 4
        have HR2 : Hid (wr.heap[w.heap.size]? = some (.cells #[.bool false, .int .i64 0, .int .i64 0, .slice none 0 0] 45 (0, 0))) := (hK.out.block _ (lt_of_heap HR1.out) (fun e => by have := HF.out _ e; omega)).trans HR1.out
        have HNF : Hid (S.flights.length ≤ 4) := by have := HQ.out.wf.flLen; have := HQ.out.wf.depth; show _ ≤ _; omega
        have hnf4 := HNF.out
        have HO : Hid ((wr.alloc (.cells #[.slice (some ⟨g, 0, none⟩) k cap] 73)).ownsRow 0 73 1 (.slice af S.flights.length cf) S.flights.length ((S.flights.zip vs).map fun x => Value.slice x.2.1 x.1.requests.length x.2.2)) := (HP.out.l.row.alloc _).1
        have HW : Hid (∀ (j : Nat) (u : Value), [Value.slice (some ⟨g, 0, none⟩) k cap][j]? = some u → (wr.alloc (.cells #[.slice (some ⟨g, 0, none⟩) k cap] 73)).cell? ((⟨wr.heap.size, 0, none⟩ : Addr).add j) = some u) := fun j u => news_new j u
        have HKW : Hid (Kept F w wr) := (Go.Proofs.YtiabdbeejkadnabGreatDoor.Below.kept HBB.out F).then hK.out
        have hzr : W0.heap.size ≤ wr.heap.size := by have := hz2.out; omega
        have HFIN : Hid (∀ (g2 cap2 : Nat) (w2 : World), (wr.alloc (.cells #[.slice (some ⟨g, 0, none⟩) k cap] 73)).grownBy w2 (Value.ownBlock (.slice af S.flights.length cf)) → w2.ownsRow 0 73 1 (.slice (some ⟨g2, 0, none⟩) (S.flights.length + 1) cap2) (S.flights.length + 1) (((S.flights.zip vs).map fun x => Value.slice x.2.1 x.1.requests.length x.2.2) ++ [.slice (some ⟨g, 0, none⟩) k cap]) → (Value.ownBlock (.slice af S.flights.length cf) = some g2 ∨ g2 = wr.heap.size + 1) → g2 < w2.heap.size →
            StepMid w W0 w2 F xb S cm g2 cap2 eb g cap ∧ w2.heap[w.heap.size]? = some (.cells #[.bool false, .int .i64 0, .int .i64 0, .slice none 0 0] 45 (0, 0)) ∧ w2.cell? ⟨xb, 4, none⟩ = some (.slice af S.flights.length cf) ∧ w2.frozen? ⟨xb, 4, none⟩ = false) :=
          fun g2 cap2 w2 h1 h2 h3 h4 => step_mid HP.out HSN.out HQ.out.wf (by have := HDP.out; omega) HKW.out HF.out HZ0 hzr HRX.out HNN.out HR2.out (by decide) h1 h2 h3 h4
        clear htk hP hK HRX HRW
        go_wp2_with (at_builtin; go_must (refine wpList_append_lies _ rfl (.tmp 30) (.tmp 32) 81 rfl 0 73 i0 (.slice none 0 0) 1 24 Tryz.underlying81 hi hi0 hi1 hi2 rfl (by decide) (.slice af S.flights.length cf) S.flights.length ((S.flights.zip vs).map fun x => Value.slice x.2.1 x.1.requests.length x.2.2) rfl HO.out ⟨wr.heap.size, 0, none⟩ 1 1 [Value.slice (some ⟨g, 0, none⟩) k cap] rfl rfl HW.out (by intro u hu; simp at hu; subst hu; rfl) (by decide) (by unfold maxLen; omega) (by omega) (Nat.zero_le _) (wr.heap.size + 1) (by simp) ?_; intro g2 cap2 w2 hown hgrow hat hlt3; have HX := hide (HFIN.out g2 cap2 w2 hgrow hown hat hlt3); clear hown hgrow hat hlt3; have y4 := HX.out.2.2.1; have z4 := HX.out.2.2.2))
        have HMID := hide HX.out.1
        have HR3 : Hid (w2.heap[w.heap.size]? = some (.cells #[.bool false, .int .i64 0, .int .i64 0, .slice none 0 0] 45 (0, 0))) := HX.out.2.1
        have hxne : w.heap.size ≠ xb := by omega
        have HR4 : Hid ((w2.setCell ⟨xb, 4, none⟩ (.slice (some ⟨g2, 0, none⟩) (S.flights.length + 1) cap2)).heap[w.heap.size]? = some (.cells #[.bool false, .int .i64 0, .int .i64 0, .slice none 0 0] 45 (0, 0))) := (Below.heap_setCell _ _ _ _ hxne).trans HR3.out
        have hz3 : (w2.setCell ⟨xb, 4, none⟩ (.slice (some ⟨g2, 0, none⟩) (S.flights.length + 1) cap2)).heap.size = w2.heap.size := by simp [World.setCell]
        clear HX y4 z4 HR3 HFIN HO HW
        obtain ⟨hKM, ⟨bm', D', c', af', cf', vs', hPM⟩, hRM⟩ := HMID.out
        have HCI := hide (hPM.cmdIn (cm := cm) (by simp))
        have HNK := hide HNN.out
        have HCC : Hid (Calls Tryz.prog 30 #[.slice (some ⟨g, 0, none⟩) k cap] (w2.setCell ⟨xb, 4, none⟩ (.slice (some ⟨g2, 0, none⟩) (S.flights.length + 1) cap2)) fun e w' => CmdAt ⟨cm.write, cm.page, cm.page + cm.count - 1 - cm.page + 1, cm.requests⟩ (w2.setCell ⟨xb, 4, none⟩ (.slice (some ⟨g2, 0, none⟩) (S.flights.length + 1) cap2)) e w') := by
          have := prog_command (Foot F W0 w2) eb cm.requests g cm.requests.length cap cm.write cm.page (cm.page + cm.count - 1) _ hRM rfl (fun e => h0 (by rw [HNK.out, e]; rfl)) HCI.out.1 (by rw [← HNK.out]; exact hnl) HCI.out.2.1 HCI.out.2.2
          rw [HNK.out]; exact this
        have ecnt : cm.page + cm.count - 1 - cm.page + 1 = cm.count := by omega
        rw [ecnt] at HCC
        obtain ⟨⟨hcp0, hcp1⟩, hcq0, hcq1⟩ := HCI.out.2
        have d5 := hPM.cell 5 _ hPM.q.c5
        have f5 := hPM.fz 5
        have HPM := hide hPM
        have HKM := hide hKM
        have hxl2 : xb < w2.heap.size := by have := hPM.lt; omega
        clear hPM hKM hRM ecnt HMID HCI
        generalize hW3 : w2.setCell ⟨xb, 4, none⟩ (.slice (some ⟨g2, 0, none⟩) (S.flights.length + 1) cap2) = W3 at *
        clear hW3
        refine HCC.out.mono ?_
        rintro e w4 ⟨ao4, n4, cap4, rfl, hn4, hrow4, hb4⟩
        have HN4 := hide hn4
        have HROW4 := hide hrow4
        have HB4 := hide hb4
        have hz4 : W3.heap.size ≤ w4.heap.size := hb4.size
        have HR5 := hide ((hb4.block _ (lt_of_heap HR4.out)).trans HR4.out)
        have d5' := (hb4.cell (p := ⟨xb, 5, none⟩) (by show xb < _; omega)).trans d5
        have f5' := (hb4.frozen (p := ⟨xb, 5, none⟩) (by show xb < _; omega)).trans f5
        obtain ⟨⟨r0, r1, r2, r3⟩, s0, s1, s2, s3⟩ := cells4 HR5.out
        have hwl : w.heap.size < w4.heap.size := lt_of_heap HR5.out
        have hxw4 : xb < w4.heap.size := by omega
        clear hn4 hrow4 hb4 d5 f5 HCC
        simp only []
        go_wp2
        have hfF : ∀ j, Foot F W0 w2 j → j ≠ w.heap.size := fun j hj => hj.elim (fun e => by have := HF.out j e; omega) (fun e => by have := e.1; omega)
        have hWS : Wf (sendM S cm) := HSN.out.wf HQ.out.wf (by have := HDP.out; omega)
        have hP4 := (HPM.out.same (w' := w4) (fun j _ hj => HB4.out.block j hj) HB4.out.size).setHead (cm.page + cm.count) hWS
        refine bodyPost_ret (v := .tuple #[.agg #[.bool cm.write, .int .i64 cm.page, .int .i64 cm.count, .slice ao4 n4 cap4], .bool true]) (by simp [results, Tryz.results12, go_sem, r0, r1, r2, r3, hwl]) rfl ⟨ao4, n4, cap4, Foot F W0 w2, ?_, ?_, ?_, ?_, fun _ hj => Or.inl hj, ?_, ?_⟩
        · rw [HNM.out]; rfl
        · rw [HNM.out]; exact HN4.out
        · rw [HNM.out]
          have hge4 : ∀ a, ao4 = some a → w2.heap.size ≤ a.block := fun a ha => by have := HROW4.out.2 a ha; omega
          have h1 : ∀ a, ao4 = some a → a.block ≠ xb := fun a ha => by have := hge4 a ha; omega
          have h2 : ∀ a, ao4 = some a → a.block ≠ w.heap.size := fun a ha => by have := hge4 a ha; have := lt_of_heap HR4.out; omega
          refine ⟨((((((HROW4.out.setCell_other (p := ⟨xb, 5, none⟩) h1 _).setCell_other (p := ⟨w.heap.size, 0, none⟩) h2 _).setCell_other (p := ⟨w.heap.size, 1, none⟩) h2 _).setCell_other (p := ⟨w.heap.size, 2, none⟩) h2 _).setCell_other (p := ⟨w.heap.size, 3, none⟩) h2 _).alloc _).1, fun a ha => ⟨?_, fun hf => ?_⟩⟩
          · have := hge4 a ha; have := lt_of_heap HR4.out; omega
          · have := hge4 a ha
            rcases hf with e | e
            · have := HF.out _ e; have := lt_of_heap HR4.out; omega
            · have := e.2; omega
        · rw [HST.out]
          refine ⟨bm', D', eb, _, af', cf', vs', hP4.same (fun j hj hjl => ?_) (by simp [World.setCell])⟩
          rw [Below.heap_alloc _ _ _ (by simp [World.setCell] at hjl ⊢; exact hjl), Below.heap_setCell _ _ _ _ (hfF j hj), Below.heap_setCell _ _ _ _ (hfF j hj), Below.heap_setCell _ _ _ _ (hfF j hj), Below.heap_setCell _ _ _ _ (hfF j hj)]
        · intro j hj
          rcases hj with e | e
          · exact Or.inl e
          · refine Or.inr ⟨by omega, ?_⟩
            have : w4.heap.size ≤ ((((((w4.setCell ⟨xb, 5, none⟩ (.int .i64 (cm.page + cm.count))).setCell ⟨w.heap.size, 0, none⟩ (.bool cm.write)).setCell ⟨w.heap.size, 1, none⟩ (.int .i64 cm.page)).setCell ⟨w.heap.size, 2, none⟩ (.int .i64 cm.count)).setCell ⟨w.heap.size, 3, none⟩ (.slice ao4 n4 cap4)).alloc (.cells #[.bool cm.write, .int .i64 cm.page, .int .i64 cm.count, .slice ao4 n4 cap4] 45)).heap.size := by simp [World.setCell]
            have := e.2
            omega
        · exact (((((((HKM.out.below HB4.out).setCell (p := ⟨xb, 5, none⟩) (Or.inl HQ.out.own) _).setCell (p := ⟨w.heap.size, 0, none⟩) (Or.inr (Nat.le_refl _)) _).setCell (p := ⟨w.heap.size, 1, none⟩) (Or.inr (Nat.le_refl _)) _).setCell (p := ⟨w.heap.size, 2, none⟩) (Or.inr (Nat.le_refl _)) _).setCell (p := ⟨w.heap.size, 3, none⟩) (Or.inr (Nat.le_refl _)) _).alloc _)
end Go.Proofs.YtiabdbeejkadnabGreatDoor
