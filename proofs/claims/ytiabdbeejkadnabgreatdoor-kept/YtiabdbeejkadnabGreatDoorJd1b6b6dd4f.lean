import Derived.Test.YtiabdbeejkadnabGreatDoorJb72f04db65
import Derived.Test.YtiabdbeejkadnabGreatDoorJa7a4ef9b18
/- The program's queue (stage 2's code): how a try ends for a request: pause, miss, succeed. Own work of the verifier. -/
namespace Go.Proofs.YtiabdbeejkadnabGreatDoor
open Go.RowKit Go.Maps

theorem prog_pause (t : Int) (ht : t = 1 ∨ t = 2 ∨ t = 3) (w : World) : Calls Tryz.prog 93 #[.int .i64 t] w fun e w' => e = .returned (.int .i64 (pauseM t)) ∧ w' = w := by
  rcases ht with rfl | rfl | rfl
  · go_enter Tryz.func93, Tryz.ntmps93
    go_wp2
    go_ret
    exact ⟨rfl, rfl⟩
  · go_enter Tryz.func93, Tryz.ntmps93
    go_wp2
    go_ret
    exact ⟨rfl, rfl⟩
  · go_enter Tryz.func93, Tryz.ntmps93
    go_wp2
    go_ret
    exact ⟨rfl, rfl⟩
def missR (now : Int) (r : Rq) : Rq := if r.state = 4 then r else if r.tries = 4 then { r with state := 3 } else { r with state := 0, after := now + pauseM r.tries }
set_option maxHeartbeats 1000000 in
theorem entry_miss (b : Nat) (r : Rq) (ds : List UInt8) (now : Int) (w : World) (h : w.heap[b]? = some (.cells (entC r ds) 80 (0, 0))) (ht : 1 ≤ r.tries ∧ r.tries ≤ 4) (hn : 0 ≤ now ∧ now ≤ 1000000000) :
    Calls Tryz.prog 71 #[.pointer (some ⟨b, 0, none⟩), .int .i64 now] w fun e w' => e = .returned (.tuple #[]) ∧ w'.heap[b]? = some (.cells (entC (missR now r) ds) 80 (0, 0)) ∧ Kept (fun k => k = b) w w' := by
  obtain ⟨hn0, hn1⟩ := hn
  have x7 : w.cell? ⟨b, 7, none⟩ = some (.int .i64 r.tries) := by simp [World.cell?, h, entC]
  have x8 : w.cell? ⟨b, 8, none⟩ = some (.int .i64 r.after) := by simp [World.cell?, h, entC]
  have x9 : w.cell? ⟨b, 9, none⟩ = some (.int .i64 r.state) := by simp [World.cell?, h, entC]
  have f8 : w.frozen? ⟨b, 8, none⟩ = false := by simp [World.frozen?, h]
  have f9 : w.frozen? ⟨b, 9, none⟩ = false := by simp [World.frozen?, h]
  have H := hide h
  clear h
  unfold missR
  by_cases h4 : r.state = 4
  · have b4 : (r.state == 4) = true := beq_iff_eq.2 h4
    rw [if_pos h4]
    clear h4
    go_enter Tryz.func71, Tryz.ntmps71
    go_wp2
    go_end0
    exact ⟨rfl, H.out, Kept.refl _ _⟩
  · have b4 : (r.state == 4) = false := beq_eq_false_iff_ne.2 h4
    rw [if_neg h4]
    by_cases ht4 : r.tries = 4
    · have c4 : (r.tries == 4) = true := beq_iff_eq.2 ht4
      rw [if_pos ht4]
      clear h4 ht4 ht
      go_enter Tryz.func71, Tryz.ntmps71
      go_wp2
      go_end0
      exact ⟨rfl, by rw [heap_setCell_at H.out]; rfl, (Kept.refl (fun k => k = b) _).setCell (p := ⟨b, 9, none⟩) (Or.inl rfl) _⟩
    · have c4 : (r.tries == 4) = false := beq_eq_false_iff_ne.2 ht4
      rw [if_neg ht4]
      have HPS := hide (prog_pause r.tries (by omega))
      have hpm : 0 ≤ pauseM r.tries ∧ pauseM r.tries ≤ 8 := by unfold pauseM; (repeat' split) <;> omega
      obtain ⟨hp0, hp8⟩ := hpm
      clear h4 ht4 ht
      have H2 : Hid (∀ u, ((w.setCell ⟨b, 9, none⟩ (.int .i64 0)).setCell ⟨b, 8, none⟩ u).heap[b]? = some (.cells (((entC r ds).setIfInBounds 9 (.int .i64 0)).setIfInBounds 8 u) 80 (0, 0))) := fun u => heap_setCell_at (heap_setCell_at H.out _) _
      generalize hpz : pauseM r.tries = pz at *
      clear hpz
      go_enter Tryz.func71, Tryz.ntmps71
      go_wp2_with (first | (go_at_call 93; refine (HPS.out _).mono ?_; rintro e w1 ⟨rfl, hw1⟩; subst hw1))
      go_end0
      exact ⟨rfl, by rw [H2.out]; rfl, ((Kept.refl (fun k => k = b) _).setCell (p := ⟨b, 9, none⟩) (Or.inl rfl) _).setCell (p := ⟨b, 8, none⟩) (Or.inl rfl) _⟩
def doneR (r : Rq) : Rq := if r.state = 4 then r else { r with state := 2 }
def put4 (c : Array Value) (off : Nat) (ds : List UInt8) : Array Value := (((c.setIfInBounds off (u8 (ds.getD 0 0))).setIfInBounds (off + 1) (u8 (ds.getD 1 0))).setIfInBounds (off + 2) (u8 (ds.getD 2 0))).setIfInBounds (off + 3) (u8 (ds.getD 3 0))
theorem ent_data {W : World} {b : Nat} {r : Rq} {ds : List UInt8} (h : W.heap[b]? = some (.cells (entC r ds) 80 (0, 0))) : W.cell? ⟨b, 3, none⟩ = some (u8 (ds.getD 0 0)) ∧ W.cell? ⟨b, 4, none⟩ = some (u8 (ds.getD 1 0)) ∧ W.cell? ⟨b, 5, none⟩ = some (u8 (ds.getD 2 0)) ∧ W.cell? ⟨b, 6, none⟩ = some (u8 (ds.getD 3 0)) := by simp [World.cell?, h, entC]
set_option maxHeartbeats 1000000 in
theorem entry_succeed_w (b xb off : Nat) (r : Rq) (ds : List UInt8) (c : Array Value) (w : World) (h : w.heap[b]? = some (.cells (entC r ds) 80 (0, 0))) (hx : w.heap[xb]? = some (.cells c 85 (0, 0))) (hc : off + 4 ≤ c.size) (hw : r.write = true) :
    Calls Tryz.prog 72 #[.pointer (some ⟨b, 0, none⟩), .pointer (some ⟨xb, off, none⟩)] w fun e w' => e = .returned (.tuple #[]) ∧ w'.heap[b]? = some (.cells (entC (doneR r) ds) 80 (0, 0)) ∧ w'.heap[xb]? = some (.cells (put4 c off ds) 85 (0, 0)) ∧ Kept (fun k => k = b ∨ k = xb) w w' := by
  have hbx : b ≠ xb := fun e => by rw [e, hx] at h; simp at h
  have x2 : w.cell? ⟨b, 2, none⟩ = some (.bool true) := by simp [World.cell?, h, entC, hw]
  obtain ⟨x3, x4, x5, x6⟩ := ent_data h
  have x9 : w.cell? ⟨b, 9, none⟩ = some (.int .i64 r.state) := by simp [World.cell?, h, entC]
  have f9 : w.frozen? ⟨b, 9, none⟩ = false := by simp [World.frozen?, h]
  have hcell : ∀ j, j < 4 → ∃ v, w.cell? ⟨xb, off + j, none⟩ = some v ∧ w.frozen? ⟨xb, off + j, none⟩ = false := fun j hj => ⟨c[off + j]'(by omega), by simp [World.cell?, hx, show off + j < c.size by omega], by simp [World.frozen?, hx]⟩
  obtain ⟨v0, y0, z0⟩ := hcell 0 (by omega)
  obtain ⟨v1, y1, z1⟩ := hcell 1 (by omega)
  obtain ⟨v2, y2, z2⟩ := hcell 2 (by omega)
  obtain ⟨v3, y3, z3⟩ := hcell 3 (by omega)
  rw [Nat.add_zero] at y0 z0
  have H := hide h
  have HX := hide hx
  clear h hx hcell hc
  unfold put4 doneR
  have e3 : ∀ j, ∃ v, u8 (ds.getD j 0) = .int .u8 v := fun j => ⟨_, rfl⟩
  obtain ⟨a0, ha0⟩ := e3 0
  obtain ⟨a1, ha1⟩ := e3 1
  obtain ⟨a2, ha2⟩ := e3 2
  obtain ⟨a3, ha3⟩ := e3 3
  rw [ha0] at x3 ⊢
  rw [ha1] at x4 ⊢
  rw [ha2] at x5 ⊢
  rw [ha3] at x6 ⊢
  clear ha0 ha1 ha2 ha3 e3
  by_cases h4 : r.state = 4
  · have b4 : (r.state != 4) = false := by simp [h4]
    rw [if_pos h4]
    clear h4
    go_enter Tryz.func72, Tryz.ntmps72
    go_wp2
    go_end0
    refine ⟨rfl, ?_, ?_, ((((Kept.refl (fun k => k = b ∨ k = xb) _).setCell (p := ⟨xb, off, none⟩) (Or.inl (Or.inr rfl)) _).setCell (p := ⟨xb, off + 1, none⟩) (Or.inl (Or.inr rfl)) _).setCell (p := ⟨xb, off + 2, none⟩) (Or.inl (Or.inr rfl)) _).setCell (p := ⟨xb, off + 3, none⟩) (Or.inl (Or.inr rfl)) _⟩
    · rw [Below.heap_setCell _ _ _ _ hbx, Below.heap_setCell _ _ _ _ hbx, Below.heap_setCell _ _ _ _ hbx, Below.heap_setCell _ _ _ _ hbx]; exact H.out
    · rw [heap_setCell_at (heap_setCell_at (heap_setCell_at (heap_setCell_at HX.out _) _) _) _]
  · have b4 : (r.state != 4) = true := by simp [h4]
    rw [if_neg h4]
    clear h4
    go_enter Tryz.func72, Tryz.ntmps72
    go_wp2
    go_end0
    have hb4 : ((((w.setCell ⟨xb, off, none⟩ (.int .u8 a0)).setCell ⟨xb, off + 1, none⟩ (.int .u8 a1)).setCell ⟨xb, off + 2, none⟩ (.int .u8 a2)).setCell ⟨xb, off + 3, none⟩ (.int .u8 a3)).heap[b]? = some (.cells (entC r ds) 80 (0, 0)) := by
      rw [Below.heap_setCell _ _ _ _ hbx, Below.heap_setCell _ _ _ _ hbx, Below.heap_setCell _ _ _ _ hbx, Below.heap_setCell _ _ _ _ hbx]; exact H.out
    refine ⟨rfl, by rw [heap_setCell_at hb4]; rfl, ?_, (((((Kept.refl (fun k => k = b ∨ k = xb) _).setCell (p := ⟨xb, off, none⟩) (Or.inl (Or.inr rfl)) _).setCell (p := ⟨xb, off + 1, none⟩) (Or.inl (Or.inr rfl)) _).setCell (p := ⟨xb, off + 2, none⟩) (Or.inl (Or.inr rfl)) _).setCell (p := ⟨xb, off + 3, none⟩) (Or.inl (Or.inr rfl)) _).setCell (p := ⟨b, 9, none⟩) (Or.inl (Or.inl rfl)) _⟩
    rw [Below.heap_setCell _ _ _ _ (fun e => hbx e.symm), heap_setCell_at (heap_setCell_at (heap_setCell_at (heap_setCell_at HX.out _) _) _) _]
set_option maxHeartbeats 1000000 in
theorem entry_succeed_r (b xb off : Nat) (r : Rq) (ds es : List UInt8) (c : Array Value) (w : World) (h : w.heap[b]? = some (.cells (entC r ds) 80 (0, 0))) (hx : w.heap[xb]? = some (.cells c 85 (0, 0))) (hc : ∀ j, j < 4 → c[off + j]? = some (u8 (es.getD j 0))) (hw : r.write = false) :
    Calls Tryz.prog 72 #[.pointer (some ⟨b, 0, none⟩), .pointer (some ⟨xb, off, none⟩)] w fun e w' => e = .returned (.tuple #[]) ∧ w'.heap[b]? = some (.cells (entC (doneR r) es) 80 (0, 0)) ∧ Kept (fun k => k = b) w w' := by
  have hbx : b ≠ xb := fun e => by rw [e, hx] at h; simp at h
  have x2 : w.cell? ⟨b, 2, none⟩ = some (.bool false) := by simp [World.cell?, h, entC, hw]
  obtain ⟨x3, x4, x5, x6⟩ := ent_data h
  have x9 : w.cell? ⟨b, 9, none⟩ = some (.int .i64 r.state) := by simp [World.cell?, h, entC]
  have fz : ∀ j, w.frozen? ⟨b, j, none⟩ = false := fun j => by simp [World.frozen?, h]
  have f3 := fz 3
  have f4 := fz 4
  have f5 := fz 5
  have f6 := fz 6
  have f9 := fz 9
  have hcell : ∀ j, j < 4 → w.cell? ⟨xb, off + j, none⟩ = some (u8 (es.getD j 0)) := fun j hj => by simp [World.cell?, hx, hc j hj]
  have y0 := hcell 0 (by omega)
  have y1 := hcell 1 (by omega)
  have y2 := hcell 2 (by omega)
  have y3 := hcell 3 (by omega)
  rw [Nat.add_zero] at y0
  have H := hide h
  have HE : Hid (∀ r', entC r' es = #[.int .i64 r'.num, .int .i64 r'.page, .bool r'.write, u8 (es.getD 0 0), u8 (es.getD 1 0), u8 (es.getD 2 0), u8 (es.getD 3 0), .int .i64 r'.tries, .int .i64 r'.after, .int .i64 r'.state]) := fun _ => rfl
  clear h hx hcell hc fz
  unfold doneR
  have e3 : ∀ j, ∃ v, u8 (es.getD j 0) = .int .u8 v := fun j => ⟨_, rfl⟩
  obtain ⟨a0, ha0⟩ := e3 0
  obtain ⟨a1, ha1⟩ := e3 1
  obtain ⟨a2, ha2⟩ := e3 2
  obtain ⟨a3, ha3⟩ := e3 3
  rw [ha0, ha1, ha2, ha3] at HE
  rw [ha0] at y0
  rw [ha1] at y1
  rw [ha2] at y2
  rw [ha3] at y3
  rw [HE.out]
  clear ha0 ha1 ha2 ha3 e3 HE
  have H4 := hide (heap_setCell_at (j := 6) (heap_setCell_at (j := 5) (heap_setCell_at (j := 4) (heap_setCell_at (j := 3) H.out (.int .u8 a0)) (.int .u8 a1)) (.int .u8 a2)) (.int .u8 a3))
  have K4 := hide (((((Kept.refl (fun k => k = b) w).setCell (p := ⟨b, 3, none⟩) (Or.inl rfl) (.int .u8 a0)).setCell (p := ⟨b, 4, none⟩) (Or.inl rfl) (.int .u8 a1)).setCell (p := ⟨b, 5, none⟩) (Or.inl rfl) (.int .u8 a2)).setCell (p := ⟨b, 6, none⟩) (Or.inl rfl) (.int .u8 a3))
  by_cases h4 : r.state = 4
  · have b4 : (r.state != 4) = false := by simp [h4]
    rw [if_pos h4]
    clear h4
    go_enter Tryz.func72, Tryz.ntmps72
    go_wp2
    go_end0
    exact ⟨rfl, by rw [H4.out]; rfl, K4.out⟩
  · have b4 : (r.state != 4) = true := by simp [h4]
    rw [if_neg h4]
    clear h4
    go_enter Tryz.func72, Tryz.ntmps72
    go_wp2
    go_end0
    exact ⟨rfl, by rw [heap_setCell_at H4.out]; rfl, K4.out.setCell (p := ⟨b, 9, none⟩) (Or.inl rfl) _⟩
end Go.Proofs.YtiabdbeejkadnabGreatDoor

/- The program's queue (stage 2's code): what a command's end does to the queue. Own work of the verifier. -/
namespace Go.Proofs.YtiabdbeejkadnabGreatDoor
open Go.RowKit Go.Maps Go.Sort Go.Shelf

theorem zip_erase {α β : Type} (l : List α) (m : List β) (k : Nat) : (l.eraseIdx k).zip (m.eraseIdx k) = (l.zip m).eraseIdx k := by
  induction l generalizing m k with
  | nil => simp
  | cons a l ih =>
    cases m with
    | nil => simp
    | cons b m =>
      cases k with
      | zero => simp
      | succ k => simp [ih]
section
variable {w w' : World} {F : Nat → Prop} {xb : Nat} {S : St} {E : List Int} {bm : Nat} {D : DataW Unit} {eb : Int → Nat} {c c' : Array Value} {af : Option Addr} {cf : Nat} {vs : List (Option Addr × Nat)} {n : Int} {k : Nat} {fault : Bool} {ds' : List UInt8}
theorem ProgBlk.tried (h : ProgBlk w F xb S (n :: E) bm D eb c af cf vs) (hk : k < S.reqs.length) (hf : findR S.reqs n = some k) (hn : (S.reqs[k]).num = n)
    (hxb : w'.heap[xb]? = some (.cells c' 85 (0, 0))) (hsz : c'.size = 70) (hsc : ∀ j, j < 6 → c'[j]? = c[j]?) (hcd : ∀ j, j < 64 → c'[6 + j]? = some (u8 ((diskM S k fault).getD j 0)))
    (he : w'.heap[eb n]? = some (.cells (entC (triedR S fault (S.reqs[k])) ds') 80 (0, 0))) (hd : DataOk (triedR S fault (S.reqs[k])) ds') (hs : ∀ b, b < w.heap.size → b ≠ xb → b ≠ eb n → w'.heap[b]? = w.heap[b]?) (hz : w.heap.size ≤ w'.heap.size) :
    ProgBlk w' F xb (triedM S n fault) E bm D eb c' af cf vs := by
  have hwf := h.wf.tried fault
  have hen : eb n ≠ xb := fun e => by rw [e, hxb] at he; simp at he
  obtain ⟨ds0, _, hold⟩ := h.e.ent _ (List.getElem_mem hk)
  rw [hn] at hold
  have hbm : w'.heap[bm]? = w.heap[bm]? := hs bm (h.ltF _ h.ownM) (h.bmNe h.blk) (h.bmNe hold)
  have hfl : LPart w' F eb S.flights af cf vs := h.l.same fun b cs t hb ht _ => hs b (lt_of_heap hb) (fun e => by subst e; rw [h.blk] at hb; simp at hb; rcases ht with rfl | rfl <;> exact absurd hb.2 (by decide)) (fun e => by subst e; rw [hold] at hb; simp at hb; rcases ht with rfl | rfl <;> exact absurd hb.2 (by decide))
  have hent : ∀ r ∈ S.reqs, r.num ≠ n → w'.heap[eb r.num]? = w.heap[eb r.num]? := fun r hr hne => hs _ (h.ltF _ (h.e.entF r hr)) (h.ebNe hr h.blk (by decide)) (fun e => hne (by have := h.e.inj r hr _ (List.getElem_mem hk) (by rw [hn]; exact e); rw [this, hn]))
  have hq : QPart c' { S with disk := diskM S k fault } bm af cf := ⟨hsz, (hsc 0 (by omega)).trans h.q.c0, (hsc 1 (by omega)).trans h.q.c1, (hsc 2 (by omega)).trans h.q.c2, (hsc 3 (by omega)).trans h.q.c3, (hsc 4 (by omega)).trans h.q.c4, (hsc 5 (by omega)).trans h.q.c5, hcd⟩
  have hm := h.m.same hbm
  cases ht : toldHas S.told n with
  | true =>
    rw [triedM_told hf ht] at hwf ⊢
    have htm : n ∈ S.told := by simpa [toldHas] using ht
    have hul := untold_len h.wf.toldNd htm
    have hme : ∀ r, r ∈ S.reqs.eraseIdx k → r ∈ S.reqs ∧ r.num ≠ n := fun r hr => by have := (mem_erase h.wf.sorted hk r).1 hr; rw [hn] at this; exact this
    refine ⟨h.own, hxb, ⟨hq.size, hq.c0, hq.c1, hq.c2, hq.c3, hq.c4, hq.c5, hq.cd⟩, h.ownM, ⟨hm.map, ?_, fun m => ?_, fun r hr hrt => ?_⟩, ⟨fun r hr => h.e.entF r (hme r hr).1, fun r hr => ?_, fun r hr r' hr' => h.e.inj r (hme r hr).1 r' (hme r' hr').1⟩, hfl, fun j hj => Nat.lt_of_lt_of_le (h.ltF j hj) hz, hwf⟩
    · have := hm.msize
      show _ + (untold S.told n).length = (S.reqs.eraseIdx k).length
      rw [List.length_eraseIdx, if_pos hk]; omega
    · rw [hm.has]
      unfold heldB
      show _ = ((findR (S.reqs.eraseIdx k) m).isSome && !toldHas (untold S.told n) m)
      rw [findR_erase h.wf.sorted hk, hn]
      by_cases hmn : m = n
      · have e0 : (m != n) = false := by simp [hmn]
        have e2 : toldHas S.told m = true := by rw [hmn]; exact ht
        rw [e0, e2, Bool.and_false, Bool.false_and, Bool.not_true, Bool.and_false]
      · have e1 : toldHas (untold S.told n) m = toldHas S.told m := by
          rw [Bool.eq_iff_iff]
          simp only [toldHas, List.contains_eq_mem, decide_eq_true_eq, untold_mem]
          exact ⟨fun e => e.1, fun e => ⟨e, hmn⟩⟩
        have e0 : (m != n) = true := by simpa using hmn
        rw [e1, e0, Bool.and_true]
    · obtain ⟨h1, h2⟩ := hme r hr
      refine hm.at_ r h1 ?_
      cases hx : toldHas S.told r.num with
      | false => rfl
      | true =>
        have : toldHas (untold S.told n) r.num = true := toldHas_mem ((untold_mem _ _ _).2 ⟨by simpa [toldHas] using hx, h2⟩)
        have hrt : toldHas (untold S.told n) r.num = false := hrt
        rw [this] at hrt; cases hrt
    · obtain ⟨h1, h2⟩ := hme r hr
      obtain ⟨ds, h3, h4⟩ := h.e.ent r h1
      exact ⟨ds, h3, (hent r h1 h2).trans h4⟩
  | false =>
    rw [triedM_not hf ht, getD_of hk] at hwf ⊢
    have hin : ∀ r ∈ S.reqs.set k (triedR S fault (S.reqs[k])), ∃ r' ∈ S.reqs, r'.num = r.num := fun r hr => by
      rcases mem_setR h.wf.sorted hk _ r hr with rfl | ⟨hr, _⟩
      · exact ⟨S.reqs[k], List.getElem_mem _, rfl⟩
      · exact ⟨r, hr, rfl⟩
    refine ⟨h.own, hxb, ⟨hq.size, hq.c0, hq.c1, hq.c2, hq.c3, hq.c4, hq.c5, hq.cd⟩, h.ownM, ⟨hm.map, ?_, fun m => ?_, fun r hr hrt => ?_⟩, ⟨fun r hr => ?_, fun r hr => ?_, fun r hr r' hr' e => ?_⟩, hfl, fun j hj => Nat.lt_of_lt_of_le (h.ltF j hj) hz, hwf⟩
    · show _ = (S.reqs.set k _).length
      rw [List.length_set]; exact hm.msize
    · rw [hm.has]; unfold heldB
      show _ = ((findR (S.reqs.set k _) m).isSome && _)
      rw [findR_nums (nums_setR S.reqs k (triedR S fault (S.reqs[k])) hk rfl)]
    · obtain ⟨r', hr', e⟩ := hin r hr
      have hrt : toldHas S.told r.num = false := hrt
      rw [← e] at hrt ⊢; exact hm.at_ r' hr' hrt
    · obtain ⟨r', hr', e⟩ := hin r hr
      rw [← e]; exact h.e.entF r' hr'
    · rcases mem_setR h.wf.sorted hk _ r hr with rfl | ⟨hr, hne⟩
      · refine ⟨ds', hd, ?_⟩
        show w'.heap[eb (S.reqs[k]).num]? = _
        rw [hn]; exact he
      · rw [hn] at hne
        obtain ⟨ds, h3, h4⟩ := h.e.ent r hr
        exact ⟨ds, h3, (hent r hr hne).trans h4⟩
    · obtain ⟨a, ha, ea⟩ := hin r hr
      obtain ⟨b, hb, eb'⟩ := hin r' hr'
      rw [← ea, ← eb'] at e ⊢
      exact h.e.inj a ha b hb e
/-- a command is no longer under way: the row of commands behind the delete, and the store of it -/
theorem ProgBlk.lifted {w2 : World} {g : Nat} (h : ProgBlk w F xb S [] bm D eb c (some ⟨g, 0, none⟩) cf vs) (hk : k < S.flights.length) (hs : ∀ b, b < w.heap.size → b ≠ g → w2.heap[b]? = w.heap[b]?) (hz : w.heap.size ≤ w2.heap.size)
    (hrow : Row w2 F 73 1 (some ⟨g, 0, none⟩) (S.flights.length - 1) cf (((S.flights.eraseIdx k).zip (vs.eraseIdx k)).map fun x => Value.slice x.2.1 x.1.requests.length x.2.2)) :
    ProgBlk (w2.setCell ⟨xb, 4, none⟩ (.slice (some ⟨g, 0, none⟩) (S.flights.length - 1) cf)) F xb { S with flights := S.flights.eraseIdx k } (S.flights[k]).requests bm D eb (c.setIfInBounds 4 (.slice (some ⟨g, 0, none⟩) (S.flights.length - 1) cf)) (some ⟨g, 0, none⟩) cf (vs.eraseIdx k) := by
  have hgx : xb ≠ g := fun e => (h.l.row.ne h.blk (by decide)) _ rfl e.symm
  have hxb : w2.heap[xb]? = w.heap[xb]? := hs xb h.lt hgx
  have hblk2 := hxb.trans h.blk
  have hsz := h.q.size
  have hlen : (S.flights.eraseIdx k).length = S.flights.length - 1 := by rw [List.length_eraseIdx, if_pos hk]
  have hother : ∀ b cs t, w.heap[b]? = some (Obj.cells cs t (0, 0)) → t ≠ 73 → t ≠ 85 → (w2.setCell ⟨xb, 4, none⟩ (.slice (some ⟨g, 0, none⟩) (S.flights.length - 1) cf)).heap[b]? = w.heap[b]? := fun b cs t hb h1 h2 => by
    rw [Below.heap_setCell _ _ _ _ (fun e => by have e' : b = xb := e; rw [e', h.blk] at hb; simp at hb; exact h2 hb.2.symm)]
    exact hs b (lt_of_heap hb) (fun e => (h.l.row.ne hb (fun e' => h1 e'.symm)) _ rfl e.symm)
  refine ⟨h.own, heap_setCell_at hblk2 _, ⟨by simpa using hsz, ?_, ?_, ?_, ?_, ?_, ?_, ?_⟩, h.ownM, ?_, ?_, ⟨?_, ?_, ?_⟩, fun j hj => by have := h.ltF j hj; simp [World.setCell]; omega, h.wf.lift hk⟩
  · rw [Array.getElem?_setIfInBounds, if_neg (by decide)]; exact h.q.c0
  · rw [Array.getElem?_setIfInBounds, if_neg (by decide)]; exact h.q.c1
  · rw [Array.getElem?_setIfInBounds, if_neg (by decide)]; exact h.q.c2
  · rw [Array.getElem?_setIfInBounds, if_neg (by decide)]; exact h.q.c3
  · rw [Array.getElem?_setIfInBounds, if_pos rfl, if_pos (by omega)]
    show _ = some (Value.slice _ (S.flights.eraseIdx k).length cf)
    rw [hlen]
  · rw [Array.getElem?_setIfInBounds, if_neg (by decide)]; exact h.q.c5
  · intro j hj
    rw [Array.getElem?_setIfInBounds, if_neg (by omega)]; exact h.q.cd j hj
  · have hb : (w2.setCell ⟨xb, 4, none⟩ (.slice (some ⟨g, 0, none⟩) (S.flights.length - 1) cf)).heap[bm]? = w.heap[bm]? := by
      rw [Below.heap_setCell _ _ _ _ (h.bmNe h.blk)]
      obtain ⟨cur, hh, _⟩ := h.l.row.block rfl
      exact hs bm (h.ltF _ h.ownM) (h.bmNe hh)
    have := h.m.same hb
    exact ⟨this.map, this.msize, this.has, this.at_⟩
  · exact h.e.same fun r hr => by obtain ⟨ds, _, he⟩ := h.e.ent r hr; exact hother _ _ _ he (by decide) (by decide)
  · show (vs.eraseIdx k).length = (S.flights.eraseIdx k).length
    rw [List.length_eraseIdx, List.length_eraseIdx, h.l.len]
  · show Row _ F _ 1 _ (S.flights.eraseIdx k).length cf _
    rw [hlen]
    exact hrow.setCell_other (hrow.ne hblk2 (by decide)) _
  · intro x hx
    have hx' : x ∈ S.flights.zip vs := by
      have e : (S.flights.eraseIdx k).zip (vs.eraseIdx k) = (S.flights.zip vs).eraseIdx k := by
        exact zip_erase _ _ _
      have hx : x ∈ (S.flights.eraseIdx k).zip (vs.eraseIdx k) := hx
      rw [e] at hx
      exact List.mem_of_mem_eraseIdx hx
    have := h.l.ins x hx'
    exact this.same fun a ha => by obtain ⟨cur, hh, _⟩ := this.block ha; exact hother _ _ _ hh (by decide) (by decide)
end
end Go.Proofs.YtiabdbeejkadnabGreatDoor
