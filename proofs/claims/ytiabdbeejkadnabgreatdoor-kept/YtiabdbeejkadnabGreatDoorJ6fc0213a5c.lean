import Derived.Test.YtiabdbeejkadnabGreatDoorJd1b6b6dd4f
/- The program's queue (stage 2's code): Complete. Own work of the verifier. -/
namespace Go.Proofs.YtiabdbeejkadnabGreatDoor
open Go.RowKit Go.Maps Go.Sort Go.Shelf

def enc3 (x : Option Addr × Nat × Nat) : Value := .slice x.1 x.2.1 x.2.2
def rows3 (fl : List Cmd) (vs : List (Option Addr × Nat)) : List (Option Addr × Nat × Nat) := (fl.zip vs).map fun x => (x.2.1, x.1.requests.length, x.2.2)
theorem rows3_enc (fl : List Cmd) (vs : List (Option Addr × Nat)) : (rows3 fl vs).map enc3 = (fl.zip vs).map fun x => Value.slice x.2.1 x.1.requests.length x.2.2 := by
  unfold rows3; rw [List.map_map]; rfl
theorem sl_delete (F : Nat → Prop) (eb : Int → Nat) (fl : List Cmd) (vs : List (Option Addr × Nat)) (g cf k : Nat) (w : World) (h : LPart w F eb fl (some ⟨g, 0, none⟩) cf vs) (hk : k < fl.length) :
    Calls Tryz.prog 59 #[.slice (some ⟨g, 0, none⟩) fl.length cf, .int .i64 (k : Int), .int .i64 ((k : Int) + 1)] w fun e w' => e = .returned (.slice (some ⟨g, 0, none⟩) (fl.length - 1) cf) ∧ Row w' F 73 1 (some ⟨g, 0, none⟩) (fl.length - 1) cf (((fl.eraseIdx k).zip (vs.eraseIdx k)).map fun x => Value.slice x.2.1 x.1.requests.length x.2.2) ∧ Kept (fun b => b = g) w w' := by
  obtain ⟨i0, hi, hi0, hi1, hi2⟩ := info_parts info_fl
  rcases h.row.1.2 with ⟨h0, _⟩ | ⟨g', cap', cur, hv, _, hh, h1, h2, h3, h4⟩
  · cases h0
  cases hv
  have hl : (rows3 fl vs).length = fl.length := by unfold rows3; rw [List.length_map, List.length_zip, h.len, Nat.min_self]
  have hH : Holds enc3 w g 0 (rows3 fl vs).toArray := holds_of_blk enc3 hh (by rw [hl, rows3_enc]; rw [Nat.mul_one] at h4; exact h4)
  have hx := AnyE.slices_Delete Tryz.delF enc3 (fun _ => rfl) (none, 0, 0) Tryz.zeroValue73 i0 hi hi1 g 0 cf k (k + 1) (rows3 fl vs).toArray w hH (by rw [List.size_toArray, hl]; exact h1) (by unfold maxLen at h2; omega) (by omega) (by rw [List.size_toArray, hl]; omega)
  change Calls Tryz.prog 59 _ _ _ at hx
  rw [List.size_toArray, hl] at hx
  have ec : ((k + 1 : Nat) : Int) = (k : Int) + 1 := by omega
  rw [ec] at hx
  refine hx.mono ?_
  rintro e w' ⟨rfl, q, hw⟩
  have e1 : k + 1 - k = 1 := by omega
  rw [e1] at hw ⊢
  have hw' : w' = sortWorld enc3 w g 0 q ((rows3 fl vs).take k ++ (rows3 fl vs).drop (k + 1) ++ List.replicate 1 (none, 0, 0)).toArray #[] := by rw [hw]; unfold sortWorld; rw [grow_empty]
  have hgb := heap_put enc3 (n := q) (os := #[]) ((rows3 fl vs).take k ++ (rows3 fl vs).drop (k + 1) ++ List.replicate 1 (none, 0, 0)).toArray hh
  have hgr := grownBy_put enc3 (w := w) (g := g) (n := q) (os := #[]) ((rows3 fl vs).take k ++ (rows3 fl vs).drop (k + 1) ++ List.replicate 1 (none, 0, 0)).toArray
  rw [← hw'] at hgb hgr
  have hlen : ((rows3 fl vs).take k ++ (rows3 fl vs).drop (k + 1) ++ List.replicate 1 (none, 0, 0)).length = fl.length := by
    rw [List.length_append, List.length_append, List.length_take, List.length_drop, hl]; simp; omega
  have hlen2 : ((rows3 fl vs).take k ++ (rows3 fl vs).drop (k + 1)).length = fl.length - 1 := by
    rw [List.length_append, List.length_take, List.length_drop, hl]; omega
  have ht := take_put enc3 cur ((rows3 fl vs).take k ++ (rows3 fl vs).drop (k + 1) ++ List.replicate 1 (none, 0, 0)) (by rw [hlen]; omega)
  have her : (rows3 fl vs).take k ++ (rows3 fl vs).drop (k + 1) = rows3 (fl.eraseIdx k) (vs.eraseIdx k) := by
    rw [← List.eraseIdx_eq_take_drop_succ]
    unfold rows3
    rw [zip_erase, List.eraseIdx_eq_take_drop_succ, List.eraseIdx_eq_take_drop_succ, List.map_append, List.map_take, List.map_drop]
  refine ⟨rfl, ⟨⟨?_, Or.inr ⟨g, cf, _, rfl, Nat.zero_le _, hgb, by omega, h2, by simp [putCells, h3], ?_⟩⟩, h.row.2⟩, (Kept.refl (fun b => b = g) w).grown hgr (fun j hj => by cases hj; exact Or.inl rfl)⟩
  · rw [← rows3_enc, ← her, List.length_map, hlen2, Nat.mul_one]
  · rw [Nat.mul_one, ← rows3_enc, ← her]
    rw [hlen] at ht
    have e2 : (fl.length - 1) ≤ fl.length := by omega
    have := congrArg (List.take (fl.length - 1)) ht
    rw [List.take_take, Nat.min_eq_left e2, List.map_append, List.take_append_of_le_length (by rw [List.length_map, hlen2]; exact Nat.le_refl _)] at this
    have e3 : (List.map enc3 ((rows3 fl vs).take k ++ (rows3 fl vs).drop (k + 1))).take (fl.length - 1) = List.map enc3 ((rows3 fl vs).take k ++ (rows3 fl vs).drop (k + 1)) := List.take_of_length_le (by rw [List.length_map, hlen2]; exact Nat.le_refl _)
    rw [e3] at this
    exact this
theorem ent_tried_miss (S : St) (r : Rq) (ds : List UInt8) (h14 : r.state = 1 ∨ r.state = 4) (_ht : 0 ≤ r.tries ∧ r.tries ≤ 3) : entC (missR S.now { r with tries := r.tries + 1 }) ds = entC (triedR S true r) ds := by
  unfold missR triedR entC
  rcases h14 with h | h
  · simp only [h]
    by_cases h4 : r.tries + 1 = 4
    · simp [h4]
    · simp [h4]
  · simp [h]
theorem ent_tried_done (S : St) (r : Rq) (ds : List UInt8) (h14 : r.state = 1 ∨ r.state = 4) : entC (doneR { r with tries := r.tries + 1 }) ds = entC (triedR S false r) ds := by
  unfold doneR triedR entC
  rcases h14 with h | h
  · simp [h]
  · simp [h]

theorem prog_complete_no (S : St) (F : Nat → Prop) (xb : Nat) (kk : Int) (fault : Bool) (w : World) (h : ProgAt w F xb S) (hk : kk < 0 ∨ (S.flights.length : Int) ≤ kk) :
    Calls Tryz.prog 31 #[.pointer (some ⟨xb, 0, none⟩), .int .i64 kk, .bool fault] w fun e w' => e = .returned (errOf 10) ∧ ProgAt w' F xb S ∧ Kept F w w' := by
  have H := hide h
  obtain ⟨bm, D, eb, c, af, cf, vs, h⟩ := h
  have d4 := h.cell 4 _ h.q.c4
  clear h
  by_cases h0 : kk < 0
  · clear hk
    go_enter Tryz.func31, Tryz.ntmps31
    go_wp2_with fail
    refine (orEmpty_some _ _).mono ?_
    rintro e w1 ⟨rfl, hw⟩
    have hw := hw.symm
    subst hw
    go_wp2
    go_ret
    exact ⟨rfl, H.out, Kept.refl F w⟩
  · have h1 : (S.flights.length : Int) ≤ kk := hk.elim (fun e => absurd e h0) id
    clear hk
    go_enter Tryz.func31, Tryz.ntmps31
    go_wp2_with fail
    refine (orEmpty_some _ _).mono ?_
    rintro e w1 ⟨rfl, hw⟩
    have hw := hw.symm
    subst hw
    go_wp2
    go_ret
    exact ⟨rfl, H.out, Kept.refl F w⟩

theorem disk_set {c : Array Value} {D : List UInt8} (hc : c.size = 70) (hD : D.length = 64) (h : ∀ j, j < 64 → c[6 + j]? = some (u8 (D.getD j 0))) (b : Nat) (hb : b < 64) (v : UInt8) :
    (c.setIfInBounds (6 + b) (u8 v)).size = 70 ∧ (D.set b v).length = 64 ∧ (∀ j, j < 64 → (c.setIfInBounds (6 + b) (u8 v))[6 + j]? = some (u8 ((D.set b v).getD j 0))) := by
  refine ⟨by simpa using hc, by simpa using hD, fun j hj => ?_⟩
  rw [Array.getElem?_setIfInBounds]
  by_cases e : b = j
  · subst e
    rw [if_pos rfl, if_pos (by omega), List.getD_eq_getElem?_getD, List.getElem?_set, if_pos rfl, if_pos (by omega)]; rfl
  · rw [if_neg (by omega), h j hj, List.getD_eq_getElem?_getD, List.getD_eq_getElem?_getD, List.getElem?_set, if_neg e]
theorem disk_put {c : Array Value} {D : List UInt8} (hc : c.size = 70) (hD : D.length = 64) (h : ∀ j, j < 64 → c[6 + j]? = some (u8 (D.getD j 0))) (b : Nat) (hb : b + 4 ≤ 64) (ds : List UInt8) :
    (put4 c (6 + b) ds).size = 70 ∧ (∀ j, j < 64 → (put4 c (6 + b) ds)[6 + j]? = some (u8 ((putM D b ds).getD j 0))) ∧ ∀ j, j < 6 → (put4 c (6 + b) ds)[j]? = c[j]? := by
  obtain ⟨a1, a2, a3⟩ := disk_set hc hD h b (by omega) (ds.getD 0 0)
  obtain ⟨b1, b2, b3⟩ := disk_set a1 a2 a3 (b + 1) (by omega) (ds.getD 1 0)
  obtain ⟨c1, c2, c3⟩ := disk_set b1 b2 b3 (b + 2) (by omega) (ds.getD 2 0)
  obtain ⟨d1, _, d3⟩ := disk_set c1 c2 c3 (b + 3) (by omega) (ds.getD 3 0)
  refine ⟨d1, d3, fun j hj => ?_⟩
  unfold put4
  rw [Array.getElem?_setIfInBounds, if_neg (by omega), Array.getElem?_setIfInBounds, if_neg (by omega), Array.getElem?_setIfInBounds, if_neg (by omega), Array.getElem?_setIfInBounds, if_neg (by omega)]
theorem ent_page {W : World} {b : Nat} {r : Rq} {ds : List UInt8} {pn : Nat} (h : W.heap[b]? = some (.cells (entC (doneR { r with tries := r.tries + 1 }) ds) 80 (0, 0))) (hp : r.page = pn) : W.cell? ⟨b, 1, none⟩ = some (.int .i64 (pn : Int)) := by
  have e : (doneR { r with tries := r.tries + 1 }).page = pn := by rw [← hp]; unfold doneR; split <;> rfl
  simp [World.cell?, h, entC, e]
section
variable {w w2 : World} {F : Nat → Prop} {xb : Nat} {S : St} {E : List Int} {bm : Nat} {D : DataW Unit} {eb : Int → Nat} {c : Array Value} {af : Option Addr} {cf : Nat} {vs : List (Option Addr × Nat)} {n : Int} {k : Nat} {ds : List UInt8} {v : Value}
theorem ProgBlk.missed (h : ProgBlk w F xb S (n :: E) bm D eb c af cf vs) (hk : k < S.reqs.length) (hf : findR S.reqs n = some k) (hn : (S.reqs[k]).num = n) (hi : (S.reqs[k]).inAir = true) (hd : DataOk (S.reqs[k]) ds)
    (h2 : w2.heap[eb n]? = some (.cells (entC (missR S.now { S.reqs[k] with tries := (S.reqs[k]).tries + 1 }) ds) 80 (0, 0))) (hK : Kept (fun b => b = eb n) (w.setCell ⟨eb n, 7, none⟩ v) w2) :
    ProgBlk w2 F xb (triedM S n true) E bm D eb c af cf vs ∧ Kept F w w2 := by
  have ho := h.wf.rq _ (List.getElem_mem hk)
  have h14 := ho.air14 hi
  have h3 := ho.tries3 (Or.inr hi)
  have hF := h.e.entF _ (List.getElem_mem hk)
  rw [hn] at hF
  obtain ⟨_, _, hold⟩ := h.e.ent _ (List.getElem_mem hk)
  rw [hn] at hold
  have hen : xb ≠ eb n := fun e => by rw [← e, h.blk] at hold; simp at hold
  have hK2 : Kept (fun b => b = eb n) w w2 := ((Kept.refl (fun b => b = eb n) w).setCell (p := ⟨eb n, 7, none⟩) (Or.inl rfl) v).then hK
  rw [ent_tried_miss S _ ds h14 ⟨ho.tries.1, h3⟩] at h2
  refine ⟨h.tried hk hf hn (fault := true) ((hK2.block xb h.lt hen).trans h.blk) h.q.size (fun j _ => rfl) (fun j hj => ?_) h2 ?_ (fun b hb _ h2 => hK2.block b hb h2) hK2.size, hK2.mono fun b _ e => by rw [e]; exact hF⟩
  · rw [h.q.cd j hj]; unfold diskM; simp
  · refine ⟨hd.1, hd.2.1, fun hw hs => ?_⟩
    exfalso
    simp only [triedR] at hs
    rcases h14 with e | e
    · rw [if_pos e] at hs
      simp at hs
      split at hs <;> simp at hs
    · rw [if_neg (by omega)] at hs; omega
theorem ProgBlk.wrote (h : ProgBlk w F xb S (n :: E) bm D eb c af cf vs) (hk : k < S.reqs.length) (hf : findR S.reqs n = some k) (hn : (S.reqs[k]).num = n) (hi : (S.reqs[k]).inAir = true) (hw : (S.reqs[k]).write = true) (hd : DataOk (S.reqs[k]) ds)
    (h2 : w2.heap[eb n]? = some (.cells (entC (doneR { S.reqs[k] with tries := (S.reqs[k]).tries + 1 }) ds) 80 (0, 0))) (hx : w2.heap[xb]? = some (.cells (put4 c (6 + (4 * (S.reqs[k]).page).toNat) ds) 85 (0, 0))) (hK : Kept (fun b => b = eb n ∨ b = xb) (w.setCell ⟨eb n, 7, none⟩ v) w2) :
    ProgBlk w2 F xb (triedM S n false) E bm D eb (put4 c (6 + (4 * (S.reqs[k]).page).toNat) ds) af cf vs ∧ Kept F w w2 := by
  have ho := h.wf.rq _ (List.getElem_mem hk)
  have h14 := ho.air14 hi
  have hpg := ho.page
  have hF := h.e.entF _ (List.getElem_mem hk)
  rw [hn] at hF
  have hK2 : Kept (fun b => b = eb n ∨ b = xb) w w2 := ((Kept.refl (fun b => b = eb n ∨ b = xb) w).setCell (p := ⟨eb n, 7, none⟩) (Or.inl (Or.inl rfl)) v).then hK
  rw [ent_tried_done S _ ds h14] at h2
  obtain ⟨p1, p2, p3⟩ := disk_put h.q.size h.wf.disk h.q.cd (4 * (S.reqs[k]).page).toNat (by omega) ds
  refine ⟨h.tried hk hf hn (fault := false) hx p1 p3 (fun j hj => ?_) h2 ?_ (fun b hb h1 h2 => hK2.block b hb (fun e => e.elim h2 h1)) hK2.size, hK2.mono fun b _ e => e.elim (fun e => by rw [e]; exact hF) (fun e => by rw [e]; exact h.own)⟩
  · rw [p2 j hj]; unfold diskM; rw [getD_of hk, if_pos ⟨rfl, hw⟩, ← hd.2.1 hw]
  · exact ⟨hd.1, hd.2.1, fun e => by rw [show (triedR S false (S.reqs[k])).write = (S.reqs[k]).write from rfl, hw] at e; cases e⟩
theorem getD_take4 (D : List UInt8) (a j : Nat) (hj : j < 4) (_ha : a + 4 ≤ D.length) : ((D.drop a).take 4).getD j 0 = D.getD (a + j) 0 := by
  rw [List.getD_eq_getElem?_getD, List.getElem?_take, if_pos hj, List.getElem?_drop, List.getD_eq_getElem?_getD]
theorem ProgBlk.readIt (h : ProgBlk w F xb S (n :: E) bm D eb c af cf vs) (hk : k < S.reqs.length) (hf : findR S.reqs n = some k) (hn : (S.reqs[k]).num = n) (hi : (S.reqs[k]).inAir = true) (hw : (S.reqs[k]).write = false)
    (h2 : w2.heap[eb n]? = some (.cells (entC (doneR { S.reqs[k] with tries := (S.reqs[k]).tries + 1 }) ((S.disk.drop (4 * (S.reqs[k]).page).toNat).take 4)) 80 (0, 0))) (hK : Kept (fun b => b = eb n) (w.setCell ⟨eb n, 7, none⟩ v) w2) :
    ProgBlk w2 F xb (triedM S n false) E bm D eb c af cf vs ∧ Kept F w w2 := by
  have ho := h.wf.rq _ (List.getElem_mem hk)
  have h14 := ho.air14 hi
  have hpg := ho.page
  have hF := h.e.entF _ (List.getElem_mem hk)
  rw [hn] at hF
  obtain ⟨_, _, hold⟩ := h.e.ent _ (List.getElem_mem hk)
  rw [hn] at hold
  have hen : xb ≠ eb n := fun e => by rw [← e, h.blk] at hold; simp at hold
  have hK2 : Kept (fun b => b = eb n) w w2 := ((Kept.refl (fun b => b = eb n) w).setCell (p := ⟨eb n, 7, none⟩) (Or.inl rfl) v).then hK
  rw [ent_tried_done S _ _ h14] at h2
  refine ⟨h.tried hk hf hn (fault := false) ((hK2.block xb h.lt hen).trans h.blk) h.q.size (fun j _ => rfl) (fun j hj => ?_) h2 ?_ (fun b hb _ h2 => hK2.block b hb h2) hK2.size, hK2.mono fun b _ e => by rw [e]; exact hF⟩
  · rw [h.q.cd j hj]; unfold diskM; rw [getD_of hk, if_neg (by rw [hw]; simp)]
  · refine ⟨by rw [List.length_take, List.length_drop, h.wf.disk]; omega, fun e => ?_, fun _ _ => ?_⟩
    · rw [show (triedR S false (S.reqs[k])).write = (S.reqs[k]).write from rfl, hw] at e; cases e
    · simp [triedR, hw, getM]
end

set_option maxHeartbeats 4000000 in
set_option maxRecDepth 1000000 in
/-- land: the command's row of entries, and the queue without it -/
theorem prog_land {S : St} {F : Nat → Prop} {xb k bm : Nat} {D : DataW Unit} {eb : Int → Nat} {c : Array Value} {af : Option Addr} {cf : Nat} {vs : List (Option Addr × Nat)} (w : World) (h : ProgBlk w F xb S [] bm D eb c af cf vs) (hk : k < S.flights.length) :
    Calls Tryz.prog 39 #[.pointer (some ⟨xb, 0, none⟩), .int .i64 (k : Int)] w fun e w' => ∃ (g' vc : Nat) (c' : Array Value), e = .returned (.slice (some ⟨g', 0, none⟩) (S.flights[k]).requests.length vc) ∧ ProgBlk w' F xb { S with flights := S.flights.eraseIdx k } (S.flights[k]).requests bm D eb c' af cf (vs.eraseIdx k) ∧ Row w' F 75 1 (some ⟨g', 0, none⟩) (S.flights[k]).requests.length vc (encE eb (S.flights[k]).requests) ∧ Kept F w w' := by
  obtain ⟨g, cur, hg, hgF, hgb, hgc, _⟩ := Row.some h.l.row (by omega)
  subst hg
  have d4 := h.cell 4 _ h.q.c4
  have f4 := h.fz 4
  have ck := h.l.cell hk
  obtain ⟨g', hg', hgF', hgl', hin⟩ := h.l.inner hk (h.wf.fl _ (List.getElem_mem hk)).ne
  rw [hg'] at ck
  generalize (vs[k]'(by rw [h.l.len]; exact hk)).2 = vc at ck hin
  have HD := hide (sl_delete F eb S.flights vs g cf k w h.l hk)
  have hf4 : S.flights.length ≤ 4 := by have := h.wf.flLen; have := h.wf.depth; omega
  have HQ := hide h
  have HIN := hide hin
  have hxl := h.lt
  have HLF : Hid (∀ (w2 : World), (∀ b, b < w.heap.size → b ≠ g → w2.heap[b]? = w.heap[b]?) → w.heap.size ≤ w2.heap.size → Row w2 F 73 1 (some ⟨g, 0, none⟩) (S.flights.length - 1) cf (((S.flights.eraseIdx k).zip (vs.eraseIdx k)).map fun x => Value.slice x.2.1 x.1.requests.length x.2.2) → ProgBlk (w2.setCell ⟨xb, 4, none⟩ (.slice (some ⟨g, 0, none⟩) (S.flights.length - 1) cf)) F xb { S with flights := S.flights.eraseIdx k } (S.flights[k]).requests bm D eb (c.setIfInBounds 4 (.slice (some ⟨g, 0, none⟩) (S.flights.length - 1) cf)) (some ⟨g, 0, none⟩) cf (vs.eraseIdx k)) := fun w2 h1 h2 h3 => h.lifted hk h1 h2 h3
  have hkf : (k : Int) < S.flights.length := by omega
  clear h hin hg'
  generalize (S.flights[k]).requests = ns at *
  clear hk
  go_enter Tryz.func39, Tryz.ntmps39
  go_wp2_with fail
  refine HD.out.mono ?_
  rintro e w1 ⟨rfl, hrow, hK1⟩
  have hz1 := hK1.size
  have HLF1 := hide (HLF.out w1 (fun b hb hne => hK1.block b hb hne) hz1 hrow)
  have hgx : xb ≠ g := fun e => by subst e; exact (HQ.out.l.row.ne HQ.out.blk (by decide)) _ rfl rfl
  have q4 : w1.frozen? ⟨xb, 4, none⟩ = false := (World.frozen?_of_block (hK1.block xb hxl hgx)).trans f4
  have c4 : ∃ v, w1.cell? ⟨xb, 4, none⟩ = some v := ⟨_, (World.cell?_of_block (hK1.block xb hxl hgx)).trans d4⟩
  obtain ⟨v4, c4⟩ := c4
  have hgg : g' ≠ g := fun e => by subst e; obtain ⟨cu, hcu, _⟩ := HIN.out.block rfl; exact (HQ.out.l.row.ne hcu (by decide)) _ rfl rfl
  have hgx2 : g' ≠ xb := fun e => by subst e; exact (HIN.out.ne HQ.out.blk (by decide)) _ rfl rfl
  have HROW : Hid ((w1.setCell ⟨xb, 4, none⟩ (.slice (some ⟨g, 0, none⟩) (S.flights.length - 1) cf)).heap[g']? = w.heap[g']?) := (Below.heap_setCell _ _ _ _ hgx2).trans (hK1.block g' hgl' hgg)
  have HK1 : Hid (Kept F w (w1.setCell ⟨xb, 4, none⟩ (.slice (some ⟨g, 0, none⟩) (S.flights.length - 1) cf))) := (hK1.mono fun b _ e => by rw [e]; exact hgF).setCell (Or.inl HQ.out.own) _
  clear hrow hK1 HLF HD d4 f4 hgx
  go_wp2
  go_ret
  exact ⟨g', vc, _, rfl, HLF1.out, HIN.out.same fun a ha => by cases ha; exact HROW.out, HK1.out⟩

set_option maxHeartbeats 4000000 in
set_option maxRecDepth 1000000 in
/-- finish: the end of a try of each -/
theorem prog_finish {S1 : St} {F : Nat → Prop} {xb bm : Nat} {D : DataW Unit} {eb : Int → Nat} {cW : Array Value} {af : Option Addr} {cf : Nat} {vsW : List (Option Addr × Nat)} {ns : List Int} {g' vc : Nat} {fault : Bool} (w : World) (h : ProgBlk w F xb S1 ns bm D eb cW af cf vsW) (hrow : Row w F 75 1 (some ⟨g', 0, none⟩) ns.length vc (encE eb ns)) (hn : S1.now ≤ 1000000000) (hns : ns.length ≤ 1000000) :
    Calls Tryz.prog 54 #[.pointer (some ⟨xb, 0, none⟩), .slice (some ⟨g', 0, none⟩) ns.length vc, .bool fault] w fun e w' => e = .returned (.tuple #[]) ∧ ProgAt w' F xb (endM S1 ns fault) ∧ Kept F w w' := by
  have HLF1 := hide h
  have HR1 := hide hrow
  have HNOW : Hid (0 ≤ S1.now) := h.wf.now
  clear h hrow
  go_enter Tryz.func54, Tryz.ntmps54
  go_wp2_with fail
  go_loopw [10] (fun i wr => ∃ (t : Nat) (c' : Array Value), t ≤ ns.length ∧ i = .int .i64 t ∧ Hid (ProgBlk wr F xb (endM S1 (ns.take t) fault) (ns.drop t) bm D eb c' af cf vsW) ∧ Hid (Row wr F 75 1 (some ⟨g', 0, none⟩) ns.length vc (encE eb ns)) ∧ Hid (Kept F w wr)) (fun i _ => ns.length - (intOf i).toNat)
  case atStart => exact ⟨0, cW, Nat.zero_le _, rfl, HLF1.out, HR1.out, Kept.refl _ _⟩
  case round =>
    obtain ⟨t, c', ht, rfl, HB, HR, HK⟩ := hrel
    by_cases hlt : t < ns.length
    · have hdr : ns.drop t = ns[t] :: ns.drop (t + 1) := List.drop_eq_getElem_cons hlt
      have HB' : Hid (ProgBlk wr F xb (endM S1 (ns.take t) fault) (ns[t] :: ns.drop (t + 1)) bm D eb c' af cf vsW) := by have := HB.out; rw [hdr] at this; exact this
      have HEND : Hid (endM S1 (ns.take (t + 1)) fault = triedM (endM S1 (ns.take t) fault) ns[t] fault) := by rw [Hid, List.take_succ_eq_append_getElem hlt]; unfold endM; rw [List.foldl_append]; rfl
      have pt : wr.cell? ⟨g', t, none⟩ = some (.pointer (some ⟨eb ns[t], 0, none⟩)) := by
        rw [Row.cellAt HR.out t (by omega)]; simp [encE, hlt]
      generalize ns[t] = nn at *
      have hnw : (endM S1 (ns.take t) fault).now = S1.now := (endM_same _ _ _).2.1
      generalize endM S1 (ns.take t) fault = St at *
      clear hdr HB
      have hb := HB'.out
      obtain ⟨k2, hk2, hf2, hn2, hi2⟩ := hb.wf.found (n := nn) (by simp)
      obtain ⟨ds, hd, hent⟩ := hb.e.ent _ (List.getElem_mem hk2)
      rw [hn2] at hent
      have hen : eb nn ≠ xb := fun e => by rw [e, hb.blk] at hent; simp at hent
      have hen' : xb ≠ eb nn := fun e => hen e.symm
      have hge : g' ≠ eb nn := fun e => by subst e; exact (HR.out.ne hent (by decide)) _ rfl rfl
      have ho := hb.wf.rq _ (List.getElem_mem hk2)
      have h14 := ho.air14 hi2
      have h3 := ho.tries3 (Or.inr hi2)
      have ht0 := ho.tries
      have hpg := ho.page
      have c1 := hb.cell 1 _ hb.q.c1
      rw [hnw] at c1
      have x1 : wr.cell? ⟨eb nn, 1, none⟩ = some (.int .i64 (St.reqs[k2]).page) := by simp [World.cell?, hent, entC]
      have x7 : wr.cell? ⟨eb nn, 7, none⟩ = some (.int .i64 (St.reqs[k2]).tries) := by simp [World.cell?, hent, entC]
      have f7 : wr.frozen? ⟨eb nn, 7, none⟩ = false := by simp [World.frozen?, hent]
      have hxq := hb.blk
      have hglr : g' < wr.heap.size := by obtain ⟨cu, hcu, _⟩ := HR.out.block rfl; exact lt_of_heap hcu
      have HROWF : Hid (∀ w2, Kept (fun b => b = eb nn ∨ b = xb) (wr.setCell ⟨eb nn, 7, none⟩ (.int .i64 ((St.reqs[k2]).tries + 1))) w2 → Row w2 F 75 1 (some ⟨g', 0, none⟩) ns.length vc (encE eb ns)) := fun w2 hK2 => HR.out.same fun a ha => by
        cases ha
        have hz : g' < (wr.setCell ⟨eb nn, 7, none⟩ (.int .i64 ((St.reqs[k2]).tries + 1))).heap.size := by simp [World.setCell]; exact hglr
        have hgx : g' ≠ xb := fun e => by subst e; exact (HR.out.ne hb.blk (by decide)) _ rfl rfl
        exact (hK2.block g' hz (fun e => e.elim hge hgx)).trans (Below.heap_setCell _ _ _ _ hge)
      have HMISS : Hid (∀ w2, w2.heap[eb nn]? = some (.cells (entC (missR S1.now { St.reqs[k2] with tries := (St.reqs[k2]).tries + 1 }) ds) 80 (0, 0)) → Kept (fun b => b = eb nn) (wr.setCell ⟨eb nn, 7, none⟩ (.int .i64 ((St.reqs[k2]).tries + 1))) w2 → ProgBlk w2 F xb (triedM St nn true) (ns.drop (t + 1)) bm D eb c' af cf vsW ∧ Kept F w w2) := fun w2 h1 h2 => by
        rw [← hnw] at h1
        obtain ⟨q1, q2⟩ := hb.missed hk2 hf2 hn2 hi2 hd h1 h2
        exact ⟨q1, HK.out.then q2⟩
      obtain ⟨pn, hpn⟩ : ∃ pn : Nat, (St.reqs[k2]).page = pn := ⟨(St.reqs[k2]).page.toNat, by omega⟩
      have e4 : 6 + (4 * (St.reqs[k2]).page).toNat = 6 + pn * 4 := by omega
      have HWROTE : Hid ((St.reqs[k2]).write = true → ∀ w2, w2.heap[eb nn]? = some (.cells (entC (doneR { St.reqs[k2] with tries := (St.reqs[k2]).tries + 1 }) ds) 80 (0, 0)) → w2.heap[xb]? = some (.cells (put4 c' (6 + pn * 4) ds) 85 (0, 0)) → Kept (fun b => b = eb nn ∨ b = xb) (wr.setCell ⟨eb nn, 7, none⟩ (.int .i64 ((St.reqs[k2]).tries + 1))) w2 → ProgBlk w2 F xb (triedM St nn false) (ns.drop (t + 1)) bm D eb (put4 c' (6 + pn * 4) ds) af cf vsW ∧ Kept F w w2) := fun hw w2 h1 h2 h3 => by
        rw [← e4] at h2 ⊢
        obtain ⟨q1, q2⟩ := hb.wrote hk2 hf2 hn2 hi2 hw hd h1 h2 h3
        exact ⟨q1, HK.out.then q2⟩
      have HREAD : Hid ((St.reqs[k2]).write = false → ∀ w2, w2.heap[eb nn]? = some (.cells (entC (doneR { St.reqs[k2] with tries := (St.reqs[k2]).tries + 1 }) ((St.disk.drop (pn * 4)).take 4)) 80 (0, 0)) → Kept (fun b => b = eb nn) (wr.setCell ⟨eb nn, 7, none⟩ (.int .i64 ((St.reqs[k2]).tries + 1))) w2 → ProgBlk w2 F xb (triedM St nn false) (ns.drop (t + 1)) bm D eb c' af cf vsW ∧ Kept F w w2) := fun hw w2 h1 h2 => by
        have e5 : pn * 4 = (4 * (St.reqs[k2]).page).toNat := by omega
        rw [e5] at h1
        obtain ⟨q1, q2⟩ := hb.readIt hk2 hf2 hn2 hi2 hw h1 h2
        exact ⟨q1, HK.out.then q2⟩
      have HDISK : Hid (∀ j, j < 4 → c'[6 + pn * 4 + j]? = some (u8 (((St.disk.drop (pn * 4)).take 4).getD j 0))) := fun j hj => by
        rw [getD_take4 _ _ _ hj (by rw [hb.wf.disk]; omega), Nat.add_assoc, hb.q.cd _ (by omega)]
      have HCS : Hid (c'.size = 70) := hb.q.size
      have hp16 : (pn : Int) < 16 := by omega
      rw [hpn] at x1
      clear hb hf2 hn2 hi2 hd h14 hpg e4 ho
      have HE1 : Hid ((wr.setCell ⟨eb nn, 7, none⟩ (.int .i64 ((St.reqs[k2]).tries + 1))).heap[eb nn]? = some (.cells (entC { St.reqs[k2] with tries := (St.reqs[k2]).tries + 1 } ds) 80 (0, 0))) := by rw [Hid, heap_setCell_at hent]; rfl
      have HX1 : Hid ((wr.setCell ⟨eb nn, 7, none⟩ (.int .i64 ((St.reqs[k2]).tries + 1))).heap[xb]? = some (.cells c' 85 (0, 0))) := (Below.heap_setCell _ _ _ _ hen').trans hxq
      have x1' : (wr.setCell ⟨eb nn, 7, none⟩ (.int .i64 ((St.reqs[k2]).tries + 1))).cell? ⟨eb nn, 1, none⟩ = some (.int .i64 (pn : Int)) := by simp [World.cell?, HE1.out, entC, hpn]
      have HPG : Hid ((St.reqs[k2]).page = (pn : Int)) := hpn
      clear hent hxq hpn
      generalize St.reqs[k2] = r at *
      clear hk2
      by_cases hfb : fault = true
      · subst hfb
        clear HWROTE HREAD HDISK HCS HX1 x1' HPG
        go_wp2_with (first | (go_at_call 71; refine (entry_miss (eb nn) { r with tries := r.tries + 1 } ds S1.now _ HE1.out ⟨by show 1 ≤ r.tries + 1; omega, by show r.tries + 1 ≤ 4; omega⟩ ⟨HNOW.out, hn⟩).mono ?_; rintro e w2 ⟨rfl, h2, hK2⟩; have HX := hide (HMISS.out w2 h2 hK2); have HRW := hide (HROWF.out w2 (hK2.mono fun b _ e => Or.inl e)); clear h2 hK2))
        go_roundw
        case rel => exact ⟨t + 1, c', by omega, by go_num, by rw [HEND.out]; exact HX.out.1, HRW, HX.out.2⟩
        case measure => simp [intOf]; omega
      · have hfb : fault = false := by simpa using hfb
        subst hfb
        by_cases hw : r.write = true
        · have HW2 := hide (HWROTE.out hw)
          have HW := hide hw
          clear HWROTE HREAD HMISS hw HDISK
          go_wp2_with fail
          generalize wr.setCell ⟨eb nn, 7, none⟩ (.int .i64 (r.tries + 1)) = W1 at *
          have HE2 : Hid (W1.drew.heap[eb nn]? = some (.cells (entC { r with tries := r.tries + 1 } ds) 80 (0, 0))) := HE1.out
          have HX2 : Hid (W1.drew.heap[xb]? = some (.cells c' 85 (0, 0))) := HX1.out
          go_region_held3 (fun W => W.cell? ⟨eb nn, 1, none⟩ = some (.int .i64 (pn : Int))) (go_keep)
            (first | (go_at_call 72; refine (entry_succeed_w (eb nn) xb (6 + pn * 4) { r with tries := r.tries + 1 } ds c' _ HE2.out HX2.out (by rw [HCS.out]; omega) HW.out).mono ?_; rintro e w2 ⟨rfl, h2, h3, hK2⟩; have x1w := ent_page h2 HPG.out; have hK2 := ((Kept.refl (fun b => b = eb nn ∨ b = xb) W1).drew).then hK2; have HX := hide (HW2.out w2 h2 h3 hK2); have HRW := hide (HROWF.out w2 hK2); clear h2 h3 hK2))
          all_goals go_wp2
          all_goals go_roundw
          case rel => exact ⟨t + 1, _, by omega, by go_num, by rw [HEND.out]; exact HX.out.1, HRW, HX.out.2⟩
          case measure => simp [intOf]; omega
        · have HW2 := hide (HREAD.out (by simpa using hw))
          have HW : Hid (r.write = false) := by simpa [Hid] using hw
          clear HWROTE HREAD HMISS hw
          go_wp2_with fail
          generalize wr.setCell ⟨eb nn, 7, none⟩ (.int .i64 (r.tries + 1)) = W1 at *
          have HE2 : Hid (W1.drew.heap[eb nn]? = some (.cells (entC { r with tries := r.tries + 1 } ds) 80 (0, 0))) := HE1.out
          have HX2 : Hid (W1.drew.heap[xb]? = some (.cells c' 85 (0, 0))) := HX1.out
          go_region_held3 (fun W => W.cell? ⟨eb nn, 1, none⟩ = some (.int .i64 (pn : Int))) (go_keep)
            (first | (go_at_call 72; refine (entry_succeed_r (eb nn) xb (6 + pn * 4) { r with tries := r.tries + 1 } ds ((St.disk.drop (pn * 4)).take 4) c' _ HE2.out HX2.out HDISK.out HW.out).mono ?_; rintro e w2 ⟨rfl, h2, hK2⟩; have x1w := ent_page h2 HPG.out; have hK2 := ((Kept.refl (fun b => b = eb nn) W1).drew).then hK2; have HX := hide (HW2.out w2 h2 hK2); have HRW := hide (HROWF.out w2 (hK2.mono fun b _ e => Or.inl e)); clear h2 hK2))
          all_goals go_wp2
          all_goals go_roundw
          case rel => exact ⟨t + 1, _, by omega, by go_num, by rw [HEND.out]; exact HX.out.1, HRW, HX.out.2⟩
          case measure => simp [intOf]; omega
    · have hta : t = ns.length := by omega
      have HFIN : Hid (ProgAt wr F xb (endM S1 ns fault)) := by
        have := HB.out
        rw [hta, List.take_length, List.drop_length] at this
        exact ⟨_, _, _, _, _, _, _, this⟩
      clear HB hta
      go_wp2
      go_end0
      exact ⟨rfl, HFIN.out, HK.out⟩
theorem flight_len {S : St} {k : Nat} (h : WfE S []) (hk : k < S.flights.length) (hl : S.last ≤ 1000000) : (S.flights[k]).requests.length ≤ 1000000 := by
  have h1 := h.airLen
  have h2 := h.reqsLen
  have h3 : (S.flights[k]).requests.length ≤ (airs S ++ []).length := by
    have := nodup_len (l := (S.flights[k]).requests) (m := airs S ++ []) (by
      have hnd := h.nodup
      rw [List.append_nil] at hnd
      exact (List.pairwise_flatMap.1 hnd).1 _ (List.getElem_mem hk)) (fun x hx => List.mem_append_left _ (List.mem_flatMap.2 ⟨_, List.getElem_mem hk, hx⟩))
    exact this
  omega
set_option maxHeartbeats 4000000 in
set_option maxRecDepth 1000000 in
theorem prog_complete_ok (S : St) (F : Nat → Prop) (xb k : Nat) (fault : Bool) (w : World) (h : ProgAt w F xb S) (hk : k < S.flights.length) (hn : S.now ≤ 1000000000) (hl : S.last ≤ 1000000) :
    Calls Tryz.prog 31 #[.pointer (some ⟨xb, 0, none⟩), .int .i64 (k : Int), .bool fault] w fun e w' => e = .returned .nilIface ∧ ProgAt w' F xb (endM { S with flights := S.flights.eraseIdx k } (S.flights[k]).requests fault) ∧ Kept F w w' := by
  obtain ⟨bm, D, eb, c, af, cf, vs, h⟩ := h
  have d4 := h.cell 4 _ h.q.c4
  have hkf : (k : Int) < S.flights.length := by omega
  have HLEN := hide (flight_len h.wf hk hl)
  have HLAND := hide (prog_land w h hk)
  have hf4 : S.flights.length ≤ 4 := by have := h.wf.flLen; have := h.wf.depth; omega
  clear h
  go_enter Tryz.func31, Tryz.ntmps31
  go_wp2_with fail
  refine (orEmpty_some _ _).mono ?_
  rintro e w1 ⟨rfl, hw⟩
  have hw := hw.symm
  subst hw
  go_wp2_with fail
  refine HLAND.out.mono ?_
  rintro e w1 ⟨g', vc, c', rfl, hB, hR, hK1⟩
  have HFIN := hide (prog_finish (fault := fault) w1 hB hR hn HLEN.out)
  have HK1 := hide hK1
  clear hB hR hK1 HLAND d4
  go_wp2_with fail
  refine HFIN.out.mono ?_
  rintro e w2 ⟨rfl, hP, hK2⟩
  have HX := hide (And.intro hP (HK1.out.then hK2))
  clear hP hK2
  go_wp2
  go_ret
  exact ⟨rfl, HX.out.1, HX.out.2⟩
/-- Complete, whole -/
theorem prog_complete (S : St) (F : Nat → Prop) (xb : Nat) (kk : Int) (fault : Bool) (w : World) (h : ProgAt w F xb S) (hn : S.now ≤ 1000000000) (hl : S.last ≤ 1000000) :
    Calls Tryz.prog 31 #[.pointer (some ⟨xb, 0, none⟩), .int .i64 kk, .bool fault] w fun e w' => e = .returned (if (completeM S kk fault).1 then .nilIface else errOf 10) ∧ ProgAt w' F xb (completeM S kk fault).2 ∧ Kept F w w' := by
  by_cases hk : kk < 0 ∨ (S.flights.length : Int) ≤ kk
  · have e : completeM S kk fault = (false, S) := by unfold completeM; rw [if_pos hk]
    rw [e]
    exact prog_complete_no S F xb kk fault w h hk
  · obtain ⟨k, rfl⟩ : ∃ k : Nat, kk = k := ⟨kk.toNat, by omega⟩
    have hk' : k < S.flights.length := by omega
    have e : completeM S (k : Int) fault = (true, endM { S with flights := S.flights.eraseIdx k } (S.flights[k]).requests fault) := by
      unfold completeM; rw [if_neg hk]
      simp [List.getD_eq_getElem?_getD, hk']
    rw [e]
    exact prog_complete_ok S F xb k fault w h hk' hn hl
end Go.Proofs.YtiabdbeejkadnabGreatDoor

/- plain.Complete (stage 2's code). Own work of the verifier. -/
namespace Go.Proofs.YtiabdbeejkadnabGreatDoor
open Go.RowKit Go.Maps

set_option maxHeartbeats 1000000 in
theorem plain_complete (S : St) (F : Nat → Prop) (xb : Nat) (kk : Int) (fault : Bool) (w : World) (h : ProgAt w F xb S) (hg : GCell w) (h0 : ¬ F 0) (hn : S.now ≤ 1000000000) (hl : S.last ≤ 1000000) :
    Calls Tryz.prog 13 #[.pointer (some ⟨xb, 0, none⟩), .int .i64 kk, .bool fault] w fun e w' => e = .returned (.agg #[.int .i64 (if (completeM S kk fault).1 then 0 else 10), .int .i64 (-1), .int .i64 0, .bool true]) ∧ ProgAt w' (Foot F w w') xb (completeM S kk fault).2 ∧ Kept F w w' := by
  have H : Hid (ProgAt w F xb S) := h
  have hF := h.lt
  have hnF : ¬ F w.heap.size := fun e => by have := hF _ e; omega
  have HF : Hid (∀ k, F k → k < w.heap.size) := hF
  have HG : Hid (GCell w) := hg
  clear h hF hg
  generalize hA : (if (completeM S kk fault).1 then 0 else 10 : Int) = ek
  have HA : Hid ((if (completeM S kk fault).1 then .nilIface else errOf 10 : Value) = errOf ek) := by rw [Hid, ← hA]; split <;> rfl
  clear hA
  generalize hS : (completeM S kk fault).2 = S'
  have HS : Hid ((completeM S kk fault).2 = S') := hS
  clear hS
  go_enter Tryz.func13, Tryz.ntmps13
  go_wp2_with fail
  refine (prog_complete S F xb kk fault _ (H.out.same (fun k _ hk => Below.heap_alloc w _ k hk) (by simp)) hn hl).mono ?_
  rintro e w1 ⟨rfl, hP, hK⟩
  rw [HA.out]
  rw [HS.out] at hP
  have hP := hP.wid (fun k hk => Foot.of (w := w.alloc (.cells #[.int .i64 0, .int .i64 0, .int .i64 0, .bool false] 35)) (w' := w1) k hk) (Foot.lt (fun k hk => by have := HF.out k hk; simp; omega) hK.size)
  have hE : ErrIs w1 (errOf ek) ek (-1) 0 := Or.inl ⟨rfl, rfl, rfl⟩
  have HP : Hid (ProgAt w1 (Foot F (w.alloc (.cells #[.int .i64 0, .int .i64 0, .int .i64 0, .bool false] 35)) w1) xb S') := hP
  have HK : Hid (Kept F (w.alloc (.cells #[.int .i64 0, .int .i64 0, .int .i64 0, .bool false] 35)) w1) := hK
  have hg1 : GCell w1 := (HG.out.below (alloc_below _ _)).kept hK h0
  have hz1 : w.heap.size < w1.heap.size := by have := hK.size; simp at this; omega
  obtain ⟨⟨a0, a1, a2, a3⟩, b0, b1, b2, b3⟩ := err_cells hK hnF
  have HE := hide hE
  clear hP hK hE
  go_wp2_with fail
  refine (told_is HE.out hg1).mono ?_
  rintro e w2 ⟨rfl, hb⟩
  have a0' := (hb.cell (p := ⟨w.heap.size, 0, none⟩) hz1).trans a0
  have a1' := (hb.cell (p := ⟨w.heap.size, 1, none⟩) hz1).trans a1
  have a2' := (hb.cell (p := ⟨w.heap.size, 2, none⟩) hz1).trans a2
  have a3' := (hb.cell (p := ⟨w.heap.size, 3, none⟩) hz1).trans a3
  have b0' := (hb.frozen (p := ⟨w.heap.size, 0, none⟩) hz1).trans b0
  have b1' := (hb.frozen (p := ⟨w.heap.size, 1, none⟩) hz1).trans b1
  have b2' := (hb.frozen (p := ⟨w.heap.size, 2, none⟩) hz1).trans b2
  have b3' := (hb.frozen (p := ⟨w.heap.size, 3, none⟩) hz1).trans b3
  have HB := hide hb
  clear hb a0 a1 a2 a3 b0 b1 b2 b3
  go_wp2
  exact bodyPost_ret (v := .agg #[.int .i64 ek, .int .i64 (-1), .int .i64 0, .bool true]) (by simp [results, Tryz.results13, go_sem, a0', a1', a2', a3']) rfl ⟨rfl, plain_fin _ _ _ _ HP.out HK.out HB.out HF.out⟩
end Go.Proofs.YtiabdbeejkadnabGreatDoor
