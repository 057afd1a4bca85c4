import Derived.Test.YtiabdbeejkadnabGreatDoorJ5d202420ae
import Derived.Deep.MidRow
import Derived.Shelf.Sort.Plain
import Derived.Test.YtiabdbeejkadnabGreatDoorProg
/- The program's queue (stage 2's code): Poll. Own work of the verifier. -/
namespace Go.Proofs.YtiabdbeejkadnabGreatDoor
open Go.RowKit Go.Maps

/-- an error value that tells this kind, request and tries -/
def ErrIs (w : World) (ev : Value) (k r t : Int) : Prop := (r = -1 ∧ t = 0 ∧ ev = errOf k) ∨ ∃ g, ev = .iface 125 (.pointer (some ⟨g, 0, none⟩)) ∧ w.heap[g]? = some (.cells #[.int .i64 r, .int .i64 t, .int .i64 k] 129 (0, 0))
theorem told_is {w : World} {ev : Value} {k r t : Int} (h : ErrIs w ev k r t) (hg : GCell w) : Calls Tryz.prog 25 #[ev] w fun e w' => e = .returned (.agg #[.int .i64 k, .int .i64 r, .int .i64 t, .bool true]) ∧ Below w.heap.size w w' := by
  rcases h with ⟨rfl, rfl, rfl⟩ | ⟨g, rfl, hh⟩
  · exact told_err k w hg
  · exact told_req g 0 k r t w hg (by simp [World.cell?, hh]) (by simp [World.cell?, hh]) (by simp [World.cell?, hh])
theorem ErrIs.same {w w' : World} {ev : Value} {k r t : Int} (h : ErrIs w ev k r t) (hs : ∀ b, b < w.heap.size → w'.heap[b]? = w.heap[b]?) : ErrIs w' ev k r t := by
  rcases h with h | ⟨g, h1, h2⟩
  · exact Or.inl h
  · exact Or.inr ⟨g, h1, (hs g (lt_of_heap h2)).trans h2⟩

/-- what Poll's error tells -/
def pollErr (S : St) (num : Int) : Int × Int × Int := if (pollM S num).2.2.1 = 5 then (5, -1, 0) else ((pollM S num).2.2.1, num, (pollM S num).2.1)
theorem held_cases (S : St) (num : Int) : (heldB S num = false ∧ placeM S num = -1) ∨ (heldB S num = true ∧ ∃ k, ∃ hk : k < S.reqs.length, placeM S num = k ∧ (S.reqs[k]).num = num ∧ toldHas S.told num = false) := by
  unfold heldB placeM
  cases ht : toldHas S.told num with
  | true => left; simp
  | false =>
    cases hf : findR S.reqs num with
    | none => left; simp [intOr]
    | some k =>
      obtain ⟨hk, e⟩ := findR_get hf
      right; exact ⟨rfl, k, hk, rfl, e, rfl⟩
theorem poll_none {S : St} {num : Int} (hp : placeM S num = -1) : pollM S num = (⟨#[]⟩, 0, 5, S) := by
  unfold pollM; rw [hp]; rfl
theorem poll_at {S : St} {num : Int} {k : Nat} (hk : k < S.reqs.length) (hp : placeM S num = k) : pollM S num = if (S.reqs[k]).state = 0 ∨ (S.reqs[k]).state = 1 then (⟨#[]⟩, (S.reqs[k]).tries, 6, S) else
    if (S.reqs[k]).state = 3 then (⟨#[]⟩, (S.reqs[k]).tries, 7, dropM S k) else if (S.reqs[k]).state = 4 then (⟨#[]⟩, (S.reqs[k]).tries, 8, dropM S k) else ((S.reqs[k]).answer, (S.reqs[k]).tries, 0, dropM S k) := by
  unfold pollM
  rw [hp, if_neg (by omega)]
  have e : ((k : Int)).toNat = k := by omega
  rw [e]
  dsimp only
  rw [getD_of hk]

section
variable {w w2 : World} {F : Nat → Prop} {xb : Nat} {S : St} {E : List Int} {bm : Nat} {D : DataW Unit} {eb : Int → Nat} {c : Array Value} {af : Option Addr} {cf : Nat} {vs : List (Option Addr × Nat)}
theorem ProgBlk.dropped (h : ProgBlk w F xb S E bm D eb c af cf vs) {k : Nat} (hk : k < S.reqs.length) (ht : toldHas S.told (S.reqs[k]).num = false) (h2 : 2 ≤ (S.reqs[k]).state) (hmap : w2.ownsMap Tryz.prog 3 ptrR bm S.last.toNat (D.del (.int .i64 (S.reqs[k]).num))) (hs : ∀ j, j < w.heap.size → j ≠ bm → w2.heap[j]? = w.heap[j]?) (hz : w.heap.size ≤ w2.heap.size) :
    ProgBlk w2 F xb (dropM S k) E bm (D.del (.int .i64 (S.reqs[k]).num)) eb c af cf vs := by
  have hT : Tidy D := h.m.map.tidy keyLaw
  have hwf := h.wf.dropped hk h2 ht
  have hsome : heldB S (S.reqs[k]).num = true := by
    unfold heldB; rw [ht, findR_at h.wf.sorted hk]; rfl
  have hsz := size_del (k := Lit.int .i64 (S.reqs[k]).num) hT
  rw [h.m.has, hsome, if_pos rfl] at hsz
  have hms := h.m.msize
  have hex : xb ≠ bm := fun e => h.bmNe h.blk e.symm
  have hsame : ∀ (j : Nat) (cs : Array Value) (t : TypeId), w.heap[j]? = some (.cells cs t (0, 0)) → w2.heap[j]? = w.heap[j]? := fun j cs t hj => hs j (lt_of_heap hj) (fun e => h.bmNe hj e.symm)
  have hq : QPart c (dropM S k) bm af cf := by
    have q := h.q
    unfold dropM
    split
    · exact ⟨q.size, q.c0, q.c1, q.c2, q.c3, q.c4, q.c5, q.cd⟩
    · exact ⟨q.size, q.c0, q.c1, q.c2, q.c3, q.c4, q.c5, q.cd⟩
  have hfl : (dropM S k).flights = S.flights := by unfold dropM; split <;> rfl
  have hla : (dropM S k).last = S.last := by unfold dropM; split <;> rfl
  have hsub : ∀ r ∈ (dropM S k).reqs, r ∈ S.reqs := by
    unfold dropM
    split
    · exact fun r hr => hr
    · exact fun r hr => List.mem_of_mem_eraseIdx hr
  refine ⟨h.own, (hsame _ _ _ h.blk).trans h.blk, hq, h.ownM, ⟨by rw [hla]; exact hmap, ?_, fun n => ?_, fun r hr hrt => ?_⟩, ⟨fun r hr => h.e.entF r (hsub r hr), fun r hr => ?_, fun r hr r' hr' => h.e.inj r (hsub r hr) r' (hsub r' hr')⟩, ?_, fun j hj => Nat.lt_of_lt_of_le (h.ltF j hj) hz, hwf⟩
  · unfold dropM
    rw [getD_of hk]
    split
    · show _ + (S.told ++ [_]).length = S.reqs.length
      rw [List.length_append]; simp; omega
    · show _ + S.told.length = (S.reqs.eraseIdx k).length
      rw [List.length_eraseIdx, if_pos hk]; omega
  · have e1 : heldB (dropM S k) n = (heldB S n && n != (S.reqs[k]).num) := by
      unfold dropM
      rw [getD_of hk]
      split
      · unfold heldB toldHas
        simp only [List.contains_append, Bool.not_or, Bool.and_assoc]
        congr 2
        simp [bne]
        by_cases e : n = (S.reqs[k]).num <;> simp [e]
      · unfold heldB
        show ((findR (S.reqs.eraseIdx k) n).isSome && _) = _
        rw [findR_erase h.wf.sorted hk]
        cases (findR S.reqs n).isSome <;> cases toldHas S.told n <;> simp
    rw [e1]
    by_cases hn : n = (S.reqs[k]).num
    · subst hn; rw [has_del_same]; simp
    · have hne : (Lit.int .i64 n) ≠ .int .i64 (S.reqs[k]).num := fun e => hn (by simpa using e)
      rw [has_del_other hne, h.m.has]; simp [hn]
  · have hn : r.num ≠ (S.reqs[k]).num := by
      unfold dropM at hr hrt
      rw [getD_of hk] at hr hrt
      split at hr
      · rename_i hi
        rw [if_pos hi] at hrt
        intro e
        rw [e] at hrt
        rw [toldHas_mem (by simp)] at hrt; cases hrt
      · exact ((mem_erase h.wf.sorted hk r).1 hr).2
    have hrt' : toldHas S.told r.num = false := by
      unfold dropM at hrt
      split at hrt
      · cases hx : toldHas S.told r.num with
        | false => rfl
        | true =>
          have : toldHas (S.told ++ [(S.reqs.getD k Rq.zero).num]) r.num = true := toldHas_mem (List.mem_append_left _ (by simpa [toldHas] using hx))
          rw [this] at hrt; cases hrt
      · exact hrt
    have hne : (Lit.int .i64 r.num) ≠ .int .i64 (S.reqs[k]).num := fun e => hn (by simpa using e)
    rw [atKey_del_other hne]; exact h.m.at_ r (hsub r hr) hrt'
  · obtain ⟨ds, h1, hh⟩ := h.e.ent r (hsub r hr)
    exact ⟨ds, h1, (hsame _ _ _ hh).trans hh⟩
  · rw [hfl]; exact h.l.same fun b cs t hb _ _ => hsame b cs t hb
end

/-- what Poll hands out -/
def PollAns (w w' : World) (r : ByteArray × Int × Int × St) (ek er et : Int) (av ev : Value) : Prop :=
  (r.2.2.1 ≠ 0 ∧ av = .agg #[.slice none 0 0, .int .i64 0] ∧ ErrIs w' ev ek er et) ∨ (r.2.2.1 = 0 ∧ ev = .nilIface ∧ ∃ ao n cap, av = .agg #[.slice ao n cap, .int .i64 r.2.1] ∧ n = r.1.size ∧ n ≤ 4 ∧ Row w' (fun k => w.heap.size ≤ k) 5 1 ao n cap (encB r.1.data.toList))
def PollEnd (S : St) (num : Int) (w : World) (e : Ending) (w' : World) : Prop := ∃ av ev, e = .returned (.tuple #[av, ev]) ∧ PollAns w w' (pollM S num) (pollErr S num).1 (pollErr S num).2.1 (pollErr S num).2.2 av ev

/-- the answer's block behind the last call -/
theorem poll_ret {w w2 : World} {v0 v1 : Value} {g : Nat} {cs : Array Value} {t : TypeId} (hr : w2.heap[g]? = some (.cells cs t (0, 0))) (hg : g ≠ w.heap.size) : (((w2.setCell ⟨w.heap.size, 0, none⟩ v0).setCell ⟨w.heap.size, 1, none⟩ v1)).heap[g]? = some (.cells cs t (0, 0)) := by
  rw [Below.heap_setCell _ _ _ _ hg, Below.heap_setCell _ _ _ _ hg]; exact hr

set_option maxHeartbeats 1000000 in
set_option maxRecDepth 1000000 in
theorem prog_poll_none (S : St) (F : Nat → Prop) (xb : Nat) (num : Int) (w : World) (h : ProgAt w F xb S) (hw : (Lit.int .i64 num).wf = true) (hh : heldB S num = false) (hp : placeM S num = -1) :
    Calls Tryz.prog 27 #[.pointer (some ⟨xb, 0, none⟩), .int .i64 num] w fun e w' => PollEnd S num w e w' ∧ ProgAt w' F xb (pollM S num).2.2.2 ∧ Kept F w w' := by
  have H0 := hide h
  obtain ⟨bm, D, eb, c, af, cf, vs, h⟩ := h
  have hlt := h.lt
  have hml : bm < w.heap.size := h.m.map.lt
  have k3 := h.cell 3 _ h.q.c3
  have hlk := h.look (W := w.alloc (.cells #[.slice none 0 0, .int .i64 0] 39)) num hw (Below.heap_alloc _ _ _ hml)
  rw [hh] at hlk
  have HP := hide (poll_none hp)
  clear h hp hh
  go_enter Tryz.func27, Tryz.ntmps27
  go_wp2_with fail
  refine (orEmpty_some _ _).mono ?_
  rintro e w1 ⟨rfl, rfl⟩
  go_wp2
  refine bodyPost_ret (v := .tuple #[.agg #[.slice none 0 0, .int .i64 0], .iface 33 (.int .i64 5)]) (by simp [results, Tryz.results27, go_sem]) rfl ⟨⟨_, _, rfl, ?_⟩, ?_, Kept.alloc (Kept.refl _ _) _⟩
  · unfold pollErr; rw [HP.out]; exact Or.inl ⟨by simp, rfl, Or.inl ⟨rfl, rfl, rfl⟩⟩
  · rw [HP.out]; exact H0.out.same (fun k _ hk => Below.heap_alloc _ _ _ hk) (by simp)

set_option maxHeartbeats 1000000 in
set_option maxRecDepth 1000000 in
theorem prog_poll_wait (S : St) (F : Nat → Prop) (xb : Nat) (num : Int) (k : Nat) (w : World) (h : ProgAt w F xb S) (hw : (Lit.int .i64 num).wf = true) (hh : heldB S num = true) (hk : k < S.reqs.length) (hp : placeM S num = k) (hn : (S.reqs[k]).num = num) (hs : (S.reqs[k]).state = 0 ∨ (S.reqs[k]).state = 1) :
    Calls Tryz.prog 27 #[.pointer (some ⟨xb, 0, none⟩), .int .i64 num] w fun e w' => PollEnd S num w e w' ∧ ProgAt w' F xb (pollM S num).2.2.2 ∧ Kept F w w' := by
  have H0 := hide h
  have HF := hide h.lt
  obtain ⟨bm, D, eb, c, af, cf, vs, h⟩ := h
  have hlt := h.lt
  have hml : bm < w.heap.size := h.m.map.lt
  have k3 := h.cell 3 _ h.q.c3
  have hlk := h.look (W := w.alloc (.cells #[.slice none 0 0, .int .i64 0] 39)) num hw (Below.heap_alloc _ _ _ hml)
  rw [hh] at hlk
  simp only [if_true] at hlk
  have HP : Hid (pollM S num = (⟨#[]⟩, (S.reqs[k]).tries, 6, S)) := by show _ = _; rw [poll_at hk hp, if_pos hs]
  obtain ⟨ds, _, he⟩ := h.e.ent _ (List.getElem_mem hk)
  rw [hn] at he
  have hel := lt_of_heap he
  generalize S.reqs[k] = r at *
  have e0 : w.cell? ⟨eb num, 0, none⟩ = some (.int .i64 num) := by simp [World.cell?, he, entC, hn]
  have e7 : w.cell? ⟨eb num, 7, none⟩ = some (.int .i64 r.tries) := by simp [World.cell?, he, entC]
  have e9 : w.cell? ⟨eb num, 9, none⟩ = some (.int .i64 r.state) := by simp [World.cell?, he, entC]
  clear he h hn
  go_enter Tryz.func27, Tryz.ntmps27
  go_wp2_with fail
  refine (orEmpty_some _ _).mono ?_
  rintro e w1 ⟨rfl, rfl⟩
  go_wp2_with fail
  refine (entry_pending (eb num) r.state _ (by rw [World.cell?_alloc_lt _ _ ⟨eb num, 9, none⟩ hel]; exact e9) hs).mono ?_
  rintro e w1 ⟨rfl, rfl⟩
  go_wp2_with fail
  refine (entry_fault (eb num) num r.tries 6 _ (by rw [World.cell?_alloc_lt _ _ ⟨eb num, 0, none⟩ hel]; exact e0) (by rw [World.cell?_alloc_lt _ _ ⟨eb num, 7, none⟩ hel]; exact e7)).mono ?_
  rintro e w1 ⟨rfl, hr, hb⟩
  have hz : w.heap.size < w1.heap.size := by have := hb.size; simp at this; omega
  have a0 := hb.cell (p := ⟨w.heap.size, 0, none⟩) (by simp)
  have a1 := hb.cell (p := ⟨w.heap.size, 1, none⟩) (by simp)
  have f0 := hb.frozen (p := ⟨w.heap.size, 0, none⟩) (by simp)
  have f1 := hb.frozen (p := ⟨w.heap.size, 1, none⟩) (by simp)
  simp at a0 a1 f0 f1 hr
  have HR := hide hr
  have HB := hide hb
  clear hr hb hlk
  go_wp2
  have HB2 : Below w.heap.size w ((w1.setCell ⟨w.heap.size, 0, none⟩ (.slice none 0 0)).setCell ⟨w.heap.size, 1, none⟩ (.int .i64 0)) := ((((alloc_below _ _).trans (HB.out.mono (by simp))).setCell (Nat.le_refl _) _).setCell (Nat.le_refl _) _)
  refine bodyPost_ret (v := .tuple #[.agg #[.slice none 0 0, .int .i64 0], .iface 125 (.pointer (some ⟨w.heap.size + 1, 0, none⟩))]) (by simp [results, Tryz.results27, go_sem, a0, a1]) rfl ⟨⟨_, _, rfl, ?_⟩, ?_, Go.Proofs.YtiabdbeejkadnabGreatDoor.Below.kept HB2 F⟩
  · unfold pollErr; rw [HP.out]
    exact Or.inl ⟨by simp, rfl, Or.inr ⟨w.heap.size + 1, rfl, poll_ret HR.out (by omega)⟩⟩
  · rw [HP.out]; exact H0.out.same (fun k _ hk => HB2.block k hk) HB2.size

theorem Kept.of_drop {w w1 w2 : World} {F : Nat → Prop} {v0 v1 : Value} (hK : Kept F w w1) (hb : Below w1.heap.size w1 w2) : Kept F w ((w2.setCell ⟨w.heap.size, 0, none⟩ v0).setCell ⟨w.heap.size, 1, none⟩ v1) :=
  ((hK.below hb).setCell (p := ⟨w.heap.size, 0, none⟩) (Or.inr (Nat.le_refl _)) _).setCell (p := ⟨w.heap.size, 1, none⟩) (Or.inr (Nat.le_refl _)) _
theorem ProgE.of_drop {w w1 w2 : World} {F : Nat → Prop} {xb : Nat} {S : St} {E : List Int} {v0 v1 : Value} (h : ProgE w1 F xb S E) (hF : ∀ k, F k → k < w.heap.size) (hb : Below w1.heap.size w1 w2) : ProgE ((w2.setCell ⟨w.heap.size, 0, none⟩ v0).setCell ⟨w.heap.size, 1, none⟩ v1) F xb S E := by
  refine h.same (fun k hk hl => ?_) (by simp [World.setCell]; exact hb.size)
  have := hF k hk
  rw [Below.heap_setCell _ _ _ _ (by show k ≠ w.heap.size; omega), Below.heap_setCell _ _ _ _ (by show k ≠ w.heap.size; omega)]
  exact hb.block k hl

set_option maxHeartbeats 2000000 in
set_option maxRecDepth 1000000 in
theorem prog_poll_done (S : St) (F : Nat → Prop) (xb : Nat) (num : Int) (k : Nat) (w : World) (h : ProgAt w F xb S) (hw : (Lit.int .i64 num).wf = true) (hh : heldB S num = true) (hk : k < S.reqs.length) (hp : placeM S num = k) (hn : (S.reqs[k]).num = num) (ht : toldHas S.told num = false) (hs : 2 ≤ (S.reqs[k]).state) :
    Calls Tryz.prog 27 #[.pointer (some ⟨xb, 0, none⟩), .int .i64 num] w fun e w' => PollEnd S num w e w' ∧ ProgAt w' F xb (pollM S num).2.2.2 ∧ Kept F w w' := by
  have HF := hide h.lt
  obtain ⟨bm, D, eb, c, af, cf, vs, h⟩ := h
  have H := hide h
  have hlt := h.lt
  have hml : bm < w.heap.size := h.m.map.lt
  have k3 := h.cell 3 _ h.q.c3
  have hlk := h.look (W := w.alloc (.cells #[.slice none 0 0, .int .i64 0] 39)) num hw (Below.heap_alloc _ _ _ hml)
  rw [hh] at hlk
  simp only [if_true] at hlk
  obtain ⟨ds, hds, he⟩ := h.e.ent _ (List.getElem_mem hk)
  have HO := hide (h.wf.rq _ (List.getElem_mem hk))
  have HDS := hide hds
  rw [hn] at he
  have hel := lt_of_heap he
  have HE0 := hide he
  have hme : eb num ≠ bm := fun e => h.bmNe he e.symm
  have HP : Hid (pollM S num = if (S.reqs[k]).state = 3 then (⟨#[]⟩, (S.reqs[k]).tries, 7, dropM S k) else if (S.reqs[k]).state = 4 then (⟨#[]⟩, (S.reqs[k]).tries, 8, dropM S k) else ((S.reqs[k]).answer, (S.reqs[k]).tries, 0, dropM S k)) := by show _ = _; rw [poll_at hk hp, if_neg (by omega)]
  have e9 : w.cell? ⟨eb num, 9, none⟩ = some (.int .i64 (S.reqs[k]).state) := by simp [World.cell?, he, entC]
  have HM : Hid ((w.alloc (.cells #[.slice none 0 0, .int .i64 0] 39)).ownsMap Tryz.prog 3 ptrR bm S.last.toNat D) := h.m.map.alloc _
  have hkey := keyOf_int_mk (P := Tryz.prog) Tryz.underlying3 hw
  have HN : Hid ((S.reqs[k]).num = num) := hn
  have HT : Hid (toldHas S.told num = false) := ht
  have HS := hide hs
  clear he h hn hp hds ht hw hs
  have k3' : (w.alloc (.cells #[.slice none 0 0, .int .i64 0] 39)).cell? ⟨xb, 3, none⟩ = some (.map (some bm)) := by rw [World.cell?_alloc_lt _ _ ⟨xb, 3, none⟩ hlt]; exact k3
  go_enter Tryz.func27, Tryz.ntmps27
  go_wp2_with fail
  refine (orEmpty_some _ _).mono ?_
  rintro e w1 ⟨rfl, rfl⟩
  go_wp2_with fail
  refine (entry_not_pending (eb num) _ _ (by rw [World.cell?_alloc_lt _ _ ⟨eb num, 9, none⟩ hel]; exact e9) HS.out).mono ?_
  rintro e w1 ⟨rfl, rfl⟩
  go_wp2_with (first | (at_delete; go_must (refine wpList_delete_own _ rfl _ _ 82 3 rfl 75 keyLaw Tryz.underlying82 ptrR bm S.last.toNat D rfl HM.out _ (.int .i64 num) rfl hkey ?_; intro w1 hown1 hturn1)) | fail)
  have hg1 := hturn1.grown
  have hz1 : w.heap.size + 1 ≤ w1.heap.size := by have := hg1.size; simpa using this
  have hbk : ∀ j, j < w.heap.size + 1 → j ≠ bm → w1.heap[j]? = (w.alloc (.cells #[.slice none 0 0, .int .i64 0] 39)).heap[j]? := fun j hj hne => hg1.block j (by simpa using hj) (by simpa using hne)
  have hbe : w1.heap[eb num]? = w.heap[eb num]? := (hbk _ (by omega) hme).trans (Below.heap_alloc _ _ _ hel)
  have hent1 := hbe.trans HE0.out
  have hba : w1.heap[w.heap.size]? = some (.cells #[.slice none 0 0, .int .i64 0] 39 (0, 0)) := (hbk _ (by omega) (by omega)).trans (heap_alloc_new w _)
  have HD : Hid (ProgAt w1 F xb (dropM S k)) := by
    refine ⟨bm, _, eb, c, af, cf, vs, H.out.dropped hk (by rw [HN.out]; exact HT.out) HS.out (by rw [HN.out]; exact hown1) (fun j hj hne => (hbk j (by omega) hne).trans (Below.heap_alloc _ _ _ hj)) (by omega)⟩
  have HK1 : Hid (Kept F w w1) := (Kept.alloc (Kept.refl _ _) _).grown hg1 (fun j hj => by cases hj; exact Or.inl H.out.ownM)
  obtain ⟨p0, p1, r0, r1⟩ := cells2 hba
  have HE1 := hide hent1
  clear hown1 hturn1 hg1 hbk hbe hba hlk e9 k3 k3' hent1 H HM HE0
  generalize S.reqs[k] = r at *
  have g0 : w1.cell? ⟨eb num, 0, none⟩ = some (.int .i64 num) := by simp [World.cell?, HE1.out, entC, HN.out]
  have g7 : w1.cell? ⟨eb num, 7, none⟩ = some (.int .i64 r.tries) := by simp [World.cell?, HE1.out, entC]
  have hst := HO.out.st
  have hs2 := HS.out
  rcases (by omega : r.state = 2 ∨ r.state = 3 ∨ r.state = 4) with hs | hs | hs
  · have HP2 : Hid (pollM S num = (r.answer, r.tries, 0, dropM S k)) := by have := HP.out; rw [if_neg (by omega), if_neg (by omega)] at this; exact this
    have HS2 := hide hs
    clear hst hs2 hs HP
    cases hwr : r.write with
    | true =>
      have g2 : w1.cell? ⟨eb num, 2, none⟩ = some (.bool true) := by simp [World.cell?, HE1.out, entC, hwr]
      have g9 : w1.cell? ⟨eb num, 9, none⟩ = some (.int .i64 2) := by simp [World.cell?, HE1.out, entC, HS2.out]
      have HW := hide hwr
      clear hwr g0
      go_wp2_with fail
      refine (entry_outcome2w (eb num) r.tries _ g2 g7 g9).mono ?_
      rintro e w2 ⟨rfl, hb⟩
      have q0 := (hb.cell (p := ⟨w.heap.size, 0, none⟩) (by show w.heap.size < _; omega)).trans p0
      have q1 := (hb.cell (p := ⟨w.heap.size, 1, none⟩) (by show w.heap.size < _; omega)).trans p1
      have s0 := (hb.frozen (p := ⟨w.heap.size, 0, none⟩) (by show w.heap.size < _; omega)).trans r0
      have s1 := (hb.frozen (p := ⟨w.heap.size, 1, none⟩) (by show w.heap.size < _; omega)).trans r1
      have HB := hide hb
      clear hb p0 p1 r0 r1 g2 g7 g9
      go_wp2
      refine bodyPost_ret (v := .tuple #[.agg #[.slice none 0 0, .int .i64 r.tries], .nilIface]) (by simp [results, Tryz.results27, go_sem, q0, q1]) rfl ⟨⟨_, _, rfl, ?_⟩, ?_, HK1.out.of_drop HB.out⟩
      · rw [HP2.out, HO.out.ansW HW.out]
        exact Or.inr ⟨rfl, rfl, none, 0, 0, rfl, rfl, by omega, Row.nil _ _ _ _⟩
      · rw [HP2.out]; exact HD.out.of_drop HF.out HB.out
    | false =>
      have HW := hide hwr
      clear hwr g0 g7
      go_wp2_with fail
      refine (entry_outcome2r (eb num) r ds _ HE1.out HDS.out.1 HW.out HS2.out).mono ?_
      rintro e w2 ⟨g, cap, rfl, hrow, hb⟩
      have q0 := (hb.cell (p := ⟨w.heap.size, 0, none⟩) (by show w.heap.size < _; omega)).trans p0
      have q1 := (hb.cell (p := ⟨w.heap.size, 1, none⟩) (by show w.heap.size < _; omega)).trans p1
      have s0 := (hb.frozen (p := ⟨w.heap.size, 0, none⟩) (by show w.heap.size < _; omega)).trans r0
      have s1 := (hb.frozen (p := ⟨w.heap.size, 1, none⟩) (by show w.heap.size < _; omega)).trans r1
      have HB := hide hb
      have HR := hide hrow
      clear hb p0 p1 r0 r1 hrow
      go_wp2
      refine bodyPost_ret (v := .tuple #[.agg #[.slice (some ⟨g, 0, none⟩) 4 cap, .int .i64 r.tries], .nilIface]) (by simp [results, Tryz.results27, go_sem, q0, q1]) rfl ⟨⟨_, _, rfl, ?_⟩, ?_, HK1.out.of_drop HB.out⟩
      · rw [HP2.out]
        refine Or.inr ⟨rfl, rfl, some ⟨g, 0, none⟩, 4, cap, rfl, (HO.out.ansR HW.out HS2.out).symm, Nat.le_refl _, ?_⟩
        have hge := HR.out.2 _ rfl
        have hne : ∀ a, (some ⟨g, 0, none⟩ : Option Addr) = some a → a.block ≠ w.heap.size := fun a ha => by cases ha; show g ≠ _; have : w1.heap.size ≤ g := hge; omega
        have := ((HR.out.setCell_other (p := ⟨w.heap.size, 0, none⟩) hne (.slice (some ⟨g, 0, none⟩) 4 cap)).setCell_other (p := ⟨w.heap.size, 1, none⟩) hne (.int .i64 r.tries)).mono (G := fun k => w.heap.size ≤ k) (fun k hk => by omega)
        rw [HDS.out.2.2 HW.out HS2.out] at this
        exact this
      · rw [HP2.out]; exact HD.out.of_drop HF.out HB.out
  · have HP2 : Hid (pollM S num = (⟨#[]⟩, r.tries, 7, dropM S k)) := by have := HP.out; rw [if_pos hs] at this; exact this
    have g9 : w1.cell? ⟨eb num, 9, none⟩ = some (.int .i64 3) := by simp [World.cell?, HE1.out, entC, hs]
    clear hst hs2 hs HP
    go_wp2_with fail
    refine (entry_outcome3 (eb num) num r.tries _ g0 g7 g9).mono ?_
    rintro e w2 ⟨⟨g, rfl, hr, hgz⟩, hb⟩
    have q0 := (hb.cell (p := ⟨w.heap.size, 0, none⟩) (by show w.heap.size < _; omega)).trans p0
    have q1 := (hb.cell (p := ⟨w.heap.size, 1, none⟩) (by show w.heap.size < _; omega)).trans p1
    have s0 := (hb.frozen (p := ⟨w.heap.size, 0, none⟩) (by show w.heap.size < _; omega)).trans r0
    have s1 := (hb.frozen (p := ⟨w.heap.size, 1, none⟩) (by show w.heap.size < _; omega)).trans r1
    have HR := hide hr
    have HB := hide hb
    clear hr hb p0 p1 r0 r1 g0 g7 g9
    go_wp2
    refine bodyPost_ret (v := .tuple #[.agg #[.slice none 0 0, .int .i64 0], .iface 125 (.pointer (some ⟨g, 0, none⟩))]) (by simp [results, Tryz.results27, go_sem, q0, q1]) rfl ⟨⟨_, _, rfl, ?_⟩, ?_, HK1.out.of_drop HB.out⟩
    · unfold pollErr; rw [HP2.out]
      exact Or.inl ⟨by simp, rfl, Or.inr ⟨g, rfl, poll_ret HR.out (by omega)⟩⟩
    · rw [HP2.out]; exact HD.out.of_drop HF.out HB.out
  · have HP2 : Hid (pollM S num = (⟨#[]⟩, r.tries, 8, dropM S k)) := by have := HP.out; rw [if_neg (by omega), if_pos hs] at this; exact this
    have g9 : w1.cell? ⟨eb num, 9, none⟩ = some (.int .i64 4) := by simp [World.cell?, HE1.out, entC, hs]
    clear hst hs2 hs HP
    go_wp2_with fail
    refine (entry_outcome4 (eb num) num r.tries _ g0 g7 g9).mono ?_
    rintro e w2 ⟨⟨g, rfl, hr, hgz⟩, hb⟩
    have q0 := (hb.cell (p := ⟨w.heap.size, 0, none⟩) (by show w.heap.size < _; omega)).trans p0
    have q1 := (hb.cell (p := ⟨w.heap.size, 1, none⟩) (by show w.heap.size < _; omega)).trans p1
    have s0 := (hb.frozen (p := ⟨w.heap.size, 0, none⟩) (by show w.heap.size < _; omega)).trans r0
    have s1 := (hb.frozen (p := ⟨w.heap.size, 1, none⟩) (by show w.heap.size < _; omega)).trans r1
    have HR := hide hr
    have HB := hide hb
    clear hr hb p0 p1 r0 r1 g0 g7 g9
    go_wp2
    refine bodyPost_ret (v := .tuple #[.agg #[.slice none 0 0, .int .i64 0], .iface 125 (.pointer (some ⟨g, 0, none⟩))]) (by simp [results, Tryz.results27, go_sem, q0, q1]) rfl ⟨⟨_, _, rfl, ?_⟩, ?_, HK1.out.of_drop HB.out⟩
    · unfold pollErr; rw [HP2.out]
      exact Or.inl ⟨by simp, rfl, Or.inr ⟨g, rfl, poll_ret HR.out (by omega)⟩⟩
    · rw [HP2.out]; exact HD.out.of_drop HF.out HB.out

theorem prog_poll (S : St) (F : Nat → Prop) (xb : Nat) (num : Int) (w : World) (h : ProgAt w F xb S) (hw : (Lit.int .i64 num).wf = true) :
    Calls Tryz.prog 27 #[.pointer (some ⟨xb, 0, none⟩), .int .i64 num] w fun e w' => PollEnd S num w e w' ∧ ProgAt w' F xb (pollM S num).2.2.2 ∧ Kept F w w' := by
  rcases held_cases S num with ⟨h1, h2⟩ | ⟨h1, k, hk, h2, h3, h4⟩
  · exact prog_poll_none S F xb num w h hw h1 h2
  · by_cases hs : (S.reqs[k]).state = 0 ∨ (S.reqs[k]).state = 1
    · exact prog_poll_wait S F xb num k w h hw h1 hk h2 h3 hs
    · exact prog_poll_done S F xb num k w h hw h1 hk h2 h3 h4 (by have := (h.wf.rq _ (List.getElem_mem hk)).st; omega)
end Go.Proofs.YtiabdbeejkadnabGreatDoor

/- The program's queue (stage 2's code): Tick. Own work of the verifier. -/
namespace Go.Proofs.YtiabdbeejkadnabGreatDoor
open Go.RowKit Go.Maps

/-- Tick -/
theorem prog_tick (S : St) (F : Nat → Prop) (xb : Nat) (w : World) (h : ProgAt w F xb S) (hn : 0 ≤ S.now ∧ S.now ≤ 1000000000) :
    Calls Tryz.prog 33 #[.pointer (some ⟨xb, 0, none⟩)] w fun e w' => e = .returned (.tuple #[]) ∧ ProgAt w' (Foot F w w') xb { S with now := S.now + 1 } ∧ Kept F w w' := by
  obtain ⟨hn0, hn1⟩ := hn
  obtain ⟨bm, D, eb, c, af, cf, vs, h⟩ := h
  have H := hide h
  have k1 := h.cell 1 _ h.q.c1
  have g1 := h.fz 1
  clear h
  go_enter Tryz.func33, Tryz.ntmps33
  go_wp2_with fail
  refine (orEmpty_some _ _).mono ?_
  rintro e w1 ⟨rfl, rfl⟩
  go_wp2
  go_end0
  have hsz := H.out.q.size
  have q := H.out.q
  refine ⟨rfl, ProgE.wid (F := F) ⟨bm, D, eb, c.setIfInBounds 1 (.int .i64 (S.now + 1)), af, cf, vs, ?_⟩ Foot.of (Foot.lt H.out.ltF (by simp [World.setCell])), (Kept.refl _ _).setCell (p := ⟨xb, 1, none⟩) (Or.inl H.out.own) _⟩
  refine H.out.setQ (heap_setCell_at H.out.blk _) (fun k _ hne => Below.heap_setCell _ _ _ _ hne) (by simp [World.setCell]) ⟨by simpa using hsz, ?_, ?_, ?_, ?_, ?_, ?_, ?_⟩ H.out.wf.tick rfl rfl rfl rfl
  · rw [Array.getElem?_setIfInBounds, if_neg (by decide)]; exact q.c0
  · rw [Array.getElem?_setIfInBounds, if_pos rfl, if_pos (by omega)]
  · rw [Array.getElem?_setIfInBounds, if_neg (by decide)]; exact q.c2
  · rw [Array.getElem?_setIfInBounds, if_neg (by decide)]; exact q.c3
  · rw [Array.getElem?_setIfInBounds, if_neg (by decide)]; exact q.c4
  · rw [Array.getElem?_setIfInBounds, if_neg (by decide)]; exact q.c5
  · intro j hj
    rw [Array.getElem?_setIfInBounds, if_neg (by omega)]; exact q.cd j hj
end Go.Proofs.YtiabdbeejkadnabGreatDoor

/- The program's queue (stage 2's code): Disk. Own work of the verifier. -/
namespace Go.Proofs.YtiabdbeejkadnabGreatDoor
open Go.RowKit Go.Maps

theorem ix_page (cs : Array Value) (k : Nat) (hk : k < 16) (w : World) : (Instr.index 83 (.agg cs) (.int .i64 k)).run Tryz.prog w = .ok (.agg (cs.extract (k * 4) (k * 4 + 4))) w := by
  have h2 : (Go.sizeOf 78).run Tryz.prog w = .ok 4 w := Tryz.sizeOf78 w
  simp [Instr.index, run_underlying Tryz.underlying83, asIntOf, go_sem, h2]
  intro h
  omega
theorem take4 (l : List UInt8) (a : Nat) (h : a + 4 ≤ l.length) : (l.drop a).take 4 = [l.getD a 0, l.getD (a + 1) 0, l.getD (a + 2) 0, l.getD (a + 3) 0] := by
  apply List.ext_getElem
  · simp; omega
  · intro i h1 h2
    simp at h2
    rw [List.getElem_take, List.getElem_drop]
    match i, h2 with
    | 0, _ => simp [show a < l.length by omega]
    | 1, _ => simp [show a + 1 < l.length by omega]
    | 2, _ => simp [show a + 2 < l.length by omega]
    | 3, _ => simp [show a + 3 < l.length by omega]
    | i + 4, h2 => omega
theorem encB_append (l m : List UInt8) : encB (l ++ m) = encB l ++ encB m := by simp [encB]
theorem encB_u8 (l : List UInt8) : encB l = l.map u8 := rfl
theorem page_at (l : List UInt8) (k : Nat) (h : k * 4 + 4 ≤ l.length) : (encB l).toArray.extract (k * 4) (k * 4 + 4) = #[u8 (l.getD (k * 4) 0), u8 (l.getD (k * 4 + 1) 0), u8 (l.getD (k * 4 + 2) 0), u8 (l.getD (k * 4 + 3) 0)] := by
  rw [List.extract_toArray, List.extract_eq_take_drop, encB_u8, ← List.map_drop, ← List.map_take]
  have e : k * 4 + 4 - k * 4 = 4 := by omega
  rw [e, take4 l (k * 4) h]
  rfl
theorem take_page (l : List UInt8) (k : Nat) (h : k * 4 + 4 ≤ l.length) : l.take (4 * (k + 1)) = l.take (4 * k) ++ [l.getD (k * 4) 0, l.getD (k * 4 + 1) 0, l.getD (k * 4 + 2) 0, l.getD (k * 4 + 3) 0] := by
  rw [← take4 l (k * 4) h, Nat.mul_add, Nat.mul_comm k 4, List.take_add]

set_option maxHeartbeats 1000000 in
set_option maxRecDepth 1000000 in
theorem prog_disk (S : St) (F : Nat → Prop) (xb : Nat) (w : World) (h : ProgAt w F xb S) :
    Calls Tryz.prog 18 #[.pointer (some ⟨xb, 0, none⟩)] w fun e w' => ∃ ao cap, e = .returned (.slice ao 64 cap) ∧ Row w' (fun b => w.heap.size ≤ b) 5 1 ao 64 cap (encB S.disk) ∧ Below w.heap.size w w' := by
  have hdl : S.disk.length = 64 := h.wf.disk
  obtain ⟨bm, D, eb, c, af, cf, vs, h⟩ := h
  obtain ⟨i0, hi, hi0, hi1, hi2⟩ := info_parts info_byte
  have HR : Hid (w.rangeAt xb 6 (encB S.disk)) := by
    intro j v hv
    have hj : j < 64 := by
      have e1 := (List.getElem?_eq_some_iff.1 hv).1
      simp [encB] at e1; omega
    have := h.cell (6 + j) _ (h.q.cd j hj)
    rw [encB_u8, List.getElem?_map, List.getElem?_eq_getElem (by omega)] at hv
    simp at hv
    rw [← hv]
    rw [List.getD_eq_getElem?_getD, List.getElem?_eq_getElem (by omega)] at this
    exact this
  clear h
  have HDL := hide hdl
  generalize S.disk = dk at *
  clear hdl
  go_enter Tryz.func18, Tryz.ntmps18
  go_wp2_with fail
  refine (orEmpty_some _ _).mono ?_
  rintro e w1 ⟨rfl, hw1⟩
  have hw2 := hw1.symm
  subst hw2
  clear hw1
  go_wp2_with (first | (refine wpList_load_mid rfl 83 _ rfl xb 6 rfl (encB dk) _ HR.out Tryz.underlying83 rfl (by rw [encB_u8, List.length_map, HDL.out]; kernel_rfl) ?_) | fail)
  go_loopw [3, 11] (fun l i wr => ∃ (k cap : Nat) (ao : Option Addr), k ≤ 16 ∧ i = .int .i64 k ∧ l = .slice ao (4 * k) cap ∧ Hid (Row wr (fun b => w.heap.size ≤ b) 5 1 ao (4 * k) cap (encB (dk.take (4 * k)))) ∧ Hid (Below w.heap.size w wr)) (fun _ i _ => 16 - (intOf i).toNat)
  case atStart => exact ⟨0, 0, none, Nat.zero_le _, rfl, rfl, Row.nil _ _ _ _, Below.refl _ _⟩
  case round =>
    obtain ⟨k, cap, ao, hk, rfl, rfl, hrow, hb⟩ := hrel
    by_cases hlt : k < 16
    · have hkl : k * 4 + 4 ≤ dk.length := by rw [HDL.out]; omega
      have HT := hide (take_page dk k hkl)
      have hik : ∀ W, (Instr.index 83 (.agg (encB dk).toArray) (.int .i64 k)).run Tryz.prog W = .ok (.agg #[u8 (dk.getD (k * 4) 0), u8 (dk.getD (k * 4 + 1) 0), u8 (dk.getD (k * 4 + 2) 0), u8 (dk.getD (k * 4 + 3) 0)]) W := fun W => by rw [ix_page _ k hlt W, page_at dk k hkl]
      have HV : Hid ([u8 (dk.getD (k * 4) 0), u8 (dk.getD (k * 4 + 1) 0), u8 (dk.getD (k * 4 + 2) 0), u8 (dk.getD (k * 4 + 3) 0)] = encB [dk.getD (k * 4) 0, dk.getD (k * 4 + 1) 0, dk.getD (k * 4 + 2) 0, dk.getD (k * 4 + 3) 0]) := rfl
      have H1 : Hid (∀ u ∈ [u8 (dk.getD (k * 4) 0), u8 (dk.getD (k * 4 + 1) 0), u8 (dk.getD (k * 4 + 2) 0), u8 (dk.getD (k * 4 + 3) 0)], u.oneCell' = true) := by intro u hu; simp at hu; rcases hu with rfl | rfl | rfl | rfl <;> rfl
      have e3 : Hid (∀ j, ∃ b, u8 (dk.getD j 0) = .int .u8 b) := fun j => ⟨_, rfl⟩
      obtain ⟨v0, hv0⟩ := e3.out (k * 4)
      obtain ⟨v1, hv1⟩ := e3.out (k * 4 + 1)
      obtain ⟨v2, hv2⟩ := e3.out (k * 4 + 2)
      obtain ⟨v3, hv3⟩ := e3.out (k * 4 + 3)
      rw [hv0, hv1, hv2, hv3] at hik HV H1
      clear hv0 hv1 hv2 hv3 e3
      have HO : Hid ((wr.alloc (.cells #[.int .u8 v0, .int .u8 v1, .int .u8 v2, .int .u8 v3] 78)).ownsRow 0 5 1 (.slice ao (4 * k) cap) (4 * k) (encB (dk.take (4 * k)))) := (hrow.out.alloc _).1
      have HW : Hid (∀ (t : Nat) (u : Value), [Value.int .u8 v0, .int .u8 v1, .int .u8 v2, .int .u8 v3][t]? = some u → (wr.alloc (.cells #[.int .u8 v0, .int .u8 v1, .int .u8 v2, .int .u8 v3] 78)).cell? ((⟨wr.heap.size, 0, none⟩ : Addr).add t) = some u) := fun t u => news_new t u
      go_wp2_with (at_builtin; go_must (refine wpList_append_lies _ rfl (.tmp 14) (.tmp 15) 37 rfl 0 5 i0 (.int .u8 0) 1 1 Tryz.underlying37 hi hi0 hi1 hi2 rfl (by decide) (.slice ao (4 * k) cap) (4 * k) (encB (dk.take (4 * k))) rfl HO.out ⟨wr.heap.size, 0, none⟩ 4 4 [Value.int .u8 v0, .int .u8 v1, .int .u8 v2, .int .u8 v3] rfl rfl HW.out H1.out (by decide) (by unfold maxLen; omega) (by omega) (Nat.zero_le _) (wr.heap.size + 1) (by simp) ?_; intro g cap' w2 hown hgrow hat hlt3; have HX := hide (own_rel hb.out hrow.out hgrow hown hat); clear hown hgrow hat hlt3))
      go_roundw
      case rel => exact ⟨k + 1, cap', some ⟨g, 0, none⟩, by omega, by go_num, by rw [Nat.mul_add], by have := HX.out.2; rw [HV.out, ← encB_append, ← HT.out] at this; exact this, HX.out.1⟩
      case measure => simp [intOf]; omega
    · have HE : Hid (k = 16) := by show k = 16; omega
      go_wp2
      go_ret
      refine ⟨ao, cap, ?_, ?_, hb.out⟩
      · rw [HE.out]; rfl
      · have := hrow.out
        rw [HE.out, List.take_of_length_le (by rw [HDL.out]; omega)] at this
        exact this
end Go.Proofs.YtiabdbeejkadnabGreatDoor

/- math/bits.Len's contract at this dump (after the kit's lay-plain.mjs). -/
namespace Go.Proofs
open Go.Shelf
def Tryz.lays125_ren : Go.Shelf.Ren := ⟨fun | 125 => 56 | 128 => 82 | 129 => 83 | n => n, fun | 3 => 3 | 46 => 118 | 51 => 148 | 53 => 150 | 4 => 4 | 5 => 5 | 9 => 9 | n => n, fun | n => n⟩
theorem Tryz.lays125 : Go.Proofs.Lays.n125 Tryz.prog Tryz.lays125_ren := {
  mixed := by kernel_rfl
  f125 := Tryz.func56.trans (congrArg some (by kernel_rfl))
  f128 := Tryz.func82.trans (congrArg some (by kernel_rfl))
  f129 := Tryz.func83.trans (congrArg some (by kernel_rfl))
  t3 := Tryz.underlying3
  a3 := Tryz.isAgg3
  z3 := Tryz.sizeOf3
  v3 := Tryz.zeroValue3
  t4 := Tryz.underlying4
  a4 := Tryz.isAgg4
  z4 := Tryz.sizeOf4
  v4 := Tryz.zeroValue4
  t5 := Tryz.underlying5
  a5 := Tryz.isAgg5
  z5 := Tryz.sizeOf5
  v5 := Tryz.zeroValue5
  t9 := Tryz.underlying9
  a9 := Tryz.isAgg9
  z9 := Tryz.sizeOf9
  v9 := Tryz.zeroValue9
  t46 := Tryz.underlying118
  a46 := Tryz.isAgg118
  z46 := Tryz.sizeOf118
  v46 := Tryz.zeroValue118
  t51 := Tryz.underlying148
  a51 := Tryz.isAgg148
  z51 := Tryz.sizeOf148
  v51 := Tryz.zeroValue148
  t53 := Tryz.underlying150
  a53 := Tryz.isAgg150
  z53 := Tryz.sizeOf150
  v53 := Tryz.zeroValue150 }
end Go.Proofs
