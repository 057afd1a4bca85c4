import Derived.Test.YtiabdbeejkadnabGreatDoorJb72f04db65
import Derived.Test.YtiabdbeejkadnabGreatDoorJbaef701712
import Derived.Test.YtiabdbeejkadnabGreatDoorJc6dfd1b03d
/- The program's queue (stage 2's code): Cancel, Tick, Now; plain.Cancel. Own work of the verifier. -/
namespace Go.Proofs.YtiabdbeejkadnabGreatDoor
open Go.RowKit Go.Maps

/-- what Cancel's error tells -/
def cancelErr (S : St) (num : Int) : Int × Int × Int := if (cancelM S num).1 = 9 then (9, num, (cancelM S num).2.1) else ((cancelM S num).1, -1, 0)
theorem cancel_none {S : St} {num : Int} (hp : placeM S num = -1) : cancelM S num = (5, 0, S) := by
  unfold cancelM; rw [hp]; rfl
theorem cancel_at {S : St} {num : Int} {k : Nat} (hk : k < S.reqs.length) (hp : placeM S num = k) : cancelM S num = if 2 ≤ (S.reqs[k]).state then (9, (S.reqs[k]).tries, S) else (0, 0, { S with reqs := setState S.reqs k 4 }) := by
  unfold cancelM
  rw [hp, if_neg (by omega)]
  have e : ((k : Int)).toNat = k := by omega
  rw [e]
  dsimp only
  rw [getD_of hk]

set_option maxHeartbeats 1000000 in
theorem prog_cancel (S : St) (F : Nat → Prop) (xb : Nat) (num : Int) (w : World) (h : ProgAt w F xb S) (hw : (Lit.int .i64 num).wf = true) :
    Calls Tryz.prog 26 #[.pointer (some ⟨xb, 0, none⟩), .int .i64 num] w fun e w' => (∃ ev, e = .returned ev ∧ ErrIs w' ev (cancelErr S num).1 (cancelErr S num).2.1 (cancelErr S num).2.2) ∧ ProgAt w' (Foot F w w') xb (cancelM S num).2.2 ∧ Kept F w w' := by
  have H0 := hide h
  obtain ⟨bm, D, eb, c, af, cf, vs, h⟩ := h
  have H := hide h
  have k3 := h.cell 3 _ h.q.c3
  have hlk := h.look (W := w) num hw rfl
  clear h hw
  rcases held_cases S num with ⟨h1, h2⟩ | ⟨h1, k, hk, h2, h3, _⟩
  · rw [h1] at hlk
    have HP := hide (cancel_none h2)
    clear h1 h2
    go_enter Tryz.func26, Tryz.ntmps26
    go_wp2_with fail
    refine (orEmpty_some _ _).mono ?_
    rintro e w1 ⟨rfl, rfl⟩
    go_wp2
    go_ret
    refine ⟨⟨_, rfl, ?_⟩, ?_, Kept.refl _ _⟩
    · unfold cancelErr; rw [HP.out]; exact Or.inl ⟨rfl, rfl, rfl⟩
    · rw [HP.out]; exact H0.out.grow (Below.refl _ _)
  · rw [h1] at hlk
    simp only [if_true] at hlk
    obtain ⟨ds, hds, he⟩ := H.out.e.ent _ (List.getElem_mem hk)
    have HDS := hide hds
    have hE : F (eb num) := by rw [← h3]; exact H.out.e.entF _ (List.getElem_mem hk)
    have HN := hide h3
    have HWf := hide H.out.wf
    rw [h3] at he
    have e0 : w.cell? ⟨eb num, 0, none⟩ = some (.int .i64 num) := by simp [World.cell?, he, entC, h3]
    have e7 : w.cell? ⟨eb num, 7, none⟩ = some (.int .i64 (S.reqs[k]).tries) := by simp [World.cell?, he, entC]
    have e9 : w.cell? ⟨eb num, 9, none⟩ = some (.int .i64 (S.reqs[k]).state) := by simp [World.cell?, he, entC]
    have f9 : w.frozen? ⟨eb num, 9, none⟩ = false := by simp [World.frozen?, he]
    have HE := hide he
    clear h1 he h3 hds
    by_cases hs : 2 ≤ (S.reqs[k]).state
    · have HP : Hid (cancelM S num = (9, (S.reqs[k]).tries, S)) := by show _ = _; rw [cancel_at hk h2, if_pos hs]
      have HS := hide hs
      clear h2 hs
      generalize (S.reqs[k]).tries = tr at *
      go_enter Tryz.func26, Tryz.ntmps26
      go_wp2_with fail
      refine (orEmpty_some _ _).mono ?_
      rintro e w1 ⟨rfl, rfl⟩
      go_wp2_with fail
      refine (entry_not_pending (eb num) _ _ e9 HS.out).mono ?_
      rintro e w2 ⟨rfl, rfl⟩
      go_wp2_with fail
      refine (entry_fault (eb num) num tr 9 _ e0 e7).mono ?_
      rintro e w1 ⟨rfl, hr, hb⟩
      have HR := hide hr
      have HB := hide hb
      clear hr hb hlk
      go_wp2
      go_ret
      refine ⟨⟨_, rfl, ?_⟩, ?_, Go.Proofs.YtiabdbeejkadnabGreatDoor.Below.kept HB.out F⟩
      · unfold cancelErr; rw [HP.out]; exact Or.inr ⟨_, rfl, HR.out⟩
      · rw [HP.out]; exact H0.out.grow HB.out
    · have HP : Hid (cancelM S num = (0, 0, { S with reqs := setState S.reqs k 4 })) := by show _ = _; rw [cancel_at hk h2, if_neg hs]
      have HS : Hid ((S.reqs[k]).state = 0 ∨ (S.reqs[k]).state = 1) := by have := (H.out.wf.rq _ (List.getElem_mem hk)).st; show _ ∨ _; omega
      clear h2 hs e0 e7
      go_enter Tryz.func26, Tryz.ntmps26
      go_wp2_with fail
      refine (orEmpty_some _ _).mono ?_
      rintro e w1 ⟨rfl, rfl⟩
      go_wp2_with fail
      refine (entry_pending (eb num) _ _ e9 HS.out).mono ?_
      rintro e w2 ⟨rfl, rfl⟩
      go_wp2
      go_ret
      have hb : ProgBlk (w2.setCell ⟨eb num, 9, none⟩ (.int .i64 4)) F xb { S with reqs := S.reqs.set k { (S.reqs[k]) with state := 4 } } [] bm D eb c af cf vs := by
        refine H.out.setE hk (ds := ds) rfl ⟨HDS.out.1, HDS.out.2.1, fun _ e => by cases e⟩ ?_ (fun b _ hne => Below.heap_setCell _ _ _ _ (by rw [HN.out] at hne; exact hne)) (by simp [World.setCell]) ?_
        · rw [HN.out, heap_setCell_at HE.out]; rfl
        · have := HWf.out.cancel hk (by have := HS.out; omega)
          rw [setState_eq _ _ _ hk] at this
          exact this
      refine ⟨⟨_, rfl, ?_⟩, ?_, (Kept.refl _ _).setCell (p := ⟨eb num, 9, none⟩) (Or.inl hE) _⟩
      · unfold cancelErr; rw [HP.out]; exact Or.inl ⟨rfl, rfl, rfl⟩
      · rw [HP.out, setState_eq _ _ _ hk]; exact ProgE.wid (F := F) ⟨bm, D, eb, c, af, cf, vs, hb⟩ Foot.of (Foot.lt H.out.ltF (by simp [World.setCell]))

set_option maxHeartbeats 1000000 in
theorem plain_cancel (S : St) (F : Nat → Prop) (xb : Nat) (num : Int) (w : World) (h : ProgAt w F xb S) (hg : GCell w) (h0 : ¬ F 0) (hw : (Lit.int .i64 num).wf = true) :
    Calls Tryz.prog 9 #[.pointer (some ⟨xb, 0, none⟩), .int .i64 num] w fun e w' => e = .returned (.agg #[.int .i64 (cancelErr S num).1, .int .i64 (cancelErr S num).2.1, .int .i64 (cancelErr S num).2.2, .bool true]) ∧ ProgAt w' (Foot F w w') xb (cancelM S num).2.2 ∧ Kept F w w' := by
  have H : Hid (ProgAt w F xb S) := h
  have hF := h.lt
  have hnF : ¬ F w.heap.size := fun e => by have := hF _ e; omega
  have HF : Hid (∀ k, F k → k < w.heap.size) := hF
  have HG : Hid (GCell w) := hg
  have HW := hide hw
  clear h hF hg hw
  generalize hA : cancelErr S num = r
  obtain ⟨k, n, t⟩ := r
  have HA : Hid (cancelErr S num = (k, n, t)) := hA
  clear hA
  generalize hS : (cancelM S num).2.2 = S'
  have HS : Hid ((cancelM S num).2.2 = S') := hS
  clear hS
  go_enter Tryz.func9, Tryz.ntmps9
  go_wp2_with fail
  refine (prog_cancel S F xb num _ (H.out.same (fun k _ hk => Below.heap_alloc w _ k hk) (by simp)) HW.out).mono ?_
  rintro e w1 ⟨⟨ev, rfl, hE⟩, hP, hK⟩
  rw [HA.out] at hE
  rw [HS.out] at hP
  have HP : Hid (ProgAt w1 (Foot F (w.alloc (.cells #[.int .i64 0, .int .i64 0, .int .i64 0, .bool false] 35)) w1) xb S') := hP
  have HK : Hid (Kept F (w.alloc (.cells #[.int .i64 0, .int .i64 0, .int .i64 0, .bool false] 35)) w1) := hK
  have hg1 : GCell w1 := (HG.out.below (alloc_below _ _)).kept hK h0
  have hz1 : w.heap.size < w1.heap.size := by have := hK.size; simp at this; omega
  obtain ⟨⟨a0, a1, a2, a3⟩, b0, b1, b2, b3⟩ := err_cells hK hnF
  have HE := hide hE
  clear hP hK hE
  go_wp2_with fail
  refine (told_is HE.out hg1).mono ?_
  rintro e w2 ⟨rfl, hb⟩
  have a0' := (hb.cell (p := ⟨w.heap.size, 0, none⟩) hz1).trans a0
  have a1' := (hb.cell (p := ⟨w.heap.size, 1, none⟩) hz1).trans a1
  have a2' := (hb.cell (p := ⟨w.heap.size, 2, none⟩) hz1).trans a2
  have a3' := (hb.cell (p := ⟨w.heap.size, 3, none⟩) hz1).trans a3
  have b0' := (hb.frozen (p := ⟨w.heap.size, 0, none⟩) hz1).trans b0
  have b1' := (hb.frozen (p := ⟨w.heap.size, 1, none⟩) hz1).trans b1
  have b2' := (hb.frozen (p := ⟨w.heap.size, 2, none⟩) hz1).trans b2
  have b3' := (hb.frozen (p := ⟨w.heap.size, 3, none⟩) hz1).trans b3
  have HB := hide hb
  clear hb a0 a1 a2 a3 b0 b1 b2 b3
  go_wp2
  exact bodyPost_ret (v := .agg #[.int .i64 k, .int .i64 n, .int .i64 t, .bool true]) (by simp [results, Tryz.results9, go_sem, a0', a1', a2', a3']) rfl ⟨rfl, plain_fin _ _ _ _ HP.out HK.out HB.out HF.out⟩
end Go.Proofs.YtiabdbeejkadnabGreatDoor

/- The keeps: cancel. Own work of the verifier. -/
namespace Go.Proofs.YtiabdbeejkadnabGreatDoor
open Go.RowKit Go.Maps

theorem encK_how (l : List KR) (i : Nat) (v : Int) (hi : i < l.length) : (l.flatMap encK).set (i * 6 + 4) (.int .i64 v) = (l.set i { l[i] with how := v }).flatMap encK := by
  induction l generalizing i with
  | nil => simp at hi
  | cons a l ih =>
    cases i with
    | zero => simp [encK]
    | succ i =>
      have hl : (encK a).length = 6 := rfl
      have e : (i + 1) * 6 + 4 = (encK a).length + (i * 6 + 4) := by rw [hl]; omega
      rw [List.flatMap_cons, e, List.set_append_right _ _ (by omega), Nat.add_sub_cancel_left, ih i (by simpa using hi)]
      simp
theorem KAt.how {W : World} {G : Nat → Prop} {wb xb : Nat} {S : St} {rs : List KR} (h : KAt W G wb xb S rs) {i : Nat} (hi : i < rs.length) : ∃ g cr, W.cell? ⟨wb, 1, none⟩ = some (.slice (some ⟨g, 0, none⟩) rs.length cr) ∧ wb < W.heap.size ∧ g < W.heap.size ∧ G g ∧ (∀ t, t < 6 → W.cell? ⟨g, i * 6 + t, none⟩ = (encK rs[i])[t]?) ∧ (∀ j, W.frozen? ⟨g, j, none⟩ = false) ∧ wb ≠ g ∧ ∀ v, KAt (W.setCell ⟨g, i * 6 + 4, none⟩ (.int .i64 v)) G wb xb S (rs.set i { rs[i] with how := v }) := by
  obtain ⟨Fx, Fk, ar, cr, hP, hB, hd, hF⟩ := h
  obtain ⟨g, cur, hgg, hgF, hgb, _, _⟩ := Row.some hB.row (by omega)
  subst hgg
  have hwg : wb ≠ g := fun e => hB.row.ne hB.blk (by decide) _ rfl e.symm
  refine ⟨g, cr, hB.c1, lt_of_heap hB.blk, lt_of_heap hgb, (hF g).2 (Or.inr hgF), fun t ht => by rw [Row.cellAt hB.row (i * 6 + t) (by omega), encK_at rs i t hi ht], fun j => hB.row.frozenAt j, hwg, fun v => ?_⟩
  have hrow := hB.row.stored (i * 6 + 4) (.int .i64 v)
  rw [encK_how rs i v hi] at hrow
  refine ⟨Fx, Fk, some ⟨g, 0, none⟩, cr, hP.same (fun k hk _ => Below.heap_setCell _ _ _ _ (fun e => hd k hk (by have e' : k = g := e; rw [e']; exact hgF))) (by simp [World.setCell]), ⟨hB.own, ?_, by rw [List.length_set]; exact hrow, fun k hk => by have := hB.ltF k hk; simpa [World.setCell] using this⟩, hd, hF⟩
  rw [Below.heap_setCell _ _ _ _ hwg, List.length_set]; exact hB.blk
/-- behind plain.Cancel -/
def CanMid (w : World) (F : Nat → Prop) (wb xb : Nat) (S' : St) (rs : List KR) (e1 e2 e3 : Int) (wx : World) (eb : Nat) : Prop :=
  ∃ G : Nat → Prop, KAt wx G wb xb S' rs ∧ (∀ k, G k → F k ∨ w.heap.size ≤ k) ∧ ¬ G eb ∧ Kept F w wx ∧ wx.heap[eb]? = some (.cells #[.int .i64 e1, .int .i64 e2, .int .i64 e3, .bool true] 35 (0, 0)) ∧ w.heap.size ≤ eb
theorem can_mid {w WW w2 wx : World} {F : Nat → Prop} {wb xb eb : Nat} {S' : St} {rs : List KR} {e1 e2 e3 : Int} (hb : Below w.heap.size w WW) (hR : KAt w2 (Foot F WW w2) wb xb S' rs ∧ Kept F WW w2) (hlt : ∀ k, F k → k < w.heap.size) (p : Put w2 wx eb #[.int .i64 e1, .int .i64 e2, .int .i64 e3, .bool true] 35) (h1 : w.heap.size ≤ eb ∧ (eb < WW.heap.size ∨ w2.heap.size ≤ eb)) : CanMid w F wb xb S' rs e1 e2 e3 wx eb := by
  have z1 := hb.size
  have z2 := hR.2.size
  have z3 := p.size
  have hne : ¬ Foot F WW w2 eb := fun e => by
    rcases e with e | e
    · have := hlt _ e; omega
    · omega
  refine ⟨Foot F WW w2, hR.1.same (fun k hk hl => p.rest k hl (fun e => hne (e ▸ hk))) z3, fun k hk => ?_, hne, ⟨p.os.trans (hR.2.os.trans hb.os), p.tape.trans (hR.2.tape.trans hb.tape), p.output.trans (hR.2.output.trans hb.output), by omega, fun k hk hn => ?_⟩, p.at_, h1.1⟩
  · rcases hk with e | e
    · exact Or.inl e
    · exact Or.inr (by omega)
  · rw [p.rest k (by omega) (by omega), hR.2.block k (by omega) hn]
    exact hb.block k hk
theorem keep_plainCancel (S : St) (rs : List KR) (F : Nat → Prop) (wb xb : Nat) (num : Int) (w : World) (h : KAt w F wb xb S rs) (hg : GCell w) (h0 : ¬ F 0) (hw : (Lit.int .i64 num).wf = true) :
    Calls Tryz.prog 9 #[.pointer (some ⟨xb, 0, none⟩), .int .i64 num] w fun e w' => e = .returned (.agg #[.int .i64 (cancelErr S num).1, .int .i64 (cancelErr S num).2.1, .int .i64 (cancelErr S num).2.2, .bool true]) ∧ (KAt w' (Foot F w w') wb xb (cancelM S num).2.2 rs ∧ Kept F w w') ∧ w'.cell? ⟨wb, 0, none⟩ = some (.pointer (some ⟨xb, 0, none⟩)) ∧ ∀ g c, w.cell? ⟨wb, 1, none⟩ = some (.slice (some ⟨g, 0, none⟩) rs.length c) → w'.cell? ⟨wb, 1, none⟩ = some (.slice (some ⟨g, 0, none⟩) rs.length c) ∧ ∀ j, w'.cell? ⟨g, j, none⟩ = w.cell? ⟨g, j, none⟩ := by
  obtain ⟨Fx, Fk, ar, cr, hP, hB, hd, hF⟩ := h
  refine (plain_cancel S Fx xb num w hP hg (fun e => h0 ((hF 0).2 (Or.inl e))) hw).mono ?_
  rintro e w1 ⟨rfl, hP1, hK1⟩
  have hB1 := hB.kept hK1 (fun k hk e => hd k e hk)
  refine ⟨rfl, KAt.lift hP.lt hB hd hF hP1 (fun k hk => hk) hK1, hB1.c0, fun g c hgc => ?_⟩
  rw [hB.c1] at hgc
  have hgc := Option.some.inj hgc
  injection hgc with h1 h2 h3
  subst h1 h3
  refine ⟨hB1.c1, fun j => ?_⟩
  obtain ⟨cur, hcur, _⟩ := hB.row.block rfl
  exact hK1.cell (p := ⟨g, j, none⟩) (lt_of_heap hcur) (fun e => hd _ e (hB.row.2 ⟨g, 0, none⟩ rfl))
set_option maxHeartbeats 4000000 in
set_option maxRecDepth 1000000 in
theorem keep_cancel (S S' : St) (k t : Int) (r : KR) (rs : List KR) (F : Nat → Prop) (wb xb i : Nat) (w : World) (h : KAt w F wb xb S rs) (hg : GCell w) (h0 : ¬ F 0) (hi : i < rs.length) (hr : rs[i] = r) (_hl : rs.length ≤ 100000) (hlast : S.last ≤ 1000000) (hw : (Lit.int .i64 r.num).wf = true) (hc : cancelM S r.num = (k, t, S')) (ho : (k = 0 ∧ r.how = 0) ∨ k = 9 ∨ k = 5) :
    Calls Tryz.prog 34 #[.pointer (some ⟨wb, 0, none⟩), .int .i64 (i : Int)] w fun e w' => e = .returned (.bool true) ∧ KAt w' (Foot F w w') wb xb S' (if k = 0 then rs.set i { r with how := if flownB S.flights r.num then 4 else 3 } else rs) ∧ Kept F w w' := by
  have HK := hide h
  have HFL := hide (keep_flies S rs F wb xb r.num w h hlast)
  obtain ⟨g, cr, c1, hwl, hgl, hgG, hq, hfz, hwg, hset⟩ := h.how hi
  have c0 := h.q0.1
  have q0 : w.cell? ⟨g, i * 6, none⟩ = some (.int .i64 r.num) := by have := hq 0 (by omega); rw [hr] at this; exact this
  have hii : (i : Int) < (rs.length : Int) := by omega
  have HLW := hide h.lt
  have HG := hide hg
  have H0 := hide h0
  have HW := hide hw
  have HC := hide hc
  clear h hg h0 hw hq hfz hset hc
  go_enter Tryz.func34, Tryz.ntmps34
  go_wp2_with fail
  refine HFL.out.mono ?_
  rintro e w1 ⟨rfl, hb1⟩
  generalize hair : flownB S.flights r.num = air at *
  have HB1 := hide hb1
  have HK1 := hide (HK.out.below hb1)
  have hz1 := hb1.size
  have d0 := (hb1.cell (p := ⟨wb, 0, none⟩) hwl).trans c0
  have d1 := (hb1.cell (p := ⟨wb, 1, none⟩) hwl).trans c1
  have d2 := (hb1.cell (p := ⟨g, i * 6, none⟩) hgl).trans q0
  have hwl1 : wb < w1.heap.size := by omega
  have hgl1 : g < w1.heap.size := by omega
  have hlt : Hid (∀ k, F k → k < w1.heap.size) := fun k hk => by have := HK.out.lt k hk; omega
  have HN : Hid (∀ k, w1.heap.size ≤ k → ¬ F k) := fun k hk e => by have := hlt.out k e; omega
  obtain ⟨e1, e2, e3, he⟩ : ∃ e1 e2 e3, cancelErr S r.num = (e1, e2, e3) := ⟨_, _, _, rfl⟩
  have HE : Hid ((e1, e2, e3) = if k = 9 then (9, r.num, t) else (k, -1, 0)) := by rw [Hid, ← he]; unfold cancelErr; rw [HC.out]
  have HCall : Hid (∀ WW, Below w1.heap.size w1 WW → Calls Tryz.prog 9 #[.pointer (some ⟨xb, 0, none⟩), .int .i64 r.num] WW fun e w2 => e = .returned (.agg #[.int .i64 e1, .int .i64 e2, .int .i64 e3, .bool true]) ∧ (w2.cell? ⟨wb, 0, none⟩ = some (.pointer (some ⟨xb, 0, none⟩)) ∧ w2.cell? ⟨wb, 1, none⟩ = some (.slice (some ⟨g, 0, none⟩) rs.length cr) ∧ w2.cell? ⟨g, i * 6, none⟩ = some (.int .i64 r.num)) ∧ KAt w2 (Foot F WW w2) wb xb S' rs ∧ Kept F WW w2) := fun WW hb => by
    have hbb : Below w.heap.size w WW := HB1.out.trans (hb.mono hz1)
    have := keep_plainCancel S rs F wb xb r.num WW (HK.out.below hbb) (HG.out.below hbb) H0.out HW.out
    rw [HC.out, he] at this
    refine this.mono ?_
    rintro e w2 ⟨f1, f2, f3, f4⟩
    obtain ⟨f5, f6⟩ := f4 g cr ((hb.cell (p := ⟨wb, 1, none⟩) hwl1).trans d1)
    exact ⟨f1, ⟨f3, f5, (f6 _).trans ((hb.cell (p := ⟨g, i * 6, none⟩) hgl1).trans d2)⟩, f2⟩
  clear hb1 c0 c1 q0 hwl hgl HFL HK HG he
  have ne0 : w1.heap.size ≠ wb := by omega
  have ne1 : w1.heap.size ≠ g := by omega
  go_wp2_with fail
  go_cut [6] from 18 (fun ve wx => ∃ eb, ve = .pointer (some ⟨eb, 0, none⟩) ∧ Hid (CanMid w1 F wb xb S' rs e1 e2 e3 wx eb))
  case first =>
    go_region_held3 (fun W => W.cell? ⟨wb, 0, none⟩ = some (.pointer (some ⟨xb, 0, none⟩)) ∧ W.cell? ⟨wb, 1, none⟩ = some (.slice (some ⟨g, 0, none⟩) rs.length cr) ∧ W.cell? ⟨g, i * 6, none⟩ = some (.int .i64 r.num)) (go_keep)
      (first | (go_at_call 9; refine (HCall.out _ ?_).mono ?_; (first | exact (Below.refl _ _).drew | exact (alloc_below _ _).drew | exact (Below.refl _ _) | exact (alloc_below _ _)); rintro e w2 ⟨rfl, ⟨hc0, hc1, hc2⟩, hR⟩; have HR := hide hR; clear hR; (first | (obtain ⟨pe, pz⟩ := pcE HR.out.2 HN.out; obtain ⟨⟨b0, b1, b2, b3⟩, b4, b5, b6, b7⟩ := cells4 pe; have PE := hide pe; clear pe) | skip)))
    all_goals go_wp2_with fail
    all_goals go_meet
    all_goals go_light
    all_goals clear HCall
    all_goals refine ⟨_, rfl, ?_⟩
    · exact can_mid (Below.refl _ _).drew HR.out hlt.out (kput_alloc rfl) ⟨HR.out.2.size, Or.inr (Nat.le_refl _)⟩
    · exact can_mid (alloc_below _ _).drew HR.out hlt.out (kput4 PE.out) ⟨Nat.le_refl _, Or.inl (lt_alloc1 _ _)⟩
  case rest =>
    obtain ⟨eb, rfl, hmid⟩ := hcut
    obtain ⟨G, hA, hG, hGe, hKk, hE4, hez⟩ := hmid.out
    obtain ⟨⟨b0, b1, b2, b3⟩, _⟩ := cells4 hE4
    have hel := lt_of_heap hE4
    have HA := hide hA
    have HGG := hide hG
    have HKW : Hid (Kept F w wc) := (Go.Proofs.YtiabdbeejkadnabGreatDoor.Below.kept HB1.out F).then hKk
    clear hmid hA hG hGe hKk hE4 HCall d0 d1 d2 ne0 ne1
    go_wp2_with fail
    refine (keep_fine e1 e2 e3 _).mono ?_
    rintro e w3 ⟨rfl, hb3⟩
    have hz3 := hb3.size
    have b0' := (hb3.cell (p := ⟨eb, 0, none⟩) hel).trans b0
    have hel3 : eb < w3.heap.size := by omega
    have HA3 := hide (HA.out.below hb3)
    have HK3 := hide (HKW.out.below hb3)
    have HFT : Hid (∀ W', w3.heap.size ≤ W'.heap.size → ∀ k, G k → Foot F w W' k) := fun W' hW k hk => by
      rcases HGG.out k hk with e | e
      · exact Or.inl e
      · have := HA3.out.lt k hk; exact Or.inr ⟨by omega, by omega⟩
    have HLT : Hid (∀ W', w3.heap.size ≤ W'.heap.size → ∀ k, Foot F w W' k → k < W'.heap.size) := fun W' hW k hk => by
      rcases hk with e | e
      · have := HLW.out k e; have := HK3.out.size; omega
      · exact e.2
    clear hb3 b0 b1 b2 b3
    rcases ho with ⟨hk0, hh0⟩ | hk9
    · subst hk0
      have := HE.out
      rw [if_neg (by decide)] at this
      cases this
      have ef : fineB 0 (-1) 0 = true := rfl
      rw [ef]
      obtain ⟨g', cr', c1', hwl', hgl', hgG', hq', hfz', hwg', hset'⟩ := HA3.out.how hi
      have q4 : w3.cell? ⟨g', i * 6 + 4, none⟩ = some (.int .i64 0) := by have := hq' 4 (by omega); rw [hr] at this; rw [this, ← hh0]; rfl
      have f4 := hfz' (i * 6 + 4)
      have HEXT : Hid (Ext F w g') := by
        rcases HGG.out g' hgG' with e | e
        · exact Or.inl e
        · exact Or.inr (by omega)
      have HS3 := hide (hset' 3)
      have HS4 : Hid (KAt ((w3.setCell ⟨g', i * 6 + 4, none⟩ (.int .i64 3)).setCell ⟨g', i * 6 + 4, none⟩ (.int .i64 4)) G wb xb S' (rs.set i { r with how := 4 })) := by
        obtain ⟨g2, cr2, c2, _, _, _, _, _, _, hset2⟩ := HS3.out.how (i := i) (by simpa using hi)
        have : (w3.setCell ⟨g', i * 6 + 4, none⟩ (.int .i64 3)).cell? ⟨wb, 1, none⟩ = some (.slice (some ⟨g', 0, none⟩) rs.length cr') := (World.cell?_of_block (a := ⟨wb, 1, none⟩) (Below.heap_setCell _ _ _ _ hwg')).trans c1'
        rw [this] at c2
        have c2 := Option.some.inj c2
        injection c2 with h1 h2 h3
        have h1 := Option.some.inj h1
        injection h1 with h1 _ _
        subst h1
        have := hset2 4
        simp only [List.set_set, List.getElem_set_self, hr] at this
        exact this
      rw [hr] at HS3
      have HZ : Hid (∀ v, (w3.setCell ⟨g', i * 6 + 4, none⟩ v).heap.size = w3.heap.size) := fun v => by simp [World.setCell]
      have HZ2 : Hid (∀ v v', ((w3.setCell ⟨g', i * 6 + 4, none⟩ v).setCell ⟨g', i * 6 + 4, none⟩ v').heap.size = w3.heap.size) := fun v v' => by simp [World.setCell]
      clear hq' hfz' hset' hgG' HE hr
      cases air with
      | false =>
        go_wp2
        go_ret
        exact ⟨rfl, HS3.out.wid (HFT.out _ (Nat.le_of_eq (HZ.out _).symm)) (HLT.out _ (Nat.le_of_eq (HZ.out _).symm)), HK3.out.setCell HEXT.out _⟩
      | true =>
        go_wp2
        go_ret
        exact ⟨rfl, HS4.out.wid (HFT.out _ (Nat.le_of_eq (HZ2.out _ _).symm)) (HLT.out _ (Nat.le_of_eq (HZ2.out _ _).symm)), (HK3.out.setCell HEXT.out _).setCell HEXT.out _⟩
    · have HEND : Hid (KAt w3 (Foot F w w3) wb xb S' rs ∧ Kept F w w3) := ⟨HA3.out.wid (HFT.out _ (Nat.le_refl _)) (HLT.out _ (Nat.le_refl _)), HK3.out⟩
      rcases hk9 with hk9 | hk5
      · subst hk9
        have := HE.out
        rw [if_pos rfl] at this
        cases this
        have ef : fineB 9 r.num t = false := rfl
        rw [ef]
        clear HE
        go_wp2
        go_ret
        exact ⟨rfl, HEND.out⟩
      · subst hk5
        have := HE.out
        rw [if_neg (by decide)] at this
        cases this
        have ef : fineB 5 (-1) 0 = false := rfl
        rw [ef]
        clear HE
        go_wp2
        go_ret
        exact ⟨rfl, HEND.out⟩
end Go.Proofs.YtiabdbeejkadnabGreatDoor
