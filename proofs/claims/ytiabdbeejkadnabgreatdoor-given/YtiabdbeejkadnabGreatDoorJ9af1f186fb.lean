import Derived.Test.YtiabdbeejkadnabGreatDoorJbaef701712
import Derived.Test.YtiabdbeejkadnabGreatDoorJ4e0f76dad7
import Derived.Test.YtiabdbeejkadnabGreatDoorJ7bf812f089
/- The keeps: cancel. Own work of the verifier. -/
namespace Go.Proofs.YtiabdbeejkadnabGreatDoor
open Go.RowKit Go.Maps

theorem encK_how (l : List KR) (i : Nat) (v : Int) (hi : i < l.length) : (l.flatMap encK).set (i * 6 + 4) (.int .i64 v) = (l.set i { l[i] with how := v }).flatMap encK := by
  induction l generalizing i with
  | nil => simp at hi
  | cons a l ih =>
    cases i with
    | zero => simp [encK]
    | succ i =>
      have hl : (encK a).length = 6 := rfl
      have e : (i + 1) * 6 + 4 = (encK a).length + (i * 6 + 4) := by rw [hl]; omega
      rw [List.flatMap_cons, e, List.set_append_right _ _ (by omega), Nat.add_sub_cancel_left, ih i (by simpa using hi)]
      simp
theorem KAt.how {W : World} {G : Nat → Prop} {wb xb : Nat} {S : St} {rs : List KR} (h : KAt W G wb xb S rs) {i : Nat} (hi : i < rs.length) : ∃ g cr, W.cell? ⟨wb, 1, none⟩ = some (.slice (some ⟨g, 0, none⟩) rs.length cr) ∧ wb < W.heap.size ∧ g < W.heap.size ∧ G g ∧ (∀ t, t < 6 → W.cell? ⟨g, i * 6 + t, none⟩ = (encK rs[i])[t]?) ∧ (∀ j, W.frozen? ⟨g, j, none⟩ = false) ∧ wb ≠ g ∧ ∀ v, KAt (W.setCell ⟨g, i * 6 + 4, none⟩ (.int .i64 v)) G wb xb S (rs.set i { rs[i] with how := v }) := by
  obtain ⟨Fx, Fk, ar, cr, hP, hB, hd, hF⟩ := h
  obtain ⟨g, cur, hgg, hgF, hgb, _, _⟩ := Row.some hB.row (by omega)
  subst hgg
  have hwg : wb ≠ g := fun e => hB.row.ne hB.blk (by decide) _ rfl e.symm
  refine ⟨g, cr, hB.c1, lt_of_heap hB.blk, lt_of_heap hgb, (hF g).2 (Or.inr hgF), fun t ht => by rw [Row.cellAt hB.row (i * 6 + t) (by omega), encK_at rs i t hi ht], fun j => hB.row.frozenAt j, hwg, fun v => ?_⟩
  have hrow := hB.row.stored (i * 6 + 4) (.int .i64 v)
  rw [encK_how rs i v hi] at hrow
  refine ⟨Fx, Fk, some ⟨g, 0, none⟩, cr, hP.same (fun k hk _ => Below.heap_setCell _ _ _ _ (fun e => hd k hk (by have e' : k = g := e; rw [e']; exact hgF))) (by simp [World.setCell]), ⟨hB.own, ?_, by rw [List.length_set]; exact hrow, fun k hk => by have := hB.ltF k hk; simpa [World.setCell] using this⟩, hd, hF⟩
  rw [Below.heap_setCell _ _ _ _ hwg, List.length_set]; exact hB.blk
/-- behind plain.Cancel -/
def CanMid (w : World) (F : Nat → Prop) (wb xb : Nat) (S' : St) (rs : List KR) (e1 e2 e3 : Int) (wx : World) (eb : Nat) : Prop :=
  ∃ G : Nat → Prop, KAt wx G wb xb S' rs ∧ (∀ k, G k → F k ∨ w.heap.size ≤ k) ∧ ¬ G eb ∧ Kept F w wx ∧ wx.heap[eb]? = some (.cells #[.int .i64 e1, .int .i64 e2, .int .i64 e3, .bool true] 35 (0, 0)) ∧ w.heap.size ≤ eb
theorem can_mid {w WW w2 wx : World} {F : Nat → Prop} {wb xb eb : Nat} {S' : St} {rs : List KR} {e1 e2 e3 : Int} (hb : Below w.heap.size w WW) (hR : KAt w2 (Foot F WW w2) wb xb S' rs ∧ Kept F WW w2) (hlt : ∀ k, F k → k < w.heap.size) (p : Put w2 wx eb #[.int .i64 e1, .int .i64 e2, .int .i64 e3, .bool true] 35) (h1 : w.heap.size ≤ eb ∧ (eb < WW.heap.size ∨ w2.heap.size ≤ eb)) : CanMid w F wb xb S' rs e1 e2 e3 wx eb := by
  have z1 := hb.size
  have z2 := hR.2.size
  have z3 := p.size
  have hne : ¬ Foot F WW w2 eb := fun e => by
    rcases e with e | e
    · have := hlt _ e; omega
    · omega
  refine ⟨Foot F WW w2, hR.1.same (fun k hk hl => p.rest k hl (fun e => hne (e ▸ hk))) z3, fun k hk => ?_, hne, ⟨p.os.trans (hR.2.os.trans hb.os), p.tape.trans (hR.2.tape.trans hb.tape), p.output.trans (hR.2.output.trans hb.output), by omega, fun k hk hn => ?_⟩, p.at_, h1.1⟩
  · rcases hk with e | e
    · exact Or.inl e
    · exact Or.inr (by omega)
  · rw [p.rest k (by omega) (by omega), hR.2.block k (by omega) hn]
    exact hb.block k hk
theorem keep_plainCancel (S : St) (rs : List KR) (F : Nat → Prop) (wb xb : Nat) (num : Int) (w : World) (h : KAt w F wb xb S rs) (hg : GCell w) (h0 : ¬ F 0) (hw : (Lit.int .i64 num).wf = true) :
    Calls Tryz.prog 9 #[.pointer (some ⟨xb, 0, none⟩), .int .i64 num] w fun e w' => e = .returned (.agg #[.int .i64 (cancelErr S num).1, .int .i64 (cancelErr S num).2.1, .int .i64 (cancelErr S num).2.2, .bool true]) ∧ (KAt w' (Foot F w w') wb xb (cancelM S num).2.2 rs ∧ Kept F w w') ∧ w'.cell? ⟨wb, 0, none⟩ = some (.pointer (some ⟨xb, 0, none⟩)) ∧ ∀ g c, w.cell? ⟨wb, 1, none⟩ = some (.slice (some ⟨g, 0, none⟩) rs.length c) → w'.cell? ⟨wb, 1, none⟩ = some (.slice (some ⟨g, 0, none⟩) rs.length c) ∧ ∀ j, w'.cell? ⟨g, j, none⟩ = w.cell? ⟨g, j, none⟩ := by
  obtain ⟨Fx, Fk, ar, cr, hP, hB, hd, hF⟩ := h
  refine (plain_cancel S Fx xb num w hP hg (fun e => h0 ((hF 0).2 (Or.inl e))) hw).mono ?_
  rintro e w1 ⟨rfl, hP1, hK1⟩
  have hB1 := hB.kept hK1 (fun k hk e => hd k e hk)
  refine ⟨rfl, KAt.lift hP.lt hB hd hF hP1 (fun k hk => hk) hK1, hB1.c0, fun g c hgc => ?_⟩
  rw [hB.c1] at hgc
  have hgc := Option.some.inj hgc
  injection hgc with h1 h2 h3
  subst h1 h3
  refine ⟨hB1.c1, fun j => ?_⟩
  obtain ⟨cur, hcur, _⟩ := hB.row.block rfl
  exact hK1.cell (p := ⟨g, j, none⟩) (lt_of_heap hcur) (fun e => hd _ e (hB.row.2 ⟨g, 0, none⟩ rfl))
set_option maxHeartbeats 4000000 in
set_option maxRecDepth 1000000 in
theorem keep_cancel (S S' : St) (k t : Int) (r : KR) (rs : List KR) (F : Nat → Prop) (wb xb i : Nat) (w : World) (h : KAt w F wb xb S rs) (hg : GCell w) (h0 : ¬ F 0) (hi : i < rs.length) (hr : rs[i] = r) (_hl : rs.length ≤ 100000) (hlast : S.last ≤ 1000000) (hw : (Lit.int .i64 r.num).wf = true) (hc : cancelM S r.num = (k, t, S')) (ho : (k = 0 ∧ r.how = 0) ∨ k = 9 ∨ k = 5) :
    Calls Tryz.prog 34 #[.pointer (some ⟨wb, 0, none⟩), .int .i64 (i : Int)] w fun e w' => e = .returned (.bool true) ∧ KAt w' (Foot F w w') wb xb S' (if k = 0 then rs.set i { r with how := if flownB S.flights r.num then 4 else 3 } else rs) ∧ Kept F w w' := by
  have HK := hide h
  have HFL := hide (keep_flies S rs F wb xb r.num w h hlast)
  obtain ⟨g, cr, c1, hwl, hgl, hgG, hq, hfz, hwg, hset⟩ := h.how hi
  have c0 := h.q0.1
  have q0 : w.cell? ⟨g, i * 6, none⟩ = some (.int .i64 r.num) := by have := hq 0 (by omega); rw [hr] at this; exact this
  have hii : (i : Int) < (rs.length : Int) := by omega
  have HLW := hide h.lt
  have HG := hide hg
  have H0 := hide h0
  have HW := hide hw
  have HC := hide hc
  clear h hg h0 hw hq hfz hset hc
  go_enter Tryz.func34, Tryz.ntmps34
  go_wp2_with fail
  refine HFL.out.mono ?_
  rintro e w1 ⟨rfl, hb1⟩
  generalize hair : flownB S.flights r.num = air at *
  have HB1 := hide hb1
  have HK1 := hide (HK.out.below hb1)
  have hz1 := hb1.size
  have d0 := (hb1.cell (p := ⟨wb, 0, none⟩) hwl).trans c0
  have d1 := (hb1.cell (p := ⟨wb, 1, none⟩) hwl).trans c1
  have d2 := (hb1.cell (p := ⟨g, i * 6, none⟩) hgl).trans q0
  have hwl1 : wb < w1.heap.size := by omega
  have hgl1 : g < w1.heap.size := by omega
  have hlt : Hid (∀ k, F k → k < w1.heap.size) := fun k hk => by have := HK.out.lt k hk; omega
  have HN : Hid (∀ k, w1.heap.size ≤ k → ¬ F k) := fun k hk e => by have := hlt.out k e; omega
  obtain ⟨e1, e2, e3, he⟩ : ∃ e1 e2 e3, cancelErr S r.num = (e1, e2, e3) := ⟨_, _, _, rfl⟩
  have HE : Hid ((e1, e2, e3) = if k = 9 then (9, r.num, t) else (k, -1, 0)) := by rw [Hid, ← he]; unfold cancelErr; rw [HC.out]
  have HCall : Hid (∀ WW, Below w1.heap.size w1 WW → Calls Tryz.prog 9 #[.pointer (some ⟨xb, 0, none⟩), .int .i64 r.num] WW fun e w2 => e = .returned (.agg #[.int .i64 e1, .int .i64 e2, .int .i64 e3, .bool true]) ∧ (w2.cell? ⟨wb, 0, none⟩ = some (.pointer (some ⟨xb, 0, none⟩)) ∧ w2.cell? ⟨wb, 1, none⟩ = some (.slice (some ⟨g, 0, none⟩) rs.length cr) ∧ w2.cell? ⟨g, i * 6, none⟩ = some (.int .i64 r.num)) ∧ KAt w2 (Foot F WW w2) wb xb S' rs ∧ Kept F WW w2) := fun WW hb => by
    have hbb : Below w.heap.size w WW := HB1.out.trans (hb.mono hz1)
    have := keep_plainCancel S rs F wb xb r.num WW (HK.out.below hbb) (HG.out.below hbb) H0.out HW.out
    rw [HC.out, he] at this
    refine this.mono ?_
    rintro e w2 ⟨f1, f2, f3, f4⟩
    obtain ⟨f5, f6⟩ := f4 g cr ((hb.cell (p := ⟨wb, 1, none⟩) hwl1).trans d1)
    exact ⟨f1, ⟨f3, f5, (f6 _).trans ((hb.cell (p := ⟨g, i * 6, none⟩) hgl1).trans d2)⟩, f2⟩
  clear hb1 c0 c1 q0 hwl hgl HFL HK HG he
  have ne0 : w1.heap.size ≠ wb := by omega
  have ne1 : w1.heap.size ≠ g := by omega
  go_wp2_with fail
  go_cut [6] from 18 (fun ve wx => ∃ eb, ve = .pointer (some ⟨eb, 0, none⟩) ∧ Hid (CanMid w1 F wb xb S' rs e1 e2 e3 wx eb))
  case first =>
    go_region_held3 (fun W => W.cell? ⟨wb, 0, none⟩ = some (.pointer (some ⟨xb, 0, none⟩)) ∧ W.cell? ⟨wb, 1, none⟩ = some (.slice (some ⟨g, 0, none⟩) rs.length cr) ∧ W.cell? ⟨g, i * 6, none⟩ = some (.int .i64 r.num)) (go_keep)
      (first | (go_at_call 9; refine (HCall.out _ ?_).mono ?_; (first | exact (Below.refl _ _).drew | exact (alloc_below _ _).drew | exact (Below.refl _ _) | exact (alloc_below _ _)); rintro e w2 ⟨rfl, ⟨hc0, hc1, hc2⟩, hR⟩; have HR := hide hR; clear hR; (first | (obtain ⟨pe, pz⟩ := pcE HR.out.2 HN.out; obtain ⟨⟨b0, b1, b2, b3⟩, b4, b5, b6, b7⟩ := cells4 pe; have PE := hide pe; clear pe) | skip)))
    all_goals go_wp2_with fail
    all_goals go_meet
    all_goals go_light
    all_goals clear HCall
    all_goals refine ⟨_, rfl, ?_⟩
    · exact can_mid (Below.refl _ _).drew HR.out hlt.out (kput_alloc rfl) ⟨HR.out.2.size, Or.inr (Nat.le_refl _)⟩
    · exact can_mid (alloc_below _ _).drew HR.out hlt.out (kput4 PE.out) ⟨Nat.le_refl _, Or.inl (lt_alloc1 _ _)⟩
  case rest =>
    obtain ⟨eb, rfl, hmid⟩ := hcut
    obtain ⟨G, hA, hG, hGe, hKk, hE4, hez⟩ := hmid.out
    obtain ⟨⟨b0, b1, b2, b3⟩, _⟩ := cells4 hE4
    have hel := lt_of_heap hE4
    have HA := hide hA
    have HGG := hide hG
    have HKW : Hid (Kept F w wc) := (Go.Proofs.YtiabdbeejkadnabGreatDoor.Below.kept HB1.out F).then hKk
    clear hmid hA hG hGe hKk hE4 HCall d0 d1 d2 ne0 ne1
    go_wp2_with fail
    refine (keep_fine e1 e2 e3 _).mono ?_
    rintro e w3 ⟨rfl, hb3⟩
    have hz3 := hb3.size
    have b0' := (hb3.cell (p := ⟨eb, 0, none⟩) hel).trans b0
    have hel3 : eb < w3.heap.size := by omega
    have HA3 := hide (HA.out.below hb3)
    have HK3 := hide (HKW.out.below hb3)
    have HFT : Hid (∀ W', w3.heap.size ≤ W'.heap.size → ∀ k, G k → Foot F w W' k) := fun W' hW k hk => by
      rcases HGG.out k hk with e | e
      · exact Or.inl e
      · have := HA3.out.lt k hk; exact Or.inr ⟨by omega, by omega⟩
    have HLT : Hid (∀ W', w3.heap.size ≤ W'.heap.size → ∀ k, Foot F w W' k → k < W'.heap.size) := fun W' hW k hk => by
      rcases hk with e | e
      · have := HLW.out k e; have := HK3.out.size; omega
      · exact e.2
    clear hb3 b0 b1 b2 b3
    rcases ho with ⟨hk0, hh0⟩ | hk9
    · subst hk0
      have := HE.out
      rw [if_neg (by decide)] at this
      cases this
      have ef : fineB 0 (-1) 0 = true := rfl
      rw [ef]
      obtain ⟨g', cr', c1', hwl', hgl', hgG', hq', hfz', hwg', hset'⟩ := HA3.out.how hi
      have q4 : w3.cell? ⟨g', i * 6 + 4, none⟩ = some (.int .i64 0) := by have := hq' 4 (by omega); rw [hr] at this; rw [this, ← hh0]; rfl
      have f4 := hfz' (i * 6 + 4)
      have HEXT : Hid (Ext F w g') := by
        rcases HGG.out g' hgG' with e | e
        · exact Or.inl e
        · exact Or.inr (by omega)
      have HS3 := hide (hset' 3)
      have HS4 : Hid (KAt ((w3.setCell ⟨g', i * 6 + 4, none⟩ (.int .i64 3)).setCell ⟨g', i * 6 + 4, none⟩ (.int .i64 4)) G wb xb S' (rs.set i { r with how := 4 })) := by
        obtain ⟨g2, cr2, c2, _, _, _, _, _, _, hset2⟩ := HS3.out.how (i := i) (by simpa using hi)
        have : (w3.setCell ⟨g', i * 6 + 4, none⟩ (.int .i64 3)).cell? ⟨wb, 1, none⟩ = some (.slice (some ⟨g', 0, none⟩) rs.length cr') := (World.cell?_of_block (a := ⟨wb, 1, none⟩) (Below.heap_setCell _ _ _ _ hwg')).trans c1'
        rw [this] at c2
        have c2 := Option.some.inj c2
        injection c2 with h1 h2 h3
        have h1 := Option.some.inj h1
        injection h1 with h1 _ _
        subst h1
        have := hset2 4
        simp only [List.set_set, List.getElem_set_self, hr] at this
        exact this
      rw [hr] at HS3
      have HZ : Hid (∀ v, (w3.setCell ⟨g', i * 6 + 4, none⟩ v).heap.size = w3.heap.size) := fun v => by simp [World.setCell]
      have HZ2 : Hid (∀ v v', ((w3.setCell ⟨g', i * 6 + 4, none⟩ v).setCell ⟨g', i * 6 + 4, none⟩ v').heap.size = w3.heap.size) := fun v v' => by simp [World.setCell]
      clear hq' hfz' hset' hgG' HE hr
      cases air with
      | false =>
        go_wp2
        go_ret
        exact ⟨rfl, HS3.out.wid (HFT.out _ (Nat.le_of_eq (HZ.out _).symm)) (HLT.out _ (Nat.le_of_eq (HZ.out _).symm)), HK3.out.setCell HEXT.out _⟩
      | true =>
        go_wp2
        go_ret
        exact ⟨rfl, HS4.out.wid (HFT.out _ (Nat.le_of_eq (HZ2.out _ _).symm)) (HLT.out _ (Nat.le_of_eq (HZ2.out _ _).symm)), (HK3.out.setCell HEXT.out _).setCell HEXT.out _⟩
    · have HEND : Hid (KAt w3 (Foot F w w3) wb xb S' rs ∧ Kept F w w3) := ⟨HA3.out.wid (HFT.out _ (Nat.le_refl _)) (HLT.out _ (Nat.le_refl _)), HK3.out⟩
      rcases hk9 with hk9 | hk5
      · subst hk9
        have := HE.out
        rw [if_pos rfl] at this
        cases this
        have ef : fineB 9 r.num t = false := rfl
        rw [ef]
        clear HE
        go_wp2
        go_ret
        exact ⟨rfl, HEND.out⟩
      · subst hk5
        have := HE.out
        rw [if_neg (by decide)] at this
        cases this
        have ef : fineB 5 (-1) 0 = false := rfl
        rw [ef]
        clear HE
        go_wp2
        go_ret
        exact ⟨rfl, HEND.out⟩
end Go.Proofs.YtiabdbeejkadnabGreatDoor

/- The keeps: two of them at once. Own work of the verifier. -/
namespace Go.Proofs.YtiabdbeejkadnabGreatDoor
open Go.RowKit Go.Maps

/-- two keeps' worlds, apart; the blocks of X are neither's -/
def Two (w W : World) (wa xa wb xb : Nat) (A B : St) (ra rb : List KR) (X : Nat → Prop) : Prop :=
  ∃ Fa Fb : Nat → Prop, KWF w W Fa wa xa A ra ∧ KWF w W Fb wb xb B rb ∧ (∀ k, Fa k → ¬ Fb k) ∧ ∀ k, X k → k < W.heap.size ∧ ¬ Fa k ∧ ¬ Fb k
section
variable {w W W' : World} {wa xa wb xb : Nat} {A B A' B' : St} {ra rb ra' rb' : List KR} {X X' : Nat → Prop}
theorem Two.swap (h : Two w W wa xa wb xb A B ra rb X) : Two w W wb xb wa xa B A rb ra X := by
  obtain ⟨Fa, Fb, h1, h2, h3, h4⟩ := h
  exact ⟨Fb, Fa, h2, h1, fun k hk e => h3 k e hk, fun k hk => ⟨(h4 k hk).1, (h4 k hk).2.2, (h4 k hk).2.1⟩⟩
theorem Two.less (h : Two w W wa xa wb xb A B ra rb X) (hX : ∀ k, X' k → X k) : Two w W wa xa wb xb A B ra rb X' := by
  obtain ⟨Fa, Fb, h1, h2, h3, h4⟩ := h
  exact ⟨Fa, Fb, h1, h2, h3, fun k hk => h4 k (hX k hk)⟩
theorem Two.qa (h : Two w W wa xa wb xb A B ra rb X) : W.cell? ⟨wa, 0, none⟩ = some (.pointer (some ⟨xa, 0, none⟩)) ∧ wa < W.heap.size := by
  obtain ⟨Fa, Fb, h1, _⟩ := h
  exact h1.q
theorem Two.qb (h : Two w W wa xa wb xb A B ra rb X) : W.cell? ⟨wb, 0, none⟩ = some (.pointer (some ⟨xb, 0, none⟩)) ∧ wb < W.heap.size := h.swap.qa
theorem Two.bel (h : Two w W wa xa wb xb A B ra rb X) : Below w.heap.size w W := by
  obtain ⟨Fa, Fb, h1, _⟩ := h
  exact h1.bel
/-- new memory of one's own -/
theorem Two.below (h : Two w W wa xa wb xb A B ra rb X) (hb : Below W.heap.size W W') : Two w W' wa xa wb xb A B ra rb (fun k => X k ∨ (W.heap.size ≤ k ∧ k < W'.heap.size)) := by
  obtain ⟨Fa, Fb, h1, h2, h3, h4⟩ := h
  refine ⟨Fa, Fb, h1.below hb, h2.below hb, h3, fun k hk => ?_⟩
  have hz := hb.size
  rcases hk with e | e
  · have := h4 k e; exact ⟨by omega, this.2⟩
  · exact ⟨e.2, fun e' => h1.new k e.1 e', fun e' => h2.new k e.1 e'⟩
theorem Two.alloc (h : Two w W wa xa wb xb A B ra rb X) (o : Obj) : Two w (W.alloc o) wa xa wb xb A B ra rb (fun k => X k ∨ k = W.heap.size) :=
  (h.below (alloc_below W o)).less fun k hk => by
    rcases hk with e | e
    · exact Or.inl e
    · exact Or.inr ⟨by omega, by rw [e]; simp⟩
/-- behind a call on the first -/
theorem Two.after {Fa Fb G : Nat → Prop} (_h1 : KWF w W Fa wa xa A ra) (h2 : KWF w W Fb wb xb B rb) (h3 : ∀ k, Fa k → ¬ Fb k) (hA : KWF w W' G wa xa A' ra') (hG : ∀ k, G k → Foot Fa W W' k) (hK : Kept Fa W W') : KWF w W' Fb wb xb B rb ∧ ∀ k, G k → ¬ Fb k := by
  refine ⟨⟨h2.at_.same (fun k hk hl => hK.block k hl (fun e => h3 k e hk)) hK.size, h2.fr, hA.bel, hA.g, h2.pos⟩, fun k hk e => ?_⟩
  rcases hG k hk with e' | e'
  · exact h3 k e' e
  · have := h2.at_.lt k e; omega
theorem Two.next {Fa Fb : Nat → Prop} (h1 : KWF w W Fa wa xa A ra) (h2 : KWF w W Fb wb xb B rb) (h3 : ∀ k, Fa k → ¬ Fb k) (h4 : ∀ k, X k → k < W.heap.size ∧ ¬ Fa k ∧ ¬ Fb k) (hA : KWF w W' (Foot Fa W W') wa xa A' ra') (hK : Kept Fa W W') : Two w W' wa xa wb xb A' B ra' rb X ∧ ∀ k, X k → W'.heap[k]? = W.heap[k]? := by
  obtain ⟨h5, h6⟩ := Two.after h1 h2 h3 hA (fun k hk => hk) hK
  refine ⟨⟨_, Fb, hA, h5, h6, fun k hk => ?_⟩, fun k hk => hK.block k (h4 k hk).1 (h4 k hk).2.1⟩
  obtain ⟨x1, x2, x3⟩ := h4 k hk
  refine ⟨by have := hK.size; omega, fun e => ?_, x3⟩
  rcases e with e | e
  · exact x2 e
  · omega
theorem two_complete (h : Two w W wa xa wb xb A B ra rb X) (hn : A.now ≤ 1000000000) (hl : A.last ≤ 1000000) :
    Calls Tryz.prog 13 #[.pointer (some ⟨xa, 0, none⟩), .int .i64 0, .bool false] W fun e w' => e = .returned (.agg #[.int .i64 (if (completeM A 0 false).1 then 0 else 10), .int .i64 (-1), .int .i64 0, .bool true]) ∧ Two w w' wa xa wb xb (completeM A 0 false).2 B ra rb X ∧ ∀ k, X k → w'.heap[k]? = W.heap[k]? := by
  obtain ⟨Fa, Fb, h1, h2, h3, h4⟩ := h
  refine (kw_complete w W Fa wa xa A ra 0 false h1 hn hl).mono ?_
  rintro e w1 ⟨e1, e2, e3⟩
  exact ⟨e1, Two.next h1 h2 h3 h4 e2 e3⟩
theorem two_cancel (num : Int) (h : Two w W wa xa wb xb A B ra rb X) (hw : (Lit.int .i64 num).wf = true) :
    Calls Tryz.prog 9 #[.pointer (some ⟨xa, 0, none⟩), .int .i64 num] W fun e w' => e = .returned (.agg #[.int .i64 (cancelErr A num).1, .int .i64 (cancelErr A num).2.1, .int .i64 (cancelErr A num).2.2, .bool true]) ∧ Two w w' wa xa wb xb (cancelM A num).2.2 B ra rb X ∧ ∀ k, X k → w'.heap[k]? = W.heap[k]? := by
  obtain ⟨Fa, Fb, h1, h2, h3, h4⟩ := h
  refine (keep_plainCancel A ra Fa wa xa num W h1.at_ h1.g h1.no0 hw).mono ?_
  rintro e w1 ⟨e1, ⟨e2, e3⟩, _⟩
  exact ⟨e1, Two.next h1 h2 h3 h4 (h1.after e2 e3) e3⟩
theorem two_poll (num : Int) (h : Two w W wa xa wb xb A B ra rb X) (hw : (Lit.int .i64 num).wf = true) :
    Calls Tryz.prog 10 #[.pointer (some ⟨xa, 0, none⟩), .int .i64 num] W fun e w' => (∃ ao n cap t, e = .returned (.tuple #[.agg #[.slice ao n cap, .int .i64 t], .agg #[.int .i64 (plainErr A num).1, .int .i64 (plainErr A num).2.1, .int .i64 (plainErr A num).2.2, .bool true]])) ∧ Two w w' wa xa wb xb (pollM A num).2.2.2 B ra rb X ∧ ∀ k, X k → w'.heap[k]? = W.heap[k]? := by
  obtain ⟨Fa, Fb, h1, h2, h3, h4⟩ := h
  refine (kw_plainPoll w W Fa wa xa A ra num h1 hw).mono ?_
  rintro e w1 ⟨⟨ao, n, cap, t, e1, _⟩, e2, e3⟩
  exact ⟨⟨ao, n, cap, t, e1⟩, Two.next h1 h2 h3 h4 e2 e3⟩
theorem two_ask (write : Bool) (page : Int) (v : UInt8) (h : Two w W wa xa wb xb A B ra rb X) (hlast : A.last = ra.length) (hl : ra.length ≤ 100000) (hp : 0 ≤ page ∧ page < 16) (hf : ¬ 40 ≤ (A.reqs.length : Int) - A.told.length) :
    Calls Tryz.prog 8 #[.pointer (some ⟨wa, 0, none⟩), .bool write, .int .i64 page, .int .u8 v.toNat] W fun e w' => e = .returned (.bool true) ∧ Two w w' wa xa wb xb (askOk A write page (if write then kdata v ra.length else ⟨#[]⟩)) B (ra ++ [⟨ra.length + 1, write, page, (if write then kdata v ra.length else ⟨#[]⟩), 0, ⟨#[]⟩⟩]) rb X ∧ ∀ k, X k → w'.heap[k]? = W.heap[k]? := by
  obtain ⟨Fa, Fb, h1, h2, h3, h4⟩ := h
  refine (kw_ask w W Fa wa xa A ra write page v h1 hlast hl hp hf).mono ?_
  rintro e w1 ⟨e1, e2, e3⟩
  exact ⟨e1, Two.next h1 h2 h3 h4 e2 e3⟩
theorem two_wait (h : Two w W wa xa wb xb A B ra rb X) :
    Calls Tryz.prog 14 #[.pointer (some ⟨xa, 0, none⟩)] W fun e w' => (∃ ao cap, e = .returned (.slice ao (waitM A).length cap)) ∧ Below W.heap.size W w' := by
  obtain ⟨Fa, Fb, h1, h2, h3, h4⟩ := h
  refine (kw_waiting h1).mono ?_
  rintro e w1 ⟨⟨ao, cap, e1, _⟩, _, e3⟩
  exact ⟨⟨ao, cap, e1⟩, e3⟩
/-- Step of the first: the row of its requests is the caller's -/
theorem two_step (h : Two w W wa xa wb xb A B ra rb X) (hl : A.last ≤ 1000000) :
    Calls Tryz.prog 12 #[.pointer (some ⟨xa, 0, none⟩)] W fun e w' => ∃ ao cap, e = .returned (.tuple #[.agg #[.bool ((nextM A).getD cmdZ).write, .int .i64 ((nextM A).getD cmdZ).page, .int .i64 ((nextM A).getD cmdZ).count, .slice ao ((nextM A).getD cmdZ).requests.length cap], .bool (nextM A).isSome]) ∧
      ∃ X' : Nat → Prop, Row w' X' 3 1 ao ((nextM A).getD cmdZ).requests.length cap (encI ((nextM A).getD cmdZ).requests) ∧ Two w w' wa xa wb xb (stepM A).2 B ra rb X' ∧ ∀ k, X k → X' k ∧ w'.heap[k]? = W.heap[k]? := by
  obtain ⟨Fa, Fb, h1, h2, h3, h4⟩ := h
  obtain ⟨Fx, Fk, ar, cr, hP, hB, hd, hF⟩ := h1.at_
  refine (prog_step A Fx xa W hP hl).mono ?_
  rintro e w1 ⟨ao, n, cap, F', rfl, hn, hrow, hP1, hF1, hF2, hK1⟩
  subst hn
  have hz := hK1.size
  have hK : Kept Fa W w1 := hK1.mono fun k _ e => (hF k).2 (Or.inl e)
  have hB' := hB.kept hK1 (fun k hk e => hd k e hk)
  have hG : ∀ k, (F' k ∨ Fk k) → Foot Fa W w1 k := fun k hk => by
    rcases hk with e | e
    · rcases hF2 k e with e' | e'
      · exact Or.inl ((hF k).2 (Or.inl e'))
      · exact Or.inr e'
    · exact Or.inl ((hF k).2 (Or.inr e))
  have hA : KAt w1 (fun k => F' k ∨ Fk k) wa xa (stepM A).2 ra := ⟨F', Fk, ar, cr, hP1, hB', fun k hk e => by
    rcases hF2 k hk with e' | e'
    · exact hd k e' e
    · have := hB.ltF k e; omega, fun k => Iff.rfl⟩
  have hb : Below w.heap.size W w1 := hK.toBelow h1.fr h1.bel.size
  have hAw : KWF w w1 (fun k => F' k ∨ Fk k) wa xa (stepM A).2 ra := by
    refine ⟨hA, fun k hk => ?_, h1.bel.trans hb, h1.g.kept hK h1.no0, h1.pos⟩
    rcases hG k hk with e | e
    · exact h1.fr k e
    · have := h1.bel.size; omega
  obtain ⟨h5, h6⟩ := Two.after h1 h2 h3 hAw hG hK
  refine ⟨ao, cap, rfl, fun k => X k ∨ (W.heap.size ≤ k ∧ k < w1.heap.size ∧ ¬ F' k ∧ ¬ Fk k), ?_, ⟨_, Fb, hAw, h5, h6, fun k hk => ?_⟩, fun k hk => ⟨Or.inl hk, hK.block k (h4 k hk).1 (h4 k hk).2.1⟩⟩
  · refine ⟨hrow.1, fun a ha => Or.inr ?_⟩
    obtain ⟨x1, x2⟩ := hrow.2 a ha
    obtain ⟨cur, hcur, _⟩ := hrow.block ha
    exact ⟨x1, lt_of_heap hcur, x2, fun e => by have := hB.ltF _ e; omega⟩
  · rcases hk with e | ⟨x1, x2, x3, x4⟩
    · obtain ⟨y1, y2, y3⟩ := h4 k e
      refine ⟨by omega, fun e' => ?_, y3⟩
      rcases hG k e' with e2 | e2
      · exact y2 e2
      · omega
    · exact ⟨x2, fun e' => e'.elim x3 x4, fun e' => by have := h2.at_.lt k e'; omega⟩
/-- the data of a request of the second is written -/
theorem encK_data (l : List KR) (i : Nat) (v : ByteArray) (hi : i < l.length) : (l.flatMap encK).set (i * 6 + 3) (.string v) = (l.set i { l[i] with data := v }).flatMap encK := by
  induction l generalizing i with
  | nil => simp at hi
  | cons a l ih =>
    cases i with
    | zero => simp [encK]
    | succ i =>
      have hl : (encK a).length = 6 := rfl
      have e : (i + 1) * 6 + 3 = (encK a).length + (i * 6 + 3) := by rw [hl]; omega
      rw [List.flatMap_cons, e, List.set_append_right _ _ (by omega), Nat.add_sub_cancel_left, ih i (by simpa using hi)]
      simp
theorem KAt.dat {W : World} {G : Nat → Prop} {wb xb : Nat} {S : St} {rs : List KR} (h : KAt W G wb xb S rs) {i : Nat} (hi : i < rs.length) : ∃ g cr, W.cell? ⟨wb, 1, none⟩ = some (.slice (some ⟨g, 0, none⟩) rs.length cr) ∧ wb < W.heap.size ∧ g < W.heap.size ∧ G g ∧ (∀ t, t < 6 → W.cell? ⟨g, i * 6 + t, none⟩ = (encK rs[i])[t]?) ∧ (∀ j, W.frozen? ⟨g, j, none⟩ = false) ∧ wb ≠ g ∧ ∀ v, KAt (W.setCell ⟨g, i * 6 + 3, none⟩ (.string v)) G wb xb S (rs.set i { rs[i] with data := v }) := by
  obtain ⟨Fx, Fk, ar, cr, hP, hB, hd, hF⟩ := h
  obtain ⟨g, cur, hgg, hgF, hgb, _, _⟩ := Row.some hB.row (by omega)
  subst hgg
  have hwg : wb ≠ g := fun e => hB.row.ne hB.blk (by decide) _ rfl e.symm
  refine ⟨g, cr, hB.c1, lt_of_heap hB.blk, lt_of_heap hgb, (hF g).2 (Or.inr hgF), fun t ht => by rw [Row.cellAt hB.row (i * 6 + t) (by omega), encK_at rs i t hi ht], fun j => hB.row.frozenAt j, hwg, fun v => ?_⟩
  have hrow := hB.row.stored (i * 6 + 3) (.string v)
  rw [encK_data rs i v hi] at hrow
  refine ⟨Fx, Fk, some ⟨g, 0, none⟩, cr, hP.same (fun k hk _ => Below.heap_setCell _ _ _ _ (fun e => hd k hk (by have e' : k = g := e; rw [e']; exact hgF))) (by simp [World.setCell]), ⟨hB.own, ?_, by rw [List.length_set]; exact hrow, fun k hk => by have := hB.ltF k hk; simpa [World.setCell] using this⟩, hd, hF⟩
  rw [Below.heap_setCell _ _ _ _ hwg, List.length_set]; exact hB.blk
/-- where the data lie: of the first at i, of the second at j; the second's is written anew -/
theorem Two.data (h : Two w W wa xa wb xb A B ra rb X) {i j : Nat} (hi : i < ra.length) (hj : j < rb.length) :
    ∃ ga ca gb cb d, W.cell? ⟨wa, 1, none⟩ = some (.slice (some ⟨ga, 0, none⟩) ra.length ca) ∧ W.cell? ⟨wb, 1, none⟩ = some (.slice (some ⟨gb, 0, none⟩) rb.length cb) ∧ wa < W.heap.size ∧ wb < W.heap.size ∧ ga < W.heap.size ∧ gb < W.heap.size ∧ W.cell? ⟨ga, i * 6 + 3, none⟩ = some (.string d) ∧ (∃ d', W.cell? ⟨gb, j * 6 + 3, none⟩ = some (.string d')) ∧ W.frozen? ⟨gb, j * 6 + 3, none⟩ = false ∧ (gb ≠ wa ∧ gb ≠ wb ∧ gb ≠ ga) ∧ ∀ n : Nat, Two w ((W.setCell ⟨gb, j * 6 + 3, none⟩ (.string d)).drewN n) wa xa wb xb A B ra (rb.set j { rb[j] with data := d }) X := by
  obtain ⟨Fa, Fb, h1, h2, h3, h4⟩ := h
  obtain ⟨ga, ca, a1, a2, a3, a4, a5, a6, a7, _⟩ := h1.at_.dat hi
  obtain ⟨gb, cb, b1, b2, b3, b4, b5, b6, b7, b8⟩ := h2.at_.dat hj
  have hwaF : Fa wa := by
    obtain ⟨_, _, _, _, _, hB, _, hF⟩ := h1.at_
    exact (hF wa).2 (Or.inr hB.own)
  have hgw : w.heap.size ≤ gb := h2.fr gb b4
  have hset : ∀ (k : Nat) (u : Value), k ≠ gb → (W.setCell ⟨gb, j * 6 + 3, none⟩ u).heap[k]? = W.heap[k]? := fun k u e => Below.heap_setCell _ _ _ _ e
  refine ⟨ga, ca, gb, cb, (ra[i]).data, a1, b1, a2, b2, a3, b3, by rw [a5 3 (by omega)]; rfl, ⟨_, by rw [b5 3 (by omega)]; rfl⟩, b6 _, ⟨fun e => h3 wa hwaF (e ▸ b4), fun e => b7 e.symm, fun e => h3 ga a4 (e ▸ b4)⟩, fun n => ?_⟩
  have hsz : ((W.setCell ⟨gb, j * 6 + 3, none⟩ (.string (ra[i]).data)).drewN n).heap.size = W.heap.size := by show (W.setCell _ _).heap.size = _; simp [World.setCell]
  have hbel : Below w.heap.size w ((W.setCell ⟨gb, j * 6 + 3, none⟩ (.string (ra[i]).data)).drewN n) := below_drewN (h1.bel.setCell (p := ⟨gb, j * 6 + 3, none⟩) hgw _) n
  have hg' : GCell ((W.setCell ⟨gb, j * 6 + 3, none⟩ (.string (ra[i]).data)).drewN n) := by
    have h0 : gb ≠ 0 := fun e => h2.no0 (e ▸ b4)
    have := h1.g
    unfold GCell at this ⊢
    rw [World.cell?_of_block (w := W) (show ((W.setCell ⟨gb, j * 6 + 3, none⟩ (.string (ra[i]).data)).drewN n).heap[(0 : Nat)]? = W.heap[(0 : Nat)]? from hset 0 _ (fun e => h0 e.symm))]
    exact this
  refine ⟨Fa, Fb, ⟨?_, h1.fr, hbel, hg', h1.pos⟩, ⟨?_, h2.fr, hbel, hg', h2.pos⟩, h3, fun k hk => ?_⟩
  · exact h1.at_.same (fun k hk _ => hset k _ (fun e => h3 k hk (e ▸ b4))) (by rw [hsz]; exact Nat.le_refl _)
  · exact (b8 _).same (fun k hk _ => rfl) (Nat.le_refl _)
  · rw [hsz]; exact h4 k hk
theorem two_begun (depth : Int) (w : World) (hg : GCell w) (hc : -9223372036854775808 ≤ depth ∧ depth ≤ 9223372036854775807) :
    Calls Tryz.prog 6 #[.int .i64 depth] w fun e w1 => ∃ wa xa, e = .returned (.tuple #[.pointer (some ⟨wa, 0, none⟩), .bool true]) ∧ Calls Tryz.prog 6 #[.int .i64 depth] w1 fun e' w2 => ∃ wb xb, e' = .returned (.tuple #[.pointer (some ⟨wb, 0, none⟩), .bool true]) ∧ Two w w2 wa xa wb xb (St.new (1 + kpickM depth 4)) (St.new (1 + kpickM depth 4)) [] [] (fun _ => False) := by
  refine (kw_begun w depth hg hc).mono ?_
  rintro e w1 ⟨wa, xa, rfl, Fa, ha⟩
  refine ⟨wa, xa, rfl, ?_⟩
  refine (keep_begun depth w1 ha.g hc).mono ?_
  rintro e w2 ⟨⟨wb, xb, rfl, hb⟩, hbel⟩
  have ha2 := ha.below hbel
  refine ⟨wb, xb, rfl, Fa, _, ha2, ⟨hb, fun k hk => ?_, ha2.bel, ha2.g, ha.pos⟩, fun k hk e => ?_, fun k hk => hk.elim⟩
  · rcases hk with e | e
    · exact e.elim
    · have := ha.bel.size; omega
  · rcases e with e | e
    · exact e.elim
    · have := ha.at_.lt k hk; omega
end
end Go.Proofs.YtiabdbeejkadnabGreatDoor
