import Derived.Test.YtiabdbeejkadnaaGreatDoorJAnswers01
import Derived.WalkLawsBesides
/- The reference queue: Poll in general. Own work of the verifier. -/
namespace Go.Proofs.YtiabdbeejkadnaaGreatDoor
open Go.RowKit

set_option maxHeartbeats 1000000 in
set_option maxRecDepth 1000000 in
theorem ref_poll_q3 (S : St) (F : Nat → Prop) (mb : Nat) (num : Int) (k : Nat) (w : World) (h : RefAt w F mb S) (hl : S.told.length ≤ 1000000) (hr : S.reqs.length ≤ 1000000) (hp : placeM S num = k) (hs : (S.reqs.getD k Rq.zero).state = 3) :
    Calls Tryz.prog 65 #[.pointer (some ⟨mb, 0, none⟩), .int .i64 num] w fun e w' => e = .returned (.tuple #[.string ⟨#[]⟩, .int .i64 (S.reqs.getD k Rq.zero).tries, .int .i64 7]) ∧ RefAt w' (Foot F w w') mb (dropM S k) ∧ Kept F w w' := by
  have H : Hid (RefAt w F mb S) := h
  have HP : Hid (placeM S num = k) := hp
  have hk := (placeM_some hp).1
  obtain ⟨G, ar, cr, at_, ct, af, cf, ad, cd, h⟩ := h
  obtain ⟨g0, cur, hg0, _, _, _, _⟩ := Row.some h.reqs (by omega)
  subst hg0
  have c1 := h.c1
  obtain ⟨r, hr'⟩ : ∃ r, r = S.reqs.getD k Rq.zero := ⟨_, rfl⟩
  rw [← hr'] at hs ⊢
  have hq : ∀ t, t < 10 → w.cell? ⟨g0, k * 10 + t, none⟩ = (encR r)[t]? := by
    intro t ht
    rw [hr', ← Row.req h.reqs rfl k t hk ht]
  have q0 : w.cell? ⟨g0, k * 10, none⟩ = some (.int .i64 r.num) := hq 0 (by omega)
  have q1 : w.cell? ⟨g0, k * 10 + 1, none⟩ = some (.bool r.write) := hq 1 (by omega)
  have q2 : w.cell? ⟨g0, k * 10 + 2, none⟩ = some (.int .i64 r.page) := hq 2 (by omega)
  have q3 : w.cell? ⟨g0, k * 10 + 3, none⟩ = some (.string r.data) := hq 3 (by omega)
  have q4 : w.cell? ⟨g0, k * 10 + 4, none⟩ = some (.int .i64 r.state) := hq 4 (by omega)
  have q5 : w.cell? ⟨g0, k * 10 + 5, none⟩ = some (.int .i64 r.tries) := hq 5 (by omega)
  have q6 : w.cell? ⟨g0, k * 10 + 6, none⟩ = some (.int .i64 r.after) := hq 6 (by omega)
  have q7 : w.cell? ⟨g0, k * 10 + 7, none⟩ = some (.bool r.alone) := hq 7 (by omega)
  have q8 : w.cell? ⟨g0, k * 10 + 8, none⟩ = some (.bool r.inAir) := hq 8 (by omega)
  have q9 : w.cell? ⟨g0, k * 10 + 9, none⟩ = some (.string r.answer) := hq 9 (by omega)
  clear hq h hp hr'
  have b0 : (r.state == 0) = false := beq_eq_false_iff_ne.2 (by omega)
  have b1 : (r.state == 1) = false := beq_eq_false_iff_ne.2 (by omega)
  have b3 : (r.state == 3) = true := beq_iff_eq.2 hs
  clear hs
  go_enter Tryz.func65, Tryz.ntmps65
  go_wp2_with fail
  refine (ref_place S F mb num _ H.out hl hr).mono ?_
  rintro e w' ⟨rfl, rfl⟩
  rw [HP.out]
  go_wp2_with fail
  refine (ref_drop S F mb k _ (H.out.alloc _) hl hr hk).mono ?_
  rintro e w2 ⟨rfl, hR2, hK2⟩
  have hz2 : w'.heap.size < w2.heap.size := by have := hK2.size; simp at this; omega
  have hnF : ¬ F w'.heap.size := fun e => by have := H.out.lt _ e; omega
  have t5 : w2.cell? ⟨w'.heap.size, 5, none⟩ = some (.int .i64 r.tries) := by rw [hK2.cell (p := ⟨w'.heap.size, 5, none⟩) (by simp) hnF]; simp
  have HR : Hid (RefAt w2 (Foot F w' w2) mb (dropM S k) ∧ Kept F w' w2) :=
    ⟨hR2.wid (fun t ht => Foot.mid (by simp) t ht) (Foot.lt H.out.lt (Nat.le_of_lt hz2)), (Kept.alloc (Kept.refl F w') _).then hK2⟩
  clear hR2 hK2 hnF
  go_wp2
  go_quiet (fail)
  go_wp2
  go_ret3
  exact ⟨rfl, (HR.out.1.grow (below_drewN (Below.refl _ _) _)).wid (fun t ht => Foot.trans (Nat.le_of_lt hz2) (Nat.le_refl _) t ht) (Foot.lt H.out.lt (Nat.le_of_lt hz2)), HR.out.2.drewN _⟩

set_option maxHeartbeats 1000000 in
set_option maxRecDepth 1000000 in
theorem ref_poll_q4 (S : St) (F : Nat → Prop) (mb : Nat) (num : Int) (k : Nat) (w : World) (h : RefAt w F mb S) (hl : S.told.length ≤ 1000000) (hr : S.reqs.length ≤ 1000000) (hp : placeM S num = k) (hs : (S.reqs.getD k Rq.zero).state = 4) :
    Calls Tryz.prog 65 #[.pointer (some ⟨mb, 0, none⟩), .int .i64 num] w fun e w' => e = .returned (.tuple #[.string ⟨#[]⟩, .int .i64 (S.reqs.getD k Rq.zero).tries, .int .i64 8]) ∧ RefAt w' (Foot F w w') mb (dropM S k) ∧ Kept F w w' := by
  have H : Hid (RefAt w F mb S) := h
  have HP : Hid (placeM S num = k) := hp
  have hk := (placeM_some hp).1
  obtain ⟨G, ar, cr, at_, ct, af, cf, ad, cd, h⟩ := h
  obtain ⟨g0, cur, hg0, _, _, _, _⟩ := Row.some h.reqs (by omega)
  subst hg0
  have c1 := h.c1
  obtain ⟨r, hr'⟩ : ∃ r, r = S.reqs.getD k Rq.zero := ⟨_, rfl⟩
  rw [← hr'] at hs ⊢
  have hq : ∀ t, t < 10 → w.cell? ⟨g0, k * 10 + t, none⟩ = (encR r)[t]? := by
    intro t ht
    rw [hr', ← Row.req h.reqs rfl k t hk ht]
  have q0 : w.cell? ⟨g0, k * 10, none⟩ = some (.int .i64 r.num) := hq 0 (by omega)
  have q1 : w.cell? ⟨g0, k * 10 + 1, none⟩ = some (.bool r.write) := hq 1 (by omega)
  have q2 : w.cell? ⟨g0, k * 10 + 2, none⟩ = some (.int .i64 r.page) := hq 2 (by omega)
  have q3 : w.cell? ⟨g0, k * 10 + 3, none⟩ = some (.string r.data) := hq 3 (by omega)
  have q4 : w.cell? ⟨g0, k * 10 + 4, none⟩ = some (.int .i64 r.state) := hq 4 (by omega)
  have q5 : w.cell? ⟨g0, k * 10 + 5, none⟩ = some (.int .i64 r.tries) := hq 5 (by omega)
  have q6 : w.cell? ⟨g0, k * 10 + 6, none⟩ = some (.int .i64 r.after) := hq 6 (by omega)
  have q7 : w.cell? ⟨g0, k * 10 + 7, none⟩ = some (.bool r.alone) := hq 7 (by omega)
  have q8 : w.cell? ⟨g0, k * 10 + 8, none⟩ = some (.bool r.inAir) := hq 8 (by omega)
  have q9 : w.cell? ⟨g0, k * 10 + 9, none⟩ = some (.string r.answer) := hq 9 (by omega)
  clear hq h hp hr'
  have b0 : (r.state == 0) = false := beq_eq_false_iff_ne.2 (by omega)
  have b1 : (r.state == 1) = false := beq_eq_false_iff_ne.2 (by omega)
  have b3 : (r.state == 3) = false := beq_eq_false_iff_ne.2 (by omega)
  have b4 : (r.state == 4) = true := beq_iff_eq.2 hs
  clear hs
  go_enter Tryz.func65, Tryz.ntmps65
  go_wp2_with fail
  refine (ref_place S F mb num _ H.out hl hr).mono ?_
  rintro e w' ⟨rfl, rfl⟩
  rw [HP.out]
  go_wp2_with fail
  refine (ref_drop S F mb k _ (H.out.alloc _) hl hr hk).mono ?_
  rintro e w2 ⟨rfl, hR2, hK2⟩
  have hz2 : w'.heap.size < w2.heap.size := by have := hK2.size; simp at this; omega
  have hnF : ¬ F w'.heap.size := fun e => by have := H.out.lt _ e; omega
  have t5 : w2.cell? ⟨w'.heap.size, 5, none⟩ = some (.int .i64 r.tries) := by rw [hK2.cell (p := ⟨w'.heap.size, 5, none⟩) (by simp) hnF]; simp
  have HR : Hid (RefAt w2 (Foot F w' w2) mb (dropM S k) ∧ Kept F w' w2) :=
    ⟨hR2.wid (fun t ht => Foot.mid (by simp) t ht) (Foot.lt H.out.lt (Nat.le_of_lt hz2)), (Kept.alloc (Kept.refl F w') _).then hK2⟩
  clear hR2 hK2 hnF
  go_wp2
  go_quiet (fail)
  go_wp2
  go_ret3
  exact ⟨rfl, (HR.out.1.grow (below_drewN (Below.refl _ _) _)).wid (fun t ht => Foot.trans (Nat.le_of_lt hz2) (Nat.le_refl _) t ht) (Foot.lt H.out.lt (Nat.le_of_lt hz2)), HR.out.2.drewN _⟩

set_option maxHeartbeats 1000000 in
set_option maxRecDepth 1000000 in
theorem ref_poll_q2 (S : St) (F : Nat → Prop) (mb : Nat) (num : Int) (k : Nat) (w : World) (h : RefAt w F mb S) (hl : S.told.length ≤ 1000000) (hr : S.reqs.length ≤ 1000000) (hp : placeM S num = k) (hs : (S.reqs.getD k Rq.zero).state = 2) :
    Calls Tryz.prog 65 #[.pointer (some ⟨mb, 0, none⟩), .int .i64 num] w fun e w' => e = .returned (.tuple #[.string (S.reqs.getD k Rq.zero).answer, .int .i64 (S.reqs.getD k Rq.zero).tries, .int .i64 0]) ∧ RefAt w' (Foot F w w') mb (dropM S k) ∧ Kept F w w' := by
  have H : Hid (RefAt w F mb S) := h
  have HP : Hid (placeM S num = k) := hp
  have hk := (placeM_some hp).1
  obtain ⟨G, ar, cr, at_, ct, af, cf, ad, cd, h⟩ := h
  obtain ⟨g0, cur, hg0, _, _, _, _⟩ := Row.some h.reqs (by omega)
  subst hg0
  have c1 := h.c1
  obtain ⟨r, hr'⟩ : ∃ r, r = S.reqs.getD k Rq.zero := ⟨_, rfl⟩
  rw [← hr'] at hs ⊢
  have hq : ∀ t, t < 10 → w.cell? ⟨g0, k * 10 + t, none⟩ = (encR r)[t]? := by
    intro t ht
    rw [hr', ← Row.req h.reqs rfl k t hk ht]
  have q0 : w.cell? ⟨g0, k * 10, none⟩ = some (.int .i64 r.num) := hq 0 (by omega)
  have q1 : w.cell? ⟨g0, k * 10 + 1, none⟩ = some (.bool r.write) := hq 1 (by omega)
  have q2 : w.cell? ⟨g0, k * 10 + 2, none⟩ = some (.int .i64 r.page) := hq 2 (by omega)
  have q3 : w.cell? ⟨g0, k * 10 + 3, none⟩ = some (.string r.data) := hq 3 (by omega)
  have q4 : w.cell? ⟨g0, k * 10 + 4, none⟩ = some (.int .i64 r.state) := hq 4 (by omega)
  have q5 : w.cell? ⟨g0, k * 10 + 5, none⟩ = some (.int .i64 r.tries) := hq 5 (by omega)
  have q6 : w.cell? ⟨g0, k * 10 + 6, none⟩ = some (.int .i64 r.after) := hq 6 (by omega)
  have q7 : w.cell? ⟨g0, k * 10 + 7, none⟩ = some (.bool r.alone) := hq 7 (by omega)
  have q8 : w.cell? ⟨g0, k * 10 + 8, none⟩ = some (.bool r.inAir) := hq 8 (by omega)
  have q9 : w.cell? ⟨g0, k * 10 + 9, none⟩ = some (.string r.answer) := hq 9 (by omega)
  clear hq h hp hr'
  have b0 : (r.state == 0) = false := beq_eq_false_iff_ne.2 (by omega)
  have b1 : (r.state == 1) = false := beq_eq_false_iff_ne.2 (by omega)
  have b3 : (r.state == 3) = false := beq_eq_false_iff_ne.2 (by omega)
  have b4 : (r.state == 4) = false := beq_eq_false_iff_ne.2 (by omega)
  clear hs
  go_enter Tryz.func65, Tryz.ntmps65
  go_wp2_with fail
  refine (ref_place S F mb num _ H.out hl hr).mono ?_
  rintro e w' ⟨rfl, rfl⟩
  rw [HP.out]
  go_wp2_with fail
  refine (ref_drop S F mb k _ (H.out.alloc _) hl hr hk).mono ?_
  rintro e w2 ⟨rfl, hR2, hK2⟩
  have hz2 : w'.heap.size < w2.heap.size := by have := hK2.size; simp at this; omega
  have hnF : ¬ F w'.heap.size := fun e => by have := H.out.lt _ e; omega
  have t5 : w2.cell? ⟨w'.heap.size, 5, none⟩ = some (.int .i64 r.tries) := by rw [hK2.cell (p := ⟨w'.heap.size, 5, none⟩) (by simp) hnF]; simp
  have t9 : w2.cell? ⟨w'.heap.size, 9, none⟩ = some (.string r.answer) := by rw [hK2.cell (p := ⟨w'.heap.size, 9, none⟩) (by simp) hnF]; simp
  have HR : Hid (RefAt w2 (Foot F w' w2) mb (dropM S k) ∧ Kept F w' w2) :=
    ⟨hR2.wid (fun t ht => Foot.mid (by simp) t ht) (Foot.lt H.out.lt (Nat.le_of_lt hz2)), (Kept.alloc (Kept.refl F w') _).then hK2⟩
  clear hR2 hK2 hnF
  go_wp2
  go_quiet (fail)
  go_wp2
  go_ret3
  exact ⟨rfl, (HR.out.1.grow (below_drewN (Below.refl _ _) _)).wid (fun t ht => Foot.trans (Nat.le_of_lt hz2) (Nat.le_refl _) t ht) (Foot.lt H.out.lt (Nat.le_of_lt hz2)), HR.out.2.drewN _⟩

/-- Poll, in general. -/
theorem ref_poll_g (S : St) (F : Nat → Prop) (mb : Nat) (num : Int) (w : World) (h : RefAt w F mb S) (hl : S.told.length ≤ 1000000) (hr : S.reqs.length ≤ 1000000) (hst : ∀ r ∈ S.reqs, 0 ≤ r.state ∧ r.state ≤ 4) :
    Calls Tryz.prog 65 #[.pointer (some ⟨mb, 0, none⟩), .int .i64 num] w fun e w' => e = .returned (.tuple #[.string (pollM S num).1, .int .i64 (pollM S num).2.1, .int .i64 (pollM S num).2.2.1]) ∧ RefAt w' (Foot F w w') mb (pollM S num).2.2.2 ∧ Kept F w w' := by
  rcases placeM_cases S num with hp | ⟨k, hp⟩
  · have e : pollM S num = (⟨#[]⟩, 0, 5, S) := by unfold pollM; rw [if_pos (by omega)]
    rw [e]
    exact ref_poll_none S F mb num w h hl hr hp
  · have hk := (placeM_some hp).1
    have hm : S.reqs.getD k Rq.zero ∈ S.reqs := by rw [List.getD_eq_getElem?_getD]; simp [hk]
    obtain ⟨h0, h4⟩ := hst _ hm
    have hkn : (placeM S num).toNat = k := by omega
    have e : pollM S num = (if (S.reqs.getD k Rq.zero).state = 0 ∨ (S.reqs.getD k Rq.zero).state = 1 then (⟨#[]⟩, (S.reqs.getD k Rq.zero).tries, 6, S) else
        if (S.reqs.getD k Rq.zero).state = 3 then (⟨#[]⟩, (S.reqs.getD k Rq.zero).tries, 7, dropM S k) else
        if (S.reqs.getD k Rq.zero).state = 4 then (⟨#[]⟩, (S.reqs.getD k Rq.zero).tries, 8, dropM S k) else ((S.reqs.getD k Rq.zero).answer, (S.reqs.getD k Rq.zero).tries, 0, dropM S k)) := by
      unfold pollM; rw [if_neg (by omega), hkn]
    rw [e]
    rcases (by omega : (S.reqs.getD k Rq.zero).state = 0 ∨ (S.reqs.getD k Rq.zero).state = 1 ∨ (S.reqs.getD k Rq.zero).state = 2 ∨ (S.reqs.getD k Rq.zero).state = 3 ∨ (S.reqs.getD k Rq.zero).state = 4) with hs | hs | hs | hs | hs
    · rw [if_pos (Or.inl hs)]; exact ref_poll_p0 S F mb num k w h hl hr hp hs
    · rw [if_pos (Or.inr hs)]; exact ref_poll_p1 S F mb num k w h hl hr hp hs
    · rw [if_neg (by omega), if_neg (by omega), if_neg (by omega)]
      exact ref_poll_q2 S F mb num k w h hl hr hp hs
    · rw [if_neg (by omega), if_pos hs]
      exact ref_poll_q3 S F mb num k w h hl hr hp hs
    · rw [if_neg (by omega), if_neg (by omega), if_pos hs]
      exact ref_poll_q4 S F mb num k w h hl hr hp hs
end Go.Proofs.YtiabdbeejkadnaaGreatDoor

/- The law's own small functions by contracts: fine, wrong, none, pick, sameInts. Own work of the verifier. -/
namespace Go.Proofs.YtiabdbeejkadnaaGreatDoor
open Go.RowKit

theorem err_eq (k r t : Int) (w : World) : (binOp .eql 57 (.agg #[.int .i64 k, .int .i64 r, .int .i64 t, .bool true]) (.agg #[.int .i64 k, .int .i64 r, .int .i64 t, .bool true])).run Tryz.prog w = .ok (.bool true) w := by
  have u1 := Tryz.underlying3
  have u2 := Tryz.underlying55
  have u3 := Tryz.underlying4
  have hS : Tryz.prog.underlying 57 = some (.struct (Tryz.prog.fieldsOf 57)) := by kernel_rfl
  have hp : Tryz.prog.stoodInHeld 57 = false := by kernel_rfl
  rw [run_eql_struct, show (10000 : Nat) = 9999 + 1 from rfl, run_equalIn_agg w 9999 57 _ _ hS hp]
  simp only [Program.fieldsOf, Tryz.underlying57]
  go_simp

theorem law_fine (w : World) : Calls Tryz.prog 48 #[.agg #[.int .i64 0, .int .i64 (-1), .int .i64 0, .bool true]] w fun e w' => e = .returned (.bool true) ∧ Below w.heap.size w w' := by
  have he := err_eq 0 (-1) 0
  go_enter Tryz.func48, Tryz.ntmps48
  go_wp2
  go_ret
  exact ⟨rfl, (Below.refl _ _).alloc (Nat.le_refl _) _⟩
theorem law_wrong (k r t : Int) (w : World) : Calls Tryz.prog 66 #[.agg #[.int .i64 k, .int .i64 r, .int .i64 t, .bool true], .int .i64 k, .int .i64 r, .int .i64 t] w fun e w' => e = .returned (.bool true) ∧ Below w.heap.size w w' := by
  have he := err_eq k r t
  go_enter Tryz.func66, Tryz.ntmps66
  go_wp2
  go_ret
  exact ⟨rfl, (Below.refl _ _).alloc (Nat.le_refl _) _⟩
theorem law_none (k : Int) (w : World) : Calls Tryz.prog 47 #[.agg #[.int .i64 k, .int .i64 (-1), .int .i64 0, .bool true], .int .i64 k] w fun e w' => e = .returned (.bool true) ∧ Below w.heap.size w w' := by
  go_enter Tryz.func47, Tryz.ntmps47
  go_wp2_with fail
  refine (law_wrong k (-1) 0 _).mono ?_
  rintro e w1 ⟨rfl, hb⟩
  go_wp2
  go_ret
  exact ⟨rfl, ((Below.refl _ _).alloc (Nat.le_refl _) _).trans (hb.mono (by simp))⟩

/-- pick: which of n things -/
def pickM (c n : Int) : Int := if c < 0 then (-(c + 1)) % n else c % n
theorem pickM_lt (c n : Int) (hn : 0 < n) : 0 ≤ pickM c n ∧ pickM c n < n := by
  unfold pickM
  split
  · exact ⟨Int.emod_nonneg _ (by omega), Int.emod_lt_of_pos _ hn⟩
  · exact ⟨Int.emod_nonneg _ (by omega), Int.emod_lt_of_pos _ hn⟩
theorem law_pick (c n : Int) (w : World) (hc : -9223372036854775808 ≤ c ∧ c ≤ 9223372036854775807) (hn : 0 < n) (hn2 : n ≤ 1000000) :
    Calls Tryz.prog 41 #[.int .i64 c, .int .i64 n] w fun e w' => e = .returned (.int .i64 (pickM c n)) ∧ w' = w := by
  obtain ⟨h1, h2⟩ := hc
  by_cases hneg : c < 0
  · have hp : Hid (pickM c n = -((c + 1).tmod n)) := by
      simp only [Hid, pickM, hneg, if_true]
      rw [← Int.neg_tmod, Int.tmod_eq_emod_of_nonneg (by omega)]
    have hb0 : (n == 0) = false := beq_eq_false_iff_ne.2 (by omega)
    go_enter Tryz.func41, Tryz.ntmps41
    go_wp2
    go_ret
    exact ⟨by rw [hp.out]; rfl, rfl⟩
  · have hp : Hid (pickM c n = c % n) := by simp [Hid, pickM, hneg]
    have hb0 : (n == 0) = false := beq_eq_false_iff_ne.2 (by omega)
    go_enter Tryz.func41, Tryz.ntmps41
    go_wp2
    go_ret
    exact ⟨by rw [hp.out]; rfl, rfl⟩

theorem law_same (T : List Int) (F G : Nat → Prop) (a1 a2 : Option Addr) (n c1 c2 : Nat) (w : World) (h1 : Row w F 3 1 a1 n c1 (encI T)) (h2 : Row w G 3 1 a2 n c2 (encI T)) (hn : n = T.length) (hl : n ≤ 1000000) :
    Calls Tryz.prog 73 #[.slice a1 n c1, .slice a2 n c2] w fun e w' => e = .returned (.bool true) ∧ ∃ k, w' = w.drewN k := by
  have H1 : Hid (Row w F 3 1 a1 n c1 (encI T)) := h1
  have H2 : Hid (Row w G 3 1 a2 n c2 (encI T)) := h2
  have HN : Hid (n = T.length) := hn
  clear h1 h2 hn
  have hb0 : ((n : Int) != (n : Int)) = false := by simp
  by_cases hz : n = 0
  · have h0 : ¬ (0 : Int) < (n : Int) := by omega
    go_enter Tryz.func73, Tryz.ntmps73
    go_wp2
    refine wp_loop_rounds 1 ?_
    rw [rounds_succ]
    go_wp2
    go_ret
    exact ⟨rfl, 0, rfl⟩
  · obtain ⟨g1, cu1, rfl, _⟩ := Row.some H1.out (by omega)
    obtain ⟨g2, cu2, rfl, _⟩ := Row.some H2.out (by omega)
    go_enter Tryz.func73, Tryz.ntmps73
    go_wp2
    go_loopw [5] (fun i wr => ∃ k m : Nat, k ≤ n ∧ i = .int .i64 k ∧ Hid (wr = w.drewN m)) (fun i _ => n - (intOf i).toNat)
    case atStart => exact ⟨0, 0, Nat.zero_le _, rfl, rfl⟩
    case round =>
      obtain ⟨k, m, hk, rfl, hw⟩ := hrel
      by_cases hlt : k < n
      · obtain ⟨x, hx⟩ : ∃ x, x = T.getD k 0 := ⟨_, rfl⟩
        have q1 : wr.cell? ⟨g1, k, none⟩ = some (.int .i64 x) := by
          have := Row.cellAt H1.out k (by omega)
          have hkT : k < T.length := by rw [← HN.out]; exact hlt
          rw [hw.out]; show w.cell? _ = _; rw [this, hx]; simp [encI, hkT]
        have q2 : wr.cell? ⟨g2, k, none⟩ = some (.int .i64 x) := by
          have := Row.cellAt H2.out k (by omega)
          have hkT : k < T.length := by rw [← HN.out]; exact hlt
          rw [hw.out]; show w.cell? _ = _; rw [this, hx]; simp [encI, hkT]
        have hb1 : (x != x) = false := by simp
        clear hx
        have hlt' : (k : Int) < (n : Int) := by omega
        go_wp2
        go_quiet (fail)
        go_wp2
        go_roundw
        case rel => exact ⟨k + 1, m + nq, by omega, by go_num, by rw [Hid, hw.out]; simp [World.drewN, Nat.add_assoc]⟩
        case measure => simp [intOf]; omega
      · go_wp2
        go_ret
        exact ⟨rfl, m, hw.out⟩
end Go.Proofs.YtiabdbeejkadnaaGreatDoor

/- The law's world: what it owns; mine, owned. Own work of the verifier. -/
namespace Go.Proofs.YtiabdbeejkadnaaGreatDoor
open Go.RowKit

/-- one of the caller's lists: n cells that all hold v, at the head of a block that is its own and holds nothing else -/
def Own1 (w : World) (F : Nat → Prop) (e : TypeId) (ao : Option Addr) (n : Nat) (v : Value) : Prop :=
  (ao = none ∧ n = 0) ∨ ∃ g, ao = some ⟨g, 0, none⟩ ∧ F g ∧ w.heap[g]? = some (.cells (Array.replicate n v) e (0, 0))
theorem Own1.same {w w' : World} {F : Nat → Prop} {e : TypeId} {ao : Option Addr} {n : Nat} {v : Value} (h : Own1 w F e ao n v) (hs : ∀ k, F k → k < w.heap.size → w'.heap[k]? = w.heap[k]?) : Own1 w' F e ao n v := by
  rcases h with h | ⟨g, rfl, hF, hh⟩
  · exact Or.inl h
  · exact Or.inr ⟨g, rfl, hF, (hs g hF (lt_of_heap hh)).trans hh⟩
theorem Own1.cell {w : World} {F : Nat → Prop} {e : TypeId} {ao : Option Addr} {n : Nat} {v : Value} (h : Own1 w F e ao n v) (k : Nat) (hk : k < n) : ∃ g, ao = some ⟨g, 0, none⟩ ∧ w.cell? ⟨g, k, none⟩ = some v := by
  rcases h with ⟨_, rfl⟩ | ⟨g, rfl, hF, hh⟩
  · omega
  · exact ⟨g, rfl, by simp [World.cell?, hh, hk]⟩

/-- the lists of bytes (e: uint8) or numbers that came out: list i holds n_i cells 'f i' -/
def Lists (w : World) (F : Nat → Prop) (e : TypeId) (f : Nat → Value) (ls : List (Option Addr × Nat)) : Prop := ∀ i (h : i < ls.length), Own1 w F e (ls[i]).1 (ls[i]).2 (f i)
theorem Lists.same {w w' : World} {F : Nat → Prop} {e : TypeId} {f : Nat → Value} {ls : List (Option Addr × Nat)} (h : Lists w F e f ls) (hs : ∀ k, F k → k < w.heap.size → w'.heap[k]? = w.heap[k]?) : Lists w' F e f ls := fun i hi => (h i hi).same hs
def encL (ls : List (Option Addr × Nat)) : List Value := ls.map fun x => .slice x.1 x.2 x.2
def byteAt (i : Nat) : Value := .int .u8 ((i : Int) % 256)
def intAt (i : Nat) : Value := .int .i64 (-(i : Int))
/-- the pairs of queues: their two blocks -/
def encQ (qs : List (Nat × Nat)) : List Value := qs.flatMap fun q => [.pointer (some ⟨q.1, 0, none⟩), .pointer (some ⟨q.2, 0, none⟩)]

/-- THE LAW's WORLD at block wb: its three slices' rows lie in R (rows), the lists' own blocks in L. -/
structure WBlk (w : World) (R L : Nat → Prop) (wb : Nat) (qs : List (Nat × Nat)) (bs is : List (Option Addr × Nat)) (aq : Option Addr) (cq : Nat) (ab : Option Addr) (cb : Nat) (ai : Option Addr) (ci : Nat) : Prop where
  blk : w.heap[wb]? = some (.cells #[.slice aq qs.length cq, .slice ab bs.length cb, .slice ai is.length ci] 50 (0, 0))
  own : R wb
  rq : Row w R 99 2 aq qs.length cq (encQ qs)
  rb : Row w R 86 1 ab bs.length cb (encL bs)
  ri : Row w R 24 1 ai is.length ci (encL is)
  lb : Lists w L 5 byteAt bs
  li : Lists w L 3 intAt is
  apart : ∀ k, R k → ¬ L k
  ltR : ∀ k, R k → k < w.heap.size
  ltL : ∀ k, L k → k < w.heap.size
def WAt (w : World) (F : Nat → Prop) (wb : Nat) (qs : List (Nat × Nat)) (bs is : List (Option Addr × Nat)) : Prop :=
  ∃ R L aq cq ab cb ai ci, WBlk w R L wb qs bs is aq cq ab cb ai ci ∧ ∀ k, F k ↔ (R k ∨ L k)

section
variable {w : World} {R L : Nat → Prop} {wb : Nat} {qs : List (Nat × Nat)} {bs is : List (Option Addr × Nat)} {aq : Option Addr} {cq : Nat} {ab : Option Addr} {cb : Nat} {ai : Option Addr} {ci : Nat}
theorem WBlk.c0 (h : WBlk w R L wb qs bs is aq cq ab cb ai ci) : w.cell? ⟨wb, 0, none⟩ = some (.slice aq qs.length cq) := by simp [World.cell?, h.blk]
theorem WBlk.c1 (h : WBlk w R L wb qs bs is aq cq ab cb ai ci) : w.cell? ⟨wb, 1, none⟩ = some (.slice ab bs.length cb) := by simp [World.cell?, h.blk]
theorem WBlk.c2 (h : WBlk w R L wb qs bs is aq cq ab cb ai ci) : w.cell? ⟨wb, 2, none⟩ = some (.slice ai is.length ci) := by simp [World.cell?, h.blk]
theorem WBlk.fz (h : WBlk w R L wb qs bs is aq cq ab cb ai ci) (k : Nat) : w.frozen? ⟨wb, k, none⟩ = false := by simp [World.frozen?, h.blk]
theorem WBlk.lt (h : WBlk w R L wb qs bs is aq cq ab cb ai ci) : wb < w.heap.size := lt_of_heap h.blk
theorem WBlk.same {w' : World} (h : WBlk w R L wb qs bs is aq cq ab cb ai ci) (hs : ∀ k, (R k ∨ L k) → k < w.heap.size → w'.heap[k]? = w.heap[k]?) (hz : w.heap.size ≤ w'.heap.size) : WBlk w' R L wb qs bs is aq cq ab cb ai ci where
  blk := (hs _ (Or.inl h.own) h.lt).trans h.blk
  own := h.own
  rq := h.rq.same fun a ha => by obtain ⟨c, hc, _⟩ := h.rq.block ha; exact hs _ (Or.inl (h.rq.2 a ha)) (lt_of_heap hc)
  rb := h.rb.same fun a ha => by obtain ⟨c, hc, _⟩ := h.rb.block ha; exact hs _ (Or.inl (h.rb.2 a ha)) (lt_of_heap hc)
  ri := h.ri.same fun a ha => by obtain ⟨c, hc, _⟩ := h.ri.block ha; exact hs _ (Or.inl (h.ri.2 a ha)) (lt_of_heap hc)
  lb := h.lb.same fun k hk hl => hs k (Or.inr hk) hl
  li := h.li.same fun k hk hl => hs k (Or.inr hk) hl
  apart := h.apart
  ltR := fun k hk => Nat.lt_of_lt_of_le (h.ltR k hk) hz
  ltL := fun k hk => Nat.lt_of_lt_of_le (h.ltL k hk) hz
end
theorem WAt.same {w w' : World} {F : Nat → Prop} {wb : Nat} {qs : List (Nat × Nat)} {bs is : List (Option Addr × Nat)} (h : WAt w F wb qs bs is) (hs : ∀ k, F k → k < w.heap.size → w'.heap[k]? = w.heap[k]?) (hz : w.heap.size ≤ w'.heap.size) : WAt w' F wb qs bs is := by
  obtain ⟨R, L, aq, cq, ab, cb, ai, ci, h, hF⟩ := h
  exact ⟨R, L, aq, cq, ab, cb, ai, ci, h.same (fun k hk hl => hs k ((hF k).2 hk) hl) hz, hF⟩
theorem WAt.lt {w : World} {F : Nat → Prop} {wb : Nat} {qs : List (Nat × Nat)} {bs is : List (Option Addr × Nat)} (h : WAt w F wb qs bs is) : ∀ k, F k → k < w.heap.size := by
  obtain ⟨R, L, aq, cq, ab, cb, ai, ci, h, hF⟩ := h
  intro k hk
  exact ((hF k).1 hk).elim (h.ltR k) (h.ltL k)
theorem WAt.kept {w w' : World} {F G : Nat → Prop} {wb : Nat} {qs : List (Nat × Nat)} {bs is : List (Option Addr × Nat)} (h : WAt w F wb qs bs is) (hk : Kept G w w') (hn : ∀ k, F k → ¬ G k) : WAt w' F wb qs bs is :=
  h.same (fun k hF hl => hk.block k hl (hn k hF)) hk.size

theorem info_bs : (Tryz.prog.info? 86).map (fun i => (i.zero, i.size, i.bytes)) = some (some (.slice none 0 0), 1, 24) := by kernel_rfl
theorem info_is : (Tryz.prog.info? 24).map (fun i => (i.zero, i.size, i.bytes)) = some (some (.slice none 0 0), 1, 24) := by kernel_rfl
end Go.Proofs.YtiabdbeejkadnaaGreatDoor

/- The law's world: mine, owned: what came out is the caller's. Own work of the verifier. -/
namespace Go.Proofs.YtiabdbeejkadnaaGreatDoor
open Go.RowKit
section
variable {w : World} {R L : Nat → Prop} {wb : Nat} {qs : List (Nat × Nat)} {bs is : List (Option Addr × Nat)} {aq : Option Addr} {cq : Nat} {ab : Option Addr} {cb : Nat} {ai : Option Addr} {ci : Nat}
theorem ownBlock_some {ao : Option Addr} {n c k : Nat} (h : Value.ownBlock (.slice ao n c) = some k) : ∃ a, ao = some a ∧ a.block = k := by
  cases ao with
  | none => simp [Value.ownBlock] at h
  | some a => exact ⟨a, rfl, by simpa [Value.ownBlock] using h⟩
/-- what the walk reads of the world's block behind an append to one of its rows -/
theorem WBlk.grow_c1 {w2 : World} {o : Obj} {nb : Nat} (h : WBlk w R L wb qs bs is aq cq ab cb ai ci) (hgrow : (w.alloc o).grownBy w2 (Value.ownBlock (.slice ab nb cb))) (hn : bs.length = nb) : w2.cell? ⟨wb, 1, none⟩ = some (.slice ab nb cb) ∧ w2.frozen? ⟨wb, 1, none⟩ = false := by
  have hb : w2.heap[wb]? = w.heap[wb]? := (hgrow.block wb (by have := h.lt; simp; omega) (fun e => by obtain ⟨a, ha, hab⟩ := ownBlock_some e.symm; exact h.rb.ne h.blk (by decide) a ha hab)).trans (Below.heap_alloc _ _ _ h.lt)
  exact ⟨by rw [World.cell?_of_block (a := ⟨wb, 1, none⟩) hb, h.c1, hn], by rw [World.frozen?_of_block (a := ⟨wb, 1, none⟩) hb]; exact h.fz 1⟩
theorem WBlk.grow_c2 {w2 : World} {o : Obj} {nb : Nat} (h : WBlk w R L wb qs bs is aq cq ab cb ai ci) (hgrow : (w.alloc o).grownBy w2 (Value.ownBlock (.slice ai nb ci))) (hn : is.length = nb) : w2.cell? ⟨wb, 2, none⟩ = some (.slice ai nb ci) ∧ w2.frozen? ⟨wb, 2, none⟩ = false := by
  have hb : w2.heap[wb]? = w.heap[wb]? := (hgrow.block wb (by have := h.lt; simp; omega) (fun e => by obtain ⟨a, ha, hab⟩ := ownBlock_some e.symm; exact h.ri.ne h.blk (by decide) a ha hab)).trans (Below.heap_alloc _ _ _ h.lt)
  exact ⟨by rw [World.cell?_of_block (a := ⟨wb, 2, none⟩) hb, h.c2, hn], by rw [World.frozen?_of_block (a := ⟨wb, 2, none⟩) hb]; exact h.fz 2⟩

/-- one list more: the world's block, its rows and lists behind the append and the store -/
theorem WBlk.pushB {w wr w2 : World} {L' : Nat → Prop} {x : Option Addr × Nat} {o : Obj} {nb g2 cap2 : Nat} {news : List Value} (HR : WBlk wr R L wb qs bs is aq cq ab cb ai ci) (hz : w.heap.size ≤ wr.heap.size)
    (hL : ∀ k, L k → L' k) (hLl : ∀ k, L' k → k < w.heap.size) (hap : ∀ k, R k → ¬ L' k) (hx : Own1 wr L' 5 x.1 x.2 (byteAt nb)) (hnb : bs.length = nb) (hnews : news = [.slice x.1 x.2 x.2])
    (hgrow : (wr.alloc o).grownBy w2 (Value.ownBlock (.slice ab nb cb))) (hown : w2.ownsRow 0 86 1 (.slice (some ⟨g2, 0, none⟩) (nb + 1) cap2) (nb + 1) (encL bs ++ news)) (hat : Value.ownBlock (.slice ab nb cb) = some g2 ∨ g2 = wr.heap.size + 1) (hlt : g2 < w2.heap.size) :
    WBlk (w2.setCell ⟨wb, 1, none⟩ (.slice (some ⟨g2, 0, none⟩) (nb + 1) cap2)) (fun k => R k ∨ (w.heap.size ≤ k ∧ k < (w2.setCell ⟨wb, 1, none⟩ (.slice (some ⟨g2, 0, none⟩) (nb + 1) cap2)).heap.size)) L' wb qs (bs ++ [x]) is aq cq (some ⟨g2, 0, none⟩) cap2 ai ci := by
  have hz2 : ∀ v, (w2.setCell ⟨wb, 1, none⟩ v).heap.size = w2.heap.size := fun v => by simp [World.setCell]
  have hzz : wr.heap.size ≤ w2.heap.size := by have := hgrow.size; simp at this; omega
  have hs : ∀ k, k < wr.heap.size → (∀ a, ab = some a → a.block ≠ k) → w2.heap[k]? = wr.heap[k]? := fun k hk hne =>
    (hgrow.block k (by simp; omega) (fun e => by obtain ⟨a, ha, hab⟩ := ownBlock_some e.symm; exact hne a ha hab)).trans (Below.heap_alloc _ _ _ hk)
  have hwb : w2.heap[wb]? = wr.heap[wb]? := hs wb HR.lt (HR.rb.ne HR.blk (by decide))
  have hcl : ∀ k, L' k → k < wr.heap.size → (w2.setCell ⟨wb, 1, none⟩ (.slice (some ⟨g2, 0, none⟩) (nb + 1) cap2)).heap[k]? = wr.heap[k]? := by
    intro k hk hlk
    rw [Below.heap_setCell _ _ _ _ (fun e => hap wb HR.own (by have e' : k = wb := e; rw [← e']; exact hk))]
    exact hs k hlk (fun a ha e => hap k (e ▸ HR.rb.2 a ha) hk)
  have hR : ∀ k, R k → (fun k => R k ∨ (w.heap.size ≤ k ∧ k < (w2.setCell ⟨wb, 1, none⟩ (.slice (some ⟨g2, 0, none⟩) (nb + 1) cap2)).heap.size)) k := fun k hk => Or.inl hk
  have hblk2 := hwb.trans HR.blk
  have hlen : (encL bs ++ news) = encL (bs ++ [x]) := by rw [hnews]; simp [encL]
  have hg2R : R g2 ∨ (w.heap.size ≤ g2 ∧ g2 < (w2.setCell ⟨wb, 1, none⟩ (.slice (some ⟨g2, 0, none⟩) (nb + 1) cap2)).heap.size) := by
    rcases hat with e | e
    · obtain ⟨a, ha, hab⟩ := ownBlock_some e; exact Or.inl (hab ▸ HR.rb.2 a ha)
    · exact Or.inr ⟨by omega, by rw [hz2]; exact hlt⟩
  refine ⟨?_, Or.inl HR.own, ?_, ?_, ?_, ?_, ?_, ?_, ?_, ?_⟩
  · rw [heap_setCell_at hblk2]
    simp [List.length_append, hnb]
  · have : Row w2 R 99 2 aq qs.length cq (encQ qs) := HR.rq.same fun a ha => by obtain ⟨c, hc, _⟩ := HR.rq.block ha; exact hs _ (lt_of_heap hc) (HR.rb.ne hc (by decide))
    exact (this.setCell_other (this.ne hblk2 (by decide)) _).mono hR
  · have hr2 : Row w2 (fun k => R k ∨ (w.heap.size ≤ k ∧ k < (w2.setCell ⟨wb, 1, none⟩ (.slice (some ⟨g2, 0, none⟩) (nb + 1) cap2)).heap.size)) 86 1 (some ⟨g2, 0, none⟩) (nb + 1) cap2 (encL bs ++ news) := ⟨hown, fun a ha => by cases ha; exact hg2R⟩
    rw [hlen] at hr2
    have hl2 : (bs ++ [x]).length = nb + 1 := by rw [List.length_append, hnb]; rfl
    rw [hl2]
    exact hr2.setCell_other (hr2.ne hblk2 (by decide)) _
  · have : Row w2 R 24 1 ai is.length ci (encL is) := HR.ri.same fun a ha => by obtain ⟨c, hc, _⟩ := HR.ri.block ha; exact hs _ (lt_of_heap hc) (HR.rb.ne hc (by decide))
    exact (this.setCell_other (this.ne hblk2 (by decide)) _).mono hR
  · intro i hi
    by_cases he : i < bs.length
    · have := (HR.lb i he)
      rw [List.getElem_append_left he]
      rcases this with h | ⟨g, h1, h2, h3⟩
      · exact Or.inl h
      · exact Or.inr ⟨g, h1, hL g h2, (hcl g (hL g h2) (lt_of_heap h3)).trans h3⟩
    · have hi' : i = nb := by simp at hi; omega
      subst hi'
      rw [List.getElem_append_right (by omega)]
      simp only [hnb, Nat.sub_self, List.getElem_cons_zero]
      exact hx.same hcl
  · intro i hi
    rcases HR.li i hi with h | ⟨g, h1, h2, h3⟩
    · exact Or.inl h
    · exact Or.inr ⟨g, h1, hL g h2, (hcl g (hL g h2) (lt_of_heap h3)).trans h3⟩
  · intro k hk hL'k
    rcases hk with hk | hk
    · exact hap k hk hL'k
    · have := hLl k hL'k; omega
  · intro k hk
    rcases hk with hk | hk
    · rw [hz2]; have := HR.ltR k hk; omega
    · exact hk.2
  · intro k hk
    rw [hz2]; have := hLl k hk; omega

/-- one list more: the world's block, its rows and lists behind the append and the store -/
theorem WBlk.pushI {w wr w2 : World} {L' : Nat → Prop} {x : Option Addr × Nat} {o : Obj} {nb g2 cap2 : Nat} {news : List Value} (HR : WBlk wr R L wb qs bs is aq cq ab cb ai ci) (hz : w.heap.size ≤ wr.heap.size)
    (hL : ∀ k, L k → L' k) (hLl : ∀ k, L' k → k < w.heap.size) (hap : ∀ k, R k → ¬ L' k) (hx : Own1 wr L' 3 x.1 x.2 (intAt nb)) (hnb : is.length = nb) (hnews : news = [.slice x.1 x.2 x.2])
    (hgrow : (wr.alloc o).grownBy w2 (Value.ownBlock (.slice ai nb ci))) (hown : w2.ownsRow 0 24 1 (.slice (some ⟨g2, 0, none⟩) (nb + 1) cap2) (nb + 1) (encL is ++ news)) (hat : Value.ownBlock (.slice ai nb ci) = some g2 ∨ g2 = wr.heap.size + 1) (hlt : g2 < w2.heap.size) :
    WBlk (w2.setCell ⟨wb, 2, none⟩ (.slice (some ⟨g2, 0, none⟩) (nb + 1) cap2)) (fun k => R k ∨ (w.heap.size ≤ k ∧ k < (w2.setCell ⟨wb, 2, none⟩ (.slice (some ⟨g2, 0, none⟩) (nb + 1) cap2)).heap.size)) L' wb qs bs (is ++ [x]) aq cq ab cb (some ⟨g2, 0, none⟩) cap2 := by
  have hz2 : ∀ v, (w2.setCell ⟨wb, 2, none⟩ v).heap.size = w2.heap.size := fun v => by simp [World.setCell]
  have hzz : wr.heap.size ≤ w2.heap.size := by have := hgrow.size; simp at this; omega
  have hs : ∀ k, k < wr.heap.size → (∀ a, ai = some a → a.block ≠ k) → w2.heap[k]? = wr.heap[k]? := fun k hk hne =>
    (hgrow.block k (by simp; omega) (fun e => by obtain ⟨a, ha, hab⟩ := ownBlock_some e.symm; exact hne a ha hab)).trans (Below.heap_alloc _ _ _ hk)
  have hwb : w2.heap[wb]? = wr.heap[wb]? := hs wb HR.lt (HR.ri.ne HR.blk (by decide))
  have hcl : ∀ k, L' k → k < wr.heap.size → (w2.setCell ⟨wb, 2, none⟩ (.slice (some ⟨g2, 0, none⟩) (nb + 1) cap2)).heap[k]? = wr.heap[k]? := by
    intro k hk hlk
    rw [Below.heap_setCell _ _ _ _ (fun e => hap wb HR.own (by have e' : k = wb := e; rw [← e']; exact hk))]
    exact hs k hlk (fun a ha e => hap k (e ▸ HR.ri.2 a ha) hk)
  have hR : ∀ k, R k → (fun k => R k ∨ (w.heap.size ≤ k ∧ k < (w2.setCell ⟨wb, 2, none⟩ (.slice (some ⟨g2, 0, none⟩) (nb + 1) cap2)).heap.size)) k := fun k hk => Or.inl hk
  have hblk2 := hwb.trans HR.blk
  have hlen : (encL is ++ news) = encL (is ++ [x]) := by rw [hnews]; simp [encL]
  have hg2R : R g2 ∨ (w.heap.size ≤ g2 ∧ g2 < (w2.setCell ⟨wb, 2, none⟩ (.slice (some ⟨g2, 0, none⟩) (nb + 1) cap2)).heap.size) := by
    rcases hat with e | e
    · obtain ⟨a, ha, hab⟩ := ownBlock_some e; exact Or.inl (hab ▸ HR.ri.2 a ha)
    · exact Or.inr ⟨by omega, by rw [hz2]; exact hlt⟩
  refine ⟨?_, Or.inl HR.own, ?_, ?_, ?_, ?_, ?_, ?_, ?_, ?_⟩
  · rw [heap_setCell_at hblk2]
    simp [List.length_append, hnb]
  · have : Row w2 R 99 2 aq qs.length cq (encQ qs) := HR.rq.same fun a ha => by obtain ⟨c, hc, _⟩ := HR.rq.block ha; exact hs _ (lt_of_heap hc) (HR.ri.ne hc (by decide))
    exact (this.setCell_other (this.ne hblk2 (by decide)) _).mono hR
  · have : Row w2 R 86 1 ab bs.length cb (encL bs) := HR.rb.same fun a ha => by obtain ⟨c, hc, _⟩ := HR.rb.block ha; exact hs _ (lt_of_heap hc) (HR.ri.ne hc (by decide))
    exact (this.setCell_other (this.ne hblk2 (by decide)) _).mono hR
  · have hr2 : Row w2 (fun k => R k ∨ (w.heap.size ≤ k ∧ k < (w2.setCell ⟨wb, 2, none⟩ (.slice (some ⟨g2, 0, none⟩) (nb + 1) cap2)).heap.size)) 24 1 (some ⟨g2, 0, none⟩) (nb + 1) cap2 (encL is ++ news) := ⟨hown, fun a ha => by cases ha; exact hg2R⟩
    rw [hlen] at hr2
    have hl2 : (is ++ [x]).length = nb + 1 := by rw [List.length_append, hnb]; rfl
    rw [hl2]
    exact hr2.setCell_other (hr2.ne hblk2 (by decide)) _
  · intro i hi
    rcases HR.lb i hi with h | ⟨g, h1, h2, h3⟩
    · exact Or.inl h
    · exact Or.inr ⟨g, h1, hL g h2, (hcl g (hL g h2) (lt_of_heap h3)).trans h3⟩
  · intro i hi
    by_cases he : i < is.length
    · have := (HR.li i he)
      rw [List.getElem_append_left he]
      rcases this with h | ⟨g, h1, h2, h3⟩
      · exact Or.inl h
      · exact Or.inr ⟨g, h1, hL g h2, (hcl g (hL g h2) (lt_of_heap h3)).trans h3⟩
    · have hi' : i = nb := by simp at hi; omega
      subst hi'
      rw [List.getElem_append_right (by omega)]
      simp only [hnb, Nat.sub_self, List.getElem_cons_zero]
      exact hx.same hcl
  · intro k hk hL'k
    rcases hk with hk | hk
    · exact hap k hk hL'k
    · have := hLl k hL'k; omega
  · intro k hk
    rcases hk with hk | hk
    · rw [hz2]; have := HR.ltR k hk; omega
    · exact hk.2
  · intro k hk
    rw [hz2]; have := hLl k hk; omega
end

set_option maxHeartbeats 1000000 in
set_option maxRecDepth 1000000 in
theorem law_mine_some (F : Nat → Prop) (wb : Nat) (qs : List (Nat × Nat)) (bs is : List (Option Addr × Nat)) (g n cap : Nat) (cur : Array Value) (w : World) (h : WAt w F wb qs bs is) (hg : w.heap[g]? = some (.cells cur 5 (0, 0))) (hcs : cur.size = cap) (hcm : cap ≤ maxLen) (hnF : ¬ F g) (hl : bs.length ≤ 1000000) :
    Calls Tryz.prog 67 #[.pointer (some ⟨wb, 0, none⟩), .slice (some ⟨g, 0, none⟩) n cap] w fun e w' => e = .returned (.tuple #[]) ∧ WAt w' (Foot (fun k => F k ∨ k = g) w w') wb qs (bs ++ [(some ⟨g, 0, none⟩, cap)]) is ∧ Kept (fun k => F k ∨ k = g) w w' := by
  obtain ⟨R, L, aq, cq, ab, cb, ai, ci, h, hF⟩ := h
  obtain ⟨i0, hi, hi0, hi1, hi2⟩ := info_parts info_bs
  have hwg : wb ≠ g := fun e => hnF ((hF g).2 (Or.inl (e ▸ h.own)))
  have c1 := h.c1
  have f1 := h.fz 1
  have hlt := h.lt
  have H : Hid (WBlk w R L wb qs bs is aq cq ab cb ai ci) := h
  have HF : Hid (∀ k, F k ↔ (R k ∨ L k)) := hF
  have HG : Hid (¬ F g) := hnF
  have H0 : Hid (w.heap[g]? = some (.cells cur 5 (0, 0))) := hg
  clear h hF hnF hg
  unfold maxLen at hcm
  generalize hB : bs.length = nb at *
  have hB' : Hid (bs.length = nb) := hB
  clear hB
  go_enter Tryz.func67, Tryz.ntmps67
  go_wp2
  go_loopw [5] (fun i wr => ∃ k : Nat, k ≤ cap ∧ i = .int .i64 k ∧ Hid (∃ arr : Array Value, wr.heap[g]? = some (.cells arr 5 (0, 0)) ∧ arr.size = cap ∧ ∀ j, j < k → arr[j]? = some (byteAt nb)) ∧ Hid (Kept (fun b => b = g) w wr)) (fun i _ => cap - (intOf i).toNat)
  case atStart => exact ⟨0, Nat.zero_le _, rfl, ⟨cur, H0.out, hcs, fun j hj => by omega⟩, Kept.refl _ _⟩
  case round =>
    obtain ⟨k, hk, rfl, ha, hK⟩ := hrel
    have d1 : wr.cell? ⟨wb, 1, none⟩ = some (.slice ab nb cb) := (hK.out.cell (p := ⟨wb, 1, none⟩) hlt hwg).trans c1
    have e1 : wr.frozen? ⟨wb, 1, none⟩ = false := (hK.out.frozen (p := ⟨wb, 1, none⟩) hlt hwg).trans f1
    obtain ⟨arr, harr, hsz, hall⟩ := ha.out
    by_cases hlt2 : k < cap
    · have q0 : ∃ v, wr.cell? ⟨g, k, none⟩ = some v := ⟨arr[k]'(by omega), by simp [World.cell?, harr, hsz, hlt2]⟩
      have q1 : wr.frozen? ⟨g, k, none⟩ = false := by simp [World.frozen?, harr]
      obtain ⟨v0, q0⟩ := q0
      have HA : Hid (∃ arr' : Array Value, (wr.setCell ⟨g, k, none⟩ (byteAt nb)).heap[g]? = some (.cells arr' 5 (0, 0)) ∧ arr'.size = cap ∧ ∀ j, j < k + 1 → arr'[j]? = some (byteAt nb)) := by
        refine ⟨arr.setIfInBounds k (byteAt nb), heap_setCell_at harr _, by simpa using hsz, fun j hj => ?_⟩
        rw [Array.getElem?_setIfInBounds]
        by_cases e : k = j
        · rw [if_pos e, if_pos (by omega)]
        · rw [if_neg e]; exact hall j (by omega)
      have HK2 : Hid (Kept (fun b => b = g) w (wr.setCell ⟨g, k, none⟩ (byteAt nb))) := hK.out.setCell (p := ⟨g, k, none⟩) (Or.inl rfl) _
      clear hall harr ha hK hsz arr
      go_wp2
      go_roundw
      case rel => exact ⟨k + 1, by omega, by go_num, HA, HK2⟩
      case measure => simp [intOf]; omega
    · have hke : k = cap := by omega
      have HE : Hid (wr.heap[g]? = some (.cells (Array.replicate cap (byteAt nb)) 5 (0, 0))) := by
        have : arr = Array.replicate cap (byteAt nb) := by
          apply Array.ext_getElem?
          intro j
          by_cases hj : j < cap
          · rw [hall j (by omega)]; simp [hj]
          · rw [Array.getElem?_eq_none (by omega), Array.getElem?_eq_none (by simp; omega)]
        rw [← this]; exact harr
      clear hall harr ha hsz arr hke
      have HR : Hid (WBlk wr R L wb qs bs is aq cq ab cb ai ci) := H.out.same (fun t ht hl => hK.out.block t hl (fun e => HG.out ((HF.out g).2 (e ▸ ht)))) hK.out.size
      have HO : Hid ((wr.alloc (.cells #[.slice (some ⟨g, 0, none⟩) cap cap] 86)).ownsRow 0 86 1 (.slice ab nb cb) nb (encL bs)) := by
        have := (HR.out.rb.alloc (.cells #[.slice (some ⟨g, 0, none⟩) cap cap] 86)).1
        rw [hB'.out] at this; exact this
      have HW : Hid (∀ (t : Nat) (u : Value), [Value.slice (some ⟨g, 0, none⟩) cap cap][t]? = some u → (wr.alloc (.cells #[.slice (some ⟨g, 0, none⟩) cap cap] 86)).cell? ((⟨wr.heap.size, 0, none⟩ : Addr).add t) = some u) := fun t u => news_new t u
      go_wp2_with (at_builtin; go_must (refine wpList_append_lies _ rfl (.tmp 29) (.tmp 31) 47 rfl 0 86 i0 (.slice none 0 0) 1 24 Tryz.underlying47 hi hi0 hi1 hi2 rfl (by decide) (.slice ab nb cb) nb (encL bs) rfl HO.out ⟨wr.heap.size, 0, none⟩ 1 1 [Value.slice (some ⟨g, 0, none⟩) cap cap] rfl rfl HW.out (by intro u hu; simp at hu; subst hu; rfl) (by decide) (by unfold maxLen; omega) (by omega) (Nat.zero_le _) (wr.heap.size + 1) (by simp) ?_; intro g2 cap2 w2 hown hgrow hat hlt3; have HX := hide (And.intro hown (And.intro hgrow (And.intro hat hlt3))); have m1 := HR.out.grow_c1 hgrow (by rw [hB'.out]); clear hown hgrow hat hlt3; obtain ⟨m1, m2⟩ := m1))
      go_end0
      obtain ⟨hown, hgrow, hat, hlt3⟩ := HX.out
      have hgl : g < w.heap.size := lt_of_heap H0.out
      have hP := WBlk.pushB (w := w) (L' := fun k => L k ∨ k = g) (x := (some ⟨g, 0, none⟩, cap)) HR.out hK.out.size (fun _ h => Or.inl h) (fun k hk => hk.elim (H.out.ltL k) (fun e => e ▸ hgl)) (fun k hk hL => hL.elim (H.out.apart k hk) (fun e => HG.out ((HF.out g).2 (Or.inl (e ▸ hk))))) (Or.inr ⟨g, rfl, Or.inr rfl, HE.out⟩) hB'.out rfl hgrow hown hat hlt3
      have hz2 : ∀ v, (w2.setCell ⟨wb, 1, none⟩ v).heap.size = w2.heap.size := fun v => by simp [World.setCell]
      refine ⟨rfl, ⟨_, _, _, _, _, _, _, _, hP, fun k => ?_⟩, ?_⟩
      · constructor
        · rintro ((h | h) | h)
          · exact ((HF.out k).1 h).elim (fun h => Or.inl (Or.inl h)) (fun h => Or.inr (Or.inl h))
          · exact Or.inr (Or.inr h)
          · exact Or.inl (Or.inr h)
        · rintro ((h | h) | (h | h))
          · exact Or.inl (Or.inl ((HF.out k).2 (Or.inl h)))
          · exact Or.inr h
          · exact Or.inl (Or.inl ((HF.out k).2 (Or.inr h)))
          · exact Or.inl (Or.inr h)
      · refine Kept.setCell (Kept.grown ((hK.out.mono (fun _ _ h => Or.inr h)).alloc _) hgrow (fun k hk => ?_)) (p := ⟨wb, 1, none⟩) (Or.inl (Or.inl ((HF.out wb).2 (Or.inl H.out.own)))) _
        obtain ⟨a, ha, rfl⟩ := ownBlock_some hk
        exact Or.inl (Or.inl ((HF.out _).2 (Or.inl (H.out.rb.2 a ha))))

set_option maxHeartbeats 1000000 in
set_option maxRecDepth 1000000 in
theorem law_owned_some (F : Nat → Prop) (wb : Nat) (qs : List (Nat × Nat)) (bs is : List (Option Addr × Nat)) (g n cap : Nat) (cur : Array Value) (w : World) (h : WAt w F wb qs bs is) (hg : w.heap[g]? = some (.cells cur 3 (0, 0))) (hcs : cur.size = cap) (hcm : cap ≤ maxLen) (hnF : ¬ F g) (hl : is.length ≤ 1000000) :
    Calls Tryz.prog 74 #[.pointer (some ⟨wb, 0, none⟩), .slice (some ⟨g, 0, none⟩) n cap] w fun e w' => e = .returned (.tuple #[]) ∧ WAt w' (Foot (fun k => F k ∨ k = g) w w') wb qs bs (is ++ [(some ⟨g, 0, none⟩, cap)]) ∧ Kept (fun k => F k ∨ k = g) w w' := by
  obtain ⟨R, L, aq, cq, ab, cb, ai, ci, h, hF⟩ := h
  obtain ⟨i0, hi, hi0, hi1, hi2⟩ := info_parts info_is
  have hwg : wb ≠ g := fun e => hnF ((hF g).2 (Or.inl (e ▸ h.own)))
  have c1 := h.c2
  have f1 := h.fz 2
  have hlt := h.lt
  have H : Hid (WBlk w R L wb qs bs is aq cq ab cb ai ci) := h
  have HF : Hid (∀ k, F k ↔ (R k ∨ L k)) := hF
  have HG : Hid (¬ F g) := hnF
  have H0 : Hid (w.heap[g]? = some (.cells cur 3 (0, 0))) := hg
  clear h hF hnF hg
  unfold maxLen at hcm
  generalize hB : is.length = nb at *
  have hB' : Hid (is.length = nb) := hB
  clear hB
  go_enter Tryz.func74, Tryz.ntmps74
  go_wp2
  go_loopw [5] (fun i wr => ∃ k : Nat, k ≤ cap ∧ i = .int .i64 k ∧ Hid (∃ arr : Array Value, wr.heap[g]? = some (.cells arr 3 (0, 0)) ∧ arr.size = cap ∧ ∀ j, j < k → arr[j]? = some (intAt nb)) ∧ Hid (Kept (fun b => b = g) w wr)) (fun i _ => cap - (intOf i).toNat)
  case atStart => exact ⟨0, Nat.zero_le _, rfl, ⟨cur, H0.out, hcs, fun j hj => by omega⟩, Kept.refl _ _⟩
  case round =>
    obtain ⟨k, hk, rfl, ha, hK⟩ := hrel
    have d1 : wr.cell? ⟨wb, 2, none⟩ = some (.slice ai nb ci) := (hK.out.cell (p := ⟨wb, 2, none⟩) hlt hwg).trans c1
    have e1 : wr.frozen? ⟨wb, 2, none⟩ = false := (hK.out.frozen (p := ⟨wb, 2, none⟩) hlt hwg).trans f1
    obtain ⟨arr, harr, hsz, hall⟩ := ha.out
    by_cases hlt2 : k < cap
    · have q0 : ∃ v, wr.cell? ⟨g, k, none⟩ = some v := ⟨arr[k]'(by omega), by simp [World.cell?, harr, hsz, hlt2]⟩
      have q1 : wr.frozen? ⟨g, k, none⟩ = false := by simp [World.frozen?, harr]
      obtain ⟨v0, q0⟩ := q0
      have HA : Hid (∃ arr' : Array Value, (wr.setCell ⟨g, k, none⟩ (intAt nb)).heap[g]? = some (.cells arr' 3 (0, 0)) ∧ arr'.size = cap ∧ ∀ j, j < k + 1 → arr'[j]? = some (intAt nb)) := by
        refine ⟨arr.setIfInBounds k (intAt nb), heap_setCell_at harr _, by simpa using hsz, fun j hj => ?_⟩
        rw [Array.getElem?_setIfInBounds]
        by_cases e : k = j
        · rw [if_pos e, if_pos (by omega)]
        · rw [if_neg e]; exact hall j (by omega)
      have HK2 : Hid (Kept (fun b => b = g) w (wr.setCell ⟨g, k, none⟩ (intAt nb))) := hK.out.setCell (p := ⟨g, k, none⟩) (Or.inl rfl) _
      clear hall harr ha hK hsz arr
      go_wp2
      go_roundw
      case rel => exact ⟨k + 1, by omega, by go_num, HA, HK2⟩
      case measure => simp [intOf]; omega
    · have hke : k = cap := by omega
      have HE : Hid (wr.heap[g]? = some (.cells (Array.replicate cap (intAt nb)) 3 (0, 0))) := by
        have : arr = Array.replicate cap (intAt nb) := by
          apply Array.ext_getElem?
          intro j
          by_cases hj : j < cap
          · rw [hall j (by omega)]; simp [hj]
          · rw [Array.getElem?_eq_none (by omega), Array.getElem?_eq_none (by simp; omega)]
        rw [← this]; exact harr
      clear hall harr ha hsz arr hke
      have HR : Hid (WBlk wr R L wb qs bs is aq cq ab cb ai ci) := H.out.same (fun t ht hl => hK.out.block t hl (fun e => HG.out ((HF.out g).2 (e ▸ ht)))) hK.out.size
      have HO : Hid ((wr.alloc (.cells #[.slice (some ⟨g, 0, none⟩) cap cap] 24)).ownsRow 0 24 1 (.slice ai nb ci) nb (encL is)) := by
        have := (HR.out.ri.alloc (.cells #[.slice (some ⟨g, 0, none⟩) cap cap] 24)).1
        rw [hB'.out] at this; exact this
      have HW : Hid (∀ (t : Nat) (u : Value), [Value.slice (some ⟨g, 0, none⟩) cap cap][t]? = some u → (wr.alloc (.cells #[.slice (some ⟨g, 0, none⟩) cap cap] 24)).cell? ((⟨wr.heap.size, 0, none⟩ : Addr).add t) = some u) := fun t u => news_new t u
      go_wp2_with (at_builtin; go_must (refine wpList_append_lies _ rfl (.tmp 29) (.tmp 31) 48 rfl 0 24 i0 (.slice none 0 0) 1 24 Tryz.underlying48 hi hi0 hi1 hi2 rfl (by decide) (.slice ai nb ci) nb (encL is) rfl HO.out ⟨wr.heap.size, 0, none⟩ 1 1 [Value.slice (some ⟨g, 0, none⟩) cap cap] rfl rfl HW.out (by intro u hu; simp at hu; subst hu; rfl) (by decide) (by unfold maxLen; omega) (by omega) (Nat.zero_le _) (wr.heap.size + 1) (by simp) ?_; intro g2 cap2 w2 hown hgrow hat hlt3; have HX := hide (And.intro hown (And.intro hgrow (And.intro hat hlt3))); have m1 := HR.out.grow_c2 hgrow (by rw [hB'.out]); clear hown hgrow hat hlt3; obtain ⟨m1, m2⟩ := m1))
      go_end0
      obtain ⟨hown, hgrow, hat, hlt3⟩ := HX.out
      have hgl : g < w.heap.size := lt_of_heap H0.out
      have hP := WBlk.pushI (w := w) (L' := fun k => L k ∨ k = g) (x := (some ⟨g, 0, none⟩, cap)) HR.out hK.out.size (fun _ h => Or.inl h) (fun k hk => hk.elim (H.out.ltL k) (fun e => e ▸ hgl)) (fun k hk hL => hL.elim (H.out.apart k hk) (fun e => HG.out ((HF.out g).2 (Or.inl (e ▸ hk))))) (Or.inr ⟨g, rfl, Or.inr rfl, HE.out⟩) hB'.out rfl hgrow hown hat hlt3
      have hz2 : ∀ v, (w2.setCell ⟨wb, 2, none⟩ v).heap.size = w2.heap.size := fun v => by simp [World.setCell]
      refine ⟨rfl, ⟨_, _, _, _, _, _, _, _, hP, fun k => ?_⟩, ?_⟩
      · constructor
        · rintro ((h | h) | h)
          · exact ((HF.out k).1 h).elim (fun h => Or.inl (Or.inl h)) (fun h => Or.inr (Or.inl h))
          · exact Or.inr (Or.inr h)
          · exact Or.inl (Or.inr h)
        · rintro ((h | h) | (h | h))
          · exact Or.inl (Or.inl ((HF.out k).2 (Or.inl h)))
          · exact Or.inr h
          · exact Or.inl (Or.inl ((HF.out k).2 (Or.inr h)))
          · exact Or.inl (Or.inr h)
      · refine Kept.setCell (Kept.grown ((hK.out.mono (fun _ _ h => Or.inr h)).alloc _) hgrow (fun k hk => ?_)) (p := ⟨wb, 2, none⟩) (Or.inl (Or.inl ((HF.out wb).2 (Or.inl H.out.own)))) _
        obtain ⟨a, ha, rfl⟩ := ownBlock_some hk
        exact Or.inl (Or.inl ((HF.out _).2 (Or.inl (H.out.ri.2 a ha))))

set_option maxHeartbeats 1000000 in
set_option maxRecDepth 1000000 in
theorem law_mine_nil (F : Nat → Prop) (wb : Nat) (qs : List (Nat × Nat)) (bs is : List (Option Addr × Nat)) (w : World) (h : WAt w F wb qs bs is) (hl : bs.length ≤ 1000000) :
    Calls Tryz.prog 67 #[.pointer (some ⟨wb, 0, none⟩), .slice none 0 0] w fun e w' => e = .returned (.tuple #[]) ∧ WAt w' (Foot F w w') wb qs (bs ++ [(none, 0)]) is ∧ Kept F w w' := by
  obtain ⟨R, L, aq, cq, ab, cb, ai, ci, h, hF⟩ := h
  obtain ⟨i0, hi, hi0, hi1, hi2⟩ := info_parts info_bs
  have c1 := h.c1
  have f1 := h.fz 1
  have hlt := h.lt
  have H : Hid (WBlk w R L wb qs bs is aq cq ab cb ai ci) := h
  have HF : Hid (∀ k, F k ↔ (R k ∨ L k)) := hF
  clear h hF
  generalize hB : bs.length = nb at *
  have hB' : Hid (bs.length = nb) := hB
  clear hB
  have HO : Hid ((w.alloc (.cells #[.slice none 0 0] 86)).ownsRow 0 86 1 (.slice ab nb cb) nb (encL bs)) := by
    have := (H.out.rb.alloc (.cells #[.slice none 0 0] 86)).1
    rw [hB'.out] at this; exact this
  have HW : Hid (∀ (t : Nat) (u : Value), [Value.slice none 0 0][t]? = some u → (w.alloc (.cells #[.slice none 0 0] 86)).cell? ((⟨w.heap.size, 0, none⟩ : Addr).add t) = some u) := fun t u => news_new t u
  go_enter Tryz.func67, Tryz.ntmps67
  go_wp2
  refine wp_loop_rounds 1 ?_
  rw [rounds_succ]
  go_wp2_with (at_builtin; go_must (refine wpList_append_lies _ rfl (.tmp 29) (.tmp 31) 47 rfl 0 86 i0 (.slice none 0 0) 1 24 Tryz.underlying47 hi hi0 hi1 hi2 rfl (by decide) (.slice ab nb cb) nb (encL bs) rfl HO.out ⟨w.heap.size, 0, none⟩ 1 1 [Value.slice none 0 0] rfl rfl HW.out (by intro u hu; simp at hu; subst hu; rfl) (by decide) (by unfold maxLen; omega) (by omega) (Nat.zero_le _) (w.heap.size + 1) (by simp) ?_; intro g2 cap2 w2 hown hgrow hat hlt3; have HX := hide (And.intro hown (And.intro hgrow (And.intro hat hlt3))); have m1 := H.out.grow_c1 hgrow (by rw [hB'.out]); clear hown hgrow hat hlt3; obtain ⟨m1, m2⟩ := m1))
  go_end0
  obtain ⟨hown, hgrow, hat, hlt3⟩ := HX.out
  have hP := WBlk.pushB (w := w) (L' := L) (x := (none, 0)) H.out (Nat.le_refl _) (fun _ h => h) H.out.ltL H.out.apart (Or.inl ⟨rfl, rfl⟩) hB'.out rfl hgrow hown hat hlt3
  refine ⟨rfl, ⟨_, _, _, _, _, _, _, _, hP, fun k => ?_⟩, ?_⟩
  · constructor
    · rintro (h | h)
      · exact ((HF.out k).1 h).elim (fun h => Or.inl (Or.inl h)) (fun h => Or.inr h)
      · exact Or.inl (Or.inr h)
    · rintro ((h | h) | h)
      · exact Or.inl ((HF.out k).2 (Or.inl h))
      · exact Or.inr h
      · exact Or.inl ((HF.out k).2 (Or.inr h))
  · refine Kept.setCell (Kept.grown ((Kept.refl _ _).alloc _) hgrow (fun k hk => ?_)) (p := ⟨wb, 1, none⟩) (Or.inl ((HF.out wb).2 (Or.inl H.out.own))) _
    obtain ⟨a, ha, rfl⟩ := ownBlock_some hk
    exact Or.inl ((HF.out _).2 (Or.inl (H.out.rb.2 a ha)))

set_option maxHeartbeats 1000000 in
set_option maxRecDepth 1000000 in
theorem law_owned_nil (F : Nat → Prop) (wb : Nat) (qs : List (Nat × Nat)) (bs is : List (Option Addr × Nat)) (w : World) (h : WAt w F wb qs bs is) (hl : is.length ≤ 1000000) :
    Calls Tryz.prog 74 #[.pointer (some ⟨wb, 0, none⟩), .slice none 0 0] w fun e w' => e = .returned (.tuple #[]) ∧ WAt w' (Foot F w w') wb qs bs (is ++ [(none, 0)]) ∧ Kept F w w' := by
  obtain ⟨R, L, aq, cq, ab, cb, ai, ci, h, hF⟩ := h
  obtain ⟨i0, hi, hi0, hi1, hi2⟩ := info_parts info_is
  have c1 := h.c2
  have f1 := h.fz 2
  have hlt := h.lt
  have H : Hid (WBlk w R L wb qs bs is aq cq ab cb ai ci) := h
  have HF : Hid (∀ k, F k ↔ (R k ∨ L k)) := hF
  clear h hF
  generalize hB : is.length = nb at *
  have hB' : Hid (is.length = nb) := hB
  clear hB
  have HO : Hid ((w.alloc (.cells #[.slice none 0 0] 24)).ownsRow 0 24 1 (.slice ai nb ci) nb (encL is)) := by
    have := (H.out.ri.alloc (.cells #[.slice none 0 0] 24)).1
    rw [hB'.out] at this; exact this
  have HW : Hid (∀ (t : Nat) (u : Value), [Value.slice none 0 0][t]? = some u → (w.alloc (.cells #[.slice none 0 0] 24)).cell? ((⟨w.heap.size, 0, none⟩ : Addr).add t) = some u) := fun t u => news_new t u
  go_enter Tryz.func74, Tryz.ntmps74
  go_wp2
  refine wp_loop_rounds 1 ?_
  rw [rounds_succ]
  go_wp2_with (at_builtin; go_must (refine wpList_append_lies _ rfl (.tmp 29) (.tmp 31) 48 rfl 0 24 i0 (.slice none 0 0) 1 24 Tryz.underlying48 hi hi0 hi1 hi2 rfl (by decide) (.slice ai nb ci) nb (encL is) rfl HO.out ⟨w.heap.size, 0, none⟩ 1 1 [Value.slice none 0 0] rfl rfl HW.out (by intro u hu; simp at hu; subst hu; rfl) (by decide) (by unfold maxLen; omega) (by omega) (Nat.zero_le _) (w.heap.size + 1) (by simp) ?_; intro g2 cap2 w2 hown hgrow hat hlt3; have HX := hide (And.intro hown (And.intro hgrow (And.intro hat hlt3))); have m1 := H.out.grow_c2 hgrow (by rw [hB'.out]); clear hown hgrow hat hlt3; obtain ⟨m1, m2⟩ := m1))
  go_end0
  obtain ⟨hown, hgrow, hat, hlt3⟩ := HX.out
  have hP := WBlk.pushI (w := w) (L' := L) (x := (none, 0)) H.out (Nat.le_refl _) (fun _ h => h) H.out.ltL H.out.apart (Or.inl ⟨rfl, rfl⟩) hB'.out rfl hgrow hown hat hlt3
  refine ⟨rfl, ⟨_, _, _, _, _, _, _, _, hP, fun k => ?_⟩, ?_⟩
  · constructor
    · rintro (h | h)
      · exact ((HF.out k).1 h).elim (fun h => Or.inl (Or.inl h)) (fun h => Or.inr h)
      · exact Or.inl (Or.inr h)
    · rintro ((h | h) | h)
      · exact Or.inl ((HF.out k).2 (Or.inl h))
      · exact Or.inr h
      · exact Or.inl ((HF.out k).2 (Or.inr h))
  · refine Kept.setCell (Kept.grown ((Kept.refl _ _).alloc _) hgrow (fun k hk => ?_)) (p := ⟨wb, 2, none⟩) (Or.inl ((HF.out wb).2 (Or.inl H.out.own))) _
    obtain ⟨a, ha, rfl⟩ := ownBlock_some hk
    exact Or.inl ((HF.out _).2 (Or.inl (H.out.ri.2 a ha)))
end Go.Proofs.YtiabdbeejkadnaaGreatDoor

/- The law's world: looks; small. Own work of the verifier. -/
namespace Go.Proofs.YtiabdbeejkadnaaGreatDoor
open Go.RowKit

theorem encL_at {ls : List (Option Addr × Nat)} {i : Nat} (h : i < ls.length) : (encL ls)[i]? = some (.slice (ls[i]).1 (ls[i]).2 (ls[i]).2) := by simp [encL, h]

set_option maxHeartbeats 2000000 in
set_option maxRecDepth 1000000 in
theorem law_looks (F : Nat → Prop) (wb : Nat) (qs : List (Nat × Nat)) (bs is : List (Option Addr × Nat)) (w : World) (h : WAt w F wb qs bs is) (hl : bs.length ≤ 1000000) (hl2 : is.length ≤ 1000000) (hm : (∀ x ∈ bs, x.2 ≤ maxLen) ∧ ∀ x ∈ is, x.2 ≤ maxLen) :
    Calls Tryz.prog 22 #[.pointer (some ⟨wb, 0, none⟩)] w fun e w' => e = .returned (.bool true) ∧ w' = w := by
  obtain ⟨R, L, aq, cq, ab, cb, ai, ci, h, hF⟩ := h
  have c1 := h.c1
  have c2 := h.c2
  have H : Hid (WBlk w R L wb qs bs is aq cq ab cb ai ci) := h
  have HM : Hid ((∀ x ∈ bs, x.2 ≤ maxLen) ∧ ∀ x ∈ is, x.2 ≤ maxLen) := hm
  clear h hF hm
  generalize hB : bs.length = nb at *
  generalize hI : is.length = ni at *
  have hB' : Hid (bs.length = nb) := hB
  have hI' : Hid (is.length = ni) := hI
  clear hB hI
  go_enter Tryz.func22, Tryz.ntmps22
  go_wp2
  go_loop [3] (fun i => ∃ k : Nat, k ≤ nb ∧ i = .int .i64 k) (fun i => nb - (intOf i).toNat)
  case atStart => exact ⟨0, Nat.zero_le _, rfl⟩
  case round =>
    obtain ⟨k, hk, rfl⟩ := hrel
    by_cases hlt : k < nb
    · have hkb : k < bs.length := by rw [hB'.out]; exact hlt
      obtain ⟨g, cur, hg, _⟩ := Row.some H.out.rb (by omega)
      have d1 : w.cell? ⟨wb, 1, none⟩ = some (.slice (some ⟨g, 0, none⟩) nb cb) := hg ▸ c1
      obtain ⟨ao, n, hx⟩ : ∃ ao n, bs[k] = (ao, n) := ⟨(bs[k]).1, (bs[k]).2, rfl⟩
      have dk : w.cell? ⟨g, k, none⟩ = some (.slice ao n n) := by
        have hr := H.out.rb
        rw [hg] at hr
        rw [Row.cellAt hr k (by omega), encL_at hkb, hx]
      have hn : n ≤ maxLen := by have := HM.out.1 bs[k] (List.getElem_mem _); rw [hx] at this; exact this
      unfold maxLen at hn
      have HO : Hid (Own1 w L 5 ao n (byteAt k)) := by have := H.out.lb k hkb; rw [hx] at this; exact this
      clear c1 hx hg
      go_wp2
      go_loop [4] (fun i => ∃ j : Nat, j ≤ n ∧ i = .int .i64 j) (fun i => n - (intOf i).toNat)
      case atStart => exact ⟨0, Nat.zero_le _, rfl⟩
      case round =>
        obtain ⟨j, hj, rfl⟩ := hrel
        by_cases hlt2 : j < n
        · obtain ⟨g2, hg2, hc2⟩ := Own1.cell HO.out j hlt2
          have dk2 : w.cell? ⟨g, k, none⟩ = some (.slice (some ⟨g2, 0, none⟩) n n) := hg2 ▸ dk
          unfold byteAt at hc2
          have hb : (((k : Int) % 256) != ((k : Int) % 256)) = false := by simp
          clear dk
          go_wp2
          go_round
          case rel => exact ⟨j + 1, by omega, by go_num⟩
          case measure => simp [intOf]; omega
        · go_wp2
          go_round
          case rel => exact ⟨k + 1, by omega, by go_num⟩
          case measure => simp [intOf]; omega
    · go_wp2
      go_loop [5] (fun i => ∃ k : Nat, k ≤ ni ∧ i = .int .i64 k) (fun i => ni - (intOf i).toNat)
      case atStart => exact ⟨0, Nat.zero_le _, rfl⟩
      case round =>
        obtain ⟨k, hk, rfl⟩ := hrel
        by_cases hlt : k < ni
        · have hkb : k < is.length := by rw [hI'.out]; exact hlt
          obtain ⟨g, cur, hg, _⟩ := Row.some H.out.ri (by omega)
          have d1 : w.cell? ⟨wb, 2, none⟩ = some (.slice (some ⟨g, 0, none⟩) ni ci) := hg ▸ c2
          obtain ⟨ao, n, hx⟩ : ∃ ao n, is[k] = (ao, n) := ⟨(is[k]).1, (is[k]).2, rfl⟩
          have dk : w.cell? ⟨g, k, none⟩ = some (.slice ao n n) := by
            have hr := H.out.ri
            rw [hg] at hr
            rw [Row.cellAt hr k (by omega), encL_at hkb, hx]
          have hn : n ≤ maxLen := by have := HM.out.2 is[k] (List.getElem_mem _); rw [hx] at this; exact this
          unfold maxLen at hn
          have HO : Hid (Own1 w L 3 ao n (intAt k)) := by have := H.out.li k hkb; rw [hx] at this; exact this
          clear c2 hx hg
          go_wp2
          go_loop [6] (fun i => ∃ j : Nat, j ≤ n ∧ i = .int .i64 j) (fun i => n - (intOf i).toNat)
          case atStart => exact ⟨0, Nat.zero_le _, rfl⟩
          case round =>
            obtain ⟨j, hj, rfl⟩ := hrel
            by_cases hlt2 : j < n
            · obtain ⟨g2, hg2, hc2⟩ := Own1.cell HO.out j hlt2
              have dk2 : w.cell? ⟨g, k, none⟩ = some (.slice (some ⟨g2, 0, none⟩) n n) := hg2 ▸ dk
              unfold intAt at hc2
              have hb : ((-(k : Int)) != (-(k : Int))) = false := by simp
              clear dk
              go_wp2
              go_round
              case rel => exact ⟨j + 1, by omega, by go_num⟩
              case measure => simp [intOf]; omega
            · go_wp2
              go_round
              case rel => exact ⟨k + 1, by omega, by go_num⟩
              case measure => simp [intOf]; omega
        · go_wp2
          go_ret
          exact ⟨rfl, rfl⟩
end Go.Proofs.YtiabdbeejkadnaaGreatDoor
