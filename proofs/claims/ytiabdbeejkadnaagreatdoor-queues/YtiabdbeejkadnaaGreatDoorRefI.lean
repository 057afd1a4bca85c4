/- The reference queue: Poll in general. Own work of the verifier. -/
import Derived.Test.YtiabdbeejkadnaaGreatDoorRefH
namespace Go.Proofs.YtiabdbeejkadnaaGreatDoor
open Go.RowKit

set_option maxHeartbeats 1000000 in
set_option maxRecDepth 1000000 in
theorem ref_poll_q3 (S : St) (F : Nat → Prop) (mb : Nat) (num : Int) (k : Nat) (w : World) (h : RefAt w F mb S) (hl : S.told.length ≤ 1000000) (hr : S.reqs.length ≤ 1000000) (hp : placeM S num = k) (hs : (S.reqs.getD k Rq.zero).state = 3) :
    Calls Tryz.prog 65 #[.pointer (some ⟨mb, 0, none⟩), .int .i64 num] w fun e w' => e = .returned (.tuple #[.string ⟨#[]⟩, .int .i64 (S.reqs.getD k Rq.zero).tries, .int .i64 7]) ∧ RefAt w' (Foot F w w') mb (dropM S k) ∧ Kept F w w' := by
  have H : Hid (RefAt w F mb S) := h
  have HP : Hid (placeM S num = k) := hp
  have hk := (placeM_some hp).1
  obtain ⟨G, ar, cr, at_, ct, af, cf, ad, cd, h⟩ := h
  obtain ⟨g0, cur, hg0, _, _, _, _⟩ := Row.some h.reqs (by omega)
  subst hg0
  have c1 := h.c1
  obtain ⟨r, hr'⟩ : ∃ r, r = S.reqs.getD k Rq.zero := ⟨_, rfl⟩
  rw [← hr'] at hs ⊢
  have hq : ∀ t, t < 10 → w.cell? ⟨g0, k * 10 + t, none⟩ = (encR r)[t]? := by
    intro t ht
    rw [hr', ← Row.req h.reqs rfl k t hk ht]
  have q0 : w.cell? ⟨g0, k * 10, none⟩ = some (.int .i64 r.num) := hq 0 (by omega)
  have q1 : w.cell? ⟨g0, k * 10 + 1, none⟩ = some (.bool r.write) := hq 1 (by omega)
  have q2 : w.cell? ⟨g0, k * 10 + 2, none⟩ = some (.int .i64 r.page) := hq 2 (by omega)
  have q3 : w.cell? ⟨g0, k * 10 + 3, none⟩ = some (.string r.data) := hq 3 (by omega)
  have q4 : w.cell? ⟨g0, k * 10 + 4, none⟩ = some (.int .i64 r.state) := hq 4 (by omega)
  have q5 : w.cell? ⟨g0, k * 10 + 5, none⟩ = some (.int .i64 r.tries) := hq 5 (by omega)
  have q6 : w.cell? ⟨g0, k * 10 + 6, none⟩ = some (.int .i64 r.after) := hq 6 (by omega)
  have q7 : w.cell? ⟨g0, k * 10 + 7, none⟩ = some (.bool r.alone) := hq 7 (by omega)
  have q8 : w.cell? ⟨g0, k * 10 + 8, none⟩ = some (.bool r.inAir) := hq 8 (by omega)
  have q9 : w.cell? ⟨g0, k * 10 + 9, none⟩ = some (.string r.answer) := hq 9 (by omega)
  clear hq h hp hr'
  have b0 : (r.state == 0) = false := beq_eq_false_iff_ne.2 (by omega)
  have b1 : (r.state == 1) = false := beq_eq_false_iff_ne.2 (by omega)
  have b3 : (r.state == 3) = true := beq_iff_eq.2 hs
  clear hs
  go_enter Tryz.func65, Tryz.ntmps65
  go_wp2_with fail
  refine (ref_place S F mb num _ H.out hl hr).mono ?_
  rintro e w' ⟨rfl, rfl⟩
  rw [HP.out]
  go_wp2_with fail
  refine (ref_drop S F mb k _ (H.out.alloc _) hl hr hk).mono ?_
  rintro e w2 ⟨rfl, hR2, hK2⟩
  have hz2 : w'.heap.size < w2.heap.size := by have := hK2.size; simp at this; omega
  have hnF : ¬ F w'.heap.size := fun e => by have := H.out.lt _ e; omega
  have t5 : w2.cell? ⟨w'.heap.size, 5, none⟩ = some (.int .i64 r.tries) := by rw [hK2.cell (p := ⟨w'.heap.size, 5, none⟩) (by simp) hnF]; simp
  have HR : Hid (RefAt w2 (Foot F w' w2) mb (dropM S k) ∧ Kept F w' w2) :=
    ⟨hR2.wid (fun t ht => Foot.mid (by simp) t ht) (Foot.lt H.out.lt (Nat.le_of_lt hz2)), (Kept.alloc (Kept.refl F w') _).then hK2⟩
  clear hR2 hK2 hnF
  go_wp2
  go_quiet (fail)
  go_wp2
  go_ret3
  exact ⟨rfl, (HR.out.1.grow (below_drewN (Below.refl _ _) _)).wid (fun t ht => Foot.trans (Nat.le_of_lt hz2) (Nat.le_refl _) t ht) (Foot.lt H.out.lt (Nat.le_of_lt hz2)), HR.out.2.drewN _⟩

set_option maxHeartbeats 1000000 in
set_option maxRecDepth 1000000 in
theorem ref_poll_q4 (S : St) (F : Nat → Prop) (mb : Nat) (num : Int) (k : Nat) (w : World) (h : RefAt w F mb S) (hl : S.told.length ≤ 1000000) (hr : S.reqs.length ≤ 1000000) (hp : placeM S num = k) (hs : (S.reqs.getD k Rq.zero).state = 4) :
    Calls Tryz.prog 65 #[.pointer (some ⟨mb, 0, none⟩), .int .i64 num] w fun e w' => e = .returned (.tuple #[.string ⟨#[]⟩, .int .i64 (S.reqs.getD k Rq.zero).tries, .int .i64 8]) ∧ RefAt w' (Foot F w w') mb (dropM S k) ∧ Kept F w w' := by
  have H : Hid (RefAt w F mb S) := h
  have HP : Hid (placeM S num = k) := hp
  have hk := (placeM_some hp).1
  obtain ⟨G, ar, cr, at_, ct, af, cf, ad, cd, h⟩ := h
  obtain ⟨g0, cur, hg0, _, _, _, _⟩ := Row.some h.reqs (by omega)
  subst hg0
  have c1 := h.c1
  obtain ⟨r, hr'⟩ : ∃ r, r = S.reqs.getD k Rq.zero := ⟨_, rfl⟩
  rw [← hr'] at hs ⊢
  have hq : ∀ t, t < 10 → w.cell? ⟨g0, k * 10 + t, none⟩ = (encR r)[t]? := by
    intro t ht
    rw [hr', ← Row.req h.reqs rfl k t hk ht]
  have q0 : w.cell? ⟨g0, k * 10, none⟩ = some (.int .i64 r.num) := hq 0 (by omega)
  have q1 : w.cell? ⟨g0, k * 10 + 1, none⟩ = some (.bool r.write) := hq 1 (by omega)
  have q2 : w.cell? ⟨g0, k * 10 + 2, none⟩ = some (.int .i64 r.page) := hq 2 (by omega)
  have q3 : w.cell? ⟨g0, k * 10 + 3, none⟩ = some (.string r.data) := hq 3 (by omega)
  have q4 : w.cell? ⟨g0, k * 10 + 4, none⟩ = some (.int .i64 r.state) := hq 4 (by omega)
  have q5 : w.cell? ⟨g0, k * 10 + 5, none⟩ = some (.int .i64 r.tries) := hq 5 (by omega)
  have q6 : w.cell? ⟨g0, k * 10 + 6, none⟩ = some (.int .i64 r.after) := hq 6 (by omega)
  have q7 : w.cell? ⟨g0, k * 10 + 7, none⟩ = some (.bool r.alone) := hq 7 (by omega)
  have q8 : w.cell? ⟨g0, k * 10 + 8, none⟩ = some (.bool r.inAir) := hq 8 (by omega)
  have q9 : w.cell? ⟨g0, k * 10 + 9, none⟩ = some (.string r.answer) := hq 9 (by omega)
  clear hq h hp hr'
  have b0 : (r.state == 0) = false := beq_eq_false_iff_ne.2 (by omega)
  have b1 : (r.state == 1) = false := beq_eq_false_iff_ne.2 (by omega)
  have b3 : (r.state == 3) = false := beq_eq_false_iff_ne.2 (by omega)
  have b4 : (r.state == 4) = true := beq_iff_eq.2 hs
  clear hs
  go_enter Tryz.func65, Tryz.ntmps65
  go_wp2_with fail
  refine (ref_place S F mb num _ H.out hl hr).mono ?_
  rintro e w' ⟨rfl, rfl⟩
  rw [HP.out]
  go_wp2_with fail
  refine (ref_drop S F mb k _ (H.out.alloc _) hl hr hk).mono ?_
  rintro e w2 ⟨rfl, hR2, hK2⟩
  have hz2 : w'.heap.size < w2.heap.size := by have := hK2.size; simp at this; omega
  have hnF : ¬ F w'.heap.size := fun e => by have := H.out.lt _ e; omega
  have t5 : w2.cell? ⟨w'.heap.size, 5, none⟩ = some (.int .i64 r.tries) := by rw [hK2.cell (p := ⟨w'.heap.size, 5, none⟩) (by simp) hnF]; simp
  have HR : Hid (RefAt w2 (Foot F w' w2) mb (dropM S k) ∧ Kept F w' w2) :=
    ⟨hR2.wid (fun t ht => Foot.mid (by simp) t ht) (Foot.lt H.out.lt (Nat.le_of_lt hz2)), (Kept.alloc (Kept.refl F w') _).then hK2⟩
  clear hR2 hK2 hnF
  go_wp2
  go_quiet (fail)
  go_wp2
  go_ret3
  exact ⟨rfl, (HR.out.1.grow (below_drewN (Below.refl _ _) _)).wid (fun t ht => Foot.trans (Nat.le_of_lt hz2) (Nat.le_refl _) t ht) (Foot.lt H.out.lt (Nat.le_of_lt hz2)), HR.out.2.drewN _⟩

set_option maxHeartbeats 1000000 in
set_option maxRecDepth 1000000 in
theorem ref_poll_q2 (S : St) (F : Nat → Prop) (mb : Nat) (num : Int) (k : Nat) (w : World) (h : RefAt w F mb S) (hl : S.told.length ≤ 1000000) (hr : S.reqs.length ≤ 1000000) (hp : placeM S num = k) (hs : (S.reqs.getD k Rq.zero).state = 2) :
    Calls Tryz.prog 65 #[.pointer (some ⟨mb, 0, none⟩), .int .i64 num] w fun e w' => e = .returned (.tuple #[.string (S.reqs.getD k Rq.zero).answer, .int .i64 (S.reqs.getD k Rq.zero).tries, .int .i64 0]) ∧ RefAt w' (Foot F w w') mb (dropM S k) ∧ Kept F w w' := by
  have H : Hid (RefAt w F mb S) := h
  have HP : Hid (placeM S num = k) := hp
  have hk := (placeM_some hp).1
  obtain ⟨G, ar, cr, at_, ct, af, cf, ad, cd, h⟩ := h
  obtain ⟨g0, cur, hg0, _, _, _, _⟩ := Row.some h.reqs (by omega)
  subst hg0
  have c1 := h.c1
  obtain ⟨r, hr'⟩ : ∃ r, r = S.reqs.getD k Rq.zero := ⟨_, rfl⟩
  rw [← hr'] at hs ⊢
  have hq : ∀ t, t < 10 → w.cell? ⟨g0, k * 10 + t, none⟩ = (encR r)[t]? := by
    intro t ht
    rw [hr', ← Row.req h.reqs rfl k t hk ht]
  have q0 : w.cell? ⟨g0, k * 10, none⟩ = some (.int .i64 r.num) := hq 0 (by omega)
  have q1 : w.cell? ⟨g0, k * 10 + 1, none⟩ = some (.bool r.write) := hq 1 (by omega)
  have q2 : w.cell? ⟨g0, k * 10 + 2, none⟩ = some (.int .i64 r.page) := hq 2 (by omega)
  have q3 : w.cell? ⟨g0, k * 10 + 3, none⟩ = some (.string r.data) := hq 3 (by omega)
  have q4 : w.cell? ⟨g0, k * 10 + 4, none⟩ = some (.int .i64 r.state) := hq 4 (by omega)
  have q5 : w.cell? ⟨g0, k * 10 + 5, none⟩ = some (.int .i64 r.tries) := hq 5 (by omega)
  have q6 : w.cell? ⟨g0, k * 10 + 6, none⟩ = some (.int .i64 r.after) := hq 6 (by omega)
  have q7 : w.cell? ⟨g0, k * 10 + 7, none⟩ = some (.bool r.alone) := hq 7 (by omega)
  have q8 : w.cell? ⟨g0, k * 10 + 8, none⟩ = some (.bool r.inAir) := hq 8 (by omega)
  have q9 : w.cell? ⟨g0, k * 10 + 9, none⟩ = some (.string r.answer) := hq 9 (by omega)
  clear hq h hp hr'
  have b0 : (r.state == 0) = false := beq_eq_false_iff_ne.2 (by omega)
  have b1 : (r.state == 1) = false := beq_eq_false_iff_ne.2 (by omega)
  have b3 : (r.state == 3) = false := beq_eq_false_iff_ne.2 (by omega)
  have b4 : (r.state == 4) = false := beq_eq_false_iff_ne.2 (by omega)
  clear hs
  go_enter Tryz.func65, Tryz.ntmps65
  go_wp2_with fail
  refine (ref_place S F mb num _ H.out hl hr).mono ?_
  rintro e w' ⟨rfl, rfl⟩
  rw [HP.out]
  go_wp2_with fail
  refine (ref_drop S F mb k _ (H.out.alloc _) hl hr hk).mono ?_
  rintro e w2 ⟨rfl, hR2, hK2⟩
  have hz2 : w'.heap.size < w2.heap.size := by have := hK2.size; simp at this; omega
  have hnF : ¬ F w'.heap.size := fun e => by have := H.out.lt _ e; omega
  have t5 : w2.cell? ⟨w'.heap.size, 5, none⟩ = some (.int .i64 r.tries) := by rw [hK2.cell (p := ⟨w'.heap.size, 5, none⟩) (by simp) hnF]; simp
  have t9 : w2.cell? ⟨w'.heap.size, 9, none⟩ = some (.string r.answer) := by rw [hK2.cell (p := ⟨w'.heap.size, 9, none⟩) (by simp) hnF]; simp
  have HR : Hid (RefAt w2 (Foot F w' w2) mb (dropM S k) ∧ Kept F w' w2) :=
    ⟨hR2.wid (fun t ht => Foot.mid (by simp) t ht) (Foot.lt H.out.lt (Nat.le_of_lt hz2)), (Kept.alloc (Kept.refl F w') _).then hK2⟩
  clear hR2 hK2 hnF
  go_wp2
  go_quiet (fail)
  go_wp2
  go_ret3
  exact ⟨rfl, (HR.out.1.grow (below_drewN (Below.refl _ _) _)).wid (fun t ht => Foot.trans (Nat.le_of_lt hz2) (Nat.le_refl _) t ht) (Foot.lt H.out.lt (Nat.le_of_lt hz2)), HR.out.2.drewN _⟩

/-- Poll, in general. -/
theorem ref_poll_g (S : St) (F : Nat → Prop) (mb : Nat) (num : Int) (w : World) (h : RefAt w F mb S) (hl : S.told.length ≤ 1000000) (hr : S.reqs.length ≤ 1000000) (hst : ∀ r ∈ S.reqs, 0 ≤ r.state ∧ r.state ≤ 4) :
    Calls Tryz.prog 65 #[.pointer (some ⟨mb, 0, none⟩), .int .i64 num] w fun e w' => e = .returned (.tuple #[.string (pollM S num).1, .int .i64 (pollM S num).2.1, .int .i64 (pollM S num).2.2.1]) ∧ RefAt w' (Foot F w w') mb (pollM S num).2.2.2 ∧ Kept F w w' := by
  rcases placeM_cases S num with hp | ⟨k, hp⟩
  · have e : pollM S num = (⟨#[]⟩, 0, 5, S) := by unfold pollM; rw [if_pos (by omega)]
    rw [e]
    exact ref_poll_none S F mb num w h hl hr hp
  · have hk := (placeM_some hp).1
    have hm : S.reqs.getD k Rq.zero ∈ S.reqs := by rw [List.getD_eq_getElem?_getD]; simp [hk]
    obtain ⟨h0, h4⟩ := hst _ hm
    have hkn : (placeM S num).toNat = k := by omega
    have e : pollM S num = (if (S.reqs.getD k Rq.zero).state = 0 ∨ (S.reqs.getD k Rq.zero).state = 1 then (⟨#[]⟩, (S.reqs.getD k Rq.zero).tries, 6, S) else
        if (S.reqs.getD k Rq.zero).state = 3 then (⟨#[]⟩, (S.reqs.getD k Rq.zero).tries, 7, dropM S k) else
        if (S.reqs.getD k Rq.zero).state = 4 then (⟨#[]⟩, (S.reqs.getD k Rq.zero).tries, 8, dropM S k) else ((S.reqs.getD k Rq.zero).answer, (S.reqs.getD k Rq.zero).tries, 0, dropM S k)) := by
      unfold pollM; rw [if_neg (by omega), hkn]
    rw [e]
    rcases (by omega : (S.reqs.getD k Rq.zero).state = 0 ∨ (S.reqs.getD k Rq.zero).state = 1 ∨ (S.reqs.getD k Rq.zero).state = 2 ∨ (S.reqs.getD k Rq.zero).state = 3 ∨ (S.reqs.getD k Rq.zero).state = 4) with hs | hs | hs | hs | hs
    · rw [if_pos (Or.inl hs)]; exact ref_poll_p0 S F mb num k w h hl hr hp hs
    · rw [if_pos (Or.inr hs)]; exact ref_poll_p1 S F mb num k w h hl hr hp hs
    · rw [if_neg (by omega), if_neg (by omega), if_neg (by omega)]
      exact ref_poll_q2 S F mb num k w h hl hr hp hs
    · rw [if_neg (by omega), if_pos hs]
      exact ref_poll_q3 S F mb num k w h hl hr hp hs
    · rw [if_neg (by omega), if_neg (by omega), if_pos hs]
      exact ref_poll_q4 S F mb num k w h hl hr hp hs
end Go.Proofs.YtiabdbeejkadnaaGreatDoor
