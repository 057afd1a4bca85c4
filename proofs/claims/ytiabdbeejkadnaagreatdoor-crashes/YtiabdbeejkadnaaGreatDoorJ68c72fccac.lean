import Derived.Test.YtiabdbeejkadnaaGreatDoorJ7172309776
import Derived.Laws.IdiomStrings
/- The reference queue: Poll, Cancel. Own work of the verifier. -/
namespace Go.Proofs.YtiabdbeejkadnaaGreatDoor
open Go.RowKit

theorem RefAt.alloc {w : World} {F : Nat → Prop} {mb : Nat} {S : St} (h : RefAt w F mb S) (o : Obj) : RefAt (w.alloc o) F mb S := h.same (fun k _ hk => Below.heap_alloc w o k hk) (by simp)

theorem ref_poll_none (S : St) (F : Nat → Prop) (mb : Nat) (num : Int) (w : World) (h : RefAt w F mb S) (hl : S.told.length ≤ 1000000) (hr : S.reqs.length ≤ 1000000) (hp : placeM S num = -1) :
    Calls Tryz.prog 65 #[.pointer (some ⟨mb, 0, none⟩), .int .i64 num] w fun e w' => e = .returned (.tuple #[.string ⟨#[]⟩, .int .i64 0, .int .i64 5]) ∧ RefAt w' (Foot F w w') mb S ∧ Kept F w w' := by
  have H : Hid (RefAt w F mb S) := h
  have HP : Hid (placeM S num = -1) := hp
  clear h hp
  go_enter Tryz.func65, Tryz.ntmps65
  go_wp2_with fail
  refine (ref_place S F mb num _ H.out hl hr).mono ?_
  rintro e w' ⟨rfl, rfl⟩
  rw [HP.out]
  go_wp2
  go_ret3
  exact ⟨rfl, Kept.refAt H.out, Kept.refl _ _⟩

set_option maxHeartbeats 1000000 in
set_option maxRecDepth 1000000 in
theorem ref_poll_p0 (S : St) (F : Nat → Prop) (mb : Nat) (num : Int) (k : Nat) (w : World) (h : RefAt w F mb S) (hl : S.told.length ≤ 1000000) (hr : S.reqs.length ≤ 1000000) (hp : placeM S num = k) (hs : (S.reqs.getD k Rq.zero).state = 0) :
    Calls Tryz.prog 65 #[.pointer (some ⟨mb, 0, none⟩), .int .i64 num] w fun e w' => e = .returned (.tuple #[.string ⟨#[]⟩, .int .i64 (S.reqs.getD k Rq.zero).tries, .int .i64 6]) ∧ RefAt w' (Foot F w w') mb S ∧ Kept F w w' := by
  have H : Hid (RefAt w F mb S) := h
  have HP : Hid (placeM S num = k) := hp
  have hk := (placeM_some hp).1
  obtain ⟨G, ar, cr, at_, ct, af, cf, ad, cd, h⟩ := h
  obtain ⟨g0, cur, hg0, _, _, _, _⟩ := Row.some h.reqs (by omega)
  subst hg0
  have c1 := h.c1
  obtain ⟨r, hr'⟩ : ∃ r, r = S.reqs.getD k Rq.zero := ⟨_, rfl⟩
  rw [← hr'] at hs ⊢
  have hq : ∀ t, t < 10 → w.cell? ⟨g0, k * 10 + t, none⟩ = (encR r)[t]? := by
    intro t ht
    rw [hr', ← Row.req h.reqs rfl k t hk ht]
  have q0 : w.cell? ⟨g0, k * 10, none⟩ = some (.int .i64 r.num) := hq 0 (by omega)
  have q1 : w.cell? ⟨g0, k * 10 + 1, none⟩ = some (.bool r.write) := hq 1 (by omega)
  have q2 : w.cell? ⟨g0, k * 10 + 2, none⟩ = some (.int .i64 r.page) := hq 2 (by omega)
  have q3 : w.cell? ⟨g0, k * 10 + 3, none⟩ = some (.string r.data) := hq 3 (by omega)
  have q4 : w.cell? ⟨g0, k * 10 + 4, none⟩ = some (.int .i64 r.state) := hq 4 (by omega)
  have q5 : w.cell? ⟨g0, k * 10 + 5, none⟩ = some (.int .i64 r.tries) := hq 5 (by omega)
  have q6 : w.cell? ⟨g0, k * 10 + 6, none⟩ = some (.int .i64 r.after) := hq 6 (by omega)
  have q7 : w.cell? ⟨g0, k * 10 + 7, none⟩ = some (.bool r.alone) := hq 7 (by omega)
  have q8 : w.cell? ⟨g0, k * 10 + 8, none⟩ = some (.bool r.inAir) := hq 8 (by omega)
  have q9 : w.cell? ⟨g0, k * 10 + 9, none⟩ = some (.string r.answer) := hq 9 (by omega)
  clear hq h hp hr'
  have b0 : (r.state == 0) = true := beq_iff_eq.2 hs
  clear hs
  go_enter Tryz.func65, Tryz.ntmps65
  go_wp2_with fail
  refine (ref_place S F mb num _ H.out hl hr).mono ?_
  rintro e w' ⟨rfl, rfl⟩
  rw [HP.out]
  go_wp2
  go_quiet (fail)
  go_wp2
  go_ret3
  exact ⟨rfl, H.out.grow (below_drewN (alloc_below _ _) _), (Kept.alloc (Kept.refl _ _) _).drewN _⟩

set_option maxHeartbeats 1000000 in
set_option maxRecDepth 1000000 in
theorem ref_poll_p1 (S : St) (F : Nat → Prop) (mb : Nat) (num : Int) (k : Nat) (w : World) (h : RefAt w F mb S) (hl : S.told.length ≤ 1000000) (hr : S.reqs.length ≤ 1000000) (hp : placeM S num = k) (hs : (S.reqs.getD k Rq.zero).state = 1) :
    Calls Tryz.prog 65 #[.pointer (some ⟨mb, 0, none⟩), .int .i64 num] w fun e w' => e = .returned (.tuple #[.string ⟨#[]⟩, .int .i64 (S.reqs.getD k Rq.zero).tries, .int .i64 6]) ∧ RefAt w' (Foot F w w') mb S ∧ Kept F w w' := by
  have H : Hid (RefAt w F mb S) := h
  have HP : Hid (placeM S num = k) := hp
  have hk := (placeM_some hp).1
  obtain ⟨G, ar, cr, at_, ct, af, cf, ad, cd, h⟩ := h
  obtain ⟨g0, cur, hg0, _, _, _, _⟩ := Row.some h.reqs (by omega)
  subst hg0
  have c1 := h.c1
  obtain ⟨r, hr'⟩ : ∃ r, r = S.reqs.getD k Rq.zero := ⟨_, rfl⟩
  rw [← hr'] at hs ⊢
  have hq : ∀ t, t < 10 → w.cell? ⟨g0, k * 10 + t, none⟩ = (encR r)[t]? := by
    intro t ht
    rw [hr', ← Row.req h.reqs rfl k t hk ht]
  have q0 : w.cell? ⟨g0, k * 10, none⟩ = some (.int .i64 r.num) := hq 0 (by omega)
  have q1 : w.cell? ⟨g0, k * 10 + 1, none⟩ = some (.bool r.write) := hq 1 (by omega)
  have q2 : w.cell? ⟨g0, k * 10 + 2, none⟩ = some (.int .i64 r.page) := hq 2 (by omega)
  have q3 : w.cell? ⟨g0, k * 10 + 3, none⟩ = some (.string r.data) := hq 3 (by omega)
  have q4 : w.cell? ⟨g0, k * 10 + 4, none⟩ = some (.int .i64 r.state) := hq 4 (by omega)
  have q5 : w.cell? ⟨g0, k * 10 + 5, none⟩ = some (.int .i64 r.tries) := hq 5 (by omega)
  have q6 : w.cell? ⟨g0, k * 10 + 6, none⟩ = some (.int .i64 r.after) := hq 6 (by omega)
  have q7 : w.cell? ⟨g0, k * 10 + 7, none⟩ = some (.bool r.alone) := hq 7 (by omega)
  have q8 : w.cell? ⟨g0, k * 10 + 8, none⟩ = some (.bool r.inAir) := hq 8 (by omega)
  have q9 : w.cell? ⟨g0, k * 10 + 9, none⟩ = some (.string r.answer) := hq 9 (by omega)
  clear hq h hp hr'
  have b0 : (r.state == 0) = false := beq_eq_false_iff_ne.2 (by omega)
  have b1 : (r.state == 1) = true := beq_iff_eq.2 hs
  clear hs
  go_enter Tryz.func65, Tryz.ntmps65
  go_wp2_with fail
  refine (ref_place S F mb num _ H.out hl hr).mono ?_
  rintro e w' ⟨rfl, rfl⟩
  rw [HP.out]
  go_wp2
  go_quiet (fail)
  go_wp2
  go_ret3
  exact ⟨rfl, H.out.grow (below_drewN (alloc_below _ _) _), (Kept.alloc (Kept.refl _ _) _).drewN _⟩

set_option maxHeartbeats 1000000 in
set_option maxRecDepth 1000000 in
theorem ref_poll_p3 (S : St) (F : Nat → Prop) (mb : Nat) (num : Int) (k : Nat) (w : World) (h : RefAt w F mb S) (hl : S.told.length ≤ 1000000) (hr : S.reqs.length ≤ 1000000) (hp : placeM S num = k) (hs : (S.reqs.getD k Rq.zero).state = 3) (ha : (S.reqs.getD k Rq.zero).inAir = false) :
    Calls Tryz.prog 65 #[.pointer (some ⟨mb, 0, none⟩), .int .i64 num] w fun e w' => e = .returned (.tuple #[.string ⟨#[]⟩, .int .i64 (S.reqs.getD k Rq.zero).tries, .int .i64 7]) ∧ RefAt w' (Foot F w w') mb { S with reqs := S.reqs.eraseIdx k } ∧ Kept F w w' := by
  have H : Hid (RefAt w F mb S) := h
  have HP : Hid (placeM S num = k) := hp
  have hk := (placeM_some hp).1
  obtain ⟨G, ar, cr, at_, ct, af, cf, ad, cd, h⟩ := h
  obtain ⟨g0, cur, hg0, _, _, _, _⟩ := Row.some h.reqs (by omega)
  subst hg0
  have c1 := h.c1
  obtain ⟨r, hr'⟩ : ∃ r, r = S.reqs.getD k Rq.zero := ⟨_, rfl⟩
  have HA : Hid ((S.reqs.getD k Rq.zero).inAir = false) := ha
  clear ha
  rw [← hr'] at hs ⊢
  have hq : ∀ t, t < 10 → w.cell? ⟨g0, k * 10 + t, none⟩ = (encR r)[t]? := by
    intro t ht
    rw [hr', ← Row.req h.reqs rfl k t hk ht]
  have q0 : w.cell? ⟨g0, k * 10, none⟩ = some (.int .i64 r.num) := hq 0 (by omega)
  have q1 : w.cell? ⟨g0, k * 10 + 1, none⟩ = some (.bool r.write) := hq 1 (by omega)
  have q2 : w.cell? ⟨g0, k * 10 + 2, none⟩ = some (.int .i64 r.page) := hq 2 (by omega)
  have q3 : w.cell? ⟨g0, k * 10 + 3, none⟩ = some (.string r.data) := hq 3 (by omega)
  have q4 : w.cell? ⟨g0, k * 10 + 4, none⟩ = some (.int .i64 r.state) := hq 4 (by omega)
  have q5 : w.cell? ⟨g0, k * 10 + 5, none⟩ = some (.int .i64 r.tries) := hq 5 (by omega)
  have q6 : w.cell? ⟨g0, k * 10 + 6, none⟩ = some (.int .i64 r.after) := hq 6 (by omega)
  have q7 : w.cell? ⟨g0, k * 10 + 7, none⟩ = some (.bool r.alone) := hq 7 (by omega)
  have q8 : w.cell? ⟨g0, k * 10 + 8, none⟩ = some (.bool r.inAir) := hq 8 (by omega)
  have q9 : w.cell? ⟨g0, k * 10 + 9, none⟩ = some (.string r.answer) := hq 9 (by omega)
  clear hq h hp hr'
  have b0 : (r.state == 0) = false := beq_eq_false_iff_ne.2 (by omega)
  have b1 : (r.state == 1) = false := beq_eq_false_iff_ne.2 (by omega)
  have b3 : (r.state == 3) = true := beq_iff_eq.2 hs
  clear hs
  go_enter Tryz.func65, Tryz.ntmps65
  go_wp2_with fail
  refine (ref_place S F mb num _ H.out hl hr).mono ?_
  rintro e w' ⟨rfl, rfl⟩
  rw [HP.out]
  go_wp2_with fail
  refine (ref_drop_air S F mb k _ (H.out.alloc _) hr hk HA.out).mono ?_
  rintro e w2 ⟨rfl, hR2, hK2⟩
  have hz2 : w'.heap.size < w2.heap.size := by have := hK2.size; simp at this; omega
  have hnF : ¬ F w'.heap.size := fun e => by have := H.out.lt _ e; omega
  have t5 : w2.cell? ⟨w'.heap.size, 5, none⟩ = some (.int .i64 r.tries) := by rw [hK2.cell (p := ⟨w'.heap.size, 5, none⟩) (by simp) hnF]; simp
  have HR : Hid (RefAt w2 (Foot F w' w2) mb { S with reqs := S.reqs.eraseIdx k } ∧ Kept F w' w2) :=
    ⟨hR2.wid (fun t ht => Foot.mid (by simp) t ht) (Foot.lt H.out.lt (Nat.le_of_lt hz2)), (Kept.alloc (Kept.refl F w') _).then hK2⟩
  clear hR2 hK2 hnF
  go_wp2
  go_quiet (fail)
  go_wp2
  go_ret3
  exact ⟨rfl, (HR.out.1.grow (below_drewN (Below.refl _ _) _)).wid (fun t ht => Foot.trans (Nat.le_of_lt hz2) (Nat.le_refl _) t ht) (Foot.lt H.out.lt (Nat.le_of_lt hz2)), HR.out.2.drewN _⟩

set_option maxHeartbeats 1000000 in
set_option maxRecDepth 1000000 in
theorem ref_poll_p4 (S : St) (F : Nat → Prop) (mb : Nat) (num : Int) (k : Nat) (w : World) (h : RefAt w F mb S) (hl : S.told.length ≤ 1000000) (hr : S.reqs.length ≤ 1000000) (hp : placeM S num = k) (hs : (S.reqs.getD k Rq.zero).state = 4) (ha : (S.reqs.getD k Rq.zero).inAir = false) :
    Calls Tryz.prog 65 #[.pointer (some ⟨mb, 0, none⟩), .int .i64 num] w fun e w' => e = .returned (.tuple #[.string ⟨#[]⟩, .int .i64 (S.reqs.getD k Rq.zero).tries, .int .i64 8]) ∧ RefAt w' (Foot F w w') mb { S with reqs := S.reqs.eraseIdx k } ∧ Kept F w w' := by
  have H : Hid (RefAt w F mb S) := h
  have HP : Hid (placeM S num = k) := hp
  have hk := (placeM_some hp).1
  obtain ⟨G, ar, cr, at_, ct, af, cf, ad, cd, h⟩ := h
  obtain ⟨g0, cur, hg0, _, _, _, _⟩ := Row.some h.reqs (by omega)
  subst hg0
  have c1 := h.c1
  obtain ⟨r, hr'⟩ : ∃ r, r = S.reqs.getD k Rq.zero := ⟨_, rfl⟩
  have HA : Hid ((S.reqs.getD k Rq.zero).inAir = false) := ha
  clear ha
  rw [← hr'] at hs ⊢
  have hq : ∀ t, t < 10 → w.cell? ⟨g0, k * 10 + t, none⟩ = (encR r)[t]? := by
    intro t ht
    rw [hr', ← Row.req h.reqs rfl k t hk ht]
  have q0 : w.cell? ⟨g0, k * 10, none⟩ = some (.int .i64 r.num) := hq 0 (by omega)
  have q1 : w.cell? ⟨g0, k * 10 + 1, none⟩ = some (.bool r.write) := hq 1 (by omega)
  have q2 : w.cell? ⟨g0, k * 10 + 2, none⟩ = some (.int .i64 r.page) := hq 2 (by omega)
  have q3 : w.cell? ⟨g0, k * 10 + 3, none⟩ = some (.string r.data) := hq 3 (by omega)
  have q4 : w.cell? ⟨g0, k * 10 + 4, none⟩ = some (.int .i64 r.state) := hq 4 (by omega)
  have q5 : w.cell? ⟨g0, k * 10 + 5, none⟩ = some (.int .i64 r.tries) := hq 5 (by omega)
  have q6 : w.cell? ⟨g0, k * 10 + 6, none⟩ = some (.int .i64 r.after) := hq 6 (by omega)
  have q7 : w.cell? ⟨g0, k * 10 + 7, none⟩ = some (.bool r.alone) := hq 7 (by omega)
  have q8 : w.cell? ⟨g0, k * 10 + 8, none⟩ = some (.bool r.inAir) := hq 8 (by omega)
  have q9 : w.cell? ⟨g0, k * 10 + 9, none⟩ = some (.string r.answer) := hq 9 (by omega)
  clear hq h hp hr'
  have b0 : (r.state == 0) = false := beq_eq_false_iff_ne.2 (by omega)
  have b1 : (r.state == 1) = false := beq_eq_false_iff_ne.2 (by omega)
  have b3 : (r.state == 3) = false := beq_eq_false_iff_ne.2 (by omega)
  have b4 : (r.state == 4) = true := beq_iff_eq.2 hs
  clear hs
  go_enter Tryz.func65, Tryz.ntmps65
  go_wp2_with fail
  refine (ref_place S F mb num _ H.out hl hr).mono ?_
  rintro e w' ⟨rfl, rfl⟩
  rw [HP.out]
  go_wp2_with fail
  refine (ref_drop_air S F mb k _ (H.out.alloc _) hr hk HA.out).mono ?_
  rintro e w2 ⟨rfl, hR2, hK2⟩
  have hz2 : w'.heap.size < w2.heap.size := by have := hK2.size; simp at this; omega
  have hnF : ¬ F w'.heap.size := fun e => by have := H.out.lt _ e; omega
  have t5 : w2.cell? ⟨w'.heap.size, 5, none⟩ = some (.int .i64 r.tries) := by rw [hK2.cell (p := ⟨w'.heap.size, 5, none⟩) (by simp) hnF]; simp
  have HR : Hid (RefAt w2 (Foot F w' w2) mb { S with reqs := S.reqs.eraseIdx k } ∧ Kept F w' w2) :=
    ⟨hR2.wid (fun t ht => Foot.mid (by simp) t ht) (Foot.lt H.out.lt (Nat.le_of_lt hz2)), (Kept.alloc (Kept.refl F w') _).then hK2⟩
  clear hR2 hK2 hnF
  go_wp2
  go_quiet (fail)
  go_wp2
  go_ret3
  exact ⟨rfl, (HR.out.1.grow (below_drewN (Below.refl _ _) _)).wid (fun t ht => Foot.trans (Nat.le_of_lt hz2) (Nat.le_refl _) t ht) (Foot.lt H.out.lt (Nat.le_of_lt hz2)), HR.out.2.drewN _⟩

set_option maxHeartbeats 1000000 in
set_option maxRecDepth 1000000 in
theorem ref_poll_p2 (S : St) (F : Nat → Prop) (mb : Nat) (num : Int) (k : Nat) (w : World) (h : RefAt w F mb S) (hl : S.told.length ≤ 1000000) (hr : S.reqs.length ≤ 1000000) (hp : placeM S num = k) (hs : (S.reqs.getD k Rq.zero).state = 2) (ha : (S.reqs.getD k Rq.zero).inAir = false) :
    Calls Tryz.prog 65 #[.pointer (some ⟨mb, 0, none⟩), .int .i64 num] w fun e w' => e = .returned (.tuple #[.string (S.reqs.getD k Rq.zero).answer, .int .i64 (S.reqs.getD k Rq.zero).tries, .int .i64 0]) ∧ RefAt w' (Foot F w w') mb { S with reqs := S.reqs.eraseIdx k } ∧ Kept F w w' := by
  have H : Hid (RefAt w F mb S) := h
  have HP : Hid (placeM S num = k) := hp
  have hk := (placeM_some hp).1
  obtain ⟨G, ar, cr, at_, ct, af, cf, ad, cd, h⟩ := h
  obtain ⟨g0, cur, hg0, _, _, _, _⟩ := Row.some h.reqs (by omega)
  subst hg0
  have c1 := h.c1
  obtain ⟨r, hr'⟩ : ∃ r, r = S.reqs.getD k Rq.zero := ⟨_, rfl⟩
  have HA : Hid ((S.reqs.getD k Rq.zero).inAir = false) := ha
  clear ha
  rw [← hr'] at hs ⊢
  have hq : ∀ t, t < 10 → w.cell? ⟨g0, k * 10 + t, none⟩ = (encR r)[t]? := by
    intro t ht
    rw [hr', ← Row.req h.reqs rfl k t hk ht]
  have q0 : w.cell? ⟨g0, k * 10, none⟩ = some (.int .i64 r.num) := hq 0 (by omega)
  have q1 : w.cell? ⟨g0, k * 10 + 1, none⟩ = some (.bool r.write) := hq 1 (by omega)
  have q2 : w.cell? ⟨g0, k * 10 + 2, none⟩ = some (.int .i64 r.page) := hq 2 (by omega)
  have q3 : w.cell? ⟨g0, k * 10 + 3, none⟩ = some (.string r.data) := hq 3 (by omega)
  have q4 : w.cell? ⟨g0, k * 10 + 4, none⟩ = some (.int .i64 r.state) := hq 4 (by omega)
  have q5 : w.cell? ⟨g0, k * 10 + 5, none⟩ = some (.int .i64 r.tries) := hq 5 (by omega)
  have q6 : w.cell? ⟨g0, k * 10 + 6, none⟩ = some (.int .i64 r.after) := hq 6 (by omega)
  have q7 : w.cell? ⟨g0, k * 10 + 7, none⟩ = some (.bool r.alone) := hq 7 (by omega)
  have q8 : w.cell? ⟨g0, k * 10 + 8, none⟩ = some (.bool r.inAir) := hq 8 (by omega)
  have q9 : w.cell? ⟨g0, k * 10 + 9, none⟩ = some (.string r.answer) := hq 9 (by omega)
  clear hq h hp hr'
  have b0 : (r.state == 0) = false := beq_eq_false_iff_ne.2 (by omega)
  have b1 : (r.state == 1) = false := beq_eq_false_iff_ne.2 (by omega)
  have b3 : (r.state == 3) = false := beq_eq_false_iff_ne.2 (by omega)
  have b4 : (r.state == 4) = false := beq_eq_false_iff_ne.2 (by omega)
  clear hs
  go_enter Tryz.func65, Tryz.ntmps65
  go_wp2_with fail
  refine (ref_place S F mb num _ H.out hl hr).mono ?_
  rintro e w' ⟨rfl, rfl⟩
  rw [HP.out]
  go_wp2_with fail
  refine (ref_drop_air S F mb k _ (H.out.alloc _) hr hk HA.out).mono ?_
  rintro e w2 ⟨rfl, hR2, hK2⟩
  have hz2 : w'.heap.size < w2.heap.size := by have := hK2.size; simp at this; omega
  have hnF : ¬ F w'.heap.size := fun e => by have := H.out.lt _ e; omega
  have t5 : w2.cell? ⟨w'.heap.size, 5, none⟩ = some (.int .i64 r.tries) := by rw [hK2.cell (p := ⟨w'.heap.size, 5, none⟩) (by simp) hnF]; simp
  have t9 : w2.cell? ⟨w'.heap.size, 9, none⟩ = some (.string r.answer) := by rw [hK2.cell (p := ⟨w'.heap.size, 9, none⟩) (by simp) hnF]; simp
  have HR : Hid (RefAt w2 (Foot F w' w2) mb { S with reqs := S.reqs.eraseIdx k } ∧ Kept F w' w2) :=
    ⟨hR2.wid (fun t ht => Foot.mid (by simp) t ht) (Foot.lt H.out.lt (Nat.le_of_lt hz2)), (Kept.alloc (Kept.refl F w') _).then hK2⟩
  clear hR2 hK2 hnF
  go_wp2
  go_quiet (fail)
  go_wp2
  go_ret3
  exact ⟨rfl, (HR.out.1.grow (below_drewN (Below.refl _ _) _)).wid (fun t ht => Foot.trans (Nat.le_of_lt hz2) (Nat.le_refl _) t ht) (Foot.lt H.out.lt (Nat.le_of_lt hz2)), HR.out.2.drewN _⟩

/-- Poll, where the request is not under way (or pending). -/
theorem ref_poll (S : St) (F : Nat → Prop) (mb : Nat) (num : Int) (w : World) (h : RefAt w F mb S) (hl : S.told.length ≤ 1000000) (hr : S.reqs.length ≤ 1000000) (hst : ∀ r ∈ S.reqs, 0 ≤ r.state ∧ r.state ≤ 4 ∧ (2 ≤ r.state → r.inAir = false)) :
    Calls Tryz.prog 65 #[.pointer (some ⟨mb, 0, none⟩), .int .i64 num] w fun e w' => e = .returned (.tuple #[.string (pollM S num).1, .int .i64 (pollM S num).2.1, .int .i64 (pollM S num).2.2.1]) ∧ RefAt w' (Foot F w w') mb (pollM S num).2.2.2 ∧ Kept F w w' := by
  rcases placeM_cases S num with hp | ⟨k, hp⟩
  · have e : pollM S num = (⟨#[]⟩, 0, 5, S) := by unfold pollM; rw [if_pos (by omega)]
    rw [e]
    exact ref_poll_none S F mb num w h hl hr hp
  · have hk := (placeM_some hp).1
    have hm : S.reqs.getD k Rq.zero ∈ S.reqs := by rw [List.getD_eq_getElem?_getD]; simp [hk]
    obtain ⟨h0, h4, hair⟩ := hst _ hm
    have hkn : (placeM S num).toNat = k := by omega
    have e : pollM S num = (if (S.reqs.getD k Rq.zero).state = 0 ∨ (S.reqs.getD k Rq.zero).state = 1 then (⟨#[]⟩, (S.reqs.getD k Rq.zero).tries, 6, S) else
        if (S.reqs.getD k Rq.zero).state = 3 then (⟨#[]⟩, (S.reqs.getD k Rq.zero).tries, 7, dropM S k) else
        if (S.reqs.getD k Rq.zero).state = 4 then (⟨#[]⟩, (S.reqs.getD k Rq.zero).tries, 8, dropM S k) else ((S.reqs.getD k Rq.zero).answer, (S.reqs.getD k Rq.zero).tries, 0, dropM S k)) := by
      unfold pollM; rw [if_neg (by omega), hkn]
    rw [e]
    rcases (by omega : (S.reqs.getD k Rq.zero).state = 0 ∨ (S.reqs.getD k Rq.zero).state = 1 ∨ (S.reqs.getD k Rq.zero).state = 2 ∨ (S.reqs.getD k Rq.zero).state = 3 ∨ (S.reqs.getD k Rq.zero).state = 4) with hs | hs | hs | hs | hs
    · rw [if_pos (Or.inl hs)]; exact ref_poll_p0 S F mb num k w h hl hr hp hs
    · rw [if_pos (Or.inr hs)]; exact ref_poll_p1 S F mb num k w h hl hr hp hs
    · have ha := hair (by omega)
      rw [if_neg (by omega), if_neg (by omega), if_neg (by omega)]
      have ed : dropM S k = { S with reqs := S.reqs.eraseIdx k } := by unfold dropM; rw [ha]; rfl
      rw [ed]; exact ref_poll_p2 S F mb num k w h hl hr hp hs ha
    · have ha := hair (by omega)
      rw [if_neg (by omega), if_pos hs]
      have ed : dropM S k = { S with reqs := S.reqs.eraseIdx k } := by unfold dropM; rw [ha]; rfl
      rw [ed]; exact ref_poll_p3 S F mb num k w h hl hr hp hs ha
    · have ha := hair (by omega)
      rw [if_neg (by omega), if_neg (by omega), if_pos hs]
      have ed : dropM S k = { S with reqs := S.reqs.eraseIdx k } := by unfold dropM; rw [ha]; rfl
      rw [ed]; exact ref_poll_p4 S F mb num k w h hl hr hp hs ha
end Go.Proofs.YtiabdbeejkadnaaGreatDoor

/- The reference queue: Cancel, Waiting, NewQueue. Own work of the verifier. -/
namespace Go.Proofs.YtiabdbeejkadnaaGreatDoor
open Go.RowKit

theorem encRs_set (l : List Rq) (k : Nat) (x : Int) (hk : k < l.length) : (l.flatMap encR).set (k * 10 + 4) (.int .i64 x) = (setState l k x).flatMap encR := by
  unfold setState
  induction l generalizing k with
  | nil => simp at hk
  | cons r l ih =>
    cases k with
    | zero => simp [encR]
    | succ k =>
      have hl : (encR r).length = 10 := rfl
      simp only [List.flatMap_cons, List.set_cons_succ, List.getD_cons_succ]
      rw [List.set_append_right _ _ (by omega), hl]
      have e : (k + 1) * 10 + 4 - 10 = k * 10 + 4 := by omega
      rw [e, ih k (by simpa using hk)]
theorem setState_len (l : List Rq) (k : Nat) (x : Int) : (setState l k x).length = l.length := by simp [setState]
theorem RefBlk.setReq {w : World} {F G : Nat → Prop} {mb : Nat} {S : St} {g0 : Nat} {cr : Nat} {at_ : Option Addr} {ct : Nat} {af : Option Addr} {cf : Nat} {ad : Option Addr} {cd : Nat} (h : RefBlk w F G mb S (some ⟨g0, 0, none⟩) cr at_ ct af cf ad cd) (k : Nat) (x : Int) (hk : k < S.reqs.length) :
    RefBlk (w.setCell ⟨g0, k * 10 + 4, none⟩ (.int .i64 x)) F G mb { S with reqs := setState S.reqs k x } (some ⟨g0, 0, none⟩) cr at_ ct af cf ad cd := by
  obtain ⟨cur, hh, _⟩ := h.reqs.block rfl
  refine ⟨h.own, ?_, ?_, ?_, ?_, ?_, h.sub, h.notMb, h.notR, h.notT, h.notD, fun k hk => by have := h.ltF k hk; simpa [World.setCell] using this⟩
  · have hne : mb ≠ g0 := fun e => (h.reqs.ne h.blk (by decide)) _ rfl e.symm
    refine (Below.heap_setCell w ⟨g0, k * 10 + 4, none⟩ _ mb hne).trans ?_
    simp only [setState_len]
    exact h.blk
  · have := Row.stored h.reqs (k * 10 + 4) (.int .i64 x)
    rw [encRs_set _ _ _ hk] at this
    show Row _ F _ 10 _ (setState S.reqs k x).length cr _
    rw [setState_len]
    exact this
  · exact h.told.setCell_other (p := ⟨g0, k * 10 + 4, none⟩) (h.told.ne hh (by decide)) _
  · exact h.disk.setCell_other (p := ⟨g0, k * 10 + 4, none⟩) (h.disk.ne hh (by decide)) _
  · exact h.flights.same fun t ht => Below.heap_setCell _ _ _ _ (fun e => h.notR _ rfl (by have e' : t = g0 := e; rw [← e']; exact ht))

theorem ref_cancel_none (S : St) (F : Nat → Prop) (mb : Nat) (num : Int) (w : World) (h : RefAt w F mb S) (hl : S.told.length ≤ 1000000) (hr : S.reqs.length ≤ 1000000) (hp : placeM S num = -1) :
    Calls Tryz.prog 68 #[.pointer (some ⟨mb, 0, none⟩), .int .i64 num] w fun e w' => e = .returned (.tuple #[.int .i64 5, .int .i64 0]) ∧ RefAt w' (Foot F w w') mb S ∧ Kept F w w' := by
  have H : Hid (RefAt w F mb S) := h
  have HP : Hid (placeM S num = -1) := hp
  clear h hp
  go_enter Tryz.func68, Tryz.ntmps68
  go_wp2_with fail
  refine (ref_place S F mb num _ H.out hl hr).mono ?_
  rintro e w' ⟨rfl, rfl⟩
  rw [HP.out]
  go_wp2
  go_ret2
  exact ⟨rfl, Kept.refAt H.out, Kept.refl _ _⟩

theorem ref_cancel_ans (S : St) (F : Nat → Prop) (mb : Nat) (num : Int) (k : Nat) (w : World) (h : RefAt w F mb S) (hl : S.told.length ≤ 1000000) (hr : S.reqs.length ≤ 1000000) (hp : placeM S num = k) (hs : 2 ≤ (S.reqs.getD k Rq.zero).state) :
    Calls Tryz.prog 68 #[.pointer (some ⟨mb, 0, none⟩), .int .i64 num] w fun e w' => e = .returned (.tuple #[.int .i64 9, .int .i64 (S.reqs.getD k Rq.zero).tries]) ∧ RefAt w' (Foot F w w') mb S ∧ Kept F w w' := by
  have H : Hid (RefAt w F mb S) := h
  have HP : Hid (placeM S num = k) := hp
  have hk := (placeM_some hp).1
  obtain ⟨G, ar, cr, at_, ct, af, cf, ad, cd, h⟩ := h
  obtain ⟨g0, cur, hg0, _, _, _, _⟩ := Row.some h.reqs (by omega)
  subst hg0
  have c1 := h.c1
  obtain ⟨r, hr'⟩ : ∃ r, r = S.reqs.getD k Rq.zero := ⟨_, rfl⟩
  rw [← hr'] at hs ⊢
  have hq : ∀ t, t < 10 → w.cell? ⟨g0, k * 10 + t, none⟩ = (encR r)[t]? := by
    intro t ht
    rw [hr', ← Row.req h.reqs rfl k t hk ht]
  have q4 : w.cell? ⟨g0, k * 10 + 4, none⟩ = some (.int .i64 r.state) := hq 4 (by omega)
  have q5 : w.cell? ⟨g0, k * 10 + 5, none⟩ = some (.int .i64 r.tries) := hq 5 (by omega)
  have fq : w.frozen? ⟨g0, k * 10 + 4, none⟩ = false := Row.frozenAt h.reqs _
  clear hq h hp hr'
  go_enter Tryz.func68, Tryz.ntmps68
  go_wp2_with fail
  refine (ref_place S F mb num _ H.out hl hr).mono ?_
  rintro e w' ⟨rfl, rfl⟩
  rw [HP.out]
  go_wp2
  go_quiet (fail)
  go_wp2
  go_ret2
  exact ⟨rfl, H.out.drewN _, Kept.drewN (Kept.refl _ _) _⟩

theorem ref_cancel_ok (S : St) (F : Nat → Prop) (mb : Nat) (num : Int) (k : Nat) (w : World) (h : RefAt w F mb S) (hl : S.told.length ≤ 1000000) (hr : S.reqs.length ≤ 1000000) (hp : placeM S num = k) (hs : ¬ 2 ≤ (S.reqs.getD k Rq.zero).state) :
    Calls Tryz.prog 68 #[.pointer (some ⟨mb, 0, none⟩), .int .i64 num] w fun e w' => e = .returned (.tuple #[.int .i64 0, .int .i64 0]) ∧ RefAt w' (Foot F w w') mb { S with reqs := setState S.reqs k 4 } ∧ Kept F w w' := by
  have H : Hid (RefAt w F mb S) := h
  have HP : Hid (placeM S num = k) := hp
  have hk := (placeM_some hp).1
  obtain ⟨G, ar, cr, at_, ct, af, cf, ad, cd, h⟩ := h
  obtain ⟨g0, cur, hg0, _, _, _, _⟩ := Row.some h.reqs (by omega)
  subst hg0
  have c1 := h.c1
  have HB : Hid (RefBlk w F G mb S (some ⟨g0, 0, none⟩) cr at_ ct af cf ad cd) := h
  obtain ⟨r, hr'⟩ : ∃ r, r = S.reqs.getD k Rq.zero := ⟨_, rfl⟩
  rw [← hr'] at hs
  have hq : ∀ t, t < 10 → w.cell? ⟨g0, k * 10 + t, none⟩ = (encR r)[t]? := by
    intro t ht
    rw [hr', ← Row.req h.reqs rfl k t hk ht]
  have q4 : w.cell? ⟨g0, k * 10 + 4, none⟩ = some (.int .i64 r.state) := hq 4 (by omega)
  have q5 : w.cell? ⟨g0, k * 10 + 5, none⟩ = some (.int .i64 r.tries) := hq 5 (by omega)
  have fq : w.frozen? ⟨g0, k * 10 + 4, none⟩ = false := Row.frozenAt h.reqs _
  clear hq h hp hr'
  go_enter Tryz.func68, Tryz.ntmps68
  go_wp2_with fail
  refine (ref_place S F mb num _ H.out hl hr).mono ?_
  rintro e w' ⟨rfl, rfl⟩
  rw [HP.out]
  go_wp2
  go_ret2
  have hb := HB.out.setReq k 4 hk
  exact ⟨rfl, ⟨G, _, cr, at_, ct, af, cf, ad, cd, hb.wid Foot.of (Foot.lt HB.out.ltF (by simp [World.setCell]))⟩, (Kept.refl _ _).setCell (p := ⟨g0, k * 10 + 4, none⟩) (Or.inl (HB.out.reqs.2 ⟨g0, 0, none⟩ rfl)) _⟩

/-- Cancel, whole. -/
theorem ref_cancel (S : St) (F : Nat → Prop) (mb : Nat) (num : Int) (w : World) (h : RefAt w F mb S) (hl : S.told.length ≤ 1000000) (hr : S.reqs.length ≤ 1000000) :
    Calls Tryz.prog 68 #[.pointer (some ⟨mb, 0, none⟩), .int .i64 num] w fun e w' => e = .returned (.tuple #[.int .i64 (cancelM S num).1, .int .i64 (cancelM S num).2.1]) ∧ RefAt w' (Foot F w w') mb (cancelM S num).2.2 ∧ Kept F w w' := by
  rcases placeM_cases S num with hp | ⟨k, hp⟩
  · have e : cancelM S num = (5, 0, S) := by unfold cancelM; rw [if_pos (by omega)]
    rw [e]; exact ref_cancel_none S F mb num w h hl hr hp
  · have hkn : (placeM S num).toNat = k := by omega
    have e : cancelM S num = if 2 ≤ (S.reqs.getD k Rq.zero).state then (9, (S.reqs.getD k Rq.zero).tries, S) else (0, 0, { S with reqs := setState S.reqs k 4 }) := by
      unfold cancelM; rw [if_neg (by omega), hkn]
    rw [e]
    by_cases hs : 2 ≤ (S.reqs.getD k Rq.zero).state
    · rw [if_pos hs]; exact ref_cancel_ans S F mb num k w h hl hr hp hs
    · rw [if_neg hs]; exact ref_cancel_ok S F mb num k w h hl hr hp hs

/-! ### Waiting -/
set_option maxHeartbeats 1000000 in
set_option maxRecDepth 1000000 in
theorem ref_waiting (S : St) (F : Nat → Prop) (mb : Nat) (w : World) (h : RefAt w F mb S) (hr : S.reqs.length ≤ 1000000) :
    Calls Tryz.prog 72 #[.pointer (some ⟨mb, 0, none⟩)] w fun e w' => ∃ ao n cap, e = .returned (.slice ao n cap) ∧ n = (waitM S).length ∧ Row w' (fun b => w.heap.size ≤ b) 3 1 ao n cap (encI (waitM S)) ∧ Below w.heap.size w w' := by
  obtain ⟨G, ar, cr, at_, ct, af, cf, ad, cd, h⟩ := h
  obtain ⟨i0, hi, hi0, hi1, hi2⟩ := info_parts info_int
  have c1 := h.c1
  have hlt := h.lt
  have HQ : Hid (RefBlk w F G mb S ar cr at_ ct af cf ad cd) := h
  clear h
  have hwm : Hid (waitM S = waitTo S.reqs S.reqs.length) := by simp [Hid, waitM, waitTo]
  generalize hR : S.reqs = R at *
  have hR' : Hid (S.reqs = R) := hR
  clear hR
  go_enter Tryz.func72, Tryz.ntmps72
  go_wp2
  go_loopw [3, 4] (fun l i wr => ∃ (j n cap : Nat) (ao : Option Addr), j ≤ R.length ∧ i = .int .i64 j ∧ l = .slice ao n cap ∧ n = (waitTo R j).length ∧ Hid (Row wr (fun b => w.heap.size ≤ b) 3 1 ao n cap (encI (waitTo R j))) ∧ Hid (Below w.heap.size w wr)) (fun _ i _ => R.length - (intOf i).toNat)
  case atStart => exact ⟨0, 0, 0, none, Nat.zero_le _, rfl, rfl, rfl, Row.nil _ _ _ _, Below.refl _ _⟩
  case round =>
    obtain ⟨j, n, cap, ao, hj, rfl, rfl, hn, hrow, hb⟩ := hrel
    have HN : Hid (n = (waitTo R j).length) := hn
    have hnl : n ≤ R.length := by rw [hn]; exact waitTo_len R j
    clear hn
    by_cases hlt2 : j < R.length
    · obtain ⟨g0, cur, hg0, _, hgb, _, _⟩ := Row.some HQ.out.reqs (by rw [hR'.out]; omega)
      have d1 : wr.cell? ⟨mb, 1, none⟩ = some (.slice (some ⟨g0, 0, none⟩) R.length cr) := (hb.out.cell (p := ⟨mb, 1, none⟩) hlt).trans (hg0 ▸ c1)
      obtain ⟨r, hr'⟩ : ∃ r, r = R.getD j Rq.zero := ⟨_, rfl⟩
      have hq : ∀ t, t < 10 → wr.cell? ⟨g0, j * 10 + t, none⟩ = (encR r)[t]? := by
        intro t ht
        rw [hb.out.cell (p := ⟨g0, j * 10 + t, none⟩) (lt_of_heap hgb), hr', ← Row.req (R := R) (by have := HQ.out.reqs; rw [hR'.out, hg0] at this; exact this) rfl j t hlt2 ht]
      have q0 : wr.cell? ⟨g0, j * 10, none⟩ = some (.int .i64 r.num) := hq 0 (by omega)
      have q4 : wr.cell? ⟨g0, j * 10 + 4, none⟩ = some (.int .i64 r.state) := hq 4 (by omega)
      have HRr : Hid (r = R.getD j Rq.zero) := hr'
      clear hq hr' c1 hgb hg0
      by_cases hs : r.state = 0
      · have b1 : (r.state == 0) = true := beq_iff_eq.2 hs
        have HS : Hid (waitTo R (j + 1) = waitTo R j ++ [r.num]) := by rw [Hid, HRr.out]; exact waitTo_yes hlt2 (by rw [← HRr.out]; exact hs)
        clear hs
        have HO : Hid ((wr.alloc (.cells #[.int .i64 r.num] 3)).ownsRow 0 3 1 (.slice ao n cap) n (encI (waitTo R j))) := (hrow.out.alloc _).1
        have HW : Hid (∀ (t : Nat) (u : Value), [Value.int .i64 r.num][t]? = some u → (wr.alloc (.cells #[.int .i64 r.num] 3)).cell? ((⟨wr.heap.size, 0, none⟩ : Addr).add t) = some u) := fun t u => news_new t u
        go_wp2_with (at_builtin; go_must (refine wpList_append_lies _ rfl (.tmp 23) (.tmp 32) 24 rfl 0 3 i0 (.int .i64 0) 1 8 Tryz.underlying24 hi hi0 hi1 hi2 rfl (by decide) (.slice ao n cap) n (encI (waitTo R j)) rfl HO.out ⟨wr.heap.size, 0, none⟩ 1 1 [Value.int .i64 r.num] rfl rfl HW.out (by intro u hu; simp at hu; subst hu; rfl) (by decide) (by unfold maxLen; omega) (by omega) (Nat.zero_le _) (wr.heap.size + 1) (by simp) ?_; intro g cap' w2 hown hgrow hat hlt3; have HX := hide (own_rel hb.out hrow.out hgrow hown hat); clear hown hgrow hat hlt3))
        go_roundw
        case rel => exact ⟨j + 1, n + 1, cap', some ⟨g, 0, none⟩, by omega, by go_num, rfl, by rw [HS.out, List.length_append, HN.out]; rfl, by rw [HS.out]; simpa [Hid, encI] using HX.out.2, HX.out.1⟩
        case measure => simp [intOf]; omega
      · have b1 : (r.state == 0) = false := beq_eq_false_iff_ne.2 hs
        have HS : Hid (waitTo R (j + 1) = waitTo R j) := waitTo_no hlt2 (by rw [← HRr.out]; exact hs)
        clear hs
        go_wp2
        go_roundw
        case rel => exact ⟨j + 1, n, cap, ao, by omega, by go_num, rfl, by rw [HS.out]; exact HN.out, by rw [HS.out]; exact hrow, hb⟩
        case measure => simp [intOf]; omega
    · have d1 : wr.cell? ⟨mb, 1, none⟩ = some (.slice ar R.length cr) := (hb.out.cell (p := ⟨mb, 1, none⟩) hlt).trans c1
      have HJ : Hid (j = R.length) := by show j = R.length; omega
      go_wp2
      go_ret
      refine ⟨ao, n, cap, rfl, ?_, ?_, hb.out⟩
      · rw [HN.out, hwm.out, HJ.out]
      · rw [hwm.out, ← HJ.out]; exact hrow.out
end Go.Proofs.YtiabdbeejkadnaaGreatDoor

/- The reference queue: Disk, NewQueue. Own work of the verifier. -/
namespace Go.Proofs.YtiabdbeejkadnaaGreatDoor
open Go.RowKit

theorem ref_disk (S : St) (F : Nat → Prop) (mb : Nat) (w : World) (h : RefAt w F mb S) (hd : 0 < S.disk.length) :
    Calls Tryz.prog 77 #[.pointer (some ⟨mb, 0, none⟩)] w fun e w' => e = .returned (.string ⟨S.disk.toArray⟩) ∧ w' = w := by
  obtain ⟨G, ar, cr, at_, ct, af, cf, ad, cd, h⟩ := h
  obtain ⟨g0, cur, hg0, _, hgb, _, _⟩ := Row.some h.disk hd
  subst hg0
  have c7 := h.c7
  have hcv := run_convert_bytes_back (P := Tryz.prog) w 86 9 5 ⟨g0, 0, none⟩ cd S.disk Tryz.underlying86 Tryz.underlying5 Tryz.underlying9 (fun j hj => by
    rw [Addr.add_lit, Nat.zero_add, Row.cellAt h.disk j (by omega)]
    simp [encB, hj])
  clear h hgb
  generalize hn : S.disk.length = n at *
  generalize S.disk.toArray = D at *
  clear hn
  go_enter Tryz.func77, Tryz.ntmps77
  go_wp2
  go_ret
  exact ⟨rfl, rfl⟩

def zeros64 : Array Value := (encB (List.replicate 64 0)).toArray
theorem mk64 (w : World) : (Instr.makeSlice 86 (.int .i64 64) (.int .i64 64)).run Tryz.prog w = .ok (.slice (some ⟨w.heap.size, 0, none⟩) 64 64) (w.alloc (.cells zeros64 5)) := by kernel_rfl

theorem new_refAt (depth : Int) (w : World) : RefAt ((w.alloc (.cells zeros64 5)).alloc (.cells #[.int .i64 depth, .slice none 0 0, .slice none 0 0, .slice none 0 0, .int .i64 0, .int .i64 0, .int .i64 0, .slice (some ⟨w.heap.size, 0, none⟩) 64 64] 104))
    (Foot (fun _ => False) w ((w.alloc (.cells zeros64 5)).alloc (.cells #[.int .i64 depth, .slice none 0 0, .slice none 0 0, .slice none 0 0, .int .i64 0, .int .i64 0, .int .i64 0, .slice (some ⟨w.heap.size, 0, none⟩) 64 64] 104))) (w.heap.size + 1) (St.new depth) := by
  refine ⟨fun _ => False, none, 0, none, 0, none, 0, some ⟨w.heap.size, 0, none⟩, 64, ?_⟩
  have hz : ∀ o1 o2 : Obj, ((w.alloc o1).alloc o2).heap.size = w.heap.size + 2 := fun o1 o2 => by simp
  refine ⟨Or.inr ⟨by omega, by rw [hz]; omega⟩, ?_, Row.nil _ _ _ _, Row.nil _ _ _ _, ?_, ⟨[], rfl, Row.nil _ _ _ _, fun x hx => by simp [St.new] at hx⟩, fun _ h => h.elim, fun h => h, fun _ h => (by cases h), fun _ h => (by cases h), fun _ _ h => h, fun k hk => hk.elim (fun h => h.elim) (fun h => h.2)⟩
  · have := heap_alloc_new (w.alloc (.cells zeros64 5)) (.cells #[.int .i64 depth, .slice none 0 0, .slice none 0 0, .slice none 0 0, .int .i64 0, .int .i64 0, .int .i64 0, .slice (some ⟨w.heap.size, 0, none⟩) 64 64] 104)
    have e : (w.alloc (.cells zeros64 5)).heap.size = w.heap.size + 1 := by simp
    rw [e] at this
    exact this
  · have hl := World.ownsRow_lit (base := 0) (e := 5) (size := 1) w zeros64 64 (Nat.zero_le _) (by decide) (by decide)
    exact ⟨hl.alloc _, fun a ha => by cases ha; exact Or.inr ⟨Nat.le_refl _, by rw [hz]; show w.heap.size < _; omega⟩⟩

theorem ref_new_ok (depth : Int) (w : World) (h1 : 1 ≤ depth) (h4 : depth ≤ 4) :
    Calls Tryz.prog 63 #[.int .i64 depth] w fun e w' => e = .returned (.tuple #[.pointer (some ⟨w.heap.size + 1, 0, none⟩), .bool true]) ∧ RefAt w' (Foot (fun _ => False) w w') (w.heap.size + 1) (St.new depth) ∧ Below w.heap.size w w' := by
  have hm := mk64
  have b1 : decide (1 ≤ depth) = true := by simp [h1]
  have b2 : decide (depth ≤ 4) = true := by simp [h4]
  go_enter Tryz.func63, Tryz.ntmps63
  go_wp2
  go_ret2
  exact ⟨rfl, new_refAt depth w, ((Below.refl _ _).alloc (Nat.le_refl _) _).alloc (by simp) _⟩
theorem ref_new_no (depth : Int) (w : World) (h : depth < 1 ∨ 4 < depth) :
    Calls Tryz.prog 63 #[.int .i64 depth] w fun e w' => (∃ v, e = .returned (.tuple #[v, .bool false])) ∧ Below w.heap.size w w' := by
  have hm := mk64
  by_cases h1 : depth < 1
  · have b1 : decide (1 ≤ depth) = false := by simp; omega
    clear h
    go_enter Tryz.func63, Tryz.ntmps63
    go_wp2
    go_ret2
    exact ⟨⟨_, rfl⟩, ((Below.refl _ _).alloc (Nat.le_refl _) _).alloc (by simp) _⟩
  · have b1 : decide (1 ≤ depth) = true := by simp; omega
    have b2 : decide (depth ≤ 4) = false := by simp; omega
    have h2 : 4 < depth := by omega
    clear h
    go_enter Tryz.func63, Tryz.ntmps63
    go_wp2
    go_ret2
    exact ⟨⟨_, rfl⟩, ((Below.refl _ _).alloc (Nat.le_refl _) _).alloc (by simp) _⟩
end Go.Proofs.YtiabdbeejkadnaaGreatDoor
