import Derived.Test.YtiabdbeejkadnaaGreatDoorJ68c72fccac
import Derived.WalkLawsBesides
/- The reference queue: drop, where the request is under way: it is told. Poll in general. Own work of the verifier. -/
namespace Go.Proofs.YtiabdbeejkadnaaGreatDoor
open Go.RowKit

section
variable {w : World} {F G : Nat → Prop} {mb : Nat} {S : St} {ar : Option Addr} {cr : Nat} {at_ : Option Addr} {ct : Nat} {af : Option Addr} {cf : Nat} {ad : Option Addr} {cd : Nat}
/-- the row of those told is another: stored into the queue -/
theorem RefBlk.setTold {w2 : World} {F' : Nat → Prop} {ao' : Option Addr} {n' cap : Nat} {T' : List Int} (h : RefBlk w F G mb S ar cr at_ ct af cf ad cd)
    (hs : ∀ k, k < w.heap.size → (∀ a, at_ = some a → a.block ≠ k) → w2.heap[k]? = w.heap[k]?) (_hz : w.heap.size ≤ w2.heap.size) (hF : ∀ k, F k → F' k)
    (hl : ∀ k, F' k → k < w2.heap.size) (hn : n' = T'.length) (hrow : Row w2 F' 3 1 ao' n' cap (encI T')) (hg : ∀ b, ao' = some b → (∃ a, at_ = some a ∧ a.block = b.block) ∨ w.heap.size ≤ b.block) :
    RefBlk (w2.setCell ⟨mb, 2, none⟩ (.slice ao' n' cap)) F' G mb { S with told := T' } ar cr ao' cap af cf ad cd where
  own := hF _ h.own
  blk := by
    have hb : w2.heap[mb]? = _ := (hs mb (lt_of_heap h.blk) (h.told.ne h.blk (by decide))).trans h.blk
    rw [heap_setCell_at hb, hn]; rfl
  told := by
    have hb : w2.heap[mb]? = _ := (hs mb (lt_of_heap h.blk) (h.told.ne h.blk (by decide))).trans h.blk
    subst hn
    exact hrow.setCell_other (hrow.ne hb (by decide)) _
  reqs := by
    have hb : w2.heap[mb]? = _ := (hs mb (lt_of_heap h.blk) (h.told.ne h.blk (by decide))).trans h.blk
    have ht : Row w2 F' 175 10 ar S.reqs.length cr (S.reqs.flatMap encR) := (h.reqs.same fun a ha => by
      obtain ⟨c, hc, _⟩ := h.reqs.block ha
      exact hs _ (lt_of_heap hc) (h.told.ne hc (by decide))).mono hF
    exact ht.setCell_other (ht.ne hb (by decide)) _
  disk := by
    have hb : w2.heap[mb]? = _ := (hs mb (lt_of_heap h.blk) (h.told.ne h.blk (by decide))).trans h.blk
    have ht : Row w2 F' 5 1 ad S.disk.length cd (encB S.disk) := (h.disk.same fun a ha => by
      obtain ⟨c, hc, _⟩ := h.disk.block ha
      exact hs _ (lt_of_heap hc) (h.told.ne hc (by decide))).mono hF
    exact ht.setCell_other (ht.ne hb (by decide)) _
  flights := h.flights.same fun k hk => (Below.heap_setCell _ _ _ _ (fun e => h.notMb (by have e' : k = mb := e; rw [← e']; exact hk))).trans (hs k (h.ltF k (h.sub k hk)) (fun a ha e => h.notT a ha (e ▸ hk)))
  sub := fun k hk => hF k (h.sub k hk)
  notMb := h.notMb
  notT := fun b hb hk => by
    rcases hg b hb with ⟨a, ha, hag⟩ | hg
    · exact h.notT a ha (hag ▸ hk)
    · have := h.ltF _ (h.sub _ hk); omega
  notR := h.notR
  notD := h.notD
  ltF := fun k hk => by have := hl k hk; simpa [World.setCell] using this
/-- behind an append to those told, and the store of the new slice -/
theorem RefBlk.tellRow {w2 : World} {o : Obj} {g n' cap : Nat} {T' : List Int} (h : RefBlk w F G mb S ar cr at_ ct af cf ad cd)
    (hgrow : ((w.alloc o).drew).grownBy w2 (Value.ownBlock (.slice at_ S.told.length ct))) (hown : w2.ownsRow 0 3 1 (.slice (some ⟨g, 0, none⟩) n' cap) n' (encI T')) (hn : n' = T'.length)
    (hat : Value.ownBlock (.slice at_ S.told.length ct) = some g ∨ g = w.heap.size + 1) (hlt : g < w2.heap.size) :
    RefAt (w2.setCell ⟨mb, 2, none⟩ (.slice (some ⟨g, 0, none⟩) n' cap)) (Foot F w (w2.setCell ⟨mb, 2, none⟩ (.slice (some ⟨g, 0, none⟩) n' cap))) mb { S with told := T' } ∧ Kept F w (w2.setCell ⟨mb, 2, none⟩ (.slice (some ⟨g, 0, none⟩) n' cap)) ∧ w2.heap[mb]? = w.heap[mb]? := by
  have hob : ∀ k, Value.ownBlock (.slice at_ S.told.length ct) = some k → ∃ a, at_ = some a ∧ a.block = k := by
    intro k hk
    cases at_ with
    | none => simp [Value.ownBlock] at hk
    | some a => exact ⟨a, rfl, by simpa [Value.ownBlock] using hk⟩
  have hs : ∀ k, k < w.heap.size → (∀ a, at_ = some a → a.block ≠ k) → w2.heap[k]? = w.heap[k]? := by
    intro k hk hne
    have e1 := hgrow.block k (by simp [World.drew]; omega) (fun e => by obtain ⟨a, ha, hak⟩ := hob k e.symm; exact hne a ha hak)
    exact e1.trans (Below.heap_alloc w o k hk)
  have hz : w.heap.size ≤ w2.heap.size := by have := hgrow.size; simp [World.drew] at this; omega
  have hge : (∃ a, at_ = some a ∧ a.block = g) ∨ w.heap.size ≤ g := by
    rcases hat with e | e
    · exact Or.inl (hob g e)
    · exact Or.inr (by omega)
  have hz2 : (w2.setCell ⟨mb, 2, none⟩ (.slice (some ⟨g, 0, none⟩) n' cap)).heap.size = w2.heap.size := by simp [World.setCell]
  have hEg : Foot F w (w2.setCell ⟨mb, 2, none⟩ (.slice (some ⟨g, 0, none⟩) n' cap)) g := by
    rcases hge with ⟨a, ha, rfl⟩ | e
    · exact Or.inl (h.told.2 a ha)
    · exact Or.inr ⟨e, by rw [hz2]; exact hlt⟩
  have hrow : Row w2 (Foot F w (w2.setCell ⟨mb, 2, none⟩ (.slice (some ⟨g, 0, none⟩) n' cap))) 3 1 (some ⟨g, 0, none⟩) n' cap (encI T') := ⟨hown, fun a ha => by cases ha; exact hEg⟩
  refine ⟨⟨_, _, _, _, _, _, _, _, _, h.setTold hs hz Foot.of (fun k hk => by rw [← hz2]; exact Foot.lt h.ltF (by rw [hz2]; exact hz) k hk) hn hrow (fun b hb => by cases hb; exact hge)⟩, ?_, hs mb (lt_of_heap h.blk) (h.told.ne h.blk (by decide))⟩
  refine Kept.setCell ((((Kept.refl F w).alloc o).drew).grown hgrow (fun k hk => ?_)) (Or.inl h.own) _
  obtain ⟨a, ha, rfl⟩ := hob k hk
  exact Or.inl (h.told.2 a ha)
end

set_option maxHeartbeats 1000000 in
set_option maxRecDepth 1000000 in
theorem ref_drop_in (S : St) (F : Nat → Prop) (mb k : Nat) (w : World) (h : RefAt w F mb S) (hl : S.told.length ≤ 1000000) (hr : S.reqs.length ≤ 1000000) (hk : k < S.reqs.length) (ha : (S.reqs.getD k Rq.zero).inAir = true) :
    Calls Tryz.prog 109 #[.pointer (some ⟨mb, 0, none⟩), .int .i64 k] w fun e w' => e = .returned (.tuple #[]) ∧ RefAt w' (Foot F w w') mb { S with told := S.told ++ [(S.reqs.getD k Rq.zero).num] } ∧ Kept F w w' := by
  obtain ⟨G, ar, cr, at_, ct, af, cf, ad, cd, h⟩ := h
  obtain ⟨i0, hi, hi0, hi1, hi2⟩ := info_parts info_int
  obtain ⟨g0, cur, hg0, _, _, _, _⟩ := Row.some h.reqs (by omega)
  subst hg0
  have c1 := h.c1
  have c2 := h.c2
  have f2 := h.fz 2
  have hlt := h.lt
  have hgl : g0 < w.heap.size := by obtain ⟨c, hc, _⟩ := h.reqs.block rfl; exact lt_of_heap hc
  have ca : w.cell? ⟨g0, k * 10 + 8, none⟩ = some (.bool true) := by rw [Row.req h.reqs rfl k 8 hk (by omega), ← ha]; rfl
  obtain ⟨num, hnum⟩ : ∃ num, num = (S.reqs.getD k Rq.zero).num := ⟨_, rfl⟩
  have cn : w.cell? ⟨g0, k * 10, none⟩ = some (.int .i64 num) := by have := Row.req h.reqs rfl k 0 hk (by omega); rw [Nat.add_zero] at this; rw [this, hnum]; rfl
  rw [← hnum]
  have H : Hid (RefBlk w F G mb S (some ⟨g0, 0, none⟩) cr at_ ct af cf ad cd) := h
  clear h ha hnum
  generalize hT : S.told.length = nt at *
  have hT' : Hid (S.told.length = nt) := hT
  clear hT
  generalize S.reqs.length = nr at *
  go_enter Tryz.func109, Tryz.ntmps109
  go_wp2_with fail
  have HO : Hid (((w.alloc (.cells (encI [num]).toArray 3)).drew).ownsRow 0 3 1 (.slice at_ nt ct) nt (encI S.told)) := by
    have := (H.out.told.alloc (.cells (encI [num]).toArray 3)).1
    rw [← hT'.out]
    exact this
  have HN : Hid (∀ (j : Nat) (u : Value), (encI [num])[j]? = some u → ((w.alloc (.cells (encI [num]).toArray 3)).drew).cell? ((⟨w.heap.size, 0, none⟩ : Addr).add j) = some u) := fun j u => news_new j u
  have HT : Hid (∀ (g cap : Nat) (w2 : World), w2.ownsRow 0 3 1 (.slice (some ⟨g, 0, none⟩) (nt + 1) cap) (nt + 1) (encI S.told ++ encI [num]) → ((w.alloc (.cells (encI [num]).toArray 3)).drew).grownBy w2 (Value.ownBlock (.slice at_ nt ct)) → (Value.ownBlock (.slice at_ nt ct) = some g ∨ g = w.heap.size + 1) → g < w2.heap.size → RefAt (w2.setCell ⟨mb, 2, none⟩ (.slice (some ⟨g, 0, none⟩) (nt + 1) cap)) (Foot F w (w2.setCell ⟨mb, 2, none⟩ (.slice (some ⟨g, 0, none⟩) (nt + 1) cap))) mb { S with told := S.told ++ [num] } ∧ Kept F w (w2.setCell ⟨mb, 2, none⟩ (.slice (some ⟨g, 0, none⟩) (nt + 1) cap)) ∧ w2.heap[mb]? = w.heap[mb]?) := by
    intro g cap w2 h1 h2 h3 h4
    have e : encI S.told ++ encI [num] = encI (S.told ++ [num]) := by simp [encI]
    rw [e] at h1
    rw [← hT'.out] at h2 h3
    exact H.out.tellRow h2 h1 (by rw [List.length_append, hT'.out]; rfl) h3 h4
  go_region_law (refine step_append_lies _ rfl (.tmp 18) (.tmp 27) 24 rfl 0 3 i0 (.int .i64 0) 1 8 Tryz.underlying24 hi hi0 hi1 hi2 rfl (by decide) (.slice at_ nt ct) nt (encI S.told) (by simp [Act.eval]) HO.out ⟨w.heap.size, 0, none⟩ 1 1 (encI [num]) (by simp [Act.eval]) rfl HN.out (by simp [encI]; rfl) (by decide) (by unfold maxLen; omega) (by omega) (Nat.zero_le _) (w.heap.size + 1) (by simp) ?_; intro g cap w2 hown hgrow hat hlt2; have HX := hide (HT.out g cap w2 hown hgrow hat hlt2); have m2 : w2.cell? ⟨mb, 2, none⟩ = some (.slice at_ nt ct) := (World.cell?_of_block HX.out.2.2).trans c2; have n2 : w2.frozen? ⟨mb, 2, none⟩ = false := (World.frozen?_of_block HX.out.2.2).trans f2; clear hown hgrow hat hlt2)
  all_goals
    go_wp2
    refine bodyPost_ret (results_none rfl _ _ _) rfl ?_
    exact ⟨rfl, HX.out.1, HX.out.2.1⟩
/-- drop, in general -/
theorem ref_drop (S : St) (F : Nat → Prop) (mb k : Nat) (w : World) (h : RefAt w F mb S) (hl : S.told.length ≤ 1000000) (hr : S.reqs.length ≤ 1000000) (hk : k < S.reqs.length) :
    Calls Tryz.prog 109 #[.pointer (some ⟨mb, 0, none⟩), .int .i64 k] w fun e w' => e = .returned (.tuple #[]) ∧ RefAt w' (Foot F w w') mb (dropM S k) ∧ Kept F w w' := by
  unfold dropM
  cases ha : (S.reqs.getD k Rq.zero).inAir with
  | true => exact ref_drop_in S F mb k w h hl hr hk ha
  | false => exact ref_drop_air S F mb k w h hr hk ha
end Go.Proofs.YtiabdbeejkadnaaGreatDoor

/- The reference queue: Poll in general. Own work of the verifier. -/
namespace Go.Proofs.YtiabdbeejkadnaaGreatDoor
open Go.RowKit

set_option maxHeartbeats 1000000 in
set_option maxRecDepth 1000000 in
theorem ref_poll_q3 (S : St) (F : Nat → Prop) (mb : Nat) (num : Int) (k : Nat) (w : World) (h : RefAt w F mb S) (hl : S.told.length ≤ 1000000) (hr : S.reqs.length ≤ 1000000) (hp : placeM S num = k) (hs : (S.reqs.getD k Rq.zero).state = 3) :
    Calls Tryz.prog 65 #[.pointer (some ⟨mb, 0, none⟩), .int .i64 num] w fun e w' => e = .returned (.tuple #[.string ⟨#[]⟩, .int .i64 (S.reqs.getD k Rq.zero).tries, .int .i64 7]) ∧ RefAt w' (Foot F w w') mb (dropM S k) ∧ Kept F w w' := by
  have H : Hid (RefAt w F mb S) := h
  have HP : Hid (placeM S num = k) := hp
  have hk := (placeM_some hp).1
  obtain ⟨G, ar, cr, at_, ct, af, cf, ad, cd, h⟩ := h
  obtain ⟨g0, cur, hg0, _, _, _, _⟩ := Row.some h.reqs (by omega)
  subst hg0
  have c1 := h.c1
  obtain ⟨r, hr'⟩ : ∃ r, r = S.reqs.getD k Rq.zero := ⟨_, rfl⟩
  rw [← hr'] at hs ⊢
  have hq : ∀ t, t < 10 → w.cell? ⟨g0, k * 10 + t, none⟩ = (encR r)[t]? := by
    intro t ht
    rw [hr', ← Row.req h.reqs rfl k t hk ht]
  have q0 : w.cell? ⟨g0, k * 10, none⟩ = some (.int .i64 r.num) := hq 0 (by omega)
  have q1 : w.cell? ⟨g0, k * 10 + 1, none⟩ = some (.bool r.write) := hq 1 (by omega)
  have q2 : w.cell? ⟨g0, k * 10 + 2, none⟩ = some (.int .i64 r.page) := hq 2 (by omega)
  have q3 : w.cell? ⟨g0, k * 10 + 3, none⟩ = some (.string r.data) := hq 3 (by omega)
  have q4 : w.cell? ⟨g0, k * 10 + 4, none⟩ = some (.int .i64 r.state) := hq 4 (by omega)
  have q5 : w.cell? ⟨g0, k * 10 + 5, none⟩ = some (.int .i64 r.tries) := hq 5 (by omega)
  have q6 : w.cell? ⟨g0, k * 10 + 6, none⟩ = some (.int .i64 r.after) := hq 6 (by omega)
  have q7 : w.cell? ⟨g0, k * 10 + 7, none⟩ = some (.bool r.alone) := hq 7 (by omega)
  have q8 : w.cell? ⟨g0, k * 10 + 8, none⟩ = some (.bool r.inAir) := hq 8 (by omega)
  have q9 : w.cell? ⟨g0, k * 10 + 9, none⟩ = some (.string r.answer) := hq 9 (by omega)
  clear hq h hp hr'
  have b0 : (r.state == 0) = false := beq_eq_false_iff_ne.2 (by omega)
  have b1 : (r.state == 1) = false := beq_eq_false_iff_ne.2 (by omega)
  have b3 : (r.state == 3) = true := beq_iff_eq.2 hs
  clear hs
  go_enter Tryz.func65, Tryz.ntmps65
  go_wp2_with fail
  refine (ref_place S F mb num _ H.out hl hr).mono ?_
  rintro e w' ⟨rfl, rfl⟩
  rw [HP.out]
  go_wp2_with fail
  refine (ref_drop S F mb k _ (H.out.alloc _) hl hr hk).mono ?_
  rintro e w2 ⟨rfl, hR2, hK2⟩
  have hz2 : w'.heap.size < w2.heap.size := by have := hK2.size; simp at this; omega
  have hnF : ¬ F w'.heap.size := fun e => by have := H.out.lt _ e; omega
  have t5 : w2.cell? ⟨w'.heap.size, 5, none⟩ = some (.int .i64 r.tries) := by rw [hK2.cell (p := ⟨w'.heap.size, 5, none⟩) (by simp) hnF]; simp
  have HR : Hid (RefAt w2 (Foot F w' w2) mb (dropM S k) ∧ Kept F w' w2) :=
    ⟨hR2.wid (fun t ht => Foot.mid (by simp) t ht) (Foot.lt H.out.lt (Nat.le_of_lt hz2)), (Kept.alloc (Kept.refl F w') _).then hK2⟩
  clear hR2 hK2 hnF
  go_wp2
  go_quiet (fail)
  go_wp2
  go_ret3
  exact ⟨rfl, (HR.out.1.grow (below_drewN (Below.refl _ _) _)).wid (fun t ht => Foot.trans (Nat.le_of_lt hz2) (Nat.le_refl _) t ht) (Foot.lt H.out.lt (Nat.le_of_lt hz2)), HR.out.2.drewN _⟩

set_option maxHeartbeats 1000000 in
set_option maxRecDepth 1000000 in
theorem ref_poll_q4 (S : St) (F : Nat → Prop) (mb : Nat) (num : Int) (k : Nat) (w : World) (h : RefAt w F mb S) (hl : S.told.length ≤ 1000000) (hr : S.reqs.length ≤ 1000000) (hp : placeM S num = k) (hs : (S.reqs.getD k Rq.zero).state = 4) :
    Calls Tryz.prog 65 #[.pointer (some ⟨mb, 0, none⟩), .int .i64 num] w fun e w' => e = .returned (.tuple #[.string ⟨#[]⟩, .int .i64 (S.reqs.getD k Rq.zero).tries, .int .i64 8]) ∧ RefAt w' (Foot F w w') mb (dropM S k) ∧ Kept F w w' := by
  have H : Hid (RefAt w F mb S) := h
  have HP : Hid (placeM S num = k) := hp
  have hk := (placeM_some hp).1
  obtain ⟨G, ar, cr, at_, ct, af, cf, ad, cd, h⟩ := h
  obtain ⟨g0, cur, hg0, _, _, _, _⟩ := Row.some h.reqs (by omega)
  subst hg0
  have c1 := h.c1
  obtain ⟨r, hr'⟩ : ∃ r, r = S.reqs.getD k Rq.zero := ⟨_, rfl⟩
  rw [← hr'] at hs ⊢
  have hq : ∀ t, t < 10 → w.cell? ⟨g0, k * 10 + t, none⟩ = (encR r)[t]? := by
    intro t ht
    rw [hr', ← Row.req h.reqs rfl k t hk ht]
  have q0 : w.cell? ⟨g0, k * 10, none⟩ = some (.int .i64 r.num) := hq 0 (by omega)
  have q1 : w.cell? ⟨g0, k * 10 + 1, none⟩ = some (.bool r.write) := hq 1 (by omega)
  have q2 : w.cell? ⟨g0, k * 10 + 2, none⟩ = some (.int .i64 r.page) := hq 2 (by omega)
  have q3 : w.cell? ⟨g0, k * 10 + 3, none⟩ = some (.string r.data) := hq 3 (by omega)
  have q4 : w.cell? ⟨g0, k * 10 + 4, none⟩ = some (.int .i64 r.state) := hq 4 (by omega)
  have q5 : w.cell? ⟨g0, k * 10 + 5, none⟩ = some (.int .i64 r.tries) := hq 5 (by omega)
  have q6 : w.cell? ⟨g0, k * 10 + 6, none⟩ = some (.int .i64 r.after) := hq 6 (by omega)
  have q7 : w.cell? ⟨g0, k * 10 + 7, none⟩ = some (.bool r.alone) := hq 7 (by omega)
  have q8 : w.cell? ⟨g0, k * 10 + 8, none⟩ = some (.bool r.inAir) := hq 8 (by omega)
  have q9 : w.cell? ⟨g0, k * 10 + 9, none⟩ = some (.string r.answer) := hq 9 (by omega)
  clear hq h hp hr'
  have b0 : (r.state == 0) = false := beq_eq_false_iff_ne.2 (by omega)
  have b1 : (r.state == 1) = false := beq_eq_false_iff_ne.2 (by omega)
  have b3 : (r.state == 3) = false := beq_eq_false_iff_ne.2 (by omega)
  have b4 : (r.state == 4) = true := beq_iff_eq.2 hs
  clear hs
  go_enter Tryz.func65, Tryz.ntmps65
  go_wp2_with fail
  refine (ref_place S F mb num _ H.out hl hr).mono ?_
  rintro e w' ⟨rfl, rfl⟩
  rw [HP.out]
  go_wp2_with fail
  refine (ref_drop S F mb k _ (H.out.alloc _) hl hr hk).mono ?_
  rintro e w2 ⟨rfl, hR2, hK2⟩
  have hz2 : w'.heap.size < w2.heap.size := by have := hK2.size; simp at this; omega
  have hnF : ¬ F w'.heap.size := fun e => by have := H.out.lt _ e; omega
  have t5 : w2.cell? ⟨w'.heap.size, 5, none⟩ = some (.int .i64 r.tries) := by rw [hK2.cell (p := ⟨w'.heap.size, 5, none⟩) (by simp) hnF]; simp
  have HR : Hid (RefAt w2 (Foot F w' w2) mb (dropM S k) ∧ Kept F w' w2) :=
    ⟨hR2.wid (fun t ht => Foot.mid (by simp) t ht) (Foot.lt H.out.lt (Nat.le_of_lt hz2)), (Kept.alloc (Kept.refl F w') _).then hK2⟩
  clear hR2 hK2 hnF
  go_wp2
  go_quiet (fail)
  go_wp2
  go_ret3
  exact ⟨rfl, (HR.out.1.grow (below_drewN (Below.refl _ _) _)).wid (fun t ht => Foot.trans (Nat.le_of_lt hz2) (Nat.le_refl _) t ht) (Foot.lt H.out.lt (Nat.le_of_lt hz2)), HR.out.2.drewN _⟩

set_option maxHeartbeats 1000000 in
set_option maxRecDepth 1000000 in
theorem ref_poll_q2 (S : St) (F : Nat → Prop) (mb : Nat) (num : Int) (k : Nat) (w : World) (h : RefAt w F mb S) (hl : S.told.length ≤ 1000000) (hr : S.reqs.length ≤ 1000000) (hp : placeM S num = k) (hs : (S.reqs.getD k Rq.zero).state = 2) :
    Calls Tryz.prog 65 #[.pointer (some ⟨mb, 0, none⟩), .int .i64 num] w fun e w' => e = .returned (.tuple #[.string (S.reqs.getD k Rq.zero).answer, .int .i64 (S.reqs.getD k Rq.zero).tries, .int .i64 0]) ∧ RefAt w' (Foot F w w') mb (dropM S k) ∧ Kept F w w' := by
  have H : Hid (RefAt w F mb S) := h
  have HP : Hid (placeM S num = k) := hp
  have hk := (placeM_some hp).1
  obtain ⟨G, ar, cr, at_, ct, af, cf, ad, cd, h⟩ := h
  obtain ⟨g0, cur, hg0, _, _, _, _⟩ := Row.some h.reqs (by omega)
  subst hg0
  have c1 := h.c1
  obtain ⟨r, hr'⟩ : ∃ r, r = S.reqs.getD k Rq.zero := ⟨_, rfl⟩
  rw [← hr'] at hs ⊢
  have hq : ∀ t, t < 10 → w.cell? ⟨g0, k * 10 + t, none⟩ = (encR r)[t]? := by
    intro t ht
    rw [hr', ← Row.req h.reqs rfl k t hk ht]
  have q0 : w.cell? ⟨g0, k * 10, none⟩ = some (.int .i64 r.num) := hq 0 (by omega)
  have q1 : w.cell? ⟨g0, k * 10 + 1, none⟩ = some (.bool r.write) := hq 1 (by omega)
  have q2 : w.cell? ⟨g0, k * 10 + 2, none⟩ = some (.int .i64 r.page) := hq 2 (by omega)
  have q3 : w.cell? ⟨g0, k * 10 + 3, none⟩ = some (.string r.data) := hq 3 (by omega)
  have q4 : w.cell? ⟨g0, k * 10 + 4, none⟩ = some (.int .i64 r.state) := hq 4 (by omega)
  have q5 : w.cell? ⟨g0, k * 10 + 5, none⟩ = some (.int .i64 r.tries) := hq 5 (by omega)
  have q6 : w.cell? ⟨g0, k * 10 + 6, none⟩ = some (.int .i64 r.after) := hq 6 (by omega)
  have q7 : w.cell? ⟨g0, k * 10 + 7, none⟩ = some (.bool r.alone) := hq 7 (by omega)
  have q8 : w.cell? ⟨g0, k * 10 + 8, none⟩ = some (.bool r.inAir) := hq 8 (by omega)
  have q9 : w.cell? ⟨g0, k * 10 + 9, none⟩ = some (.string r.answer) := hq 9 (by omega)
  clear hq h hp hr'
  have b0 : (r.state == 0) = false := beq_eq_false_iff_ne.2 (by omega)
  have b1 : (r.state == 1) = false := beq_eq_false_iff_ne.2 (by omega)
  have b3 : (r.state == 3) = false := beq_eq_false_iff_ne.2 (by omega)
  have b4 : (r.state == 4) = false := beq_eq_false_iff_ne.2 (by omega)
  clear hs
  go_enter Tryz.func65, Tryz.ntmps65
  go_wp2_with fail
  refine (ref_place S F mb num _ H.out hl hr).mono ?_
  rintro e w' ⟨rfl, rfl⟩
  rw [HP.out]
  go_wp2_with fail
  refine (ref_drop S F mb k _ (H.out.alloc _) hl hr hk).mono ?_
  rintro e w2 ⟨rfl, hR2, hK2⟩
  have hz2 : w'.heap.size < w2.heap.size := by have := hK2.size; simp at this; omega
  have hnF : ¬ F w'.heap.size := fun e => by have := H.out.lt _ e; omega
  have t5 : w2.cell? ⟨w'.heap.size, 5, none⟩ = some (.int .i64 r.tries) := by rw [hK2.cell (p := ⟨w'.heap.size, 5, none⟩) (by simp) hnF]; simp
  have t9 : w2.cell? ⟨w'.heap.size, 9, none⟩ = some (.string r.answer) := by rw [hK2.cell (p := ⟨w'.heap.size, 9, none⟩) (by simp) hnF]; simp
  have HR : Hid (RefAt w2 (Foot F w' w2) mb (dropM S k) ∧ Kept F w' w2) :=
    ⟨hR2.wid (fun t ht => Foot.mid (by simp) t ht) (Foot.lt H.out.lt (Nat.le_of_lt hz2)), (Kept.alloc (Kept.refl F w') _).then hK2⟩
  clear hR2 hK2 hnF
  go_wp2
  go_quiet (fail)
  go_wp2
  go_ret3
  exact ⟨rfl, (HR.out.1.grow (below_drewN (Below.refl _ _) _)).wid (fun t ht => Foot.trans (Nat.le_of_lt hz2) (Nat.le_refl _) t ht) (Foot.lt H.out.lt (Nat.le_of_lt hz2)), HR.out.2.drewN _⟩

/-- Poll, in general. -/
theorem ref_poll_g (S : St) (F : Nat → Prop) (mb : Nat) (num : Int) (w : World) (h : RefAt w F mb S) (hl : S.told.length ≤ 1000000) (hr : S.reqs.length ≤ 1000000) (hst : ∀ r ∈ S.reqs, 0 ≤ r.state ∧ r.state ≤ 4) :
    Calls Tryz.prog 65 #[.pointer (some ⟨mb, 0, none⟩), .int .i64 num] w fun e w' => e = .returned (.tuple #[.string (pollM S num).1, .int .i64 (pollM S num).2.1, .int .i64 (pollM S num).2.2.1]) ∧ RefAt w' (Foot F w w') mb (pollM S num).2.2.2 ∧ Kept F w w' := by
  rcases placeM_cases S num with hp | ⟨k, hp⟩
  · have e : pollM S num = (⟨#[]⟩, 0, 5, S) := by unfold pollM; rw [if_pos (by omega)]
    rw [e]
    exact ref_poll_none S F mb num w h hl hr hp
  · have hk := (placeM_some hp).1
    have hm : S.reqs.getD k Rq.zero ∈ S.reqs := by rw [List.getD_eq_getElem?_getD]; simp [hk]
    obtain ⟨h0, h4⟩ := hst _ hm
    have hkn : (placeM S num).toNat = k := by omega
    have e : pollM S num = (if (S.reqs.getD k Rq.zero).state = 0 ∨ (S.reqs.getD k Rq.zero).state = 1 then (⟨#[]⟩, (S.reqs.getD k Rq.zero).tries, 6, S) else
        if (S.reqs.getD k Rq.zero).state = 3 then (⟨#[]⟩, (S.reqs.getD k Rq.zero).tries, 7, dropM S k) else
        if (S.reqs.getD k Rq.zero).state = 4 then (⟨#[]⟩, (S.reqs.getD k Rq.zero).tries, 8, dropM S k) else ((S.reqs.getD k Rq.zero).answer, (S.reqs.getD k Rq.zero).tries, 0, dropM S k)) := by
      unfold pollM; rw [if_neg (by omega), hkn]
    rw [e]
    rcases (by omega : (S.reqs.getD k Rq.zero).state = 0 ∨ (S.reqs.getD k Rq.zero).state = 1 ∨ (S.reqs.getD k Rq.zero).state = 2 ∨ (S.reqs.getD k Rq.zero).state = 3 ∨ (S.reqs.getD k Rq.zero).state = 4) with hs | hs | hs | hs | hs
    · rw [if_pos (Or.inl hs)]; exact ref_poll_p0 S F mb num k w h hl hr hp hs
    · rw [if_pos (Or.inr hs)]; exact ref_poll_p1 S F mb num k w h hl hr hp hs
    · rw [if_neg (by omega), if_neg (by omega), if_neg (by omega)]
      exact ref_poll_q2 S F mb num k w h hl hr hp hs
    · rw [if_neg (by omega), if_pos hs]
      exact ref_poll_q3 S F mb num k w h hl hr hp hs
    · rw [if_neg (by omega), if_neg (by omega), if_pos hs]
      exact ref_poll_q4 S F mb num k w h hl hr hp hs
end Go.Proofs.YtiabdbeejkadnaaGreatDoor

/- The law's own small functions by contracts: fine, wrong, none, pick, sameInts. Own work of the verifier. -/
namespace Go.Proofs.YtiabdbeejkadnaaGreatDoor
open Go.RowKit

theorem err_eq (k r t : Int) (w : World) : (binOp .eql 57 (.agg #[.int .i64 k, .int .i64 r, .int .i64 t, .bool true]) (.agg #[.int .i64 k, .int .i64 r, .int .i64 t, .bool true])).run Tryz.prog w = .ok (.bool true) w := by
  have u1 := Tryz.underlying3
  have u2 := Tryz.underlying55
  have u3 := Tryz.underlying4
  have hS : Tryz.prog.underlying 57 = some (.struct (Tryz.prog.fieldsOf 57)) := by kernel_rfl
  have hp : Tryz.prog.stoodInHeld 57 = false := by kernel_rfl
  rw [run_eql_struct, show (10000 : Nat) = 9999 + 1 from rfl, run_equalIn_agg w 9999 57 _ _ hS hp]
  simp only [Program.fieldsOf, Tryz.underlying57]
  go_simp

theorem law_fine (w : World) : Calls Tryz.prog 48 #[.agg #[.int .i64 0, .int .i64 (-1), .int .i64 0, .bool true]] w fun e w' => e = .returned (.bool true) ∧ Below w.heap.size w w' := by
  have he := err_eq 0 (-1) 0
  go_enter Tryz.func48, Tryz.ntmps48
  go_wp2
  go_ret
  exact ⟨rfl, (Below.refl _ _).alloc (Nat.le_refl _) _⟩
theorem law_wrong (k r t : Int) (w : World) : Calls Tryz.prog 66 #[.agg #[.int .i64 k, .int .i64 r, .int .i64 t, .bool true], .int .i64 k, .int .i64 r, .int .i64 t] w fun e w' => e = .returned (.bool true) ∧ Below w.heap.size w w' := by
  have he := err_eq k r t
  go_enter Tryz.func66, Tryz.ntmps66
  go_wp2
  go_ret
  exact ⟨rfl, (Below.refl _ _).alloc (Nat.le_refl _) _⟩
theorem law_none (k : Int) (w : World) : Calls Tryz.prog 47 #[.agg #[.int .i64 k, .int .i64 (-1), .int .i64 0, .bool true], .int .i64 k] w fun e w' => e = .returned (.bool true) ∧ Below w.heap.size w w' := by
  go_enter Tryz.func47, Tryz.ntmps47
  go_wp2_with fail
  refine (law_wrong k (-1) 0 _).mono ?_
  rintro e w1 ⟨rfl, hb⟩
  go_wp2
  go_ret
  exact ⟨rfl, ((Below.refl _ _).alloc (Nat.le_refl _) _).trans (hb.mono (by simp))⟩

/-- pick: which of n things -/
def pickM (c n : Int) : Int := if c < 0 then (-(c + 1)) % n else c % n
theorem pickM_lt (c n : Int) (hn : 0 < n) : 0 ≤ pickM c n ∧ pickM c n < n := by
  unfold pickM
  split
  · exact ⟨Int.emod_nonneg _ (by omega), Int.emod_lt_of_pos _ hn⟩
  · exact ⟨Int.emod_nonneg _ (by omega), Int.emod_lt_of_pos _ hn⟩
theorem law_pick (c n : Int) (w : World) (hc : -9223372036854775808 ≤ c ∧ c ≤ 9223372036854775807) (hn : 0 < n) (hn2 : n ≤ 1000000) :
    Calls Tryz.prog 41 #[.int .i64 c, .int .i64 n] w fun e w' => e = .returned (.int .i64 (pickM c n)) ∧ w' = w := by
  obtain ⟨h1, h2⟩ := hc
  by_cases hneg : c < 0
  · have hp : Hid (pickM c n = -((c + 1).tmod n)) := by
      simp only [Hid, pickM, hneg, if_true]
      rw [← Int.neg_tmod, Int.tmod_eq_emod_of_nonneg (by omega)]
    have hb0 : (n == 0) = false := beq_eq_false_iff_ne.2 (by omega)
    go_enter Tryz.func41, Tryz.ntmps41
    go_wp2
    go_ret
    exact ⟨by rw [hp.out]; rfl, rfl⟩
  · have hp : Hid (pickM c n = c % n) := by simp [Hid, pickM, hneg]
    have hb0 : (n == 0) = false := beq_eq_false_iff_ne.2 (by omega)
    go_enter Tryz.func41, Tryz.ntmps41
    go_wp2
    go_ret
    exact ⟨by rw [hp.out]; rfl, rfl⟩

theorem law_same (T : List Int) (F G : Nat → Prop) (a1 a2 : Option Addr) (n c1 c2 : Nat) (w : World) (h1 : Row w F 3 1 a1 n c1 (encI T)) (h2 : Row w G 3 1 a2 n c2 (encI T)) (hn : n = T.length) (hl : n ≤ 1000000) :
    Calls Tryz.prog 73 #[.slice a1 n c1, .slice a2 n c2] w fun e w' => e = .returned (.bool true) ∧ ∃ k, w' = w.drewN k := by
  have H1 : Hid (Row w F 3 1 a1 n c1 (encI T)) := h1
  have H2 : Hid (Row w G 3 1 a2 n c2 (encI T)) := h2
  have HN : Hid (n = T.length) := hn
  clear h1 h2 hn
  have hb0 : ((n : Int) != (n : Int)) = false := by simp
  by_cases hz : n = 0
  · have h0 : ¬ (0 : Int) < (n : Int) := by omega
    go_enter Tryz.func73, Tryz.ntmps73
    go_wp2
    refine wp_loop_rounds 1 ?_
    rw [rounds_succ]
    go_wp2
    go_ret
    exact ⟨rfl, 0, rfl⟩
  · obtain ⟨g1, cu1, rfl, _⟩ := Row.some H1.out (by omega)
    obtain ⟨g2, cu2, rfl, _⟩ := Row.some H2.out (by omega)
    go_enter Tryz.func73, Tryz.ntmps73
    go_wp2
    go_loopw [5] (fun i wr => ∃ k m : Nat, k ≤ n ∧ i = .int .i64 k ∧ Hid (wr = w.drewN m)) (fun i _ => n - (intOf i).toNat)
    case atStart => exact ⟨0, 0, Nat.zero_le _, rfl, rfl⟩
    case round =>
      obtain ⟨k, m, hk, rfl, hw⟩ := hrel
      by_cases hlt : k < n
      · obtain ⟨x, hx⟩ : ∃ x, x = T.getD k 0 := ⟨_, rfl⟩
        have q1 : wr.cell? ⟨g1, k, none⟩ = some (.int .i64 x) := by
          have := Row.cellAt H1.out k (by omega)
          have hkT : k < T.length := by rw [← HN.out]; exact hlt
          rw [hw.out]; show w.cell? _ = _; rw [this, hx]; simp [encI, hkT]
        have q2 : wr.cell? ⟨g2, k, none⟩ = some (.int .i64 x) := by
          have := Row.cellAt H2.out k (by omega)
          have hkT : k < T.length := by rw [← HN.out]; exact hlt
          rw [hw.out]; show w.cell? _ = _; rw [this, hx]; simp [encI, hkT]
        have hb1 : (x != x) = false := by simp
        clear hx
        have hlt' : (k : Int) < (n : Int) := by omega
        go_wp2
        go_quiet (fail)
        go_wp2
        go_roundw
        case rel => exact ⟨k + 1, m + nq, by omega, by go_num, by rw [Hid, hw.out]; simp [World.drewN, Nat.add_assoc]⟩
        case measure => simp [intOf]; omega
      · go_wp2
        go_ret
        exact ⟨rfl, m, hw.out⟩
end Go.Proofs.YtiabdbeejkadnaaGreatDoor

/- The law's world: what it owns; mine, owned. Own work of the verifier. -/
namespace Go.Proofs.YtiabdbeejkadnaaGreatDoor
open Go.RowKit

/-- one of the caller's lists: n cells that all hold v, at the head of a block that is its own and holds nothing else -/
def Own1 (w : World) (F : Nat → Prop) (e : TypeId) (ao : Option Addr) (n : Nat) (v : Value) : Prop :=
  (ao = none ∧ n = 0) ∨ ∃ g, ao = some ⟨g, 0, none⟩ ∧ F g ∧ w.heap[g]? = some (.cells (Array.replicate n v) e (0, 0))
theorem Own1.same {w w' : World} {F : Nat → Prop} {e : TypeId} {ao : Option Addr} {n : Nat} {v : Value} (h : Own1 w F e ao n v) (hs : ∀ k, F k → k < w.heap.size → w'.heap[k]? = w.heap[k]?) : Own1 w' F e ao n v := by
  rcases h with h | ⟨g, rfl, hF, hh⟩
  · exact Or.inl h
  · exact Or.inr ⟨g, rfl, hF, (hs g hF (lt_of_heap hh)).trans hh⟩
theorem Own1.cell {w : World} {F : Nat → Prop} {e : TypeId} {ao : Option Addr} {n : Nat} {v : Value} (h : Own1 w F e ao n v) (k : Nat) (hk : k < n) : ∃ g, ao = some ⟨g, 0, none⟩ ∧ w.cell? ⟨g, k, none⟩ = some v := by
  rcases h with ⟨_, rfl⟩ | ⟨g, rfl, hF, hh⟩
  · omega
  · exact ⟨g, rfl, by simp [World.cell?, hh, hk]⟩

/-- the lists of bytes (e: uint8) or numbers that came out: list i holds n_i cells 'f i' -/
def Lists (w : World) (F : Nat → Prop) (e : TypeId) (f : Nat → Value) (ls : List (Option Addr × Nat)) : Prop := ∀ i (h : i < ls.length), Own1 w F e (ls[i]).1 (ls[i]).2 (f i)
theorem Lists.same {w w' : World} {F : Nat → Prop} {e : TypeId} {f : Nat → Value} {ls : List (Option Addr × Nat)} (h : Lists w F e f ls) (hs : ∀ k, F k → k < w.heap.size → w'.heap[k]? = w.heap[k]?) : Lists w' F e f ls := fun i hi => (h i hi).same hs
def encL (ls : List (Option Addr × Nat)) : List Value := ls.map fun x => .slice x.1 x.2 x.2
def byteAt (i : Nat) : Value := .int .u8 ((i : Int) % 256)
def intAt (i : Nat) : Value := .int .i64 (-(i : Int))
/-- the pairs of queues: their two blocks -/
def encQ (qs : List (Nat × Nat)) : List Value := qs.flatMap fun q => [.pointer (some ⟨q.1, 0, none⟩), .pointer (some ⟨q.2, 0, none⟩)]

/-- THE LAW's WORLD at block wb: its three slices' rows lie in R (rows), the lists' own blocks in L. -/
structure WBlk (w : World) (R L : Nat → Prop) (wb : Nat) (qs : List (Nat × Nat)) (bs is : List (Option Addr × Nat)) (aq : Option Addr) (cq : Nat) (ab : Option Addr) (cb : Nat) (ai : Option Addr) (ci : Nat) : Prop where
  blk : w.heap[wb]? = some (.cells #[.slice aq qs.length cq, .slice ab bs.length cb, .slice ai is.length ci] 50 (0, 0))
  own : R wb
  rq : Row w R 99 2 aq qs.length cq (encQ qs)
  rb : Row w R 86 1 ab bs.length cb (encL bs)
  ri : Row w R 24 1 ai is.length ci (encL is)
  lb : Lists w L 5 byteAt bs
  li : Lists w L 3 intAt is
  apart : ∀ k, R k → ¬ L k
  ltR : ∀ k, R k → k < w.heap.size
  ltL : ∀ k, L k → k < w.heap.size
def WAt (w : World) (F : Nat → Prop) (wb : Nat) (qs : List (Nat × Nat)) (bs is : List (Option Addr × Nat)) : Prop :=
  ∃ R L aq cq ab cb ai ci, WBlk w R L wb qs bs is aq cq ab cb ai ci ∧ ∀ k, F k ↔ (R k ∨ L k)

section
variable {w : World} {R L : Nat → Prop} {wb : Nat} {qs : List (Nat × Nat)} {bs is : List (Option Addr × Nat)} {aq : Option Addr} {cq : Nat} {ab : Option Addr} {cb : Nat} {ai : Option Addr} {ci : Nat}
theorem WBlk.c0 (h : WBlk w R L wb qs bs is aq cq ab cb ai ci) : w.cell? ⟨wb, 0, none⟩ = some (.slice aq qs.length cq) := by simp [World.cell?, h.blk]
theorem WBlk.c1 (h : WBlk w R L wb qs bs is aq cq ab cb ai ci) : w.cell? ⟨wb, 1, none⟩ = some (.slice ab bs.length cb) := by simp [World.cell?, h.blk]
theorem WBlk.c2 (h : WBlk w R L wb qs bs is aq cq ab cb ai ci) : w.cell? ⟨wb, 2, none⟩ = some (.slice ai is.length ci) := by simp [World.cell?, h.blk]
theorem WBlk.fz (h : WBlk w R L wb qs bs is aq cq ab cb ai ci) (k : Nat) : w.frozen? ⟨wb, k, none⟩ = false := by simp [World.frozen?, h.blk]
theorem WBlk.lt (h : WBlk w R L wb qs bs is aq cq ab cb ai ci) : wb < w.heap.size := lt_of_heap h.blk
theorem WBlk.same {w' : World} (h : WBlk w R L wb qs bs is aq cq ab cb ai ci) (hs : ∀ k, (R k ∨ L k) → k < w.heap.size → w'.heap[k]? = w.heap[k]?) (hz : w.heap.size ≤ w'.heap.size) : WBlk w' R L wb qs bs is aq cq ab cb ai ci where
  blk := (hs _ (Or.inl h.own) h.lt).trans h.blk
  own := h.own
  rq := h.rq.same fun a ha => by obtain ⟨c, hc, _⟩ := h.rq.block ha; exact hs _ (Or.inl (h.rq.2 a ha)) (lt_of_heap hc)
  rb := h.rb.same fun a ha => by obtain ⟨c, hc, _⟩ := h.rb.block ha; exact hs _ (Or.inl (h.rb.2 a ha)) (lt_of_heap hc)
  ri := h.ri.same fun a ha => by obtain ⟨c, hc, _⟩ := h.ri.block ha; exact hs _ (Or.inl (h.ri.2 a ha)) (lt_of_heap hc)
  lb := h.lb.same fun k hk hl => hs k (Or.inr hk) hl
  li := h.li.same fun k hk hl => hs k (Or.inr hk) hl
  apart := h.apart
  ltR := fun k hk => Nat.lt_of_lt_of_le (h.ltR k hk) hz
  ltL := fun k hk => Nat.lt_of_lt_of_le (h.ltL k hk) hz
end
theorem WAt.same {w w' : World} {F : Nat → Prop} {wb : Nat} {qs : List (Nat × Nat)} {bs is : List (Option Addr × Nat)} (h : WAt w F wb qs bs is) (hs : ∀ k, F k → k < w.heap.size → w'.heap[k]? = w.heap[k]?) (hz : w.heap.size ≤ w'.heap.size) : WAt w' F wb qs bs is := by
  obtain ⟨R, L, aq, cq, ab, cb, ai, ci, h, hF⟩ := h
  exact ⟨R, L, aq, cq, ab, cb, ai, ci, h.same (fun k hk hl => hs k ((hF k).2 hk) hl) hz, hF⟩
theorem WAt.lt {w : World} {F : Nat → Prop} {wb : Nat} {qs : List (Nat × Nat)} {bs is : List (Option Addr × Nat)} (h : WAt w F wb qs bs is) : ∀ k, F k → k < w.heap.size := by
  obtain ⟨R, L, aq, cq, ab, cb, ai, ci, h, hF⟩ := h
  intro k hk
  exact ((hF k).1 hk).elim (h.ltR k) (h.ltL k)
theorem WAt.kept {w w' : World} {F G : Nat → Prop} {wb : Nat} {qs : List (Nat × Nat)} {bs is : List (Option Addr × Nat)} (h : WAt w F wb qs bs is) (hk : Kept G w w') (hn : ∀ k, F k → ¬ G k) : WAt w' F wb qs bs is :=
  h.same (fun k hF hl => hk.block k hl (hn k hF)) hk.size

theorem info_bs : (Tryz.prog.info? 86).map (fun i => (i.zero, i.size, i.bytes)) = some (some (.slice none 0 0), 1, 24) := by kernel_rfl
theorem info_is : (Tryz.prog.info? 24).map (fun i => (i.zero, i.size, i.bytes)) = some (some (.slice none 0 0), 1, 24) := by kernel_rfl
end Go.Proofs.YtiabdbeejkadnaaGreatDoor
