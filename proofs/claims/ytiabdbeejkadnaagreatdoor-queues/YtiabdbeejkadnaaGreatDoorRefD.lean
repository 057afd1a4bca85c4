/- The reference queue: drop, where the request is not under way. Own work of the verifier. -/
import Derived.Test.YtiabdbeejkadnaaGreatDoorRefC
import Derived.WalkSpells
namespace Go.Proofs.YtiabdbeejkadnaaGreatDoor
open Go.RowKit

/-- a request's ten cells, at place i of the row at g -/
theorem Row.req {w : World} {F : Nat → Prop} {g n cap : Nat} {R : List Rq} (h : Row w F 175 10 (Option.some ⟨g, 0, none⟩) n cap (R.flatMap encR)) (hn : n = R.length) (i j : Nat) (hi : i < n) (hj : j < 10) :
    w.cell? ⟨g, i * 10 + j, none⟩ = (encR (R.getD i Rq.zero))[j]? := by
  rw [Row.cellAt h (i * 10 + j) (by omega), encRs_at R i j (by omega) hj]

/-- the queue behind a change of nothing but new blocks -/
theorem RefBlk.below {w w' : World} {F G : Nat → Prop} {mb : Nat} {S : St} {ar : Option Addr} {cr : Nat} {at_ : Option Addr} {ct : Nat} {af : Option Addr} {cf : Nat} {ad : Option Addr} {cd : Nat} (h : RefBlk w F G mb S ar cr at_ ct af cf ad cd) (hb : Below w.heap.size w w') : RefBlk w' F G mb S ar cr at_ ct af cf ad cd :=
  h.same (fun k _ hk => hb.block k hk) hb.size

/-- one round of drop's loop that keeps a request: the row behind the append -/
theorem drop_rel {w wr w2 : World} {ao : Option Addr} {n cap g cap' : Nat} {xs news : List Value} {o : Obj} (hb : Below w.heap.size w wr) (hrow : Row wr (fun b => w.heap.size ≤ b) 175 10 ao n cap xs)
    (hgrow : (wr.alloc o).grownBy w2 (Value.ownBlock (.slice ao n cap))) (hown : w2.ownsRow 0 175 10 (.slice (some ⟨g, 0, none⟩) (n + 1) cap') (n + 1) (xs ++ news)) (hat : Value.ownBlock (.slice ao n cap) = some g ∨ g = wr.heap.size + 1) :
    Below w.heap.size w w2 ∧ Row w2 (fun b => w.heap.size ≤ b) 175 10 (some ⟨g, 0, none⟩) (n + 1) cap' (xs ++ news) := by
  have hob : ∀ k, Value.ownBlock (.slice ao n cap) = some k → w.heap.size ≤ k := by
    intro k hk
    cases ao with
    | none => simp [Value.ownBlock] at hk
    | some a => have := hrow.2 a rfl; simp [Value.ownBlock] at hk; omega
  refine ⟨(hb.alloc hb.size o).grown hgrow (by have := hb.size; simp; omega) hob, hown, fun a ha => ?_⟩
  cases ha
  rcases hat with e | e
  · exact hob g e
  · have := hb.size; show w.heap.size ≤ g; omega

set_option maxHeartbeats 1000000 in
set_option maxRecDepth 1000000 in
theorem ref_drop_air (S : St) (F : Nat → Prop) (mb k : Nat) (w : World) (h : RefAt w F mb S) (hr : S.reqs.length ≤ 1000000) (hk : k < S.reqs.length) (ha : (S.reqs.getD k Rq.zero).inAir = false) :
    Calls Tryz.prog 109 #[.pointer (some ⟨mb, 0, none⟩), .int .i64 k] w fun e w' => e = .returned (.tuple #[]) ∧ RefAt w' (Foot F w w') mb { S with reqs := S.reqs.eraseIdx k } ∧ Kept F w w' := by
  obtain ⟨G, ar, cr, at_, ct, af, cf, ad, cd, h⟩ := h
  obtain ⟨i0, hi, hi0, hi1, hi2⟩ := info_parts info_req
  obtain ⟨g0, cur, hg0, _, _, _, _⟩ := Row.some h.reqs (by omega)
  subst hg0
  have c1 := h.c1
  have f1 := h.fz 1
  have hlt := h.lt
  have hgl : g0 < w.heap.size := by obtain ⟨c, hc, _⟩ := h.reqs.block rfl; exact lt_of_heap hc
  have ca : w.cell? ⟨g0, k * 10 + 8, none⟩ = some (.bool false) := by rw [Row.req h.reqs rfl k 8 hk (by omega), ← ha]; rfl
  have H : Hid (RefBlk w F G mb S (some ⟨g0, 0, none⟩) cr at_ ct af cf ad cd) := h
  clear h ha
  generalize hR : S.reqs = R at *
  have hR' : Hid (S.reqs = R) := hR
  clear hR
  go_enter Tryz.func109, Tryz.ntmps109
  go_wp2
  go_loopw [4, 5] (fun l i wr => ∃ (j n cap : Nat) (ao : Option Addr), j ≤ R.length ∧ i = .int .i64 j ∧ l = .slice ao n cap ∧ n = (keepTo R k j).length ∧ Hid (Row wr (fun b => w.heap.size ≤ b) 175 10 ao n cap ((keepTo R k j).flatMap encR)) ∧ Hid (Below w.heap.size w wr)) (fun _ i _ => R.length - (intOf i).toNat)
  case atStart => exact ⟨0, 0, 0, none, Nat.zero_le _, rfl, rfl, by rw [keepTo_zero]; rfl, by rw [keepTo_zero]; exact Row.nil _ _ _ _, Below.refl _ _⟩
  case round =>
    obtain ⟨j, n, cap, ao, hj, rfl, rfl, hn, hrow, hb⟩ := hrel
    have HN : Hid (n = (keepTo R k j).length) := hn
    have hnl : n ≤ R.length := by rw [hn]; exact keepTo_len R k j
    clear hn
    have d1 : wr.cell? ⟨mb, 1, none⟩ = some (.slice (some ⟨g0, 0, none⟩) R.length cr) := (hb.out.cell (p := ⟨mb, 1, none⟩) hlt).trans c1
    have e1 : wr.frozen? ⟨mb, 1, none⟩ = false := (hb.out.frozen (p := ⟨mb, 1, none⟩) hlt).trans f1
    by_cases hlt2 : j < R.length
    · by_cases hjk : j = k
      · have b1 : ((j : Int) != (k : Int)) = false := by simp [hjk]
        have HE : Hid (j = k) := hjk
        clear hjk
        go_wp2
        go_roundw
        case rel => exact ⟨j + 1, n, cap, ao, by omega, by go_num, rfl, by rw [HN.out, HE.out, keepTo_same], by rw [HE.out, keepTo_same]; rw [HE.out] at hrow; exact hrow, hb⟩
        case measure => simp [intOf]; omega
      · have b1 : ((j : Int) != (k : Int)) = true := by rw [bne_iff_ne]; omega
        obtain ⟨r, hr'⟩ : ∃ r, r = R.getD j Rq.zero := ⟨_, rfl⟩
        have HRr : Hid (r = R.getD j Rq.zero) := hr'
        have hq : ∀ t, t < 10 → wr.cell? ⟨g0, j * 10 + t, none⟩ = (encR r)[t]? := by
          intro t ht
          rw [hb.out.cell (p := ⟨g0, j * 10 + t, none⟩) hgl, hr', ← Row.req (R := R) (by have := H.out.reqs; rw [hR'.out] at this; exact this) rfl j t hlt2 ht]
        have q0 : wr.cell? ⟨g0, j * 10, none⟩ = some (.int .i64 r.num) := hq 0 (by omega)
        have q1 : wr.cell? ⟨g0, j * 10 + 1, none⟩ = some (.bool r.write) := hq 1 (by omega)
        have q2 : wr.cell? ⟨g0, j * 10 + 2, none⟩ = some (.int .i64 r.page) := hq 2 (by omega)
        have q3 : wr.cell? ⟨g0, j * 10 + 3, none⟩ = some (.string r.data) := hq 3 (by omega)
        have q4 : wr.cell? ⟨g0, j * 10 + 4, none⟩ = some (.int .i64 r.state) := hq 4 (by omega)
        have q5 : wr.cell? ⟨g0, j * 10 + 5, none⟩ = some (.int .i64 r.tries) := hq 5 (by omega)
        have q6 : wr.cell? ⟨g0, j * 10 + 6, none⟩ = some (.int .i64 r.after) := hq 6 (by omega)
        have q7 : wr.cell? ⟨g0, j * 10 + 7, none⟩ = some (.bool r.alone) := hq 7 (by omega)
        have q8 : wr.cell? ⟨g0, j * 10 + 8, none⟩ = some (.bool r.inAir) := hq 8 (by omega)
        have q9 : wr.cell? ⟨g0, j * 10 + 9, none⟩ = some (.string r.answer) := hq 9 (by omega)
        have HJ : Hid (¬ j = k) := hjk
        clear hq hr' hjk
        have HO : Hid ((wr.alloc (.cells (encR r).toArray 175)).ownsRow 0 175 10 (.slice ao n cap) n ((keepTo R k j).flatMap encR)) := (hrow.out.alloc _).1
        have HW : Hid (∀ (t : Nat) (u : Value), (encR r)[t]? = some u → (wr.alloc (.cells (encR r).toArray 175)).cell? ((⟨wr.heap.size, 0, none⟩ : Addr).add t) = some u) := fun t u => news_new t u
        go_wp2_with (at_builtin; go_must (refine wpList_append_lies _ rfl (.tmp 43) (.tmp 51) 102 rfl 0 175 i0 (.agg (encR Rq.zero).toArray) 10 88 Tryz.underlying102 hi hi0 hi1 hi2 rfl (by decide) (.slice ao n cap) n ((keepTo R k j).flatMap encR) rfl HO.out ⟨wr.heap.size, 0, none⟩ 1 1 (encR r) rfl rfl HW.out (encR_one _) (by decide) (by unfold maxLen; omega) (by omega) (Nat.zero_le _) (wr.heap.size + 1) (by simp) ?_; intro g cap' w2 hown hgrow hat hlt3; have HX := hide (drop_rel hb.out hrow.out hgrow hown hat); clear hown hgrow hat hlt3))
        go_roundw
        case rel => exact ⟨j + 1, n + 1, cap', some ⟨g, 0, none⟩, by omega, by go_num, rfl, by rw [keepTo_next R k j hlt2 HJ.out, List.length_append, HN.out]; rfl, by rw [keepTo_next R k j hlt2 HJ.out, List.flatMap_append, ← HRr.out]; simpa [Hid] using HX.out.2, HX.out.1⟩
        case measure => simp [intOf]; omega
    · have HA : Hid (keepTo R k j = R.eraseIdx k) := keepTo_all R k j (by omega)
      go_wp2
      go_end0
      refine ⟨rfl, ⟨G, ao, cap, at_, ct, af, cf, ad, cd, ?_⟩, ?_⟩
      · have hz2 : ∀ v, (wr.setCell ⟨mb, 1, none⟩ v).heap.size = wr.heap.size := fun v => by simp [World.setCell]
        refine H.out.setReqs (fun t ht _ => hb.out.block t ht) hb.out.size Foot.of (fun t ht => by rw [← hz2]; exact Foot.lt H.out.ltF (by rw [hz2]; exact hb.out.size) t ht) (by rw [HN.out, HA.out]) ?_ (fun b hb' => Or.inr (hrow.out.2 b hb'))
        have hr2 := hrow.out
        rw [HA.out] at hr2
        refine ⟨hr2.1, fun a ha => Or.inr ⟨hr2.2 a ha, ?_⟩⟩
        obtain ⟨c, hc, _⟩ := hr2.block ha
        rw [hz2]
        exact lt_of_heap hc
      · exact ((Below.kept hb.out F)).setCell (Or.inl H.out.own) _
end Go.Proofs.YtiabdbeejkadnaaGreatDoor
