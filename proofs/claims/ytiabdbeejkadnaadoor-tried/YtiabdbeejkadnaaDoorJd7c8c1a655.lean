import Derived.Test.YtiabdbeejkadnaaDoorJe887af95b0
import Derived.Test.YtiabdbeejkadnaaDoorJa3752589ab
/- The keeps: Tried, as a plain model; the disk. Own work of the verifier. -/
namespace Go.Proofs.YtiabdbeejkadnaaDoor

section
variable {wr : Bool} {p : Int} {d : ByteArray} {a now head : Int}
/-- the request ahead of try i -/
def tR (wr : Bool) (p : Int) (d : ByteArray) (i : Nat) (a : Int) : Rq := ⟨1, wr, p, d, 0, i, a, decide (0 < i), false, ⟨#[]⟩⟩
def zeroD : List UInt8 := List.replicate 64 0
def tS (wr : Bool) (p : Int) (d : ByteArray) (i : Nat) (a now head : Int) : St := oneS (tR wr p d i a) now head zeroD
def tAir (wr : Bool) (p : Int) (d : ByteArray) (i : Nat) (a now : Int) : St := oneF (tR wr p d i a) now zeroD
theorem ask_tS : askOk (St.new 1) wr p d = tS wr p d 0 0 0 0 := rfl
theorem t_step {i : Nat} (h2 : a ≤ now) (hp : 0 ≤ p ∧ p < 16) (hh : 0 ≤ head) : stepM (tS wr p d i a now head) = (some ⟨wr, p, 1, [1]⟩, tAir wr p d i a now) := one_step (r := tR wr p d i a) rfl h2 hp hh
theorem t_next {i : Nat} (h2 : a ≤ now) (hp : 0 ≤ p ∧ p < 16) (hh : 0 ≤ head) : nextM (tS wr p d i a now head) = some ⟨wr, p, 1, [1]⟩ := one_next (S := tS wr p d i a now head) rfl (by show (0 : Int) < 1; decide) rfl rfl h2 hp hh
theorem t_early {i : Nat} (h : now < a) : stepM (tS wr p d i a now head) = (none, tS wr p d i a now head) := one_step_no (r := tR wr p d i a) (fun e => by have := e.2; simp only [tR] at this; omega)
theorem t_none {i : Nat} (h : now < a) : nextM (tS wr p d i a now head) = none := one_none (S := tS wr p d i a now head) rfl (fun e => by have := e.2; simp only [tR] at this; have e2 : (tS wr p d i a now head).now = now := rfl; omega)
theorem one_place (S : St) (r : Rq) (hr : S.reqs = [r]) (ht : S.told = []) : placeM S r.num = 0 := by
  unfold placeM
  rw [ht, hr]
  simp [toldHas, findR, intOr]
theorem t_poll {i : Nat} : pollM (tS wr p d i a now head) 1 = ((⟨#[]⟩ : ByteArray), (i : Int), (6 : Int), tS wr p d i a now head) := by
  have h := one_place (tS wr p d i a now head) (tR wr p d i a) rfl rfl
  replace h : placeM (tS wr p d i a now head) 1 = 0 := h
  unfold pollM
  rw [h]
  rfl
theorem t_tick {i : Nat} : { tS wr p d i a now head with now := now + 1 } = tS wr p d i a (now + 1) head := rfl
theorem t_again {i : Nat} (hi : i < 3) : completeM (tAir wr p d i a now) 0 true = (true, tS wr p d (i + 1) (now + ((2 ^ i : Nat) : Int)) now (p + 1)) := by
  have h3 : i = 0 ∨ i = 1 ∨ i = 2 := by omega
  have := one_done (r := tR wr p d i a) (now := now) (disk := zeroD) true
  refine this.trans ?_
  rcases h3 with rfl | rfl | rfl <;> rfl
/-- what stands behind the last try -/
structure TFin (wr : Bool) (p : Int) (d : ByteArray) (good : Bool) (S : St) : Prop where
  next : nextM S = none
  step : (stepM S).2 = S
  last : S.last = 1
  poll : ∃ s tr k S' r' e1 e2 e3, pollM S 1 = (s, tr, k, S') ∧ plainErr S 1 = (e1, e2, e3) ∧ PollOut ⟨1, wr, p, d, 0, ⟨#[]⟩⟩ s tr k r' ∧ r'.how = (if good then 1 else 2) ∧ r'.data = d ∧ S'.disk.length = 64 ∧ getM S'.disk (4 * p).toNat = (if good && wr then d else ⟨#[0, 0, 0, 0]⟩)
theorem fin_of {S : St} {r : Rq} {good : Bool} {r' : KR} (hr : S.reqs = [r]) (ht : S.told = []) (hn : r.num = 1) (hl : S.last = 1) (ha : r.inAir = false) (hs : (r.state = 2 ∧ PollOut ⟨1, wr, p, d, 0, ⟨#[]⟩⟩ r.answer r.tries 0 r') ∨ (r.state = 3 ∧ PollOut ⟨1, wr, p, d, 0, ⟨#[]⟩⟩ ⟨#[]⟩ r.tries 7 r')) (h1 : r'.how = (if good then 1 else 2)) (h2 : r'.data = d) (h3 : S.disk.length = 64) (h4 : getM S.disk (4 * p).toNat = (if good && wr then d else ⟨#[0, 0, 0, 0]⟩)) : TFin wr p d good S := by
  have hnn : nextM S = none := one_none hr (fun e => by have := e.1; omega)
  have hpl : placeM S 1 = 0 := by rw [← hn]; exact one_place S r hr ht
  have hg : S.reqs.getD 0 Rq.zero = r := by rw [hr]; rfl
  refine ⟨hnn, by unfold stepM; rw [hnn], hl, ?_⟩
  rcases hs with ⟨h, ho⟩ | ⟨h, ho⟩
  · refine ⟨r.answer, r.tries, 0, dropM S 0, r', _, _, _, ?_, rfl, ho, h1, h2, ?_, ?_⟩
    · unfold pollM
      rw [hpl]
      simp only [Int.toNat_zero, hg]
      rw [if_neg (by omega), if_neg (by omega), if_neg (by omega), if_neg (by omega)]
    · unfold dropM; rw [hg, ha]; exact h3
    · unfold dropM; rw [hg, ha]; exact h4
  · refine ⟨⟨#[]⟩, r.tries, 7, dropM S 0, r', _, _, _, ?_, rfl, ho, h1, h2, ?_, ?_⟩
    · unfold pollM
      rw [hpl]
      simp only [Int.toNat_zero, hg]
      rw [if_neg (by omega), if_neg (by omega), if_pos h]
    · unfold dropM; rw [hg, ha]; exact h3
    · unfold dropM; rw [hg, ha]; exact h4
theorem zero_get {p : Int} (hp : 0 ≤ p ∧ p < 16) : getM zeroD (4 * p).toNat = ⟨#[0, 0, 0, 0]⟩ := by
  obtain ⟨n, rfl⟩ := Int.eq_ofNat_of_zero_le hp.1
  have e : (4 * (n : Int)).toNat = 4 * n := by omega
  rw [e]
  have hn : n < 16 := by omega
  have h : ∀ n < 16, getM zeroD (4 * n) = ⟨#[0, 0, 0, 0]⟩ := by decide
  exact h n hn
theorem put_get {p : Int} (hp : 0 ≤ p ∧ p < 16) : getM (putM zeroD (4 * p).toNat [9, 0, 0, 1]) (4 * p).toNat = ⟨#[9, 0, 0, 1]⟩ := by
  obtain ⟨n, rfl⟩ := Int.eq_ofNat_of_zero_le hp.1
  have e : (4 * (n : Int)).toNat = 4 * n := by omega
  rw [e]
  have hn : n < 16 := by omega
  have h : ∀ n < 16, getM (putM zeroD (4 * n) [9, 0, 0, 1]) (4 * n) = ⟨#[9, 0, 0, 1]⟩ := by decide
  exact h n hn
theorem t_fail (hp : 0 ≤ p ∧ p < 16) : ∃ S, completeM (tAir wr p d 3 a now) 0 true = (true, S) ∧ TFin wr p d false S := by
  refine ⟨_, one_done (r := tR wr p d 3 a) (now := now) (disk := zeroD) true, fin_of (r' := ⟨1, wr, p, d, 2, ⟨#[]⟩⟩) rfl rfl rfl rfl rfl (Or.inr ⟨rfl, Or.inr (Or.inl ⟨rfl, rfl, rfl⟩)⟩) rfl rfl rfl (zero_get hp)⟩
theorem t_good {i : Nat} (hi : i ≤ 3) (hp : 0 ≤ p ∧ p < 16) (hd : wr = true → d = ⟨#[9, 0, 0, 1]⟩) : ∃ S, completeM (tAir wr p d i a now) 0 false = (true, S) ∧ TFin wr p d true S := by
  cases wr with
  | true =>
    rw [hd rfl]
    refine ⟨_, one_done (r := tR true p ⟨#[9, 0, 0, 1]⟩ i a) (now := now) (disk := zeroD) false, fin_of (r' := ⟨1, true, p, ⟨#[9, 0, 0, 1]⟩, 1, ⟨#[]⟩⟩) rfl rfl rfl rfl rfl (Or.inl ⟨rfl, Or.inl ⟨rfl, rfl, ?_, ?_, rfl⟩⟩) rfl rfl (putM_len _ _ _) (put_get hp)⟩
    · show (1 : Int) ≤ i + 1; omega
    · show (i : Int) + 1 ≤ 4; omega
  | false =>
    refine ⟨_, one_done (r := tR false p d i a) (now := now) (disk := zeroD) false, fin_of (r' := ⟨1, false, p, d, 1, getM zeroD (4 * p).toNat⟩) rfl rfl rfl rfl rfl (Or.inl ⟨rfl, Or.inl ⟨rfl, ?_, ?_, ?_, rfl⟩⟩) rfl rfl rfl (zero_get hp)⟩
    · show false = decide ((getM zeroD (4 * p).toNat).size = 0); rw [zero_get hp]; rfl
    · show (1 : Int) ≤ i + 1; omega
    · show (i : Int) + 1 ≤ 4; omega
end
end Go.Proofs.YtiabdbeejkadnaaDoor

/- The keeps: the world of a keep and the law's own; the calls. Own work of the verifier. -/
namespace Go.Proofs.YtiabdbeejkadnaaDoor
open Go.RowKit Go.Maps

/-- a keep's world at wr; all of it lies above what w has -/
structure KWF (w wr : World) (F : Nat → Prop) (wb xb : Nat) (S : St) (rs : List KR) : Prop where
  at_ : KAt wr F wb xb S rs
  fr : ∀ k, F k → w.heap.size ≤ k
  bel : Below w.heap.size w wr
  g : GCell wr
  pos : 0 < w.heap.size
section
variable {w wr w' : World} {F : Nat → Prop} {wb xb : Nat} {S S' : St} {rs rs' : List KR}
theorem KWF.no0 (h : KWF w wr F wb xb S rs) : ¬ F 0 := fun e => by have := h.fr 0 e; have := h.pos; omega
theorem KWF.below (h : KWF w wr F wb xb S rs) (hb : Below wr.heap.size wr w') : KWF w w' F wb xb S rs :=
  ⟨h.at_.below hb, h.fr, h.bel.trans (hb.mono h.bel.size), h.g.below hb, h.pos⟩
theorem KWF.alloc (h : KWF w wr F wb xb S rs) (o : Obj) : KWF w (wr.alloc o) F wb xb S rs := h.below (alloc_below _ _)
theorem KWF.after (h : KWF w wr F wb xb S rs) (hA : KAt w' (Foot F wr w') wb xb S' rs') (hK : Kept F wr w') : KWF w w' (Foot F wr w') wb xb S' rs' := by
  have hb : Below w.heap.size wr w' := hK.toBelow h.fr h.bel.size
  refine ⟨hA, fun k hk => ?_, h.bel.trans hb, h.g.kept hK h.no0, h.pos⟩
  rcases hk with e | e
  · exact h.fr k e
  · have := h.bel.size; omega
theorem KWF.q (h : KWF w wr F wb xb S rs) : wr.cell? ⟨wb, 0, none⟩ = some (.pointer (some ⟨xb, 0, none⟩)) ∧ wb < wr.heap.size := h.at_.q0
theorem KWF.new (h : KWF w wr F wb xb S rs) (k : Nat) (hk : wr.heap.size ≤ k) : ¬ F k := fun e => by have := h.at_.lt k e; omega
end
section
variable (w wr : World) (F : Nat → Prop) (wb xb : Nat) (S : St) (rs : List KR)
theorem kw_step (h : KWF w wr F wb xb S rs) (hl : S.last ≤ 1000000) :
    Calls Tryd.prog 11 #[.pointer (some ⟨xb, 0, none⟩)] wr fun e w' => (∃ ao cap, e = .returned (.tuple #[.agg #[.bool ((nextM S).getD cmdZ).write, .int .i64 ((nextM S).getD cmdZ).page, .int .i64 ((nextM S).getD cmdZ).count, .slice ao ((nextM S).getD cmdZ).requests.length cap], .bool (nextM S).isSome])) ∧ KWF w w' (Foot F wr w') wb xb (stepM S).2 rs ∧ Kept F wr w' := by
  refine (keep_step S rs F wb xb wr h.at_ hl).mono ?_
  rintro e w1 ⟨h1, h2, h3⟩
  exact ⟨h1, h.after h2 h3, h3⟩
theorem kw_tick (h : KWF w wr F wb xb S rs) (hn : S.now ≤ 1000000000) :
    Calls Tryd.prog 14 #[.pointer (some ⟨xb, 0, none⟩)] wr fun e w' => e = .returned (.tuple #[]) ∧ KWF w w' (Foot F wr w') wb xb { S with now := S.now + 1 } rs ∧ Kept F wr w' := by
  refine (keep_tick S rs F wb xb wr h.at_ hn).mono ?_
  rintro e w1 ⟨h1, h2, h3⟩
  exact ⟨h1, h.after h2 h3, h3⟩
theorem kw_complete (kk : Int) (fault : Bool) (h : KWF w wr F wb xb S rs) (hn : S.now ≤ 1000000000) (hl : S.last ≤ 1000000) :
    Calls Tryd.prog 12 #[.pointer (some ⟨xb, 0, none⟩), .int .i64 kk, .bool fault] wr fun e w' => e = .returned (.agg #[.int .i64 (if (completeM S kk fault).1 then 0 else 10), .int .i64 (-1), .int .i64 0, .bool true]) ∧ KWF w w' (Foot F wr w') wb xb (completeM S kk fault).2 rs ∧ Kept F wr w' := by
  refine (keep_complete S rs F wb xb kk fault wr h.at_ h.g h.no0 hn hl).mono ?_
  rintro e w1 ⟨h1, h2, h3⟩
  exact ⟨h1, h.after h2 h3, h3⟩
theorem kw_plainPoll (num : Int) (h : KWF w wr F wb xb S rs) (hw : (Lit.int .i64 num).wf = true) :
    Calls Tryd.prog 13 #[.pointer (some ⟨xb, 0, none⟩), .int .i64 num] wr fun e w' => (∃ ao n cap t, e = .returned (.tuple #[.agg #[.slice ao n cap, .int .i64 t], .agg #[.int .i64 (plainErr S num).1, .int .i64 (plainErr S num).2.1, .int .i64 (plainErr S num).2.2, .bool true]]) ∧ PlainAns wr w' (pollM S num) ao n cap t) ∧ KWF w w' (Foot F wr w') wb xb (pollM S num).2.2.2 rs ∧ Kept F wr w' := by
  refine (keep_plainPoll S rs F wb xb num wr h.at_ h.g h.no0 hw).mono ?_
  rintro e w1 ⟨h1, h2, h3⟩
  exact ⟨h1, h.after h2 h3, h3⟩
theorem kw_poll (S' : St) (s : ByteArray) (tr k e1 e2 e3 : Int) (r r' : KR) (i : Nat) (h : KWF w wr F wb xb S rs) (hi : i < rs.length) (hr : rs[i] = r) (hl : rs.length ≤ 100000) (hw : (Lit.int .i64 r.num).wf = true) (hh : r.how ≠ 1 ∧ r.how ≠ 2) (hp : pollM S r.num = (s, tr, k, S')) (he : plainErr S r.num = (e1, e2, e3)) (ho : PollOut r s tr k r') :
    Calls Tryd.prog 16 #[.pointer (some ⟨wb, 0, none⟩), .int .i64 (i : Int)] wr fun e w' => e = .returned (.bool true) ∧ KWF w w' (Foot F wr w') wb xb S' (rs.set i r') ∧ Kept F wr w' := by
  refine (keep_poll S S' s tr k e1 e2 e3 r r' rs F wb xb i wr h.at_ h.g h.no0 hi hr hl hw hh hp he ho).mono ?_
  rintro e w1 ⟨h1, h2, h3⟩
  exact ⟨h1, h.after h2 h3, h3⟩
theorem kw_disk (h : KWF w wr F wb xb S rs) :
    Calls Tryd.prog 17 #[.pointer (some ⟨xb, 0, none⟩)] wr fun e w' => ∃ ao cap, e = .returned (.slice ao 64 cap) ∧ Row w' (fun b => wr.heap.size ≤ b) 5 1 ao 64 cap (encB S.disk) ∧ KWF w w' F wb xb S rs ∧ Below wr.heap.size wr w' := by
  obtain ⟨Fx, Fk, ar, cr, hP, _⟩ := h.at_
  refine (prog_disk S Fx xb wr hP).mono ?_
  rintro e w1 ⟨ao, cap, h1, h2, h3⟩
  exact ⟨ao, cap, h1, h2, h.below h3, h3⟩
theorem kw_ask (write : Bool) (page : Int) (v : UInt8) (h : KWF w wr F wb xb S rs) (hlast : S.last = rs.length) (hl : rs.length ≤ 100000) (hp : 0 ≤ page ∧ page < 16) (hf : ¬ 40 ≤ (S.reqs.length : Int) - S.told.length) :
    Calls Tryd.prog 10 #[.pointer (some ⟨wb, 0, none⟩), .bool write, .int .i64 page, .int .u8 v.toNat] wr fun e w' => e = .returned (.bool true) ∧ KWF w w' (Foot F wr w') wb xb (askOk S write page (if write then kdata v rs.length else ⟨#[]⟩)) (rs ++ [⟨rs.length + 1, write, page, (if write then kdata v rs.length else ⟨#[]⟩), 0, ⟨#[]⟩⟩]) ∧ Kept F wr w' := by
  cases write with
  | true =>
    refine (keep_ask_w S rs F wb xb page v wr h.at_ h.g h.no0 hlast hl hp hf).mono ?_
    rintro e w1 ⟨h1, h2, h3⟩
    exact ⟨h1, h.after h2 h3, h3⟩
  | false =>
    refine (keep_ask_r S rs F wb xb page v.toNat wr h.at_ h.g h.no0 hlast hl hp hf).mono ?_
    rintro e w1 ⟨h1, h2, h3⟩
    exact ⟨h1, h.after h2 h3, h3⟩
theorem kw_begun (depth : Int) (hg : GCell w) (hc : -9223372036854775808 ≤ depth ∧ depth ≤ 9223372036854775807) :
    Calls Tryd.prog 8 #[.int .i64 depth] w fun e w' => (∃ wb xb, e = .returned (.tuple #[.pointer (some ⟨wb, 0, none⟩), .bool true]) ∧ ∃ F, KWF w w' F wb xb (St.new (1 + kpickM depth 4)) []) := by
  refine (keep_begun depth w hg hc).mono ?_
  rintro e w1 ⟨⟨wb, xb, h1, h2⟩, h3⟩
  have hpos : 0 < w.heap.size := lt_of_cell hg
  refine ⟨wb, xb, h1, _, h2, fun k hk => ?_, h3, hg.below h3, hpos⟩
  rcases hk with e | e
  · exact e.elim
  · exact e.1
end
end Go.Proofs.YtiabdbeejkadnaaDoor
