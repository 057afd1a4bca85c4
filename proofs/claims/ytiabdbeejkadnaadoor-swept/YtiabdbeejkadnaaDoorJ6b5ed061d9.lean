import Derived.Test.YtiabdbeejkadnaaDoorJe887af95b0
import Derived.Test.YtiabdbeejkadnaaDoorJa3752589ab
/- The keeps: Tried, as a plain model; the disk. Own work of the verifier. -/
namespace Go.Proofs.YtiabdbeejkadnaaDoor

section
variable {wr : Bool} {p : Int} {d : ByteArray} {a now head : Int}
/-- the request ahead of try i -/
def tR (wr : Bool) (p : Int) (d : ByteArray) (i : Nat) (a : Int) : Rq := ⟨1, wr, p, d, 0, i, a, decide (0 < i), false, ⟨#[]⟩⟩
def zeroD : List UInt8 := List.replicate 64 0
def tS (wr : Bool) (p : Int) (d : ByteArray) (i : Nat) (a now head : Int) : St := oneS (tR wr p d i a) now head zeroD
def tAir (wr : Bool) (p : Int) (d : ByteArray) (i : Nat) (a now : Int) : St := oneF (tR wr p d i a) now zeroD
theorem ask_tS : askOk (St.new 1) wr p d = tS wr p d 0 0 0 0 := rfl
theorem t_step {i : Nat} (h2 : a ≤ now) (hp : 0 ≤ p ∧ p < 16) (hh : 0 ≤ head) : stepM (tS wr p d i a now head) = (some ⟨wr, p, 1, [1]⟩, tAir wr p d i a now) := one_step (r := tR wr p d i a) rfl h2 hp hh
theorem t_next {i : Nat} (h2 : a ≤ now) (hp : 0 ≤ p ∧ p < 16) (hh : 0 ≤ head) : nextM (tS wr p d i a now head) = some ⟨wr, p, 1, [1]⟩ := one_next (S := tS wr p d i a now head) rfl (by show (0 : Int) < 1; decide) rfl rfl h2 hp hh
theorem t_early {i : Nat} (h : now < a) : stepM (tS wr p d i a now head) = (none, tS wr p d i a now head) := one_step_no (r := tR wr p d i a) (fun e => by have := e.2; simp only [tR] at this; omega)
theorem t_none {i : Nat} (h : now < a) : nextM (tS wr p d i a now head) = none := one_none (S := tS wr p d i a now head) rfl (fun e => by have := e.2; simp only [tR] at this; have e2 : (tS wr p d i a now head).now = now := rfl; omega)
theorem one_place (S : St) (r : Rq) (hr : S.reqs = [r]) (ht : S.told = []) : placeM S r.num = 0 := by
  unfold placeM
  rw [ht, hr]
  simp [toldHas, findR, intOr]
theorem t_poll {i : Nat} : pollM (tS wr p d i a now head) 1 = ((⟨#[]⟩ : ByteArray), (i : Int), (6 : Int), tS wr p d i a now head) := by
  have h := one_place (tS wr p d i a now head) (tR wr p d i a) rfl rfl
  replace h : placeM (tS wr p d i a now head) 1 = 0 := h
  unfold pollM
  rw [h]
  rfl
theorem t_tick {i : Nat} : { tS wr p d i a now head with now := now + 1 } = tS wr p d i a (now + 1) head := rfl
theorem t_again {i : Nat} (hi : i < 3) : completeM (tAir wr p d i a now) 0 true = (true, tS wr p d (i + 1) (now + ((2 ^ i : Nat) : Int)) now (p + 1)) := by
  have h3 : i = 0 ∨ i = 1 ∨ i = 2 := by omega
  have := one_done (r := tR wr p d i a) (now := now) (disk := zeroD) true
  refine this.trans ?_
  rcases h3 with rfl | rfl | rfl <;> rfl
/-- what stands behind the last try -/
structure TFin (wr : Bool) (p : Int) (d : ByteArray) (good : Bool) (S : St) : Prop where
  next : nextM S = none
  step : (stepM S).2 = S
  last : S.last = 1
  poll : ∃ s tr k S' r' e1 e2 e3, pollM S 1 = (s, tr, k, S') ∧ plainErr S 1 = (e1, e2, e3) ∧ PollOut ⟨1, wr, p, d, 0, ⟨#[]⟩⟩ s tr k r' ∧ r'.how = (if good then 1 else 2) ∧ r'.data = d ∧ S'.disk.length = 64 ∧ getM S'.disk (4 * p).toNat = (if good && wr then d else ⟨#[0, 0, 0, 0]⟩)
theorem fin_of {S : St} {r : Rq} {good : Bool} {r' : KR} (hr : S.reqs = [r]) (ht : S.told = []) (hn : r.num = 1) (hl : S.last = 1) (ha : r.inAir = false) (hs : (r.state = 2 ∧ PollOut ⟨1, wr, p, d, 0, ⟨#[]⟩⟩ r.answer r.tries 0 r') ∨ (r.state = 3 ∧ PollOut ⟨1, wr, p, d, 0, ⟨#[]⟩⟩ ⟨#[]⟩ r.tries 7 r')) (h1 : r'.how = (if good then 1 else 2)) (h2 : r'.data = d) (h3 : S.disk.length = 64) (h4 : getM S.disk (4 * p).toNat = (if good && wr then d else ⟨#[0, 0, 0, 0]⟩)) : TFin wr p d good S := by
  have hnn : nextM S = none := one_none hr (fun e => by have := e.1; omega)
  have hpl : placeM S 1 = 0 := by rw [← hn]; exact one_place S r hr ht
  have hg : S.reqs.getD 0 Rq.zero = r := by rw [hr]; rfl
  refine ⟨hnn, by unfold stepM; rw [hnn], hl, ?_⟩
  rcases hs with ⟨h, ho⟩ | ⟨h, ho⟩
  · refine ⟨r.answer, r.tries, 0, dropM S 0, r', _, _, _, ?_, rfl, ho, h1, h2, ?_, ?_⟩
    · unfold pollM
      rw [hpl]
      simp only [Int.toNat_zero, hg]
      rw [if_neg (by omega), if_neg (by omega), if_neg (by omega), if_neg (by omega)]
    · unfold dropM; rw [hg, ha]; exact h3
    · unfold dropM; rw [hg, ha]; exact h4
  · refine ⟨⟨#[]⟩, r.tries, 7, dropM S 0, r', _, _, _, ?_, rfl, ho, h1, h2, ?_, ?_⟩
    · unfold pollM
      rw [hpl]
      simp only [Int.toNat_zero, hg]
      rw [if_neg (by omega), if_neg (by omega), if_pos h]
    · unfold dropM; rw [hg, ha]; exact h3
    · unfold dropM; rw [hg, ha]; exact h4
theorem zero_get {p : Int} (hp : 0 ≤ p ∧ p < 16) : getM zeroD (4 * p).toNat = ⟨#[0, 0, 0, 0]⟩ := by
  obtain ⟨n, rfl⟩ := Int.eq_ofNat_of_zero_le hp.1
  have e : (4 * (n : Int)).toNat = 4 * n := by omega
  rw [e]
  have hn : n < 16 := by omega
  have h : ∀ n < 16, getM zeroD (4 * n) = ⟨#[0, 0, 0, 0]⟩ := by decide
  exact h n hn
theorem put_get {p : Int} (hp : 0 ≤ p ∧ p < 16) : getM (putM zeroD (4 * p).toNat [9, 0, 0, 1]) (4 * p).toNat = ⟨#[9, 0, 0, 1]⟩ := by
  obtain ⟨n, rfl⟩ := Int.eq_ofNat_of_zero_le hp.1
  have e : (4 * (n : Int)).toNat = 4 * n := by omega
  rw [e]
  have hn : n < 16 := by omega
  have h : ∀ n < 16, getM (putM zeroD (4 * n) [9, 0, 0, 1]) (4 * n) = ⟨#[9, 0, 0, 1]⟩ := by decide
  exact h n hn
theorem t_fail (hp : 0 ≤ p ∧ p < 16) : ∃ S, completeM (tAir wr p d 3 a now) 0 true = (true, S) ∧ TFin wr p d false S := by
  refine ⟨_, one_done (r := tR wr p d 3 a) (now := now) (disk := zeroD) true, fin_of (r' := ⟨1, wr, p, d, 2, ⟨#[]⟩⟩) rfl rfl rfl rfl rfl (Or.inr ⟨rfl, Or.inr (Or.inl ⟨rfl, rfl, rfl⟩)⟩) rfl rfl rfl (zero_get hp)⟩
theorem t_good {i : Nat} (hi : i ≤ 3) (hp : 0 ≤ p ∧ p < 16) (hd : wr = true → d = ⟨#[9, 0, 0, 1]⟩) : ∃ S, completeM (tAir wr p d i a now) 0 false = (true, S) ∧ TFin wr p d true S := by
  cases wr with
  | true =>
    rw [hd rfl]
    refine ⟨_, one_done (r := tR true p ⟨#[9, 0, 0, 1]⟩ i a) (now := now) (disk := zeroD) false, fin_of (r' := ⟨1, true, p, ⟨#[9, 0, 0, 1]⟩, 1, ⟨#[]⟩⟩) rfl rfl rfl rfl rfl (Or.inl ⟨rfl, Or.inl ⟨rfl, rfl, ?_, ?_, rfl⟩⟩) rfl rfl (putM_len _ _ _) (put_get hp)⟩
    · show (1 : Int) ≤ i + 1; omega
    · show (i : Int) + 1 ≤ 4; omega
  | false =>
    refine ⟨_, one_done (r := tR false p d i a) (now := now) (disk := zeroD) false, fin_of (r' := ⟨1, false, p, d, 1, getM zeroD (4 * p).toNat⟩) rfl rfl rfl rfl rfl (Or.inl ⟨rfl, Or.inl ⟨rfl, ?_, ?_, ?_, rfl⟩⟩) rfl rfl rfl (zero_get hp)⟩
    · show false = decide ((getM zeroD (4 * p).toNat).size = 0); rw [zero_get hp]; rfl
    · show (1 : Int) ≤ i + 1; omega
    · show (i : Int) + 1 ≤ 4; omega
end
end Go.Proofs.YtiabdbeejkadnaaDoor

/- The keeps: the world of a keep and the law's own; the calls. Own work of the verifier. -/
namespace Go.Proofs.YtiabdbeejkadnaaDoor
open Go.RowKit Go.Maps

/-- a keep's world at wr; all of it lies above what w has -/
structure KWF (w wr : World) (F : Nat → Prop) (wb xb : Nat) (S : St) (rs : List KR) : Prop where
  at_ : KAt wr F wb xb S rs
  fr : ∀ k, F k → w.heap.size ≤ k
  bel : Below w.heap.size w wr
  g : GCell wr
  pos : 0 < w.heap.size
section
variable {w wr w' : World} {F : Nat → Prop} {wb xb : Nat} {S S' : St} {rs rs' : List KR}
theorem KWF.no0 (h : KWF w wr F wb xb S rs) : ¬ F 0 := fun e => by have := h.fr 0 e; have := h.pos; omega
theorem KWF.below (h : KWF w wr F wb xb S rs) (hb : Below wr.heap.size wr w') : KWF w w' F wb xb S rs :=
  ⟨h.at_.below hb, h.fr, h.bel.trans (hb.mono h.bel.size), h.g.below hb, h.pos⟩
theorem KWF.alloc (h : KWF w wr F wb xb S rs) (o : Obj) : KWF w (wr.alloc o) F wb xb S rs := h.below (alloc_below _ _)
theorem KWF.after (h : KWF w wr F wb xb S rs) (hA : KAt w' (Foot F wr w') wb xb S' rs') (hK : Kept F wr w') : KWF w w' (Foot F wr w') wb xb S' rs' := by
  have hb : Below w.heap.size wr w' := hK.toBelow h.fr h.bel.size
  refine ⟨hA, fun k hk => ?_, h.bel.trans hb, h.g.kept hK h.no0, h.pos⟩
  rcases hk with e | e
  · exact h.fr k e
  · have := h.bel.size; omega
theorem KWF.q (h : KWF w wr F wb xb S rs) : wr.cell? ⟨wb, 0, none⟩ = some (.pointer (some ⟨xb, 0, none⟩)) ∧ wb < wr.heap.size := h.at_.q0
theorem KWF.new (h : KWF w wr F wb xb S rs) (k : Nat) (hk : wr.heap.size ≤ k) : ¬ F k := fun e => by have := h.at_.lt k e; omega
end
section
variable (w wr : World) (F : Nat → Prop) (wb xb : Nat) (S : St) (rs : List KR)
theorem kw_step (h : KWF w wr F wb xb S rs) (hl : S.last ≤ 1000000) :
    Calls Tryd.prog 11 #[.pointer (some ⟨xb, 0, none⟩)] wr fun e w' => (∃ ao cap, e = .returned (.tuple #[.agg #[.bool ((nextM S).getD cmdZ).write, .int .i64 ((nextM S).getD cmdZ).page, .int .i64 ((nextM S).getD cmdZ).count, .slice ao ((nextM S).getD cmdZ).requests.length cap], .bool (nextM S).isSome])) ∧ KWF w w' (Foot F wr w') wb xb (stepM S).2 rs ∧ Kept F wr w' := by
  refine (keep_step S rs F wb xb wr h.at_ hl).mono ?_
  rintro e w1 ⟨h1, h2, h3⟩
  exact ⟨h1, h.after h2 h3, h3⟩
theorem kw_tick (h : KWF w wr F wb xb S rs) (hn : S.now ≤ 1000000000) :
    Calls Tryd.prog 14 #[.pointer (some ⟨xb, 0, none⟩)] wr fun e w' => e = .returned (.tuple #[]) ∧ KWF w w' (Foot F wr w') wb xb { S with now := S.now + 1 } rs ∧ Kept F wr w' := by
  refine (keep_tick S rs F wb xb wr h.at_ hn).mono ?_
  rintro e w1 ⟨h1, h2, h3⟩
  exact ⟨h1, h.after h2 h3, h3⟩
theorem kw_complete (kk : Int) (fault : Bool) (h : KWF w wr F wb xb S rs) (hn : S.now ≤ 1000000000) (hl : S.last ≤ 1000000) :
    Calls Tryd.prog 12 #[.pointer (some ⟨xb, 0, none⟩), .int .i64 kk, .bool fault] wr fun e w' => e = .returned (.agg #[.int .i64 (if (completeM S kk fault).1 then 0 else 10), .int .i64 (-1), .int .i64 0, .bool true]) ∧ KWF w w' (Foot F wr w') wb xb (completeM S kk fault).2 rs ∧ Kept F wr w' := by
  refine (keep_complete S rs F wb xb kk fault wr h.at_ h.g h.no0 hn hl).mono ?_
  rintro e w1 ⟨h1, h2, h3⟩
  exact ⟨h1, h.after h2 h3, h3⟩
theorem kw_plainPoll (num : Int) (h : KWF w wr F wb xb S rs) (hw : (Lit.int .i64 num).wf = true) :
    Calls Tryd.prog 13 #[.pointer (some ⟨xb, 0, none⟩), .int .i64 num] wr fun e w' => (∃ ao n cap t, e = .returned (.tuple #[.agg #[.slice ao n cap, .int .i64 t], .agg #[.int .i64 (plainErr S num).1, .int .i64 (plainErr S num).2.1, .int .i64 (plainErr S num).2.2, .bool true]]) ∧ PlainAns wr w' (pollM S num) ao n cap t) ∧ KWF w w' (Foot F wr w') wb xb (pollM S num).2.2.2 rs ∧ Kept F wr w' := by
  refine (keep_plainPoll S rs F wb xb num wr h.at_ h.g h.no0 hw).mono ?_
  rintro e w1 ⟨h1, h2, h3⟩
  exact ⟨h1, h.after h2 h3, h3⟩
theorem kw_poll (S' : St) (s : ByteArray) (tr k e1 e2 e3 : Int) (r r' : KR) (i : Nat) (h : KWF w wr F wb xb S rs) (hi : i < rs.length) (hr : rs[i] = r) (hl : rs.length ≤ 100000) (hw : (Lit.int .i64 r.num).wf = true) (hh : r.how ≠ 1 ∧ r.how ≠ 2) (hp : pollM S r.num = (s, tr, k, S')) (he : plainErr S r.num = (e1, e2, e3)) (ho : PollOut r s tr k r') :
    Calls Tryd.prog 16 #[.pointer (some ⟨wb, 0, none⟩), .int .i64 (i : Int)] wr fun e w' => e = .returned (.bool true) ∧ KWF w w' (Foot F wr w') wb xb S' (rs.set i r') ∧ Kept F wr w' := by
  refine (keep_poll S S' s tr k e1 e2 e3 r r' rs F wb xb i wr h.at_ h.g h.no0 hi hr hl hw hh hp he ho).mono ?_
  rintro e w1 ⟨h1, h2, h3⟩
  exact ⟨h1, h.after h2 h3, h3⟩
theorem kw_disk (h : KWF w wr F wb xb S rs) :
    Calls Tryd.prog 17 #[.pointer (some ⟨xb, 0, none⟩)] wr fun e w' => ∃ ao cap, e = .returned (.slice ao 64 cap) ∧ Row w' (fun b => wr.heap.size ≤ b) 5 1 ao 64 cap (encB S.disk) ∧ KWF w w' F wb xb S rs ∧ Below wr.heap.size wr w' := by
  obtain ⟨Fx, Fk, ar, cr, hP, _⟩ := h.at_
  refine (prog_disk S Fx xb wr hP).mono ?_
  rintro e w1 ⟨ao, cap, h1, h2, h3⟩
  exact ⟨ao, cap, h1, h2, h.below h3, h3⟩
theorem kw_ask (write : Bool) (page : Int) (v : UInt8) (h : KWF w wr F wb xb S rs) (hlast : S.last = rs.length) (hl : rs.length ≤ 100000) (hp : 0 ≤ page ∧ page < 16) (hf : ¬ 40 ≤ (S.reqs.length : Int) - S.told.length) :
    Calls Tryd.prog 10 #[.pointer (some ⟨wb, 0, none⟩), .bool write, .int .i64 page, .int .u8 v.toNat] wr fun e w' => e = .returned (.bool true) ∧ KWF w w' (Foot F wr w') wb xb (askOk S write page (if write then kdata v rs.length else ⟨#[]⟩)) (rs ++ [⟨rs.length + 1, write, page, (if write then kdata v rs.length else ⟨#[]⟩), 0, ⟨#[]⟩⟩]) ∧ Kept F wr w' := by
  cases write with
  | true =>
    refine (keep_ask_w S rs F wb xb page v wr h.at_ h.g h.no0 hlast hl hp hf).mono ?_
    rintro e w1 ⟨h1, h2, h3⟩
    exact ⟨h1, h.after h2 h3, h3⟩
  | false =>
    refine (keep_ask_r S rs F wb xb page v.toNat wr h.at_ h.g h.no0 hlast hl hp hf).mono ?_
    rintro e w1 ⟨h1, h2, h3⟩
    exact ⟨h1, h.after h2 h3, h3⟩
theorem kw_begun (depth : Int) (hg : GCell w) (hc : -9223372036854775808 ≤ depth ∧ depth ≤ 9223372036854775807) :
    Calls Tryd.prog 8 #[.int .i64 depth] w fun e w' => (∃ wb xb, e = .returned (.tuple #[.pointer (some ⟨wb, 0, none⟩), .bool true]) ∧ ∃ F, KWF w w' F wb xb (St.new (1 + kpickM depth 4)) []) := by
  refine (keep_begun depth w hg hc).mono ?_
  rintro e w1 ⟨⟨wb, xb, h1, h2⟩, h3⟩
  have hpos : 0 < w.heap.size := lt_of_cell hg
  refine ⟨wb, xb, h1, _, h2, fun k hk => ?_, h3, hg.below h3, hpos⟩
  rcases hk with e | e
  · exact e.elim
  · exact e.1
end
end Go.Proofs.YtiabdbeejkadnaaDoor

/- The keeps: a queue with nothing under way, its requests of one kind, as a plain model. Own work of the verifier. -/
namespace Go.Proofs.YtiabdbeejkadnaaDoor

/-- requests that wait or are done; nothing under way -/
structure Calm (S : St) (wr : Bool) : Prop where
  wf : Wf S
  dep : S.depth = 1
  fl : S.flights = []
  told : S.told = []
  now : S.now = 0
  rq : ∀ r ∈ S.reqs, r.write = wr ∧ (r.state = 0 ∨ r.state = 2) ∧ r.after = 0 ∧ r.alone = false
  one : wr = true → ∀ x ∈ S.reqs, ∀ r ∈ S.reqs, x.state = 0 → r.state = 0 → x.page = r.page → x.num = r.num
def waitAt (S : St) (q : Int) : List Rq := S.reqs.filter fun r => r.state == 0 && r.page == q
def sumW (S : St) (p : Int) : Nat → Nat
  | 0 => 0
  | k + 1 => sumW S p k + (waitAt S (p + k)).length
section
variable {S : St} {wr : Bool}
theorem mem_waitAt {q : Int} {r : Rq} : r ∈ waitAt S q ↔ r ∈ S.reqs ∧ r.state = 0 ∧ r.page = q := by
  unfold waitAt; rw [List.mem_filter]; simp
theorem waitAt_ne {q : Int} : waitAt S q ≠ [] ↔ ∃ r ∈ S.reqs, r.state = 0 ∧ r.page = q := by
  constructor
  · intro h
    obtain ⟨r, hr⟩ := List.exists_mem_of_ne_nil _ h
    exact ⟨r, mem_waitAt.1 hr⟩
  · rintro ⟨r, h1, h2⟩ e
    have := mem_waitAt.2 ⟨h1, h2⟩
    rw [e] at this; cases this
theorem Calm.air (h : Calm S wr) {r : Rq} (hr : r ∈ S.reqs) : r.inAir = false := by
  have := (h.wf.rq r hr).air
  unfold airs at this
  rw [h.fl] at this
  cases hb : r.inAir with
  | false => rfl
  | true => have := this.1 hb; simp at this
theorem Calm.ready (h : Calm S wr) {r : Rq} (hr : r ∈ S.reqs) : readyB S r = (r.state == 0) := by
  unfold readyB
  obtain ⟨h1, h2, h3, h4⟩ := h.rq r hr
  rcases h2 with h2 | h2
  · have : (S.reqs.any fun x => decide (x.num < r.num) && blocksB r x) = false := by
      rw [List.any_eq_false]
      intro x hx
      obtain ⟨g1, g2, g3, g4⟩ := h.rq x hx
      have ga := h.air hx
      unfold blocksB
      simp only [Bool.and_eq_true, decide_eq_true_eq, beq_iff_eq, Bool.or_eq_true, not_and]
      intro e1 e2 e3
      rw [ga] at e3
      have e4 : x.state = 0 := by simpa using e3
      have hw : wr = true := by
        rw [g1, h1] at e2; simpa using e2.2
      have := h.one hw x hx r hr e4 h2 e2.1
      omega
    rw [this, h2, h3, h.now]; simp
  · rw [h2]; simp
theorem Calm.group (h : Calm S wr) (q : Int) : groupM S q wr = (waitAt S q).map (·.num) := by
  unfold groupM waitAt
  congr 1
  apply List.filter_congr
  intro r hr
  obtain ⟨h1, h2, h3, h4⟩ := h.rq r hr
  rw [h.ready hr, h1, h4]; simp
theorem Calm.first (h : Calm S wr) {q : Int} : (firstM S q).isSome = true ↔ waitAt S q ≠ [] := by
  rw [firstM_isSome, waitAt_ne]
  constructor
  · rintro ⟨r, hr, h1, h2⟩; rw [h.ready hr] at h1; exact ⟨r, hr, by simpa using h1, h2⟩
  · rintro ⟨r, hr, h1, h2⟩; exact ⟨r, hr, by rw [h.ready hr, h1]; rfl, h2⟩
/-- what a command has, so far -/
structure Grown (S : St) (p c : Int) (l : List Int) : Prop where
  c1 : 1 ≤ c ∧ c ≤ 4 ∧ p + c ≤ 16
  all : ∀ q, p ≤ q → q < p + c → waitAt S q ≠ []
  mem : ∀ n, n ∈ l ↔ ∃ r ∈ S.reqs, r.num = n ∧ r.state = 0 ∧ p ≤ r.page ∧ r.page < p + c
  len : l.length = sumW S p c.toNat
theorem Calm.grow (h : Calm S wr) (p : Int) : ∀ (n : Nat) (c : Int) (l : List Int), c + n = 4 → Grown S p c l → Grown S p (growM S p wr n c l).1 (growM S p wr n c l).2 ∧ ((growM S p wr n c l).1 = 4 ∨ p + (growM S p wr n c l).1 = 16 ∨ waitAt S (p + (growM S p wr n c l).1) = []) := by
  intro n
  induction n with
  | zero => intro c l hc hg; exact ⟨hg, Or.inl (by show c = 4; omega)⟩
  | succ n ih =>
    intro c l hc hg
    unfold growM
    obtain ⟨g1, g2, g3⟩ := hg.c1
    split
    · rename_i hlt
      rw [h.group]
      split
      · rename_i he
        exact ⟨hg, Or.inr (Or.inr (by simpa using he))⟩
      · rename_i hne
        refine ih (c + 1) _ (by omega) ⟨by omega, fun q h1 h2 => ?_, fun m => ?_, ?_⟩
        · by_cases e : q = p + c
          · subst e; exact fun e' => hne (by rw [e']; rfl)
          · exact hg.all q h1 (by omega)
        · rw [List.mem_append, hg.mem, List.mem_map]
          constructor
          · rintro (⟨r, h1, h2, h3, h4, h5⟩ | ⟨r, h1, h2⟩)
            · exact ⟨r, h1, h2, h3, h4, by omega⟩
            · obtain ⟨a1, a2, a3⟩ := mem_waitAt.1 h1
              exact ⟨r, a1, h2, a2, by omega, by omega⟩
          · rintro ⟨r, h1, h2, h3, h4, h5⟩
            by_cases e : r.page = p + c
            · exact Or.inr ⟨r, mem_waitAt.2 ⟨h1, h3, e⟩, h2⟩
            · exact Or.inl ⟨r, h1, h2, h3, h4, by omega⟩
        · obtain ⟨k, rfl⟩ := Int.eq_ofNat_of_zero_le (show 0 ≤ c by omega)
          have e1 : ((k : Int) + 1).toNat = k + 1 := by omega
          have e2 := hg.len
          have e3 : (k : Int).toNat = k := by omega
          rw [e3] at e2
          have e4 : (Int.ofNat k) = (k : Int) := rfl
          rw [List.length_append, e2, List.length_map]
          show sumW S p k + (waitAt S (p + (k : Int))).length = sumW S p ((k : Int) + 1).toNat
          rw [e1]; rfl
    · rename_i hlt
      exact ⟨hg, Or.inr (Or.inl (by show p + c = 16; omega))⟩
/-- the next command of a calm queue -/
structure CalmCmd (S : St) (wr : Bool) (c : Cmd) : Prop where
  write : c.write = wr
  page : 0 ≤ c.page ∧ c.page < 16
  near : ∀ r ∈ S.reqs, r.state = 0 → (c.page - S.head) % 16 ≤ (r.page - S.head) % 16
  g : Grown S c.page c.count c.requests
  stop : c.count = 4 ∨ c.page + c.count = 16 ∨ waitAt S (c.page + c.count) = []
theorem Calm.next (h : Calm S wr) : (nextM S = none ∧ ∀ r ∈ S.reqs, r.state = 2) ∨ ∃ c, nextM S = some c ∧ CalmCmd S wr c := by
  have hd : ¬ S.depth ≤ (S.flights.length : Int) := by rw [h.dep, h.fl]; simp
  cases hp : pageM S with
  | none =>
    refine Or.inl ⟨by unfold nextM; rw [if_neg hd, hp]; rfl, fun r hr => ?_⟩
    rcases (h.rq r hr).2.1 with e | e
    · exfalso
      have hw := (h.wf.rq r hr).page
      have hh := h.wf.head
      have := pageGo_none hp ((r.page - S.head) % 16).toNat (by omega) (by omega)
      have e2 : (S.head + (((r.page - S.head) % 16).toNat : Int)) % 16 = r.page := by omega
      rw [e2] at this
      have h3 := h.first.2 (waitAt_ne.2 ⟨r, hr, e, rfl⟩)
      rw [h3] at this; cases this
    · exact e
  | some p =>
    obtain ⟨j, _, hj, hpj, hs, hbe⟩ := pageGo_some hp
    have hw0 := h.first.1 hs
    cases hf : firstM S p with
    | none => rw [hf] at hs; cases hs
    | some k =>
      obtain ⟨hk, k1, k2, _⟩ := firstM_some hf
      have hkm := List.getElem_mem hk
      obtain ⟨r1, r2, r3, r4⟩ := h.rq _ hkm
      have hh := h.wf.head
      have hp16 : 0 ≤ p ∧ p < 16 := by omega
      have hG := h.grow p 3 1 (groupM S p wr) (by omega) ⟨by omega, fun q h1 h2 => by rw [show q = p by omega]; exact hw0, fun n => by
        rw [h.group, List.mem_map]
        constructor
        · rintro ⟨r, h1, h2⟩
          obtain ⟨a1, a2, a3⟩ := mem_waitAt.1 h1
          exact ⟨r, a1, h2, a2, by omega, by omega⟩
        · rintro ⟨r, h1, h2, h3, h4, h5⟩
          exact ⟨r, mem_waitAt.2 ⟨h1, h3, by omega⟩, h2⟩, by
        rw [h.group, List.length_map]
        show _ = 0 + (waitAt S (p + ((0 : Nat) : Int))).length
        simp⟩
      refine Or.inr ⟨⟨wr, p, (growM S p wr 3 1 (groupM S p wr)).1, (growM S p wr 3 1 (groupM S p wr)).2⟩, ?_, rfl, hp16, fun r hr hr0 => ?_, hG.1, hG.2⟩
      · unfold nextM
        rw [if_neg hd, hp, Option.map_some, hf]
        simp only [Option.getD_some, getD_of hk]
        unfold cmdAt
        rw [r4, r1]; simp
      · have hpg := (h.wf.rq r hr).page
        show (p - S.head) % 16 ≤ (r.page - S.head) % 16
        by_cases hlt : ((r.page - S.head) % 16).toNat < j
        · have := hbe _ (by omega) hlt
          have e2 : (S.head + (((r.page - S.head) % 16).toNat : Int)) % 16 = r.page := by omega
          rw [e2] at this
          have h3 := h.first.2 (waitAt_ne.2 ⟨r, hr, hr0, rfl⟩)
          rw [h3] at this; cases this
        · omega
/-! ### its end -/
theorem end_get (l : List Int) : ∀ S : St, S.told = [] → S.reqs.Pairwise (fun a b => a.num < b.num) → (∀ n ∈ l, ∃ r ∈ S.reqs, r.num = n) → (endM S l false).told = [] ∧ ∃ hl : (endM S l false).reqs.length = S.reqs.length, ∀ i (hi : i < S.reqs.length), ((endM S l false).reqs[i]'(by omega)).num = (S.reqs[i]).num ∧ ((endM S l false).reqs[i]'(by omega)).write = (S.reqs[i]).write ∧ ((endM S l false).reqs[i]'(by omega)).page = (S.reqs[i]).page ∧ ((endM S l false).reqs[i]'(by omega)).after = (S.reqs[i]).after ∧ ((endM S l false).reqs[i]'(by omega)).alone = (S.reqs[i]).alone ∧ ((endM S l false).reqs[i]'(by omega)).state = if (S.reqs[i]).num ∈ l ∧ (S.reqs[i]).state = 1 then 2 else (S.reqs[i]).state := by
  induction l with
  | nil => intro S h1 h2 h3; exact ⟨h1, rfl, fun i hi => ⟨rfl, rfl, rfl, rfl, rfl, by simp [endM]⟩⟩
  | cons n l ih =>
    intro S h1 h2 h3
    obtain ⟨x, hx, hxn⟩ := h3 n (by simp)
    obtain ⟨k, hk⟩ := findR_mem hx
    rw [hxn] at hk
    obtain ⟨hkl, hkn⟩ := findR_get hk
    have ht : triedM S n false = { S with reqs := S.reqs.set k (triedR S false S.reqs[k]), disk := diskM S k false } := by
      rw [triedM_not hk (by rw [h1]; rfl), getD_of hkl]
    have hnum : (triedR S false S.reqs[k]).num = (S.reqs[k]).num := rfl
    have hs2 := sorted_setR h2 k (triedR S false S.reqs[k]) hkl hnum
    obtain ⟨a1, a2, a3⟩ := ih (triedM S n false) (by rw [ht]; exact h1) (by rw [ht]; exact hs2) (fun m hm => by
      obtain ⟨y, hy, hyn⟩ := h3 m (by simp [hm])
      obtain ⟨j, hj, rfl⟩ := List.getElem_of_mem hy
      refine ⟨(S.reqs.set k (triedR S false S.reqs[k]))[j]'(by simpa using hj), by rw [ht]; exact List.getElem_mem _, ?_⟩
      rw [List.getElem_set]
      split
      · rename_i e; subst e; exact hyn
      · exact hyn)
    have hl1 : (triedM S n false).reqs.length = S.reqs.length := by rw [ht]; simp
    refine ⟨a1, a2.trans hl1, fun i hi => ?_⟩
    obtain ⟨b1, b2, b3, b4, b5, b6⟩ := a3 i (by omega)
    have hg : (triedM S n false).reqs[i]'(by omega) = if k = i then triedR S false S.reqs[k] else S.reqs[i] := by
      simp only [ht, List.getElem_set]
    by_cases hki : k = i
    · subst hki
      rw [if_pos rfl] at hg
      rw [hg] at b1 b2 b3 b4 b5 b6
      refine ⟨b1, b2, b3, b4.trans (by simp [triedR]), b5.trans (by simp [triedR]), b6.trans ?_⟩
      simp only [triedR, hkn, List.mem_cons, true_or, true_and]
      by_cases h1' : (S.reqs[k]).state = 1
      · simp [h1']
      · simp [h1']
    · rw [if_neg hki] at hg
      rw [hg] at b1 b2 b3 b4 b5 b6
      refine ⟨b1, b2, b3, b4, b5, b6.trans ?_⟩
      have hne : (S.reqs[i]).num ≠ n := fun e => hki (nums_inj h2 hkl hi (by rw [hkn, e]))
      simp [List.mem_cons, hne]
theorem Calm.done (h : Calm S wr) {c : Cmd} (hn : nextM S = some c) (hc : CalmCmd S wr c) :
    ∃ S2, completeM (stepM S).2 0 false = (true, S2) ∧ Calm S2 wr ∧ S2.head = c.page + c.count ∧ S2.last = S.last ∧ S2.reqs.length = S.reqs.length ∧ (∀ q, (waitAt S2 q).length = if c.page ≤ q ∧ q < c.page + c.count then 0 else (waitAt S q).length) ∧ (S2.reqs.filter (fun r => r.state == 0)).length + c.requests.length = (S.reqs.filter (fun r => r.state == 0)).length := by
  have hst : (stepM S).2 = sendM S c := by unfold stepM; rw [hn]
  have hwf1 := h.wf.step
  have hwf2 := hwf1.complete 0 false
  have hnd : c.requests.Nodup := by
    have := hwf1.nodup
    rw [hst] at this
    simpa [airs, sendM, h.fl] using this
  rw [hst] at hwf2
  rw [hst]
  have hcm : completeM (sendM S c) 0 false = (true, endM { sendM S c with flights := [] } c.requests false) := by
    unfold completeM
    rw [if_neg (by simp [sendM, h.fl])]
    simp [sendM, h.fl]
  rw [hcm] at hwf2
  have hml : (markM S.reqs c.requests).length = S.reqs.length := mark_len _ _
  have hmg : ∀ i (hi : i < S.reqs.length), (markM S.reqs c.requests)[i]'(by omega) = if c.requests.contains (S.reqs[i]).num then { S.reqs[i] with state := 1, inAir := true } else S.reqs[i] := fun i hi => by simp [markM]
  have hsame := endM_same c.requests { sendM S c with flights := [] } false
  obtain ⟨t1, t2, t3⟩ := end_get c.requests { sendM S c with flights := [] } h.told (by
    exact (List.pairwise_map (R := (· < ·)) (f := fun r : Rq => r.num)).1 (by show ((markM S.reqs c.requests).map (·.num)).Pairwise (· < ·); rw [mark_nums]; exact List.pairwise_map.2 h.wf.sorted)) (fun n hn' => by
    obtain ⟨r, hr, e, _⟩ := (hc.g.mem n).1 hn'
    obtain ⟨j, hj, rfl⟩ := List.getElem_of_mem hr
    refine ⟨(markM S.reqs c.requests)[j]'(by omega), List.getElem_mem _, ?_⟩
    rw [hmg j hj]
    split <;> exact e)
  have hlen := t2.trans hml
  have hg0 : ∀ i (hi : i < S.reqs.length), ∃ r', (endM { sendM S c with flights := [] } c.requests false).reqs[i]? = some r' ∧ r'.num = (S.reqs[i]).num ∧ r'.write = (S.reqs[i]).write ∧ r'.page = (S.reqs[i]).page ∧ r'.after = (S.reqs[i]).after ∧ r'.alone = (S.reqs[i]).alone ∧ r'.state = if (S.reqs[i]).num ∈ c.requests then 2 else (S.reqs[i]).state := fun i hi => by
    obtain ⟨b1, b2, b3, b4, b5, b6⟩ := t3 i (by show i < (markM S.reqs c.requests).length; omega)
    have hg : ({ sendM S c with flights := [] } : St).reqs[i]'(by show i < (markM S.reqs c.requests).length; omega) = if c.requests.contains (S.reqs[i]).num then { S.reqs[i] with state := 1, inAir := true } else S.reqs[i] := hmg i hi
    rw [hg] at b1 b2 b3 b4 b5 b6
    refine ⟨_, List.getElem?_eq_getElem (by omega), ?_⟩
    by_cases hm : (S.reqs[i]).num ∈ c.requests
    · have hm' : c.requests.contains (S.reqs[i]).num = true := by simpa using hm
      rw [if_pos hm'] at b1 b2 b3 b4 b5 b6
      refine ⟨b1, b2, b3, b4, b5, b6.trans ?_⟩
      rw [if_pos ⟨hm, rfl⟩, if_pos hm]
    · have hm' : ¬ c.requests.contains (S.reqs[i]).num = true := by simpa using hm
      rw [if_neg hm'] at b1 b2 b3 b4 b5 b6
      refine ⟨b1, b2, b3, b4, b5, b6.trans ?_⟩
      rw [if_neg (fun e => hm e.1), if_neg hm]
  clear t3 t2
  generalize hS2 : endM { sendM S c with flights := [] } c.requests false = S2 at *
  have hget : ∀ i (hi : i < S.reqs.length), (S2.reqs[i]'(by omega)).num = (S.reqs[i]).num ∧ (S2.reqs[i]'(by omega)).write = (S.reqs[i]).write ∧ (S2.reqs[i]'(by omega)).page = (S.reqs[i]).page ∧ (S2.reqs[i]'(by omega)).after = (S.reqs[i]).after ∧ (S2.reqs[i]'(by omega)).alone = (S.reqs[i]).alone ∧ (S2.reqs[i]'(by omega)).state = if (S.reqs[i]).num ∈ c.requests then 2 else (S.reqs[i]).state := fun i hi => by
    obtain ⟨r', e, h'⟩ := hg0 i hi
    obtain ⟨_, e'⟩ := List.getElem?_eq_some_iff.1 e
    rw [e']; exact h'
  have hmem : ∀ r' ∈ S2.reqs, ∃ r ∈ S.reqs, r'.num = r.num ∧ r'.write = r.write ∧ r'.page = r.page ∧ r'.after = r.after ∧ r'.alone = r.alone ∧ r'.state = if r.num ∈ c.requests then 2 else r.state := fun r' hr' => by
    obtain ⟨i, hi, rfl⟩ := List.getElem_of_mem hr'
    exact ⟨S.reqs[i]'(by omega), List.getElem_mem _, hget i (by omega)⟩
  have hmap : S2.reqs.map (fun r => (r.page, r.state)) = S.reqs.map (fun r => (r.page, if r.num ∈ c.requests then 2 else r.state)) := by
    apply List.ext_getElem
    · simpa using hlen
    · intro i h1 h2
      simp only [List.getElem_map]
      obtain ⟨_, _, b3, _, _, b6⟩ := hget i (by simpa using h2)
      rw [b3, b6]
  have hcount : ∀ f : Int → Int → Bool, (S2.reqs.filter (fun r => f r.page r.state)).length = (S.reqs.filter (fun r => f r.page (if r.num ∈ c.requests then 2 else r.state))).length := fun f => by
    have e1 : (S2.reqs.filter (fun r => f r.page r.state)).length = ((S2.reqs.map (fun r => (r.page, r.state))).filter (fun k => f k.1 k.2)).length := by
      rw [List.filter_map, List.length_map]; rfl
    rw [e1, hmap, List.filter_map, List.length_map]; rfl
  refine ⟨S2, hcm, ⟨hwf2, ?_, ?_, t1, ?_, fun r' hr' => ?_, fun hwr x' hx' r' hr' h1 h2 h3 => ?_⟩, ?_, ?_, hlen, fun q => ?_, ?_⟩
  · rw [hsame.2.2.1]; exact h.dep
  · rw [hsame.2.2.2.2]
  · rw [hsame.2.1]; exact h.now
  · obtain ⟨r, hr, b1, b2, b3, b4, b5, b6⟩ := hmem r' hr'
    obtain ⟨g1, g2, g3, g4⟩ := h.rq r hr
    refine ⟨b2.trans g1, ?_, b4.trans g3, b5.trans g4⟩
    rw [b6]; split
    · exact Or.inr rfl
    · exact g2
  · obtain ⟨x, hx, a1, a2, a3, a4, a5, a6⟩ := hmem x' hx'
    obtain ⟨r, hr, b1, b2, b3, b4, b5, b6⟩ := hmem r' hr'
    rw [a1, b1]
    refine h.one hwr x hx r hr ?_ ?_ (by rw [← a3, ← b3]; exact h3)
    · rw [a6] at h1; split at h1
      · cases h1
      · exact h1
    · rw [b6] at h2; split at h2
      · cases h2
      · exact h2
  · rw [hsame.2.2.2.1]; rfl
  · rw [hsame.1]; rfl
  · have := hcount (fun pg st => st == 0 && pg == q)
    show (S2.reqs.filter (fun r => r.state == 0 && r.page == q)).length = _
    rw [this]
    by_cases hq : c.page ≤ q ∧ q < c.page + c.count
    · rw [if_pos hq, List.length_eq_zero_iff, List.filter_eq_nil_iff]
      intro r hr
      simp only [Bool.and_eq_true, beq_iff_eq, not_and]
      intro e1 e2
      by_cases hm : r.num ∈ c.requests
      · rw [if_pos hm] at e1; cases e1
      · rw [if_neg hm] at e1
        exact hm ((hc.g.mem _).2 ⟨r, hr, rfl, e1, by omega, by omega⟩)
    · rw [if_neg hq]
      unfold waitAt
      congr 1
      apply List.filter_congr
      intro r hr
      by_cases hm : r.num ∈ c.requests
      · rw [if_pos hm]
        obtain ⟨x, hx, e1, e2, e3, e4⟩ := (hc.g.mem _).1 hm
        have := num_uniq h.wf.sorted hx hr e1
        subst this
        have hne : x.page ≠ q := fun e => hq ⟨by omega, by omega⟩
        simp [hne]
      · rw [if_neg hm]
  · have := hcount (fun pg st => st == 0)
    rw [this]
    have hA : (S.reqs.filter (fun r => r.state == 0 && decide (r.num ∈ c.requests))).length = c.requests.length := by
      have hn2 : ((S.reqs.filter (fun r => r.state == 0 && decide (r.num ∈ c.requests))).map (·.num)).Nodup := by
        have : (S.reqs.map (·.num)).Nodup := by
          rw [List.nodup_iff_pairwise_ne, List.pairwise_map]
          exact h.wf.sorted.imp (fun h => by omega)
        exact this.sublist ((List.filter_sublist).map _)
      apply Nat.le_antisymm
      · have := nodup_len hn2 (m := c.requests) (fun n hn' => by
          obtain ⟨r, hr, rfl⟩ := List.mem_map.1 hn'
          have := (List.mem_filter.1 hr).2
          simp only [Bool.and_eq_true, decide_eq_true_eq] at this
          exact this.2)
        simpa using this
      · have := nodup_len hnd (m := (S.reqs.filter (fun r => r.state == 0 && decide (r.num ∈ c.requests))).map (·.num)) (fun n hn' => by
          obtain ⟨r, hr, e1, e2, _⟩ := (hc.g.mem n).1 hn'
          exact List.mem_map.2 ⟨r, List.mem_filter.2 ⟨hr, by rw [e1]; simp [e2, hn']⟩, e1⟩)
        simpa using this
    rw [← hA]
    have key : ∀ L : List Rq, (L.filter (fun r => (if r.num ∈ c.requests then (2 : Int) else r.state) == 0)).length + (L.filter (fun r => r.state == 0 && decide (r.num ∈ c.requests))).length = (L.filter (fun r => r.state == 0)).length := by
      intro L
      induction L with
      | nil => rfl
      | cons a L ih =>
        simp only [List.filter_cons]
        by_cases hm : a.num ∈ c.requests
        · by_cases h0 : a.state = 0
          · simp [hm, h0]; omega
          · simp [hm, h0]; omega
        · by_cases h0 : a.state = 0
          · simp [hm, h0]; omega
          · simp [hm, h0]; omega
    exact key _
theorem Calm.ask (h : Calm S wr) (page : Int) (data : ByteArray) (hp : 0 ≤ page ∧ page < 16) (hd : wr = true → data.size = 4) (hf : S.reqs.length < 40) (h1 : wr = true → waitAt S page = []) :
    Calm (askOk S wr page data) wr ∧ (∀ q, (waitAt (askOk S wr page data) q).length = (waitAt S q).length + if q = page then 1 else 0) ∧ ((askOk S wr page data).reqs.filter (fun r => r.state == 0)).length = (S.reqs.filter (fun r => r.state == 0)).length + 1 ∧ (askOk S wr page data).reqs.length = S.reqs.length + 1 ∧ (askOk S wr page data).head = S.head ∧ (askOk S wr page data).last = S.last + 1 := by
  have hmem : ∀ r ∈ (askOk S wr page data).reqs, r ∈ S.reqs ∨ r = ⟨S.last + 1, wr, page, data, 0, 0, 0, false, false, ⟨#[]⟩⟩ := fun r hr => by
    rcases List.mem_append.1 hr with e | e
    · exact Or.inl e
    · exact Or.inr (List.mem_singleton.1 e)
  refine ⟨⟨h.wf.ask (by rw [h.told]; simp; omega) wr page data hp hd, h.dep, h.fl, h.told, h.now, fun r hr => ?_, fun hwr x hx r hr e1 e2 e3 => ?_⟩, fun q => ?_, ?_, by simp [askOk], rfl, rfl⟩
  · rcases hmem r hr with e | e
    · exact h.rq r e
    · subst e; exact ⟨rfl, Or.inl rfl, rfl, rfl⟩
  · have hno : ∀ y ∈ S.reqs, y.state = 0 → y.page ≠ page := fun y hy y0 yp => by
      have := mem_waitAt.2 ⟨hy, y0, yp⟩
      rw [h1 hwr] at this; cases this
    rcases hmem x hx with ex | ex <;> rcases hmem r hr with er | er
    · exact h.one hwr x ex r er e1 e2 e3
    · subst er; exact absurd e3 (hno x ex e1)
    · subst ex; exact absurd e3.symm (hno r er e2)
    · rw [ex, er]
  · show ((S.reqs ++ [_]).filter _).length = _
    rw [List.filter_append, List.length_append]
    unfold waitAt
    congr 1
    by_cases e : q = page
    · subst e; simp
    · rw [if_neg e]
      have : ¬ page = q := fun e' => e e'.symm
      simp [this]
  · show ((S.reqs ++ [_]).filter _).length = _
    rw [List.filter_append, List.length_append]
    simp
theorem calm_new (wr : Bool) : Calm (St.new 1) wr := ⟨Wf.new 1 (by omega), rfl, rfl, rfl, rfl, fun r (hr : r ∈ []) => absurd hr (by simp), fun _ x (hx : x ∈ []) => absurd hx (by simp)⟩
end
end Go.Proofs.YtiabdbeejkadnaaDoor
