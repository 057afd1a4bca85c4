import Derived.Test.YtiabdbeejkadnabGreatDoorJ6e5253e741
import Derived.Test.YtiabdbeejkadnabGreatDoorJ4e0f76dad7
import Derived.Shelf.Sort.Plain
import Derived.Test.YtiabdbeejkadnabGreatDoorProg
import Derived.Test.YtiabdbeejkadnabGreatDoorJ242b93d8af
import Derived.Sort.OwnSortedInts
import Derived.Test.YtiabdbeejkadnabGreatDoorJbaef701712
import Derived.Test.YtiabdbeejkadnabGreatDoorJb72f04db65
/- The keeps: Tried, as a plain model; the disk. Own work of the verifier. -/
namespace Go.Proofs.YtiabdbeejkadnabGreatDoor

section
variable {wr : Bool} {p : Int} {d : ByteArray} {a now head : Int}
/-- the request ahead of try i -/
def tR (wr : Bool) (p : Int) (d : ByteArray) (i : Nat) (a : Int) : Rq := ⟨1, wr, p, d, 0, i, a, decide (0 < i), false, ⟨#[]⟩⟩
def zeroD : List UInt8 := List.replicate 64 0
def tS (wr : Bool) (p : Int) (d : ByteArray) (i : Nat) (a now head : Int) : St := oneS (tR wr p d i a) now head zeroD
def tAir (wr : Bool) (p : Int) (d : ByteArray) (i : Nat) (a now : Int) : St := oneF (tR wr p d i a) now zeroD
theorem ask_tS : askOk (St.new 1) wr p d = tS wr p d 0 0 0 0 := rfl
theorem t_step {i : Nat} (h2 : a ≤ now) (hp : 0 ≤ p ∧ p < 16) (hh : 0 ≤ head) : stepM (tS wr p d i a now head) = (some ⟨wr, p, 1, [1]⟩, tAir wr p d i a now) := one_step (r := tR wr p d i a) rfl h2 hp hh
theorem t_next {i : Nat} (h2 : a ≤ now) (hp : 0 ≤ p ∧ p < 16) (hh : 0 ≤ head) : nextM (tS wr p d i a now head) = some ⟨wr, p, 1, [1]⟩ := one_next (S := tS wr p d i a now head) rfl (by show (0 : Int) < 1; decide) rfl rfl h2 hp hh
theorem t_early {i : Nat} (h : now < a) : stepM (tS wr p d i a now head) = (none, tS wr p d i a now head) := one_step_no (r := tR wr p d i a) (fun e => by have := e.2; simp only [tR] at this; omega)
theorem t_none {i : Nat} (h : now < a) : nextM (tS wr p d i a now head) = none := one_none (S := tS wr p d i a now head) rfl (fun e => by have := e.2; simp only [tR] at this; have e2 : (tS wr p d i a now head).now = now := rfl; omega)
theorem one_place (S : St) (r : Rq) (hr : S.reqs = [r]) (ht : S.told = []) : placeM S r.num = 0 := by
  unfold placeM
  rw [ht, hr]
  simp [toldHas, findR, intOr]
theorem t_poll {i : Nat} : pollM (tS wr p d i a now head) 1 = ((⟨#[]⟩ : ByteArray), (i : Int), (6 : Int), tS wr p d i a now head) := by
  have h := one_place (tS wr p d i a now head) (tR wr p d i a) rfl rfl
  replace h : placeM (tS wr p d i a now head) 1 = 0 := h
  unfold pollM
  rw [h]
  rfl
theorem t_tick {i : Nat} : { tS wr p d i a now head with now := now + 1 } = tS wr p d i a (now + 1) head := rfl
theorem t_again {i : Nat} (hi : i < 3) : completeM (tAir wr p d i a now) 0 true = (true, tS wr p d (i + 1) (now + ((2 ^ i : Nat) : Int)) now (p + 1)) := by
  have h3 : i = 0 ∨ i = 1 ∨ i = 2 := by omega
  have := one_done (r := tR wr p d i a) (now := now) (disk := zeroD) true
  refine this.trans ?_
  rcases h3 with rfl | rfl | rfl <;> rfl
/-- what stands behind the last try -/
structure TFin (wr : Bool) (p : Int) (d : ByteArray) (good : Bool) (S : St) : Prop where
  next : nextM S = none
  step : (stepM S).2 = S
  last : S.last = 1
  poll : ∃ s tr k S' r' e1 e2 e3, pollM S 1 = (s, tr, k, S') ∧ plainErr S 1 = (e1, e2, e3) ∧ PollOut ⟨1, wr, p, d, 0, ⟨#[]⟩⟩ s tr k r' ∧ r'.how = (if good then 1 else 2) ∧ r'.data = d ∧ S'.disk.length = 64 ∧ getM S'.disk (4 * p).toNat = (if good && wr then d else ⟨#[0, 0, 0, 0]⟩)
theorem fin_of {S : St} {r : Rq} {good : Bool} {r' : KR} (hr : S.reqs = [r]) (ht : S.told = []) (hn : r.num = 1) (hl : S.last = 1) (ha : r.inAir = false) (hs : (r.state = 2 ∧ PollOut ⟨1, wr, p, d, 0, ⟨#[]⟩⟩ r.answer r.tries 0 r') ∨ (r.state = 3 ∧ PollOut ⟨1, wr, p, d, 0, ⟨#[]⟩⟩ ⟨#[]⟩ r.tries 7 r')) (h1 : r'.how = (if good then 1 else 2)) (h2 : r'.data = d) (h3 : S.disk.length = 64) (h4 : getM S.disk (4 * p).toNat = (if good && wr then d else ⟨#[0, 0, 0, 0]⟩)) : TFin wr p d good S := by
  have hnn : nextM S = none := one_none hr (fun e => by have := e.1; omega)
  have hpl : placeM S 1 = 0 := by rw [← hn]; exact one_place S r hr ht
  have hg : S.reqs.getD 0 Rq.zero = r := by rw [hr]; rfl
  refine ⟨hnn, by unfold stepM; rw [hnn], hl, ?_⟩
  rcases hs with ⟨h, ho⟩ | ⟨h, ho⟩
  · refine ⟨r.answer, r.tries, 0, dropM S 0, r', _, _, _, ?_, rfl, ho, h1, h2, ?_, ?_⟩
    · unfold pollM
      rw [hpl]
      simp only [Int.toNat_zero, hg]
      rw [if_neg (by omega), if_neg (by omega), if_neg (by omega), if_neg (by omega)]
    · unfold dropM; rw [hg, ha]; exact h3
    · unfold dropM; rw [hg, ha]; exact h4
  · refine ⟨⟨#[]⟩, r.tries, 7, dropM S 0, r', _, _, _, ?_, rfl, ho, h1, h2, ?_, ?_⟩
    · unfold pollM
      rw [hpl]
      simp only [Int.toNat_zero, hg]
      rw [if_neg (by omega), if_neg (by omega), if_pos h]
    · unfold dropM; rw [hg, ha]; exact h3
    · unfold dropM; rw [hg, ha]; exact h4
theorem zero_get {p : Int} (hp : 0 ≤ p ∧ p < 16) : getM zeroD (4 * p).toNat = ⟨#[0, 0, 0, 0]⟩ := by
  obtain ⟨n, rfl⟩ := Int.eq_ofNat_of_zero_le hp.1
  have e : (4 * (n : Int)).toNat = 4 * n := by omega
  rw [e]
  have hn : n < 16 := by omega
  have h : ∀ n < 16, getM zeroD (4 * n) = ⟨#[0, 0, 0, 0]⟩ := by decide
  exact h n hn
theorem put_get {p : Int} (hp : 0 ≤ p ∧ p < 16) : getM (putM zeroD (4 * p).toNat [9, 0, 0, 1]) (4 * p).toNat = ⟨#[9, 0, 0, 1]⟩ := by
  obtain ⟨n, rfl⟩ := Int.eq_ofNat_of_zero_le hp.1
  have e : (4 * (n : Int)).toNat = 4 * n := by omega
  rw [e]
  have hn : n < 16 := by omega
  have h : ∀ n < 16, getM (putM zeroD (4 * n) [9, 0, 0, 1]) (4 * n) = ⟨#[9, 0, 0, 1]⟩ := by decide
  exact h n hn
theorem t_fail (hp : 0 ≤ p ∧ p < 16) : ∃ S, completeM (tAir wr p d 3 a now) 0 true = (true, S) ∧ TFin wr p d false S := by
  refine ⟨_, one_done (r := tR wr p d 3 a) (now := now) (disk := zeroD) true, fin_of (r' := ⟨1, wr, p, d, 2, ⟨#[]⟩⟩) rfl rfl rfl rfl rfl (Or.inr ⟨rfl, Or.inr (Or.inl ⟨rfl, rfl, rfl⟩)⟩) rfl rfl rfl (zero_get hp)⟩
theorem t_good {i : Nat} (hi : i ≤ 3) (hp : 0 ≤ p ∧ p < 16) (hd : wr = true → d = ⟨#[9, 0, 0, 1]⟩) : ∃ S, completeM (tAir wr p d i a now) 0 false = (true, S) ∧ TFin wr p d true S := by
  cases wr with
  | true =>
    rw [hd rfl]
    refine ⟨_, one_done (r := tR true p ⟨#[9, 0, 0, 1]⟩ i a) (now := now) (disk := zeroD) false, fin_of (r' := ⟨1, true, p, ⟨#[9, 0, 0, 1]⟩, 1, ⟨#[]⟩⟩) rfl rfl rfl rfl rfl (Or.inl ⟨rfl, Or.inl ⟨rfl, rfl, ?_, ?_, rfl⟩⟩) rfl rfl (putM_len _ _ _) (put_get hp)⟩
    · show (1 : Int) ≤ i + 1; omega
    · show (i : Int) + 1 ≤ 4; omega
  | false =>
    refine ⟨_, one_done (r := tR false p d i a) (now := now) (disk := zeroD) false, fin_of (r' := ⟨1, false, p, d, 1, getM zeroD (4 * p).toNat⟩) rfl rfl rfl rfl rfl (Or.inl ⟨rfl, Or.inl ⟨rfl, ?_, ?_, ?_, rfl⟩⟩) rfl rfl rfl (zero_get hp)⟩
    · show false = decide ((getM zeroD (4 * p).toNat).size = 0); rw [zero_get hp]; rfl
    · show (1 : Int) ≤ i + 1; omega
    · show (i : Int) + 1 ≤ 4; omega
end
end Go.Proofs.YtiabdbeejkadnabGreatDoor

/- The keeps: the world of a keep and the law's own; the calls. Own work of the verifier. -/
namespace Go.Proofs.YtiabdbeejkadnabGreatDoor
open Go.RowKit Go.Maps

/-- a keep's world at wr; all of it lies above what w has -/
structure KWF (w wr : World) (F : Nat → Prop) (wb xb : Nat) (S : St) (rs : List KR) : Prop where
  at_ : KAt wr F wb xb S rs
  fr : ∀ k, F k → w.heap.size ≤ k
  bel : Below w.heap.size w wr
  g : GCell wr
  pos : 0 < w.heap.size
section
variable {w wr w' : World} {F : Nat → Prop} {wb xb : Nat} {S S' : St} {rs rs' : List KR}
theorem KWF.no0 (h : KWF w wr F wb xb S rs) : ¬ F 0 := fun e => by have := h.fr 0 e; have := h.pos; omega
theorem KWF.below (h : KWF w wr F wb xb S rs) (hb : Below wr.heap.size wr w') : KWF w w' F wb xb S rs :=
  ⟨h.at_.below hb, h.fr, h.bel.trans (hb.mono h.bel.size), h.g.below hb, h.pos⟩
theorem KWF.alloc (h : KWF w wr F wb xb S rs) (o : Obj) : KWF w (wr.alloc o) F wb xb S rs := h.below (alloc_below _ _)
theorem KWF.after (h : KWF w wr F wb xb S rs) (hA : KAt w' (Foot F wr w') wb xb S' rs') (hK : Kept F wr w') : KWF w w' (Foot F wr w') wb xb S' rs' := by
  have hb : Below w.heap.size wr w' := hK.toBelow h.fr h.bel.size
  refine ⟨hA, fun k hk => ?_, h.bel.trans hb, h.g.kept hK h.no0, h.pos⟩
  rcases hk with e | e
  · exact h.fr k e
  · have := h.bel.size; omega
theorem KWF.q (h : KWF w wr F wb xb S rs) : wr.cell? ⟨wb, 0, none⟩ = some (.pointer (some ⟨xb, 0, none⟩)) ∧ wb < wr.heap.size := h.at_.q0
theorem KWF.new (h : KWF w wr F wb xb S rs) (k : Nat) (hk : wr.heap.size ≤ k) : ¬ F k := fun e => by have := h.at_.lt k e; omega
end
section
variable (w wr : World) (F : Nat → Prop) (wb xb : Nat) (S : St) (rs : List KR)
theorem kw_step (h : KWF w wr F wb xb S rs) (hl : S.last ≤ 1000000) :
    Calls Tryz.prog 12 #[.pointer (some ⟨xb, 0, none⟩)] wr fun e w' => (∃ ao cap, e = .returned (.tuple #[.agg #[.bool ((nextM S).getD cmdZ).write, .int .i64 ((nextM S).getD cmdZ).page, .int .i64 ((nextM S).getD cmdZ).count, .slice ao ((nextM S).getD cmdZ).requests.length cap], .bool (nextM S).isSome])) ∧ KWF w w' (Foot F wr w') wb xb (stepM S).2 rs ∧ Kept F wr w' := by
  refine (keep_step S rs F wb xb wr h.at_ hl).mono ?_
  rintro e w1 ⟨h1, h2, h3⟩
  exact ⟨h1, h.after h2 h3, h3⟩
theorem kw_tick (h : KWF w wr F wb xb S rs) (hn : S.now ≤ 1000000000) :
    Calls Tryz.prog 33 #[.pointer (some ⟨xb, 0, none⟩)] wr fun e w' => e = .returned (.tuple #[]) ∧ KWF w w' (Foot F wr w') wb xb { S with now := S.now + 1 } rs ∧ Kept F wr w' := by
  refine (keep_tick S rs F wb xb wr h.at_ hn).mono ?_
  rintro e w1 ⟨h1, h2, h3⟩
  exact ⟨h1, h.after h2 h3, h3⟩
theorem kw_complete (kk : Int) (fault : Bool) (h : KWF w wr F wb xb S rs) (hn : S.now ≤ 1000000000) (hl : S.last ≤ 1000000) :
    Calls Tryz.prog 13 #[.pointer (some ⟨xb, 0, none⟩), .int .i64 kk, .bool fault] wr fun e w' => e = .returned (.agg #[.int .i64 (if (completeM S kk fault).1 then 0 else 10), .int .i64 (-1), .int .i64 0, .bool true]) ∧ KWF w w' (Foot F wr w') wb xb (completeM S kk fault).2 rs ∧ Kept F wr w' := by
  refine (keep_complete S rs F wb xb kk fault wr h.at_ h.g h.no0 hn hl).mono ?_
  rintro e w1 ⟨h1, h2, h3⟩
  exact ⟨h1, h.after h2 h3, h3⟩
theorem kw_plainPoll (num : Int) (h : KWF w wr F wb xb S rs) (hw : (Lit.int .i64 num).wf = true) :
    Calls Tryz.prog 10 #[.pointer (some ⟨xb, 0, none⟩), .int .i64 num] wr fun e w' => (∃ ao n cap t, e = .returned (.tuple #[.agg #[.slice ao n cap, .int .i64 t], .agg #[.int .i64 (plainErr S num).1, .int .i64 (plainErr S num).2.1, .int .i64 (plainErr S num).2.2, .bool true]]) ∧ PlainAns wr w' (pollM S num) ao n cap t) ∧ KWF w w' (Foot F wr w') wb xb (pollM S num).2.2.2 rs ∧ Kept F wr w' := by
  refine (keep_plainPoll S rs F wb xb num wr h.at_ h.g h.no0 hw).mono ?_
  rintro e w1 ⟨h1, h2, h3⟩
  exact ⟨h1, h.after h2 h3, h3⟩
theorem kw_poll (S' : St) (s : ByteArray) (tr k e1 e2 e3 : Int) (r r' : KR) (i : Nat) (h : KWF w wr F wb xb S rs) (hi : i < rs.length) (hr : rs[i] = r) (hl : rs.length ≤ 100000) (hw : (Lit.int .i64 r.num).wf = true) (hh : r.how ≠ 1 ∧ r.how ≠ 2) (hp : pollM S r.num = (s, tr, k, S')) (he : plainErr S r.num = (e1, e2, e3)) (ho : PollOut r s tr k r') :
    Calls Tryz.prog 19 #[.pointer (some ⟨wb, 0, none⟩), .int .i64 (i : Int)] wr fun e w' => e = .returned (.bool true) ∧ KWF w w' (Foot F wr w') wb xb S' (rs.set i r') ∧ Kept F wr w' := by
  refine (keep_poll S S' s tr k e1 e2 e3 r r' rs F wb xb i wr h.at_ h.g h.no0 hi hr hl hw hh hp he ho).mono ?_
  rintro e w1 ⟨h1, h2, h3⟩
  exact ⟨h1, h.after h2 h3, h3⟩
theorem kw_disk (h : KWF w wr F wb xb S rs) :
    Calls Tryz.prog 18 #[.pointer (some ⟨xb, 0, none⟩)] wr fun e w' => ∃ ao cap, e = .returned (.slice ao 64 cap) ∧ Row w' (fun b => wr.heap.size ≤ b) 5 1 ao 64 cap (encB S.disk) ∧ KWF w w' F wb xb S rs ∧ Below wr.heap.size wr w' := by
  obtain ⟨Fx, Fk, ar, cr, hP, _⟩ := h.at_
  refine (prog_disk S Fx xb wr hP).mono ?_
  rintro e w1 ⟨ao, cap, h1, h2, h3⟩
  exact ⟨ao, cap, h1, h2, h.below h3, h3⟩
theorem kw_ask (write : Bool) (page : Int) (v : UInt8) (h : KWF w wr F wb xb S rs) (hlast : S.last = rs.length) (hl : rs.length ≤ 100000) (hp : 0 ≤ page ∧ page < 16) (hf : ¬ 40 ≤ (S.reqs.length : Int) - S.told.length) :
    Calls Tryz.prog 8 #[.pointer (some ⟨wb, 0, none⟩), .bool write, .int .i64 page, .int .u8 v.toNat] wr fun e w' => e = .returned (.bool true) ∧ KWF w w' (Foot F wr w') wb xb (askOk S write page (if write then kdata v rs.length else ⟨#[]⟩)) (rs ++ [⟨rs.length + 1, write, page, (if write then kdata v rs.length else ⟨#[]⟩), 0, ⟨#[]⟩⟩]) ∧ Kept F wr w' := by
  cases write with
  | true =>
    refine (keep_ask_w S rs F wb xb page v wr h.at_ h.g h.no0 hlast hl hp hf).mono ?_
    rintro e w1 ⟨h1, h2, h3⟩
    exact ⟨h1, h.after h2 h3, h3⟩
  | false =>
    refine (keep_ask_r S rs F wb xb page v.toNat wr h.at_ h.g h.no0 hlast hl hp hf).mono ?_
    rintro e w1 ⟨h1, h2, h3⟩
    exact ⟨h1, h.after h2 h3, h3⟩
theorem kw_begun (depth : Int) (hg : GCell w) (hc : -9223372036854775808 ≤ depth ∧ depth ≤ 9223372036854775807) :
    Calls Tryz.prog 6 #[.int .i64 depth] w fun e w' => (∃ wb xb, e = .returned (.tuple #[.pointer (some ⟨wb, 0, none⟩), .bool true]) ∧ ∃ F, KWF w w' F wb xb (St.new (1 + kpickM depth 4)) []) := by
  refine (keep_begun depth w hg hc).mono ?_
  rintro e w1 ⟨⟨wb, xb, h1, h2⟩, h3⟩
  have hpos : 0 < w.heap.size := lt_of_cell hg
  refine ⟨wb, xb, h1, _, h2, fun k hk => ?_, h3, hg.below h3, hpos⟩
  rcases hk with e | e
  · exact e.elim
  · exact e.1
end
end Go.Proofs.YtiabdbeejkadnabGreatDoor

/- The sort's contracts at this dump (made by the kit's lay-plain.mjs, its numbers turned into names by the verifier). -/
namespace Go.Proofs
open Go.Shelf
def Tryz.lays189_ren : Go.Shelf.Ren := ⟨fun | 189 => 32 | 125 => 56 | 257 => 55 | 128 => 82 | 129 => 83 | 294 => 73 | 295 => 74 | 296 => 75 | 297 => 76 | 298 => 77 | 299 => 78 | 216 => 79 | 300 => 80 | 301 => 81 | 328 => 94 | 329 => 95 | 330 => 96 | 331 => 97 | 332 => 98 | 215 => 99 | 343 => 105 | n => n, fun | 28 => 43 | 3 => 3 | 46 => 118 | 0 => 0 | 51 => 148 | 53 => 150 | 4 => 4 | 183 => 140 | 182 => 139 | 131 => 145 | 5 => 5 | 9 => 9 | 218 => 178 | 222 => 182 | 228 => 191 | 229 => 192 | n => n, fun | n => n⟩
theorem Tryz.lays189 : Go.Proofs.Lays.n189 Tryz.prog Tryz.lays189_ren := {
  mixed := by kernel_rfl
  f125 := Tryz.func56.trans (congrArg some (by kernel_rfl))
  f128 := Tryz.func82.trans (congrArg some (by kernel_rfl))
  f129 := Tryz.func83.trans (congrArg some (by kernel_rfl))
  f189 := Tryz.func32.trans (congrArg some (by kernel_rfl))
  f215 := Tryz.func99.trans (congrArg some (by kernel_rfl))
  f216 := Tryz.func79.trans (congrArg some (by kernel_rfl))
  f257 := Tryz.func55.trans (congrArg some (by kernel_rfl))
  f294 := Tryz.func73.trans (congrArg some (by kernel_rfl))
  f295 := Tryz.func74.trans (congrArg some (by kernel_rfl))
  f296 := Tryz.func75.trans (congrArg some (by kernel_rfl))
  f297 := Tryz.func76.trans (congrArg some (by kernel_rfl))
  f298 := Tryz.func77.trans (congrArg some (by kernel_rfl))
  f299 := Tryz.func78.trans (congrArg some (by kernel_rfl))
  f300 := Tryz.func80.trans (congrArg some (by kernel_rfl))
  f301 := Tryz.func81.trans (congrArg some (by kernel_rfl))
  f328 := Tryz.func94.trans (congrArg some (by kernel_rfl))
  f329 := Tryz.func95.trans (congrArg some (by kernel_rfl))
  f330 := Tryz.func96.trans (congrArg some (by kernel_rfl))
  f331 := Tryz.func97.trans (congrArg some (by kernel_rfl))
  f332 := Tryz.func98.trans (congrArg some (by kernel_rfl))
  f343 := Tryz.func105.trans (congrArg some (by kernel_rfl))
  t0 := Tryz.underlying0
  a0 := Tryz.isAgg0
  z0 := Tryz.sizeOf0
  v0 := Tryz.zeroValue0
  t3 := Tryz.underlying3
  a3 := Tryz.isAgg3
  z3 := Tryz.sizeOf3
  v3 := Tryz.zeroValue3
  t4 := Tryz.underlying4
  a4 := Tryz.isAgg4
  z4 := Tryz.sizeOf4
  v4 := Tryz.zeroValue4
  t5 := Tryz.underlying5
  a5 := Tryz.isAgg5
  z5 := Tryz.sizeOf5
  v5 := Tryz.zeroValue5
  t9 := Tryz.underlying9
  a9 := Tryz.isAgg9
  z9 := Tryz.sizeOf9
  v9 := Tryz.zeroValue9
  t28 := Tryz.underlying43
  a28 := Tryz.isAgg43
  z28 := Tryz.sizeOf43
  v28 := Tryz.zeroValue43
  t46 := Tryz.underlying118
  a46 := Tryz.isAgg118
  z46 := Tryz.sizeOf118
  v46 := Tryz.zeroValue118
  t51 := Tryz.underlying148
  a51 := Tryz.isAgg148
  z51 := Tryz.sizeOf148
  v51 := Tryz.zeroValue148
  t53 := Tryz.underlying150
  a53 := Tryz.isAgg150
  z53 := Tryz.sizeOf150
  v53 := Tryz.zeroValue150
  t131 := Tryz.underlying145
  a131 := Tryz.isAgg145
  z131 := Tryz.sizeOf145
  v131 := Tryz.zeroValue145
  t182 := Tryz.underlying139
  a182 := Tryz.isAgg139
  z182 := Tryz.sizeOf139
  v182 := Tryz.zeroValue139
  t183 := Tryz.underlying140
  a183 := Tryz.isAgg140
  z183 := Tryz.sizeOf140
  v183 := Tryz.zeroValue140
  t218 := Tryz.underlying178
  a218 := Tryz.isAgg178
  z218 := Tryz.sizeOf178
  v218 := Tryz.zeroValue178
  t222 := Tryz.underlying182
  a222 := Tryz.isAgg182
  z222 := Tryz.sizeOf182
  v222 := Tryz.zeroValue182
  t228 := Tryz.underlying191
  a228 := Tryz.isAgg191
  z228 := Tryz.sizeOf191
  v228 := Tryz.zeroValue191
  t229 := Tryz.underlying192
  a229 := Tryz.isAgg192
  z229 := Tryz.sizeOf192
  v229 := Tryz.zeroValue192 }
end Go.Proofs

/- The program's queue: Waiting (a range over the map, slices.Sort). Own work of the verifier. -/
namespace Go.Proofs.YtiabdbeejkadnabGreatDoor
open Go.RowKit Go.Maps Go.Sort Go.Shelf

/-! ### slices.Sort of nil -/
theorem ins_nil (w : World) : Calls Tryz.prog 73 #[.slice none 0 0, .int .i64 0, .int .i64 0] w fun e w' => e = .returned (.tuple #[]) ∧ w' = w := by
  go_enter Tryz.func73, Tryz.ntmps73
  go_wp2
  refine wp_loop_rounds 1 ?_
  rw [rounds_succ]
  go_wp2
  go_end0
  exact ⟨rfl, rfl⟩
theorem pdq_nil (l : Int) (w : World) : Calls Tryz.prog 55 #[.slice none 0 0, .int .i64 0, .int .i64 0, .int .i64 l] w fun e w' => e = .returned (.tuple #[]) ∧ w' = w := by
  go_enter Tryz.func55, Tryz.ntmps55
  go_wp2
  refine wp_loop_rounds 1 ?_
  rw [rounds_succ]
  go_wp2_with (go_at_call 73; refine (ins_nil _).mono ?_; rintro e w' ⟨rfl, rfl⟩)
  (try simp only [Exit.inBlock, Exit.then]); refine bodyPost_ret (results_none rfl _ _ _) rfl ?_
  exact ⟨rfl, rfl⟩
theorem sort_nil (w : World) : Calls Tryz.prog 32 #[.slice none 0 0] w fun e w' => e = .returned (.tuple #[]) ∧ w' = w := by
  go_enter Tryz.func32, Tryz.ntmps32
  go_wp2_with (first | (go_at_call 56; refine (len_nil _).mono ?_; rintro e w' ⟨rfl, rfl⟩) | (go_at_call 55; refine (pdq_nil _ _).mono ?_; rintro e w' ⟨rfl, rfl⟩))
  go_end0
  exact ⟨rfl, rfl⟩

theorem after_sort {w w1 : World} {g cap n : Nat} {os : Array Obj} {ks ts : List Int} (hb : Below w.heap.size w w1) (hrow : Row w1 (fun b => w.heap.size ≤ b) 3 1 (some ⟨g, 0, none⟩) ks.length cap (encI ks)) (hl : ts.length = ks.length) :
    Row (grow (putRow (Value.int .i64) (Sort.ahead w1 n) g 0 ts.toArray) os) (fun b => w.heap.size ≤ b) 3 1 (some ⟨g, 0, none⟩) ks.length cap (encI ts) ∧ Below w.heap.size w (grow (putRow (Value.int .i64) (Sort.ahead w1 n) g 0 ts.toArray) os) := by
  have hge := hrow.2 _ rfl
  rcases hrow.1.2 with ⟨h0, _⟩ | ⟨g', cap', cur, hv, hg, hh, h1, h2, h3, h4⟩
  · cases h0
  cases hv
  exact ⟨⟨ownsRow_sortedI hl (Nat.zero_le _) hh h1 h2 h3, fun a ha => by cases ha; exact hge⟩, hb.grown (grownBy_sortedI _) hb.size (fun k hk => by cases hk; exact hge)⟩
theorem holds_row {w1 : World} {F : Nat → Prop} {g cap : Nat} {ks : List Int} (hrow : Row w1 F 3 1 (some ⟨g, 0, none⟩) ks.length cap (encI ks)) : Holds (Value.int .i64) w1 g 0 ks.toArray ∧ g < w1.heap.size := by
  rcases hrow.1.2 with ⟨h0, _⟩ | ⟨g', cap', cur, hv, hg, hh, h1, h2, h3, h4⟩
  · cases h0
  cases hv
  exact ⟨holds_of_blockI hh (by rw [Nat.mul_one] at h4; exact h4), lt_of_heap hh⟩

set_option maxHeartbeats 1000000 in
set_option maxRecDepth 1000000 in
theorem prog_waiting (S : St) (F : Nat → Prop) (xb : Nat) (w : World) (h : ProgAt w F xb S) :
    Calls Tryz.prog 14 #[.pointer (some ⟨xb, 0, none⟩)] w fun e w' => ∃ ao n cap, e = .returned (.slice ao n cap) ∧ n = (waitM S).length ∧ Row w' (fun b => w.heap.size ≤ b) 3 1 ao n cap (encI (waitM S)) ∧ Below w.heap.size w w' := by
  obtain ⟨bm, D, eb, c, af, cf, vs, h⟩ := h
  obtain ⟨i0, hi, hi0, hi1, hi2⟩ := info_parts info_int
  have d3 := h.cell 3 _ h.q.c3
  have HQ : Hid (ProgBlk w F xb S [] bm D eb c af cf vs) := h
  have hbm : Hid (bm < w.heap.size) := h.ltF _ h.ownM
  clear h
  go_enter Tryz.func14, Tryz.ntmps14
  go_wp2_with fail
  refine (orEmpty_some _ _).mono ?_
  rintro e w1 ⟨rfl, hw1⟩
  have hw1 := hw1.symm
  subst hw1
  go_wp2_with (first | (at_range; refine wpList_range_own _ rfl _ 82 rfl 3 75 keyLaw Tryz.underlying82 _ bm _ D rfl HQ.out.m.map ?_; intro w0 hrg0 hg0 hs0) | go_in)
  go_frame
  go_loopw [3] (fun l wr => ∃ (left : Lit → Bool) (cnt n cap : Nat) (ks : List Int) (ao : Option Addr), Hid (wr.ranges Tryz.prog 3 ptrR bm w.heap.size S.last.toNat D left cnt) ∧ l = .slice ao n cap ∧ Hid (n + cnt ≤ 40) ∧ Hid (n = ks.length) ∧ Hid (WaitInv S.reqs S.told left ks) ∧ Hid (Row wr (fun b => w.heap.size ≤ b) 3 1 ao n cap (encI ks)) ∧ Hid (Below w.heap.size w wr)) (fun _ wr => wr.rangeLeft bm w.heap.size)
  case atStart =>
    refine ⟨_, _, 0, 0, [], none, hrg0, rfl, by have := HQ.out.wf.len; have := HQ.out.m.msize; show 0 + Maps.size D ≤ 40; omega, rfl, ⟨List.Pairwise.nil, fun n => ?_, fun n hn => ?_⟩, Row.nil _ _ _ _, (Below.refl _ _).grown hg0 (Nat.le_refl _) (fun k hk => by cases hk)⟩
    · simp only [List.not_mem_nil, false_iff]
      rintro ⟨h1, r, hr, e1, e2⟩
      rw [HQ.out.m.has] at h1
      unfold heldB at h1
      have ht : toldHas S.told n = false := by
        cases hx : toldHas S.told n with
        | false => rfl
        | true =>
          have := ((HQ.out.wf.rq r hr).told (by rw [e1]; simpa [toldHas] using hx)).2
          omega
      rw [ht, findR_isSome] at h1
      have : S.reqs.any (fun r => r.num == n) = true := List.any_eq_true.2 ⟨r, hr, by simp [e1]⟩
      rw [this] at h1; cases h1
    · rw [HQ.out.m.has] at hn
      unfold heldB at hn
      rw [findR_isSome] at hn
      simp only [Bool.and_eq_true, Bool.not_eq_true'] at hn
      obtain ⟨r, hr, e1⟩ := List.any_eq_true.1 hn.1
      exact ⟨r, hr, by simpa using e1, hn.2⟩
  case round =>
    obtain ⟨left, cnt, n, cap, ks, ao, hrg, rfl, hnl, hn, hi', hrow, hb⟩ := hrel
    go_wp2_with (first | (at_next; refine wpList_next_mine _ rfl _ rfl bm w.heap.size _ D left cnt eb rfl hrg.out ?_ ?_ ?_) | go_in)
    · intro x hx
      obtain ⟨r, hr, rfl, ht⟩ := hi'.out.left x hx
      exact HQ.out.m.at_ r hr ht
    · intro _ hl
      have HF := hide (hi'.out.fin HQ.out.wf.sorted hl)
      cases ao with
      | none =>
        have hrow0 := hrow.out.1.2
        have hnc : n = 0 ∧ cap = 0 := by
          rcases hrow0 with ⟨h0, _⟩ | ⟨g', cap', cur, hv, _⟩
          · cases h0; exact ⟨rfl, rfl⟩
          · cases hv
        obtain ⟨rfl, rfl⟩ := hnc
        clear hrow0
        go_wp2_with (go_at_call 32; refine (sort_nil _).mono ?_; rintro e w2 ⟨rfl, hw2⟩; have hw2 := hw2.symm; subst hw2)
        go_ret
        refine ⟨none, 0, 0, rfl, hn.out.trans HF.out.1, ?_, hb.out⟩
        have e1 : (waitM S) = [] := List.eq_nil_of_length_eq_zero (HF.out.1.symm.trans hn.out.symm)
        rw [e1]
        exact Row.nil _ _ _ _
      | some a0 =>
        obtain ⟨g, rfl⟩ : ∃ g, a0 = ⟨g, 0, none⟩ := by
          rcases hrow.out.1.2 with ⟨h0, _⟩ | ⟨g', cap', cur, hv, _⟩
          · cases h0
          · cases hv; exact ⟨g', rfl⟩
        have hn' : n = ks.length := hn.out
        subst hn'
        have HH := hide (holds_row hrow.out)
        have HS : Hid (Calls Tryz.prog 32 #[.slice (some ⟨g, 0, none⟩) ks.length cap] wr fun e w' =>
          e = .returned (.tuple #[]) ∧ ∃ n os, w' = grow (putRow (Value.int .i64) (Sort.ahead wr n) g 0 (ks.mergeSort fun x y => decide (x ≤ y)).toArray) os) :=
          Any.slices_Sort_int Tryz.lays189 g 0 cap ks wr HH.out.1 HH.out.2 (by have := hnl.out; omega)
        go_wp2_with (go_at_call 32; refine HS.out.mono ?_; rintro e w2 ⟨rfl, n2, os, hw2⟩; have HW := hide hw2; clear hw2)
        go_ret
        have HA := after_sort (n := n2) (os := os) hb.out hrow.out (ts := ks.mergeSort fun x y => decide (x ≤ y)) (List.length_mergeSort ks)
        rw [← HW.out, HF.out.2] at HA
        exact ⟨_, _, _, rfl, HF.out.1, HA.1, HA.2⟩
    · intro x w1 cnt1 hlx hrg1 hlt hg1 hs1 hen
      obtain ⟨r, hr, rfl, _⟩ := hi'.out.left x hlx
      obtain ⟨ds, _, hent⟩ := HQ.out.e.ent r hr
      have HB1 := hide (hb.out.grown hg1 hb.out.size (fun k hk => by cases hk; exact Nat.le_refl _))
      have helt : eb r.num < w.heap.size := HQ.out.ltF _ (HQ.out.e.entF r hr)
      have hent1 : w1.heap[eb r.num]? = _ := (HB1.out.block _ helt).trans hent
      have q8 : w1.cell? ⟨eb r.num, 9, none⟩ = some (.int .i64 r.state) := by simp [World.cell?, hent1, entC]
      have HQ8 := hide q8
      have hrow1 : Hid (Row w1 (fun b => w.heap.size ≤ b) 3 1 ao n cap (encI ks)) := by
        refine hrow.out.same fun a ha => ?_
        obtain ⟨cur, hh, _⟩ := Row.block hrow.out ha
        refine hg1.block _ (lt_of_heap hh) ?_
        intro e
        obtain ⟨es, ck, si, se, c0, _, _, _, _, hr0, _⟩ := hrg.out
        have e' : a.block = w.heap.size := Option.some.inj e
        rw [← e', hh] at hr0
        cases hr0
      have HP := hide HQ.out.wf.sorted
      have HLT := hide hlt
      have HRG := hide hrg1
      have HLX := hide hlx
      have HL : Hid (wr.rangeLeft bm w.heap.size = cnt) := hrg.out.left_eq
      clear hrg hg1 hs1 hent hent1 hrg1 hlt hlx hrow hb q8
      by_cases hs : r.state = 0
      · have b1 : (r.state == 0) = true := beq_iff_eq.2 hs
        have HI := hide (hi'.out.yes hr HLX.out hs)
        have hc : Hid (n ≤ 40) := by show n ≤ 40; have := hnl.out; omega
        clear hs
        have hq8 := HQ8.out
        clear HQ8
        have HO : Hid ((w1.alloc (.cells #[.int .i64 r.num] 3)).ownsRow 0 3 1 (.slice ao n cap) n (encI ks)) := (hrow1.out.alloc _).1
        have HW : Hid (∀ (t : Nat) (u : Value), [Value.int .i64 r.num][t]? = some u → (w1.alloc (.cells #[.int .i64 r.num] 3)).cell? ((⟨w1.heap.size, 0, none⟩ : Addr).add t) = some u) := fun t u => news_new t u
        go_wp2_with (at_builtin; go_must (refine wpList_append_lies _ rfl (.tmp 22) (.tmp 24) 43 rfl 0 3 i0 (.int .i64 0) 1 8 Tryz.underlying43 hi hi0 hi1 hi2 rfl (by decide) (.slice ao n cap) n (encI ks) rfl HO.out ⟨w1.heap.size, 0, none⟩ 1 1 [Value.int .i64 r.num] rfl rfl HW.out (by intro u hu; simp at hu; subst hu; rfl) (by decide) (by unfold maxLen; have := hc.out; omega) (by have := hc.out; omega) (Nat.zero_le _) (w1.heap.size + 1) (by simp) ?_; intro g cap' w2 hown hgrow hat hlt3; have HX := hide (own_rel HB1.out hrow1.out hgrow hown hat); have HG := hide ((HRG.out.alloc _).kept hgrow (ne_own hrow1.out hbm.out) (row_ne_iter hrow1.out.1 HRG.out)); clear hown hgrow hat hlt3))
        go_roundw
        case rel => exact ⟨_, cnt1, n + 1, cap', ks ++ [r.num], some ⟨g, 0, none⟩, HG, rfl, by show n + 1 + cnt1 ≤ 40; have := hnl.out; have := HLT.out; omega, by show n + 1 = _; rw [List.length_append, hn.out]; rfl, HI, by simpa [Hid, encI] using HX.out.2, HX.out.1⟩
        case measure => rw [HG.out.left_eq, HL.out]; exact HLT.out
      · have b1 : (r.state == 0) = false := beq_eq_false_iff_ne.2 hs
        have HI := hide (hi'.out.no HP.out hr hs)
        have hq8 := HQ8.out
        clear hs HQ8
        go_wp2
        go_roundw
        case rel => exact ⟨_, cnt1, n, cap, ks, ao, HRG, rfl, by show n + cnt1 ≤ 40; have := hnl.out; have := HLT.out; omega, hn, HI, hrow1, HB1⟩
        case measure => rw [HRG.out.left_eq, HL.out]; exact HLT.out
end Go.Proofs.YtiabdbeejkadnabGreatDoor

/- The keeps: Flights, Waiting. Own work of the verifier. -/
namespace Go.Proofs.YtiabdbeejkadnabGreatDoor
open Go.RowKit Go.Maps

section
variable {w W : World} {F : Nat → Prop} {wb xb : Nat} {S : St} {rs : List KR}
theorem kw_flights (h : KWF w W F wb xb S rs) (hl : S.last ≤ 1000000) :
    Calls Tryz.prog 17 #[.pointer (some ⟨xb, 0, none⟩)] W fun e w' => (∃ ao cap vs, e = .returned (.slice ao S.flights.length cap) ∧ FlOut W.heap.size w' S.flights ao S.flights.length cap vs) ∧ KWF w w' F wb xb S rs := by
  refine (keep_flights S rs F wb xb W h.at_ hl).mono ?_
  rintro e w1 ⟨⟨ao, n, cap, vs, h1, h2⟩, h3⟩
  have hc := h2.cnt
  subst hc
  exact ⟨⟨ao, cap, vs, h1, h2⟩, h.below h3⟩
theorem kw_waiting (h : KWF w W F wb xb S rs) :
    Calls Tryz.prog 14 #[.pointer (some ⟨xb, 0, none⟩)] W fun e w' => (∃ ao cap, e = .returned (.slice ao (waitM S).length cap) ∧ Row w' (fun b => W.heap.size ≤ b) 3 1 ao (waitM S).length cap (encI (waitM S))) ∧ KWF w w' F wb xb S rs ∧ Below W.heap.size W w' := by
  obtain ⟨Fx, Fk, ar, cr, hP, _⟩ := h.at_
  refine (prog_waiting S Fx xb W hP).mono ?_
  rintro e w1 ⟨ao, n, cap, h1, h2, h3, h4⟩
  subst h2
  exact ⟨⟨ao, cap, h1, h3⟩, h.below h4, h4⟩
theorem FlOut.below {lim : Nat} {w w' : World} {fl : List Cmd} {ao : Option Addr} {n cap : Nat} {vs : List (Option Addr × Nat)} (h : FlOut lim w fl ao n cap vs) (hb : Below w.heap.size w w') : FlOut lim w' fl ao n cap vs :=
  ⟨h.len, h.cnt, h.row.same (fun a ha => by obtain ⟨c, hc, _⟩ := h.row.block ha; exact hb.block _ (lt_of_heap hc)), fun j hj hv => (h.ins j hj hv).same (fun a ha => by obtain ⟨c, hc, _⟩ := (h.ins j hj hv).block ha; exact hb.block _ (lt_of_heap hc)), h.ap⟩
end
end Go.Proofs.YtiabdbeejkadnabGreatDoor

/- The program's queue (stage 2's code): Cancel, Tick, Now; plain.Cancel. Own work of the verifier. -/
namespace Go.Proofs.YtiabdbeejkadnabGreatDoor
open Go.RowKit Go.Maps

/-- what Cancel's error tells -/
def cancelErr (S : St) (num : Int) : Int × Int × Int := if (cancelM S num).1 = 9 then (9, num, (cancelM S num).2.1) else ((cancelM S num).1, -1, 0)
theorem cancel_none {S : St} {num : Int} (hp : placeM S num = -1) : cancelM S num = (5, 0, S) := by
  unfold cancelM; rw [hp]; rfl
theorem cancel_at {S : St} {num : Int} {k : Nat} (hk : k < S.reqs.length) (hp : placeM S num = k) : cancelM S num = if 2 ≤ (S.reqs[k]).state then (9, (S.reqs[k]).tries, S) else (0, 0, { S with reqs := setState S.reqs k 4 }) := by
  unfold cancelM
  rw [hp, if_neg (by omega)]
  have e : ((k : Int)).toNat = k := by omega
  rw [e]
  dsimp only
  rw [getD_of hk]

set_option maxHeartbeats 1000000 in
theorem prog_cancel (S : St) (F : Nat → Prop) (xb : Nat) (num : Int) (w : World) (h : ProgAt w F xb S) (hw : (Lit.int .i64 num).wf = true) :
    Calls Tryz.prog 26 #[.pointer (some ⟨xb, 0, none⟩), .int .i64 num] w fun e w' => (∃ ev, e = .returned ev ∧ ErrIs w' ev (cancelErr S num).1 (cancelErr S num).2.1 (cancelErr S num).2.2) ∧ ProgAt w' (Foot F w w') xb (cancelM S num).2.2 ∧ Kept F w w' := by
  have H0 := hide h
  obtain ⟨bm, D, eb, c, af, cf, vs, h⟩ := h
  have H := hide h
  have k3 := h.cell 3 _ h.q.c3
  have hlk := h.look (W := w) num hw rfl
  clear h hw
  rcases held_cases S num with ⟨h1, h2⟩ | ⟨h1, k, hk, h2, h3, _⟩
  · rw [h1] at hlk
    have HP := hide (cancel_none h2)
    clear h1 h2
    go_enter Tryz.func26, Tryz.ntmps26
    go_wp2_with fail
    refine (orEmpty_some _ _).mono ?_
    rintro e w1 ⟨rfl, rfl⟩
    go_wp2
    go_ret
    refine ⟨⟨_, rfl, ?_⟩, ?_, Kept.refl _ _⟩
    · unfold cancelErr; rw [HP.out]; exact Or.inl ⟨rfl, rfl, rfl⟩
    · rw [HP.out]; exact H0.out.grow (Below.refl _ _)
  · rw [h1] at hlk
    simp only [if_true] at hlk
    obtain ⟨ds, hds, he⟩ := H.out.e.ent _ (List.getElem_mem hk)
    have HDS := hide hds
    have hE : F (eb num) := by rw [← h3]; exact H.out.e.entF _ (List.getElem_mem hk)
    have HN := hide h3
    have HWf := hide H.out.wf
    rw [h3] at he
    have e0 : w.cell? ⟨eb num, 0, none⟩ = some (.int .i64 num) := by simp [World.cell?, he, entC, h3]
    have e7 : w.cell? ⟨eb num, 7, none⟩ = some (.int .i64 (S.reqs[k]).tries) := by simp [World.cell?, he, entC]
    have e9 : w.cell? ⟨eb num, 9, none⟩ = some (.int .i64 (S.reqs[k]).state) := by simp [World.cell?, he, entC]
    have f9 : w.frozen? ⟨eb num, 9, none⟩ = false := by simp [World.frozen?, he]
    have HE := hide he
    clear h1 he h3 hds
    by_cases hs : 2 ≤ (S.reqs[k]).state
    · have HP : Hid (cancelM S num = (9, (S.reqs[k]).tries, S)) := by show _ = _; rw [cancel_at hk h2, if_pos hs]
      have HS := hide hs
      clear h2 hs
      generalize (S.reqs[k]).tries = tr at *
      go_enter Tryz.func26, Tryz.ntmps26
      go_wp2_with fail
      refine (orEmpty_some _ _).mono ?_
      rintro e w1 ⟨rfl, rfl⟩
      go_wp2_with fail
      refine (entry_not_pending (eb num) _ _ e9 HS.out).mono ?_
      rintro e w2 ⟨rfl, rfl⟩
      go_wp2_with fail
      refine (entry_fault (eb num) num tr 9 _ e0 e7).mono ?_
      rintro e w1 ⟨rfl, hr, hb⟩
      have HR := hide hr
      have HB := hide hb
      clear hr hb hlk
      go_wp2
      go_ret
      refine ⟨⟨_, rfl, ?_⟩, ?_, Go.Proofs.YtiabdbeejkadnabGreatDoor.Below.kept HB.out F⟩
      · unfold cancelErr; rw [HP.out]; exact Or.inr ⟨_, rfl, HR.out⟩
      · rw [HP.out]; exact H0.out.grow HB.out
    · have HP : Hid (cancelM S num = (0, 0, { S with reqs := setState S.reqs k 4 })) := by show _ = _; rw [cancel_at hk h2, if_neg hs]
      have HS : Hid ((S.reqs[k]).state = 0 ∨ (S.reqs[k]).state = 1) := by have := (H.out.wf.rq _ (List.getElem_mem hk)).st; show _ ∨ _; omega
      clear h2 hs e0 e7
      go_enter Tryz.func26, Tryz.ntmps26
      go_wp2_with fail
      refine (orEmpty_some _ _).mono ?_
      rintro e w1 ⟨rfl, rfl⟩
      go_wp2_with fail
      refine (entry_pending (eb num) _ _ e9 HS.out).mono ?_
      rintro e w2 ⟨rfl, rfl⟩
      go_wp2
      go_ret
      have hb : ProgBlk (w2.setCell ⟨eb num, 9, none⟩ (.int .i64 4)) F xb { S with reqs := S.reqs.set k { (S.reqs[k]) with state := 4 } } [] bm D eb c af cf vs := by
        refine H.out.setE hk (ds := ds) rfl ⟨HDS.out.1, HDS.out.2.1, fun _ e => by cases e⟩ ?_ (fun b _ hne => Below.heap_setCell _ _ _ _ (by rw [HN.out] at hne; exact hne)) (by simp [World.setCell]) ?_
        · rw [HN.out, heap_setCell_at HE.out]; rfl
        · have := HWf.out.cancel hk (by have := HS.out; omega)
          rw [setState_eq _ _ _ hk] at this
          exact this
      refine ⟨⟨_, rfl, ?_⟩, ?_, (Kept.refl _ _).setCell (p := ⟨eb num, 9, none⟩) (Or.inl hE) _⟩
      · unfold cancelErr; rw [HP.out]; exact Or.inl ⟨rfl, rfl, rfl⟩
      · rw [HP.out, setState_eq _ _ _ hk]; exact ProgE.wid (F := F) ⟨bm, D, eb, c, af, cf, vs, hb⟩ Foot.of (Foot.lt H.out.ltF (by simp [World.setCell]))

set_option maxHeartbeats 1000000 in
theorem plain_cancel (S : St) (F : Nat → Prop) (xb : Nat) (num : Int) (w : World) (h : ProgAt w F xb S) (hg : GCell w) (h0 : ¬ F 0) (hw : (Lit.int .i64 num).wf = true) :
    Calls Tryz.prog 9 #[.pointer (some ⟨xb, 0, none⟩), .int .i64 num] w fun e w' => e = .returned (.agg #[.int .i64 (cancelErr S num).1, .int .i64 (cancelErr S num).2.1, .int .i64 (cancelErr S num).2.2, .bool true]) ∧ ProgAt w' (Foot F w w') xb (cancelM S num).2.2 ∧ Kept F w w' := by
  have H : Hid (ProgAt w F xb S) := h
  have hF := h.lt
  have hnF : ¬ F w.heap.size := fun e => by have := hF _ e; omega
  have HF : Hid (∀ k, F k → k < w.heap.size) := hF
  have HG : Hid (GCell w) := hg
  have HW := hide hw
  clear h hF hg hw
  generalize hA : cancelErr S num = r
  obtain ⟨k, n, t⟩ := r
  have HA : Hid (cancelErr S num = (k, n, t)) := hA
  clear hA
  generalize hS : (cancelM S num).2.2 = S'
  have HS : Hid ((cancelM S num).2.2 = S') := hS
  clear hS
  go_enter Tryz.func9, Tryz.ntmps9
  go_wp2_with fail
  refine (prog_cancel S F xb num _ (H.out.same (fun k _ hk => Below.heap_alloc w _ k hk) (by simp)) HW.out).mono ?_
  rintro e w1 ⟨⟨ev, rfl, hE⟩, hP, hK⟩
  rw [HA.out] at hE
  rw [HS.out] at hP
  have HP : Hid (ProgAt w1 (Foot F (w.alloc (.cells #[.int .i64 0, .int .i64 0, .int .i64 0, .bool false] 35)) w1) xb S') := hP
  have HK : Hid (Kept F (w.alloc (.cells #[.int .i64 0, .int .i64 0, .int .i64 0, .bool false] 35)) w1) := hK
  have hg1 : GCell w1 := (HG.out.below (alloc_below _ _)).kept hK h0
  have hz1 : w.heap.size < w1.heap.size := by have := hK.size; simp at this; omega
  obtain ⟨⟨a0, a1, a2, a3⟩, b0, b1, b2, b3⟩ := err_cells hK hnF
  have HE := hide hE
  clear hP hK hE
  go_wp2_with fail
  refine (told_is HE.out hg1).mono ?_
  rintro e w2 ⟨rfl, hb⟩
  have a0' := (hb.cell (p := ⟨w.heap.size, 0, none⟩) hz1).trans a0
  have a1' := (hb.cell (p := ⟨w.heap.size, 1, none⟩) hz1).trans a1
  have a2' := (hb.cell (p := ⟨w.heap.size, 2, none⟩) hz1).trans a2
  have a3' := (hb.cell (p := ⟨w.heap.size, 3, none⟩) hz1).trans a3
  have b0' := (hb.frozen (p := ⟨w.heap.size, 0, none⟩) hz1).trans b0
  have b1' := (hb.frozen (p := ⟨w.heap.size, 1, none⟩) hz1).trans b1
  have b2' := (hb.frozen (p := ⟨w.heap.size, 2, none⟩) hz1).trans b2
  have b3' := (hb.frozen (p := ⟨w.heap.size, 3, none⟩) hz1).trans b3
  have HB := hide hb
  clear hb a0 a1 a2 a3 b0 b1 b2 b3
  go_wp2
  exact bodyPost_ret (v := .agg #[.int .i64 k, .int .i64 n, .int .i64 t, .bool true]) (by simp [results, Tryz.results9, go_sem, a0', a1', a2', a3']) rfl ⟨rfl, plain_fin _ _ _ _ HP.out HK.out HB.out HF.out⟩
end Go.Proofs.YtiabdbeejkadnabGreatDoor
