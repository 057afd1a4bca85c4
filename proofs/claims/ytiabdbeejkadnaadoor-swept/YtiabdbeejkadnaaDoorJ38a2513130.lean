import Derived.Test.YtiabdbeejkadnaaDoorJ6b5ed061d9
import Derived.Test.YtiabdbeejkadnaaDoorCards
import Derived.Test.YtiabdbeejkadnaaDoorTie
import Derived.ProofKit
import Derived.OpenShut
import Derived.Carry
import Derived.ChangeMaps5
import Derived.Deep.DeepHandedRow
import Derived.LaidLaws
import Derived.LaidHandle
import Derived.Stop.Joined
import Derived.SevenTiedAt
/- The keeps: neighbours together, and the sweep, as plain models. Own work of the verifier. -/
namespace Go.Proofs.YtiabdbeejkadnaaDoor

section
variable {S S2 : St} {wr : Bool}
theorem waitAt_len {q : Int} : waitAt S q ≠ [] ↔ 0 < (waitAt S q).length := by
  rw [List.length_pos_iff]
theorem Calm.nextSome (h : Calm S wr) {q : Int} (hq : waitAt S q ≠ []) : ∃ c, nextM S = some c ∧ CalmCmd S wr c := by
  rcases h.next with ⟨_, h2⟩ | h2
  · obtain ⟨r, hr, h0, _⟩ := waitAt_ne.1 hq
    have := h2 r hr; omega
  · exact h2
/-- pages lo to hi wait, m times each -/
structure JoinS (S : St) (wr : Bool) (lo hi : Int) (m : Nat) : Prop where
  calm : Calm S wr
  cnt : ∀ q, (waitAt S q).length = if lo ≤ q ∧ q < hi then m else 0
  head : S.head ≤ lo
theorem JoinS.sum {lo hi : Int} {m : Nat} (h : JoinS S wr lo hi m) : ∀ k : Nat, lo + k ≤ hi → sumW S lo k = m * k := by
  intro k
  induction k with
  | zero => intro _; rfl
  | succ k ih =>
    intro hk
    show sumW S lo k + (waitAt S (lo + k)).length = _
    rw [ih (by omega), h.cnt, if_pos (by omega), Nat.mul_succ]
theorem JoinS.step {lo hi : Int} {m : Nat} (h : JoinS S wr lo hi m) (hm : 0 < m) (h0 : 0 ≤ lo) (hlt : lo < hi) (h16 : hi ≤ 16) : ∃ c S2, nextM S = some c ∧ c.page = lo ∧ c.count = min 4 (hi - lo) ∧ c.write = wr ∧ (c.requests.length : Int) = m * c.count ∧ completeM (stepM S).2 0 false = (true, S2) ∧ JoinS S2 wr (lo + c.count) hi m ∧ S2.last = S.last ∧ S2.head = lo + c.count ∧ S2.reqs.length = S.reqs.length ∧ (S2.reqs.filter (fun r => r.state == 0)).length + c.requests.length = (S.reqs.filter (fun r => r.state == 0)).length := by
  have hlo : waitAt S lo ≠ [] := by rw [waitAt_len, h.cnt, if_pos (by omega)]; exact hm
  obtain ⟨c, hn, hc⟩ := h.calm.nextSome hlo
  have hh := h.calm.wf.head
  have hhd := h.head
  have hin : ∀ q, waitAt S q ≠ [] → lo ≤ q ∧ q < hi := fun q hq => by
    rw [waitAt_len, h.cnt] at hq
    split at hq
    · assumption
    · omega
  obtain ⟨g1, g2, g3⟩ := hc.g.c1
  have hpp := hc.page
  have hp : c.page = lo := by
    have hq := hin c.page (hc.g.all c.page (by omega) (by omega))
    obtain ⟨r, hr, hr0, hrp⟩ := waitAt_ne.1 hlo
    have := hc.near r hr hr0
    omega
  have hcnt : c.count = min 4 (hi - lo) := by
    have h1 := hin (c.page + c.count - 1) (hc.g.all _ (by omega) (by omega))
    rcases hc.stop with e | e | e
    · omega
    · omega
    · have h2 : ¬ (lo ≤ c.page + c.count ∧ c.page + c.count < hi) := fun e' => by
        have := h.cnt (c.page + c.count)
        rw [e, if_pos e'] at this
        simp at this; omega
      omega
  obtain ⟨S2, d1, d2, d3, d4, d5, d6, d7⟩ := h.calm.done hn hc
  refine ⟨c, S2, hn, hp, hcnt, hc.write, ?_, d1, ⟨d2, fun q => ?_, by rw [d3]; omega⟩, d4, by rw [d3]; omega, d5, d7⟩
  · have := hc.g.len
    rw [hp, h.sum _ (by omega)] at this
    rw [this]
    have : (c.count.toNat : Int) = c.count := by omega
    rw [Int.natCast_mul, this]
  · rw [d6, h.cnt, hp]
    by_cases e1 : lo ≤ q ∧ q < lo + c.count
    · rw [if_pos e1, if_neg (by omega)]
    · rw [if_neg e1]
      by_cases e2 : lo ≤ q ∧ q < hi
      · rw [if_pos e2, if_pos (by omega)]
      · rw [if_neg e2, if_neg (by omega)]
theorem JoinS.none {lo hi : Int} {m : Nat} (h : JoinS S wr lo hi m) (hle : hi ≤ lo) : nextM S = none := by
  rcases h.calm.next with ⟨e, _⟩ | ⟨c, hn, hc⟩
  · exact e
  · have := hc.g.all c.page (by omega) (by have := hc.g.c1; omega)
    rw [waitAt_len, h.cnt, if_neg (by omega)] at this
    omega
theorem JoinS.ask1 {lo hi : Int} (h : JoinS S true (lo + 1) hi 1) (h0 : 0 ≤ lo) (h1 : lo < hi) (h2 : hi ≤ 16) (hh : S.head = 0) (hf : S.reqs.length < 40) (data : ByteArray) (hd : data.size = 4) : JoinS (askOk S true lo data) true lo hi 1 := by
  have hno : waitAt S lo = [] := by
    have := h.cnt lo
    rw [if_neg (by omega)] at this
    exact List.length_eq_zero_iff.1 this
  obtain ⟨a1, a2, a3, a4, a5, a6⟩ := h.calm.ask lo data (by omega) (fun _ => hd) hf (fun _ => hno)
  refine ⟨a1, fun q => ?_, by rw [a5]; omega⟩
  rw [a2, h.cnt]
  by_cases e : q = lo
  · rw [if_pos e, if_neg (by omega), if_pos (by omega)]
  · rw [if_neg e]
    by_cases e2 : lo + 1 ≤ q ∧ q < hi
    · rw [if_pos e2, if_pos (by omega)]
    · rw [if_neg e2, if_neg (by omega)]
theorem JoinS.ask2 {lo hi : Int} (h : JoinS S false (lo + 1) hi 2) (h0 : 0 ≤ lo) (h1 : lo < hi) (h2 : hi ≤ 16) (hh : S.head = 0) (hf : S.reqs.length < 39) (data : ByteArray) : JoinS (askOk (askOk S false lo data) false lo data) false lo hi 2 := by
  obtain ⟨a1, a2, a3, a4, a5, a6⟩ := h.calm.ask lo data (by omega) (fun e => by cases e) (by omega) (fun e => by cases e)
  obtain ⟨b1, b2, b3, b4, b5, b6⟩ := a1.ask lo data (by omega) (fun e => by cases e) (by omega) (fun e => by cases e)
  refine ⟨b1, fun q => ?_, by rw [b5, a5]; omega⟩
  rw [b2, a2, h.cnt]
  by_cases e : q = lo
  · rw [if_pos e, if_neg (by omega), if_pos (by omega)]
  · rw [if_neg e]
    by_cases e2 : lo + 1 ≤ q ∧ q < hi
    · rw [if_pos e2, if_pos (by omega)]
    · rw [if_neg e2, if_neg (by omega)]
theorem JoinS.new (wr : Bool) (hi : Int) (m : Nat) (h : 0 ≤ hi) : JoinS (St.new 1) wr hi hi m := ⟨calm_new wr, fun q => by rw [if_neg (by omega)]; rfl, h⟩

/-! ### the sweep -/
def waits (S : St) : Nat := (S.reqs.filter (fun r => r.state == 0)).length
structure SweepS (S : St) (h last : Int) (turned : Bool) (total done : Nat) : Prop where
  calm : Calm S false
  head : S.head = last + 1
  up : turned = false → h ≤ last ∧ ∀ q, h < q → q ≤ last → waitAt S q = []
  dn : turned = true → ∀ q, waitAt S q ≠ [] → last < q ∧ q ≤ h
  wt : waits S + done = total
theorem SweepS.step {h last : Int} {turned : Bool} {total done : Nat} (H : SweepS S h last turned total done) : (nextM S = none ∧ done = total) ∨ ∃ c S2, nextM S = some c ∧ c.write = false ∧ 1 ≤ c.requests.length ∧ 0 ≤ c.page ∧ c.page < 16 ∧ 1 ≤ c.count ∧ c.count ≤ 4 ∧ done + c.requests.length ≤ total ∧ completeM (stepM S).2 0 false = (true, S2) ∧ S2.last = S.last ∧ ((c.page ≤ last ∧ turned = false ∧ c.page ≤ h ∧ SweepS S2 h (c.page + c.count - 1) true total (done + c.requests.length)) ∨ (last < c.page ∧ (turned = true → c.page ≤ h) ∧ SweepS S2 h (c.page + c.count - 1) turned total (done + c.requests.length))) := by
  rcases H.calm.next with ⟨e, h2⟩ | ⟨c, hn, hc⟩
  · refine Or.inl ⟨e, ?_⟩
    have hw : waits S = 0 := by
      unfold waits
      rw [List.length_eq_zero_iff, List.filter_eq_nil_iff]
      intro r hr; rw [h2 r hr]; decide
    have := H.wt; omega
  · obtain ⟨S2, d1, d2, d3, d4, d5, d6, d7⟩ := H.calm.done hn hc
    obtain ⟨g1, g2, g3⟩ := hc.g.c1
    have hpp := hc.page
    have hhd := H.head
    have hwh := H.calm.wf.head
    have hp0 := hc.g.all c.page (by omega) (by omega)
    have hl1 : 1 ≤ c.requests.length := by
      obtain ⟨r, hr, hr0, hrp⟩ := waitAt_ne.1 hp0
      have := (hc.g.mem r.num).2 ⟨r, hr, rfl, hr0, by omega, by omega⟩
      exact List.length_pos_of_mem this
    have hnear : ∀ q, waitAt S q ≠ [] → (c.page - S.head) % 16 ≤ (q - S.head) % 16 ∧ 0 ≤ q ∧ q < 16 := fun q hq => by
      obtain ⟨r, hr, hr0, hrp⟩ := waitAt_ne.1 hq
      have := hc.near r hr hr0
      have h3 := (H.calm.wf.rq r hr).page
      rw [hrp] at this h3
      exact ⟨this, h3⟩
    have hS2 : ∀ q, waitAt S2 q ≠ [] → ¬ (c.page ≤ q ∧ q < c.page + c.count) ∧ waitAt S q ≠ [] := fun q hq => by
      rw [waitAt_len, d6] at hq
      split at hq
      · omega
      · exact ⟨by assumption, waitAt_len.2 hq⟩
    have hwt : waits S2 + (done + c.requests.length) = total := by
      have := H.wt
      have h3 : waits S2 + c.requests.length = waits S := d7
      omega
    refine Or.inr ⟨c, S2, hn, hc.write, hl1, hpp.1, hpp.2, g1, g2, by omega, d1, d4, ?_⟩
    by_cases hle : c.page ≤ last
    · cases turned with
      | true =>
        have := H.dn rfl c.page hp0
        omega
      | false =>
        obtain ⟨u1, u2⟩ := H.up rfl
        have hph : c.page ≤ h := by
          by_cases e : c.page ≤ h
          · exact e
          · exact absurd (u2 c.page (by omega) hle) hp0
        refine Or.inl ⟨hle, rfl, hph, d2, by rw [d3]; omega, fun e => (by cases e), fun _ q hq => ?_, hwt⟩
        obtain ⟨n1, n2⟩ := hS2 q hq
        obtain ⟨m1, m2, m3⟩ := hnear q n2
        have hql : q ≤ last := by omega
        have hqh : q ≤ h := by
          by_cases e : q ≤ h
          · exact e
          · exact absurd (u2 q (by omega) hql) n2
        omega
    · refine Or.inr ⟨by omega, fun e => (H.dn e c.page hp0).2, d2, by rw [d3]; omega, fun e => ?_, fun e q hq => ?_, hwt⟩
      · obtain ⟨u1, u2⟩ := H.up e
        refine ⟨by omega, fun q h1 h2 => ?_⟩
        by_cases hq : waitAt S2 q = []
        · exact hq
        · obtain ⟨n1, n2⟩ := hS2 q hq
          obtain ⟨m1, m2, m3⟩ := hnear q n2
          by_cases e1 : q ≤ last
          · exact absurd (u2 q h1 e1) n2
          · omega
      · obtain ⟨n1, n2⟩ := hS2 q hq
        obtain ⟨m1, m2, m3⟩ := hnear q n2
        have := H.dn e q n2
        omega
end
end Go.Proofs.YtiabdbeejkadnaaDoor

/- The keeps: Swept. Own work of the verifier. -/
namespace Go.Proofs.YtiabdbeejkadnaaDoor
open Go.RowKit Go.Maps

section
variable {w W : World} {wb xb : Nat} {h last : Int} {tn : Bool} {total dn : Nat}
theorem sweep_first (h : Int) (h0 : 0 ≤ h ∧ h < 16) : ∃ c S2, nextM (askOk (St.new 1) false h ⟨#[]⟩) = some c ∧ completeM (stepM (askOk (St.new 1) false h ⟨#[]⟩)).2 0 false = (true, S2) ∧ Calm S2 false ∧ S2.head = h + 1 ∧ S2.last = 1 ∧ S2.reqs.length = 1 ∧ waits S2 = 0 := by
  obtain ⟨a1, a2, a3, a4, a5, a6⟩ := (calm_new false).ask h ⟨#[]⟩ h0 (fun e => by cases e) (by simp [St.new]) (fun e => by cases e)
  have hJ : JoinS (askOk (St.new 1) false h ⟨#[]⟩) false h (h + 1) 1 := ⟨a1, fun q => by
    rw [a2]
    by_cases e : q = h
    · rw [if_pos e, if_pos (by omega)]; rfl
    · rw [if_neg e, if_neg (by omega)]; rfl, by rw [a5]; exact h0.1⟩
  obtain ⟨c, S2, d1, d2, d3, d4, d5, d6, d7, d8, d9, d10, d11⟩ := hJ.step (by omega) h0.1 (by omega) (by omega)
  have hc : c.count = 1 := by omega
  refine ⟨c, S2, d1, d6, d7.calm, by rw [d9, hc], by rw [d8]; rfl, by rw [d10]; rfl, ?_⟩
  have : waits S2 + c.requests.length = 1 := d11
  rw [hc] at d5
  omega
/-- what stands while requests are asked for -/
structure SwA (w W : World) (wb xb : Nat) (h : Int) (i : Nat) : Prop where
  ex : ∃ F S rs, KWF w W F wb xb S rs ∧ Calm S false ∧ S.head = h + 1 ∧ S.last = rs.length ∧ S.reqs.length = rs.length ∧ rs.length = i + 1 ∧ waits S = i
structure SwG (w W : World) (wb xb : Nat) (h last : Int) (tn : Bool) (total dn : Nat) : Prop where
  ex : ∃ F S rs, KWF w W F wb xb S rs ∧ SweepS S h last tn total dn ∧ S.last ≤ 40 ∧ rs.length = total + 1
theorem SwA.go {i : Nat} (H : SwA w W wb xb h i) (hi : i ≤ 39) : SwG w W wb xb h h false i 0 := by
  obtain ⟨F, S, rs, g1, g2, g3, g4, g5, g6, g7⟩ := H.ex
  exact ⟨F, S, rs, g1, ⟨g2, g3, fun _ => ⟨by omega, fun q h1 h2 => by omega⟩, fun e => (by cases e), by omega⟩, by omega, g6⟩
theorem SwG.q (H : SwG w W wb xb h last tn total dn) : W.cell? ⟨wb, 0, none⟩ = some (.pointer (some ⟨xb, 0, none⟩)) ∧ wb < W.heap.size := by
  obtain ⟨F, S, rs, g1, _⟩ := H.ex
  exact g1.q
theorem SwG.le (H : SwG w W wb xb h last tn total dn) : dn ≤ total := by
  obtain ⟨F, S, rs, g1, g2, _⟩ := H.ex
  have := g2.wt; omega
theorem ks_begin (F : Nat → Prop) (hk : KWF w W F wb xb (St.new 1) []) (h0 : 0 ≤ h ∧ h < 16) :
    Calls Tryd.prog 10 #[.pointer (some ⟨wb, 0, none⟩), .bool false, .int .i64 h, .int .u8 0] W fun e w' => e = .returned (.bool true) ∧ (w'.cell? ⟨wb, 0, none⟩ = some (.pointer (some ⟨xb, 0, none⟩)) ∧ wb < w'.heap.size) ∧ Calls Tryd.prog 11 #[.pointer (some ⟨xb, 0, none⟩)] w' fun e w' => (∃ v, e = .returned v) ∧ (w'.cell? ⟨wb, 0, none⟩ = some (.pointer (some ⟨xb, 0, none⟩)) ∧ wb < w'.heap.size) ∧ Calls Tryd.prog 12 #[.pointer (some ⟨xb, 0, none⟩), .int .i64 0, .bool false] w' fun e w' => (∃ v, e = .returned v) ∧ SwA w w' wb xb h 0 := by
  obtain ⟨c, S2, d1, d2, d3, d4, d5, d6, d7⟩ := sweep_first h h0
  refine (kw_ask w W F wb xb (St.new 1) [] false h 0 hk rfl (by simp) h0 (by simp [St.new])).mono ?_
  rintro e w1 ⟨f1, f2, _⟩
  refine ⟨f1, f2.q, ?_⟩
  have hs := stepM_same (askOk (St.new 1) false h ⟨#[]⟩)
  refine (kw_step w w1 _ wb xb _ _ f2 (by show (1 : Int) ≤ 1000000; omega)).mono ?_
  rintro e w2 ⟨⟨_, _, e1⟩, e2, _⟩
  refine ⟨⟨_, e1⟩, e2.q, ?_⟩
  have := kw_complete w w2 _ wb xb _ _ 0 false e2 (by show (stepM (askOk (St.new 1) false h ⟨#[]⟩)).2.now ≤ _; rw [hs.2]; show (0 : Int) ≤ _; omega) (by show (stepM (askOk (St.new 1) false h ⟨#[]⟩)).2.last ≤ _; rw [hs.1]; show (1 : Int) ≤ _; omega)
  refine this.mono ?_
  rintro e w3 ⟨c1, c2, _⟩
  replace c2 : KWF w w3 _ wb xb (completeM (stepM (askOk (St.new 1) false h ⟨#[]⟩)).2 0 false).2 _ := c2
  rw [d2] at c2
  exact ⟨⟨_, c1⟩, _, S2, _, c2, d3, d4, by rw [d5]; rfl, by rw [d6]; rfl, rfl, d7⟩
theorem ks_ask {i : Nat} (page : Int) (H : SwA w W wb xb h i) (hp : 0 ≤ page ∧ page < 16) (hi : i < 39) :
    Calls Tryd.prog 10 #[.pointer (some ⟨wb, 0, none⟩), .bool false, .int .i64 page, .int .u8 0] W fun e w' => e = .returned (.bool true) ∧ SwA w w' wb xb h (i + 1) := by
  obtain ⟨F, S, rs, g1, g2, g3, g4, g5, g6, g7⟩ := H.ex
  refine (kw_ask w W F wb xb S rs false page 0 g1 g4 (by omega) hp (by rw [g2.told]; simp; omega)).mono ?_
  rintro e w1 ⟨f1, f2, _⟩
  obtain ⟨a1, a2, a3, a4, a5, a6⟩ := g2.ask page ⟨#[]⟩ hp (fun e => by cases e) (by omega) (fun e => by cases e)
  replace f2 : KWF w w1 (Foot F W w1) wb xb (askOk S false page ⟨#[]⟩) (rs ++ [⟨rs.length + 1, false, page, ⟨#[]⟩, 0, ⟨#[]⟩⟩]) := f2
  refine ⟨f1, _, _, _, f2, a1, by rw [a5]; exact g3, ?_, ?_, by simp [g6], ?_⟩
  · rw [a6, g4]; simp
  · rw [a4, g5]; simp
  · have : waits (askOk S false page ⟨#[]⟩) = waits S + 1 := a3
    rw [this, g7]
theorem ks_step (H : SwG w W wb xb h last tn total dn) :
    Calls Tryd.prog 11 #[.pointer (some ⟨xb, 0, none⟩)] W fun e w' => ((∃ ao cap, e = .returned (.tuple #[.agg #[.bool false, .int .i64 0, .int .i64 0, .slice ao 0 cap], .bool false])) ∧ dn = total ∧ (∃ ar cr, w'.cell? ⟨wb, 1, none⟩ = some (.slice ar (total + 1) cr)) ∧ wb < w'.heap.size ∧ Below w.heap.size w w') ∨ ∃ ao L cap pg ct, e = .returned (.tuple #[.agg #[.bool false, .int .i64 pg, .int .i64 ct, .slice ao L cap], .bool true]) ∧ 1 ≤ L ∧ dn + L ≤ total ∧ 0 ≤ pg ∧ pg < 16 ∧ 1 ≤ ct ∧ ct ≤ 4 ∧ (w'.cell? ⟨wb, 0, none⟩ = some (.pointer (some ⟨xb, 0, none⟩)) ∧ wb < w'.heap.size) ∧ ((pg ≤ last ∧ tn = false ∧ pg ≤ h ∧ ∀ o, Calls Tryd.prog 12 #[.pointer (some ⟨xb, 0, none⟩), .int .i64 0, .bool false] (w'.alloc o) fun e w' => (∃ v, e = .returned v) ∧ SwG w w' wb xb h (pg + ct - 1) true total (dn + L)) ∨ (last < pg ∧ (tn = true → pg ≤ h) ∧ ∀ o, Calls Tryd.prog 12 #[.pointer (some ⟨xb, 0, none⟩), .int .i64 0, .bool false] (w'.alloc o) fun e w' => (∃ v, e = .returned v) ∧ SwG w w' wb xb h (pg + ct - 1) tn total (dn + L))) := by
  obtain ⟨F, S, rs, g1, g2, g3, g4⟩ := H.ex
  have hst := kw_step w W F wb xb S rs g1 (by omega)
  have hs := stepM_same S
  rcases g2.step with ⟨n1, n2⟩ | ⟨c, S2, d1, d2, d3, d4, d5, d6, d7, d8, d9, d10, d11⟩
  · rw [n1] at hst
    refine hst.mono ?_
    rintro e w1 ⟨⟨ao, cap, rfl⟩, f2, _⟩
    refine Or.inl ⟨⟨ao, cap, rfl⟩, n2, ?_, f2.q.2, f2.bel⟩
    obtain ⟨Fx, Fk, ar, cr, hP, hB, _⟩ := f2.at_
    exact ⟨ar, cr, by rw [← g4]; exact hB.c1⟩
  · rw [d1] at hst
    refine hst.mono ?_
    rintro e w1 ⟨⟨ao, cap, rfl⟩, f2, _⟩
    refine Or.inr ⟨ao, c.requests.length, cap, c.page, c.count, ?_, d3, d8, d4, d5, d6, d7, f2.q, ?_⟩
    · simp only [Option.getD_some, Option.isSome_some, d2]
    · have hco : ∀ (tn' : Bool), SweepS S2 h (c.page + c.count - 1) tn' total (dn + c.requests.length) → ∀ o, Calls Tryd.prog 12 #[.pointer (some ⟨xb, 0, none⟩), .int .i64 0, .bool false] (w1.alloc o) fun e w' => (∃ v, e = .returned v) ∧ SwG w w' wb xb h (c.page + c.count - 1) tn' total (dn + c.requests.length) := fun tn' hS o => by
        refine (kw_complete w _ _ wb xb _ rs 0 false (f2.alloc o) (by rw [hs.2, g2.calm.now]; omega) (by rw [hs.1]; omega)).mono ?_
        rintro e w2 ⟨e1, e2, _⟩
        rw [d9] at e2
        exact ⟨⟨_, e1⟩, _, S2, rs, e2, hS, by omega, g4⟩
      rcases d11 with ⟨a1, a2, a3, a4⟩ | ⟨a1, a2, a3⟩
      · exact Or.inl ⟨a1, a2, a3, hco _ a4⟩
      · exact Or.inr ⟨a1, a2, hco _ a3⟩
end
set_option maxHeartbeats 4000000 in
set_option maxRecDepth 1000000 in
theorem swept_walk (head : Int) (s : ByteArray) (w : World) (hg : GCell w) (h1 : -9223372036854775808 ≤ head ∧ head ≤ 9223372036854775807) (hs0 : s.size ≤ maxLen) :
    Calls Tryd.prog 4 #[.int .i64 head, .string s] w fun e w' => e = .returned (.bool true) ∧ Below w.heap.size w w' := by
  have HP1 : Hid (∀ W, Calls Tryd.prog 9 #[.int .i64 head, .int .i64 16] W fun e w' => e = .returned (.int .i64 (kpickM head 16)) ∧ w' = W) := fun W => keep_pick head 16 W h1 (by omega) (by omega)
  have hq := kpickM_lt head 16 (by omega)
  have HBG := hide (kw_begun w 0 hg (by omega))
  rw [show kpickM 0 4 = 0 from rfl, show (1 : Int) + 0 = 1 from rfl] at HBG
  generalize kpickM head 16 = h at *
  have hsz : s.size ≤ 9223372036854775807 := hs0
  clear h1 hg hs0
  go_enter Tryd.func4, Tryd.ntmps4
  go_wp2_with fail
  refine HBG.out.mono ?_
  rintro e w1 ⟨wb, xb, rfl, F1, hk1⟩
  have HK1 := hide hk1
  clear hk1 HBG
  go_wp2_with fail
  refine (HP1.out _).mono ?_
  rintro e w2 ⟨rfl, hw2⟩
  have hw2 := hw2.symm
  subst hw2
  have HB := hide (ks_begin F1 HK1.out hq)
  clear HK1
  go_wp2_with fail
  refine HB.out.mono ?_
  rintro e w2 ⟨rfl, ⟨q0, qz⟩, hB2⟩
  have HB2 := hide hB2
  clear hB2 HB
  go_wp2_with fail
  refine HB2.out.mono ?_
  clear q0 qz
  rintro e w3 ⟨⟨v, rfl⟩, ⟨q0, qz⟩, hB3⟩
  have HB3 := hide hB3
  clear hB3 HB2
  go_wp2_with fail
  refine HB3.out.mono ?_
  clear q0 qz
  rintro e w4 ⟨⟨v', rfl⟩, hA⟩
  have HA := hide hA
  clear hA HB3
  go_wp2
  go_loopw [6, 8] (fun _ vi wr => ∃ i : Nat, i ≤ s.size ∧ i ≤ 39 ∧ vi = .int .i64 i ∧ Hid (SwA w wr wb xb h i)) (fun _ vi _ => 40 - (intOf vi).toNat)
  case atStart => exact ⟨0, by omega, by omega, rfl, HA⟩
  case round =>
    clear HA
    obtain ⟨i, hi, hi9, rfl, hA⟩ := hrel
    by_cases hlt : i < s.size
    · have hlti : (i : Int) < (s.size : Int) := by omega
      by_cases h39 : i < 39
      · have h39i : (i : Int) < 39 := by omega
        have hb1 : (0 : Int) ≤ (s[i].toNat : Int) := by omega
        have hb2 : (s[i].toNat : Int) ≤ 255 := by have := s[i].toNat_lt; omega
        have HASK : Hid (∀ page, 0 ≤ page ∧ page < 16 → Calls Tryd.prog 10 #[.pointer (some ⟨wb, 0, none⟩), .bool false, .int .i64 page, .int .u8 0] wr fun e w' => e = .returned (.bool true) ∧ SwA w w' wb xb h (i + 1)) := fun page hp => ks_ask page hA.out hp h39
        clear hA
        go_wp2_with fail
        refine (HASK.out _ ?_).mono ?_
        · omega
        rintro e w5 ⟨rfl, hA2⟩
        have HA2 := hide hA2
        clear hA2 HASK
        go_wp2
        go_roundw
        case rel => exact ⟨i + 1, by omega, by omega, by go_num, HA2⟩
        case measure => simp [intOf]; omega
      · have h39i : ¬ (i : Int) < 39 := by omega
        have HG : Hid (SwG w wr wb xb h h false i 0) := hA.out.go (by omega)
        clear hA
        go_wp2
        go_loopw [9, 10, 11, 12] (fun vl vt vd vk wl => ∃ (last : Int) (tn : Bool) (dn k : Nat), vl = .int .i64 last ∧ vt = .bool tn ∧ vd = .int .i64 dn ∧ vk = .int .i64 k ∧ k ≤ 40 ∧ k ≤ dn ∧ -16 ≤ last ∧ last ≤ 32 ∧ Hid (SwG w wl wb xb h last tn i dn)) (fun _ _ _ vk _ => 40 - (intOf vk).toNat)
        case atStart => exact ⟨h, false, 0, 0, rfl, rfl, rfl, rfl, by omega, by omega, by omega, by omega, HG⟩
        case round =>
          clear HG
          obtain ⟨last, tn, dn, k, rfl, rfl, rfl, rfl, hk40, hkd, hl1, hl2, hG⟩ := hrel
          have hle := hG.out.le
          have hk39 : (k : Int) < 40 := by omega
          have HQ := hide hG.out.q
          obtain ⟨q0, qz⟩ := HQ.out
          have HST := hide (ks_step hG.out)
          clear hG
          go_wp2_with fail
          refine HST.out.mono ?_
          clear q0 qz
          rintro e w5 (⟨⟨ao, cap, rfl⟩, hdt, ⟨ar, cr, c1⟩, cz, hb⟩ | ⟨ao, L, cap, pg, ct, rfl, hL1, hL2, hp0, hp16, hc1, hc4, ⟨q0, qz⟩, hh⟩)
          · have HB := hide hb
            clear hb HST
            have e1 : ((dn : Int) == (i : Int) + 1 - 1) = true := by rw [hdt]; simp
            have e2 : ((dn : Int) == ((i + 1 : Nat) : Int) - 1) = true := by rw [hdt]; simp
            go_wp2
            go_ret
            exact ⟨rfl, HB.out.trans ((alloc_below _ _).mono HB.out.size)⟩
          · rcases hh with ⟨a1, a2, a3, hC⟩ | ⟨a1, a2, hC⟩
            · subst a2
              have HC := hide hC
              have a4 : ¬ h < pg := by omega
              clear hC HST
              go_wp2_with fail
              refine (HC.out _).mono ?_
              rintro e w6 ⟨⟨v, rfl⟩, hG2⟩
              have HG2 := hide hG2
              clear hG2 HC
              go_wp2
              go_roundw
              case rel => exact ⟨pg + ct - 1, true, dn + L, k + 1, by go_num, rfl, by go_num, by go_num, by omega, by omega, by omega, by omega, HG2⟩
              case measure => simp [intOf]; omega
            · have a4 : ¬ pg ≤ last := by omega
              have HC := hide hC
              clear hC HST
              cases tn with
              | true =>
                have a5 := a2 rfl
                have a6 : ¬ h < pg := by omega
                clear a2
                go_wp2_with fail
                refine (HC.out _).mono ?_
                rintro e w6 ⟨⟨v, rfl⟩, hG2⟩
                have HG2 := hide hG2
                clear hG2 HC
                go_wp2
                go_roundw
                case rel => exact ⟨pg + ct - 1, true, dn + L, k + 1, by go_num, rfl, by go_num, by go_num, by omega, by omega, by omega, by omega, HG2⟩
                case measure => simp [intOf]; omega
              | false =>
                clear a2
                go_wp2_with fail
                refine (HC.out _).mono ?_
                rintro e w6 ⟨⟨v, rfl⟩, hG2⟩
                have HG2 := hide hG2
                clear hG2 HC
                go_wp2
                go_roundw
                case rel => exact ⟨pg + ct - 1, false, dn + L, k + 1, by go_num, rfl, by go_num, by go_num, by omega, by omega, by omega, by omega, HG2⟩
                case measure => simp [intOf]; omega
    · have hlti : ¬ (i : Int) < (s.size : Int) := by omega
      have HG : Hid (SwG w wr wb xb h h false i 0) := hA.out.go (by omega)
      clear hA
      go_wp2
      go_loopw [9, 10, 11, 12] (fun vl vt vd vk wl => ∃ (last : Int) (tn : Bool) (dn k : Nat), vl = .int .i64 last ∧ vt = .bool tn ∧ vd = .int .i64 dn ∧ vk = .int .i64 k ∧ k ≤ 40 ∧ k ≤ dn ∧ -16 ≤ last ∧ last ≤ 32 ∧ Hid (SwG w wl wb xb h last tn i dn)) (fun _ _ _ vk _ => 40 - (intOf vk).toNat)
      case atStart => exact ⟨h, false, 0, 0, rfl, rfl, rfl, rfl, by omega, by omega, by omega, by omega, HG⟩
      case round =>
        clear HG
        obtain ⟨last, tn, dn, k, rfl, rfl, rfl, rfl, hk40, hkd, hl1, hl2, hG⟩ := hrel
        have hle := hG.out.le
        have hk39 : (k : Int) < 40 := by omega
        have HQ := hide hG.out.q
        obtain ⟨q0, qz⟩ := HQ.out
        have HST := hide (ks_step hG.out)
        clear hG
        go_wp2_with fail
        refine HST.out.mono ?_
        clear q0 qz
        rintro e w5 (⟨⟨ao, cap, rfl⟩, hdt, ⟨ar, cr, c1⟩, cz, hb⟩ | ⟨ao, L, cap, pg, ct, rfl, hL1, hL2, hp0, hp16, hc1, hc4, ⟨q0, qz⟩, hh⟩)
        · have HB := hide hb
          clear hb HST
          have e1 : ((dn : Int) == (i : Int) + 1 - 1) = true := by rw [hdt]; simp
          have e2 : ((dn : Int) == ((i + 1 : Nat) : Int) - 1) = true := by rw [hdt]; simp
          go_wp2
          go_ret
          exact ⟨rfl, HB.out.trans ((alloc_below _ _).mono HB.out.size)⟩
        · rcases hh with ⟨a1, a2, a3, hC⟩ | ⟨a1, a2, hC⟩
          · subst a2
            have HC := hide hC
            have a4 : ¬ h < pg := by omega
            clear hC HST
            go_wp2_with fail
            refine (HC.out _).mono ?_
            rintro e w6 ⟨⟨v, rfl⟩, hG2⟩
            have HG2 := hide hG2
            clear hG2 HC
            go_wp2
            go_roundw
            case rel => exact ⟨pg + ct - 1, true, dn + L, k + 1, by go_num, rfl, by go_num, by go_num, by omega, by omega, by omega, by omega, HG2⟩
            case measure => simp [intOf]; omega
          · have a4 : ¬ pg ≤ last := by omega
            have HC := hide hC
            clear hC HST
            cases tn with
            | true =>
              have a5 := a2 rfl
              have a6 : ¬ h < pg := by omega
              clear a2
              go_wp2_with fail
              refine (HC.out _).mono ?_
              rintro e w6 ⟨⟨v, rfl⟩, hG2⟩
              have HG2 := hide hG2
              clear hG2 HC
              go_wp2
              go_roundw
              case rel => exact ⟨pg + ct - 1, true, dn + L, k + 1, by go_num, rfl, by go_num, by go_num, by omega, by omega, by omega, by omega, HG2⟩
              case measure => simp [intOf]; omega
            | false =>
              clear a2
              go_wp2_with fail
              refine (HC.out _).mono ?_
              rintro e w6 ⟨⟨v, rfl⟩, hG2⟩
              have HG2 := hide hG2
              clear hG2 HC
              go_wp2
              go_roundw
              case rel => exact ⟨pg + ct - 1, false, dn + L, k + 1, by go_num, rfl, by go_num, by go_num, by omega, by omega, by omega, by omega, HG2⟩
              case measure => simp [intOf]; omega
end Go.Proofs.YtiabdbeejkadnaaDoor

/- The keep Swept: the row and its tied card. Own work of the verifier. -/
namespace Go.Proofs.YtiabdbeejkadnaaDoor
open Go.ChangeMaps Go.ChangeShapes Go.WideShapes Go.RowKit

theorem kOwn : ownKnob Tryd.prog.godebug = none := by kernel_rfl
theorem kEt : Tryd.prog.globalNamed "errors.errorType" = some 0 := by kernel_rfl
theorem kRt : (Tryd.prog.cutTypes.find? (·.1 == "internal/reflectlite.rtype")).map (·.2) = some 124 := by kernel_rfl
theorem kOneRow : ((List.range 200).filter fun t => Tryd.prog.rowNamed t [101, 114, 114, 111, 114]) = [55] := by kernel_rfl
theorem kSize : Tryd.prog.types.size = 200 := by kernel_rfl

theorem handle_of_laid {W : World} (h : laidMetH Tryd.prog Rows.sweptRow.laid W) : W.cell? ⟨0, 0, none⟩ = some (.iface 124 (.agg #[.pointer (some ⟨1, 55, none⟩)])) := by
  have h' : laidMet Tryd.prog [] W ∧ handlesMet Tryd.prog Rows.sweptRow.laid W := h
  obtain ⟨name, u, ty, e1, e2, e3, e4, e5⟩ := h'.2 _ (List.mem_singleton.2 rfl)
  have en : name = [101, 114, 114, 111, 114] := (Option.some.inj e1).symm
  subst en
  obtain rfl := Option.some.inj (kRt.symm.trans e2)
  have hm : ty ∈ (List.range 200).filter fun t => Tryd.prog.rowNamed t [101, 114, 114, 111, 114] := List.mem_filter.2 ⟨List.mem_range.2 (by rw [← kSize]; exact e3), e4⟩
  rw [kOneRow] at hm
  obtain rfl := List.mem_singleton.1 hm
  have hh : typeHandle Tryd.prog 55 = .pointer (some ⟨1, 55, none⟩) := by kernel_rfl
  rw [hh] at e5
  simpa using World.var?_cell kEt e5 0

noncomputable def laidWorld (os : Os) : World :=
  let w0 := World.holding Tryd.prog os ⟨#[], #[], []⟩
  { w0 with heap := w0.heap.modify 0 fun
      | .cells _ t frozen => .cells #[.iface 124 (.agg #[.pointer (some ⟨1, 55, none⟩)])] t frozen
      | o => o }
theorem laidWorld_met (os : Os) (args : Array Value) : laidMetH Tryd.prog Rows.sweptRow.laid ((laidWorld os).forCall (fun _ _ => 0) ⟨#[], args, []⟩).memory :=
  laidMetH_of_parts (laidMet_nil _ _) (by kernel_rfl)

theorem wf_range {x : Int} (h : (Lit.int .i64 x).wf = true) : -9223372036854775808 ≤ x ∧ x ≤ 9223372036854775807 := by
  simp only [Lit.wf, Bool.and_eq_true, decide_eq_true_eq] at h
  have e1 : IntKind.i64.min = -9223372036854775808 := by decide
  have e2 : IntKind.i64.max = 9223372036854775807 := by decide
  rw [e1, e2] at h
  exact h
theorem laidOut : laidOutB Tryd.prog = true := by kernel_rfl
set_option maxRecDepth 100000 in
theorem swept_lifted (os : Os) (started : os.Started) (H : Type) (enc : TypeId × Value → H) :
    ReturnsInHanded {} Tryd.checked os 4 .any (fun w args => (Rows.sweptSpec.pre enc Tryd.prog Tryd.f4 [] false w args ∧ laidMetH Tryd.prog Rows.sweptRow.laid w) ∧ sizedMet enc Tryd.prog Tryd.f4 (OpenSpec.ofChange Rows.sweptSpec) false w args)
      (Rows.sweptSpec.post enc Tryd.prog Tryd.f4 false true false false) := by
  refine returnsInHanded_of_change_and (C := Tryd.checked) (X := fun w _ => laidMetH Tryd.prog Rows.sweptRow.laid w) (fun _ _ _ hh h => h.of_heap hh) kOwn started (by kernel_rfl) Tryd.func4
    (ChangeSpec.witness_at (enc := enc) (C := Tryd.checked) (os := os) (X := fun w _ => laidMetH Tryd.prog Rows.sweptRow.laid w) false (laidWorld os) #[.int .i64 0, .string ⟨#[]⟩] 8 rfl (by kernel_rfl) (by kernel_rfl) (by kernel_rfl) (by kernel_rfl) (by kernel_rfl) (laidWorld_met os _)) ?_
  intro W base args ds gs before hval0 hW _ hsz0 hL _
  have hsz : (DataW.weightsEach Tryd.prog (Tryd.f4.params.toList ++ Rows.sweptSpec.plain.varTypes Tryd.prog) (ds ++ gs)).all (· ≤ reachBytes) = true := hsz0
  have hval : ∀ (j : Nat) t v, Tryd.f4.params[j]? = some t → args[j]? = some v → Value.okWide Tryd.prog W .any base t v := hval0
  clear hsz0 hval0
  have hW' := hW
  obtain ⟨p, q, hA0, hV, rfl, hfz, hnd⟩ := hW
  have hA : DataW.TrodAll enc Tryd.prog W 0 (fun _ => true) true Tryd.f4.params.toList args.toList ds p := hA0
  rw [Tryd.params4] at hA hsz hval
  obtain ⟨v0, v1, d0, d1, p0, p1, rfl, rfl, rfl, h0, h1⟩ := trodAll_two hA
  obtain ⟨x0, rfl, rfl, rfl, hw0⟩ := open_int Tryd.underlying3 (hval 0 _ _ rfl rfl) h0
  obtain ⟨x1, rfl, rfl, rfl, hs1⟩ := open_string Tryd.underlying9 (hval 1 _ _ rfl rfl) h1
  obtain ⟨rfl, rfl⟩ := trodVars_none hV
  clear hA0 hA
  simp only [List.append_nil] at hW' hsz
  have hg : GCell W := handle_of_laid hL
  refine (swept_walk x0 x1 W hg (wf_range hw0) hs1).mono ?_
  rintro e W' ⟨rfl, hb⟩
  have e1 : Rows.sweptSpec.fn H ([.lit (.int .i64 x0), .lit (.string x1.data.toList)] ++ []) = { results := [.lit (.bool true)], args := [.lit (.int .i64 x0), .lit (.string x1.data.toList)] } := by simp [Rows.sweptSpec]
  refine ⟨_, rfl, _, _, _, [], [], [], hW', ?_, ?_, ?_, hb.frame _, fun h => by cases h⟩
  · rw [e1]; exact trodAll_mk1 (shut_bool Tryd.underlying4 true)
  · rw [e1]; exact trodAll_mk2 (shut_int Tryd.underlying3 hw0) (shut_string Tryd.underlying9 hs1)
  · rw [e1]; rfl

theorem swept_said : Rows.SweptSaid :=
  OpenClaim.holds_of_wide 4 Tryd.f4 rfl rfl rfl rfl rfl rfl rfl ⟨rfl, rfl, rfl, rfl, rfl⟩ rfl rfl rfl rfl rfl (by kernel_rfl) Tryd.func4 (by kernel_rfl)
    (of_decide_eq_true (by kernel_rfl)) (by unfold Func.isWrapper; first | (rw [if_pos (by decide +kernel)]; kernel_rfl) | (rw [if_neg (by decide +kernel)]; exact ⟨rfl, rfl⟩))
    (fun os started H enc _ => swept_lifted os started H enc)

theorem swept_plain (f : FuncId) (fn : Func) (hf : Tryd.pinned.checked.prog.funcNamed "elevator/elevatorkeep.Swept" = some f) (hfn : Tryd.pinned.checked.prog.funcs[f]? = some fn) :
    true = Tryd.pinned.checked.prog.looks [] ∧ ∀ (j : Nat) t, fn.params[j]? = some t → Tryd.pinned.checked.prog.wantsStandIn t = false := by
  obtain rfl : f = 4 := Option.some.inj ((show Tryd.prog.funcNamed "elevator/elevatorkeep.Swept" = some 4 by kernel_rfl).symm.trans hf) |>.symm
  obtain rfl : fn = Tryd.f4 := (Option.some.inj (Tryd.func4.symm.trans hfn)).symm
  refine ⟨by kernel_rfl, fun j t ht => ?_⟩
  rw [Tryd.params4] at ht
  cases j with
  | zero =>
    have e : t = 3 := by simpa using ht.symm
    subst e
    show Tryd.prog.wantsStandIn 3 = false
    kernel_rfl
  | succ j =>
    cases j with
    | zero =>
      have e : t = 9 := by simpa using ht.symm
      subst e
      show Tryd.prog.wantsStandIn 9 = false
      kernel_rfl
    | succ j =>
      simp at ht

/-- a tied card, whatever its cell 'goes' -/
theorem tied_at (Lk : Looks) {p : Pinned} {s : OpenSpec} {c : OpenClaim} (g : Bool) (kinds : List LaidKind) (tests : Bool) (har : Bool × String) (lk : Bool)
    (hc : c.holds p s) (hw : c.wfByText s = true) (htie : c.laidByTextAt Lk p kinds tests)
    (hst : c.start = .entering) (hnb : c.noBlocks = false ∧ c.again = false) (hm : p.checked.prog.mainIs = some (har.1, har.2.toList)) (hn : (!har.1 && har.2.isEmpty && !lk) = false)
    (hl : ∀ f fn, p.checked.prog.funcNamed c.func = some f → p.checked.prog.funcs[f]? = some fn → lk = p.checked.prog.looks [] ∧ ∀ (j : Nat) t, fn.params[j]? = some t → p.checked.prog.wantsStandIn t = false)
    (hg : g = c.goesBy p.checked.prog) :
    Claim7.holds p (.plain s) { stood := { row := c, standIns := [], harness := har, looks := lk }, kinds := [], alts := [], goes := g, laidByText := true, laidKinds := kinds, laidTests := tests, laidLooks := Lk } := by
  have h6 : ∀ r : OpenClaim, Claim7.isSixth { stood := { row := r, standIns := [], harness := har, looks := lk }, kinds := [] } = false := fun r => by simpa [Claim7.isSixth] using hn
  exact ⟨Claim7.tied_new_at Lk kinds tests (Claim7.new_of_sixth hc har lk hst hnb hm (h6 c) hl) hw, (fun D hD => by cases hD), htie, (fun h => by cases h), hg⟩
theorem swept_card : Rows.SweptCardSaid :=
  tied_at .later _ _ _ _ _ swept_said (by kernel_rfl) swept_row_tie rfl ⟨rfl, rfl⟩ (by kernel_rfl) rfl swept_plain (by kernel_rfl)
#print axioms swept_card
end Go.Proofs.YtiabdbeejkadnaaDoor
