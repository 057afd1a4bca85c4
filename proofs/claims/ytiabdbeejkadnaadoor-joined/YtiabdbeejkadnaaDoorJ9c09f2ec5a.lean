import Derived.Test.YtiabdbeejkadnaaDoorJ6b5ed061d9
import Derived.Test.YtiabdbeejkadnaaDoorCards
import Derived.Test.YtiabdbeejkadnaaDoorTie
import Derived.ProofKit
import Derived.OpenShut
import Derived.Carry
import Derived.Deep.DeepHandedRow
import Derived.LaidLaws
import Derived.LaidHandle
import Derived.Stop.Joined
import Derived.SevenTiedAt
/- The keeps: neighbours together, and the sweep, as plain models. Own work of the verifier. -/
namespace Go.Proofs.YtiabdbeejkadnaaDoor

section
variable {S S2 : St} {wr : Bool}
theorem waitAt_len {q : Int} : waitAt S q ≠ [] ↔ 0 < (waitAt S q).length := by
  rw [List.length_pos_iff]
theorem Calm.nextSome (h : Calm S wr) {q : Int} (hq : waitAt S q ≠ []) : ∃ c, nextM S = some c ∧ CalmCmd S wr c := by
  rcases h.next with ⟨_, h2⟩ | h2
  · obtain ⟨r, hr, h0, _⟩ := waitAt_ne.1 hq
    have := h2 r hr; omega
  · exact h2
/-- pages lo to hi wait, m times each -/
structure JoinS (S : St) (wr : Bool) (lo hi : Int) (m : Nat) : Prop where
  calm : Calm S wr
  cnt : ∀ q, (waitAt S q).length = if lo ≤ q ∧ q < hi then m else 0
  head : S.head ≤ lo
theorem JoinS.sum {lo hi : Int} {m : Nat} (h : JoinS S wr lo hi m) : ∀ k : Nat, lo + k ≤ hi → sumW S lo k = m * k := by
  intro k
  induction k with
  | zero => intro _; rfl
  | succ k ih =>
    intro hk
    show sumW S lo k + (waitAt S (lo + k)).length = _
    rw [ih (by omega), h.cnt, if_pos (by omega), Nat.mul_succ]
theorem JoinS.step {lo hi : Int} {m : Nat} (h : JoinS S wr lo hi m) (hm : 0 < m) (h0 : 0 ≤ lo) (hlt : lo < hi) (h16 : hi ≤ 16) : ∃ c S2, nextM S = some c ∧ c.page = lo ∧ c.count = min 4 (hi - lo) ∧ c.write = wr ∧ (c.requests.length : Int) = m * c.count ∧ completeM (stepM S).2 0 false = (true, S2) ∧ JoinS S2 wr (lo + c.count) hi m ∧ S2.last = S.last ∧ S2.head = lo + c.count ∧ S2.reqs.length = S.reqs.length ∧ (S2.reqs.filter (fun r => r.state == 0)).length + c.requests.length = (S.reqs.filter (fun r => r.state == 0)).length := by
  have hlo : waitAt S lo ≠ [] := by rw [waitAt_len, h.cnt, if_pos (by omega)]; exact hm
  obtain ⟨c, hn, hc⟩ := h.calm.nextSome hlo
  have hh := h.calm.wf.head
  have hhd := h.head
  have hin : ∀ q, waitAt S q ≠ [] → lo ≤ q ∧ q < hi := fun q hq => by
    rw [waitAt_len, h.cnt] at hq
    split at hq
    · assumption
    · omega
  obtain ⟨g1, g2, g3⟩ := hc.g.c1
  have hpp := hc.page
  have hp : c.page = lo := by
    have hq := hin c.page (hc.g.all c.page (by omega) (by omega))
    obtain ⟨r, hr, hr0, hrp⟩ := waitAt_ne.1 hlo
    have := hc.near r hr hr0
    omega
  have hcnt : c.count = min 4 (hi - lo) := by
    have h1 := hin (c.page + c.count - 1) (hc.g.all _ (by omega) (by omega))
    rcases hc.stop with e | e | e
    · omega
    · omega
    · have h2 : ¬ (lo ≤ c.page + c.count ∧ c.page + c.count < hi) := fun e' => by
        have := h.cnt (c.page + c.count)
        rw [e, if_pos e'] at this
        simp at this; omega
      omega
  obtain ⟨S2, d1, d2, d3, d4, d5, d6, d7⟩ := h.calm.done hn hc
  refine ⟨c, S2, hn, hp, hcnt, hc.write, ?_, d1, ⟨d2, fun q => ?_, by rw [d3]; omega⟩, d4, by rw [d3]; omega, d5, d7⟩
  · have := hc.g.len
    rw [hp, h.sum _ (by omega)] at this
    rw [this]
    have : (c.count.toNat : Int) = c.count := by omega
    rw [Int.natCast_mul, this]
  · rw [d6, h.cnt, hp]
    by_cases e1 : lo ≤ q ∧ q < lo + c.count
    · rw [if_pos e1, if_neg (by omega)]
    · rw [if_neg e1]
      by_cases e2 : lo ≤ q ∧ q < hi
      · rw [if_pos e2, if_pos (by omega)]
      · rw [if_neg e2, if_neg (by omega)]
theorem JoinS.none {lo hi : Int} {m : Nat} (h : JoinS S wr lo hi m) (hle : hi ≤ lo) : nextM S = none := by
  rcases h.calm.next with ⟨e, _⟩ | ⟨c, hn, hc⟩
  · exact e
  · have := hc.g.all c.page (by omega) (by have := hc.g.c1; omega)
    rw [waitAt_len, h.cnt, if_neg (by omega)] at this
    omega
theorem JoinS.ask1 {lo hi : Int} (h : JoinS S true (lo + 1) hi 1) (h0 : 0 ≤ lo) (h1 : lo < hi) (h2 : hi ≤ 16) (hh : S.head = 0) (hf : S.reqs.length < 40) (data : ByteArray) (hd : data.size = 4) : JoinS (askOk S true lo data) true lo hi 1 := by
  have hno : waitAt S lo = [] := by
    have := h.cnt lo
    rw [if_neg (by omega)] at this
    exact List.length_eq_zero_iff.1 this
  obtain ⟨a1, a2, a3, a4, a5, a6⟩ := h.calm.ask lo data (by omega) (fun _ => hd) hf (fun _ => hno)
  refine ⟨a1, fun q => ?_, by rw [a5]; omega⟩
  rw [a2, h.cnt]
  by_cases e : q = lo
  · rw [if_pos e, if_neg (by omega), if_pos (by omega)]
  · rw [if_neg e]
    by_cases e2 : lo + 1 ≤ q ∧ q < hi
    · rw [if_pos e2, if_pos (by omega)]
    · rw [if_neg e2, if_neg (by omega)]
theorem JoinS.ask2 {lo hi : Int} (h : JoinS S false (lo + 1) hi 2) (h0 : 0 ≤ lo) (h1 : lo < hi) (h2 : hi ≤ 16) (hh : S.head = 0) (hf : S.reqs.length < 39) (data : ByteArray) : JoinS (askOk (askOk S false lo data) false lo data) false lo hi 2 := by
  obtain ⟨a1, a2, a3, a4, a5, a6⟩ := h.calm.ask lo data (by omega) (fun e => by cases e) (by omega) (fun e => by cases e)
  obtain ⟨b1, b2, b3, b4, b5, b6⟩ := a1.ask lo data (by omega) (fun e => by cases e) (by omega) (fun e => by cases e)
  refine ⟨b1, fun q => ?_, by rw [b5, a5]; omega⟩
  rw [b2, a2, h.cnt]
  by_cases e : q = lo
  · rw [if_pos e, if_neg (by omega), if_pos (by omega)]
  · rw [if_neg e]
    by_cases e2 : lo + 1 ≤ q ∧ q < hi
    · rw [if_pos e2, if_pos (by omega)]
    · rw [if_neg e2, if_neg (by omega)]
theorem JoinS.new (wr : Bool) (hi : Int) (m : Nat) (h : 0 ≤ hi) : JoinS (St.new 1) wr hi hi m := ⟨calm_new wr, fun q => by rw [if_neg (by omega)]; rfl, h⟩

/-! ### the sweep -/
def waits (S : St) : Nat := (S.reqs.filter (fun r => r.state == 0)).length
structure SweepS (S : St) (h last : Int) (turned : Bool) (total done : Nat) : Prop where
  calm : Calm S false
  head : S.head = last + 1
  up : turned = false → h ≤ last ∧ ∀ q, h < q → q ≤ last → waitAt S q = []
  dn : turned = true → ∀ q, waitAt S q ≠ [] → last < q ∧ q ≤ h
  wt : waits S + done = total
theorem SweepS.step {h last : Int} {turned : Bool} {total done : Nat} (H : SweepS S h last turned total done) : (nextM S = none ∧ done = total) ∨ ∃ c S2, nextM S = some c ∧ c.write = false ∧ 1 ≤ c.requests.length ∧ 0 ≤ c.page ∧ c.page < 16 ∧ 1 ≤ c.count ∧ c.count ≤ 4 ∧ done + c.requests.length ≤ total ∧ completeM (stepM S).2 0 false = (true, S2) ∧ S2.last = S.last ∧ ((c.page ≤ last ∧ turned = false ∧ c.page ≤ h ∧ SweepS S2 h (c.page + c.count - 1) true total (done + c.requests.length)) ∨ (last < c.page ∧ (turned = true → c.page ≤ h) ∧ SweepS S2 h (c.page + c.count - 1) turned total (done + c.requests.length))) := by
  rcases H.calm.next with ⟨e, h2⟩ | ⟨c, hn, hc⟩
  · refine Or.inl ⟨e, ?_⟩
    have hw : waits S = 0 := by
      unfold waits
      rw [List.length_eq_zero_iff, List.filter_eq_nil_iff]
      intro r hr; rw [h2 r hr]; decide
    have := H.wt; omega
  · obtain ⟨S2, d1, d2, d3, d4, d5, d6, d7⟩ := H.calm.done hn hc
    obtain ⟨g1, g2, g3⟩ := hc.g.c1
    have hpp := hc.page
    have hhd := H.head
    have hwh := H.calm.wf.head
    have hp0 := hc.g.all c.page (by omega) (by omega)
    have hl1 : 1 ≤ c.requests.length := by
      obtain ⟨r, hr, hr0, hrp⟩ := waitAt_ne.1 hp0
      have := (hc.g.mem r.num).2 ⟨r, hr, rfl, hr0, by omega, by omega⟩
      exact List.length_pos_of_mem this
    have hnear : ∀ q, waitAt S q ≠ [] → (c.page - S.head) % 16 ≤ (q - S.head) % 16 ∧ 0 ≤ q ∧ q < 16 := fun q hq => by
      obtain ⟨r, hr, hr0, hrp⟩ := waitAt_ne.1 hq
      have := hc.near r hr hr0
      have h3 := (H.calm.wf.rq r hr).page
      rw [hrp] at this h3
      exact ⟨this, h3⟩
    have hS2 : ∀ q, waitAt S2 q ≠ [] → ¬ (c.page ≤ q ∧ q < c.page + c.count) ∧ waitAt S q ≠ [] := fun q hq => by
      rw [waitAt_len, d6] at hq
      split at hq
      · omega
      · exact ⟨by assumption, waitAt_len.2 hq⟩
    have hwt : waits S2 + (done + c.requests.length) = total := by
      have := H.wt
      have h3 : waits S2 + c.requests.length = waits S := d7
      omega
    refine Or.inr ⟨c, S2, hn, hc.write, hl1, hpp.1, hpp.2, g1, g2, by omega, d1, d4, ?_⟩
    by_cases hle : c.page ≤ last
    · cases turned with
      | true =>
        have := H.dn rfl c.page hp0
        omega
      | false =>
        obtain ⟨u1, u2⟩ := H.up rfl
        have hph : c.page ≤ h := by
          by_cases e : c.page ≤ h
          · exact e
          · exact absurd (u2 c.page (by omega) hle) hp0
        refine Or.inl ⟨hle, rfl, hph, d2, by rw [d3]; omega, fun e => (by cases e), fun _ q hq => ?_, hwt⟩
        obtain ⟨n1, n2⟩ := hS2 q hq
        obtain ⟨m1, m2, m3⟩ := hnear q n2
        have hql : q ≤ last := by omega
        have hqh : q ≤ h := by
          by_cases e : q ≤ h
          · exact e
          · exact absurd (u2 q (by omega) hql) n2
        omega
    · refine Or.inr ⟨by omega, fun e => (H.dn e c.page hp0).2, d2, by rw [d3]; omega, fun e => ?_, fun e q hq => ?_, hwt⟩
      · obtain ⟨u1, u2⟩ := H.up e
        refine ⟨by omega, fun q h1 h2 => ?_⟩
        by_cases hq : waitAt S2 q = []
        · exact hq
        · obtain ⟨n1, n2⟩ := hS2 q hq
          obtain ⟨m1, m2, m3⟩ := hnear q n2
          by_cases e1 : q ≤ last
          · exact absurd (u2 q h1 e1) n2
          · omega
      · obtain ⟨n1, n2⟩ := hS2 q hq
        obtain ⟨m1, m2, m3⟩ := hnear q n2
        have := H.dn e q n2
        omega
end
end Go.Proofs.YtiabdbeejkadnaaDoor

/- The keeps: Joined. Own work of the verifier. -/
namespace Go.Proofs.YtiabdbeejkadnaaDoor
open Go.RowKit Go.Maps

/-- what stands while requests are asked for -/
structure AskJ (w W : World) (wb xb : Nat) (wr : Bool) (lo hi : Int) (m : Nat) : Prop where
  ex : ∃ F S rs, KWF w W F wb xb S rs ∧ JoinS S wr lo hi m ∧ S.head = 0 ∧ S.last = rs.length ∧ S.reqs.length = rs.length ∧ (rs.length : Int) = m * (hi - lo)
structure GoJ (w W : World) (wb xb : Nat) (wr : Bool) (lo hi : Int) (m : Nat) : Prop where
  ex : ∃ F S rs, KWF w W F wb xb S rs ∧ JoinS S wr lo hi m ∧ S.last ≤ 40
section
variable {w W : World} {wb xb : Nat} {wr : Bool} {lo hi : Int} {m : Nat}
theorem AskJ.go (h : AskJ w W wb xb wr lo hi m) (hb : (m : Int) * (hi - lo) ≤ 40) : GoJ w W wb xb wr lo hi m := by
  obtain ⟨F, S, rs, h1, h2, h3, h4, h5, h6⟩ := h.ex
  exact ⟨F, S, rs, h1, h2, by omega⟩
theorem GoJ.alloc (h : GoJ w W wb xb wr lo hi m) (o : Obj) : GoJ w (W.alloc o) wb xb wr lo hi m := by
  obtain ⟨F, S, rs, h1, h2, h3⟩ := h.ex
  exact ⟨F, S, rs, h1.alloc o, h2, h3⟩
theorem GoJ.q (h : GoJ w W wb xb wr lo hi m) : W.cell? ⟨wb, 0, none⟩ = some (.pointer (some ⟨xb, 0, none⟩)) ∧ wb < W.heap.size := by
  obtain ⟨F, S, rs, h1, h2, h3⟩ := h.ex
  exact h1.q
theorem GoJ.bel (h : GoJ w W wb xb wr lo hi m) : Below w.heap.size w W := by
  obtain ⟨F, S, rs, h1, h2, h3⟩ := h.ex
  exact h1.bel
theorem kj_ask1 (v : UInt8) (h : AskJ w W wb xb true (lo + 1) hi 1) (h0 : 0 ≤ lo) (h1 : lo < hi) (h2 : hi ≤ 16) :
    Calls Tryd.prog 10 #[.pointer (some ⟨wb, 0, none⟩), .bool true, .int .i64 lo, .int .u8 v.toNat] W fun e w' => e = .returned (.bool true) ∧ AskJ w w' wb xb true lo hi 1 := by
  obtain ⟨F, S, rs, g1, g2, g3, g4, g5, g6⟩ := h.ex
  refine (kw_ask w W F wb xb S rs true lo v g1 g4 (by omega) (by omega) (by rw [g2.calm.told]; simp; omega)).mono ?_
  rintro e w1 ⟨f1, f2, _⟩
  have hJ := g2.ask1 h0 h1 h2 g3 (by omega) (kdata v rs.length) (kdata_size _ _)
  refine ⟨f1, _, _, _, f2, hJ, g3, ?_, ?_, ?_⟩
  · show S.last + 1 = _; rw [g4]; simp
  · show (S.reqs ++ [_]).length = _; simp [g5]
  · simp; omega
theorem kj_ask2a (v : UInt8) (h : AskJ w W wb xb false (lo + 1) hi 2) (h0 : 0 ≤ lo) (h1 : lo < hi) (h2 : hi ≤ 16) :
    Calls Tryd.prog 10 #[.pointer (some ⟨wb, 0, none⟩), .bool false, .int .i64 lo, .int .u8 v.toNat] W fun e w' => e = .returned (.bool true) ∧ Calls Tryd.prog 10 #[.pointer (some ⟨wb, 0, none⟩), .bool false, .int .i64 lo, .int .u8 0] w' fun e w' => e = .returned (.bool true) ∧ AskJ w w' wb xb false lo hi 2 := by
  obtain ⟨F, S, rs, g1, g2, g3, g4, g5, g6⟩ := h.ex
  refine (kw_ask w W F wb xb S rs false lo v g1 g4 (by omega) (by omega) (by rw [g2.calm.told]; simp; omega)).mono ?_
  rintro e w1 ⟨f1, f2, _⟩
  refine ⟨f1, ?_⟩
  have hc := g2.calm.told
  refine (kw_ask w w1 _ wb xb _ _ false lo 0 f2 (by show S.last + 1 = _; rw [g4]; simp) (by simp; omega) (by omega) (by show ¬ 40 ≤ (((S.reqs ++ [_]).length : Nat) : Int) - S.told.length; rw [hc]; simp; omega)).mono ?_
  rintro e w2 ⟨e1, e2, _⟩
  have hJ := g2.ask2 h0 h1 h2 g3 (by omega) ⟨#[]⟩
  refine ⟨e1, _, _, _, e2, hJ, g3, ?_, ?_, ?_⟩
  · show S.last + 1 + 1 = _; rw [g4]; simp; omega
  · show ((S.reqs ++ [_]) ++ [_]).length = _; simp [g5]
  · simp; omega
theorem kj_step (h : GoJ w W wb xb wr lo hi m) (hm : 0 < m) (h0 : 0 ≤ lo) (hlt : lo < hi) (h16 : hi ≤ 16) (mm : Int) (hmm : mm = min 4 (hi - lo)) :
    Calls Tryd.prog 11 #[.pointer (some ⟨xb, 0, none⟩)] W fun e w' => (∃ ao L cap, e = .returned (.tuple #[.agg #[.bool wr, .int .i64 lo, .int .i64 mm, .slice ao L cap], .bool true]) ∧ (L : Int) = m * mm) ∧ (w'.cell? ⟨wb, 0, none⟩ = some (.pointer (some ⟨xb, 0, none⟩)) ∧ wb < w'.heap.size) ∧ ∀ o, Calls Tryd.prog 12 #[.pointer (some ⟨xb, 0, none⟩), .int .i64 0, .bool false] (w'.alloc o) fun e w' => (∃ v, e = .returned v) ∧ GoJ w w' wb xb wr (lo + mm) hi m := by
  obtain ⟨F, S, rs, g1, g2, g3⟩ := h.ex
  obtain ⟨c, S2, d1, d2, d3, d4, d5, d6, d7, d8, _⟩ := g2.step hm h0 hlt h16
  have := kw_step w W F wb xb S rs g1 (by omega)
  rw [d1] at this
  refine this.mono ?_
  rintro e w1 ⟨⟨ao, cap, rfl⟩, f2, _⟩
  refine ⟨⟨ao, c.requests.length, cap, ?_, by rw [d5, d3, hmm]⟩, f2.q, fun o => ?_⟩
  · simp only [Option.getD_some, Option.isSome_some, d2, d3, d4, hmm]
  · have hs := stepM_same S
    refine (kw_complete w _ _ wb xb _ rs 0 false (f2.alloc o) (by rw [hs.2, g2.calm.now]; omega) (by rw [hs.1]; omega)).mono ?_
    rintro e w2 ⟨e1, e2, _⟩
    rw [d6] at e2
    rw [d3, ← hmm] at d7
    exact ⟨⟨_, e1⟩, _, S2, rs, e2, d7, by omega⟩
theorem kj_last (h : GoJ w W wb xb wr lo hi m) (hle : hi ≤ lo) :
    Calls Tryd.prog 11 #[.pointer (some ⟨xb, 0, none⟩)] W fun e w' => (∃ ao cap, e = .returned (.tuple #[.agg #[.bool false, .int .i64 0, .int .i64 0, .slice ao 0 cap], .bool false])) ∧ Below w.heap.size w w' := by
  obtain ⟨F, S, rs, g1, g2, g3⟩ := h.ex
  have := kw_step w W F wb xb S rs g1 (by omega)
  rw [g2.none hle] at this
  refine this.mono ?_
  rintro e w1 ⟨h1, h2, _⟩
  exact ⟨h1, h2.bel⟩
end
set_option maxHeartbeats 4000000 in
set_option maxRecDepth 1000000 in
theorem joined_walk (src n write : Int) (w : World) (hg : GCell w) (h1 : -9223372036854775808 ≤ src ∧ src ≤ 9223372036854775807) (h2 : -9223372036854775808 ≤ n ∧ n ≤ 9223372036854775807) (h3 : -9223372036854775808 ≤ write ∧ write ≤ 9223372036854775807) :
    Calls Tryd.prog 6 #[.int .i64 src, .int .i64 n, .int .i64 write] w fun e w' => e = .returned (.bool true) ∧ Below w.heap.size w w' := by
  have HP1 : Hid (∀ W, Calls Tryd.prog 9 #[.int .i64 write, .int .i64 2] W fun e w' => e = .returned (.int .i64 (kpickM write 2)) ∧ w' = W) := fun W => keep_pick write 2 W h3 (by omega) (by omega)
  have HP2 : Hid (∀ W, Calls Tryd.prog 9 #[.int .i64 src, .int .i64 16] W fun e w' => e = .returned (.int .i64 (kpickM src 16)) ∧ w' = W) := fun W => keep_pick src 16 W h1 (by omega) (by omega)
  have hq := kpickM_lt src 16 (by omega)
  have HP3 : Hid (∀ W, Calls Tryd.prog 9 #[.int .i64 n, .int .i64 (16 - kpickM src 16)] W fun e w' => e = .returned (.int .i64 (kpickM n (16 - kpickM src 16))) ∧ w' = W) := fun W => keep_pick n (16 - kpickM src 16) W h2 (by omega) (by omega)
  have HBG := hide (kw_begun w 0 hg (by omega))
  rw [show kpickM 0 4 = 0 from rfl, show (1 : Int) + 0 = 1 from rfl] at HBG
  have hn := kpickM_lt n (16 - kpickM src 16) (by omega)
  generalize kpickM write 2 = pw at *
  generalize kpickM src 16 = p0 at *
  obtain ⟨p, rfl⟩ := Int.eq_ofNat_of_zero_le hq.1
  generalize kpickM n (16 - (p : Int)) = c0 at *
  obtain ⟨c, rfl⟩ := Int.eq_ofNat_of_zero_le hn.1
  clear h1 h2 h3 hg
  go_enter Tryd.func6, Tryd.ntmps6
  go_wp2_with fail
  refine HBG.out.mono ?_
  rintro e w1 ⟨wb, xb, rfl, F1, hk1⟩
  have HK1 := hide hk1
  clear hk1 HBG
  go_wp2_with fail
  refine (HP1.out _).mono ?_
  rintro e w2 ⟨rfl, hw2⟩
  have hw2 := hw2.symm
  subst hw2
  generalize hwb : (pw == 1) = wrb at *
  go_wp2_with fail
  refine (HP2.out _).mono ?_
  rintro e w2 ⟨rfl, hw2⟩
  have hw2 := hw2.symm
  subst hw2
  go_wp2_with fail
  refine (HP3.out _).mono ?_
  rintro e w2 ⟨rfl, hw2⟩
  have hw2 := hw2.symm
  subst hw2
  cases wrb with
  | true =>
    have HA0 : Hid (AskJ w w1 wb xb true ((p : Int) + (1 + c : Nat)) ((p : Int) + (1 + c : Nat)) 1) := ⟨F1, _, [], HK1.out, JoinS.new true _ 1 (by omega), rfl, rfl, rfl, by simp⟩
    clear HK1
    go_wp2
    go_loopw [8, 12] (fun _ vi wr => ∃ j : Nat, j ≤ 1 + c ∧ vi = .int .i64 ((j : Int) - 1) ∧ Hid (AskJ w wr wb xb true ((p : Int) + j) ((p : Int) + (1 + c : Nat)) 1)) (fun _ vi _ => ((intOf vi) + 1).toNat)
    case atStart => exact ⟨1 + c, by omega, by go_num, HA0⟩
    case round =>
      clear HA0
      obtain ⟨j, hj, hvi, hA⟩ := hrel
      cases j with
      | zero =>
        have hvi' : u12 = .int .i64 (-1) := hvi
        subst hvi'
        clear hvi
        have HG : Hid (GoJ w wr wb xb true ((p : Int) + (1 + c : Nat) - (1 + c : Nat)) ((p : Int) + (1 + c : Nat)) 1) := by
          have := hA.out.go (by omega)
          rw [show (p : Int) + (0 : Nat) = (p : Int) + (1 + c : Nat) - (1 + c : Nat) by omega] at this
          exact this
        clear hA
        go_wp2
        go_loopw [13] (fun vl wl => ∃ left : Nat, left ≤ 1 + c ∧ vl = .int .i64 left ∧ Hid (GoJ w wl wb xb true ((p : Int) + (1 + (c : Int)) - left) ((p : Int) + (1 + (c : Int))) 1)) (fun vl _ => (intOf vl).toNat)
        case atStart => exact ⟨1 + c, by omega, by go_num, by rw [Hid, show (p : Int) + (1 + (c : Int)) - ((1 + c : Nat) : Int) = (p : Int) + (1 + c : Nat) - (1 + c : Nat) by omega, show (p : Int) + (1 + (c : Int)) = (p : Int) + (1 + c : Nat) by omega]; exact HG.out⟩
        case round =>
          clear HG
          obtain ⟨left, hl, rfl, hG⟩ := hrel
          have HQ := hide hG.out.q
          obtain ⟨q0, qz0⟩ := HQ.out
          have hpg : (((p : Int) + (1 + (c : Int)) - left) != ((p : Int) + (1 + (c : Int)) - left)) = false := by simp
          by_cases hlt : 0 < left
          · have hlti : (0 : Int) < (left : Int) := by omega
            by_cases h4 : 4 < left
            · have h4i : (4 : Int) < (left : Int) := by omega
              have HST := hide (kj_step hG.out (by omega) (by omega) (by omega) (by omega) 4 (by omega))
              clear hG q0 qz0
              obtain ⟨q0, qz⟩ := HQ.out
              go_wp2_with fail
              refine HST.out.mono ?_
              clear q0 qz
              rintro e w4 ⟨⟨ao, L, cap, rfl, hL⟩, ⟨q0, qz⟩, hC⟩
              have HC := hide hC
              obtain rfl : L = 4 := by omega
              clear hC hL HST
              go_wp2_with fail
              refine (HC.out _).mono ?_
              rintro e w5 ⟨⟨v, rfl⟩, hG2⟩
              have HG2 := hide hG2
              clear hG2 HC
              go_wp2
              go_roundw
              case rel => exact ⟨left - 4, by omega, by go_num, by rw [Hid, show (p : Int) + (1 + (c : Int)) - ((left - 4 : Nat) : Int) = (p : Int) + (1 + (c : Int)) - left + 4 by omega]; exact HG2.out⟩
              case measure => simp [intOf]; omega
            · have h4i : ¬ (4 : Int) < (left : Int) := by omega
              have h4j : (left : Int) ≤ 4 := by omega
              have HST := hide (kj_step hG.out (by omega) (by omega) (by omega) (by omega) (left : Int) (by omega))
              clear hG q0 qz0
              obtain ⟨q0, qz⟩ := HQ.out
              go_wp2_with fail
              refine HST.out.mono ?_
              clear q0 qz
              rintro e w4 ⟨⟨ao, L, cap, rfl, hL⟩, ⟨q0, qz⟩, hC⟩
              have HC := hide hC
              obtain rfl : left = L := by omega
              have hl1 : ((left : Int) != (left : Int)) = false := by simp
              clear hC hL HST
              go_wp2_with fail
              refine (HC.out _).mono ?_
              rintro e w5 ⟨⟨v, rfl⟩, hG2⟩
              have HG2 := hide hG2
              clear hG2 HC
              go_wp2
              go_roundw
              case rel => exact ⟨0, by omega, by go_num, by rw [Hid, show (p : Int) + (1 + (c : Int)) - ((0 : Nat) : Int) = (p : Int) + (1 + (c : Int)) - left + (left : Int) by omega]; exact HG2.out⟩
              case measure => simp [intOf]; omega
          · have hl0 : left = 0 := by omega
            subst hl0
            have HST := hide (kj_last hG.out (by omega))
            clear hG
            go_wp2_with fail
            refine HST.out.mono ?_
            rintro e w4 ⟨⟨ao, cap, rfl⟩, hb⟩
            have HB := hide hb
            clear hb HST q0 qz0
            go_wp2
            go_ret
            exact ⟨rfl, HB.out.trans ((alloc_below _ _).mono HB.out.size)⟩
      | succ i =>
        have hvi' : u12 = .int .i64 (i : Int) := hvi.trans (by rw [show ((i + 1 : Nat) : Int) - 1 = (i : Int) by omega])
        subst hvi'
        clear hvi
        have hii : (0 : Int) ≤ (i : Int) := by omega
        have HASK : Hid (Calls Tryd.prog 10 #[.pointer (some ⟨wb, 0, none⟩), .bool true, .int .i64 ((p : Int) + i), .int .u8 (i : Int)] wr fun e w' => e = .returned (.bool true) ∧ AskJ w w' wb xb true ((p : Int) + i) ((p : Int) + (1 + c : Nat)) 1) := by
          have := kj_ask1 (w := w) (W := wr) (wb := wb) (xb := xb) (lo := (p : Int) + i) (hi := (p : Int) + (1 + c : Nat)) (UInt8.ofNat i) (by rw [show (p : Int) + i + 1 = (p : Int) + (i + 1 : Nat) by omega]; exact hA.out) (by omega) (by omega) (by omega)
          rw [show ((UInt8.ofNat i).toNat : Int) = (i : Int) by simp [UInt8.toNat_ofNat']; omega] at this
          exact this
        clear hA
        go_wp2_with fail
        refine HASK.out.mono ?_
        rintro e w4 ⟨rfl, hA2⟩
        have HA2 := hide hA2
        clear hA2 HASK
        go_wp2
        go_roundw
        case rel => exact ⟨i, by omega, by go_num, HA2⟩
        case measure => simp [intOf]
  | false =>
    have HA0 : Hid (AskJ w w1 wb xb false ((p : Int) + (1 + c : Nat)) ((p : Int) + (1 + c : Nat)) 2) := ⟨F1, _, [], HK1.out, JoinS.new false _ 2 (by omega), rfl, rfl, rfl, by simp⟩
    clear HK1
    go_wp2
    go_loopw [8, 12] (fun _ vi wr => ∃ j : Nat, j ≤ 1 + c ∧ vi = .int .i64 ((j : Int) - 1) ∧ Hid (AskJ w wr wb xb false ((p : Int) + j) ((p : Int) + (1 + c : Nat)) 2)) (fun _ vi _ => ((intOf vi) + 1).toNat)
    case atStart => exact ⟨1 + c, by omega, by go_num, HA0⟩
    case round =>
      clear HA0
      obtain ⟨j, hj, hvi, hA⟩ := hrel
      cases j with
      | zero =>
        have hvi' : u12 = .int .i64 (-1) := hvi
        subst hvi'
        clear hvi
        have HG : Hid (GoJ w wr wb xb false ((p : Int) + (1 + c : Nat) - (1 + c : Nat)) ((p : Int) + (1 + c : Nat)) 2) := by
          have := hA.out.go (by omega)
          rw [show (p : Int) + (0 : Nat) = (p : Int) + (1 + c : Nat) - (1 + c : Nat) by omega] at this
          exact this
        clear hA
        go_wp2
        go_loopw [13] (fun vl wl => ∃ left : Nat, left ≤ 1 + c ∧ vl = .int .i64 left ∧ Hid (GoJ w wl wb xb false ((p : Int) + (1 + (c : Int)) - left) ((p : Int) + (1 + (c : Int))) 2)) (fun vl _ => (intOf vl).toNat)
        case atStart => exact ⟨1 + c, by omega, by go_num, by rw [Hid, show (p : Int) + (1 + (c : Int)) - ((1 + c : Nat) : Int) = (p : Int) + (1 + c : Nat) - (1 + c : Nat) by omega, show (p : Int) + (1 + (c : Int)) = (p : Int) + (1 + c : Nat) by omega]; exact HG.out⟩
        case round =>
          clear HG
          obtain ⟨left, hl, rfl, hG⟩ := hrel
          have HQ := hide hG.out.q
          obtain ⟨q0, qz0⟩ := HQ.out
          have hpg : (((p : Int) + (1 + (c : Int)) - left) != ((p : Int) + (1 + (c : Int)) - left)) = false := by simp
          by_cases hlt : 0 < left
          · have hlti : (0 : Int) < (left : Int) := by omega
            by_cases h4 : 4 < left
            · have h4i : (4 : Int) < (left : Int) := by omega
              have HST := hide (kj_step hG.out (by omega) (by omega) (by omega) (by omega) 4 (by omega))
              clear hG q0 qz0
              obtain ⟨q0, qz⟩ := HQ.out
              go_wp2_with fail
              refine HST.out.mono ?_
              clear q0 qz
              rintro e w4 ⟨⟨ao, L, cap, rfl, hL⟩, ⟨q0, qz⟩, hC⟩
              have HC := hide hC
              obtain rfl : L = 8 := by omega
              clear hC hL HST
              go_wp2_with fail
              refine (HC.out _).mono ?_
              rintro e w5 ⟨⟨v, rfl⟩, hG2⟩
              have HG2 := hide hG2
              clear hG2 HC
              go_wp2
              go_roundw
              case rel => exact ⟨left - 4, by omega, by go_num, by rw [Hid, show (p : Int) + (1 + (c : Int)) - ((left - 4 : Nat) : Int) = (p : Int) + (1 + (c : Int)) - left + 4 by omega]; exact HG2.out⟩
              case measure => simp [intOf]; omega
            · have h4i : ¬ (4 : Int) < (left : Int) := by omega
              have h4j : (left : Int) ≤ 4 := by omega
              have HST := hide (kj_step hG.out (by omega) (by omega) (by omega) (by omega) (left : Int) (by omega))
              clear hG q0 qz0
              obtain ⟨q0, qz⟩ := HQ.out
              go_wp2_with fail
              refine HST.out.mono ?_
              clear q0 qz
              rintro e w4 ⟨⟨ao, L, cap, rfl, hL⟩, ⟨q0, qz⟩, hC⟩
              have HC := hide hC
              obtain rfl : 2 * left = L := by omega
              have hl1 : ((left : Int) != (left : Int)) = false := by simp
              have hl2 : (((2 * left : Nat) : Int) != 2 * (left : Int)) = false := by simp
              have hl3 : ((2 * (left : Int)) != 2 * (left : Int)) = false := by simp
              clear hC hL HST
              go_wp2_with fail
              refine (HC.out _).mono ?_
              rintro e w5 ⟨⟨v, rfl⟩, hG2⟩
              have HG2 := hide hG2
              clear hG2 HC
              go_wp2
              go_roundw
              case rel => exact ⟨0, by omega, by go_num, by rw [Hid, show (p : Int) + (1 + (c : Int)) - ((0 : Nat) : Int) = (p : Int) + (1 + (c : Int)) - left + (left : Int) by omega]; exact HG2.out⟩
              case measure => simp [intOf]; omega
          · have hl0 : left = 0 := by omega
            subst hl0
            have HST := hide (kj_last hG.out (by omega))
            clear hG
            go_wp2_with fail
            refine HST.out.mono ?_
            rintro e w4 ⟨⟨ao, cap, rfl⟩, hb⟩
            have HB := hide hb
            clear hb HST q0 qz0
            go_wp2
            go_ret
            exact ⟨rfl, HB.out.trans ((alloc_below _ _).mono HB.out.size)⟩
      | succ i =>
        have hvi' : u12 = .int .i64 (i : Int) := hvi.trans (by rw [show ((i + 1 : Nat) : Int) - 1 = (i : Int) by omega])
        subst hvi'
        clear hvi
        have hii : (0 : Int) ≤ (i : Int) := by omega
        have HASK : Hid (Calls Tryd.prog 10 #[.pointer (some ⟨wb, 0, none⟩), .bool false, .int .i64 ((p : Int) + i), .int .u8 (i : Int)] wr fun e w' => e = .returned (.bool true) ∧ Calls Tryd.prog 10 #[.pointer (some ⟨wb, 0, none⟩), .bool false, .int .i64 ((p : Int) + i), .int .u8 0] w' fun e w' => e = .returned (.bool true) ∧ AskJ w w' wb xb false ((p : Int) + i) ((p : Int) + (1 + c : Nat)) 2) := by
          have := kj_ask2a (w := w) (W := wr) (wb := wb) (xb := xb) (lo := (p : Int) + i) (hi := (p : Int) + (1 + c : Nat)) (UInt8.ofNat i) (by rw [show (p : Int) + i + 1 = (p : Int) + (i + 1 : Nat) by omega]; exact hA.out) (by omega) (by omega) (by omega)
          rw [show ((UInt8.ofNat i).toNat : Int) = (i : Int) by simp [UInt8.toNat_ofNat']; omega] at this
          exact this
        clear hA
        go_wp2_with fail
        refine HASK.out.mono ?_
        rintro e w4 ⟨rfl, hA1⟩
        have HA1 := hide hA1
        clear hA1 HASK
        go_wp2_with fail
        refine HA1.out.mono ?_
        rintro e w5 ⟨rfl, hA2⟩
        have HA2 := hide hA2
        clear hA2 HA1
        go_wp2
        go_roundw
        case rel => exact ⟨i, by omega, by go_num, HA2⟩
        case measure => simp [intOf]
end Go.Proofs.YtiabdbeejkadnaaDoor

/- The keep Joined: the row and its tied card. Own work of the verifier. -/
namespace Go.Proofs.YtiabdbeejkadnaaDoor
open Go.ChangeShapes Go.WideShapes Go.RowKit

theorem kOwn : ownKnob Tryd.prog.godebug = none := by kernel_rfl
theorem kEt : Tryd.prog.globalNamed "errors.errorType" = some 0 := by kernel_rfl
theorem kRt : (Tryd.prog.cutTypes.find? (·.1 == "internal/reflectlite.rtype")).map (·.2) = some 124 := by kernel_rfl
theorem kOneRow : ((List.range 200).filter fun t => Tryd.prog.rowNamed t [101, 114, 114, 111, 114]) = [55] := by kernel_rfl
theorem kSize : Tryd.prog.types.size = 200 := by kernel_rfl

theorem handle_of_laid {W : World} (h : laidMetH Tryd.prog Rows.joinedRow.laid W) : W.cell? ⟨0, 0, none⟩ = some (.iface 124 (.agg #[.pointer (some ⟨1, 55, none⟩)])) := by
  have h' : laidMet Tryd.prog [] W ∧ handlesMet Tryd.prog Rows.joinedRow.laid W := h
  obtain ⟨name, u, ty, e1, e2, e3, e4, e5⟩ := h'.2 _ (List.mem_singleton.2 rfl)
  have en : name = [101, 114, 114, 111, 114] := (Option.some.inj e1).symm
  subst en
  obtain rfl := Option.some.inj (kRt.symm.trans e2)
  have hm : ty ∈ (List.range 200).filter fun t => Tryd.prog.rowNamed t [101, 114, 114, 111, 114] := List.mem_filter.2 ⟨List.mem_range.2 (by rw [← kSize]; exact e3), e4⟩
  rw [kOneRow] at hm
  obtain rfl := List.mem_singleton.1 hm
  have hh : typeHandle Tryd.prog 55 = .pointer (some ⟨1, 55, none⟩) := by kernel_rfl
  rw [hh] at e5
  simpa using World.var?_cell kEt e5 0

noncomputable def laidWorld (os : Os) : World :=
  let w0 := World.holding Tryd.prog os ⟨#[], #[], []⟩
  { w0 with heap := w0.heap.modify 0 fun
      | .cells _ t frozen => .cells #[.iface 124 (.agg #[.pointer (some ⟨1, 55, none⟩)])] t frozen
      | o => o }
theorem laidWorld_met (os : Os) (args : Array Value) : laidMetH Tryd.prog Rows.joinedRow.laid ((laidWorld os).forCall (fun _ _ => 0) ⟨#[], args, []⟩).memory :=
  laidMetH_of_parts (laidMet_nil _ _) (by kernel_rfl)

theorem wf_range {x : Int} (h : (Lit.int .i64 x).wf = true) : -9223372036854775808 ≤ x ∧ x ≤ 9223372036854775807 := by
  simp only [Lit.wf, Bool.and_eq_true, decide_eq_true_eq] at h
  have e1 : IntKind.i64.min = -9223372036854775808 := by decide
  have e2 : IntKind.i64.max = 9223372036854775807 := by decide
  rw [e1, e2] at h
  exact h
theorem laidOut : laidOutB Tryd.prog = true := by kernel_rfl
set_option maxRecDepth 100000 in
theorem joined_lifted (os : Os) (started : os.Started) (H : Type) (enc : TypeId × Value → H) :
    ReturnsInHanded {} Tryd.checked os 6 .any (fun w args => (Rows.joinedSpec.pre enc Tryd.prog Tryd.f6 [] false w args ∧ laidMetH Tryd.prog Rows.joinedRow.laid w) ∧ sizedMet enc Tryd.prog Tryd.f6 (OpenSpec.ofChange Rows.joinedSpec) false w args)
      (Rows.joinedSpec.post enc Tryd.prog Tryd.f6 false true false false) := by
  refine returnsInHanded_of_change_and (C := Tryd.checked) (X := fun w _ => laidMetH Tryd.prog Rows.joinedRow.laid w) (fun _ _ _ hh h => h.of_heap hh) kOwn started (by kernel_rfl) Tryd.func6
    (ChangeSpec.witness_at (enc := enc) (C := Tryd.checked) (os := os) (X := fun w _ => laidMetH Tryd.prog Rows.joinedRow.laid w) false (laidWorld os) #[.int .i64 0, .int .i64 0, .int .i64 0] 8 rfl (by kernel_rfl) (by kernel_rfl) (by kernel_rfl) (by kernel_rfl) (by kernel_rfl) (laidWorld_met os _)) ?_
  intro W base args ds gs before hval0 hW _ hsz0 hL _
  have hsz : (DataW.weightsEach Tryd.prog (Tryd.f6.params.toList ++ Rows.joinedSpec.plain.varTypes Tryd.prog) (ds ++ gs)).all (· ≤ reachBytes) = true := hsz0
  have hval : ∀ (j : Nat) t v, Tryd.f6.params[j]? = some t → args[j]? = some v → Value.okWide Tryd.prog W .any base t v := hval0
  clear hsz0 hval0
  have hW' := hW
  obtain ⟨p, q, hA0, hV, rfl, hfz, hnd⟩ := hW
  have hA : DataW.TrodAll enc Tryd.prog W 0 (fun _ => true) true Tryd.f6.params.toList args.toList ds p := hA0
  rw [Tryd.params6] at hA hsz hval
  obtain ⟨v0, v1, v2, d0, d1, d2, p0, p1, p2, rfl, rfl, rfl, h0, h1, h2⟩ := trodAll_three hA
  obtain ⟨x0, rfl, rfl, rfl, hw0⟩ := open_int Tryd.underlying3 (hval 0 _ _ rfl rfl) h0
  obtain ⟨x1, rfl, rfl, rfl, hw1⟩ := open_int Tryd.underlying3 (hval 1 _ _ rfl rfl) h1
  obtain ⟨x2, rfl, rfl, rfl, hw2⟩ := open_int Tryd.underlying3 (hval 2 _ _ rfl rfl) h2
  obtain ⟨rfl, rfl⟩ := trodVars_none hV
  clear hA0 hA
  simp only [List.append_nil] at hW' hsz
  have hg : GCell W := handle_of_laid hL
  refine (joined_walk x0 x1 x2 W hg (wf_range hw0) (wf_range hw1) (wf_range hw2)).mono ?_
  rintro e W' ⟨rfl, hb⟩
  have e1 : Rows.joinedSpec.fn H ([.lit (.int .i64 x0), .lit (.int .i64 x1), .lit (.int .i64 x2)] ++ []) = { results := [.lit (.bool true)], args := [.lit (.int .i64 x0), .lit (.int .i64 x1), .lit (.int .i64 x2)] } := by simp [Rows.joinedSpec]
  refine ⟨_, rfl, _, _, _, [], [], [], hW', ?_, ?_, ?_, hb.frame _, fun h => by cases h⟩
  · rw [e1]; exact trodAll_mk1 (shut_bool Tryd.underlying4 true)
  · rw [e1]; exact trodAll_mk3 (shut_int Tryd.underlying3 hw0) (shut_int Tryd.underlying3 hw1) (shut_int Tryd.underlying3 hw2)
  · rw [e1]; rfl

theorem joined_said : Rows.JoinedSaid :=
  OpenClaim.holds_of_wide 6 Tryd.f6 rfl rfl rfl rfl rfl rfl rfl ⟨rfl, rfl, rfl, rfl, rfl⟩ rfl rfl rfl rfl rfl (by kernel_rfl) Tryd.func6 (by kernel_rfl)
    (of_decide_eq_true (by kernel_rfl)) (by unfold Func.isWrapper; first | (rw [if_pos (by decide +kernel)]; kernel_rfl) | (rw [if_neg (by decide +kernel)]; exact ⟨rfl, rfl⟩))
    (fun os started H enc _ => joined_lifted os started H enc)

theorem joined_plain (f : FuncId) (fn : Func) (hf : Tryd.pinned.checked.prog.funcNamed "elevator/elevatorkeep.Joined" = some f) (hfn : Tryd.pinned.checked.prog.funcs[f]? = some fn) :
    true = Tryd.pinned.checked.prog.looks [] ∧ ∀ (j : Nat) t, fn.params[j]? = some t → Tryd.pinned.checked.prog.wantsStandIn t = false := by
  obtain rfl : f = 6 := Option.some.inj ((show Tryd.prog.funcNamed "elevator/elevatorkeep.Joined" = some 6 by kernel_rfl).symm.trans hf) |>.symm
  obtain rfl : fn = Tryd.f6 := (Option.some.inj (Tryd.func6.symm.trans hfn)).symm
  refine ⟨by kernel_rfl, fun j t ht => ?_⟩
  rw [Tryd.params6] at ht
  cases j with
  | zero =>
    have e : t = 3 := by simpa using ht.symm
    subst e
    show Tryd.prog.wantsStandIn 3 = false
    kernel_rfl
  | succ j =>
    cases j with
    | zero =>
      have e : t = 3 := by simpa using ht.symm
      subst e
      show Tryd.prog.wantsStandIn 3 = false
      kernel_rfl
    | succ j =>
      cases j with
      | zero =>
        have e : t = 3 := by simpa using ht.symm
        subst e
        show Tryd.prog.wantsStandIn 3 = false
        kernel_rfl
      | succ j =>
        simp at ht

/-- a tied card, whatever its cell 'goes' -/
theorem tied_at (Lk : Looks) {p : Pinned} {s : OpenSpec} {c : OpenClaim} (g : Bool) (kinds : List LaidKind) (tests : Bool) (har : Bool × String) (lk : Bool)
    (hc : c.holds p s) (hw : c.wfByText s = true) (htie : c.laidByTextAt Lk p kinds tests)
    (hst : c.start = .entering) (hnb : c.noBlocks = false ∧ c.again = false) (hm : p.checked.prog.mainIs = some (har.1, har.2.toList)) (hn : (!har.1 && har.2.isEmpty && !lk) = false)
    (hl : ∀ f fn, p.checked.prog.funcNamed c.func = some f → p.checked.prog.funcs[f]? = some fn → lk = p.checked.prog.looks [] ∧ ∀ (j : Nat) t, fn.params[j]? = some t → p.checked.prog.wantsStandIn t = false)
    (hg : g = c.goesBy p.checked.prog) :
    Claim7.holds p (.plain s) { stood := { row := c, standIns := [], harness := har, looks := lk }, kinds := [], alts := [], goes := g, laidByText := true, laidKinds := kinds, laidTests := tests, laidLooks := Lk } := by
  have h6 : ∀ r : OpenClaim, Claim7.isSixth { stood := { row := r, standIns := [], harness := har, looks := lk }, kinds := [] } = false := fun r => by simpa [Claim7.isSixth] using hn
  exact ⟨Claim7.tied_new_at Lk kinds tests (Claim7.new_of_sixth hc har lk hst hnb hm (h6 c) hl) hw, (fun D hD => by cases hD), htie, (fun h => by cases h), hg⟩
theorem joined_card : Rows.JoinedCardSaid :=
  tied_at .later _ _ _ _ _ joined_said (by kernel_rfl) joined_row_tie rfl ⟨rfl, rfl⟩ (by kernel_rfl) rfl joined_plain (by kernel_rfl)
#print axioms joined_card
end Go.Proofs.YtiabdbeejkadnaaDoor
