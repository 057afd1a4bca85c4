import Derived.Test.YtiabdbeejkadnabGreatDoorJf6a1e892ed
import Derived.Test.YtiabdbeejkadnabGreatDoorJc6dfd1b03d
import Derived.Test.YtiabdbeejkadnabGreatDoorJ0c3df23578
import Derived.Test.YtiabdbeejkadnabGreatDoorJ5d202420ae
/- The keeps: what a poll finds, what giving up finds. Own work of the verifier. -/
namespace Go.Proofs.YtiabdbeejkadnabGreatDoor
section
variable {S : St} {rs : List KR}
theorem set_self (rs : List KR) (i : Nat) (hi : i < rs.length) : rs.set i rs[i] = rs := by simp
/-- what a poll finds -/
theorem KInv.poll (h : KInv S rs) {i : Nat} (hi : i < rs.length) (hh : (rs[i]).how ≠ 1 ∧ (rs[i]).how ≠ 2) : ∃ s tr k S' r', pollM S (rs[i]).num = (s, tr, k, S') ∧ PollOut rs[i] s tr k r' ∧ KInv S' (rs.set i r') ∧ r'.num = (rs[i]).num := by
  rcases h.how _ (List.getElem_mem hi) with ⟨h1, r, hr, e1, e2, e3⟩ | ⟨h1, _⟩ | ⟨h1, h2⟩
  · obtain ⟨k, hk, hp, rfl⟩ := live_place h.wf.sorted hr e2
    have ok := h.wf.rq _ hr
    have tr := h.tr _ hr
    obtain ⟨x, hx, x1, x2, x3, x4⟩ := h.src _ hr
    have := h.uniq hx (List.getElem_mem hi) (x1.trans e1)
    subst this
    have hpm : pollM S (rs[i]).num = if (S.reqs[k]).state = 0 ∨ (S.reqs[k]).state = 1 then (⟨#[]⟩, (S.reqs[k]).tries, 6, S) else if (S.reqs[k]).state = 3 then (⟨#[]⟩, (S.reqs[k]).tries, 7, dropM S k) else if (S.reqs[k]).state = 4 then (⟨#[]⟩, (S.reqs[k]).tries, 8, dropM S k) else ((S.reqs[k]).answer, (S.reqs[k]).tries, 0, dropM S k) := by
      unfold pollM
      rw [← e1, hp, if_neg (by omega)]
      simp only [Int.toNat_natCast, getD_of hk]
    have hst := ok.st
    by_cases c01 : (S.reqs[k]).state = 0 ∨ (S.reqs[k]).state = 1
    · rw [if_pos c01] at hpm
      refine ⟨_, _, _, _, rs[i], hpm, Or.inr (Or.inr (Or.inl ⟨rfl, ok.tries.1, ?_, h1, rfl⟩)), by rw [set_self]; exact h, rfl⟩
      exact ok.tries3 (c01.elim Or.inl (fun e => Or.inr (ok.one e)))
    · rw [if_neg c01] at hpm
      by_cases c3 : (S.reqs[k]).state = 3
      · rw [if_pos c3] at hpm
        exact ⟨_, _, _, _, { rs[i] with how := 2 }, hpm, Or.inr (Or.inl ⟨rfl, tr.2 c3, rfl⟩), h.drop hk hi (by omega) e2 e1 _ ⟨rfl, rfl, rfl, rfl⟩ (Or.inr (Or.inl rfl)), rfl⟩
      · rw [if_neg c3, if_neg e3] at hpm
        have c2 : (S.reqs[k]).state = 2 := by omega
        refine ⟨_, _, _, _, { rs[i] with how := 1, read := (S.reqs[k]).answer }, hpm, Or.inl ⟨rfl, ?_, tr.1 c2, ok.tries.2, rfl⟩, h.drop hk hi (by omega) e2 e1 _ ⟨rfl, rfl, rfl, rfl⟩ (Or.inl rfl), rfl⟩
        rw [x2]
        cases hwr : (S.reqs[k]).write with
        | true => rw [ok.ansW hwr]; rfl
        | false => rw [ok.ansR hwr c2]; rfl
  · rcases h1 with e | e
    · exact absurd e hh.1
    · exact absurd e hh.2
  · by_cases hl : ∃ r ∈ S.reqs, r.num = (rs[i]).num ∧ r.num ∉ S.told
    · obtain ⟨r, hr, e1, e2⟩ := hl
      have e4 := h2 r hr e1 e2
      obtain ⟨k, hk, hp, rfl⟩ := live_place h.wf.sorted hr e2
      have hpm : pollM S (rs[i]).num = (⟨#[]⟩, (S.reqs[k]).tries, 8, dropM S k) := by
        unfold pollM
        rw [← e1, hp, if_neg (by omega)]
        simp only [Int.toNat_natCast, getD_of hk]
        rw [if_neg (by omega), if_neg (by omega), if_pos e4]
      exact ⟨_, _, _, _, rs[i], hpm, Or.inr (Or.inr (Or.inr ⟨Or.inl rfl, h1, rfl⟩)), h.drop hk hi (by omega) e2 e1 _ ⟨rfl, rfl, rfl, rfl⟩ (Or.inr (Or.inr h1)), rfl⟩
    · have hp := none_place (S := S) (n := (rs[i]).num) (fun r hr e1 => by
        by_cases hc : r.num ∈ S.told
        · exact hc
        · exact absurd ⟨r, hr, e1, hc⟩ hl)
      have hpm : pollM S (rs[i]).num = (⟨#[]⟩, 0, 5, S) := by unfold pollM; rw [hp, if_pos (by omega)]
      exact ⟨_, _, _, _, rs[i], hpm, Or.inr (Or.inr (Or.inr ⟨Or.inr rfl, h1, rfl⟩)), by rw [set_self]; exact h, rfl⟩
/-- what giving up finds -/
theorem KInv.give (h : KInv S rs) {i : Nat} (hi : i < rs.length) (air : Bool) : ∃ k t S', cancelM S (rs[i]).num = (k, t, S') ∧ ((k = 0 ∧ (rs[i]).how = 0 ∧ KInv S' (rs.set i { rs[i] with how := if air then 4 else 3 })) ∨ ((k = 9 ∨ k = 5) ∧ S' = S)) := by
  by_cases hl : ∃ r ∈ S.reqs, r.num = (rs[i]).num ∧ r.num ∉ S.told
  · obtain ⟨r, hr, e1, e2⟩ := hl
    obtain ⟨k, hk, hp, rfl⟩ := live_place h.wf.sorted hr e2
    have hcm : cancelM S (rs[i]).num = if 2 ≤ (S.reqs[k]).state then (9, (S.reqs[k]).tries, S) else (0, 0, { S with reqs := setState S.reqs k 4 }) := by
      unfold cancelM
      rw [← e1, hp, if_neg (by omega)]
      simp only [Int.toNat_natCast, getD_of hk]
    by_cases c2 : 2 ≤ (S.reqs[k]).state
    · rw [if_pos c2] at hcm
      exact ⟨_, _, _, hcm, Or.inr ⟨Or.inl rfl, rfl⟩⟩
    · rw [if_neg c2] at hcm
      refine ⟨_, _, _, hcm, Or.inl ⟨rfl, ?_, h.cancel hk hi (by omega) e1 _ ⟨rfl, rfl, rfl, rfl⟩ (by cases air; exact Or.inl rfl; exact Or.inr rfl)⟩⟩
      rcases h.how _ (List.getElem_mem hi) with ⟨h1, _⟩ | ⟨_, h2⟩ | ⟨_, h2⟩
      · exact h1
      · exact absurd (h2 _ hr e1) e2
      · have := h2 _ hr e1 e2; omega
  · have hp := none_place (S := S) (n := (rs[i]).num) (fun r hr e1 => by
      by_cases hc : r.num ∈ S.told
      · exact hc
      · exact absurd ⟨r, hr, e1, hc⟩ hl)
    exact ⟨5, 0, S, by unfold cancelM; rw [hp, if_pos (by omega)], Or.inr ⟨Or.inr rfl, rfl⟩⟩
end
end Go.Proofs.YtiabdbeejkadnabGreatDoor

/- A queue with one request alone, as a plain model. Own work of the verifier. -/
namespace Go.Proofs.YtiabdbeejkadnabGreatDoor

section
variable {S : St} {r : Rq}
theorem one_ready (hr : S.reqs = [r]) : readyB S r = (r.state == 0 && decide (r.after ≤ S.now)) := by
  unfold readyB; rw [hr]; simp
theorem one_first (hr : S.reqs = [r]) (p : Int) : firstM S p = if (r.state = 0 ∧ r.after ≤ S.now) ∧ r.page = p then some 0 else none := by
  unfold firstM
  rw [hr, List.findIdx?_cons]
  have e := one_ready hr
  by_cases h : (r.state = 0 ∧ r.after ≤ S.now) ∧ r.page = p
  · rw [if_pos h]
    have : (readyB S r && r.page == p) = true := by rw [e]; simp [h]
    rw [if_pos this]
  · rw [if_neg h]
    have : ¬ (readyB S r && r.page == p) = true := by
      rw [e]; simp only [Bool.and_eq_true, beq_iff_eq, decide_eq_true_eq]; exact h
    rw [if_neg this]; simp
theorem one_pageGo (hr : S.reqs = [r]) (h1 : r.state = 0) (h2 : r.after ≤ S.now) (hp : 0 ≤ r.page ∧ r.page < 16) (_hh : 0 ≤ S.head) : ∀ (n i : Nat), i + n = 16 → (i : Int) ≤ (r.page - S.head) % 16 → pageGo S i n = some r.page := by
  intro n
  induction n with
  | zero =>
    intro i hi ht
    have := Int.emod_lt_of_pos (r.page - S.head) (show (0 : Int) < 16 by omega)
    omega
  | succ n ih =>
    intro i hi ht
    unfold pageGo
    by_cases e : (S.head + i) % 16 = r.page
    · have hfi : firstM S ((S.head + i) % 16) = some 0 := by rw [one_first hr, if_pos ⟨⟨h1, h2⟩, e.symm⟩]
      rw [hfi]; simp [e]
    · have hfi : firstM S ((S.head + i) % 16) = none := by rw [one_first hr, if_neg (fun x => e x.2.symm)]
      rw [hfi]
      show pageGo S (i + 1) n = _
      refine ih (i + 1) (by omega) ?_
      have : ((i : Int)) ≠ (r.page - S.head) % 16 := fun e' => e (by omega)
      omega
theorem one_next (hr : S.reqs = [r]) (hd : 0 < S.depth) (hf : S.flights = []) (h1 : r.state = 0) (h2 : r.after ≤ S.now) (hp : 0 ≤ r.page ∧ r.page < 16) (hh : 0 ≤ S.head) : nextM S = some ⟨r.write, r.page, 1, [r.num]⟩ := by
  have hpg : pageM S = some r.page := one_pageGo hr h1 h2 hp hh 16 0 (by omega) (Int.emod_nonneg _ (by omega))
  unfold nextM
  rw [if_neg (by rw [hf]; simp; omega), hpg, Option.map_some, one_first hr, if_pos ⟨⟨h1, h2⟩, rfl⟩, hr]
  simp only [Option.getD_some, List.getD_cons_zero]
  unfold cmdAt
  cases ha : r.alone with
  | true => rfl
  | false =>
    have e := one_ready hr
    have hrd : readyB S r = true := by rw [e]; simp [h1, h2]
    have g0 : groupM S r.page r.write = [r.num] := by
      unfold groupM; rw [hr, List.filter_cons]
      have : (readyB S r && r.page == r.page && r.write == r.write && !r.alone) = true := by rw [hrd, ha]; simp
      rw [if_pos this]; rfl
    have g1 : ∀ q, q ≠ r.page → groupM S q r.write = [] := fun q hq => by
      unfold groupM; rw [hr, List.filter_cons]
      have : ¬ (readyB S r && r.page == q && r.write == r.write && !r.alone) = true := by
        simp only [Bool.and_eq_true, beq_iff_eq]; exact fun x => hq x.1.1.2.symm
      rw [if_neg this]; rfl
    have gg : growM S r.page r.write 3 1 [r.num] = (1, [r.num]) := by
      unfold growM
      split
      · rw [if_pos (g1 _ (by omega))]
      · rfl
    rw [g0, gg]; simp
theorem one_none (hr : S.reqs = [r]) (h : ¬ (r.state = 0 ∧ r.after ≤ S.now)) : nextM S = none := by
  have hp : ∀ n i, pageGo S i n = none := by
    intro n
    induction n with
    | zero => intro i; rfl
    | succ n ih =>
      intro i
      unfold pageGo
      have hfi : firstM S ((S.head + i) % 16) = none := by rw [one_first hr, if_neg (fun x => h x.1)]
      rw [hfi]
      exact ih _
  unfold nextM
  split
  · rfl
  · show (pageM S).map _ = none
    unfold pageM
    rw [hp]; rfl
end
/-- one request, waiting (or done) -/
def oneS (r : Rq) (now head : Int) (disk : List UInt8) : St := ⟨1, [r], [], [], now, head, 1, disk⟩
/-- it is under way -/
def oneF (r : Rq) (now : Int) (disk : List UInt8) : St := ⟨1, [{ r with state := 1, inAir := true }], [], [⟨r.write, r.page, 1, [r.num]⟩], now, r.page + 1, 1, disk⟩
theorem one_step {r : Rq} {now head : Int} {disk : List UInt8} (h1 : r.state = 0) (h2 : r.after ≤ now) (hp : 0 ≤ r.page ∧ r.page < 16) (hh : 0 ≤ head) : stepM (oneS r now head disk) = (some ⟨r.write, r.page, 1, [r.num]⟩, oneF r now disk) := by
  unfold stepM
  rw [one_next (S := oneS r now head disk) rfl (by show (0 : Int) < 1; decide) rfl h1 h2 hp hh]
  simp [sendM, markM, oneS, oneF]
theorem one_step_no {r : Rq} {now head : Int} {disk : List UInt8} (h : ¬ (r.state = 0 ∧ r.after ≤ now)) : stepM (oneS r now head disk) = (none, oneS r now head disk) := by
  unfold stepM
  rw [one_none (S := oneS r now head disk) rfl h]
theorem one_done {r : Rq} {now : Int} {disk : List UInt8} (fault : Bool) : completeM (oneF r now disk) 0 fault = (true, oneS (triedR (oneF r now disk) fault { r with state := 1, inAir := true }) now (r.page + 1) (if fault = false ∧ r.write = true then putM disk (4 * r.page).toNat r.data.data.toList else disk)) := by
  unfold completeM
  rw [if_neg (by simp [oneF])]
  simp only [oneF, oneS, endM, triedM, toldHas, findR, triedK]
  simp
  rfl
end Go.Proofs.YtiabdbeejkadnabGreatDoor

/- The keeps: Tried, as a plain model; the disk. Own work of the verifier. -/
namespace Go.Proofs.YtiabdbeejkadnabGreatDoor

section
variable {wr : Bool} {p : Int} {d : ByteArray} {a now head : Int}
/-- the request ahead of try i -/
def tR (wr : Bool) (p : Int) (d : ByteArray) (i : Nat) (a : Int) : Rq := ⟨1, wr, p, d, 0, i, a, decide (0 < i), false, ⟨#[]⟩⟩
def zeroD : List UInt8 := List.replicate 64 0
def tS (wr : Bool) (p : Int) (d : ByteArray) (i : Nat) (a now head : Int) : St := oneS (tR wr p d i a) now head zeroD
def tAir (wr : Bool) (p : Int) (d : ByteArray) (i : Nat) (a now : Int) : St := oneF (tR wr p d i a) now zeroD
theorem ask_tS : askOk (St.new 1) wr p d = tS wr p d 0 0 0 0 := rfl
theorem t_step {i : Nat} (h2 : a ≤ now) (hp : 0 ≤ p ∧ p < 16) (hh : 0 ≤ head) : stepM (tS wr p d i a now head) = (some ⟨wr, p, 1, [1]⟩, tAir wr p d i a now) := one_step (r := tR wr p d i a) rfl h2 hp hh
theorem t_next {i : Nat} (h2 : a ≤ now) (hp : 0 ≤ p ∧ p < 16) (hh : 0 ≤ head) : nextM (tS wr p d i a now head) = some ⟨wr, p, 1, [1]⟩ := one_next (S := tS wr p d i a now head) rfl (by show (0 : Int) < 1; decide) rfl rfl h2 hp hh
theorem t_early {i : Nat} (h : now < a) : stepM (tS wr p d i a now head) = (none, tS wr p d i a now head) := one_step_no (r := tR wr p d i a) (fun e => by have := e.2; simp only [tR] at this; omega)
theorem t_none {i : Nat} (h : now < a) : nextM (tS wr p d i a now head) = none := one_none (S := tS wr p d i a now head) rfl (fun e => by have := e.2; simp only [tR] at this; have e2 : (tS wr p d i a now head).now = now := rfl; omega)
theorem one_place (S : St) (r : Rq) (hr : S.reqs = [r]) (ht : S.told = []) : placeM S r.num = 0 := by
  unfold placeM
  rw [ht, hr]
  simp [toldHas, findR, intOr]
theorem t_poll {i : Nat} : pollM (tS wr p d i a now head) 1 = ((⟨#[]⟩ : ByteArray), (i : Int), (6 : Int), tS wr p d i a now head) := by
  have h := one_place (tS wr p d i a now head) (tR wr p d i a) rfl rfl
  replace h : placeM (tS wr p d i a now head) 1 = 0 := h
  unfold pollM
  rw [h]
  rfl
theorem t_tick {i : Nat} : { tS wr p d i a now head with now := now + 1 } = tS wr p d i a (now + 1) head := rfl
theorem t_again {i : Nat} (hi : i < 3) : completeM (tAir wr p d i a now) 0 true = (true, tS wr p d (i + 1) (now + ((2 ^ i : Nat) : Int)) now (p + 1)) := by
  have h3 : i = 0 ∨ i = 1 ∨ i = 2 := by omega
  have := one_done (r := tR wr p d i a) (now := now) (disk := zeroD) true
  refine this.trans ?_
  rcases h3 with rfl | rfl | rfl <;> rfl
/-- what stands behind the last try -/
structure TFin (wr : Bool) (p : Int) (d : ByteArray) (good : Bool) (S : St) : Prop where
  next : nextM S = none
  step : (stepM S).2 = S
  last : S.last = 1
  poll : ∃ s tr k S' r' e1 e2 e3, pollM S 1 = (s, tr, k, S') ∧ plainErr S 1 = (e1, e2, e3) ∧ PollOut ⟨1, wr, p, d, 0, ⟨#[]⟩⟩ s tr k r' ∧ r'.how = (if good then 1 else 2) ∧ r'.data = d ∧ S'.disk.length = 64 ∧ getM S'.disk (4 * p).toNat = (if good && wr then d else ⟨#[0, 0, 0, 0]⟩)
theorem fin_of {S : St} {r : Rq} {good : Bool} {r' : KR} (hr : S.reqs = [r]) (ht : S.told = []) (hn : r.num = 1) (hl : S.last = 1) (ha : r.inAir = false) (hs : (r.state = 2 ∧ PollOut ⟨1, wr, p, d, 0, ⟨#[]⟩⟩ r.answer r.tries 0 r') ∨ (r.state = 3 ∧ PollOut ⟨1, wr, p, d, 0, ⟨#[]⟩⟩ ⟨#[]⟩ r.tries 7 r')) (h1 : r'.how = (if good then 1 else 2)) (h2 : r'.data = d) (h3 : S.disk.length = 64) (h4 : getM S.disk (4 * p).toNat = (if good && wr then d else ⟨#[0, 0, 0, 0]⟩)) : TFin wr p d good S := by
  have hnn : nextM S = none := one_none hr (fun e => by have := e.1; omega)
  have hpl : placeM S 1 = 0 := by rw [← hn]; exact one_place S r hr ht
  have hg : S.reqs.getD 0 Rq.zero = r := by rw [hr]; rfl
  refine ⟨hnn, by unfold stepM; rw [hnn], hl, ?_⟩
  rcases hs with ⟨h, ho⟩ | ⟨h, ho⟩
  · refine ⟨r.answer, r.tries, 0, dropM S 0, r', _, _, _, ?_, rfl, ho, h1, h2, ?_, ?_⟩
    · unfold pollM
      rw [hpl]
      simp only [Int.toNat_zero, hg]
      rw [if_neg (by omega), if_neg (by omega), if_neg (by omega), if_neg (by omega)]
    · unfold dropM; rw [hg, ha]; exact h3
    · unfold dropM; rw [hg, ha]; exact h4
  · refine ⟨⟨#[]⟩, r.tries, 7, dropM S 0, r', _, _, _, ?_, rfl, ho, h1, h2, ?_, ?_⟩
    · unfold pollM
      rw [hpl]
      simp only [Int.toNat_zero, hg]
      rw [if_neg (by omega), if_neg (by omega), if_pos h]
    · unfold dropM; rw [hg, ha]; exact h3
    · unfold dropM; rw [hg, ha]; exact h4
theorem zero_get {p : Int} (hp : 0 ≤ p ∧ p < 16) : getM zeroD (4 * p).toNat = ⟨#[0, 0, 0, 0]⟩ := by
  obtain ⟨n, rfl⟩ := Int.eq_ofNat_of_zero_le hp.1
  have e : (4 * (n : Int)).toNat = 4 * n := by omega
  rw [e]
  have hn : n < 16 := by omega
  have h : ∀ n < 16, getM zeroD (4 * n) = ⟨#[0, 0, 0, 0]⟩ := by decide
  exact h n hn
theorem put_get {p : Int} (hp : 0 ≤ p ∧ p < 16) : getM (putM zeroD (4 * p).toNat [9, 0, 0, 1]) (4 * p).toNat = ⟨#[9, 0, 0, 1]⟩ := by
  obtain ⟨n, rfl⟩ := Int.eq_ofNat_of_zero_le hp.1
  have e : (4 * (n : Int)).toNat = 4 * n := by omega
  rw [e]
  have hn : n < 16 := by omega
  have h : ∀ n < 16, getM (putM zeroD (4 * n) [9, 0, 0, 1]) (4 * n) = ⟨#[9, 0, 0, 1]⟩ := by decide
  exact h n hn
theorem t_fail (hp : 0 ≤ p ∧ p < 16) : ∃ S, completeM (tAir wr p d 3 a now) 0 true = (true, S) ∧ TFin wr p d false S := by
  refine ⟨_, one_done (r := tR wr p d 3 a) (now := now) (disk := zeroD) true, fin_of (r' := ⟨1, wr, p, d, 2, ⟨#[]⟩⟩) rfl rfl rfl rfl rfl (Or.inr ⟨rfl, Or.inr (Or.inl ⟨rfl, rfl, rfl⟩)⟩) rfl rfl rfl (zero_get hp)⟩
theorem t_good {i : Nat} (hi : i ≤ 3) (hp : 0 ≤ p ∧ p < 16) (hd : wr = true → d = ⟨#[9, 0, 0, 1]⟩) : ∃ S, completeM (tAir wr p d i a now) 0 false = (true, S) ∧ TFin wr p d true S := by
  cases wr with
  | true =>
    rw [hd rfl]
    refine ⟨_, one_done (r := tR true p ⟨#[9, 0, 0, 1]⟩ i a) (now := now) (disk := zeroD) false, fin_of (r' := ⟨1, true, p, ⟨#[9, 0, 0, 1]⟩, 1, ⟨#[]⟩⟩) rfl rfl rfl rfl rfl (Or.inl ⟨rfl, Or.inl ⟨rfl, rfl, ?_, ?_, rfl⟩⟩) rfl rfl (putM_len _ _ _) (put_get hp)⟩
    · show (1 : Int) ≤ i + 1; omega
    · show (i : Int) + 1 ≤ 4; omega
  | false =>
    refine ⟨_, one_done (r := tR false p d i a) (now := now) (disk := zeroD) false, fin_of (r' := ⟨1, false, p, d, 1, getM zeroD (4 * p).toNat⟩) rfl rfl rfl rfl rfl (Or.inl ⟨rfl, Or.inl ⟨rfl, ?_, ?_, ?_, rfl⟩⟩) rfl rfl rfl (zero_get hp)⟩
    · show false = decide ((getM zeroD (4 * p).toNat).size = 0); rw [zero_get hp]; rfl
    · show (1 : Int) ≤ i + 1; omega
    · show (i : Int) + 1 ≤ 4; omega
end
end Go.Proofs.YtiabdbeejkadnabGreatDoor

/- The keeps: the world of a keep and the law's own; the calls. Own work of the verifier. -/
namespace Go.Proofs.YtiabdbeejkadnabGreatDoor
open Go.RowKit Go.Maps

/-- a keep's world at wr; all of it lies above what w has -/
structure KWF (w wr : World) (F : Nat → Prop) (wb xb : Nat) (S : St) (rs : List KR) : Prop where
  at_ : KAt wr F wb xb S rs
  fr : ∀ k, F k → w.heap.size ≤ k
  bel : Below w.heap.size w wr
  g : GCell wr
  pos : 0 < w.heap.size
section
variable {w wr w' : World} {F : Nat → Prop} {wb xb : Nat} {S S' : St} {rs rs' : List KR}
theorem KWF.no0 (h : KWF w wr F wb xb S rs) : ¬ F 0 := fun e => by have := h.fr 0 e; have := h.pos; omega
theorem KWF.below (h : KWF w wr F wb xb S rs) (hb : Below wr.heap.size wr w') : KWF w w' F wb xb S rs :=
  ⟨h.at_.below hb, h.fr, h.bel.trans (hb.mono h.bel.size), h.g.below hb, h.pos⟩
theorem KWF.alloc (h : KWF w wr F wb xb S rs) (o : Obj) : KWF w (wr.alloc o) F wb xb S rs := h.below (alloc_below _ _)
theorem KWF.after (h : KWF w wr F wb xb S rs) (hA : KAt w' (Foot F wr w') wb xb S' rs') (hK : Kept F wr w') : KWF w w' (Foot F wr w') wb xb S' rs' := by
  have hb : Below w.heap.size wr w' := hK.toBelow h.fr h.bel.size
  refine ⟨hA, fun k hk => ?_, h.bel.trans hb, h.g.kept hK h.no0, h.pos⟩
  rcases hk with e | e
  · exact h.fr k e
  · have := h.bel.size; omega
theorem KWF.q (h : KWF w wr F wb xb S rs) : wr.cell? ⟨wb, 0, none⟩ = some (.pointer (some ⟨xb, 0, none⟩)) ∧ wb < wr.heap.size := h.at_.q0
theorem KWF.new (h : KWF w wr F wb xb S rs) (k : Nat) (hk : wr.heap.size ≤ k) : ¬ F k := fun e => by have := h.at_.lt k e; omega
end
section
variable (w wr : World) (F : Nat → Prop) (wb xb : Nat) (S : St) (rs : List KR)
theorem kw_step (h : KWF w wr F wb xb S rs) (hl : S.last ≤ 1000000) :
    Calls Tryz.prog 12 #[.pointer (some ⟨xb, 0, none⟩)] wr fun e w' => (∃ ao cap, e = .returned (.tuple #[.agg #[.bool ((nextM S).getD cmdZ).write, .int .i64 ((nextM S).getD cmdZ).page, .int .i64 ((nextM S).getD cmdZ).count, .slice ao ((nextM S).getD cmdZ).requests.length cap], .bool (nextM S).isSome])) ∧ KWF w w' (Foot F wr w') wb xb (stepM S).2 rs ∧ Kept F wr w' := by
  refine (keep_step S rs F wb xb wr h.at_ hl).mono ?_
  rintro e w1 ⟨h1, h2, h3⟩
  exact ⟨h1, h.after h2 h3, h3⟩
theorem kw_tick (h : KWF w wr F wb xb S rs) (hn : S.now ≤ 1000000000) :
    Calls Tryz.prog 33 #[.pointer (some ⟨xb, 0, none⟩)] wr fun e w' => e = .returned (.tuple #[]) ∧ KWF w w' (Foot F wr w') wb xb { S with now := S.now + 1 } rs ∧ Kept F wr w' := by
  refine (keep_tick S rs F wb xb wr h.at_ hn).mono ?_
  rintro e w1 ⟨h1, h2, h3⟩
  exact ⟨h1, h.after h2 h3, h3⟩
theorem kw_complete (kk : Int) (fault : Bool) (h : KWF w wr F wb xb S rs) (hn : S.now ≤ 1000000000) (hl : S.last ≤ 1000000) :
    Calls Tryz.prog 13 #[.pointer (some ⟨xb, 0, none⟩), .int .i64 kk, .bool fault] wr fun e w' => e = .returned (.agg #[.int .i64 (if (completeM S kk fault).1 then 0 else 10), .int .i64 (-1), .int .i64 0, .bool true]) ∧ KWF w w' (Foot F wr w') wb xb (completeM S kk fault).2 rs ∧ Kept F wr w' := by
  refine (keep_complete S rs F wb xb kk fault wr h.at_ h.g h.no0 hn hl).mono ?_
  rintro e w1 ⟨h1, h2, h3⟩
  exact ⟨h1, h.after h2 h3, h3⟩
theorem kw_plainPoll (num : Int) (h : KWF w wr F wb xb S rs) (hw : (Lit.int .i64 num).wf = true) :
    Calls Tryz.prog 10 #[.pointer (some ⟨xb, 0, none⟩), .int .i64 num] wr fun e w' => (∃ ao n cap t, e = .returned (.tuple #[.agg #[.slice ao n cap, .int .i64 t], .agg #[.int .i64 (plainErr S num).1, .int .i64 (plainErr S num).2.1, .int .i64 (plainErr S num).2.2, .bool true]]) ∧ PlainAns wr w' (pollM S num) ao n cap t) ∧ KWF w w' (Foot F wr w') wb xb (pollM S num).2.2.2 rs ∧ Kept F wr w' := by
  refine (keep_plainPoll S rs F wb xb num wr h.at_ h.g h.no0 hw).mono ?_
  rintro e w1 ⟨h1, h2, h3⟩
  exact ⟨h1, h.after h2 h3, h3⟩
theorem kw_poll (S' : St) (s : ByteArray) (tr k e1 e2 e3 : Int) (r r' : KR) (i : Nat) (h : KWF w wr F wb xb S rs) (hi : i < rs.length) (hr : rs[i] = r) (hl : rs.length ≤ 100000) (hw : (Lit.int .i64 r.num).wf = true) (hh : r.how ≠ 1 ∧ r.how ≠ 2) (hp : pollM S r.num = (s, tr, k, S')) (he : plainErr S r.num = (e1, e2, e3)) (ho : PollOut r s tr k r') :
    Calls Tryz.prog 19 #[.pointer (some ⟨wb, 0, none⟩), .int .i64 (i : Int)] wr fun e w' => e = .returned (.bool true) ∧ KWF w w' (Foot F wr w') wb xb S' (rs.set i r') ∧ Kept F wr w' := by
  refine (keep_poll S S' s tr k e1 e2 e3 r r' rs F wb xb i wr h.at_ h.g h.no0 hi hr hl hw hh hp he ho).mono ?_
  rintro e w1 ⟨h1, h2, h3⟩
  exact ⟨h1, h.after h2 h3, h3⟩
theorem kw_disk (h : KWF w wr F wb xb S rs) :
    Calls Tryz.prog 18 #[.pointer (some ⟨xb, 0, none⟩)] wr fun e w' => ∃ ao cap, e = .returned (.slice ao 64 cap) ∧ Row w' (fun b => wr.heap.size ≤ b) 5 1 ao 64 cap (encB S.disk) ∧ KWF w w' F wb xb S rs ∧ Below wr.heap.size wr w' := by
  obtain ⟨Fx, Fk, ar, cr, hP, _⟩ := h.at_
  refine (prog_disk S Fx xb wr hP).mono ?_
  rintro e w1 ⟨ao, cap, h1, h2, h3⟩
  exact ⟨ao, cap, h1, h2, h.below h3, h3⟩
theorem kw_ask (write : Bool) (page : Int) (v : UInt8) (h : KWF w wr F wb xb S rs) (hlast : S.last = rs.length) (hl : rs.length ≤ 100000) (hp : 0 ≤ page ∧ page < 16) (hf : ¬ 40 ≤ (S.reqs.length : Int) - S.told.length) :
    Calls Tryz.prog 8 #[.pointer (some ⟨wb, 0, none⟩), .bool write, .int .i64 page, .int .u8 v.toNat] wr fun e w' => e = .returned (.bool true) ∧ KWF w w' (Foot F wr w') wb xb (askOk S write page (if write then kdata v rs.length else ⟨#[]⟩)) (rs ++ [⟨rs.length + 1, write, page, (if write then kdata v rs.length else ⟨#[]⟩), 0, ⟨#[]⟩⟩]) ∧ Kept F wr w' := by
  cases write with
  | true =>
    refine (keep_ask_w S rs F wb xb page v wr h.at_ h.g h.no0 hlast hl hp hf).mono ?_
    rintro e w1 ⟨h1, h2, h3⟩
    exact ⟨h1, h.after h2 h3, h3⟩
  | false =>
    refine (keep_ask_r S rs F wb xb page v.toNat wr h.at_ h.g h.no0 hlast hl hp hf).mono ?_
    rintro e w1 ⟨h1, h2, h3⟩
    exact ⟨h1, h.after h2 h3, h3⟩
theorem kw_begun (depth : Int) (hg : GCell w) (hc : -9223372036854775808 ≤ depth ∧ depth ≤ 9223372036854775807) :
    Calls Tryz.prog 6 #[.int .i64 depth] w fun e w' => (∃ wb xb, e = .returned (.tuple #[.pointer (some ⟨wb, 0, none⟩), .bool true]) ∧ ∃ F, KWF w w' F wb xb (St.new (1 + kpickM depth 4)) []) := by
  refine (keep_begun depth w hg hc).mono ?_
  rintro e w1 ⟨⟨wb, xb, h1, h2⟩, h3⟩
  have hpos : 0 < w.heap.size := lt_of_cell hg
  refine ⟨wb, xb, h1, _, h2, fun k hk => ?_, h3, hg.below h3, hpos⟩
  rcases hk with e | e
  · exact e.elim
  · exact e.1
end
end Go.Proofs.YtiabdbeejkadnabGreatDoor

/- The keeps: ask where there is no room. Own work of the verifier. -/
namespace Go.Proofs.YtiabdbeejkadnabGreatDoor
open Go.RowKit Go.Maps

set_option maxHeartbeats 4000000 in
set_option maxRecDepth 1000000 in
/-- a read that finds no room -/
theorem keep_full_r (S : St) (rs : List KR) (F : Nat → Prop) (wb xb : Nat) (page v : Int) (w : World) (h : KAt w F wb xb S rs) (hg : GCell w) (h0 : ¬ F 0) (hlast : S.last = rs.length) (hl : rs.length ≤ 100000) (hp : 0 ≤ page ∧ page < 16) (hf : 40 ≤ (S.reqs.length : Int) - S.told.length) :
    Calls Tryz.prog 8 #[.pointer (some ⟨wb, 0, none⟩), .bool false, .int .i64 page, .int .u8 v] w fun e w' => e = .returned (.bool true) ∧ KAt w' (Foot F w w') wb xb S rs ∧ Kept F w w' := by
  obtain ⟨i0, hi, hi0, hi1, hi2⟩ := info_parts info_kreq
  obtain ⟨Fx, Fk, ar, cr, hP, hB, hd, hF⟩ := h
  have hask : askM S false page ⟨#[]⟩ = (0, 4, S) := by
    unfold askM; rw [if_neg (by omega), if_neg (by simp), if_pos hf]
  have hb0 := hide (alloc_below w (.cells #[.int .i64 0, .bool false, .int .i64 page, .string ⟨#[]⟩, .int .i64 0, .string ⟨#[]⟩] 28))
  have HRD := hide (plain_read S Fx xb page _ (hP.same (fun k _ hk => hb0.out.block k hk) hb0.out.size) (hg.below hb0.out) (fun e => h0 ((hF 0).2 (Or.inl e))) (by omega))
  rw [hask] at HRD
  have c0 := (hb0.out.cell (p := ⟨wb, 0, none⟩) (lt_of_heap hB.blk)).trans hB.c0
  have HB := hide hB
  have HD := hide hd
  have HF := hide hF
  have HPl := hide hP.lt
  have hwl : wb < w.heap.size := lt_of_heap hB.blk
  clear hP hB hd hF hask hf hlast
  go_enter Tryz.func8, Tryz.ntmps8
  go_wp2_with fail
  refine HRD.out.mono ?_
  rintro e w1 ⟨rfl, hP1, hK1⟩
  have hnx : ∀ k, w.heap.size ≤ k → ¬ Fx k := fun k hk e => by have := HPl.out k e; omega
  have hz1 : w.heap.size < w1.heap.size := by have := hK1.size; simp at this; omega
  have q : w1.heap[w.heap.size]? = some (.cells #[.int .i64 0, .bool false, .int .i64 page, .string ⟨#[]⟩, .int .i64 0, .string ⟨#[]⟩] 28 (0, 0)) := (hK1.block w.heap.size (by simp) (hnx _ (Nat.le_refl _))).trans (heap_alloc_new w _)
  obtain ⟨⟨r0, r1, r2, r3, r4, r5⟩, rf⟩ := six (r := ⟨0, false, page, ⟨#[]⟩, 0, ⟨#[]⟩⟩) q
  have f0 := rf 0
  have HB1 := hide ((HB.out.below hb0.out).kept hK1 (fun k hk e => HD.out k e hk))
  have HK1 := hide hK1
  have HP1 := hide hP1
  clear hP1 hK1 HRD rf
  go_wp2_with fail
  refine (keep_fine 4 (-1) 0 _).mono ?_
  rintro e w2 ⟨rfl, hb2⟩
  have ef : fineB 4 (-1) 0 = false := rfl
  rw [ef]
  have hz2 : w1.heap.size < w2.heap.size := by have := hb2.size; simp [World.setCell] at this; omega
  have hwk : ¬ Fk w.heap.size := fun e => by have := HB.out.ltF _ e; omega
  have q2 : w2.heap[w.heap.size]? = some (.cells (encK ⟨0, false, page, ⟨#[]⟩, 0, ⟨#[]⟩⟩).toArray 28 (0, 0)) := by
    rw [hb2.block w.heap.size (by simp [World.setCell]; omega), Below.heap_alloc _ _ _ (by simp [World.setCell]; omega), heap_setCell_at q]; rfl
  obtain ⟨⟨s0, s1, s2, s3, s4, s5⟩, sf⟩ := six q2
  have HB2 : Hid (KBlk w2 Fk wb xb rs ar cr) := (((HB1.out.same (w1 := w1.setCell ⟨w.heap.size, 0, none⟩ (.int .i64 0)) (fun k hk _ => Below.heap_setCell _ _ _ _ (fun e => hwk (by have e' : k = w.heap.size := e; rw [← e']; exact hk))) (by simp [World.setCell])).below (alloc_below _ _)).below hb2)
  have HK2 : Hid (Kept Fx (w.alloc (.cells #[.int .i64 0, .bool false, .int .i64 page, .string ⟨#[]⟩, .int .i64 0, .string ⟨#[]⟩] 28)) w1 ∧ (w2.os = w1.os ∧ w2.tape = w1.tape ∧ w2.output = w1.output ∧ w1.heap.size ≤ w2.heap.size) ∧ ∀ k, k < w1.heap.size → k ≠ w.heap.size → w2.heap[k]? = w1.heap[k]?) := ⟨HK1.out, ⟨hb2.os, hb2.tape, hb2.output, by omega⟩, fun k hk hne => by
    rw [hb2.block k (by simp [World.setCell]; omega), Below.heap_alloc _ _ _ (by simp [World.setCell]; omega), Below.heap_setCell _ _ _ _ hne]⟩
  have he0 : w2.cell? ⟨w1.heap.size, 0, none⟩ = some (.int .i64 4) := by
    rw [World.cell?_of_block (w := (w1.setCell ⟨w.heap.size, 0, none⟩ (.int .i64 0)).alloc (.cells #[.int .i64 4, .int .i64 (-1), .int .i64 0, .bool true] 35)) (a := ⟨w1.heap.size, 0, none⟩) (hb2.block _ (by simp [World.setCell]))]
    have hz : (w1.setCell ⟨w.heap.size, 0, none⟩ (.int .i64 0)).heap.size = w1.heap.size := by simp [World.setCell]
    have := heap_alloc_new (w1.setCell ⟨w.heap.size, 0, none⟩ (.int .i64 0)) (.cells #[.int .i64 4, .int .i64 (-1), .int .i64 0, .bool true] 35)
    rw [hz] at this
    simp only [World.cell?]; rw [this]; rfl
  have HEND := hide (KAt.fin hb0.out (by simp) HPl.out HB.out.ltF HD.out HF.out HP1.out HK2.out.1 HK2.out.2 ⟨rfl, rfl, rfl, rfl⟩ HB2.out (fun k hk => Or.inl hk) (Kept.refl _ _))
  clear q q2 hb2 sf r0 r1 r2 r3 r4 r5 f0 s0 s1 s2 s3 s4 s5 c0 HK1 HB1 HB2 HK2 HP1 HB HD HF HPl hb0
  go_wp2
  go_ret
  exact ⟨rfl, HEND.out⟩
set_option maxHeartbeats 4000000 in
set_option maxRecDepth 1000000 in
/-- a write that finds no room -/
theorem keep_full_w (S : St) (rs : List KR) (F : Nat → Prop) (wb xb : Nat) (page : Int) (v : UInt8) (w : World) (h : KAt w F wb xb S rs) (hg : GCell w) (h0 : ¬ F 0) (hlast : S.last = rs.length) (hl : rs.length ≤ 100000) (hp : 0 ≤ page ∧ page < 16) (hf : 40 ≤ (S.reqs.length : Int) - S.told.length) :
    Calls Tryz.prog 8 #[.pointer (some ⟨wb, 0, none⟩), .bool true, .int .i64 page, .int .u8 v.toNat] w fun e w' => e = .returned (.bool true) ∧ KAt w' (Foot F w w') wb xb S rs ∧ Kept F w w' := by
  obtain ⟨i0, hi, hi0, hi1, hi2⟩ := info_parts info_kreq
  obtain ⟨Fx, Fk, ar, cr, hP, hB, hd, hF⟩ := h
  have hn1 : ((UInt8.ofNat rs.length).toNat : Int) = (rs.length : Int) % 256 := by simp [UInt8.toNat_ofNat']
  have hn2 : ((UInt8.ofNat rs.length / 2).toNat : Int) = (rs.length : Int) % 256 / 2 := by simp [UInt8.toNat_div, UInt8.toNat_ofNat']
  have hbyte : ∀ (W : World), W.heap[w.heap.size + 1]? = some (.cells #[.int .u8 (v.toNat : Int), .int .u8 ((rs.length : Int) % 256), .int .u8 ((rs.length : Int) % 256 / 2), .int .u8 1] 5 (0, 0)) → ∀ j, (hj : j < (kdata v rs.length).data.toList.length) → W.cell? ((⟨w.heap.size + 1, 0, none⟩ : Addr).add j) = some (.int .u8 (((kdata v rs.length).data.toList[j]).toNat : Int)) := fun W hW j hj => by
    have hj4 : j < 4 := hj
    rw [Addr.add_lit, Nat.zero_add]
    have h4 : j = 0 ∨ j = 1 ∨ j = 2 ∨ j = 3 := by omega
    rcases h4 with rfl | rfl | rfl | rfl
    · simp [World.cell?, hW, kdata]
    · simp only [World.cell?, hW]; simp [kdata]
    · simp only [World.cell?, hW]; simp [kdata]
    · simp [World.cell?, hW, kdata]
  have hcv : (convert 37 9 (.slice (some ⟨w.heap.size + 1, 0, none⟩) 4 4)).run Tryz.prog ((w.alloc (.cells #[.int .i64 0, .bool true, .int .i64 page, .string ⟨#[]⟩, .int .i64 0, .string ⟨#[]⟩] 28)).alloc (.cells #[.int .u8 (v.toNat : Int), .int .u8 ((rs.length : Int) % 256), .int .u8 ((rs.length : Int) % 256 / 2), .int .u8 1] 5)) = .ok (.string (kdata v rs.length)) ((w.alloc (.cells #[.int .i64 0, .bool true, .int .i64 page, .string ⟨#[]⟩, .int .i64 0, .string ⟨#[]⟩] 28)).alloc (.cells #[.int .u8 (v.toNat : Int), .int .u8 ((rs.length : Int) % 256), .int .u8 ((rs.length : Int) % 256 / 2), .int .u8 1] 5)) := by
    have hW : ((w.alloc (.cells #[.int .i64 0, .bool true, .int .i64 page, .string ⟨#[]⟩, .int .i64 0, .string ⟨#[]⟩] 28)).alloc (.cells #[.int .u8 (v.toNat : Int), .int .u8 ((rs.length : Int) % 256), .int .u8 ((rs.length : Int) % 256 / 2), .int .u8 1] 5)).heap[w.heap.size + 1]? = some (.cells #[.int .u8 (v.toNat : Int), .int .u8 ((rs.length : Int) % 256), .int .u8 ((rs.length : Int) % 256 / 2), .int .u8 1] 5 (0, 0)) := by
      have := heap_alloc_new (w.alloc (.cells #[.int .i64 0, .bool true, .int .i64 page, .string ⟨#[]⟩, .int .i64 0, .string ⟨#[]⟩] 28)) (.cells #[.int .u8 (v.toNat : Int), .int .u8 ((rs.length : Int) % 256), .int .u8 ((rs.length : Int) % 256 / 2), .int .u8 1] 5)
      simp only [World.size_alloc] at this; exact this
    exact run_convert_bytes_back (P := Tryz.prog) _ 37 9 5 ⟨w.heap.size + 1, 0, none⟩ 4 (kdata v rs.length).data.toList Tryz.underlying37 Tryz.underlying5 Tryz.underlying9 (hbyte _ hW)
  have hask : askM S true page (kdata v rs.length) = (0, 4, S) := by
    unfold askM; rw [if_neg (by omega), if_neg (by rw [kdata_size]; simp), if_pos hf]
  have hb0 : Hid (Below w.heap.size w ((w.alloc (.cells #[.int .i64 0, .bool true, .int .i64 page, .string (kdata v rs.length), .int .i64 0, .string ⟨#[]⟩] 28)).alloc (.cells #[.int .u8 (v.toNat : Int), .int .u8 ((rs.length : Int) % 256), .int .u8 ((rs.length : Int) % 256 / 2), .int .u8 1] 5))) := (alloc_below _ _).trans ((alloc_below _ _).mono (by simp))
  have hA1 : ((w.alloc (.cells #[.int .i64 0, .bool true, .int .i64 page, .string (kdata v rs.length), .int .i64 0, .string ⟨#[]⟩] 28)).alloc (.cells #[.int .u8 (v.toNat : Int), .int .u8 ((rs.length : Int) % 256), .int .u8 ((rs.length : Int) % 256 / 2), .int .u8 1] 5)).heap[w.heap.size + 1]? = some (.cells #[.int .u8 (v.toNat : Int), .int .u8 ((rs.length : Int) % 256), .int .u8 ((rs.length : Int) % 256 / 2), .int .u8 1] 5 (0, 0)) := by
    have := heap_alloc_new (w.alloc (.cells #[.int .i64 0, .bool true, .int .i64 page, .string (kdata v rs.length), .int .i64 0, .string ⟨#[]⟩] 28)) (.cells #[.int .u8 (v.toNat : Int), .int .u8 ((rs.length : Int) % 256), .int .u8 ((rs.length : Int) % 256 / 2), .int .u8 1] 5)
    simp only [World.size_alloc] at this; exact this
  have hA0 : ((w.alloc (.cells #[.int .i64 0, .bool true, .int .i64 page, .string (kdata v rs.length), .int .i64 0, .string ⟨#[]⟩] 28)).alloc (.cells #[.int .u8 (v.toNat : Int), .int .u8 ((rs.length : Int) % 256), .int .u8 ((rs.length : Int) % 256 / 2), .int .u8 1] 5)).heap[w.heap.size]? = some (.cells (encK ⟨0, true, page, kdata v rs.length, 0, ⟨#[]⟩⟩).toArray 28 (0, 0)) := (Below.heap_alloc _ _ _ (by simp)).trans (heap_alloc_new w _)
  have hAz : ((w.alloc (.cells #[.int .i64 0, .bool true, .int .i64 page, .string (kdata v rs.length), .int .i64 0, .string ⟨#[]⟩] 28)).alloc (.cells #[.int .u8 (v.toNat : Int), .int .u8 ((rs.length : Int) % 256), .int .u8 ((rs.length : Int) % 256 / 2), .int .u8 1] 5)).heap.size = w.heap.size + 2 := by simp
  have HRD := hide (plain_write S Fx xb (w.heap.size + 1) 4 page (kdata v rs.length) ((w.alloc (.cells #[.int .i64 0, .bool true, .int .i64 page, .string (kdata v rs.length), .int .i64 0, .string ⟨#[]⟩] 28)).alloc (.cells #[.int .u8 (v.toNat : Int), .int .u8 ((rs.length : Int) % 256), .int .u8 ((rs.length : Int) % 256 / 2), .int .u8 1] 5)) (hP.same (fun k _ hk => hb0.out.block k hk) hb0.out.size) (fun j hj => by
    have := hbyte _ hA1 j hj
    rw [Addr.add_lit, Nat.zero_add] at this
    rw [this]
    have hj' : j < (kdata v rs.length).data.toList.length := hj
    rw [List.getD_eq_getElem?_getD, List.getElem?_eq_getElem hj']; rfl) (by omega) (by rw [kdata_size]; omega) (hg.below hb0.out) (fun e => h0 ((hF 0).2 (Or.inl e))) (by omega))
  rw [hask] at HRD
  have HA0 := hide hA0
  have HAZ := hide hAz
  have HD := hide hd
  have HF := hide hF
  have HPl := hide hP.lt
  have c0 := hB.c0
  have c1 := hB.c1
  have hwl : wb < w.heap.size := lt_of_heap hB.blk
  have HB := hide hB
  clear hP hB hd hF hask hf hA1 hA0 hAz hbyte hn1 hn2
  go_enter Tryz.func8, Tryz.ntmps8
  go_wp2_with fail
  refine HRD.out.mono ?_
  rintro e w1 ⟨rfl, hP1, hK1⟩
  have hnx : ∀ k, w.heap.size ≤ k → ¬ Fx k := fun k hk e => by have := HPl.out k e; omega
  have hz1 : w.heap.size + 1 < w1.heap.size := by have := hK1.size; have := HAZ.out; omega
  have hz1' : w.heap.size < w1.heap.size := by omega
  have q : w1.heap[w.heap.size]? = some (.cells (encK ⟨0, true, page, kdata v rs.length, 0, ⟨#[]⟩⟩).toArray 28 (0, 0)) := (hK1.block w.heap.size (by have := HAZ.out; omega) (hnx _ (Nat.le_refl _))).trans HA0.out
  obtain ⟨⟨r0, r1, r2, r3, r4, r5⟩, rf⟩ := six q
  have f0 := rf 0
  have HB1 := hide ((HB.out.below hb0.out).kept hK1 (fun k hk e => HD.out k e hk))
  have HK1 := hide hK1
  have HP1 := hide hP1
  clear hP1 hK1 HRD rf hcv c1
  go_wp2_with fail
  refine (keep_fine 4 (-1) 0 _).mono ?_
  rintro e w2 ⟨rfl, hb2⟩
  have ef : fineB 4 (-1) 0 = false := rfl
  rw [ef]
  have hz2 : w1.heap.size < w2.heap.size := by have := hb2.size; simp [World.setCell] at this; omega
  have hwk : ¬ Fk w.heap.size := fun e => by have := HB.out.ltF _ e; omega
  have q2 : w2.heap[w.heap.size]? = some (.cells (encK ⟨0, true, page, (kdata v rs.length), 0, ⟨#[]⟩⟩).toArray 28 (0, 0)) := by
    rw [hb2.block w.heap.size (by simp [World.setCell]; omega), Below.heap_alloc _ _ _ (by simp [World.setCell]; omega), heap_setCell_at q]; rfl
  obtain ⟨⟨s0, s1, s2, s3, s4, s5⟩, sf⟩ := six q2
  have HB2 : Hid (KBlk w2 Fk wb xb rs ar cr) := (((HB1.out.same (w1 := w1.setCell ⟨w.heap.size, 0, none⟩ (.int .i64 0)) (fun k hk _ => Below.heap_setCell _ _ _ _ (fun e => hwk (by have e' : k = w.heap.size := e; rw [← e']; exact hk))) (by simp [World.setCell])).below (alloc_below _ _)).below hb2)
  have HK2 : Hid (Kept Fx ((w.alloc (.cells #[.int .i64 0, .bool true, .int .i64 page, .string (kdata v rs.length), .int .i64 0, .string ⟨#[]⟩] 28)).alloc (.cells #[.int .u8 (v.toNat : Int), .int .u8 ((rs.length : Int) % 256), .int .u8 ((rs.length : Int) % 256 / 2), .int .u8 1] 5)) w1 ∧ (w2.os = w1.os ∧ w2.tape = w1.tape ∧ w2.output = w1.output ∧ w1.heap.size ≤ w2.heap.size) ∧ ∀ k, k < w1.heap.size → k ≠ w.heap.size → w2.heap[k]? = w1.heap[k]?) := ⟨HK1.out, ⟨hb2.os, hb2.tape, hb2.output, by omega⟩, fun k hk hne => by
    rw [hb2.block k (by simp [World.setCell]; omega), Below.heap_alloc _ _ _ (by simp [World.setCell]; omega), Below.heap_setCell _ _ _ _ hne]⟩
  have he0 : w2.cell? ⟨w1.heap.size, 0, none⟩ = some (.int .i64 4) := by
    rw [World.cell?_of_block (w := (w1.setCell ⟨w.heap.size, 0, none⟩ (.int .i64 0)).alloc (.cells #[.int .i64 4, .int .i64 (-1), .int .i64 0, .bool true] 35)) (a := ⟨w1.heap.size, 0, none⟩) (hb2.block _ (by simp [World.setCell]))]
    have hz : (w1.setCell ⟨w.heap.size, 0, none⟩ (.int .i64 0)).heap.size = w1.heap.size := by simp [World.setCell]
    have := heap_alloc_new (w1.setCell ⟨w.heap.size, 0, none⟩ (.int .i64 0)) (.cells #[.int .i64 4, .int .i64 (-1), .int .i64 0, .bool true] 35)
    rw [hz] at this
    simp only [World.cell?]; rw [this]; rfl
  have HEND := hide (KAt.fin hb0.out (by have := HAZ.out; omega) HPl.out HB.out.ltF HD.out HF.out HP1.out HK2.out.1 HK2.out.2 ⟨rfl, rfl, rfl, rfl⟩ HB2.out (fun k hk => Or.inl hk) (Kept.refl _ _))
  clear q q2 hb2 sf r0 r1 r2 r3 r4 r5 f0 s0 s1 s2 s3 s4 s5 c0 HK1 HB1 HB2 HK2 HP1 HB HD HF HPl hb0 HA0
  go_wp2
  go_ret
  exact ⟨rfl, HEND.out⟩
end Go.Proofs.YtiabdbeejkadnabGreatDoor
