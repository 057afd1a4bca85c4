import Derived.Test.YtiabdbeejkadnabGreatDoorJ0c3df23578
/- A queue with one request alone, as a plain model. Own work of the verifier. -/
namespace Go.Proofs.YtiabdbeejkadnabGreatDoor

section
variable {S : St} {r : Rq}
theorem one_ready (hr : S.reqs = [r]) : readyB S r = (r.state == 0 && decide (r.after ≤ S.now)) := by
  unfold readyB; rw [hr]; simp
theorem one_first (hr : S.reqs = [r]) (p : Int) : firstM S p = if (r.state = 0 ∧ r.after ≤ S.now) ∧ r.page = p then some 0 else none := by
  unfold firstM
  rw [hr, List.findIdx?_cons]
  have e := one_ready hr
  by_cases h : (r.state = 0 ∧ r.after ≤ S.now) ∧ r.page = p
  · rw [if_pos h]
    have : (readyB S r && r.page == p) = true := by rw [e]; simp [h]
    rw [if_pos this]
  · rw [if_neg h]
    have : ¬ (readyB S r && r.page == p) = true := by
      rw [e]; simp only [Bool.and_eq_true, beq_iff_eq, decide_eq_true_eq]; exact h
    rw [if_neg this]; simp
theorem one_pageGo (hr : S.reqs = [r]) (h1 : r.state = 0) (h2 : r.after ≤ S.now) (hp : 0 ≤ r.page ∧ r.page < 16) (_hh : 0 ≤ S.head) : ∀ (n i : Nat), i + n = 16 → (i : Int) ≤ (r.page - S.head) % 16 → pageGo S i n = some r.page := by
  intro n
  induction n with
  | zero =>
    intro i hi ht
    have := Int.emod_lt_of_pos (r.page - S.head) (show (0 : Int) < 16 by omega)
    omega
  | succ n ih =>
    intro i hi ht
    unfold pageGo
    by_cases e : (S.head + i) % 16 = r.page
    · have hfi : firstM S ((S.head + i) % 16) = some 0 := by rw [one_first hr, if_pos ⟨⟨h1, h2⟩, e.symm⟩]
      rw [hfi]; simp [e]
    · have hfi : firstM S ((S.head + i) % 16) = none := by rw [one_first hr, if_neg (fun x => e x.2.symm)]
      rw [hfi]
      show pageGo S (i + 1) n = _
      refine ih (i + 1) (by omega) ?_
      have : ((i : Int)) ≠ (r.page - S.head) % 16 := fun e' => e (by omega)
      omega
theorem one_next (hr : S.reqs = [r]) (hd : 0 < S.depth) (hf : S.flights = []) (h1 : r.state = 0) (h2 : r.after ≤ S.now) (hp : 0 ≤ r.page ∧ r.page < 16) (hh : 0 ≤ S.head) : nextM S = some ⟨r.write, r.page, 1, [r.num]⟩ := by
  have hpg : pageM S = some r.page := one_pageGo hr h1 h2 hp hh 16 0 (by omega) (Int.emod_nonneg _ (by omega))
  unfold nextM
  rw [if_neg (by rw [hf]; simp; omega), hpg, Option.map_some, one_first hr, if_pos ⟨⟨h1, h2⟩, rfl⟩, hr]
  simp only [Option.getD_some, List.getD_cons_zero]
  unfold cmdAt
  cases ha : r.alone with
  | true => rfl
  | false =>
    have e := one_ready hr
    have hrd : readyB S r = true := by rw [e]; simp [h1, h2]
    have g0 : groupM S r.page r.write = [r.num] := by
      unfold groupM; rw [hr, List.filter_cons]
      have : (readyB S r && r.page == r.page && r.write == r.write && !r.alone) = true := by rw [hrd, ha]; simp
      rw [if_pos this]; rfl
    have g1 : ∀ q, q ≠ r.page → groupM S q r.write = [] := fun q hq => by
      unfold groupM; rw [hr, List.filter_cons]
      have : ¬ (readyB S r && r.page == q && r.write == r.write && !r.alone) = true := by
        simp only [Bool.and_eq_true, beq_iff_eq]; exact fun x => hq x.1.1.2.symm
      rw [if_neg this]; rfl
    have gg : growM S r.page r.write 3 1 [r.num] = (1, [r.num]) := by
      unfold growM
      split
      · rw [if_pos (g1 _ (by omega))]
      · rfl
    rw [g0, gg]; simp
theorem one_none (hr : S.reqs = [r]) (h : ¬ (r.state = 0 ∧ r.after ≤ S.now)) : nextM S = none := by
  have hp : ∀ n i, pageGo S i n = none := by
    intro n
    induction n with
    | zero => intro i; rfl
    | succ n ih =>
      intro i
      unfold pageGo
      have hfi : firstM S ((S.head + i) % 16) = none := by rw [one_first hr, if_neg (fun x => h x.1)]
      rw [hfi]
      exact ih _
  unfold nextM
  split
  · rfl
  · show (pageM S).map _ = none
    unfold pageM
    rw [hp]; rfl
end
/-- one request, waiting (or done) -/
def oneS (r : Rq) (now head : Int) (disk : List UInt8) : St := ⟨1, [r], [], [], now, head, 1, disk⟩
/-- it is under way -/
def oneF (r : Rq) (now : Int) (disk : List UInt8) : St := ⟨1, [{ r with state := 1, inAir := true }], [], [⟨r.write, r.page, 1, [r.num]⟩], now, r.page + 1, 1, disk⟩
theorem one_step {r : Rq} {now head : Int} {disk : List UInt8} (h1 : r.state = 0) (h2 : r.after ≤ now) (hp : 0 ≤ r.page ∧ r.page < 16) (hh : 0 ≤ head) : stepM (oneS r now head disk) = (some ⟨r.write, r.page, 1, [r.num]⟩, oneF r now disk) := by
  unfold stepM
  rw [one_next (S := oneS r now head disk) rfl (by show (0 : Int) < 1; decide) rfl h1 h2 hp hh]
  simp [sendM, markM, oneS, oneF]
theorem one_step_no {r : Rq} {now head : Int} {disk : List UInt8} (h : ¬ (r.state = 0 ∧ r.after ≤ now)) : stepM (oneS r now head disk) = (none, oneS r now head disk) := by
  unfold stepM
  rw [one_none (S := oneS r now head disk) rfl h]
theorem one_done {r : Rq} {now : Int} {disk : List UInt8} (fault : Bool) : completeM (oneF r now disk) 0 fault = (true, oneS (triedR (oneF r now disk) fault { r with state := 1, inAir := true }) now (r.page + 1) (if fault = false ∧ r.write = true then putM disk (4 * r.page).toNat r.data.data.toList else disk)) := by
  unfold completeM
  rw [if_neg (by simp [oneF])]
  simp only [oneF, oneS, endM, triedM, toldHas, findR, triedK]
  simp
  rfl
end Go.Proofs.YtiabdbeejkadnabGreatDoor
