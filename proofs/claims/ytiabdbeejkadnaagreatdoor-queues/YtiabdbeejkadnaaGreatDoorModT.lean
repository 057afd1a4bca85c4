/- Stage 2: what a try's end keeps of the document's state. Own work of the verifier. -/
import Derived.Test.YtiabdbeejkadnaaGreatDoorModS
namespace Go.Proofs.YtiabdbeejkadnaaGreatDoor
section
variable {S : St} {E : List Int}
theorem untold_mem (T : List Int) (n m : Int) : m ∈ untold T n ↔ m ∈ T ∧ m ≠ n := by simp [untold]
theorem untold_len {T : List Int} {n : Int} (hd : T.Nodup) (hn : n ∈ T) : (untold T n).length + 1 = T.length := by
  have e : untold T n = T.erase n := by rw [hd.erase_eq_filter]; rfl
  have := List.length_pos_of_mem hn
  rw [e, List.length_erase_of_mem hn]; omega
theorem mem_mid {A E : List Int} {n m : Int} (h : m ≠ n) : m ∈ A ++ E ↔ m ∈ A ++ n :: E := by simp [h]
theorem nodup_mid {A E : List Int} {n : Int} (h : (A ++ n :: E).Nodup) : (A ++ E).Nodup ∧ n ∉ A ++ E := by
  rw [List.nodup_append] at h
  obtain ⟨h1, h2, h3⟩ := h
  rw [List.nodup_cons] at h2
  refine ⟨List.nodup_append.2 ⟨h1, h2.2, fun a ha b hb => h3 a ha b (List.mem_cons_of_mem _ hb)⟩, fun e => ?_⟩
  rw [List.mem_append] at e
  rcases e with e | e
  · exact h3 n e n (by simp) rfl
  · exact h2.1 e
/-- one that was told, and is under way no more, is gone -/
theorem WfE.gone {n : Int} (h : WfE S (n :: E)) {k : Nat} (hk : k < S.reqs.length) (hn : (S.reqs[k]).num = n) (ht : n ∈ S.told) (D : List UInt8) (hD : D.length = 64) : WfE { S with reqs := S.reqs.eraseIdx k, told := untold S.told n, disk := D } E where
  depth := h.depth
  last := h.last
  now := h.now
  head := h.head
  disk := hD
  sorted := h.sorted.sublist (List.eraseIdx_sublist _ _)
  rq := fun r hr => by
    obtain ⟨h1, h2⟩ := (mem_erase h.sorted hk r).1 hr
    have o := h.rq r h1
    rw [hn] at h2
    exact { o with air := o.air.trans (mem_mid h2).symm, told := fun e => o.told ((untold_mem _ _ _).1 e).1 }
  airIn := fun m hm => by
    have hne : m ≠ n := fun e => (nodup_mid h.nodup).2 (e ▸ hm)
    obtain ⟨r, hr, rfl⟩ := h.airIn m ((mem_mid hne).1 hm)
    exact ⟨r, (mem_erase h.sorted hk r).2 ⟨hr, by rw [hn]; exact hne⟩, rfl⟩
  nodup := (nodup_mid h.nodup).1
  toldIn := fun m hm => by
    obtain ⟨h1, h2⟩ := (untold_mem _ _ _).1 hm
    obtain ⟨r, hr, rfl⟩ := h.toldIn m h1
    exact ⟨r, (mem_erase h.sorted hk r).2 ⟨hr, by rw [hn]; exact h2⟩, rfl⟩
  toldNd := h.toldNd.filter _
  len := by
    have := untold_len h.toldNd ht
    have := h.len
    show (S.reqs.eraseIdx k).length ≤ 40 + (untold S.told n).length
    rw [List.length_eraseIdx, if_pos hk]; omega
  flLen := h.flLen
  fl := fun c hc => (h.fl c hc).of (fun r hr _ => ⟨r, List.mem_of_mem_eraseIdx hr, rfl, rfl, rfl⟩)

theorem WfE.found {n : Int} (h : WfE S E) (hn : n ∈ airs S ++ E) : ∃ k, ∃ hk : k < S.reqs.length, findR S.reqs n = some k ∧ (S.reqs[k]).num = n ∧ (S.reqs[k]).inAir = true := by
  obtain ⟨r, hr, rfl⟩ := h.airIn n hn
  obtain ⟨k, hf⟩ := findR_mem hr
  obtain ⟨hk, e⟩ := findR_get hf
  exact ⟨k, hk, hf, e, (h.rq _ (List.getElem_mem hk)).air.2 (by rw [e]; exact hn)⟩
theorem erase_set (R : List Rq) (k : Nat) (x : Rq) : (R.set k x).eraseIdx k = R.eraseIdx k := by
  induction R generalizing k with
  | nil => rfl
  | cons a R ih => cases k with | zero => rfl | succ k => simp [ih]
def diskM (S : St) (k : Nat) (fault : Bool) : List UInt8 := if fault = false ∧ (S.reqs.getD k Rq.zero).write = true then putM S.disk (4 * (S.reqs.getD k Rq.zero).page).toNat (S.reqs.getD k Rq.zero).data.data.toList else S.disk
theorem diskM_len (S : St) (k : Nat) (fault : Bool) : (diskM S k fault).length = S.disk.length := by unfold diskM; split <;> simp [putM_len]
theorem triedM_told {k : Nat} {n : Int} {fault : Bool} (hf : findR S.reqs n = some k) (ht : toldHas S.told n = true) : triedM S n fault = { S with reqs := S.reqs.eraseIdx k, told := untold S.told n, disk := diskM S k fault } := by
  unfold triedM
  rw [if_pos ht, hf]
  simp only [triedK, diskM, Option.getD_some, erase_set]
theorem triedM_not {k : Nat} {n : Int} {fault : Bool} (hf : findR S.reqs n = some k) (ht : toldHas S.told n = false) : triedM S n fault = { S with reqs := S.reqs.set k (triedR S fault (S.reqs.getD k Rq.zero)), disk := diskM S k fault } := by
  unfold triedM
  rw [if_neg (by simp [ht]), hf]
  rfl
theorem WfE.tried {n : Int} (h : WfE S (n :: E)) (fault : Bool) : WfE (triedM S n fault) E := by
  obtain ⟨k, hk, hf, hn, hi⟩ := h.found (n := n) (by simp)
  obtain ⟨h1, h2⟩ := nodup_mid h.nodup
  cases ht : toldHas S.told n with
  | true =>
    rw [triedM_told hf ht]
    exact h.gone hk hn (by simpa [toldHas] using ht) _ (by rw [diskM_len]; exact h.disk)
  | false =>
    rw [triedM_not hf ht, getD_of hk]
    refine h.setR hk (triedR S fault (S.reqs[k])) rfl rfl rfl (diskM S k fault) (by rw [diskM_len]; exact h.disk) ?_ (fun m hm => ?_) h1
    · exact triedR_ok rfl h.now h.disk (h.rq _ (List.getElem_mem hk)) hi (by rw [hn]; exact h2) (by rw [hn]; simpa [toldHas] using ht) fault
    · rw [hn] at hm; exact mem_mid hm
theorem WfE.ends {l : List Int} (h : WfE S (l ++ E)) (fault : Bool) : WfE (endM S l fault) E := by
  induction l generalizing S with
  | nil => exact h
  | cons n l ih => exact ih (h.tried fault)
theorem Wf.complete (h : Wf S) (k : Int) (fault : Bool) : Wf (completeM S k fault).2 := by
  unfold completeM
  split
  · exact h
  · have hk : k.toNat < S.flights.length := by omega
    have := h.lift hk
    have e : S.flights.getD k.toNat ⟨false, 0, 0, []⟩ = S.flights[k.toNat] := by simp [hk]
    show WfE (endM _ _ fault) []
    rw [e]
    exact WfE.ends (E := []) (by rw [List.append_nil]; exact this) fault
end
/-! what stays as it is -/
theorem triedM_same (S : St) (n : Int) (fault : Bool) : (triedM S n fault).last = S.last ∧ (triedM S n fault).now = S.now ∧ (triedM S n fault).depth = S.depth ∧ (triedM S n fault).head = S.head ∧ (triedM S n fault).flights = S.flights := by
  unfold triedM
  split <;> exact ⟨rfl, rfl, rfl, rfl, rfl⟩
theorem endM_same (l : List Int) (S : St) (fault : Bool) : (endM S l fault).last = S.last ∧ (endM S l fault).now = S.now ∧ (endM S l fault).depth = S.depth ∧ (endM S l fault).head = S.head ∧ (endM S l fault).flights = S.flights := by
  induction l generalizing S with
  | nil => exact ⟨rfl, rfl, rfl, rfl, rfl⟩
  | cons n l ih =>
    have h1 := ih (triedM S n fault)
    have h2 := triedM_same S n fault
    exact ⟨h1.1.trans h2.1, h1.2.1.trans h2.2.1, h1.2.2.1.trans h2.2.2.1, h1.2.2.2.1.trans h2.2.2.2.1, h1.2.2.2.2.trans h2.2.2.2.2⟩
theorem completeM_same (S : St) (k : Int) (fault : Bool) : (completeM S k fault).2.last = S.last ∧ (completeM S k fault).2.now = S.now := by
  unfold completeM
  split
  · exact ⟨rfl, rfl⟩
  · have := endM_same (S.flights.getD k.toNat ⟨false, 0, 0, []⟩).requests { S with flights := S.flights.eraseIdx k.toNat } fault
    exact ⟨this.1, this.2.1⟩

/-! ### Poll, Cancel, Ask: what they keep -/
section
variable {S : St} {E : List Int}
theorem Wf.place (_h : WfE S E) (num : Int) : (placeM S num = -1 ∧ (toldHas S.told num = true ∨ findR S.reqs num = none)) ∨ ∃ k, ∃ hk : k < S.reqs.length, placeM S num = k ∧ findR S.reqs num = some k ∧ (S.reqs[k]).num = num ∧ toldHas S.told num = false := by
  unfold placeM
  cases ht : toldHas S.told num with
  | true => left; exact ⟨rfl, Or.inl rfl⟩
  | false =>
    cases hf : findR S.reqs num with
    | none => left; exact ⟨rfl, Or.inr rfl⟩
    | some k =>
      obtain ⟨hk, e⟩ := findR_get hf
      right; exact ⟨k, hk, rfl, rfl, e, rfl⟩
theorem WfE.dropped (h : WfE S E) {k : Nat} (hk : k < S.reqs.length) (h2 : 2 ≤ (S.reqs[k]).state) (ht : toldHas S.told (S.reqs[k]).num = false) : WfE (dropM S k) E := by
  have o := h.rq _ (List.getElem_mem hk)
  unfold dropM
  rw [getD_of hk]
  cases ha : (S.reqs[k]).inAir with
  | true =>
    rw [if_pos rfl]
    have h14 := o.air14 ha
    exact h.tell hk ha (by omega) ht
  | false =>
    rw [if_neg (by simp)]
    have hT : ∀ n, n ∈ S.told ↔ n ∈ S.told ∧ n ≠ (S.reqs[k]).num := fun n => ⟨fun e => ⟨e, fun e' => by subst e'; rw [toldHas_mem e] at ht; cases ht⟩, fun e => e.1⟩
    exact h.erase hk ha S.told h.toldNd hT (by have := h.len; omega)
theorem Wf.poll (h : WfE S E) (num : Int) : WfE (pollM S num).2.2.2 E := by
  rcases Wf.place h num with ⟨hp, _⟩ | ⟨k, hk, hp, hf, hn, ht⟩
  · unfold pollM; rw [if_pos (by omega)]; exact h
  · unfold pollM
    have e : (placeM S num).toNat = k := by omega
    rw [if_neg (by omega), e]
    dsimp only
    have o := h.rq _ (List.getElem_mem hk)
    rw [getD_of hk]
    by_cases h01 : (S.reqs[k]).state = 0 ∨ (S.reqs[k]).state = 1
    · rw [if_pos h01]; exact h
    · rw [if_neg h01]
      have hd := h.dropped hk (by have := o.st; omega) (by rw [hn]; exact ht)
      split
      · exact hd
      · split
        · exact hd
        · exact hd
theorem Wf.cancelM (h : WfE S E) (num : Int) : WfE (cancelM S num).2.2 E := by
  rcases Wf.place h num with ⟨hp, _⟩ | ⟨k, hk, hp, hf, hn, ht⟩
  · unfold Go.Proofs.YtiabdbeejkadnaaGreatDoor.cancelM; rw [if_pos (by omega)]; exact h
  · unfold Go.Proofs.YtiabdbeejkadnaaGreatDoor.cancelM
    have e : (placeM S num).toNat = k := by omega
    rw [if_neg (by omega), e]
    dsimp only
    rw [getD_of hk]
    split
    · exact h
    · exact h.cancel hk (by omega)
theorem Wf.askM (h : WfE S E) (write : Bool) (page : Int) (data : ByteArray) : WfE (askM S write page data).2.2 E := by
  unfold Go.Proofs.YtiabdbeejkadnaaGreatDoor.askM
  split
  · exact h
  · split
    · exact h
    · split
      · exact h
      · exact h.ask (by omega) write page data (by omega) (fun e => by rename_i h2 _; simp only [e, true_and, ne_eq, Decidable.not_not] at h2; exact h2)
theorem dropM_same (S : St) (k : Nat) : (dropM S k).last = S.last ∧ (dropM S k).now = S.now := by unfold dropM; split <;> exact ⟨rfl, rfl⟩
theorem pollM_same (S : St) (num : Int) : (pollM S num).2.2.2.last = S.last ∧ (pollM S num).2.2.2.now = S.now := by
  unfold pollM
  split
  · exact ⟨rfl, rfl⟩
  · dsimp only
    split
    · exact ⟨rfl, rfl⟩
    · split
      · exact dropM_same _ _
      · split
        · exact dropM_same _ _
        · exact dropM_same _ _
end
theorem Wf.new (depth : Int) (h : 1 ≤ depth ∧ depth ≤ 4) : Wf (St.new depth) where
  depth := h
  last := Int.le_refl 0
  now := Int.le_refl 0
  head := ⟨Int.le_refl 0, by show (0 : Int) ≤ 16; decide⟩
  disk := by simp [St.new]
  sorted := List.Pairwise.nil
  rq := fun r hr => by cases hr
  airIn := fun n hn => by simp [airs, St.new] at hn
  nodup := by simp [airs, St.new]
  toldIn := fun n hn => by cases hn
  toldNd := List.nodup_nil
  len := by simp [St.new]
  flLen := by show (0 : Int) ≤ depth; omega
  fl := fun c hc => by cases hc
end Go.Proofs.YtiabdbeejkadnaaGreatDoor
