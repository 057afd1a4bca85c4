/- The document's state as a plain model, and what the calls do to it. Own work of the verifier. -/
import Derived.Test.YtiabdbeejkadnaaGreatDoorGnd
namespace Go.Proofs.YtiabdbeejkadnaaGreatDoor
open Go.RowKit

/-! ### the document's state, as a plain model -/
structure Rq where
  num : Int
  write : Bool
  page : Int
  data : ByteArray
  state : Int
  tries : Int
  after : Int
  alone : Bool
  inAir : Bool
  answer : ByteArray
structure Cmd where
  write : Bool
  page : Int
  count : Int
  requests : List Int
structure St where
  depth : Int
  reqs : List Rq
  told : List Int
  flights : List Cmd
  now : Int
  head : Int
  last : Int
  disk : List UInt8

def encR (r : Rq) : List Value := [.int .i64 r.num, .bool r.write, .int .i64 r.page, .string r.data, .int .i64 r.state, .int .i64 r.tries, .int .i64 r.after, .bool r.alone, .bool r.inAir, .string r.answer]
def encI (l : List Int) : List Value := l.map (Value.int .i64)
def encB (l : List UInt8) : List Value := l.map (fun b => Value.int .u8 b.toNat)

/-- is it among those that are told? -/
def toldHas (T : List Int) (n : Int) : Bool := T.contains n
theorem toldHas_mem {T : List Int} {n : Int} (h : n ∈ T) : toldHas T n = true := by simpa [toldHas] using h
theorem toldHas_take {T : List Int} {n : Int} {k : Nat} (hk : k < T.length) (h : toldHas (T.take k) n = false) (hne : T.getD k 0 ≠ n) : toldHas (T.take (k + 1)) n = false := by
  have hgd : T.getD k 0 = T[k] := by simp [hk]
  rw [hgd] at hne
  simp only [toldHas, List.take_succ_eq_append_getElem hk, List.contains_eq_mem, List.mem_append, List.mem_singleton, decide_eq_false_iff_not] at h ⊢
  exact fun e => e.elim h (fun e => hne e.symm)
theorem toldHas_all {T : List Int} {n : Int} {k : Nat} (hk : T.length ≤ k) (h : toldHas (T.take k) n = false) : toldHas T n = false := by
  rwa [List.take_of_length_le hk] at h
theorem getD_mem {T : List Int} {k : Nat} (hk : k < T.length) : T.getD k 0 ∈ T := by
  rw [List.getD_eq_getElem?_getD]; simp [hk]

def Rq.zero : Rq := ⟨0, false, 0, ⟨#[]⟩, 0, 0, 0, false, false, ⟨#[]⟩⟩

/-- where the request with this number lies -/
def findR (R : List Rq) (num : Int) : Option Nat := R.findIdx? (fun r => r.num == num)
theorem findR_hit {R : List Rq} {num : Int} {k : Nat} (hk : k < R.length) (h : findR (R.take k) num = none) (he : (R.getD k Rq.zero).num = num) : findR R num = some k := by
  have hgd : R.getD k Rq.zero = R[k] := by simp [hk]
  rw [hgd] at he
  unfold findR at h ⊢
  rw [List.findIdx?_eq_some_iff_getElem]
  refine ⟨hk, by simp [he], fun j hj => ?_⟩
  rw [List.findIdx?_eq_none_iff] at h
  have := h R[j] (by rw [List.mem_take_iff_getElem]; exact ⟨j, by omega, rfl⟩)
  simpa using this
theorem findR_next {R : List Rq} {num : Int} {k : Nat} (hk : k < R.length) (h : findR (R.take k) num = none) (hne : (R.getD k Rq.zero).num ≠ num) : findR (R.take (k + 1)) num = none := by
  have hgd : R.getD k Rq.zero = R[k] := by simp [hk]
  rw [hgd] at hne
  unfold findR at h ⊢
  rw [List.findIdx?_eq_none_iff] at h ⊢
  intro x hx
  rw [List.take_succ_eq_append_getElem hk, List.mem_append, List.mem_singleton] at hx
  rcases hx with hx | hx
  · exact h x hx
  · subst hx; simpa using hne
theorem findR_all {R : List Rq} {num : Int} {k : Nat} (hk : R.length ≤ k) (h : findR (R.take k) num = none) : findR R num = none := by
  rwa [List.take_of_length_le hk] at h
def intOr (o : Option Nat) : Int := match o with | some i => i | none => -1
/-- place: where a request lies that is not told; -1: there is none -/
def placeM (S : St) (num : Int) : Int := if toldHas S.told num then -1 else intOr (findR S.reqs num)
theorem findR_lt {R : List Rq} {num : Int} {k : Nat} (h : findR R num = some k) : k < R.length ∧ (R.getD k Rq.zero).num = num := by
  unfold findR at h
  rw [List.findIdx?_eq_some_iff_getElem] at h
  obtain ⟨hk, he, _⟩ := h
  exact ⟨hk, by simpa [hk] using he⟩

/-- Ask: the new request's number (0: none), the kind of an error (0: none) -/
def askOk (S : St) (write : Bool) (page : Int) (data : ByteArray) : St := { S with last := S.last + 1, reqs := S.reqs ++ [⟨S.last + 1, write, page, data, 0, 0, 0, false, false, ⟨#[]⟩⟩] }
def askM (S : St) (write : Bool) (page : Int) (data : ByteArray) : Int × Int × St :=
  if page < 0 ∨ 16 ≤ page then (0, 2, S) else if write = true ∧ data.size ≠ 4 then (0, 3, S) else if 40 ≤ (S.reqs.length : Int) - S.told.length then (0, 4, S) else (S.last + 1, 0, askOk S write page data)

/-- the first i requests but for the one at place k -/
def keepTo (R : List Rq) (k i : Nat) : List Rq := (R.take i).eraseIdx k
theorem keepTo_zero (R : List Rq) (k : Nat) : keepTo R k 0 = [] := by simp [keepTo]
theorem keepTo_all (R : List Rq) (k i : Nat) (h : R.length ≤ i) : keepTo R k i = R.eraseIdx k := by rw [keepTo, List.take_of_length_le h]
theorem keepTo_same (R : List Rq) (k : Nat) : keepTo R k (k + 1) = keepTo R k k := by
  unfold keepTo
  by_cases h : k < R.length
  · have hl : (R.take k).length = k := by rw [List.length_take]; omega
    rw [List.take_succ_eq_append_getElem h, List.eraseIdx_append_of_length_le (by omega), hl, Nat.sub_self, List.eraseIdx_of_length_le (l := R.take k) (k := k) (by omega)]
    simp
  · rw [List.take_of_length_le (by omega), List.take_of_length_le (by omega)]
theorem keepTo_next (R : List Rq) (k i : Nat) (h : i < R.length) (hne : i ≠ k) : keepTo R k (i + 1) = keepTo R k i ++ [R.getD i Rq.zero] := by
  unfold keepTo
  have hgd : R.getD i Rq.zero = R[i] := by simp [h]
  rw [List.take_succ_eq_append_getElem h, hgd]
  rcases Nat.lt_or_ge k i with hk | hk
  · rw [List.eraseIdx_append_of_lt_length (by rw [List.length_take]; omega)]
  · rw [List.eraseIdx_of_length_le (by rw [List.length_append, List.length_take]; simp; omega), List.eraseIdx_of_length_le (by rw [List.length_take]; omega)]
theorem keepTo_len (R : List Rq) (k i : Nat) : (keepTo R k i).length ≤ R.length := by
  unfold keepTo
  have := List.length_eraseIdx_le (R.take i) k
  have := List.length_take_le i R
  have := List.length_take_le' i R
  omega
def dropM (S : St) (k : Nat) : St :=
  if (S.reqs.getD k Rq.zero).inAir then { S with told := S.told ++ [(S.reqs.getD k Rq.zero).num] } else { S with reqs := S.reqs.eraseIdx k }

/-- the cells of row i of a list of requests -/
theorem encRs_at (l : List Rq) (i k : Nat) (hi : i < l.length) (hk : k < 10) : (l.flatMap encR)[i * 10 + k]? = (encR (l.getD i Rq.zero))[k]? := by
  induction l generalizing i with
  | nil => simp at hi
  | cons r l ih =>
    cases i with
    | zero =>
      simp only [List.flatMap_cons, Nat.zero_mul, Nat.zero_add]
      rw [List.getElem?_append_left (by simpa [encR] using hk)]
      simp
    | succ i =>
      simp only [List.flatMap_cons]
      rw [List.getElem?_append_right (by simp [encR]; omega)]
      have e : (i + 1) * 10 + k - (encR r).length = i * 10 + k := by simp [encR]; omega
      rw [e, ih i (by simpa using hi)]
      simp
theorem encRs_len (l : List Rq) : (l.flatMap encR).length = l.length * 10 := by
  induction l with
  | nil => rfl
  | cons r l ih => simp only [List.flatMap_cons, List.length_append, ih, List.length_cons]; simp [encR]; omega

theorem placeM_some {S : St} {num : Int} {k : Nat} (h : placeM S num = k) : k < S.reqs.length ∧ (S.reqs.getD k Rq.zero).num = num := by
  unfold placeM at h
  split at h
  · omega
  · cases hf : findR S.reqs num with
    | none => rw [hf] at h; simp [intOr] at h
    | some i =>
      rw [hf] at h
      have : i = k := by simp [intOr] at h; omega
      subst this
      exact findR_lt hf
theorem placeM_cases (S : St) (num : Int) : placeM S num = -1 ∨ ∃ k : Nat, placeM S num = k := by
  unfold placeM
  split
  · exact Or.inl rfl
  · cases findR S.reqs num with
    | none => exact Or.inl rfl
    | some i => exact Or.inr ⟨i, rfl⟩

/-- Poll: the data, the tries, the kind of an error (0: none), the state behind it -/
def pollM (S : St) (num : Int) : ByteArray × Int × Int × St :=
  if placeM S num < 0 then (⟨#[]⟩, 0, 5, S) else
  let k := (placeM S num).toNat
  let r := S.reqs.getD k Rq.zero
  if r.state = 0 ∨ r.state = 1 then (⟨#[]⟩, r.tries, 6, S) else
  if r.state = 3 then (⟨#[]⟩, r.tries, 7, dropM S k) else
  if r.state = 4 then (⟨#[]⟩, r.tries, 8, dropM S k) else (r.answer, r.tries, 0, dropM S k)
def setState (R : List Rq) (k : Nat) (x : Int) : List Rq := R.set k { R.getD k Rq.zero with state := x }
/-- Cancel: the kind of an error (0: none), the tries, the state behind it -/
def cancelM (S : St) (num : Int) : Int × Int × St :=
  if placeM S num < 0 then (5, 0, S) else
  let k := (placeM S num).toNat
  let r := S.reqs.getD k Rq.zero
  if 2 ≤ r.state then (9, r.tries, S) else (0, 0, { S with reqs := setState S.reqs k 4 })

def waitTo (R : List Rq) (i : Nat) : List Int := ((R.take i).filter (fun r => r.state == 0)).map (·.num)
def waitM (S : St) : List Int := (S.reqs.filter (fun r => r.state == 0)).map (·.num)
theorem waitTo_yes {R : List Rq} {i : Nat} (h : i < R.length) (hs : (R.getD i Rq.zero).state = 0) : waitTo R (i + 1) = waitTo R i ++ [(R.getD i Rq.zero).num] := by
  have hgd : R.getD i Rq.zero = R[i] := by simp [h]
  rw [hgd] at hs ⊢
  simp only [waitTo, List.take_succ_eq_append_getElem h, List.filter_append, List.map_append]
  simp [hs]
theorem waitTo_no {R : List Rq} {i : Nat} (h : i < R.length) (hs : (R.getD i Rq.zero).state ≠ 0) : waitTo R (i + 1) = waitTo R i := by
  have hgd : R.getD i Rq.zero = R[i] := by simp [h]
  rw [hgd] at hs
  simp only [waitTo, List.take_succ_eq_append_getElem h, List.filter_append, List.map_append]
  simp [hs]
theorem waitTo_len (R : List Rq) (i : Nat) : (waitTo R i).length ≤ R.length := by
  unfold waitTo
  rw [List.length_map]
  have h1 := List.length_filter_le (fun r : Rq => r.state == 0) (R.take i)
  have h2 := List.length_take_le' i R
  omega
def St.new (depth : Int) : St := ⟨depth, [], [], [], 0, 0, 0, List.replicate 64 0⟩
end Go.Proofs.YtiabdbeejkadnaaGreatDoor
