import Derived.Test.YtiabdbeejkadnabGreatDoorJ56e98afef6
/- Stage 2: what is always so of the document's state; what the calls keep of it; a command's end as a plain function. Own work of the verifier. -/
namespace Go.Proofs.YtiabdbeejkadnabGreatDoor

theorem nodup_len {l m : List Int} (h : l.Nodup) (hs : ∀ x ∈ l, x ∈ m) : l.length ≤ m.length := by
  induction l generalizing m with
  | nil => simp
  | cons a l ih =>
    rw [List.nodup_cons] at h
    have ha : a ∈ m := hs a (by simp)
    have h1 := ih h.2 (m := m.erase a) (fun x hx => (List.mem_erase_of_ne (fun e => h.1 (by rw [← e]; exact hx))).2 (hs x (by simp [hx])))
    rw [List.length_erase_of_mem ha] at h1
    have : 0 < m.length := List.length_pos_of_mem ha
    simp; omega
theorem incr_len {l : List Int} {L : Int} (h : l.Pairwise (· < ·)) (hb : ∀ x ∈ l, 1 ≤ x ∧ x ≤ L) (h0 : 0 ≤ L) : (l.length : Int) ≤ L := by
  have key : ∀ (l : List Int) (a : Int), l.Pairwise (· < ·) → (∀ x ∈ l, a < x ∧ x ≤ L) → a ≤ L → (l.length : Int) ≤ L - a := by
    intro l
    induction l with
    | nil => intro a _ _ h; simp; omega
    | cons b l ih =>
      intro a hp hb hl
      rw [List.pairwise_cons] at hp
      have h1 := hb b (by simp)
      have := ih b hp.2 (fun x hx => ⟨hp.1 x hx, (hb x (by simp [hx])).2⟩) h1.2
      simp only [List.length_cons]; omega
  have := key l 0 h (fun x hx => by have := hb x hx; omega) h0
  omega

/-! ### lists of requests by their numbers -/
theorem findR_isSome (R : List Rq) (num : Int) : (findR R num).isSome = R.any (fun r => r.num == num) := by
  unfold findR
  exact List.findIdx?_isSome
theorem findR_new (R : List Rq) (x : Rq) (num : Int) : (findR (R ++ [x]) num).isSome = ((findR R num).isSome || x.num == num) := by
  rw [findR_isSome, findR_isSome, List.any_append]
  simp
theorem findR_none_of {R : List Rq} {num : Int} (h : ∀ r ∈ R, r.num ≠ num) : findR R num = none := by
  unfold findR
  rw [List.findIdx?_eq_none_iff]
  intro r hr
  simpa using h r hr
theorem findR_get {R : List Rq} {num : Int} {k : Nat} (h : findR R num = some k) : ∃ hk : k < R.length, (R[k]).num = num := by
  obtain ⟨hk, e⟩ := findR_lt h
  exact ⟨hk, by simpa [hk] using e⟩
theorem findR_mem {R : List Rq} {r : Rq} (h : r ∈ R) : ∃ k, findR R r.num = some k := by
  have : (findR R r.num).isSome = true := by rw [findR_isSome, List.any_eq_true]; exact ⟨r, h, by simp⟩
  exact Option.isSome_iff_exists.1 this
theorem nums_inj {R : List Rq} (hs : R.Pairwise (fun a b => a.num < b.num)) {i j : Nat} (hi : i < R.length) (hj : j < R.length) (h : (R[i]).num = (R[j]).num) : i = j := by
  rw [List.pairwise_iff_getElem] at hs
  rcases Nat.lt_trichotomy i j with h1 | h1 | h1
  · have := hs i j hi hj h1; omega
  · exact h1
  · have := hs j i hj hi h1; omega
theorem num_uniq {R : List Rq} (hs : R.Pairwise (fun a b => a.num < b.num)) {a b : Rq} (ha : a ∈ R) (hb : b ∈ R) (h : a.num = b.num) : a = b := by
  obtain ⟨i, hi, rfl⟩ := List.getElem_of_mem ha
  obtain ⟨j, hj, rfl⟩ := List.getElem_of_mem hb
  have := nums_inj hs hi hj h
  subst this; rfl
theorem findR_at {R : List Rq} (hs : R.Pairwise (fun a b => a.num < b.num)) {k : Nat} (hk : k < R.length) : findR R (R[k]).num = some k := by
  obtain ⟨j, hj⟩ := findR_mem (List.getElem_mem hk)
  obtain ⟨hj1, hj2⟩ := findR_get hj
  rw [hj, nums_inj hs hj1 hk hj2]
theorem mem_erase {R : List Rq} (hs : R.Pairwise (fun a b => a.num < b.num)) {k : Nat} (hk : k < R.length) (r : Rq) : r ∈ R.eraseIdx k ↔ r ∈ R ∧ r.num ≠ (R[k]).num := by
  rw [List.mem_eraseIdx_iff_getElem]
  constructor
  · rintro ⟨i, hi, hne, rfl⟩
    exact ⟨List.getElem_mem _, fun e => hne (nums_inj hs hi hk e)⟩
  · rintro ⟨hr, hne⟩
    obtain ⟨i, hi, rfl⟩ := List.getElem_of_mem hr
    exact ⟨i, hi, fun e => hne (by subst e; rfl), rfl⟩
theorem findR_erase {R : List Rq} (hs : R.Pairwise (fun a b => a.num < b.num)) {k : Nat} (hk : k < R.length) (n : Int) : (findR (R.eraseIdx k) n).isSome = ((findR R n).isSome && n != (R[k]).num) := by
  rw [findR_isSome, findR_isSome, Bool.eq_iff_iff]
  simp only [List.any_eq_true, Bool.and_eq_true, bne_iff_ne, beq_iff_eq]
  constructor
  · rintro ⟨r, hr, rfl⟩
    rw [mem_erase hs hk] at hr
    exact ⟨⟨r, hr.1, rfl⟩, hr.2⟩
  · rintro ⟨⟨r, hr, rfl⟩, hne⟩
    exact ⟨r, (mem_erase hs hk r).2 ⟨hr, hne⟩, rfl⟩
theorem mem_setR {R : List Rq} (hs : R.Pairwise (fun a b => a.num < b.num)) {k : Nat} (hk : k < R.length) (x r : Rq) (hr : r ∈ R.set k x) : r = x ∨ (r ∈ R ∧ r.num ≠ (R[k]).num) := by
  obtain ⟨i, hi, rfl⟩ := List.getElem_of_mem hr
  rw [List.length_set] at hi
  rw [List.getElem_set]
  by_cases h : k = i
  · rw [if_pos h]; left; rfl
  · rw [if_neg h]; right; exact ⟨List.getElem_mem _, fun e => h (nums_inj hs hi hk e).symm⟩
theorem nums_setR (R : List Rq) (k : Nat) (x : Rq) (hk : k < R.length) (hx : x.num = (R[k]).num) : (R.set k x).map (·.num) = R.map (·.num) := by
  rw [List.map_set]
  apply List.ext_getElem?
  intro i
  rw [List.getElem?_set]
  by_cases h : k = i
  · subst h; simp [hk, hx]
  · rw [if_neg h]
theorem sorted_setR {R : List Rq} (hs : R.Pairwise (fun a b => a.num < b.num)) (k : Nat) (x : Rq) (hk : k < R.length) (hx : x.num = (R[k]).num) : (R.set k x).Pairwise (fun a b => a.num < b.num) := by
  have e : (R.map (·.num)).Pairwise (· < ·) := List.pairwise_map.2 hs
  rw [← nums_setR R k x hk hx] at e
  exact List.pairwise_map.1 e
theorem findR_nums {R R' : List Rq} (h : R'.map (·.num) = R.map (·.num)) (n : Int) : (findR R' n).isSome = (findR R n).isSome := by
  rw [findR_isSome, findR_isSome]
  have e : ∀ L : List Rq, L.any (fun r => r.num == n) = (L.map (·.num)).any (· == n) := fun L => by rw [List.any_map]; rfl
  rw [e, e, h]
theorem setState_eq (R : List Rq) (k : Nat) (x : Int) (hk : k < R.length) : setState R k x = R.set k { R[k] with state := x } := by
  unfold setState; simp [hk]
theorem getD_of {R : List Rq} {k : Nat} (hk : k < R.length) : R.getD k Rq.zero = R[k] := by simp [hk]

/-! ### what is always so -/
/-- the numbers of the requests under way, flight by flight -/
def airs (S : St) : List Int := S.flights.flatMap (·.requests)
structure CmdOk (S : St) (c : Cmd) : Prop where
  ne : c.requests ≠ []
  wr : ∀ r ∈ S.reqs, r.num ∈ c.requests → r.write = c.write
  fst : ∀ r ∈ S.reqs, c.requests.head? = some r.num → r.page = c.page
  lst : ∀ r ∈ S.reqs, c.requests.getLast? = some r.num → r.page = c.page + c.count - 1
structure RqOk (last now : Int) (told A : List Int) (r : Rq) : Prop where
  num : 1 ≤ r.num ∧ r.num ≤ last
  st : 0 ≤ r.state ∧ r.state ≤ 4
  air : r.inAir = true ↔ r.num ∈ A
  one : r.state = 1 → r.inAir = true
  air14 : r.inAir = true → r.state = 1 ∨ r.state = 4
  page : 0 ≤ r.page ∧ r.page < 16
  data : r.write = true → r.data.size = 4
  ansW : r.write = true → r.answer = ⟨#[]⟩
  ansR : r.write = false → r.state = 2 → r.answer.size = 4
  tries : 0 ≤ r.tries ∧ r.tries ≤ 4
  tries3 : r.state = 0 ∨ r.inAir = true → r.tries ≤ 3
  alone : r.state = 0 → r.alone = decide (0 < r.tries)
  after : 0 ≤ r.after ∧ r.after ≤ now + 8
  told : r.num ∈ told → r.inAir = true ∧ r.state = 4
/-- E: those of a command that is being sent or ended just now -/
structure WfE (S : St) (E : List Int) : Prop where
  depth : 1 ≤ S.depth ∧ S.depth ≤ 4
  last : 0 ≤ S.last
  now : 0 ≤ S.now
  head : 0 ≤ S.head ∧ S.head ≤ 16
  disk : S.disk.length = 64
  sorted : S.reqs.Pairwise (fun a b => a.num < b.num)
  rq : ∀ r ∈ S.reqs, RqOk S.last S.now S.told (airs S ++ E) r
  airIn : ∀ n ∈ airs S ++ E, ∃ r ∈ S.reqs, r.num = n
  nodup : (airs S ++ E).Nodup
  toldIn : ∀ n ∈ S.told, ∃ r ∈ S.reqs, r.num = n
  toldNd : S.told.Nodup
  len : S.reqs.length ≤ 40 + S.told.length
  flLen : (S.flights.length : Int) ≤ S.depth
  fl : ∀ c ∈ S.flights, CmdOk S c
abbrev Wf (S : St) : Prop := WfE S []

theorem CmdOk.of {S S' : St} {c : Cmd} (h : CmdOk S c) (hs : ∀ r ∈ S'.reqs, r.num ∈ c.requests → ∃ r' ∈ S.reqs, r'.num = r.num ∧ r'.write = r.write ∧ r'.page = r.page) : CmdOk S' c := by
  refine ⟨h.ne, fun r hr hn => ?_, fun r hr hn => ?_, fun r hr hn => ?_⟩
  · obtain ⟨r', h1, h2, h3, _⟩ := hs r hr hn
    rw [← h3]; exact h.wr r' h1 (by rw [h2]; exact hn)
  · obtain ⟨r', h1, h2, _, h4⟩ := hs r hr (by cases hc : c.requests with | nil => simp [hc] at hn | cons a l => simp [hc] at hn; simp [hn])
    rw [← h4]; exact h.fst r' h1 (by rw [h2]; exact hn)
  · obtain ⟨r', h1, h2, _, h4⟩ := hs r hr (List.mem_of_getLast? hn)
    rw [← h4]; exact h.lst r' h1 (by rw [h2]; exact hn)

section
variable {S : St} {E : List Int}
theorem WfE.reqsLen (h : WfE S E) : (S.reqs.length : Int) ≤ S.last := by
  have := incr_len (l := S.reqs.map (·.num)) (L := S.last) (List.pairwise_map.2 h.sorted) (fun x hx => by obtain ⟨r, hr, rfl⟩ := List.mem_map.1 hx; exact (h.rq r hr).num) h.last
  simpa using this
theorem WfE.toldLen (h : WfE S E) : S.told.length ≤ S.reqs.length := by
  have := nodup_len h.toldNd (m := S.reqs.map (·.num)) (fun x hx => by obtain ⟨r, hr, e⟩ := h.toldIn x hx; exact List.mem_map.2 ⟨r, hr, e⟩)
  simpa using this
theorem WfE.airLen (h : WfE S E) : (airs S ++ E).length ≤ S.reqs.length := by
  have := nodup_len h.nodup (m := S.reqs.map (·.num)) (fun x hx => by obtain ⟨r, hr, e⟩ := h.airIn x hx; exact List.mem_map.2 ⟨r, hr, e⟩)
  simpa using this
/-- one of its requests is another one now, of the same number, page, kind -/
theorem WfE.setR {A : List Int} (h : WfE S E) {k : Nat} (hk : k < S.reqs.length) (x : Rq) (hx : x.num = (S.reqs[k]).num) (hw : x.write = (S.reqs[k]).write) (hp : x.page = (S.reqs[k]).page) (D : List UInt8) (hD : D.length = 64)
    (hok : RqOk S.last S.now S.told (airs S ++ A) x) (hair : ∀ n, n ≠ (S.reqs[k]).num → (n ∈ airs S ++ A ↔ n ∈ airs S ++ E)) (hnd : (airs S ++ A).Nodup) : WfE { S with reqs := S.reqs.set k x, disk := D } A where
  depth := h.depth
  last := h.last
  now := h.now
  head := h.head
  disk := hD
  sorted := sorted_setR h.sorted k x hk hx
  rq := fun r hr => by
    rcases mem_setR h.sorted hk x r hr with rfl | ⟨hr, hne⟩
    · exact hok
    · have o := h.rq r hr
      exact { o with air := o.air.trans (hair _ hne).symm }
  airIn := fun n hn => by
    by_cases e : n = (S.reqs[k]).num
    · exact ⟨x, List.mem_iff_getElem.2 ⟨k, by simpa using hk, by simp⟩, by rw [hx, e]⟩
    · obtain ⟨r, hr, rfl⟩ := h.airIn n ((hair n e).1 hn)
      obtain ⟨i, hi, rfl⟩ := List.getElem_of_mem hr
      refine ⟨S.reqs[i], List.mem_iff_getElem.2 ⟨i, by simpa using hi, ?_⟩, rfl⟩
      rw [List.getElem_set, if_neg (fun e' => e (by subst e'; rfl))]
  nodup := hnd
  toldIn := fun n hn => by
    obtain ⟨r, hr, rfl⟩ := h.toldIn n hn
    obtain ⟨i, hi, rfl⟩ := List.getElem_of_mem hr
    by_cases e : k = i
    · subst e; exact ⟨x, List.mem_iff_getElem.2 ⟨k, by simpa using hk, by simp⟩, hx⟩
    · refine ⟨S.reqs[i], List.mem_iff_getElem.2 ⟨i, by simpa using hi, ?_⟩, rfl⟩
      rw [List.getElem_set, if_neg e]
  toldNd := h.toldNd
  len := by show (S.reqs.set k x).length ≤ _; rw [List.length_set]; exact h.len
  flLen := h.flLen
  fl := fun c hc => (h.fl c hc).of (fun r hr _ => by
    rcases mem_setR h.sorted hk x r hr with rfl | ⟨hr, hne⟩
    · exact ⟨S.reqs[k], List.getElem_mem _, hx.symm, hw.symm, hp.symm⟩
    · exact ⟨r, hr, rfl, rfl, rfl⟩)
/-- a request goes: it is told, or was -/
theorem WfE.erase (h : WfE S E) {k : Nat} (hk : k < S.reqs.length) (ha : (S.reqs[k]).inAir = false) (T : List Int) (hT : T.Nodup) (hTi : ∀ n, n ∈ T ↔ n ∈ S.told ∧ n ≠ (S.reqs[k]).num) (hl : S.reqs.length ≤ 41 + T.length) : WfE { S with reqs := S.reqs.eraseIdx k, told := T } E where
  depth := h.depth
  last := h.last
  now := h.now
  head := h.head
  disk := h.disk
  sorted := h.sorted.sublist (List.eraseIdx_sublist _ _)
  rq := fun r hr => by
    have o := h.rq r (List.mem_of_mem_eraseIdx hr)
    exact { o with told := fun hn => o.told ((hTi _).1 hn).1 }
  airIn := fun n hn => by
    obtain ⟨r, hr, rfl⟩ := h.airIn n hn
    refine ⟨r, (mem_erase h.sorted hk r).2 ⟨hr, fun e => ?_⟩, rfl⟩
    have := num_uniq h.sorted hr (List.getElem_mem hk) e
    subst this
    rw [((h.rq _ hr).air.2 hn)] at ha; cases ha
  nodup := h.nodup
  toldIn := fun n hn => by
    obtain ⟨h1, h2⟩ := (hTi n).1 hn
    obtain ⟨r, hr, rfl⟩ := h.toldIn n h1
    exact ⟨r, (mem_erase h.sorted hk r).2 ⟨hr, h2⟩, rfl⟩
  toldNd := hT
  len := by show (S.reqs.eraseIdx k).length ≤ _; rw [List.length_eraseIdx, if_pos hk]; show _ ≤ 40 + T.length; omega
  flLen := h.flLen
  fl := fun c hc => (h.fl c hc).of (fun r hr _ => ⟨r, List.mem_of_mem_eraseIdx hr, rfl, rfl, rfl⟩)
/-- a request under way is told -/
theorem WfE.tell (h : WfE S E) {k : Nat} (hk : k < S.reqs.length) (ha : (S.reqs[k]).inAir = true) (h4 : (S.reqs[k]).state = 4) (hn : toldHas S.told (S.reqs[k]).num = false) : WfE { S with told := S.told ++ [(S.reqs[k]).num] } E where
  depth := h.depth
  last := h.last
  now := h.now
  head := h.head
  disk := h.disk
  sorted := h.sorted
  rq := fun r hr => by
    have o := h.rq r hr
    refine { o with told := fun hm => ?_ }
    rw [List.mem_append, List.mem_singleton] at hm
    rcases hm with hm | hm
    · exact o.told hm
    · have := num_uniq h.sorted hr (List.getElem_mem hk) hm
      subst this; exact ⟨ha, h4⟩
  airIn := h.airIn
  nodup := h.nodup
  toldIn := fun n hm => by
    have hm : n ∈ S.told ++ [(S.reqs[k]).num] := hm
    rw [List.mem_append, List.mem_singleton] at hm
    rcases hm with hm | rfl
    · exact h.toldIn n hm
    · exact ⟨_, List.getElem_mem hk, rfl⟩
  toldNd := by
    show (S.told ++ [_]).Nodup
    rw [List.nodup_append]
    refine ⟨h.toldNd, by simp, fun a ha' b hb e => ?_⟩
    rw [List.mem_singleton] at hb
    subst hb; subst e
    rw [toldHas_mem ha'] at hn; cases hn
  len := by show _ ≤ 40 + (S.told ++ [_]).length; rw [List.length_append]; have := h.len; simp; omega
  flLen := h.flLen
  fl := fun c hc => (h.fl c hc).of (fun r hr _ => ⟨r, hr, rfl, rfl, rfl⟩)
/-- a new request -/
theorem WfE.ask (h : WfE S E) (hf : ¬ 40 ≤ (S.reqs.length : Int) - S.told.length) (write : Bool) (page : Int) (data : ByteArray) (hp : 0 ≤ page ∧ page < 16) (hd : write = true → data.size = 4) : WfE (askOk S write page data) E where
  depth := h.depth
  last := by show 0 ≤ S.last + 1; have := h.last; omega
  now := h.now
  head := h.head
  disk := h.disk
  sorted := by
    show (S.reqs ++ [_]).Pairwise _
    rw [List.pairwise_append]
    refine ⟨h.sorted, List.pairwise_singleton _ _, fun a ha b hb => ?_⟩
    rw [List.mem_singleton] at hb
    subst hb
    have := (h.rq a ha).num
    show a.num < S.last + 1
    omega
  rq := fun r hr => by
    have hr : r ∈ S.reqs ++ [_] := hr
    show RqOk (S.last + 1) S.now S.told (airs S ++ E) r
    rw [List.mem_append, List.mem_singleton] at hr
    rcases hr with hr | rfl
    · have o := h.rq r hr
      exact { o with num := by have := o.num; omega }
    · have hla := h.last
      have hn := h.now
      refine ⟨(by show 1 ≤ S.last + 1 ∧ S.last + 1 ≤ S.last + 1; omega), (by show (0 : Int) ≤ 0 ∧ (0 : Int) ≤ 4; decide), ⟨fun e => (by cases e), fun e => ?_⟩, fun e => (by cases e), fun e => (by cases e), hp, hd, fun _ => rfl, fun _ e => (by cases e), (by show (0 : Int) ≤ 0 ∧ (0 : Int) ≤ 4; decide), fun _ => (by show (0 : Int) ≤ 3; decide), fun _ => rfl, (by show (0 : Int) ≤ 0 ∧ (0 : Int) ≤ S.now + 8; omega), fun e => ?_⟩
      · obtain ⟨r, hr, e⟩ := h.airIn _ e
        have := (h.rq r hr).num
        have e : r.num = S.last + 1 := e
        omega
      · obtain ⟨r, hr, e⟩ := h.toldIn _ e
        have := (h.rq r hr).num
        have e : r.num = S.last + 1 := e
        omega
  airIn := fun n hn => by
    obtain ⟨r, hr, e⟩ := h.airIn n hn
    exact ⟨r, List.mem_append_left _ hr, e⟩
  nodup := h.nodup
  toldIn := fun n hn => by
    obtain ⟨r, hr, e⟩ := h.toldIn n hn
    exact ⟨r, List.mem_append_left _ hr, e⟩
  toldNd := h.toldNd
  len := by show (S.reqs ++ [_]).length ≤ 40 + S.told.length; rw [List.length_append]; simp; omega
  flLen := h.flLen
  fl := fun c hc => (h.fl c hc).of (fun r hr hn => by
    have hr : r ∈ S.reqs ++ [_] := hr
    rw [List.mem_append, List.mem_singleton] at hr
    rcases hr with hr | rfl
    · exact ⟨r, hr, rfl, rfl, rfl⟩
    · obtain ⟨r, hr, e⟩ := h.airIn (S.last + 1) (List.mem_append_left _ (List.mem_flatMap.2 ⟨c, hc, hn⟩))
      have := (h.rq r hr).num
      omega)
theorem WfE.tick (h : WfE S E) : WfE { S with now := S.now + 1 } E where
  depth := h.depth
  last := h.last
  now := by show 0 ≤ S.now + 1; have := h.now; omega
  head := h.head
  disk := h.disk
  sorted := h.sorted
  rq := fun r hr => by
    have o := h.rq r hr
    exact { o with after := by have := o.after; show 0 ≤ r.after ∧ r.after ≤ S.now + 1 + 8; omega }
  airIn := h.airIn
  nodup := h.nodup
  toldIn := h.toldIn
  toldNd := h.toldNd
  len := h.len
  flLen := h.flLen
  fl := fun c hc => (h.fl c hc).of (fun r hr _ => ⟨r, hr, rfl, rfl, rfl⟩)
/-- given up -/
theorem WfE.cancel (h : WfE S E) {k : Nat} (hk : k < S.reqs.length) (_h1 : (S.reqs[k]).state ≤ 1) : WfE { S with reqs := setState S.reqs k 4 } E := by
  have o := h.rq _ (List.getElem_mem hk)
  have e : ({ S with reqs := setState S.reqs k 4 } : St) = { S with reqs := S.reqs.set k { S.reqs[k] with state := 4 }, disk := S.disk } := by rw [setState_eq _ _ _ hk]
  rw [e]
  refine h.setR hk { S.reqs[k] with state := 4 } rfl rfl rfl S.disk h.disk ?_ (fun _ _ => Iff.rfl) h.nodup
  exact { o with
    st := by show (0 : Int) ≤ 4 ∧ (4 : Int) ≤ 4; decide
    one := fun e => by cases e
    air14 := fun _ => Or.inr rfl
    ansR := fun _ e => by cases e
    tries3 := fun e => e.elim (fun e => by cases e) (fun e => o.tries3 (Or.inr e))
    alone := fun e => by cases e
    told := fun e => ⟨(o.told e).1, rfl⟩ }
/-- under way: marked -/
theorem WfE.mark (h : WfE S E) {k : Nat} (hk : k < S.reqs.length) (h0 : (S.reqs[k]).state = 0) : WfE { S with reqs := S.reqs.set k { S.reqs[k] with state := 1, inAir := true } } (E ++ [(S.reqs[k]).num]) := by
  have o := h.rq _ (List.getElem_mem hk)
  have hna : ¬ (S.reqs[k]).num ∈ airs S ++ E := fun e => by have := o.air14 (o.air.2 e); omega
  have e : ({ S with reqs := S.reqs.set k { S.reqs[k] with state := 1, inAir := true } } : St) = { S with reqs := S.reqs.set k { S.reqs[k] with state := 1, inAir := true }, disk := S.disk } := rfl
  rw [e]
  refine h.setR hk { S.reqs[k] with state := 1, inAir := true } rfl rfl rfl S.disk h.disk ?_ (fun n hn => ?_) ?_
  · exact { o with
      st := by show (0 : Int) ≤ 1 ∧ (1 : Int) ≤ 4; decide
      air := ⟨fun _ => (by simp), fun _ => rfl⟩
      one := fun _ => rfl
      air14 := fun _ => Or.inl rfl
      ansR := fun _ e => by cases e
      tries3 := fun _ => o.tries3 (Or.inl h0)
      alone := fun e => by cases e
      told := fun e => by have := (o.told e).2; omega }
  · rw [← List.append_assoc, List.mem_append, List.mem_singleton]
    exact ⟨fun e => e.elim id (fun e => absurd e hn), Or.inl⟩
  · rw [← List.append_assoc, List.nodup_append]
    refine ⟨h.nodup, by simp, fun a ha b hb e => ?_⟩
    rw [List.mem_singleton] at hb
    subst hb; subst e; exact hna ha
/-- what is marked is a command under way -/
theorem WfE.land (h : WfE S E) (c : Cmd) (hc : c.requests = E) (hok : CmdOk S c) (hl : (S.flights.length : Int) < S.depth) (hd : Int) (hh : 0 ≤ hd ∧ hd ≤ 16) : WfE { S with flights := S.flights ++ [c], head := hd } [] := by
  have ea : airs { S with flights := S.flights ++ [c], head := hd } ++ [] = airs S ++ E := by unfold airs; simp [hc]
  refine ⟨h.depth, h.last, h.now, hh, h.disk, h.sorted, ?_, ?_, ?_, h.toldIn, h.toldNd, h.len, ?_, ?_⟩
  · rw [ea]; exact h.rq
  · rw [ea]; exact h.airIn
  · rw [ea]; exact h.nodup
  · show (((S.flights ++ [c]).length : Nat) : Int) ≤ S.depth
    rw [List.length_append]; simp; omega
  · intro x hx
    have hx : x ∈ S.flights ++ [c] := hx
    rw [List.mem_append, List.mem_singleton] at hx
    rcases hx with hx | rfl
    · exact (h.fl x hx).of (fun r hr _ => ⟨r, hr, rfl, rfl, rfl⟩)
    · exact hok.of (fun r hr _ => ⟨r, hr, rfl, rfl, rfl⟩)
/-- a command is no longer under way: its requests are about to be told their end -/
theorem WfE.lift (h : WfE S []) {k : Nat} (hk : k < S.flights.length) : WfE { S with flights := S.flights.eraseIdx k } (S.flights[k]).requests := by
  have hp : (airs { S with flights := S.flights.eraseIdx k } ++ (S.flights[k]).requests).Perm (airs S ++ []) := by
    unfold airs
    simp only [List.append_nil]
    have e1 : S.flights.flatMap (·.requests) = (S.flights.take k).flatMap (·.requests) ++ ((S.flights[k]).requests ++ (S.flights.drop (k + 1)).flatMap (·.requests)) := by
      have e0 : S.flights = S.flights.take k ++ (S.flights[k] :: S.flights.drop (k + 1)) := by rw [← List.drop_eq_getElem_cons hk, List.take_append_drop]
      have := congrArg (List.flatMap (fun c : Cmd => c.requests)) e0
      rwa [List.flatMap_append, List.flatMap_cons] at this
    have e2 : (S.flights.eraseIdx k).flatMap (·.requests) = (S.flights.take k).flatMap (·.requests) ++ (S.flights.drop (k + 1)).flatMap (·.requests) := by
      rw [List.eraseIdx_eq_take_drop_succ, List.flatMap_append]
    rw [e1]
    show (((S.flights.eraseIdx k).flatMap (·.requests)) ++ _).Perm _
    rw [e2, List.append_assoc]
    exact List.Perm.append_left _ List.perm_append_comm
  refine ⟨h.depth, h.last, h.now, h.head, h.disk, h.sorted, ?_, ?_, hp.nodup_iff.2 h.nodup, h.toldIn, h.toldNd, h.len, ?_, ?_⟩
  · intro r hr
    have o := h.rq r hr
    exact { o with air := o.air.trans hp.mem_iff.symm }
  · intro n hn
    exact h.airIn n (hp.mem_iff.1 hn)
  · show (((S.flights.eraseIdx k).length : Nat) : Int) ≤ S.depth
    have := List.length_eraseIdx_le S.flights k
    have := h.flLen
    omega
  · intro c hc
    exact (h.fl c (List.mem_of_mem_eraseIdx hc)).of (fun r hr _ => ⟨r, hr, rfl, rfl, rfl⟩)
end

/-! ### a command's end -/
def pauseM (t : Int) : Int := if t ≤ 1 then 1 else if t = 2 then 2 else if t = 3 then 4 else 8
def putM (D : List UInt8) (a : Nat) (ds : List UInt8) : List UInt8 := (((D.set a (ds.getD 0 0)).set (a + 1) (ds.getD 1 0)).set (a + 2) (ds.getD 2 0)).set (a + 3) (ds.getD 3 0)
def getM (D : List UInt8) (a : Nat) : ByteArray := ⟨((D.drop a).take 4).toArray⟩
def triedR (S : St) (fault : Bool) (r : Rq) : Rq :=
  { r with
    tries := r.tries + 1
    inAir := false
    answer := if fault = false ∧ r.write = false then getM S.disk (4 * r.page).toNat else r.answer
    state := if r.state = 1 then (if fault = false then 2 else if r.tries + 1 = 4 then 3 else 0) else r.state
    alone := if r.state = 1 ∧ fault = true ∧ r.tries + 1 ≠ 4 then true else r.alone
    after := if r.state = 1 ∧ fault = true ∧ r.tries + 1 ≠ 4 then S.now + pauseM (r.tries + 1) else r.after }
def triedK (S : St) (k : Nat) (fault : Bool) : St :=
  { S with disk := if fault = false ∧ (S.reqs.getD k Rq.zero).write = true then putM S.disk (4 * (S.reqs.getD k Rq.zero).page).toNat (S.reqs.getD k Rq.zero).data.data.toList else S.disk, reqs := S.reqs.set k (triedR S fault (S.reqs.getD k Rq.zero)) }
def untold (T : List Int) (num : Int) : List Int := T.filter fun n => n != num
def triedM (S : St) (num : Int) (fault : Bool) : St :=
  if toldHas S.told num then { triedK S ((findR S.reqs num).getD 0) fault with told := untold S.told num, reqs := (triedK S ((findR S.reqs num).getD 0) fault).reqs.eraseIdx ((findR S.reqs num).getD 0) } else triedK S ((findR S.reqs num).getD 0) fault
def endM (S : St) (l : List Int) (fault : Bool) : St := l.foldl (fun S n => triedM S n fault) S
def completeM (S : St) (k : Int) (fault : Bool) : Bool × St :=
  if k < 0 ∨ (S.flights.length : Int) ≤ k then (false, S) else (true, endM { S with flights := S.flights.eraseIdx k.toNat } (S.flights.getD k.toNat ⟨false, 0, 0, []⟩).requests fault)
theorem putM_len (D : List UInt8) (a : Nat) (ds : List UInt8) : (putM D a ds).length = D.length := by simp [putM]

theorem triedR_ok {last now : Int} {told A A' : List Int} {S : St} {r : Rq} (hn : S.now = now) (h0 : 0 ≤ now) (hd : S.disk.length = 64) (o : RqOk last now told A r) (hi : r.inAir = true) (hA : r.num ∉ A') (ht : r.num ∉ told) (fault : Bool) : RqOk last now told A' (triedR S fault r) := by
  have ht3 := o.tries3 (Or.inr hi)
  have htr := o.tries
  have hpg := o.page
  have hp : 0 ≤ pauseM (r.tries + 1) ∧ pauseM (r.tries + 1) ≤ 8 := by unfold pauseM; (repeat' split) <;> omega
  refine ⟨o.num, ?_, ⟨fun e => (by cases e), fun e => absurd e hA⟩, ?_, fun e => (by cases e), o.page, o.data, ?_, ?_, ?_, ?_, ?_, ?_, fun e => absurd e ht⟩
  · show 0 ≤ (if r.state = 1 then (if fault = false then 2 else if r.tries + 1 = 4 then 3 else 0) else r.state) ∧ _ ≤ (4 : Int)
    have := o.st
    (repeat' split) <;> (simp only [triedR] <;> (repeat' split) <;> omega)
  · intro e
    simp only [triedR] at e
    have h14 := o.air14 hi
    exfalso
    revert e
    (repeat' split) <;> omega
  · intro hw
    show (if fault = false ∧ r.write = false then _ else r.answer) = _
    have hw : r.write = true := hw
    rw [if_neg (by simp [hw])]; exact o.ansW hw
  · intro hw hs
    have hw : r.write = false := hw
    have h14 := o.air14 hi
    have hs : (if r.state = 1 then (if fault = false then (2 : Int) else if r.tries + 1 = 4 then 3 else 0) else r.state) = 2 := hs
    show (if fault = false ∧ r.write = false then _ else r.answer : ByteArray).size = 4
    have hf : fault = false := by
      cases fault
      · rfl
      · exfalso; revert hs; simp; (repeat' split) <;> omega
    rw [if_pos ⟨hf, hw⟩]
    show (getM S.disk (4 * r.page).toNat).size = 4
    simp only [getM, ByteArray.size, List.size_toArray, List.length_take, List.length_drop, hd]
    omega
  · show 0 ≤ r.tries + 1 ∧ r.tries + 1 ≤ 4
    omega
  · intro e
    show r.tries + 1 ≤ 3
    rcases e with e | e
    · have e : (if r.state = 1 then (if fault = false then (2 : Int) else if r.tries + 1 = 4 then 3 else 0) else r.state) = 0 := e
      have h14 := o.air14 hi
      revert e
      (repeat' split) <;> omega
    · cases e
  · intro e
    have e : (if r.state = 1 then (if fault = false then (2 : Int) else if r.tries + 1 = 4 then 3 else 0) else r.state) = 0 := e
    have h14 := o.air14 hi
    show (if r.state = 1 ∧ fault = true ∧ r.tries + 1 ≠ 4 then true else r.alone) = decide (0 < r.tries + 1)
    have : r.state = 1 ∧ fault = true ∧ r.tries + 1 ≠ 4 := by
      cases fault <;> revert e <;> simp <;> (repeat' split) <;> omega
    rw [if_pos this]; symm; simp; omega
  · show 0 ≤ (if r.state = 1 ∧ fault = true ∧ r.tries + 1 ≠ 4 then S.now + pauseM (r.tries + 1) else r.after) ∧ (if r.state = 1 ∧ fault = true ∧ r.tries + 1 ≠ 4 then S.now + pauseM (r.tries + 1) else r.after) ≤ now + 8
    have := o.after
    rw [hn]
    split <;> omega
end Go.Proofs.YtiabdbeejkadnabGreatDoor

/- Stage 2: what a try's end keeps of the document's state. Own work of the verifier. -/
namespace Go.Proofs.YtiabdbeejkadnabGreatDoor
section
variable {S : St} {E : List Int}
theorem untold_mem (T : List Int) (n m : Int) : m ∈ untold T n ↔ m ∈ T ∧ m ≠ n := by simp [untold]
theorem untold_len {T : List Int} {n : Int} (hd : T.Nodup) (hn : n ∈ T) : (untold T n).length + 1 = T.length := by
  have e : untold T n = T.erase n := by rw [hd.erase_eq_filter]; rfl
  have := List.length_pos_of_mem hn
  rw [e, List.length_erase_of_mem hn]; omega
theorem mem_mid {A E : List Int} {n m : Int} (h : m ≠ n) : m ∈ A ++ E ↔ m ∈ A ++ n :: E := by simp [h]
theorem nodup_mid {A E : List Int} {n : Int} (h : (A ++ n :: E).Nodup) : (A ++ E).Nodup ∧ n ∉ A ++ E := by
  rw [List.nodup_append] at h
  obtain ⟨h1, h2, h3⟩ := h
  rw [List.nodup_cons] at h2
  refine ⟨List.nodup_append.2 ⟨h1, h2.2, fun a ha b hb => h3 a ha b (List.mem_cons_of_mem _ hb)⟩, fun e => ?_⟩
  rw [List.mem_append] at e
  rcases e with e | e
  · exact h3 n e n (by simp) rfl
  · exact h2.1 e
/-- one that was told, and is under way no more, is gone -/
theorem WfE.gone {n : Int} (h : WfE S (n :: E)) {k : Nat} (hk : k < S.reqs.length) (hn : (S.reqs[k]).num = n) (ht : n ∈ S.told) (D : List UInt8) (hD : D.length = 64) : WfE { S with reqs := S.reqs.eraseIdx k, told := untold S.told n, disk := D } E where
  depth := h.depth
  last := h.last
  now := h.now
  head := h.head
  disk := hD
  sorted := h.sorted.sublist (List.eraseIdx_sublist _ _)
  rq := fun r hr => by
    obtain ⟨h1, h2⟩ := (mem_erase h.sorted hk r).1 hr
    have o := h.rq r h1
    rw [hn] at h2
    exact { o with air := o.air.trans (mem_mid h2).symm, told := fun e => o.told ((untold_mem _ _ _).1 e).1 }
  airIn := fun m hm => by
    have hne : m ≠ n := fun e => (nodup_mid h.nodup).2 (e ▸ hm)
    obtain ⟨r, hr, rfl⟩ := h.airIn m ((mem_mid hne).1 hm)
    exact ⟨r, (mem_erase h.sorted hk r).2 ⟨hr, by rw [hn]; exact hne⟩, rfl⟩
  nodup := (nodup_mid h.nodup).1
  toldIn := fun m hm => by
    obtain ⟨h1, h2⟩ := (untold_mem _ _ _).1 hm
    obtain ⟨r, hr, rfl⟩ := h.toldIn m h1
    exact ⟨r, (mem_erase h.sorted hk r).2 ⟨hr, by rw [hn]; exact h2⟩, rfl⟩
  toldNd := h.toldNd.filter _
  len := by
    have := untold_len h.toldNd ht
    have := h.len
    show (S.reqs.eraseIdx k).length ≤ 40 + (untold S.told n).length
    rw [List.length_eraseIdx, if_pos hk]; omega
  flLen := h.flLen
  fl := fun c hc => (h.fl c hc).of (fun r hr _ => ⟨r, List.mem_of_mem_eraseIdx hr, rfl, rfl, rfl⟩)

theorem WfE.found {n : Int} (h : WfE S E) (hn : n ∈ airs S ++ E) : ∃ k, ∃ hk : k < S.reqs.length, findR S.reqs n = some k ∧ (S.reqs[k]).num = n ∧ (S.reqs[k]).inAir = true := by
  obtain ⟨r, hr, rfl⟩ := h.airIn n hn
  obtain ⟨k, hf⟩ := findR_mem hr
  obtain ⟨hk, e⟩ := findR_get hf
  exact ⟨k, hk, hf, e, (h.rq _ (List.getElem_mem hk)).air.2 (by rw [e]; exact hn)⟩
theorem erase_set (R : List Rq) (k : Nat) (x : Rq) : (R.set k x).eraseIdx k = R.eraseIdx k := by
  induction R generalizing k with
  | nil => rfl
  | cons a R ih => cases k with | zero => rfl | succ k => simp [ih]
def diskM (S : St) (k : Nat) (fault : Bool) : List UInt8 := if fault = false ∧ (S.reqs.getD k Rq.zero).write = true then putM S.disk (4 * (S.reqs.getD k Rq.zero).page).toNat (S.reqs.getD k Rq.zero).data.data.toList else S.disk
theorem diskM_len (S : St) (k : Nat) (fault : Bool) : (diskM S k fault).length = S.disk.length := by unfold diskM; split <;> simp [putM_len]
theorem triedM_told {k : Nat} {n : Int} {fault : Bool} (hf : findR S.reqs n = some k) (ht : toldHas S.told n = true) : triedM S n fault = { S with reqs := S.reqs.eraseIdx k, told := untold S.told n, disk := diskM S k fault } := by
  unfold triedM
  rw [if_pos ht, hf]
  simp only [triedK, diskM, Option.getD_some, erase_set]
theorem triedM_not {k : Nat} {n : Int} {fault : Bool} (hf : findR S.reqs n = some k) (ht : toldHas S.told n = false) : triedM S n fault = { S with reqs := S.reqs.set k (triedR S fault (S.reqs.getD k Rq.zero)), disk := diskM S k fault } := by
  unfold triedM
  rw [if_neg (by simp [ht]), hf]
  rfl
theorem WfE.tried {n : Int} (h : WfE S (n :: E)) (fault : Bool) : WfE (triedM S n fault) E := by
  obtain ⟨k, hk, hf, hn, hi⟩ := h.found (n := n) (by simp)
  obtain ⟨h1, h2⟩ := nodup_mid h.nodup
  cases ht : toldHas S.told n with
  | true =>
    rw [triedM_told hf ht]
    exact h.gone hk hn (by simpa [toldHas] using ht) _ (by rw [diskM_len]; exact h.disk)
  | false =>
    rw [triedM_not hf ht, getD_of hk]
    refine h.setR hk (triedR S fault (S.reqs[k])) rfl rfl rfl (diskM S k fault) (by rw [diskM_len]; exact h.disk) ?_ (fun m hm => ?_) h1
    · exact triedR_ok rfl h.now h.disk (h.rq _ (List.getElem_mem hk)) hi (by rw [hn]; exact h2) (by rw [hn]; simpa [toldHas] using ht) fault
    · rw [hn] at hm; exact mem_mid hm
theorem WfE.ends {l : List Int} (h : WfE S (l ++ E)) (fault : Bool) : WfE (endM S l fault) E := by
  induction l generalizing S with
  | nil => exact h
  | cons n l ih => exact ih (h.tried fault)
theorem Wf.complete (h : Wf S) (k : Int) (fault : Bool) : Wf (completeM S k fault).2 := by
  unfold completeM
  split
  · exact h
  · have hk : k.toNat < S.flights.length := by omega
    have := h.lift hk
    have e : S.flights.getD k.toNat ⟨false, 0, 0, []⟩ = S.flights[k.toNat] := by simp [hk]
    show WfE (endM _ _ fault) []
    rw [e]
    exact WfE.ends (E := []) (by rw [List.append_nil]; exact this) fault
end
/-! what stays as it is -/
theorem triedM_same (S : St) (n : Int) (fault : Bool) : (triedM S n fault).last = S.last ∧ (triedM S n fault).now = S.now ∧ (triedM S n fault).depth = S.depth ∧ (triedM S n fault).head = S.head ∧ (triedM S n fault).flights = S.flights := by
  unfold triedM
  split <;> exact ⟨rfl, rfl, rfl, rfl, rfl⟩
theorem endM_same (l : List Int) (S : St) (fault : Bool) : (endM S l fault).last = S.last ∧ (endM S l fault).now = S.now ∧ (endM S l fault).depth = S.depth ∧ (endM S l fault).head = S.head ∧ (endM S l fault).flights = S.flights := by
  induction l generalizing S with
  | nil => exact ⟨rfl, rfl, rfl, rfl, rfl⟩
  | cons n l ih =>
    have h1 := ih (triedM S n fault)
    have h2 := triedM_same S n fault
    exact ⟨h1.1.trans h2.1, h1.2.1.trans h2.2.1, h1.2.2.1.trans h2.2.2.1, h1.2.2.2.1.trans h2.2.2.2.1, h1.2.2.2.2.trans h2.2.2.2.2⟩
theorem completeM_same (S : St) (k : Int) (fault : Bool) : (completeM S k fault).2.last = S.last ∧ (completeM S k fault).2.now = S.now := by
  unfold completeM
  split
  · exact ⟨rfl, rfl⟩
  · have := endM_same (S.flights.getD k.toNat ⟨false, 0, 0, []⟩).requests { S with flights := S.flights.eraseIdx k.toNat } fault
    exact ⟨this.1, this.2.1⟩

/-! ### Poll, Cancel, Ask: what they keep -/
section
variable {S : St} {E : List Int}
theorem Wf.place (_h : WfE S E) (num : Int) : (placeM S num = -1 ∧ (toldHas S.told num = true ∨ findR S.reqs num = none)) ∨ ∃ k, ∃ hk : k < S.reqs.length, placeM S num = k ∧ findR S.reqs num = some k ∧ (S.reqs[k]).num = num ∧ toldHas S.told num = false := by
  unfold placeM
  cases ht : toldHas S.told num with
  | true => left; exact ⟨rfl, Or.inl rfl⟩
  | false =>
    cases hf : findR S.reqs num with
    | none => left; exact ⟨rfl, Or.inr rfl⟩
    | some k =>
      obtain ⟨hk, e⟩ := findR_get hf
      right; exact ⟨k, hk, rfl, rfl, e, rfl⟩
theorem WfE.dropped (h : WfE S E) {k : Nat} (hk : k < S.reqs.length) (h2 : 2 ≤ (S.reqs[k]).state) (ht : toldHas S.told (S.reqs[k]).num = false) : WfE (dropM S k) E := by
  have o := h.rq _ (List.getElem_mem hk)
  unfold dropM
  rw [getD_of hk]
  cases ha : (S.reqs[k]).inAir with
  | true =>
    rw [if_pos rfl]
    have h14 := o.air14 ha
    exact h.tell hk ha (by omega) ht
  | false =>
    rw [if_neg (by simp)]
    have hT : ∀ n, n ∈ S.told ↔ n ∈ S.told ∧ n ≠ (S.reqs[k]).num := fun n => ⟨fun e => ⟨e, fun e' => by subst e'; rw [toldHas_mem e] at ht; cases ht⟩, fun e => e.1⟩
    exact h.erase hk ha S.told h.toldNd hT (by have := h.len; omega)
theorem Wf.poll (h : WfE S E) (num : Int) : WfE (pollM S num).2.2.2 E := by
  rcases Wf.place h num with ⟨hp, _⟩ | ⟨k, hk, hp, hf, hn, ht⟩
  · unfold pollM; rw [if_pos (by omega)]; exact h
  · unfold pollM
    have e : (placeM S num).toNat = k := by omega
    rw [if_neg (by omega), e]
    dsimp only
    have o := h.rq _ (List.getElem_mem hk)
    rw [getD_of hk]
    by_cases h01 : (S.reqs[k]).state = 0 ∨ (S.reqs[k]).state = 1
    · rw [if_pos h01]; exact h
    · rw [if_neg h01]
      have hd := h.dropped hk (by have := o.st; omega) (by rw [hn]; exact ht)
      split
      · exact hd
      · split
        · exact hd
        · exact hd
theorem Wf.cancelM (h : WfE S E) (num : Int) : WfE (cancelM S num).2.2 E := by
  rcases Wf.place h num with ⟨hp, _⟩ | ⟨k, hk, hp, hf, hn, ht⟩
  · unfold Go.Proofs.YtiabdbeejkadnabGreatDoor.cancelM; rw [if_pos (by omega)]; exact h
  · unfold Go.Proofs.YtiabdbeejkadnabGreatDoor.cancelM
    have e : (placeM S num).toNat = k := by omega
    rw [if_neg (by omega), e]
    dsimp only
    rw [getD_of hk]
    split
    · exact h
    · exact h.cancel hk (by omega)
theorem Wf.askM (h : WfE S E) (write : Bool) (page : Int) (data : ByteArray) : WfE (askM S write page data).2.2 E := by
  unfold Go.Proofs.YtiabdbeejkadnabGreatDoor.askM
  split
  · exact h
  · split
    · exact h
    · split
      · exact h
      · exact h.ask (by omega) write page data (by omega) (fun e => by rename_i h2 _; simp only [e, true_and, ne_eq, Decidable.not_not] at h2; exact h2)
theorem dropM_same (S : St) (k : Nat) : (dropM S k).last = S.last ∧ (dropM S k).now = S.now := by unfold dropM; split <;> exact ⟨rfl, rfl⟩
theorem pollM_same (S : St) (num : Int) : (pollM S num).2.2.2.last = S.last ∧ (pollM S num).2.2.2.now = S.now := by
  unfold pollM
  split
  · exact ⟨rfl, rfl⟩
  · dsimp only
    split
    · exact ⟨rfl, rfl⟩
    · split
      · exact dropM_same _ _
      · split
        · exact dropM_same _ _
        · exact dropM_same _ _
end
theorem Wf.new (depth : Int) (h : 1 ≤ depth ∧ depth ≤ 4) : Wf (St.new depth) where
  depth := h
  last := Int.le_refl 0
  now := Int.le_refl 0
  head := ⟨Int.le_refl 0, by show (0 : Int) ≤ 16; decide⟩
  disk := by simp [St.new]
  sorted := List.Pairwise.nil
  rq := fun r hr => by cases hr
  airIn := fun n hn => by simp [airs, St.new] at hn
  nodup := by simp [airs, St.new]
  toldIn := fun n hn => by cases hn
  toldNd := List.nodup_nil
  len := by simp [St.new]
  flLen := by show (0 : Int) ≤ depth; omega
  fl := fun c hc => by cases hc
end Go.Proofs.YtiabdbeejkadnabGreatDoor
