/- The program's queue (stage 1's code): an entry's functions; what a delete and a cancel do to the queue. Own work of the verifier. -/
import Derived.Test.YtgepgklgemndeaaGreatDoorProgC
namespace Go.Proofs.YtgepgklgemndeaaGreatDoor
open Go.RowKit Go.Maps

theorem entry_pending0 (b : Nat) (w : World) (h : w.cell? ⟨b, 8, none⟩ = some (.int .i64 0)) : Calls Tryz.prog 69 #[.pointer (some ⟨b, 0, none⟩)] w fun e w' => e = .returned (.bool true) ∧ w' = w := by
  go_enter Tryz.func69, Tryz.ntmps69
  go_wp2
  go_ret
  exact ⟨rfl, rfl⟩
theorem entry_pending4 (b : Nat) (w : World) (h : w.cell? ⟨b, 8, none⟩ = some (.int .i64 4)) : Calls Tryz.prog 69 #[.pointer (some ⟨b, 0, none⟩)] w fun e w' => e = .returned (.bool false) ∧ w' = w := by
  go_enter Tryz.func69, Tryz.ntmps69
  go_wp2
  go_ret
  exact ⟨rfl, rfl⟩
/-- an error of a request: a pointer to three numbers in a new block -/
def ReqErr (w : World) (v : Value) (num tries kind : Int) : Prop := ∃ b, v = .iface 130 (.pointer (some ⟨b, 0, none⟩)) ∧ w.heap[b]? = some (.cells #[.int .i64 num, .int .i64 tries, .int .i64 kind] 134 (0, 0))
theorem entry_fault (b : Nat) (num tries kind : Int) (w : World) (h0 : w.cell? ⟨b, 0, none⟩ = some (.int .i64 num)) (h7 : w.cell? ⟨b, 7, none⟩ = some (.int .i64 tries)) :
    Calls Tryz.prog 70 #[.pointer (some ⟨b, 0, none⟩), .int .i64 kind] w fun e w' => e = .returned (.iface 130 (.pointer (some ⟨w.heap.size, 0, none⟩))) ∧ w'.heap[w.heap.size]? = some (.cells #[.int .i64 num, .int .i64 tries, .int .i64 kind] 134 (0, 0)) ∧ Below w.heap.size w w' := by
  go_enter Tryz.func70, Tryz.ntmps70
  go_wp2
  go_region
  all_goals go_wp2
  all_goals go_ret
  all_goals exact ⟨rfl, heap_alloc_new w _, (alloc_below _ _).drew⟩
theorem entry_outcome4 (b : Nat) (num tries : Int) (w : World) (h0 : w.cell? ⟨b, 0, none⟩ = some (.int .i64 num)) (h7 : w.cell? ⟨b, 7, none⟩ = some (.int .i64 tries)) (h8 : w.cell? ⟨b, 8, none⟩ = some (.int .i64 4)) :
    Calls Tryz.prog 71 #[.pointer (some ⟨b, 0, none⟩)] w fun e w' => (∃ g, e = .returned (.tuple #[.agg #[.slice none 0 0, .int .i64 0], .iface 130 (.pointer (some ⟨g, 0, none⟩))]) ∧ w'.heap[g]? = some (.cells #[.int .i64 num, .int .i64 tries, .int .i64 8] 134 (0, 0)) ∧ w.heap.size ≤ g) ∧ Below w.heap.size w w' := by
  have hbl := lt_of_cell h0
  go_enter Tryz.func71, Tryz.ntmps71
  go_wp2_with fail
  refine (entry_fault b num tries 8 _ (by rw [World.cell?_alloc_lt _ _ ⟨b, 0, none⟩ hbl]; exact h0) (by rw [World.cell?_alloc_lt _ _ ⟨b, 7, none⟩ hbl]; exact h7)).mono ?_
  rintro e w1 ⟨rfl, he, hb⟩
  have hz : w.heap.size < w1.heap.size := by have := hb.size; simp at this; omega
  have a0 := hb.cell (p := ⟨w.heap.size, 0, none⟩) (by simp)
  have a1 := hb.cell (p := ⟨w.heap.size, 1, none⟩) (by simp)
  have f0 := hb.frozen (p := ⟨w.heap.size, 0, none⟩) (by simp)
  have f1 := hb.frozen (p := ⟨w.heap.size, 1, none⟩) (by simp)
  simp at a0 a1 f0 f1 he
  have HE := hide he
  have HB := hide hb
  clear he hb
  go_wp2
  refine bodyPost_ret (v := .tuple #[.agg #[.slice none 0 0, .int .i64 0], .iface 130 (.pointer (some ⟨w.heap.size + 1, 0, none⟩))]) (by simp [results, Tryz.results71, go_sem, a0, a1]) rfl ⟨⟨w.heap.size + 1, rfl, ?_, by omega⟩, ?_⟩
  · rw [Below.heap_setCell _ _ _ _ (by show w.heap.size + 1 ≠ w.heap.size; omega), Below.heap_setCell _ _ _ _ (by show w.heap.size + 1 ≠ w.heap.size; omega)]; exact HE.out
  · exact (((alloc_below _ _).trans (HB.out.mono (by simp))).setCell (Nat.le_refl _) _).setCell (Nat.le_refl _) _

/-! ### lists of requests by their numbers -/
theorem nums_inj {R : List Rq} (hs : R.Pairwise (fun a b => a.num < b.num)) {i j : Nat} (hi : i < R.length) (hj : j < R.length) (h : (R[i]).num = (R[j]).num) : i = j := by
  rw [List.pairwise_iff_getElem] at hs
  rcases Nat.lt_trichotomy i j with h1 | h1 | h1
  · have := hs i j hi hj h1; omega
  · exact h1
  · have := hs j i hj hi h1; omega
theorem mem_erase {R : List Rq} (hs : R.Pairwise (fun a b => a.num < b.num)) {k : Nat} (hk : k < R.length) (r : Rq) : r ∈ R.eraseIdx k ↔ r ∈ R ∧ r.num ≠ (R[k]).num := by
  rw [List.mem_eraseIdx_iff_getElem]
  constructor
  · rintro ⟨i, hi, hne, rfl⟩
    exact ⟨List.getElem_mem _, fun e => hne (nums_inj hs hi hk e)⟩
  · rintro ⟨hr, hne⟩
    obtain ⟨i, hi, rfl⟩ := List.getElem_of_mem hr
    exact ⟨i, hi, fun e => hne (by subst e; rfl), rfl⟩
theorem findR_erase {R : List Rq} (hs : R.Pairwise (fun a b => a.num < b.num)) {k : Nat} (hk : k < R.length) (n : Int) : (findR (R.eraseIdx k) n).isSome = ((findR R n).isSome && n != (R[k]).num) := by
  rw [findR_isSome, findR_isSome, Bool.eq_iff_iff]
  simp only [List.any_eq_true, Bool.and_eq_true, bne_iff_ne, beq_iff_eq]
  constructor
  · rintro ⟨r, hr, rfl⟩
    rw [mem_erase hs hk] at hr
    exact ⟨⟨r, hr.1, rfl⟩, hr.2⟩
  · rintro ⟨⟨r, hr, rfl⟩, hne⟩
    exact ⟨r, (mem_erase hs hk r).2 ⟨hr, hne⟩, rfl⟩
theorem mem_setState {R : List Rq} (hs : R.Pairwise (fun a b => a.num < b.num)) {k : Nat} (hk : k < R.length) (x : Int) (r : Rq) (hr : r ∈ setState R k x) : r = { R[k] with state := x } ∨ (r ∈ R ∧ r.num ≠ (R[k]).num) := by
  unfold setState at hr
  obtain ⟨i, hi, rfl⟩ := List.getElem_of_mem hr
  rw [List.length_set] at hi
  rw [List.getElem_set]
  by_cases h : k = i
  · rw [if_pos h]; left; simp [hk]
  · rw [if_neg h]; right; exact ⟨List.getElem_mem _, fun e => h (nums_inj hs hi hk e).symm⟩
theorem nums_setState (R : List Rq) (k : Nat) (x : Int) (hk : k < R.length) : (setState R k x).map (·.num) = R.map (·.num) := by
  unfold setState
  rw [List.map_set]
  apply List.ext_getElem?
  intro i
  rw [List.getElem?_set]
  by_cases h : k = i
  · subst h; simp [hk]
  · rw [if_neg h]
theorem findR_nums {R R' : List Rq} (h : R'.map (·.num) = R.map (·.num)) (n : Int) : (findR R' n).isSome = (findR R n).isSome := by
  rw [findR_isSome, findR_isSome]
  have e : ∀ L : List Rq, L.any (fun r => r.num == n) = (L.map (·.num)).any (· == n) := fun L => by rw [List.any_map]; rfl
  rw [e, e, h]

theorem Wf1.erase {S : St} (h : Wf1 S) (k : Nat) : Wf1 { S with reqs := S.reqs.eraseIdx k } where
  depth := h.depth
  told := h.told
  flights := h.flights
  disk := h.disk
  len := Nat.le_trans (List.length_eraseIdx_le _ _) h.len
  last := h.last
  st := fun r hr => h.st r (List.mem_of_mem_eraseIdx hr)
  num := fun r hr => h.num r (List.mem_of_mem_eraseIdx hr)
  sorted := h.sorted.sublist (List.eraseIdx_sublist _ _)
theorem Wf1.cancel {S : St} (h : Wf1 S) (k : Nat) (hk : k < S.reqs.length) : Wf1 { S with reqs := setState S.reqs k 4 } where
  depth := h.depth
  told := h.told
  flights := h.flights
  disk := h.disk
  len := by show (setState S.reqs k 4).length ≤ 40; rw [setState_len]; exact h.len
  last := h.last
  st := fun r hr => by
    rcases mem_setState h.sorted hk 4 r hr with rfl | ⟨hr, _⟩
    · have := h.st S.reqs[k] (List.getElem_mem _); exact ⟨Or.inr rfl, this.2⟩
    · exact h.st r hr
  num := fun r hr => by
    rcases mem_setState h.sorted hk 4 r hr with rfl | ⟨hr, _⟩
    · exact h.num S.reqs[k] (List.getElem_mem _)
    · exact h.num r hr
  sorted := by
    have e : (S.reqs.map (·.num)).Pairwise (· < ·) := List.pairwise_map.2 h.sorted
    rw [← nums_setState S.reqs k 4 hk] at e
    exact List.pairwise_map.1 e

section
variable {w w2 : World} {F : Nat → Prop} {xb : Nat} {S : St} {bm : Nat} {D : DataW Unit} {eb : Int → Nat} {c : Array Value}
theorem ProgBlk.deleted (h : ProgBlk w F xb S bm D eb c) {k : Nat} (hk : k < S.reqs.length) (hmap : w2.ownsMap Tryz.prog 3 ptrR bm S.last.toNat (D.del (.int .i64 (S.reqs[k]).num))) (hs : ∀ j, j < w.heap.size → j ≠ bm → w2.heap[j]? = w.heap[j]?) (hz : w.heap.size ≤ w2.heap.size) :
    ProgBlk w2 F xb { S with reqs := S.reqs.eraseIdx k } bm (D.del (.int .i64 (S.reqs[k]).num)) eb c := by
  have hT : Tidy D := h.map.tidy keyLaw
  have hmx : xb ≠ bm := fun e => by obtain ⟨es, ck, hb, _⟩ := h.map; rw [← e, h.blk] at hb; cases hb
  have hsome : (findR S.reqs (S.reqs[k]).num).isSome = true := by rw [findR_isSome, List.any_eq_true]; exact ⟨S.reqs[k], List.getElem_mem hk, by simp⟩
  have hmem : ∀ r ∈ S.reqs.eraseIdx k, r ∈ S.reqs ∧ r.num ≠ (S.reqs[k]).num := fun r hr => (mem_erase h.wf.sorted hk r).1 hr
  refine ⟨h.own, (hs _ h.lt hmx).trans h.blk, h.size, h.c0, h.c1, h.c2, h.c3, h.cd, h.ownM, hmap, ?_, ?_, ?_, fun r hr => h.entF r (hmem r hr).1, ?_, fun r hr r' hr' => h.inj r (hmem r hr).1 r' (hmem r' hr').1, fun k hk => Nat.lt_of_lt_of_le (h.ltF k hk) hz, h.wf.erase k⟩
  · have e1 := size_del (k := Lit.int .i64 (S.reqs[k]).num) hT
    rw [h.has, hsome, if_pos rfl, h.msize] at e1
    show _ = (S.reqs.eraseIdx k).length
    rw [List.length_eraseIdx, if_pos hk]
    omega
  · intro n
    show _ = (findR (S.reqs.eraseIdx k) n).isSome
    rw [findR_erase h.wf.sorted hk]
    by_cases hn : n = (S.reqs[k]).num
    · subst hn; rw [has_del_same]; simp
    · have hne : (Lit.int .i64 n) ≠ .int .i64 (S.reqs[k]).num := fun e => hn (by simpa using e)
      rw [has_del_other hne, h.has]; simp [hn]
  · intro r hr
    obtain ⟨h1, h2⟩ := hmem r hr
    have hne : (Lit.int .i64 r.num) ≠ .int .i64 (S.reqs[k]).num := fun e => h2 (by simpa using e)
    rw [atKey_del_other hne]; exact h.at_ r h1
  · intro r hr
    obtain ⟨d0, d1, d2, d3, hh⟩ := h.ent r (hmem r hr).1
    exact ⟨d0, d1, d2, d3, (hs _ (lt_of_heap hh) (fun e => by obtain ⟨es, ck, hb, _⟩ := h.map; rw [e, hb] at hh; cases hh)).trans hh⟩
theorem ProgBlk.cancelled (h : ProgBlk w F xb S bm D eb c) {k : Nat} (hk : k < S.reqs.length) :
    ProgBlk (w.setCell ⟨eb (S.reqs[k]).num, 8, none⟩ (.int .i64 4)) F xb { S with reqs := setState S.reqs k 4 } bm D eb c := by
  obtain ⟨d0, d1, d2, d3, hh⟩ := h.ent _ (List.getElem_mem hk)
  have hxe : xb ≠ eb (S.reqs[k]).num := fun e => by rw [← e, h.blk] at hh; simp at hh
  have hme : bm ≠ eb (S.reqs[k]).num := fun e => by obtain ⟨es, ck, hb, _⟩ := h.map; rw [e, hh] at hb; cases hb
  have hmem := mem_setState h.wf.sorted hk 4
  have hin : ∀ r ∈ setState S.reqs k 4, ∃ r' ∈ S.reqs, r'.num = r.num := fun r hr => by
    rcases hmem r hr with rfl | ⟨hr, _⟩
    · exact ⟨S.reqs[k], List.getElem_mem _, rfl⟩
    · exact ⟨r, hr, rfl⟩
  refine ⟨h.own, (Below.heap_setCell _ _ _ _ hxe).trans h.blk, h.size, h.c0, h.c1, h.c2, h.c3, h.cd, h.ownM, h.map.setCell hme _, ?_, ?_, ?_, ?_, ?_, ?_, fun k hk => by have := h.ltF k hk; simpa [World.setCell] using this, h.wf.cancel k hk⟩
  · show _ = (setState S.reqs k 4).length
    rw [setState_len]; exact h.msize
  · intro n
    show _ = (findR (setState S.reqs k 4) n).isSome
    rw [findR_nums (nums_setState S.reqs k 4 hk)]; exact h.has n
  · intro r hr
    obtain ⟨r', hr', e⟩ := hin r hr
    rw [← e]; exact h.at_ r' hr'
  · intro r hr
    obtain ⟨r', hr', e⟩ := hin r hr
    rw [← e]; exact h.entF r' hr'
  · intro r hr
    rcases hmem r hr with rfl | ⟨hr, hne⟩
    · exact ⟨d0, d1, d2, d3, by rw [heap_setCell_at hh]; rfl⟩
    · obtain ⟨a0, a1, a2, a3, h2⟩ := h.ent r hr
      exact ⟨a0, a1, a2, a3, (Below.heap_setCell _ _ _ _ (fun e => hne (h.inj r hr _ (List.getElem_mem hk) e))).trans h2⟩
  · intro r hr r' hr' e
    obtain ⟨a, ha, ea⟩ := hin r hr
    obtain ⟨b, hb, eb'⟩ := hin r' hr'
    rw [← ea, ← eb'] at e ⊢
    exact h.inj a ha b hb e
end
end Go.Proofs.YtgepgklgemndeaaGreatDoor
