import Derived.Test.YtiabdbeejkadnabGreatDoorJ92291fa292
import Derived.Test.YtiabdbeejkadnabGreatDoorJ7628c22793
import Derived.Test.YtiabdbeejkadnabGreatDoorJd37c8e27aa
import Derived.Test.YtiabdbeejkadnabGreatDoorJ0c3df23578
/- The keeps: Kept, plain; the calls of it. Own work of the verifier. -/
namespace Go.Proofs.YtiabdbeejkadnabGreatDoor
open Go.RowKit Go.Maps

theorem put_cat {D : List UInt8} {p : Nat} {ds : List UInt8} (hD : D.length = 64) (hp : p < 16) (hd : ds.length = 4) : D.take (4 * p) ++ ds ++ D.drop (4 * p + 4) = putM D (4 * p) ds := by
  match ds, hd with
  | [a, b, c, d], _ =>
    simp only [putM, List.getD_cons_zero, List.getD_cons_succ]
    apply List.ext_getElem?
    intro i
    simp only [List.getElem?_set, List.length_set]
    have h5 : i < 4 * p ∨ i = 4 * p ∨ i = 4 * p + 1 ∨ i = 4 * p + 2 ∨ i = 4 * p + 3 ∨ 4 * p + 4 ≤ i := by omega
    have hl : (D.take (4 * p)).length = 4 * p := by rw [List.length_take]; omega
    rcases h5 with h | h | h | h | h | h
    · rw [List.append_assoc, List.getElem?_append_left (by omega), List.getElem?_take_of_lt h, if_neg (by omega), if_neg (by omega), if_neg (by omega), if_neg (by omega)]
    · subst h
      rw [List.append_assoc, List.getElem?_append_right (by omega), hl, if_neg (by omega), if_neg (by omega), if_neg (by omega), if_pos rfl, if_pos (by omega)]
      simp
    · subst h
      rw [List.append_assoc, List.getElem?_append_right (by omega), hl, if_neg (by omega), if_neg (by omega), if_pos rfl, if_pos (by omega), show 4 * p + 1 - 4 * p = 1 by omega]
      simp
    · subst h
      rw [List.append_assoc, List.getElem?_append_right (by omega), hl, if_neg (by omega), if_pos rfl, if_pos (by omega), show 4 * p + 2 - 4 * p = 2 by omega]
      simp
    · subst h
      rw [List.append_assoc, List.getElem?_append_right (by omega), hl, if_pos rfl, if_pos (by omega), show 4 * p + 3 - 4 * p = 3 by omega]
      simp
    · rw [List.getElem?_append_right (by rw [List.length_append, hl]; simp; omega), List.length_append, hl, List.getElem?_drop, if_neg (by omega), if_neg (by omega), if_neg (by omega), if_neg (by omega)]
      congr 1
      simp; omega
section
variable {S : St} {rs : List KR}
/-- what was asked of a request under way -/
theorem kept_rq (h : KInv S rs) {n : Int} (hn : n ∈ airs S) : ∃ i : Nat, ∃ hi : i < rs.length, n = i + 1 ∧ (rs[i]).page = (rqOf S n).page ∧ (rs[i]).data = (rqOf S n).data ∧ (0 ≤ (rqOf S n).page ∧ (rqOf S n).page < 16) ∧ ((rqOf S n).write = true → (rqOf S n).data.size = 4) ∧ rqOf S n ∈ S.reqs ∧ (rqOf S n).num = n := by
  obtain ⟨k, hk, hf, e, _⟩ := h.wf.found (n := n) (by simpa using hn)
  have hr := rqOf_found hk hf
  obtain ⟨x, hx, x1, x2, x3, x4⟩ := h.src _ (List.getElem_mem hk)
  obtain ⟨i, hi, rfl⟩ := List.getElem_of_mem hx
  have o := h.wf.rq _ (List.getElem_mem hk)
  rw [hr]
  exact ⟨i, hi, by rw [← e, ← x1, h.num i hi], x3, x4, o.page, o.data, List.getElem_mem hk, e⟩
theorem kept_write (h : KInv S rs) {c : Cmd} (hc : c ∈ S.flights) (hw : c.write = true) {n : Int} (hn : n ∈ c.requests) : n ∈ airs S ∧ (rqOf S n).write = true := by
  have ha : n ∈ airs S := List.mem_flatMap.2 ⟨c, hc, hn⟩
  obtain ⟨i, hi, _, _, _, _, _, hm, e⟩ := kept_rq h ha
  exact ⟨ha, by rw [(h.wf.fl c hc).wr _ hm (by rw [e]; exact hn)]; exact hw⟩
theorem crash_poll (S : St) (K : List Bool) (num : Int) : pollM (crashM S K) num = (⟨#[]⟩, 0, 5, crashM S K) := by
  have hp : placeM (crashM S K) num = -1 := rfl
  unfold pollM
  rw [hp, if_pos (by decide)]
theorem crash_err (S : St) (K : List Bool) (num : Int) : plainErr (crashM S K) num = (5, -1, 0) := by
  unfold plainErr pollErr
  rw [crash_poll]; rfl
theorem crash_read (S : St) (K : List Bool) : askM (crashM S K) false 3 ⟨#[]⟩ = (S.last + 1, 0, askOk (crashM S K) false 3 ⟨#[]⟩) := by
  unfold askM
  rw [if_neg (by decide), if_neg (by simp), if_neg (by show ¬ 40 ≤ ((([] : List Rq).length : Nat) : Int) - (([] : List Int).length : Nat); decide)]
  rfl
def newR (S : St) : Rq := ⟨S.last + 1, false, 3, ⟨#[]⟩, 0, 0, 0, false, false, ⟨#[]⟩⟩
theorem crash_next (h : Wf S) (K : List Bool) : nextM (askOk (crashM S K) false 3 ⟨#[]⟩) = some ⟨false, 3, 1, [S.last + 1]⟩ :=
  one_next (S := askOk (crashM S K) false 3 ⟨#[]⟩) (r := newR S) rfl (by show 0 < S.depth; have := h.depth; omega) rfl rfl (by show (0 : Int) ≤ S.now; exact h.now) (by show (0 : Int) ≤ 3 ∧ (3 : Int) < 16; decide) (by show (0 : Int) ≤ 0; decide)
theorem crash_done (h : Wf S) (K : List Bool) : (completeM (stepM (askOk (crashM S K) false 3 ⟨#[]⟩)).2 0 false).1 = true ∧ (pollM (completeM (stepM (askOk (crashM S K) false 3 ⟨#[]⟩)).2 0 false).2 (S.last + 1)).1 = getM (crashM S K).disk 12 ∧ (pollM (completeM (stepM (askOk (crashM S K) false 3 ⟨#[]⟩)).2 0 false).2 (S.last + 1)).2.2.1 = 0 := by
  have hs : (stepM (askOk (crashM S K) false 3 ⟨#[]⟩)).2 = ⟨S.depth, [{ newR S with state := 1, inAir := true }], [], [⟨false, 3, 1, [S.last + 1]⟩], S.now, 4, S.last + 1, (crashM S K).disk⟩ := by
    unfold stepM
    rw [crash_next h K]
    simp [sendM, markM, askOk, crashM, newR]
  rw [hs]
  have hc : completeM ⟨S.depth, [{ newR S with state := 1, inAir := true }], [], [⟨false, 3, 1, [S.last + 1]⟩], S.now, 4, S.last + 1, (crashM S K).disk⟩ 0 false = (true, ⟨S.depth, [triedR ⟨S.depth, [{ newR S with state := 1, inAir := true }], [], [], S.now, 4, S.last + 1, (crashM S K).disk⟩ false { newR S with state := 1, inAir := true }], [], [], S.now, 4, S.last + 1, (crashM S K).disk⟩) := by
    unfold completeM
    rw [if_neg (by simp)]
    simp [endM, triedM, triedK, toldHas, findR, newR]
  rw [hc]
  refine ⟨rfl, ?_⟩
  have hp : placeM ⟨S.depth, [triedR ⟨S.depth, [{ newR S with state := 1, inAir := true }], [], [], S.now, 4, S.last + 1, (crashM S K).disk⟩ false { newR S with state := 1, inAir := true }], [], [], S.now, 4, S.last + 1, (crashM S K).disk⟩ (S.last + 1) = 0 := by
    simp [placeM, toldHas, findR, triedR, newR, intOr]
  unfold pollM
  rw [hp, if_neg (by decide)]
  simp [triedR, newR]
end
section
variable {w W : World} {F : Nat → Prop} {wb xb : Nat} {S : St} {rs : List KR}
theorem kw_crash (K : List Bool) (P : Nat → Prop) (ao : Option Addr) (cap : Nat) (h : KWF w W F wb xb S rs) (hl : S.last ≤ 1000000) (hrow : Row W P 4 1 ao K.length cap (encO K)) (hPF : ∀ k, P k → ¬ F k) :
    Calls Tryz.prog 21 #[.pointer (some ⟨xb, 0, none⟩), .slice ao K.length cap] W fun e w' => e = .returned (.tuple #[]) ∧ KWF w w' (Foot F W w') wb xb (crashM S K) rs ∧ Kept F W w' := by
  obtain ⟨Fx, Fk, ar, cr, hP, hB, hd, hF⟩ := h.at_
  refine (prog_crash S Fx P xb K ao K.length cap W hP hl hrow rfl (fun k hk e => hPF k hk ((hF k).2 (Or.inl e)))).mono ?_
  rintro e w1 ⟨rfl, hP1, hK1⟩
  obtain ⟨h2, h3⟩ := KAt.lift hP.lt hB hd hF hP1 (fun k hk => Or.inl hk) hK1
  exact ⟨rfl, h.after h2 h3, h3⟩
theorem kw_read (page : Int) (h : KWF w W F wb xb S rs) (hl : S.last ≤ 1000000) :
    Calls Tryz.prog 22 #[.pointer (some ⟨xb, 0, none⟩), .int .i64 page] W fun e w' => e = .returned (.tuple #[.int .i64 (askM S false page ⟨#[]⟩).1, .agg #[.int .i64 (askM S false page ⟨#[]⟩).2.1, .int .i64 (-1), .int .i64 0, .bool true]]) ∧ KWF w w' (Foot F W w') wb xb (askM S false page ⟨#[]⟩).2.2 rs ∧ Kept F W w' := by
  obtain ⟨Fx, Fk, ar, cr, hP, hB, hd, hF⟩ := h.at_
  refine (plain_read S Fx xb page W hP h.g (fun e => h.no0 ((hF 0).2 (Or.inl e))) hl).mono ?_
  rintro e w1 ⟨rfl, hP1, hK1⟩
  obtain ⟨h2, h3⟩ := KAt.lift hP.lt hB hd hF hP1 (fun k hk => hk) hK1
  exact ⟨rfl, h.after h2 h3, h3⟩
end
end Go.Proofs.YtiabdbeejkadnabGreatDoor

/- A text's bytes, odd or not. Own work of the verifier. -/
namespace Go.Proofs.YtiabdbeejkadnabGreatDoor
open Go.RowKit Go.Maps

theorem info_bool : (Tryz.prog.info? 4).map (fun i => (i.zero, i.size, i.bytes)) = some (some (.bool false), 1, 1) := by kernel_rfl
def bitB (b : UInt8) : Bool := (b.toNat : Int) % 2 == 1
def bitsM (s : ByteArray) : List Bool := s.data.toList.map bitB
theorem bitsM_len (s : ByteArray) : (bitsM s).length = s.size := by
  show (s.data.toList.map bitB).length = s.data.size
  rw [List.length_map, Array.length_toList]
theorem bitsM_at (s : ByteArray) {j : Nat} (h : j < s.size) : (bitsM s)[j]? = some (bitB s[j]) := by
  have h' : j < s.data.size := h
  simp [bitsM]
  exact ⟨_, Array.getElem?_eq_getElem h', rfl⟩
theorem bits_take {s : ByteArray} {j : Nat} (h : j < s.size) : (bitsM s).take (j + 1) = (bitsM s).take j ++ [bitB s[j]] := by
  have h1 : j < (bitsM s).length := by rw [bitsM_len]; exact h
  rw [List.take_succ_eq_append_getElem h1]
  have := bitsM_at s h
  rw [List.getElem?_eq_getElem h1] at this
  simp at this
  rw [this]
end Go.Proofs.YtiabdbeejkadnabGreatDoor

/- The keeps: a keep's world and blocks of one's own. Own work of the verifier. -/
namespace Go.Proofs.YtiabdbeejkadnabGreatDoor
open Go.RowKit Go.Maps

/-- a keep's world; the blocks of X are not its -/
def One (w W : World) (wb xb : Nat) (S : St) (rs : List KR) (X : Nat → Prop) : Prop := ∃ F : Nat → Prop, KWF w W F wb xb S rs ∧ ∀ k, X k → k < W.heap.size ∧ ¬ F k
/-- X and what is new -/
def XNew (X : Nat → Prop) (W W' : World) (k : Nat) : Prop := X k ∨ (W.heap.size ≤ k ∧ k < W'.heap.size)
section
variable {w W W' : World} {wb xb : Nat} {S S' : St} {rs rs' : List KR} {X X' : Nat → Prop}
theorem One.q (h : One w W wb xb S rs X) : W.cell? ⟨wb, 0, none⟩ = some (.pointer (some ⟨xb, 0, none⟩)) ∧ wb < W.heap.size := by
  obtain ⟨F, h1, _⟩ := h
  exact h1.q
theorem One.bel (h : One w W wb xb S rs X) : Below w.heap.size w W := by
  obtain ⟨F, h1, _⟩ := h
  exact h1.bel
theorem One.less (h : One w W wb xb S rs X) (hX : ∀ k, X' k → X k) : One w W wb xb S rs X' := by
  obtain ⟨F, h1, h2⟩ := h
  exact ⟨F, h1, fun k hk => h2 k (hX k hk)⟩
theorem One.below (h : One w W wb xb S rs X) (hb : Below W.heap.size W W') : One w W' wb xb S rs (XNew X W W') := by
  obtain ⟨F, h1, h2⟩ := h
  refine ⟨F, h1.below hb, fun k hk => ?_⟩
  have hz := hb.size
  rcases hk with e | e
  · have := h2 k e; exact ⟨by omega, this.2⟩
  · exact ⟨e.2, fun e' => h1.new k e.1 e'⟩
theorem One.alloc (h : One w W wb xb S rs X) (o : Obj) : One w (W.alloc o) wb xb S rs (fun k => X k ∨ k = W.heap.size) :=
  (h.below (alloc_below W o)).less fun k hk => by
    rcases hk with e | e
    · exact Or.inl e
    · exact Or.inr ⟨by omega, by rw [e]; simp⟩
theorem One.next {F : Nat → Prop} (h2 : ∀ k, X k → k < W.heap.size ∧ ¬ F k) (hA : KWF w W' (Foot F W W') wb xb S' rs') (hK : Kept F W W') : One w W' wb xb S' rs' X ∧ ∀ k, X k → W'.heap[k]? = W.heap[k]? := by
  refine ⟨⟨_, hA, fun k hk => ?_⟩, fun k hk => hK.block k (h2 k hk).1 (h2 k hk).2⟩
  obtain ⟨x1, x2⟩ := h2 k hk
  refine ⟨by have := hK.size; omega, fun e => ?_⟩
  rcases e with e | e
  · exact x2 e
  · omega
/-- a row of one's own -/
theorem Row.mine {T : TypeId} {sz : Nat} {ao : Option Addr} {n cap : Nat} {xs : List Value} (h : Row W X T sz ao n cap xs) (hs : ∀ k, X k → W'.heap[k]? = W.heap[k]?) : Row W' X T sz ao n cap xs := h.same fun a ha => hs _ (h.2 a ha)
theorem Row.news {T : TypeId} {sz : Nat} {ao : Option Addr} {n cap : Nat} {xs : List Value} (h : Row W' (fun b => W.heap.size ≤ b) T sz ao n cap xs) (X : Nat → Prop) : Row W' (XNew X W W') T sz ao n cap xs := ⟨h.1, fun a ha => by
  obtain ⟨cur, hh, _⟩ := h.block ha
  exact Or.inr ⟨h.2 a ha, lt_of_heap hh⟩⟩
theorem Row.more {T : TypeId} {sz : Nat} {ao : Option Addr} {n cap : Nat} {xs : List Value} (h : Row W X T sz ao n cap xs) (hb : Below W.heap.size W W') : Row W' (XNew X W W') T sz ao n cap xs :=
  (h.same (fun a ha => by obtain ⟨cur, hh, _⟩ := h.block ha; exact hb.block _ (lt_of_heap hh))).mono fun _ => Or.inl
/-- commands of one's own -/
structure Air (W : World) (X : Nat → Prop) (fl : List Cmd) (ao : Option Addr) (cap : Nat) (vs : List (Option Addr × Nat)) : Prop where
  len : vs.length = fl.length
  row : Row W X 45 4 ao fl.length cap ((fl.zip vs).flatMap encC)
  ins : ∀ j (hj : j < fl.length) (hv : j < vs.length), Row W X 3 1 (vs[j]).1 (fl[j]).requests.length (vs[j]).2 (encI (fl[j]).requests)
theorem FlOut.air {fl : List Cmd} {ao : Option Addr} {cap : Nat} {vs : List (Option Addr × Nat)} (h : FlOut W.heap.size W' fl ao fl.length cap vs) (X : Nat → Prop) : Air W' (XNew X W W') fl ao cap vs := ⟨h.len, h.row.news X, fun j hj hv => (h.ins j hj hv).news X⟩
theorem Air.mine {fl : List Cmd} {ao : Option Addr} {cap : Nat} {vs : List (Option Addr × Nat)} (h : Air W X fl ao cap vs) (hs : ∀ k, X k → W'.heap[k]? = W.heap[k]?) : Air W' X fl ao cap vs := ⟨h.len, h.row.mine hs, fun j hj hv => (h.ins j hj hv).mine hs⟩
theorem Air.more {fl : List Cmd} {ao : Option Addr} {cap : Nat} {vs : List (Option Addr × Nat)} (h : Air W X fl ao cap vs) (hb : Below W.heap.size W W') : Air W' (XNew X W W') fl ao cap vs := ⟨h.len, h.row.more hb, fun j hj hv => (h.ins j hj hv).more hb⟩
theorem Air.cells {fl : List Cmd} {ao : Option Addr} {cap : Nat} {vs : List (Option Addr × Nat)} (h : Air W X fl ao cap vs) {i : Nat} (hi : i < fl.length) :
    ∃ g a c, ao = some ⟨g, 0, none⟩ ∧ X g ∧ g < W.heap.size ∧ W.cell? ⟨g, i * 4, none⟩ = some (.bool (fl[i]).write) ∧ W.cell? ⟨g, i * 4 + 1, none⟩ = some (.int .i64 (fl[i]).page) ∧ W.cell? ⟨g, i * 4 + 2, none⟩ = some (.int .i64 (fl[i]).count) ∧ W.cell? ⟨g, i * 4 + 3, none⟩ = some (.slice a (fl[i]).requests.length c) ∧ Row W X 3 1 a (fl[i]).requests.length c (encI (fl[i]).requests) := by
  obtain ⟨g, cur, hg, hgl, hgb, _, _⟩ := Row.some h.row (by omega)
  subst hg
  have hv : i < vs.length := by rw [h.len]; exact hi
  have hz : i < (fl.zip vs).length := by rw [List.length_zip]; omega
  have hq : ∀ t, t < 4 → W.cell? ⟨g, i * 4 + t, none⟩ = (encC (fl[i], vs[i]))[t]? := fun t ht => by
    rw [Row.cellAt h.row (i * 4 + t) (by omega), encC_at _ i t hz ht]; simp
  exact ⟨g, (vs[i]).1, (vs[i]).2, rfl, hgl, lt_of_heap hgb, hq 0 (by omega), hq 1 (by omega), hq 2 (by omega), hq 3 (by omega), h.ins i hi hv⟩
/-- what was asked, in memory -/
theorem One.rs_cells (h : One w W wb xb S rs X) {i : Nat} (hi : i < rs.length) : ∃ g c, W.cell? ⟨wb, 1, none⟩ = some (.slice (some ⟨g, 0, none⟩) rs.length c) ∧ wb < W.heap.size ∧ g < W.heap.size ∧ ∀ t, t < 6 → W.cell? ⟨g, i * 6 + t, none⟩ = (encK rs[i])[t]? := by
  obtain ⟨F, h1, _⟩ := h
  obtain ⟨g, c, a1, a2, a3, _, a5, _⟩ := h1.at_.how hi
  exact ⟨g, c, a1, a2, a3, a5⟩
theorem One.rs_len (h : One w W wb xb S rs X) : ∃ ar cr, W.cell? ⟨wb, 1, none⟩ = some (.slice ar rs.length cr) := by
  obtain ⟨F, h1, _⟩ := h
  exact kw_len h1
theorem o_disk (h : One w W wb xb S rs X) :
    Calls Tryz.prog 18 #[.pointer (some ⟨xb, 0, none⟩)] W fun e w' => ∃ ao cap, e = .returned (.slice ao 64 cap) ∧ Row w' (XNew X W w') 5 1 ao 64 cap (encB S.disk) ∧ One w w' wb xb S rs (XNew X W w') ∧ Below W.heap.size W w' := by
  have h' := h
  obtain ⟨F, h1, _⟩ := h
  refine (kw_disk w W F wb xb S rs h1).mono ?_
  rintro e w1 ⟨ao, cap, e1, e2, _, e4⟩
  exact ⟨ao, cap, e1, e2.news X, h'.below e4, e4⟩
theorem o_flights (h : One w W wb xb S rs X) (hl : S.last ≤ 1000000) :
    Calls Tryz.prog 17 #[.pointer (some ⟨xb, 0, none⟩)] W fun e w' => ∃ ao cap vs, e = .returned (.slice ao S.flights.length cap) ∧ Air w' (XNew X W w') S.flights ao cap vs ∧ One w w' wb xb S rs (XNew X W w') ∧ Below W.heap.size W w' := by
  have h' := h
  obtain ⟨F, h1, _⟩ := h
  refine (keep_flights S rs F wb xb W h1.at_ hl).mono ?_
  rintro e w1 ⟨⟨ao, n, cap, vs, e1, e2⟩, e3⟩
  have hc := e2.cnt
  subst hc
  exact ⟨ao, cap, vs, e1, e2.air X, h'.below e3, e3⟩
theorem o_wait (h : One w W wb xb S rs X) :
    Calls Tryz.prog 14 #[.pointer (some ⟨xb, 0, none⟩)] W fun e w' => ∃ ao cap, e = .returned (.slice ao (waitM S).length cap) ∧ One w w' wb xb S rs (XNew X W w') ∧ Below W.heap.size W w' := by
  have h' := h
  obtain ⟨F, h1, _⟩ := h
  refine (kw_waiting h1).mono ?_
  rintro e w1 ⟨⟨ao, cap, e1, _⟩, _, e3⟩
  exact ⟨ao, cap, e1, h'.below e3, e3⟩
theorem o_crash (K : List Bool) (ao : Option Addr) (cap : Nat) (h : One w W wb xb S rs X) (hl : S.last ≤ 1000000) (hrow : Row W X 4 1 ao K.length cap (encO K)) :
    Calls Tryz.prog 21 #[.pointer (some ⟨xb, 0, none⟩), .slice ao K.length cap] W fun e w' => e = .returned (.tuple #[]) ∧ One w w' wb xb (crashM S K) rs X ∧ ∀ k, X k → w'.heap[k]? = W.heap[k]? := by
  obtain ⟨F, h1, h2⟩ := h
  refine (kw_crash K X ao cap h1 hl hrow (fun k hk => (h2 k hk).2)).mono ?_
  rintro e w1 ⟨e1, e2, e3⟩
  exact ⟨e1, One.next h2 e2 e3⟩
theorem o_poll (num : Int) (h : One w W wb xb S rs X) (hw : (Lit.int .i64 num).wf = true) :
    Calls Tryz.prog 10 #[.pointer (some ⟨xb, 0, none⟩), .int .i64 num] W fun e w' => (∃ ao n cap t, e = .returned (.tuple #[.agg #[.slice ao n cap, .int .i64 t], .agg #[.int .i64 (plainErr S num).1, .int .i64 (plainErr S num).2.1, .int .i64 (plainErr S num).2.2, .bool true]]) ∧ PlainAns W w' (pollM S num) ao n cap t) ∧ One w w' wb xb (pollM S num).2.2.2 rs X ∧ ∀ k, X k → w'.heap[k]? = W.heap[k]? := by
  obtain ⟨F, h1, h2⟩ := h
  refine (kw_plainPoll w W F wb xb S rs num h1 hw).mono ?_
  rintro e w1 ⟨e1, e2, e3⟩
  exact ⟨e1, One.next h2 e2 e3⟩
theorem o_read (page : Int) (h : One w W wb xb S rs X) (hl : S.last ≤ 1000000) :
    Calls Tryz.prog 22 #[.pointer (some ⟨xb, 0, none⟩), .int .i64 page] W fun e w' => e = .returned (.tuple #[.int .i64 (askM S false page ⟨#[]⟩).1, .agg #[.int .i64 (askM S false page ⟨#[]⟩).2.1, .int .i64 (-1), .int .i64 0, .bool true]]) ∧ One w w' wb xb (askM S false page ⟨#[]⟩).2.2 rs X ∧ ∀ k, X k → w'.heap[k]? = W.heap[k]? := by
  obtain ⟨F, h1, h2⟩ := h
  refine (kw_read page h1 hl).mono ?_
  rintro e w1 ⟨e1, e2, e3⟩
  exact ⟨e1, One.next h2 e2 e3⟩
theorem o_step (h : One w W wb xb S rs X) (hl : S.last ≤ 1000000) :
    Calls Tryz.prog 12 #[.pointer (some ⟨xb, 0, none⟩)] W fun e w' => (∃ ao cap, e = .returned (.tuple #[.agg #[.bool ((nextM S).getD cmdZ).write, .int .i64 ((nextM S).getD cmdZ).page, .int .i64 ((nextM S).getD cmdZ).count, .slice ao ((nextM S).getD cmdZ).requests.length cap], .bool (nextM S).isSome])) ∧ One w w' wb xb (stepM S).2 rs X ∧ ∀ k, X k → w'.heap[k]? = W.heap[k]? := by
  obtain ⟨F, h1, h2⟩ := h
  refine (kw_step w W F wb xb S rs h1 hl).mono ?_
  rintro e w1 ⟨e1, e2, e3⟩
  exact ⟨e1, One.next h2 e2 e3⟩
theorem o_complete (h : One w W wb xb S rs X) (hn : S.now ≤ 1000000000) (hl : S.last ≤ 1000000) :
    Calls Tryz.prog 13 #[.pointer (some ⟨xb, 0, none⟩), .int .i64 0, .bool false] W fun e w' => e = .returned (.agg #[.int .i64 (if (completeM S 0 false).1 then 0 else 10), .int .i64 (-1), .int .i64 0, .bool true]) ∧ One w w' wb xb (completeM S 0 false).2 rs X ∧ ∀ k, X k → w'.heap[k]? = W.heap[k]? := by
  obtain ⟨F, h1, h2⟩ := h
  refine (kw_complete w W F wb xb S rs 0 false h1 hn hl).mono ?_
  rintro e w1 ⟨e1, e2, e3⟩
  exact ⟨e1, One.next h2 e2 e3⟩
end
end Go.Proofs.YtiabdbeejkadnabGreatDoor

/- The keeps: Kept: a poll behind the crash. Own work of the verifier. -/
namespace Go.Proofs.YtiabdbeejkadnabGreatDoor
open Go.RowKit Go.Maps

/-- a disk as a text -/
def txt (D : List UInt8) : ByteArray := ⟨D.toArray⟩
theorem txt_size (D : List UInt8) : (txt D).size = D.length := by simp [txt, ByteArray.size]
theorem conv_disk {W : World} {P : Nat → Prop} {ao : Option Addr} {n cap : Nat} {D : List UInt8} (h : Row W P 5 1 ao n cap (encB D)) (hn : n = D.length) : (convert 37 9 (.slice ao n cap)).run Tryz.prog W = .ok (.string (txt D)) W :=
  kconv_row (s := txt D) (by simpa [txt] using h) (by rw [hn, txt_size])
theorem cat_txt {D : List UInt8} {p : Nat} (hD : D.length = 64) (hp : p < 16) (d : ByteArray) (hd : d.size = 4) : (txt D).extract 0 (4 * p) ++ d ++ (txt D).extract (4 * p + 4) 64 = txt (putM D (4 * p) d.data.toList) := by
  have hl : d.data.toList.length = 4 := by rw [Array.length_toList]; exact hd
  rw [← put_cat hD hp hl]
  apply ByteArray.ext
  apply Array.ext'
  simp only [txt, ByteArray.data_append, ByteArray.data_extract, Array.toList_append, Array.toList_extract]
  rw [List.extract_eq_take_drop, List.extract_eq_take_drop, List.take_of_length_le (i := 64 - (4 * p + 4)) (by rw [List.length_drop]; omega)]
  simp
theorem get_txt {D : List UInt8} : (txt D).extract 12 16 = getM D 12 := by
  apply ByteArray.ext
  apply Array.ext'
  simp [txt, getM, List.extract_eq_take_drop]
theorem wr_take_len (fl : List Cmd) (i : Nat) : (wrNums (fl.take i)).length ≤ (wrNums fl).length := by
  have e : wrNums fl = wrNums (fl.take i) ++ wrNums (fl.drop i) := by
    conv => lhs; rw [← List.take_append_drop i fl]
    unfold wrNums
    rw [List.filter_append, List.flatMap_append]
  rw [e, List.length_append]; omega
theorem wr_next {fl : List Cmd} {i : Nat} (hi : i < fl.length) : wrNums (fl.take (i + 1)) = (match (fl[i]).write with | true => wrNums (fl.take i) ++ (fl[i]).requests | false => wrNums (fl.take i)) := by
  rw [List.take_succ_eq_append_getElem hi]
  cases h : (fl[i]).write with
  | true => exact wrNums_write _ _ h
  | false => exact wrNums_read _ _ h
section
variable {w wr WW w1 wm wx : World} {F X : Nat → Prop} {wb xb b1 b2 : Nat} {S C : St} {rs : List KR} {c1 c2 : Array Value} {t1 t2 : TypeId}
theorem pm_mid (h : KWF w wr F wb xb S rs) (hX : ∀ k, X k → k < wr.heap.size ∧ ¬ F k) (hb : Below wr.heap.size wr WW) (hR : KWF w w1 (Foot F WW w1) wb xb C rs ∧ Kept F WW w1) (p1 : Put w1 wm b1 c1 t1) (p2 : Put wm wx b2 c2 t2) (h1 : wr.heap.size ≤ b1 ∧ (b1 < WW.heap.size ∨ w1.heap.size ≤ b1)) (h2 : wr.heap.size ≤ b2 ∧ (b2 < WW.heap.size ∨ w1.heap.size ≤ b2)) :
    One w wx wb xb C rs X ∧ ∀ k, X k → wx.heap[k]? = wr.heap[k]? := by
  have z0 := hb.size
  have z1 := hR.2.size
  have z2 := p1.size
  have z3 := p2.size
  have zw := h.bel.size
  have n1 : ¬ Foot F WW w1 b1 := fun e => by
    rcases e with e | e
    · have := h.at_.lt _ e; omega
    · omega
  have n2 : ¬ Foot F WW w1 b2 := fun e => by
    rcases e with e | e
    · have := h.at_.lt _ e; omega
    · omega
  have hs : ∀ k, k < w1.heap.size → k ≠ b1 → k ≠ b2 → wx.heap[k]? = w1.heap[k]? := fun k hk e1 e2 => (p2.rest k (by omega) e2).trans (p1.rest k hk e1)
  have hbel : Below w.heap.size w wx := ⟨p2.os.trans (p1.os.trans hR.1.bel.os), p2.tape.trans (p1.tape.trans hR.1.bel.tape), p2.output.trans (p1.output.trans hR.1.bel.output), by have := hR.1.bel.size; omega, fun k hk => (hs k (by omega) (by omega) (by omega)).trans (hR.1.bel.block k hk)⟩
  have hg : GCell wx := by
    have h0 := h.pos
    have := hR.1.g
    unfold GCell at this ⊢
    rw [World.cell?_of_block (w := w1) (show wx.heap[(0 : Nat)]? = w1.heap[(0 : Nat)]? from hs 0 (by omega) (by omega) (by omega))]
    exact this
  refine ⟨⟨Foot F WW w1, ⟨hR.1.at_.same (fun k hk hl => hs k hl (fun e => n1 (e ▸ hk)) (fun e => n2 (e ▸ hk))) (by omega), hR.1.fr, hbel, hg, h.pos⟩, fun k hk => ?_⟩, fun k hk => ?_⟩
  · obtain ⟨x1, x2⟩ := hX k hk
    refine ⟨by omega, fun e => ?_⟩
    rcases e with e | e
    · exact x2 e
    · omega
  · obtain ⟨x1, x2⟩ := hX k hk
    rw [hs k (by omega) (by omega) (by omega), hR.2.block k (by omega) x2]
    exact hb.block k x1
/-- behind the poll: its error lies at eb -/
def PMid (w wr : World) (wb xb : Nat) (C : St) (rs : List KR) (X : Nat → Prop) (wx : World) (eb : Nat) : Prop :=
  (One w wx wb xb C rs X ∧ ∀ k, X k → wx.heap[k]? = wr.heap[k]?) ∧ wx.heap[eb]? = some (.cells #[.int .i64 5, .int .i64 (-1), .int .i64 0, .bool true] 35 (0, 0))
theorem pm_AE (h : KWF w wr F wb xb S rs) (hX : ∀ k, X k → k < wr.heap.size ∧ ¬ F k) (hb : Below wr.heap.size wr WW) (hR : KWF w w1 (Foot F WW w1) wb xb C rs ∧ Kept F WW w1) (p1 : Put w1 wm b1 c1 t1) (p2 : Put wm wx b2 #[.int .i64 5, .int .i64 (-1), .int .i64 0, .bool true] 35) (h1 : wr.heap.size ≤ b1 ∧ (b1 < WW.heap.size ∨ w1.heap.size ≤ b1)) (h2 : wr.heap.size ≤ b2 ∧ (b2 < WW.heap.size ∨ w1.heap.size ≤ b2)) : PMid w wr wb xb C rs X wx b2 :=
  ⟨pm_mid h hX hb hR p1 p2 h1 h2, p2.at_⟩
theorem pm_EA (h : KWF w wr F wb xb S rs) (hX : ∀ k, X k → k < wr.heap.size ∧ ¬ F k) (hb : Below wr.heap.size wr WW) (hR : KWF w w1 (Foot F WW w1) wb xb C rs ∧ Kept F WW w1) (p1 : Put w1 wm b1 #[.int .i64 5, .int .i64 (-1), .int .i64 0, .bool true] 35) (p2 : Put wm wx b2 c2 t2) (h1 : wr.heap.size ≤ b1 ∧ (b1 < WW.heap.size ∨ w1.heap.size ≤ b1)) (h2 : wr.heap.size ≤ b2 ∧ (b2 < WW.heap.size ∨ w1.heap.size ≤ b2)) (hne : b1 ≠ b2) : PMid w wr wb xb C rs X wx b1 :=
  ⟨pm_mid h hX hb hR p1 p2 h1 h2, (p2.rest b1 p1.lt hne).trans p1.at_⟩
end
/-- a poll behind the crash, wherever it is called -/
theorem pm_call {w wr : World} {F : Nat → Prop} {wb xb : Nat} {S : St} {K : List Bool} {rs : List KR} (num : Int) (h : KWF w wr F wb xb (crashM S K) rs) (hw : (Lit.int .i64 num).wf = true) (g c : Nat) (hc1 : wr.cell? ⟨wb, 1, none⟩ = some (.slice (some ⟨g, 0, none⟩) rs.length c)) (WW : World) (hb : Below wr.heap.size wr WW) :
    Calls Tryz.prog 10 #[.pointer (some ⟨xb, 0, none⟩), .int .i64 num] WW fun e w1 => (∃ ao n cap t, e = .returned (.tuple #[.agg #[.slice ao n cap, .int .i64 t], .agg #[.int .i64 5, .int .i64 (-1), .int .i64 0, .bool true]])) ∧ (w1.cell? ⟨wb, 0, none⟩ = some (.pointer (some ⟨xb, 0, none⟩)) ∧ w1.cell? ⟨wb, 1, none⟩ = some (.slice (some ⟨g, 0, none⟩) rs.length c) ∧ ∀ j, w1.cell? ⟨g, j, none⟩ = wr.cell? ⟨g, j, none⟩) ∧ (KWF w w1 (Foot F WW w1) wb xb (crashM S K) rs ∧ Kept F WW w1) := by
  have h' := h.below hb
  have hzw := hb.size
  obtain ⟨Fx, Fk, ar, cr, hP, hB, hd, hF⟩ := h'.at_
  have hc1' : WW.cell? ⟨wb, 1, none⟩ = some (.slice (some ⟨g, 0, none⟩) rs.length c) := (hb.cell (p := ⟨wb, 1, none⟩) h.q.2).trans hc1
  rw [hB.c1] at hc1'
  have e1 := Option.some.inj hc1'
  injection e1 with e2 e3 e4
  subst e2 e4
  obtain ⟨cur, hcur, _⟩ := hB.row.block rfl
  have hgF : Fk g := hB.row.2 ⟨g, 0, none⟩ rfl
  have hgW : g < wr.heap.size := by
    have := h.at_.lt g ?_
    · exact this
    · exact (hF g).2 (Or.inr hgF)
  refine (plain_poll (crashM S K) Fx xb num WW hP h'.g (fun e => h'.no0 ((hF 0).2 (Or.inl e))) hw).mono ?_
  rintro e w1 ⟨ao, n, cap, t, x1, _, hP1, hK1⟩
  rw [crash_err] at x1
  rw [crash_poll] at hP1
  obtain ⟨h2, h3⟩ := KAt.lift hP.lt hB hd hF hP1 (fun k hk => Or.inl hk) hK1
  have hB1 := hB.kept hK1 (fun k hk e => hd k e hk)
  refine ⟨⟨ao, n, cap, t, x1⟩, ⟨hB1.c0, hB1.c1, fun j => ?_⟩, h'.after h2 h3, h3⟩
  rw [hK1.cell (p := ⟨g, j, none⟩) (lt_of_heap hcur) (fun e => hd _ e hgF)]
  exact hb.cell (p := ⟨g, j, none⟩) hgW
/-- an old block behind two new ones, and more -/
theorem lift2v {w W : World} {x y o : Obj} {b : Nat} (h : w.heap[b]? = some o) (hb : Below ((w.alloc x).alloc y).heap.size ((w.alloc x).alloc y) W) : W.heap[b]? = some o := by
  have hz := lt_of_heap h
  rw [hb.block b (by simp; omega), Below.heap_alloc _ _ _ (by simp; omega), Below.heap_alloc _ _ _ hz]
  exact h
end Go.Proofs.YtiabdbeejkadnabGreatDoor
