/- The law Queues: the script opened. Own work of the verifier. -/
import Derived.Test.YtiabdbeejkadnaaGreatDoorPairL
import Derived.Deep.SlicePairs
import Derived.SizedLaws
namespace Go.Proofs.YtiabdbeejkadnaaGreatDoor
open Go.ChangeShapes Go.WideShapes Go.RowKit Go.Deep

theorem ce33 : Tryz.prog.cellsOf 52 = 5 := by kernel_rfl
theorem ci : Tryz.prog.cellsOf 3 = 1 := by kernel_rfl
theorem cst : Tryz.prog.cellsOf 9 = 1 := by kernel_rfl
def opDatum {H : Type} (o : OpD) : DataW H := .agg [.lit (.int .i64 o.k), .lit (.int .i64 o.a), .lit (.int .i64 o.b), .lit (.int .i64 o.c), .lit (.string o.s.data.toList)]
/-- one step, from its five cells -/
theorem open_five {H : Type} {enc : TypeId × Value → H} {P : Program} {W : World} {base : Nat} {sp : Nat → Bool} {held : Bool} {n : Nat} {e : TypeId} {f0 f1 f2 f3 f4 : Field} {cs : List Value} {x : DataW H × List MemPlace} (he : P.underlying e = some (.struct #[f0, f1, f2, f3, f4]))
    (o0 : f0.offset = 0) (o1 : f1.offset = 1) (o2 : f2.offset = 2) (o3 : f3.offset = 3) (o4 : f4.offset = 4) (c0 : P.cellsOf f0.type = 1) (c1 : P.cellsOf f1.type = 1) (c2 : P.cellsOf f2.type = 1) (c3 : P.cellsOf f3.type = 1) (c4 : P.cellsOf f4.type = 1)
    (u0 : P.underlying f0.type = some (.int .i64)) (u1 : P.underlying f1.type = some (.int .i64)) (u2 : P.underlying f2.type = some (.int .i64)) (u3 : P.underlying f3.type = some (.int .i64)) (u4 : P.underlying f4.type = some .string)
    (h : DataW.trod enc P W base sp held n e cs = some x) (hlen : cs.length = 5) :
    ∃ o : OpD, cs = [.int .i64 o.k, .int .i64 o.a, .int .i64 o.b, .int .i64 o.c, .string o.s] ∧ (Lit.int .i64 o.a).wf = true ∧ (Lit.int .i64 o.b).wf = true ∧ x.1 = opDatum o := by
  obtain ⟨xs, k, hk, hxy, _, hxl, hf⟩ := DataW.trod_struct he h
  match xs, hxl, cs, hlen with
  | [y0, y1, y2, y3, y4], _, [v0, v1, v2, v3, v4], _ =>
    have g0 := hf 0 f0 rfl
    have g1 := hf 1 f1 rfl
    have g2 := hf 2 f2 rfl
    have g3 := hf 3 f3 rfl
    have g4 := hf 4 f4 rfl
    simp [o0, o1, o2, o3, o4, c0, c1, c2, c3, c4] at g0 g1 g2 g3 g4
    obtain ⟨n0, e0, rfl, w0⟩ := DataW.trod_int u0 g0
    obtain ⟨n1, e1, rfl, w1⟩ := DataW.trod_int u1 g1
    obtain ⟨n2, e2, rfl, w2⟩ := DataW.trod_int u2 g2
    obtain ⟨n3, e3, rfl, w3⟩ := DataW.trod_int u3 g3
    obtain ⟨s, e4, rfl, w4⟩ := DataW.trod_string u4 g4
    simp only [List.cons.injEq, and_true] at e0 e1 e2 e3 e4
    subst e0 e1 e2 e3 e4
    exact ⟨⟨n0, n1, n2, n3, s⟩, rfl, w1, w2, by rw [hxy]; simp [opDatum]⟩
theorem open_script {H : Type} {enc : TypeId × Value → H} {W : World} {base : Nat} {sp : Nat → Bool} {held : Bool} {fuel : Nat} {cs : List Value} {x : DataW H × List MemPlace} (h : DataW.trod enc Tryz.prog W base sp held fuel 22 cs = some x) :
    (cs = [.slice none 0 0] ∧ x = (.nil, [])) ∨
    ∃ (a : Addr) (len cap : Nat) (O : Nat → OpD) (rest : List (DataW H)), cs = [.slice (some a) len cap] ∧ x.1 = .slice ((List.range len).map fun i => opDatum (O i)) rest ∧
      ∀ i, i < len → (W.cell? (a.add (i * 5)) = some (.int .i64 (O i).k) ∧ W.cell? (a.add (i * 5 + 1)) = some (.int .i64 (O i).a) ∧ W.cell? (a.add (i * 5 + 2)) = some (.int .i64 (O i).b) ∧ W.cell? (a.add (i * 5 + 3)) = some (.int .i64 (O i).c) ∧ W.cell? (a.add (i * 5 + 4)) = some (.string (O i).s)) ∧
        (Lit.int .i64 (O i).a).wf = true ∧ (Lit.int .i64 (O i).b).wf = true := by
  rcases open_slice Tryz.underlying22 h with h0 | ⟨a, len, cap, m, n, D, Pl, rfl, hb, hl, hm, hmm, rfl, hx⟩
  · exact Or.inl h0
  right
  have hlm : len ≤ m := by rw [hmm]; split <;> omega
  have each : ∀ i, i < len → ∃ o : OpD, (W.cell? (a.add (i * 5)) = some (.int .i64 o.k) ∧ W.cell? (a.add (i * 5 + 1)) = some (.int .i64 o.a) ∧ W.cell? (a.add (i * 5 + 2)) = some (.int .i64 o.b) ∧ W.cell? (a.add (i * 5 + 3)) = some (.int .i64 o.c) ∧ W.cell? (a.add (i * 5 + 4)) = some (.string o.s)) ∧
      (Lit.int .i64 o.a).wf = true ∧ (Lit.int .i64 o.b).wf = true ∧ D i = opDatum o := by
    intro i hi
    obtain ⟨cs', h1, h2⟩ := hx i (by omega)
    rw [ce33] at h1
    obtain ⟨_, hlen, hcell⟩ := World.cells?_some h1
    obtain ⟨o, rfl, wa, wb, hd⟩ := open_five Tryz.underlying52 rfl rfl rfl rfl rfl ci ci ci ci cst Tryz.underlying3 Tryz.underlying3 Tryz.underlying3 Tryz.underlying3 Tryz.underlying9 h2 hlen
    have c0 := hcell 0 (by omega)
    have c1 := hcell 1 (by omega)
    have c2 := hcell 2 (by omega)
    have c3 := hcell 3 (by omega)
    have c4 := hcell 4 (by omega)
    rw [add_add] at c0 c1 c2 c3 c4
    exact ⟨o, ⟨c0, c1, c2, c3, c4⟩, wa, wb, hd⟩
  have hinh : Inhabited OpD := ⟨⟨0, 0, 0, 0, ⟨#[]⟩⟩⟩
  obtain ⟨O, hO⟩ := choose_lt each
  refine ⟨a, len, cap, O, (List.range (m - len)).map (fun j => D (len + j)), rfl, ?_, fun i hi => ⟨(hO i hi).1, (hO i hi).2.1, (hO i hi).2.2.1⟩⟩
  show DataW.slice ((List.range len).map D) _ = _
  rw [List.map_congr_left (fun i hi => (hO i (List.mem_range.1 hi)).2.2.2)]

theorem weightsAll_in {H : Type} {P : Program} {e : TypeId} : ∀ {l : List (DataW H)} {d : DataW H}, d ∈ l → ∀ n ∈ d.weights P e, n ∈ DataW.weightsAll P e l
  | d' :: r, d, hd, n, hn => by
    simp only [DataW.weightsAll, List.mem_append]
    rcases List.mem_cons.1 hd with rfl | h
    · exact Or.inl hn
    · exact Or.inr (weightsAll_in h n hn)
/-- how far the form's reach goes: the steps, and each step's text -/
theorem script_sized {H : Type} {ts : List TypeId} {ds : List (DataW H)} {len : Nat} {O : Nat → OpD} {rest : List (DataW H)} (h : (DataW.weightsEach Tryz.prog ts ds).all (· ≤ reachBytes) = true) (ht : ts[0]? = some 22) (hd : ds[0]? = some (.slice ((List.range len).map fun i => opDatum (O i)) rest)) :
    len ≤ 2 ^ 48 ∧ ∀ i, i < len → (O i).s.size ≤ 2 ^ 48 := by
  have hr : reachBytes ≤ 2 ^ 47 := Nat.le_of_lt reachBytes_lt
  refine ⟨?_, fun i hi => ?_⟩
  · have h1 := sized_slice h ht hd Tryz.underlying22
    have hb : Tryz.prog.bytesOf 52 = 48 := by kernel_rfl
    rw [hb, List.length_map, List.length_range] at h1
    omega
  · have h1 : (O i).s.data.toList.length ≤ reachBytes := by
      refine of_decide_eq_true (List.all_eq_true.1 h _ (DataW.weights_mem_each ht hd _ ?_))
      simp only [DataW.weights, Tryz.underlying22, List.mem_cons, List.mem_append]
      refine Or.inr (Or.inl (weightsAll_in (List.mem_map.2 ⟨i, List.mem_range.2 hi, rfl⟩) _ ?_))
      simp [opDatum, DataW.weights, DataW.weightsEach, Tryz.underlying52]
    rw [blen] at h1
    omega
end Go.Proofs.YtiabdbeejkadnaaGreatDoor
