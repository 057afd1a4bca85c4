import Derived.Test.YtiabdbeejkadnaaGreatDoorJb5280ac993
import Derived.Deep.SlicePairs
import Derived.SizedLaws
import Derived.Test.YtiabdbeejkadnaaGreatDoorJ5ba13d981d
import Derived.Test.YtiabdbeejkadnaaGreatDoorJ1a89d247e5
/- The law: plays, Queues. Own work of the verifier. -/
namespace Go.Proofs.YtiabdbeejkadnaaGreatDoor
open Go.RowKit Go.Maps

/-- is a step of this kind played, as far as the first t kinds that are left out say? -/
def inB (k : Int) (t : Nat) : Bool := (List.range t).all fun u => k != 9 + (u : Int)
theorem inB_succ (k : Int) (t : Nat) : inB k (t + 1) = (inB k t && (k != 9 + (t : Int))) := by simp [inB, List.range_succ]
theorem inB_5 {k : Int} (h : inB k 5 = true) : k ≠ 9 ∧ k ≠ 10 ∧ k ≠ 11 ∧ k ≠ 12 ∧ k ≠ 13 := by
  simp [inB, List.range_succ] at h
  omega
theorem inv_start {w : World} (hg : GCell w) (h0 : 0 < w.heap.size) : Inv (w.alloc (.cells #[.slice none 0 0, .slice none 0 0, .slice none 0 0] 50)) w.heap.size w.heap.size 0 := by
  refine ⟨fun k => k = w.heap.size, [], [], [], ⟨⟨fun k => k = w.heap.size, fun _ => False, none, 0, none, 0, none, 0, ⟨heap_alloc_new w _, rfl, Row.nil _ _ _ _, Row.nil _ _ _ _, Row.nil _ _ _ _, fun i hi => by simp at hi, fun i hi => by simp at hi, fun _ _ h => h, fun k hk => by subst hk; simp, fun _ h => h.elim⟩, fun k => by simp⟩, fun i hi => by simp at hi, fun i hi => by simp at hi, fun i j hi => by simp at hi, fun k hk => by omega, fun i hi => by simp at hi, hg.below (alloc_below _ _), h0, by simp, by simp, fun i hi => by simp at hi, ⟨fun x hx => by simp at hx, fun x hx => by simp at hx⟩⟩⟩
theorem inv_looks {w : World} {wb B N : Nat} (h : Inv w wb B N) (hN : N ≤ 100000) : Calls Tryz.prog 22 #[.pointer (some ⟨wb, 0, none⟩)] w fun e w' => e = .returned (.bool true) ∧ w' = w := by
  obtain ⟨FW, ps, bs, is, h⟩ := h
  exact law_looks FW wb _ bs is w h.wat (by have := h.lens; omega) (by have := h.lens; omega) h.caps

set_option maxHeartbeats 1000000 in
set_option maxRecDepth 1000000 in
theorem plays_some (blk off n cap wo : Nat) (O : Nat → OpD) (w : World) (h : Script w blk off n O) (hs : ∀ i, i < n → (O i).s.size ≤ 2 ^ 48) (hn : n ≤ 2 ^ 48) (hO : ∀ i, i < n → (-9223372036854775808 ≤ (O i).a ∧ (O i).a ≤ 9223372036854775807) ∧ (Lit.int .i64 (O i).b).wf = true)
    (hg : GCell w) (hb : blk < w.heap.size) (hwo : w.heap[wo]? = some (.cells #[.int .i64 9, .int .i64 10, .int .i64 11, .int .i64 12, .int .i64 13] 3 (0, 0))) :
    Calls Tryz.prog 11 #[.slice (some ⟨blk, off, none⟩) n cap, .slice (some ⟨wo, 0, none⟩) 5 5] w fun e w' => e = .returned (.bool true) ∧ Below w.heap.size w w' := by
  have HSC := hide h
  have HO := hide hO
  have HG := hide hg
  have HWO := hide hwo
  have HW5 : Hid (∀ t : Nat, t < 5 → w.cell? ⟨wo, t, none⟩ = some (.int .i64 (9 + (t : Int)))) := fun t ht => by
    have h5 : t = 0 ∨ t = 1 ∨ t = 2 ∨ t = 3 ∨ t = 4 := by omega
    rcases h5 with rfl | rfl | rfl | rfl | rfl <;> simp [World.cell?, hwo]
  have hwol : wo < w.heap.size := lt_of_heap hwo
  have HSM := hide (small_some blk off n cap O w h hs hn)
  clear h hs hO hg hwo
  go_enter Tryz.func11, Tryz.ntmps11
  go_wp2_with fail
  refine HSM.out.mono ?_
  rintro e w1 ⟨r, rfl, hw1, hr⟩
  have hw1 := hw1.symm
  subst hw1
  cases r with
  | false =>
    go_wp2
    go_ret
    exact ⟨rfl, Below.refl _ _⟩
  | true =>
    have HR := hide (hr rfl)
    have hnn : n ≤ 65536 := (hr rfl).1
    clear hr
    have HI0 := hide (inv_start HG.out (Nat.lt_of_le_of_lt (Nat.zero_le _) hb))
    go_wp2
    go_loopw [7, 8, 9, 10] (fun i _ _ _ wr => ∃ j : Nat, j ≤ n ∧ i = .int .i64 j ∧ Hid (Inv wr w.heap.size w.heap.size j) ∧ Hid (Below w.heap.size w wr)) (fun i _ _ _ _ => n - (intOf i).toNat)
    case atStart => exact ⟨0, Nat.zero_le _, rfl, HI0, alloc_below _ _⟩
    case round =>
      obtain ⟨j, hj, rfl, hI, hB⟩ := hrel
      obtain ⟨w6, hw6⟩ : ∃ w6, w6 = wr := ⟨_, rfl⟩
      subst hw6
      by_cases hlt : j < n
      · have hjn : (j : Int) < (n : Int) := by omega
        obtain ⟨o0, o1, o2, o3, o4⟩ := HSC.out.below hB.out hb j hlt
        have HOP := hide (HO.out j hlt)
        have HSZ := hide (HR.out.2 j hlt)
        generalize O j = o at *
        obtain ⟨k, a, b, c, s⟩ := o
        simp only at o0 o1 o2 o3 o4
        have HC0 := hide o0
        have HC1 := hide (And.intro o1 (And.intro o2 (And.intro o3 o4)))
        clear o0 o1 o2 o3 o4
        have HK0 : Hid (inB k 0 = true) := rfl
        go_wp2
        go_loopw [8, 9] (fun vi vt wx => ∃ (t nd : Nat), t ≤ 5 ∧ vt = .int .i64 t ∧ vi = .bool (inB k t) ∧ Hid (wx = w6.drewN nd)) (fun _ vt _ => 5 - (intOf vt).toNat)
        case atStart => exact ⟨0, 0, by omega, rfl, by rw [HK0.out], rfl⟩
        case round =>
          obtain ⟨t, nd, ht, rfl, rfl, hwx⟩ := hrel
          by_cases ht5 : t < 5
          · have htn : (t : Int) < 5 := by omega
            have HSU := hide (inB_succ k t)
            generalize hbv : inB k t = bv at *
            cases bv with
            | true =>
              have d0 : wr.cell? ⟨blk, off + j * 5, none⟩ = some (.int .i64 k) := by rw [hwx.out]; exact HC0.out
              have d1 : wr.cell? ⟨wo, t, none⟩ = some (.int .i64 (9 + (t : Int))) := by rw [hwx.out]; exact (hB.out.cell (p := ⟨wo, t, none⟩) hwol).trans (HW5.out t ht5)
              clear hbv
              go_wp2
              go_quiet (fail)
              go_wp2
              go_roundw
              case rel => exact ⟨t + 1, nd + nq, by omega, by go_num, by rw [HSU.out]; rfl, by rw [Hid, hwx.out]; simp [World.drewN, Nat.add_assoc]⟩
              case measure => simp [intOf]; omega
            | false =>
              clear hbv
              go_wp2
              go_quiet (fail)
              go_wp2
              go_roundw
              case rel => exact ⟨t + 1, nd + nq, by omega, by go_num, by rw [HSU.out]; rfl, by rw [Hid, hwx.out]; simp [World.drewN, Nat.add_assoc]⟩
              case measure => simp [intOf]; omega
          · have ht' : t = 5 := by omega
            subst ht'
            have HIx : Hid (Inv wr w.heap.size w.heap.size j) := by rw [hwx.out]; exact (hI.out.below (below_drewN (Below.refl _ _) nd)).1
            have HBx : Hid (Below w.heap.size w wr) := by rw [hwx.out]; exact below_drewN hB.out nd
            generalize hbv : inB k 5 = bv at *
            cases bv with
            | false =>
              clear hbv
              go_wp2
              go_roundw
              case rel => exact ⟨j + 1, by omega, by go_num, HIx.out.more (by omega), HBx⟩
              case measure => simp [intOf]; omega
            | true =>
              have HOK : Hid (OpOk k a b s) := by
                obtain ⟨h9, h10, h11, h12, h13⟩ := inB_5 hbv
                exact ⟨h9, h10, h11, h12, h13, HOP.out.1, HOP.out.2, by have := HSZ.out; show s.size ≤ _; have e : ({ k := k, a := a, b := b, c := c, s := s } : OpD).s.size = s.size := rfl; omega⟩
              have d0 : wr.cell? ⟨blk, off + j * 5, none⟩ = some (.int .i64 k) := by rw [hwx.out]; exact HC0.out
              have d1 : wr.cell? ⟨blk, off + j * 5 + 1, none⟩ = some (.int .i64 a) := by rw [hwx.out]; exact HC1.out.1
              have d2 : wr.cell? ⟨blk, off + j * 5 + 2, none⟩ = some (.int .i64 b) := by rw [hwx.out]; exact HC1.out.2.1
              have d3 : wr.cell? ⟨blk, off + j * 5 + 3, none⟩ = some (.int .i64 c) := by rw [hwx.out]; exact HC1.out.2.2.1
              have d4 : wr.cell? ⟨blk, off + j * 5 + 4, none⟩ = some (.string s) := by rw [hwx.out]; exact HC1.out.2.2.2
              clear hbv
              go_wp2_with fail
              refine (law_step w.heap.size w.heap.size j k a b c s wr HIx.out (by omega) HOK.out).mono ?_
              rintro e w7 ⟨rfl, hI7, hB7⟩
              have HI7 := hide hI7
              have HB7 := hide (HBx.out.trans hB7)
              clear hI7 hB7 d0 d1 d2 d3 d4
              go_wp2_with fail
              refine (inv_looks HI7.out (by omega)).mono ?_
              rintro e w8 ⟨rfl, hw8⟩
              have hw8 := hw8.symm
              subst hw8
              go_wp2
              go_roundw
              case rel => exact ⟨j + 1, by omega, by go_num, HI7, HB7⟩
              case measure => simp [intOf]; omega
      · go_wp2
        go_ret
        exact ⟨rfl, hB.out⟩
end Go.Proofs.YtiabdbeejkadnaaGreatDoor

/- The law Queues, walked. Own work of the verifier. -/
namespace Go.Proofs.YtiabdbeejkadnaaGreatDoor
open Go.RowKit Go.Maps

set_option maxHeartbeats 1000000 in
set_option maxRecDepth 1000000 in
theorem plays_nil (ao : Option Addr) (cap : Nat) (wv : Value) (w : World) :
    Calls Tryz.prog 11 #[.slice ao 0 cap, wv] w fun e w' => e = .returned (.bool true) ∧ Below w.heap.size w w' := by
  go_enter Tryz.func11, Tryz.ntmps11
  go_wp2_with fail
  refine (small_nil ao cap w).mono ?_
  rintro e w1 ⟨rfl, hw1⟩
  have hw1 := hw1.symm
  subst hw1
  go_wp2
  refine wp_loop_rounds 1 ?_
  rw [rounds_succ]
  go_wp2
  go_ret
  exact ⟨rfl, alloc_below _ _⟩

set_option maxHeartbeats 1000000 in
set_option maxRecDepth 1000000 in
theorem queues_nil (ao : Option Addr) (cap : Nat) (w : World) :
    Calls Tryz.prog 3 #[.slice ao 0 cap] w fun e w' => e = .returned (.bool true) ∧ Below w.heap.size w w' := by
  go_enter Tryz.func3, Tryz.ntmps3
  go_wp2_with fail
  refine (plays_nil ao cap _ _).mono ?_
  rintro e w1 ⟨rfl, hb⟩
  have HB := hide hb
  clear hb
  go_wp2
  go_ret
  exact ⟨rfl, (alloc_below _ _).trans (HB.out.mono (by simp))⟩

set_option maxHeartbeats 1000000 in
set_option maxRecDepth 1000000 in
theorem queues_some (blk off n cap : Nat) (O : Nat → OpD) (w : World) (h : Script w blk off n O) (hs : ∀ i, i < n → (O i).s.size ≤ 2 ^ 48) (hn : n ≤ 2 ^ 48) (hO : ∀ i, i < n → (-9223372036854775808 ≤ (O i).a ∧ (O i).a ≤ 9223372036854775807) ∧ (Lit.int .i64 (O i).b).wf = true)
    (hg : GCell w) (hb : blk < w.heap.size) :
    Calls Tryz.prog 3 #[.slice (some ⟨blk, off, none⟩) n cap] w fun e w' => e = .returned (.bool true) ∧ Below w.heap.size w w' := by
  have HC := hide (plays_some blk off n cap w.heap.size O (w.alloc (.cells #[.int .i64 9, .int .i64 10, .int .i64 11, .int .i64 12, .int .i64 13] 3)) (h.below (alloc_below _ _) hb) hs hn hO (hg.below (alloc_below _ _)) (by simp; omega) (heap_alloc_new w _))
  clear h hs hO hg
  go_enter Tryz.func3, Tryz.ntmps3
  go_wp2_with fail
  refine HC.out.mono ?_
  rintro e w1 ⟨rfl, hb⟩
  have HB := hide hb
  clear hb
  go_wp2
  go_ret
  exact ⟨rfl, (alloc_below _ _).trans (HB.out.mono (by simp))⟩
end Go.Proofs.YtiabdbeejkadnaaGreatDoor

/- The law Queues: the script opened. Own work of the verifier. -/
namespace Go.Proofs.YtiabdbeejkadnaaGreatDoor
open Go.ChangeShapes Go.WideShapes Go.RowKit Go.Deep

theorem ce33 : Tryz.prog.cellsOf 52 = 5 := by kernel_rfl
theorem ci : Tryz.prog.cellsOf 3 = 1 := by kernel_rfl
theorem cst : Tryz.prog.cellsOf 9 = 1 := by kernel_rfl
def opDatum {H : Type} (o : OpD) : DataW H := .agg [.lit (.int .i64 o.k), .lit (.int .i64 o.a), .lit (.int .i64 o.b), .lit (.int .i64 o.c), .lit (.string o.s.data.toList)]
/-- one step, from its five cells -/
theorem open_five {H : Type} {enc : TypeId × Value → H} {P : Program} {W : World} {base : Nat} {sp : Nat → Bool} {held : Bool} {n : Nat} {e : TypeId} {f0 f1 f2 f3 f4 : Field} {cs : List Value} {x : DataW H × List MemPlace} (he : P.underlying e = some (.struct #[f0, f1, f2, f3, f4]))
    (o0 : f0.offset = 0) (o1 : f1.offset = 1) (o2 : f2.offset = 2) (o3 : f3.offset = 3) (o4 : f4.offset = 4) (c0 : P.cellsOf f0.type = 1) (c1 : P.cellsOf f1.type = 1) (c2 : P.cellsOf f2.type = 1) (c3 : P.cellsOf f3.type = 1) (c4 : P.cellsOf f4.type = 1)
    (u0 : P.underlying f0.type = some (.int .i64)) (u1 : P.underlying f1.type = some (.int .i64)) (u2 : P.underlying f2.type = some (.int .i64)) (u3 : P.underlying f3.type = some (.int .i64)) (u4 : P.underlying f4.type = some .string)
    (h : DataW.trod enc P W base sp held n e cs = some x) (hlen : cs.length = 5) :
    ∃ o : OpD, cs = [.int .i64 o.k, .int .i64 o.a, .int .i64 o.b, .int .i64 o.c, .string o.s] ∧ (Lit.int .i64 o.a).wf = true ∧ (Lit.int .i64 o.b).wf = true ∧ x.1 = opDatum o := by
  obtain ⟨xs, k, hk, hxy, _, hxl, hf⟩ := DataW.trod_struct he h
  match xs, hxl, cs, hlen with
  | [y0, y1, y2, y3, y4], _, [v0, v1, v2, v3, v4], _ =>
    have g0 := hf 0 f0 rfl
    have g1 := hf 1 f1 rfl
    have g2 := hf 2 f2 rfl
    have g3 := hf 3 f3 rfl
    have g4 := hf 4 f4 rfl
    simp [o0, o1, o2, o3, o4, c0, c1, c2, c3, c4] at g0 g1 g2 g3 g4
    obtain ⟨n0, e0, rfl, w0⟩ := DataW.trod_int u0 g0
    obtain ⟨n1, e1, rfl, w1⟩ := DataW.trod_int u1 g1
    obtain ⟨n2, e2, rfl, w2⟩ := DataW.trod_int u2 g2
    obtain ⟨n3, e3, rfl, w3⟩ := DataW.trod_int u3 g3
    obtain ⟨s, e4, rfl, w4⟩ := DataW.trod_string u4 g4
    simp only [List.cons.injEq, and_true] at e0 e1 e2 e3 e4
    subst e0 e1 e2 e3 e4
    exact ⟨⟨n0, n1, n2, n3, s⟩, rfl, w1, w2, by rw [hxy]; simp [opDatum]⟩
theorem open_script {H : Type} {enc : TypeId × Value → H} {W : World} {base : Nat} {sp : Nat → Bool} {held : Bool} {fuel : Nat} {cs : List Value} {x : DataW H × List MemPlace} (h : DataW.trod enc Tryz.prog W base sp held fuel 22 cs = some x) :
    (cs = [.slice none 0 0] ∧ x = (.nil, [])) ∨
    ∃ (a : Addr) (len cap : Nat) (O : Nat → OpD) (rest : List (DataW H)), cs = [.slice (some a) len cap] ∧ x.1 = .slice ((List.range len).map fun i => opDatum (O i)) rest ∧
      ∀ i, i < len → (W.cell? (a.add (i * 5)) = some (.int .i64 (O i).k) ∧ W.cell? (a.add (i * 5 + 1)) = some (.int .i64 (O i).a) ∧ W.cell? (a.add (i * 5 + 2)) = some (.int .i64 (O i).b) ∧ W.cell? (a.add (i * 5 + 3)) = some (.int .i64 (O i).c) ∧ W.cell? (a.add (i * 5 + 4)) = some (.string (O i).s)) ∧
        (Lit.int .i64 (O i).a).wf = true ∧ (Lit.int .i64 (O i).b).wf = true := by
  rcases open_slice Tryz.underlying22 h with h0 | ⟨a, len, cap, m, n, D, Pl, rfl, hb, hl, hm, hmm, rfl, hx⟩
  · exact Or.inl h0
  right
  have hlm : len ≤ m := by rw [hmm]; split <;> omega
  have each : ∀ i, i < len → ∃ o : OpD, (W.cell? (a.add (i * 5)) = some (.int .i64 o.k) ∧ W.cell? (a.add (i * 5 + 1)) = some (.int .i64 o.a) ∧ W.cell? (a.add (i * 5 + 2)) = some (.int .i64 o.b) ∧ W.cell? (a.add (i * 5 + 3)) = some (.int .i64 o.c) ∧ W.cell? (a.add (i * 5 + 4)) = some (.string o.s)) ∧
      (Lit.int .i64 o.a).wf = true ∧ (Lit.int .i64 o.b).wf = true ∧ D i = opDatum o := by
    intro i hi
    obtain ⟨cs', h1, h2⟩ := hx i (by omega)
    rw [ce33] at h1
    obtain ⟨_, hlen, hcell⟩ := World.cells?_some h1
    obtain ⟨o, rfl, wa, wb, hd⟩ := open_five Tryz.underlying52 rfl rfl rfl rfl rfl ci ci ci ci cst Tryz.underlying3 Tryz.underlying3 Tryz.underlying3 Tryz.underlying3 Tryz.underlying9 h2 hlen
    have c0 := hcell 0 (by omega)
    have c1 := hcell 1 (by omega)
    have c2 := hcell 2 (by omega)
    have c3 := hcell 3 (by omega)
    have c4 := hcell 4 (by omega)
    rw [add_add] at c0 c1 c2 c3 c4
    exact ⟨o, ⟨c0, c1, c2, c3, c4⟩, wa, wb, hd⟩
  have hinh : Inhabited OpD := ⟨⟨0, 0, 0, 0, ⟨#[]⟩⟩⟩
  obtain ⟨O, hO⟩ := choose_lt each
  refine ⟨a, len, cap, O, (List.range (m - len)).map (fun j => D (len + j)), rfl, ?_, fun i hi => ⟨(hO i hi).1, (hO i hi).2.1, (hO i hi).2.2.1⟩⟩
  show DataW.slice ((List.range len).map D) _ = _
  rw [List.map_congr_left (fun i hi => (hO i (List.mem_range.1 hi)).2.2.2)]

theorem weightsAll_in {H : Type} {P : Program} {e : TypeId} : ∀ {l : List (DataW H)} {d : DataW H}, d ∈ l → ∀ n ∈ d.weights P e, n ∈ DataW.weightsAll P e l
  | d' :: r, d, hd, n, hn => by
    simp only [DataW.weightsAll, List.mem_append]
    rcases List.mem_cons.1 hd with rfl | h
    · exact Or.inl hn
    · exact Or.inr (weightsAll_in h n hn)
/-- how far the form's reach goes: the steps, and each step's text -/
theorem script_sized {H : Type} {ts : List TypeId} {ds : List (DataW H)} {len : Nat} {O : Nat → OpD} {rest : List (DataW H)} (h : (DataW.weightsEach Tryz.prog ts ds).all (· ≤ reachBytes) = true) (ht : ts[0]? = some 22) (hd : ds[0]? = some (.slice ((List.range len).map fun i => opDatum (O i)) rest)) :
    len ≤ 2 ^ 48 ∧ ∀ i, i < len → (O i).s.size ≤ 2 ^ 48 := by
  have hr : reachBytes ≤ 2 ^ 47 := Nat.le_of_lt reachBytes_lt
  refine ⟨?_, fun i hi => ?_⟩
  · have h1 := sized_slice h ht hd Tryz.underlying22
    have hb : Tryz.prog.bytesOf 52 = 48 := by kernel_rfl
    rw [hb, List.length_map, List.length_range] at h1
    omega
  · have h1 : (O i).s.data.toList.length ≤ reachBytes := by
      refine of_decide_eq_true (List.all_eq_true.1 h _ (DataW.weights_mem_each ht hd _ ?_))
      simp only [DataW.weights, Tryz.underlying22, List.mem_cons, List.mem_append]
      refine Or.inr (Or.inl (weightsAll_in (List.mem_map.2 ⟨i, List.mem_range.2 hi, rfl⟩) _ ?_))
      simp [opDatum, DataW.weights, DataW.weightsEach, Tryz.underlying52]
    rw [blen] at h1
    omega
end Go.Proofs.YtiabdbeejkadnaaGreatDoor

/- The law: plays, whatever kinds are left out. Own work of the verifier. -/
namespace Go.Proofs.YtiabdbeejkadnaaGreatDoor
open Go.RowKit Go.Maps

/-- is a step of this kind played, as far as the first t kinds that are left out say? -/
def inL (ks : List Int) (k : Int) (t : Nat) : Bool := (ks.take t).all fun u => k != u
theorem inL_succ {ks : List Int} {k : Int} {t : Nat} (h : t < ks.length) : inL ks k (t + 1) = (inL ks k t && (k != ks[t])) := by
  unfold inL; rw [List.take_succ_eq_append_getElem h, List.all_append]; simp
theorem inL_all {ks : List Int} {k : Int} (h : inL ks k ks.length = true) : ∀ u ∈ ks, k ≠ u := by
  unfold inL at h; rw [List.take_length, List.all_eq_true] at h
  intro u hu; simpa using h u hu
/-- the law's step keeps what is always so, at the kinds that are played -/
def StepOk (ks : List Int) : Prop := ∀ (B j : Nat) (k a b c : Int) (s : ByteArray) (wr : World), Inv wr B B j → j ≤ 100000 → (∀ u ∈ ks, k ≠ u) → (-9223372036854775808 ≤ a ∧ a ≤ 9223372036854775807) → (Lit.int .i64 b).wf = true → s.size ≤ 1000000 →
  Calls Tryz.prog 21 #[.pointer (some ⟨B, 0, none⟩), opV k a b c s] wr fun e w' => Steps wr B B j e w'
set_option maxHeartbeats 1000000 in
set_option maxRecDepth 1000000 in
theorem plays_gen (ks : List Int) (hks : StepOk ks) (ao : Option Addr) (blk off n cap cw : Nat) (O : Nat → OpD) (w : World) (h : Script w blk off n O) (hs : ∀ i, i < n → (O i).s.size ≤ 2 ^ 48) (hn : n ≤ 2 ^ 48) (hO : ∀ i, i < n → (-9223372036854775808 ≤ (O i).a ∧ (O i).a ≤ 9223372036854775807) ∧ (Lit.int .i64 (O i).b).wf = true)
    (hg : GCell w) (hb : blk < w.heap.size) (hk5 : ks.length ≤ 5) (hwo : ∀ t, (ht : t < ks.length) → ∃ wo, ao = some ⟨wo, 0, none⟩ ∧ wo < w.heap.size ∧ w.cell? ⟨wo, t, none⟩ = some (.int .i64 ks[t])) :
    Calls Tryz.prog 11 #[.slice (some ⟨blk, off, none⟩) n cap, .slice ao ks.length cw] w fun e w' => e = .returned (.bool true) ∧ Below w.heap.size w w' := by
  have HSC := hide h
  have HO := hide hO
  have HG := hide hg
  have HWO := hide hwo
  have HKS := hide hks
  have HSM := hide (small_some blk off n cap O w h hs hn)
  clear h hs hO hg hwo hks
  go_enter Tryz.func11, Tryz.ntmps11
  go_wp2_with fail
  refine HSM.out.mono ?_
  rintro e w1 ⟨r, rfl, hw1, hr⟩
  have hw1 := hw1.symm
  subst hw1
  cases r with
  | false =>
    go_wp2
    go_ret
    exact ⟨rfl, Below.refl _ _⟩
  | true =>
    have HR := hide (hr rfl)
    have hnn : n ≤ 65536 := (hr rfl).1
    clear hr
    have HI0 := hide (inv_start HG.out (Nat.lt_of_le_of_lt (Nat.zero_le _) hb))
    go_wp2
    go_loopw [7, 8, 9, 10] (fun i _ _ _ wr => ∃ j : Nat, j ≤ n ∧ i = .int .i64 j ∧ Hid (Inv wr w.heap.size w.heap.size j) ∧ Hid (Below w.heap.size w wr)) (fun i _ _ _ _ => n - (intOf i).toNat)
    case atStart => exact ⟨0, Nat.zero_le _, rfl, HI0, alloc_below _ _⟩
    case round =>
      obtain ⟨j, hj, rfl, hI, hB⟩ := hrel
      obtain ⟨w6, hw6⟩ : ∃ w6, w6 = wr := ⟨_, rfl⟩
      subst hw6
      by_cases hlt : j < n
      · have hjn : (j : Int) < (n : Int) := by omega
        obtain ⟨o0, o1, o2, o3, o4⟩ := HSC.out.below hB.out hb j hlt
        have HOP := hide (HO.out j hlt)
        have HSZ := hide (HR.out.2 j hlt)
        generalize O j = o at *
        obtain ⟨k, a, b, c, s⟩ := o
        simp only at o0 o1 o2 o3 o4
        have HC0 := hide o0
        have HC1 := hide (And.intro o1 (And.intro o2 (And.intro o3 o4)))
        clear o0 o1 o2 o3 o4
        have HK0 : Hid (inL ks k 0 = true) := by simp [Hid, inL]
        go_wp2
        go_loopw [8, 9] (fun vi vt wx => ∃ (t nd : Nat), t ≤ ks.length ∧ vt = .int .i64 t ∧ vi = .bool (inL ks k t) ∧ Hid (wx = w6.drewN nd)) (fun _ vt _ => ks.length - (intOf vt).toNat)
        case atStart => exact ⟨0, 0, by omega, rfl, by rw [HK0.out], rfl⟩
        case round =>
          obtain ⟨t, nd, ht, rfl, rfl, hwx⟩ := hrel
          by_cases ht5 : t < ks.length
          · have htn : (t : Int) < (ks.length : Int) := by omega
            have HSU := hide (inL_succ (k := k) ht5)
            obtain ⟨wo, hao, hwol, hcw⟩ := HWO.out t ht5
            subst hao
            generalize ks[t] = kt at *
            generalize hbv : inL ks k t = bv at *
            cases bv with
            | true =>
              have d0 : wr.cell? ⟨blk, off + j * 5, none⟩ = some (.int .i64 k) := by rw [hwx.out]; exact HC0.out
              have d1 : wr.cell? ⟨wo, t, none⟩ = some (.int .i64 kt) := by rw [hwx.out]; exact (hB.out.cell (p := ⟨wo, t, none⟩) hwol).trans hcw
              clear hbv hcw
              go_wp2
              go_quiet (fail)
              go_wp2
              go_roundw
              case rel => exact ⟨t + 1, nd + nq, by omega, by go_num, by rw [HSU.out]; rfl, by rw [Hid, hwx.out]; simp [World.drewN, Nat.add_assoc]⟩
              case measure => simp [intOf]; omega
            | false =>
              clear hbv hcw
              go_wp2
              go_quiet (fail)
              go_wp2
              go_roundw
              case rel => exact ⟨t + 1, nd + nq, by omega, by go_num, by rw [HSU.out]; rfl, by rw [Hid, hwx.out]; simp [World.drewN, Nat.add_assoc]⟩
              case measure => simp [intOf]; omega
          · have ht' : t = ks.length := by omega
            subst ht'
            have HIx : Hid (Inv wr w.heap.size w.heap.size j) := by rw [hwx.out]; exact (hI.out.below (below_drewN (Below.refl _ _) nd)).1
            have HBx : Hid (Below w.heap.size w wr) := by rw [hwx.out]; exact below_drewN hB.out nd
            generalize hbv : inL ks k ks.length = bv at *
            cases bv with
            | false =>
              clear hbv
              go_wp2
              go_roundw
              case rel => exact ⟨j + 1, by omega, by go_num, HIx.out.more (by omega), HBx⟩
              case measure => simp [intOf]; omega
            | true =>
              have HOK := hide (HKS.out w.heap.size j k a b c s wr HIx.out (by omega) (inL_all hbv) HOP.out.1 HOP.out.2 (by have := HSZ.out; show s.size ≤ _; have e : ({ k := k, a := a, b := b, c := c, s := s } : OpD).s.size = s.size := rfl; omega))
              unfold opV at HOK
              have d0 : wr.cell? ⟨blk, off + j * 5, none⟩ = some (.int .i64 k) := by rw [hwx.out]; exact HC0.out
              have d1 : wr.cell? ⟨blk, off + j * 5 + 1, none⟩ = some (.int .i64 a) := by rw [hwx.out]; exact HC1.out.1
              have d2 : wr.cell? ⟨blk, off + j * 5 + 2, none⟩ = some (.int .i64 b) := by rw [hwx.out]; exact HC1.out.2.1
              have d3 : wr.cell? ⟨blk, off + j * 5 + 3, none⟩ = some (.int .i64 c) := by rw [hwx.out]; exact HC1.out.2.2.1
              have d4 : wr.cell? ⟨blk, off + j * 5 + 4, none⟩ = some (.string s) := by rw [hwx.out]; exact HC1.out.2.2.2
              clear hbv
              go_wp2_with fail
              refine HOK.out.mono ?_
              rintro e w7 ⟨rfl, hI7, hB7⟩
              have HI7 := hide hI7
              have HB7 := hide (HBx.out.trans hB7)
              clear hI7 hB7 d0 d1 d2 d3 d4
              go_wp2_with fail
              refine (inv_looks HI7.out (by omega)).mono ?_
              rintro e w8 ⟨rfl, hw8⟩
              have hw8 := hw8.symm
              subst hw8
              go_wp2
              go_roundw
              case rel => exact ⟨j + 1, by omega, by go_num, HI7, HB7⟩
              case measure => simp [intOf]; omega
      · go_wp2
        go_ret
        exact ⟨rfl, hB.out⟩
end Go.Proofs.YtiabdbeejkadnaaGreatDoor

/- The law: command. Own work of the verifier. -/
namespace Go.Proofs.YtiabdbeejkadnaaGreatDoor
open Go.RowKit Go.Maps

def cmdV (b : Bool) (p c : Int) (ao : Option Addr) (n cap : Nat) : Value := .agg #[.bool b, .int .i64 p, .int .i64 c, .slice ao n cap]
set_option maxHeartbeats 2000000 in
set_option maxRecDepth 1000000 in
/-- 'command' of two that are the same: true; the first one's row is the caller's -/
theorem law_command {FW P Q : Nat → Prop} {wb : Nat} {qs : List (Nat × Nat)} {bs is : List (Option Addr × Nat)} {T : List Int} {cw : Bool} {cp cc : Int} {ao ao2 : Option Addr} {n cap cap2 : Nat} {w : World} (h : WAt w FW wb qs bs is) (hrow : Row w P 3 1 ao n cap (encI T)) (hrow2 : Row w Q 3 1 ao2 n cap2 (encI T)) (hn : n = T.length) (hn1 : n ≤ 1000000) (hF : ∀ k, FW k → ¬ P k) (hl : is.length ≤ 1000000) (hc : ∀ x ∈ is, x.2 ≤ maxLen) :
    Calls Tryz.prog 70 #[.pointer (some ⟨wb, 0, none⟩), cmdV cw cp cc ao n cap, cmdV cw cp cc ao2 n cap2] w fun e w' => e = .returned (.bool true) ∧ ∃ w3 FW' G is', Below w.heap.size w w3 ∧ WAt w' FW' wb qs bs is' ∧ Kept G w3 w' ∧ (∀ k, G k → FW k ∨ P k) ∧ (∀ k, FW' k → FW k ∨ P k ∨ w.heap.size ≤ k) ∧ is'.length = is.length + 1 ∧ ∀ x ∈ is', x.2 ≤ maxLen := by
  unfold cmdV
  have HWA := hide h
  have HR := hide hrow
  have HR2 := hide hrow2
  have HN := hide hn
  have hF' := hide hF
  have HC := hide hc
  clear h hrow hrow2 hn hF hc
  go_enter Tryz.func70, Tryz.ntmps70
  go_wp2_with fail
  have HB0 : Hid (Below w.heap.size w ((w.alloc (.cells #[.bool cw, .int .i64 cp, .int .i64 cc, .slice ao n cap] 44)).alloc (.cells #[.bool cw, .int .i64 cp, .int .i64 cc, .slice ao2 n cap2] 44))) := (alloc_below _ _).trans ((alloc_below _ _).mono (by simp))
  have HA0 : Hid (((w.alloc (.cells #[.bool cw, .int .i64 cp, .int .i64 cc, .slice ao n cap] 44)).alloc (.cells #[.bool cw, .int .i64 cp, .int .i64 cc, .slice ao2 n cap2] 44)).heap[w.heap.size]? = some (.cells #[.bool cw, .int .i64 cp, .int .i64 cc, .slice ao n cap] 44 (0, 0))) := (Below.heap_alloc _ _ _ (by simp)).trans (heap_alloc_new w _)
  have HB2 : Hid (((w.alloc (.cells #[.bool cw, .int .i64 cp, .int .i64 cc, .slice ao n cap] 44)).alloc (.cells #[.bool cw, .int .i64 cp, .int .i64 cc, .slice ao2 n cap2] 44)).heap[w.heap.size + 1]? = some (.cells #[.bool cw, .int .i64 cp, .int .i64 cc, .slice ao2 n cap2] 44 (0, 0))) := by
    have := heap_alloc_new (w.alloc (.cells #[.bool cw, .int .i64 cp, .int .i64 cc, .slice ao n cap] 44)) (.cells #[.bool cw, .int .i64 cp, .int .i64 cc, .slice ao2 n cap2] 44)
    simp only [World.size_alloc] at this
    exact this
  have HRa := hide ((HR.out.alloc (.cells #[.bool cw, .int .i64 cp, .int .i64 cc, .slice ao n cap] 44)).alloc (.cells #[.bool cw, .int .i64 cp, .int .i64 cc, .slice ao2 n cap2] 44))
  have HRb := hide ((HR2.out.alloc (.cells #[.bool cw, .int .i64 cp, .int .i64 cc, .slice ao n cap] 44)).alloc (.cells #[.bool cw, .int .i64 cp, .int .i64 cc, .slice ao2 n cap2] 44))
  generalize (w.alloc (.cells #[.bool cw, .int .i64 cp, .int .i64 cc, .slice ao n cap] 44)).alloc (.cells #[.bool cw, .int .i64 cp, .int .i64 cc, .slice ao2 n cap2] 44) = W0 at HB0 HA0 HB2 HRa HRb ⊢
  refine (law_same T P Q ao ao2 n cap cap2 W0 HRa.out HRb.out HN.out hn1).mono ?_
  rintro e w1 ⟨rfl, nd, hw1⟩
  have HB1 : Hid (Below w.heap.size w w1) := by rw [hw1]; exact below_drewN HB0.out nd
  have HR1 : Hid (Row w1 P 3 1 ao n cap (encI T)) := by rw [hw1]; exact HRa.out.same (w' := W0.drewN nd) (fun _ _ => rfl)
  have ha1 : w1.heap[w.heap.size]? = some (.cells #[.bool cw, .int .i64 cp, .int .i64 cc, .slice ao n cap] 44 (0, 0)) := by rw [hw1]; exact HA0.out
  have hb1 : w1.heap[w.heap.size + 1]? = some (.cells #[.bool cw, .int .i64 cp, .int .i64 cc, .slice ao2 n cap2] 44 (0, 0)) := by rw [hw1]; exact HB2.out
  obtain ⟨⟨a0, a1, a2, a3⟩, _⟩ := cells4 ha1
  obtain ⟨⟨b0, b1, b2, b3⟩, _⟩ := cells4 hb1
  clear ha1 hb1 hw1 HB0 HA0 HB2 HRa HRb
  have e1 : (cp != cp) = false := by simp
  have e2 : (cc != cc) = false := by simp
  have e3 : (cw != cw) = false := by simp
  go_wp2_with (first | (go_at_call 74; refine (law_owned_rowP (HWA.out.same (fun k _ hk => HB1.out.block k hk) HB1.out.size) HR1.out hF'.out hl HC.out).mono ?_; rintro e w4 ⟨rfl, hX⟩; have HX := hide hX; clear hX))
  go_ret
  obtain ⟨FW', G, is', h1, h2, h3, h4, h5, h6⟩ := HX.out
  have hz := HB1.out.size
  exact ⟨rfl, w1, FW', G, is', HB1.out, h1, h2, h3, fun k hk => (h4 k hk).elim Or.inl (fun e => e.elim (fun e => Or.inr (Or.inl e)) (fun e => Or.inr (Or.inr (by omega)))), h5, h6⟩
end Go.Proofs.YtiabdbeejkadnaaGreatDoor

/- The reference queue: at, ready. Own work of the verifier. -/
namespace Go.Proofs.YtiabdbeejkadnaaGreatDoor
open Go.RowKit

theorem ref_at (S : St) (F : Nat → Prop) (mb : Nat) (num : Int) (w : World) (h : RefAt w F mb S) (hr : S.reqs.length ≤ 1000000) :
    Calls Tryz.prog 110 #[.pointer (some ⟨mb, 0, none⟩), .int .i64 num] w fun e w' => e = .returned (.int .i64 (intOr (findR S.reqs num))) ∧ w' = w := by
  obtain ⟨G, ar, cr, at_, ct, af, cf, ad, cd, h⟩ := h
  have c1 := h.c1
  have HH : Hid (Row w F 175 10 ar S.reqs.length cr (S.reqs.flatMap encR)) := h.reqs
  clear h
  generalize hT : S.reqs = R at *
  clear hT
  go_enter Tryz.func110, Tryz.ntmps110
  go_wp2
  go_loop [5] (fun i => ∃ k : Nat, k ≤ R.length ∧ i = .int .i64 k ∧ Hid (findR (R.take k) num = none)) (fun i => R.length - (intOf i).toNat)
  case atStart => exact ⟨0, Nat.zero_le _, rfl, rfl⟩
  case round =>
    obtain ⟨k, hk, rfl, hc⟩ := hrel
    by_cases hlt : k < R.length
    · obtain ⟨g, cur, hg, _, _, _, _⟩ := Row.some HH.out (by omega)
      obtain ⟨x, hx⟩ : ∃ x, x = (R.getD k Rq.zero).num := ⟨_, rfl⟩
      have c1' : w.cell? ⟨mb, 1, none⟩ = some (.slice (some ⟨g, 0, none⟩) R.length cr) := hg ▸ c1
      have ck : w.cell? ⟨g, k * 10, none⟩ = some (.int .i64 x) := by
        have := Row.cellAt (hg ▸ HH.out) (k * 10) (by omega)
        have e := encRs_at R k 0 hlt (by omega)
        rw [Nat.add_zero] at e
        rw [this, hx, e]; rfl
      clear c1
      by_cases he : x = num
      · have e1 : (x == num) = true := beq_iff_eq.2 he
        have hfin : Hid (intOr (findR R num) = (k : Int)) := by rw [Hid, findR_hit hlt hc.out (by rw [← hx]; exact he)]; rfl
        clear he hx
        go_wp2
        go_ret
        exact ⟨by rw [hfin.out]; rfl, rfl⟩
      · have e1 : (x == num) = false := beq_eq_false_iff_ne.2 he
        have hnx : Hid (findR (R.take (k + 1)) num = none) := findR_next hlt hc.out (by rw [← hx]; exact he)
        clear he hx
        go_wp2
        go_round
        case rel => exact ⟨k + 1, by omega, by go_num, hnx⟩
        case measure => simp [intOf]; omega
    · have hfin : Hid (intOr (findR R num) = -1) := by rw [Hid, findR_all (by omega) hc.out]; rfl
      go_wp2
      go_ret
      exact ⟨by rw [hfin.out]; rfl, rfl⟩

/-- ready, by the place of a request -/
def readyK (S : St) (k : Nat) : Bool := (S.reqs.getD k Rq.zero).state == 0 && decide ((S.reqs.getD k Rq.zero).after ≤ S.now) && !((S.reqs.take k).any (blocksB (S.reqs.getD k Rq.zero)))
theorem any_take {R : List Rq} {p : Rq → Bool} {k : Nat} (h : k < R.length) : (R.take (k + 1)).any p = ((R.take k).any p || p (R.getD k Rq.zero)) := by
  have e : R.getD k Rq.zero = R[k] := by rw [List.getD_eq_getElem?_getD, List.getElem?_eq_getElem h]; rfl
  rw [List.take_succ_eq_append_getElem h, List.any_append, e]; simp
set_option maxHeartbeats 2000000 in
set_option maxRecDepth 1000000 in
theorem ref_ready (S : St) (F : Nat → Prop) (mb : Nat) (k : Nat) (w : World) (h : RefAt w F mb S) (hr : S.reqs.length ≤ 1000000) (hk : k < S.reqs.length) :
    Calls Tryz.prog 146 #[.pointer (some ⟨mb, 0, none⟩), .int .i64 k] w fun e w' => e = .returned (.bool (readyK S k)) ∧ Below w.heap.size w w' := by
  obtain ⟨G, ar, cr, at_, ct, af, cf, ad, cd, h⟩ := h
  obtain ⟨g0, cur, hg0, _, _, _, _⟩ := Row.some h.reqs (by omega)
  subst hg0
  have c1 := h.c1
  have c4 := h.c4
  have hlt := h.lt
  have hgl : g0 < w.heap.size := by obtain ⟨c, hc, _⟩ := h.reqs.block rfl; exact lt_of_heap hc
  unfold readyK
  obtain ⟨r, hr'⟩ : ∃ r, r = S.reqs.getD k Rq.zero := ⟨_, rfl⟩
  rw [← hr']
  have hq : ∀ t, t < 10 → w.cell? ⟨g0, k * 10 + t, none⟩ = (encR r)[t]? := by
    intro t ht
    rw [hr', ← Row.req h.reqs rfl k t hk ht]
  have q0 : w.cell? ⟨g0, k * 10, none⟩ = some (.int .i64 r.num) := hq 0 (by omega)
  have q1 : w.cell? ⟨g0, k * 10 + 1, none⟩ = some (.bool r.write) := hq 1 (by omega)
  have q2 : w.cell? ⟨g0, k * 10 + 2, none⟩ = some (.int .i64 r.page) := hq 2 (by omega)
  have q3 : w.cell? ⟨g0, k * 10 + 3, none⟩ = some (.string r.data) := hq 3 (by omega)
  have q4 : w.cell? ⟨g0, k * 10 + 4, none⟩ = some (.int .i64 r.state) := hq 4 (by omega)
  have q5 : w.cell? ⟨g0, k * 10 + 5, none⟩ = some (.int .i64 r.tries) := hq 5 (by omega)
  have q6 : w.cell? ⟨g0, k * 10 + 6, none⟩ = some (.int .i64 r.after) := hq 6 (by omega)
  have q7 : w.cell? ⟨g0, k * 10 + 7, none⟩ = some (.bool r.alone) := hq 7 (by omega)
  have q8 : w.cell? ⟨g0, k * 10 + 8, none⟩ = some (.bool r.inAir) := hq 8 (by omega)
  have q9 : w.cell? ⟨g0, k * 10 + 9, none⟩ = some (.string r.answer) := hq 9 (by omega)
  have H : Hid (RefBlk w F G mb S (some ⟨g0, 0, none⟩) cr at_ ct af cf ad cd) := h
  clear hq h hr'
  generalize hR : S.reqs = R at *
  have hR' : Hid (S.reqs = R) := hR
  clear hR
  by_cases hs : r.state = 0
  rotate_left
  · have b0 : (r.state != 0) = true := by simpa using hs
    have hfin : Hid ((r.state == 0 && decide (r.after ≤ S.now) && !((R.take k).any (blocksB r))) = false) := by simp [Hid, hs]
    clear hs
    go_enter Tryz.func146, Tryz.ntmps146
    go_wp2
    go_quiet (fail)
    go_wp2
    go_ret
    exact ⟨by rw [hfin.out]; rfl, below_drewN (alloc_below _ _) _⟩
  have b0 : (r.state != 0) = false := by simp [hs]
  by_cases ha : r.after ≤ S.now
  rotate_left
  · have hfin : Hid ((r.state == 0 && decide (r.after ≤ S.now) && !((R.take k).any (blocksB r))) = false) := by simp [Hid, ha]
    have ha' : S.now < r.after := by omega
    clear hs ha
    go_enter Tryz.func146, Tryz.ntmps146
    go_wp2
    go_quiet (fail)
    go_wp2
    go_ret
    exact ⟨by rw [hfin.out]; rfl, below_drewN (alloc_below _ _) _⟩
  have hfin : Hid (∀ b, (R.take k).any (blocksB r) = b → (r.state == 0 && decide (r.after ≤ S.now) && !((R.take k).any (blocksB r))) = !b) := fun b e => by simp [hs, ha, e]
  have ha' : ¬ S.now < r.after := by omega
  clear hs ha
  go_enter Tryz.func146, Tryz.ntmps146
  go_wp2
  go_quiet (fail)
  have HB0 : Hid (Below w.heap.size w ((w.alloc (.cells (encR r).toArray 175)).drewN nq)) := below_drewN (alloc_below _ _) _
  have HR0 : Hid (((w.alloc (.cells (encR r).toArray 175)).drewN nq).heap[w.heap.size]? = some (.cells (encR r).toArray 175 (0, 0))) := heap_alloc_new w _
  go_wp2
  go_loopw [6] (fun i wr => ∃ j : Nat, j ≤ k ∧ i = .int .i64 j ∧ Hid ((R.take j).any (blocksB r) = false) ∧ Hid (wr.heap[w.heap.size]? = some (.cells (encR r).toArray 175 (0, 0))) ∧ Hid (Below w.heap.size w wr)) (fun i _ => k - (intOf i).toNat)
  case atStart => exact ⟨0, Nat.zero_le _, rfl, rfl, HR0.out, HB0.out⟩
  case round =>
    obtain ⟨j, hj, rfl, hany, hrb, hb⟩ := hrel
    have d1 : wr.cell? ⟨mb, 1, none⟩ = some (.slice (some ⟨g0, 0, none⟩) R.length cr) := (hb.out.cell (p := ⟨mb, 1, none⟩) hlt).trans c1
    by_cases hjk : j < k
    · have hlt2 : j < R.length := by omega
      obtain ⟨x, hx⟩ : ∃ x, x = R.getD j Rq.zero := ⟨_, rfl⟩
      have hxq : ∀ t, t < 10 → wr.cell? ⟨g0, j * 10 + t, none⟩ = (encR x)[t]? := by
        intro t ht
        rw [hb.out.cell (p := ⟨g0, j * 10 + t, none⟩) hgl, hx, ← Row.req (R := R) (by have := H.out.reqs; rw [hR'.out] at this; exact this) rfl j t hlt2 ht]
      have x0 : wr.cell? ⟨g0, j * 10, none⟩ = some (.int .i64 x.num) := hxq 0 (by omega)
      have x1 : wr.cell? ⟨g0, j * 10 + 1, none⟩ = some (.bool x.write) := hxq 1 (by omega)
      have x2 : wr.cell? ⟨g0, j * 10 + 2, none⟩ = some (.int .i64 x.page) := hxq 2 (by omega)
      have x3 : wr.cell? ⟨g0, j * 10 + 3, none⟩ = some (.string x.data) := hxq 3 (by omega)
      have x4 : wr.cell? ⟨g0, j * 10 + 4, none⟩ = some (.int .i64 x.state) := hxq 4 (by omega)
      have x5 : wr.cell? ⟨g0, j * 10 + 5, none⟩ = some (.int .i64 x.tries) := hxq 5 (by omega)
      have x6 : wr.cell? ⟨g0, j * 10 + 6, none⟩ = some (.int .i64 x.after) := hxq 6 (by omega)
      have x7 : wr.cell? ⟨g0, j * 10 + 7, none⟩ = some (.bool x.alone) := hxq 7 (by omega)
      have x8 : wr.cell? ⟨g0, j * 10 + 8, none⟩ = some (.bool x.inAir) := hxq 8 (by omega)
      have x9 : wr.cell? ⟨g0, j * 10 + 9, none⟩ = some (.string x.answer) := hxq 9 (by omega)
      have r1 : wr.cell? ⟨w.heap.size, 1, none⟩ = some (.bool r.write) := by simp [World.cell?, hrb.out, encR]
      have r2 : wr.cell? ⟨w.heap.size, 2, none⟩ = some (.int .i64 r.page) := by simp [World.cell?, hrb.out, encR]
      have hzr : w.heap.size < wr.heap.size := lt_of_heap hrb.out
      have HNX : Hid (∀ b, blocksB r x = b → (R.take (j + 1)).any (blocksB r) = b) := fun b e => by rw [any_take hlt2, hany.out, ← hx, e]; rfl
      have HTR : Hid (blocksB r x = true → (R.take k).any (blocksB r) = true) := fun e => by
        rw [List.any_eq_true]
        refine ⟨x, ?_, e⟩
        rw [hx, List.getD_eq_getElem?_getD, List.getElem?_eq_getElem hlt2]
        exact List.mem_take_iff_getElem.2 ⟨j, by omega, rfl⟩
      clear hxq hx hany
      have HBX : Hid (blocksB r x = (x.page == r.page && (x.write || r.write) && (x.state == 0 || x.inAir))) := rfl
      cases h1 : (x.page == r.page) <;> cases h2 : x.write <;> cases h3 : r.write <;> cases h4 : (x.state == 0) <;> cases h5 : x.inAir
      all_goals
        rw [h1, h2, h3, h4, h5] at HBX
        go_wp2
        first
          | go_ret
            exact ⟨by rw [hfin.out _ (HTR.out HBX.out)]; rfl, hb.out.trans ((alloc_below _ _).mono (Nat.le_of_lt hzr))⟩
          | go_roundw
            case rel => exact ⟨j + 1, by omega, by go_num, HNX.out _ HBX.out, (Below.heap_alloc wr _ _ hzr).trans hrb.out, hb.out.trans ((alloc_below _ _).mono (Nat.le_of_lt hzr))⟩
            case measure => simp [intOf]; omega
    · have hjk : j = k := by omega
      subst hjk
      have HF := hide (hfin.out _ hany.out)
      go_wp2
      go_ret
      exact ⟨by rw [HF.out]; rfl, hb.out⟩
end Go.Proofs.YtiabdbeejkadnaaGreatDoor
