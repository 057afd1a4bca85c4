import Derived.Test.YtiabdbeejkadnaaGreatDoorJea7c02b8cc
/- The reference queue: first, page, group. Own work of the verifier. -/
namespace Go.Proofs.YtiabdbeejkadnaaGreatDoor
open Go.RowKit

theorem readyK_eq {S : St} (h : S.reqs.Pairwise (fun a b => a.num < b.num)) {k : Nat} (hk : k < S.reqs.length) : readyK S k = readyB S (S.reqs.getD k Rq.zero) := by
  have e : S.reqs.getD k Rq.zero = S.reqs[k] := by rw [List.getD_eq_getElem?_getD, List.getElem?_eq_getElem hk]; rfl
  unfold readyK readyB
  rw [e]
  have ha : (S.reqs.take k).any (blocksB S.reqs[k]) = S.reqs.any fun x => decide (x.num < (S.reqs[k]).num) && blocksB S.reqs[k] x := by
    rw [Bool.eq_iff_iff, List.any_eq_true, List.any_eq_true]
    constructor
    · rintro ⟨x, hx, hb⟩
      obtain ⟨j, hj, rfl⟩ := List.mem_take_iff_getElem.1 hx
      have hj' : j < k := by omega
      refine ⟨S.reqs[j]'(by omega), List.getElem_mem _, ?_⟩
      rw [hb, Bool.and_true, decide_eq_true_eq]
      exact List.pairwise_iff_getElem.1 h j k (by omega) hk hj'
    · rintro ⟨x, hx, hb⟩
      rw [Bool.and_eq_true, decide_eq_true_eq] at hb
      obtain ⟨j, hj, rfl⟩ := List.mem_iff_getElem.1 hx
      have hj' : j < k := by
        rcases Nat.lt_trichotomy j k with h1 | h1 | h1
        · exact h1
        · subst h1; omega
        · have := List.pairwise_iff_getElem.1 h k j hk hj h1; omega
      exact ⟨_, List.mem_take_iff_getElem.2 ⟨j, by omega, rfl⟩, hb.2⟩
  rw [ha]
theorem RefAt.at_cells {w : World} {F : Nat → Prop} {mb : Nat} {S : St} (h : RefAt w F mb S) (hn : 0 < S.reqs.length) : ∃ g cr, w.cell? ⟨mb, 1, none⟩ = some (.slice (some ⟨g, 0, none⟩) S.reqs.length cr) ∧ (∀ k t, k < S.reqs.length → t < 10 → w.cell? ⟨g, k * 10 + t, none⟩ = (encR (S.reqs.getD k Rq.zero))[t]?) ∧ mb < w.heap.size ∧ g < w.heap.size := by
  obtain ⟨G, ar, cr, at_, ct, af, cf, ad, cd, h⟩ := h
  obtain ⟨g0, cur, hg0, _, _, _, _⟩ := Row.some h.reqs hn
  subst hg0
  exact ⟨g0, cr, h.c1, fun k t hk ht => Row.req h.reqs rfl k t hk ht, h.lt, by obtain ⟨c, hc, _⟩ := h.reqs.block rfl; exact lt_of_heap hc⟩
theorem RefAt.c1' {w : World} {F : Nat → Prop} {mb : Nat} {S : St} (h : RefAt w F mb S) : ∃ ar cr, w.cell? ⟨mb, 1, none⟩ = some (.slice ar S.reqs.length cr) ∧ mb < w.heap.size := by
  obtain ⟨G, ar, cr, at_, ct, af, cf, ad, cd, h⟩ := h
  exact ⟨ar, cr, h.c1, h.lt⟩
theorem RefAt.below' {w w' : World} {F : Nat → Prop} {mb : Nat} {S : St} (h : RefAt w F mb S) (hb : Below w.heap.size w w') : RefAt w' F mb S := h.same (fun k _ hlt => hb.block k hlt) hb.size
theorem firstM_at {S : St} {p : Int} {k : Nat} (hk : k < S.reqs.length) (hb : ∀ j, j < k → ¬ (readyB S (S.reqs.getD j Rq.zero) = true ∧ (S.reqs.getD j Rq.zero).page = p)) (hh : readyB S (S.reqs.getD k Rq.zero) = true ∧ (S.reqs.getD k Rq.zero).page = p) : firstM S p = some k := by
  have e : ∀ j, (h : j < S.reqs.length) → S.reqs.getD j Rq.zero = S.reqs[j] := fun j h => by rw [List.getD_eq_getElem?_getD, List.getElem?_eq_getElem h]; rfl
  unfold firstM
  rw [List.findIdx?_eq_some_iff_getElem]
  refine ⟨hk, ?_, fun j hj => ?_⟩
  · rw [← e k hk, hh.1, hh.2]; simp
  · have := hb j hj
    rw [e j (by omega)] at this
    simpa using this
theorem firstM_no {S : St} {p : Int} (hb : ∀ j, j < S.reqs.length → ¬ (readyB S (S.reqs.getD j Rq.zero) = true ∧ (S.reqs.getD j Rq.zero).page = p)) : firstM S p = none := by
  unfold firstM
  rw [List.findIdx?_eq_none_iff]
  intro x hx
  obtain ⟨j, hj, rfl⟩ := List.mem_iff_getElem.1 hx
  have := hb j hj
  rw [List.getD_eq_getElem?_getD, List.getElem?_eq_getElem hj] at this
  simpa using this

set_option maxHeartbeats 1000000 in
set_option maxRecDepth 1000000 in
theorem ref_first (S : St) (F : Nat → Prop) (mb : Nat) (p : Int) (w : World) (h : RefAt w F mb S) (hs : S.reqs.Pairwise (fun a b => a.num < b.num)) (hr : S.reqs.length ≤ 1000000) :
    Calls Tryz.prog 132 #[.pointer (some ⟨mb, 0, none⟩), .int .i64 p] w fun e w' => e = .returned (.int .i64 (intOr (firstM S p))) ∧ Below w.heap.size w w' := by
  have H := hide h
  have HS := hide hs
  obtain ⟨ar, cr, c1, hml⟩ := h.c1'
  have HRD : Hid (∀ k (w' : World), k < S.reqs.length → Below w.heap.size w w' → Calls Tryz.prog 146 #[.pointer (some ⟨mb, 0, none⟩), .int .i64 k] w' fun e w'' => e = .returned (.bool (readyB S (S.reqs.getD k Rq.zero))) ∧ Below w.heap.size w w'') := fun k w' hk hb => by
    have := ref_ready S F mb k w' (h.below' hb) hr hk
    rw [readyK_eq hs hk] at this
    refine this.mono ?_
    rintro e w2 ⟨rfl, hb2⟩
    exact ⟨rfl, hb.trans (hb2.mono hb.size)⟩
  have HC : Hid (∀ k, k < S.reqs.length → ∃ g, ar = some ⟨g, 0, none⟩ ∧ g < w.heap.size ∧ w.cell? ⟨g, k * 10 + 2, none⟩ = some (.int .i64 (S.reqs.getD k Rq.zero).page)) := fun k hk => by
    obtain ⟨g, cr', h1, h2, h3, h4⟩ := h.at_cells (by omega)
    rw [c1] at h1
    cases h1
    exact ⟨g, rfl, h4, h2 k 2 hk (by omega)⟩
  clear h hs
  go_enter Tryz.func132, Tryz.ntmps132
  go_wp2
  go_loopw [5] (fun i wr => ∃ k : Nat, k ≤ S.reqs.length ∧ i = .int .i64 k ∧ Hid (∀ j, j < k → ¬ (readyB S (S.reqs.getD j Rq.zero) = true ∧ (S.reqs.getD j Rq.zero).page = p)) ∧ Hid (Below w.heap.size w wr)) (fun i _ => S.reqs.length - (intOf i).toNat)
  case atStart => exact ⟨0, Nat.zero_le _, rfl, fun j hj => by omega, Below.refl _ _⟩
  case round =>
    obtain ⟨k, hk, rfl, hno, hb⟩ := hrel
    have d1 : wr.cell? ⟨mb, 1, none⟩ = some (.slice ar S.reqs.length cr) := (hb.out.cell (p := ⟨mb, 1, none⟩) hml).trans c1
    by_cases hlt : k < S.reqs.length
    · obtain ⟨g, hg, hgl, hpg⟩ := HC.out k hlt
      subst hg
      go_wp2_with fail
      refine (HRD.out k wr hlt hb.out).mono ?_
      rintro e w1 ⟨rfl, hb1⟩
      have HB1 := hide hb1
      have e1 : w1.cell? ⟨mb, 1, none⟩ = some (.slice (some ⟨g, 0, none⟩) S.reqs.length cr) := (hb1.cell (p := ⟨mb, 1, none⟩) hml).trans c1
      have e2 := (hb1.cell (p := ⟨g, k * 10 + 2, none⟩) hgl).trans hpg
      have HFA := hide (fun hh => firstM_at (p := p) hlt hno.out hh)
      have HNX : Hid (¬ (readyB S (S.reqs.getD k Rq.zero) = true ∧ (S.reqs.getD k Rq.zero).page = p) → ∀ j, j < k + 1 → ¬ (readyB S (S.reqs.getD j Rq.zero) = true ∧ (S.reqs.getD j Rq.zero).page = p)) := fun hn j hj => by
        by_cases e : j = k
        · subst e; exact hn
        · exact hno.out j (by omega)
      clear hb1 hno hb d1 hpg
      generalize (S.reqs.getD k Rq.zero).page = pp at *
      generalize readyB S (S.reqs.getD k Rq.zero) = rb at *
      have hpp : (pp == p) = decide (pp = p) := rfl
      cases rb
      · have HN := hide (HNX.out (by simp))
        clear HNX HFA
        go_wp2
        go_roundw
        case rel => exact ⟨k + 1, by omega, by go_num, HN.out, HB1.out⟩
        case measure => simp [intOf]; omega
      · by_cases hp : pp = p
        · have hp' : (pp == p) = true := beq_iff_eq.2 hp
          have HF := hide (HFA.out ⟨rfl, hp⟩)
          clear HNX HFA hp hpp
          go_wp2
          go_ret
          exact ⟨by rw [HF.out]; rfl, HB1.out⟩
        · have hp' : (pp == p) = false := beq_eq_false_iff_ne.2 hp
          have HN := hide (HNX.out (fun e => hp e.2))
          clear HNX HFA hp hpp
          go_wp2
          go_roundw
          case rel => exact ⟨k + 1, by omega, by go_num, HN.out, HB1.out⟩
          case measure => simp [intOf]; omega
    · have HF : Hid (firstM S p = none) := firstM_no fun j hj => hno.out j (by omega)
      go_wp2
      go_ret
      exact ⟨by rw [HF.out]; rfl, hb.out⟩
end Go.Proofs.YtiabdbeejkadnaaGreatDoor

/- The reference queue: page, group. Own work of the verifier. -/
namespace Go.Proofs.YtiabdbeejkadnaaGreatDoor
open Go.RowKit

theorem page_found {S : St} {j : Nat} (hn : ∀ t, t < j → (firstM S ((S.head + (t : Int)) % 16)).isSome = false) (hs : (firstM S ((S.head + (j : Int)) % 16)).isSome = true) : pageM S = some ((S.head + (j : Int)) % 16) := by
  have hj : j < 16 := by
    apply Decidable.byContradiction
    intro h
    have := hn (j - 16) (by omega)
    have e : (S.head + ((j - 16 : Nat) : Int)) % 16 = (S.head + (j : Int)) % 16 := by omega
    rw [e, hs] at this; cases this
  unfold pageM
  cases hg : pageGo S 0 16 with
  | none =>
    have := pageGo_none hg j (by omega) (by omega)
    rw [hs] at this; cases this
  | some p' =>
    obtain ⟨j', h1, h2, h3, h4, h5⟩ := pageGo_some hg
    rcases Nat.lt_trichotomy j j' with e | e | e
    · have := h5 j (by omega) e; rw [hs] at this; cases this
    · rw [h3, e]
    · have := hn j' e; rw [← h3, h4] at this; cases this
theorem page_not {S : St} {j : Nat} (hj : 16 ≤ j) (hn : ∀ t, t < j → (firstM S ((S.head + (t : Int)) % 16)).isSome = false) : pageM S = none := by
  cases hg : pageM S with
  | none => rfl
  | some p =>
    obtain ⟨j', h1, h2, h3, h4, h5⟩ := pageGo_some hg
    have := hn j' (by omega); rw [← h3, h4] at this; cases this
def pageV (S : St) : Int := (pageM S).getD (-1)
set_option maxHeartbeats 1000000 in
set_option maxRecDepth 1000000 in
theorem ref_page (S : St) (F : Nat → Prop) (mb : Nat) (w : World) (h : RefAt w F mb S) (hs : S.reqs.Pairwise (fun a b => a.num < b.num)) (hr : S.reqs.length ≤ 1000000) (hh : 0 ≤ S.head ∧ S.head ≤ 16) :
    Calls Tryz.prog 131 #[.pointer (some ⟨mb, 0, none⟩)] w fun e w' => e = .returned (.int .i64 (pageV S)) ∧ Below w.heap.size w w' := by
  have HFI : Hid (∀ (p : Int) (w' : World), Below w.heap.size w w' → Calls Tryz.prog 132 #[.pointer (some ⟨mb, 0, none⟩), .int .i64 p] w' fun e w'' => e = .returned (.int .i64 (intOr (firstM S p))) ∧ Below w.heap.size w w'') := fun p w' hb => by
    refine (ref_first S F mb p w' (h.below' hb) hs hr).mono ?_
    rintro e w2 ⟨rfl, hb2⟩
    exact ⟨rfl, hb.trans (hb2.mono hb.size)⟩
  obtain ⟨G, ar, cr, at_, ct, af, cf, ad, cd, h⟩ := h
  have c5 := h.c5
  have hml := h.lt
  clear h hs
  have HPF : Hid (∀ j : Nat, (∀ t, t < j → (firstM S ((S.head + (t : Int)) % 16)).isSome = false) → (firstM S ((S.head + (j : Int)) % 16)).isSome = true → pageV S = (S.head + (j : Int)) % 16) := fun j h1 h2 => by unfold pageV; rw [page_found h1 h2]; rfl
  have HPN : Hid (∀ j : Nat, 16 ≤ j → (∀ t, t < j → (firstM S ((S.head + (t : Int)) % 16)).isSome = false) → pageV S = -1) := fun j h1 h2 => by unfold pageV; rw [page_not h1 h2]; rfl
  generalize S.head = hd at *
  obtain ⟨hd0, hd1⟩ := hh
  go_enter Tryz.func131, Tryz.ntmps131
  go_wp2
  go_loopw [3] (fun i wr => ∃ j : Nat, j ≤ 32 ∧ i = .int .i64 j ∧ Hid (∀ t, t < j → (firstM S ((hd + (t : Int)) % 16)).isSome = false) ∧ Hid (Below w.heap.size w wr)) (fun i _ => 32 - (intOf i).toNat)
  case atStart => exact ⟨0, by omega, rfl, fun t ht => by omega, Below.refl _ _⟩
  case round =>
    obtain ⟨j, hj, rfl, hno, hb⟩ := hrel
    have d5 : wr.cell? ⟨mb, 5, none⟩ = some (.int .i64 hd) := (hb.out.cell (p := ⟨mb, 5, none⟩) hml).trans c5
    by_cases hlt : j < 32
    · have hltI : (j : Int) < 32 := by omega
      have HNX : Hid (∀ o, firstM S ((hd + (j : Int)) % 16) = o → o.isSome = false → ∀ t, t < j + 1 → (firstM S ((hd + (t : Int)) % 16)).isSome = false) := fun o h1 h2 t ht => by
        by_cases e : t = j
        · subst e; rw [h1]; exact h2
        · exact hno.out t (by omega)
      by_cases hA : hd + (j : Int) < 16
      · have HPE : Hid (hd + (j : Int) = (hd + (j : Int)) % 16) := by rw [Hid]; omega
        have hA2 : ¬ (16 ≤ hd + (j : Int)) := by omega
        go_wp2_with fail
        refine (HFI.out _ wr hb.out).mono ?_
        rintro e w1 ⟨rfl, hb1⟩
        have HB1 := hide hb1
        clear hb1
        have HV := hide (HPF.out j hno.out)
        have HN2 := hide HNX.out
        rw [← HPE.out] at HV HN2
        generalize firstM S (hd + (j : Int)) = o at *
        cases o with
        | none =>
          have HN3 := hide (HN2.out none rfl rfl)
          go_wp2
          go_roundw
          case rel => exact ⟨j + 1, by omega, by go_num, HN3.out, HB1.out⟩
          case measure => simp [intOf]; omega
        | some k =>
          have HV2 := hide (HV.out rfl)
          clear HV HN2 HNX
          go_wp2
          go_ret
          exact ⟨by rw [HV2.out]; rfl, HB1.out⟩
      · have hA2 : 16 ≤ hd + (j : Int) := by omega
        clear hA
        by_cases hC : 16 ≤ (j : Int) - (16 - hd)
        · have HV := hide (HPN.out j (by omega) hno.out)
          go_wp2
          go_ret
          exact ⟨by rw [HV.out]; rfl, hb.out⟩
        · have HPE : Hid ((j : Int) - (16 - hd) = (hd + (j : Int)) % 16) := by rw [Hid]; omega
          go_wp2_with fail
          refine (HFI.out _ wr hb.out).mono ?_
          rintro e w1 ⟨rfl, hb1⟩
          have HB1 := hide hb1
          clear hb1
          have HV := hide (HPF.out j hno.out)
          have HN2 := hide HNX.out
          rw [← HPE.out] at HV HN2
          generalize firstM S ((j : Int) - (16 - hd)) = o at *
          cases o with
          | none =>
            have HN3 := hide (HN2.out none rfl rfl)
            go_wp2
            go_roundw
            case rel => exact ⟨j + 1, by omega, by go_num, HN3.out, HB1.out⟩
            case measure => simp [intOf]; omega
          | some k =>
            have HV2 := hide (HV.out rfl)
            clear HV HN2 HNX
            go_wp2
            go_ret
            exact ⟨by rw [HV2.out]; rfl, HB1.out⟩
    · have HV := hide (HPN.out j (by omega) hno.out)
      go_wp2
      go_ret
      exact ⟨by rw [HV.out]; rfl, hb.out⟩

def groupTo (S : St) (p : Int) (wr : Bool) (k : Nat) : List Int := ((S.reqs.take k).filter fun r => readyB S r && r.page == p && r.write == wr && !r.alone).map (·.num)
theorem groupTo_all (S : St) (p : Int) (wr : Bool) {k : Nat} (hk : S.reqs.length ≤ k) : groupTo S p wr k = groupM S p wr := by unfold groupTo groupM; rw [List.take_of_length_le hk]
theorem groupTo_next {S : St} {p : Int} {wr : Bool} {k : Nat} (hk : k < S.reqs.length) : groupTo S p wr (k + 1) = if (readyB S (S.reqs.getD k Rq.zero) && (S.reqs.getD k Rq.zero).page == p && (S.reqs.getD k Rq.zero).write == wr && !(S.reqs.getD k Rq.zero).alone) = true then groupTo S p wr k ++ [(S.reqs.getD k Rq.zero).num] else groupTo S p wr k := by
  have e : S.reqs.getD k Rq.zero = S.reqs[k] := by rw [List.getD_eq_getElem?_getD, List.getElem?_eq_getElem hk]; rfl
  unfold groupTo
  rw [List.take_succ_eq_append_getElem hk, List.filter_append, List.map_append, e]
  split <;> rename_i h <;> simp [h]
theorem groupTo_len (S : St) (p : Int) (wr : Bool) (k : Nat) : (groupTo S p wr k).length ≤ S.reqs.length := by
  unfold groupTo
  rw [List.length_map]
  refine Nat.le_trans (List.length_filter_le _ _) ?_
  rw [List.length_take]; omega
set_option maxHeartbeats 1000000 in
set_option maxRecDepth 1000000 in
theorem ref_group (S : St) (F : Nat → Prop) (mb : Nat) (p : Int) (wri : Bool) (w : World) (h : RefAt w F mb S) (hs : S.reqs.Pairwise (fun a b => a.num < b.num)) (hr : S.reqs.length ≤ 1000000) :
    Calls Tryz.prog 133 #[.pointer (some ⟨mb, 0, none⟩), .int .i64 p, .bool wri] w fun e w' => ∃ ao n cap, e = .returned (.slice ao n cap) ∧ n = (groupM S p wri).length ∧ Row w' (fun b => w.heap.size ≤ b) 3 1 ao n cap (encI (groupM S p wri)) ∧ Below w.heap.size w w' := by
  obtain ⟨i0, hi, hi0, hi1, hi2⟩ := info_parts info_int
  obtain ⟨ar, cr, c1, hml⟩ := h.c1'
  have HRD : Hid (∀ k (w' : World), k < S.reqs.length → Below w.heap.size w w' → Calls Tryz.prog 146 #[.pointer (some ⟨mb, 0, none⟩), .int .i64 k] w' fun e w'' => e = .returned (.bool (readyB S (S.reqs.getD k Rq.zero))) ∧ Below w'.heap.size w' w'' ∧ Below w.heap.size w w'') := fun k w' hk hb => by
    have := ref_ready S F mb k w' (h.below' hb) hr hk
    rw [readyK_eq hs hk] at this
    refine this.mono ?_
    rintro e w2 ⟨rfl, hb2⟩
    exact ⟨rfl, hb2, hb.trans (hb2.mono hb.size)⟩
  have HC : Hid (∀ k, k < S.reqs.length → ∃ g, ar = some ⟨g, 0, none⟩ ∧ g < w.heap.size ∧ ∀ t, t < 10 → w.cell? ⟨g, k * 10 + t, none⟩ = (encR (S.reqs.getD k Rq.zero))[t]?) := fun k hk => by
    obtain ⟨g, cr', h1, h2, h3, h4⟩ := h.at_cells (by omega)
    rw [c1] at h1
    cases h1
    exact ⟨g, rfl, h4, fun t ht => h2 k t hk ht⟩
  clear h hs
  go_enter Tryz.func133, Tryz.ntmps133
  go_wp2
  go_loopw [7, 8] (fun l i wr => ∃ (j n cap : Nat) (ao : Option Addr), j ≤ S.reqs.length ∧ i = .int .i64 j ∧ l = .slice ao n cap ∧ n = (groupTo S p wri j).length ∧ Hid (Row wr (fun b => w.heap.size ≤ b) 3 1 ao n cap (encI (groupTo S p wri j))) ∧ Hid (Below w.heap.size w wr)) (fun _ i _ => S.reqs.length - (intOf i).toNat)
  case atStart => exact ⟨0, 0, 0, none, Nat.zero_le _, rfl, rfl, rfl, Row.nil _ _ _ _, Below.refl _ _⟩
  case round =>
    obtain ⟨j, n, cap, ao, hj, rfl, rfl, hn, hrow, hb⟩ := hrel
    have HN : Hid (n = (groupTo S p wri j).length) := hn
    have hnl : n ≤ S.reqs.length := by rw [hn]; exact groupTo_len S p wri j
    clear hn
    have d1 : wr.cell? ⟨mb, 1, none⟩ = some (.slice ar S.reqs.length cr) := (hb.out.cell (p := ⟨mb, 1, none⟩) hml).trans c1
    by_cases hlt : j < S.reqs.length
    · obtain ⟨g0, hg, hgl, hpg⟩ := HC.out j hlt
      subst hg
      have HGN := hide (groupTo_next (p := p) (wr := wri) hlt)
      go_wp2_with fail
      refine (HRD.out j wr hlt hb.out).mono ?_
      rintro e w1 ⟨rfl, hb0, hb1⟩
      have HB1 := hide hb1
      have e1 : w1.cell? ⟨mb, 1, none⟩ = some (.slice (some ⟨g0, 0, none⟩) S.reqs.length cr) := (hb1.cell (p := ⟨mb, 1, none⟩) hml).trans c1
      have q0 : w1.cell? ⟨g0, j * 10, none⟩ = some (.int .i64 (S.reqs.getD j Rq.zero).num) := (hb1.cell (p := ⟨g0, j * 10 + 0, none⟩) hgl).trans (hpg 0 (by omega))
      have q1 : w1.cell? ⟨g0, j * 10 + 1, none⟩ = some (.bool (S.reqs.getD j Rq.zero).write) := (hb1.cell (p := ⟨g0, j * 10 + 1, none⟩) hgl).trans (hpg 1 (by omega))
      have q2 : w1.cell? ⟨g0, j * 10 + 2, none⟩ = some (.int .i64 (S.reqs.getD j Rq.zero).page) := (hb1.cell (p := ⟨g0, j * 10 + 2, none⟩) hgl).trans (hpg 2 (by omega))
      have q7 : w1.cell? ⟨g0, j * 10 + 7, none⟩ = some (.bool (S.reqs.getD j Rq.zero).alone) := (hb1.cell (p := ⟨g0, j * 10 + 7, none⟩) hgl).trans (hpg 7 (by omega))
      have HR1 : Hid (Row w1 (fun b => w.heap.size ≤ b) 3 1 ao n cap (encI (groupTo S p wri j))) := hrow.out.same fun a ha => by obtain ⟨c, hc, _⟩ := Row.block hrow.out ha; exact hb0.block _ (lt_of_heap hc)
      clear hb1 hb0 hb d1 hpg hrow
      generalize S.reqs.getD j Rq.zero = r at *
      generalize readyB S r = rb at *
      generalize r.page = pp at *
      generalize r.write = rw_ at *
      generalize r.alone = ral at *
      generalize r.num = rn at *
      have HO : Hid ((w1.alloc (.cells #[.int .i64 rn] 3)).ownsRow 0 3 1 (.slice ao n cap) n (encI (groupTo S p wri j))) := (HR1.out.alloc _).1
      have HW : Hid (∀ (t : Nat) (u : Value), [Value.int .i64 rn][t]? = some u → (w1.alloc (.cells #[.int .i64 rn] 3)).cell? ((⟨w1.heap.size, 0, none⟩ : Addr).add t) = some u) := fun t u => news_new t u
      cases hpp : (pp == p) <;> cases rw_ <;> cases wri <;> cases ral <;> cases rb
      all_goals
        have HG2 := HGN.out
        rw [hpp] at HG2
        first
          | have HS := hide (HG2.trans (if_pos rfl))
            clear HG2
            go_wp2_with (at_builtin; go_must (refine wpList_append_lies _ rfl (.tmp 58) (.tmp 67) 24 rfl 0 3 i0 (.int .i64 0) 1 8 Tryz.underlying24 hi hi0 hi1 hi2 rfl (by decide) (.slice ao n cap) n _ rfl HO.out ⟨w1.heap.size, 0, none⟩ 1 1 [Value.int .i64 rn] rfl rfl HW.out (by intro u hu; simp at hu; subst hu; rfl) (by decide) (by unfold maxLen; omega) (by omega) (Nat.zero_le _) (w1.heap.size + 1) (by simp) ?_; intro g cap' w2 hown hgrow hat hlt3; have HX := hide (own_rel HB1.out HR1.out hgrow hown hat); clear hown hgrow hat hlt3))
            go_roundw
            case rel => exact ⟨j + 1, n + 1, cap', some ⟨g, 0, none⟩, by omega, by go_num, rfl, by rw [HS.out, List.length_append, HN.out]; rfl, by rw [HS.out]; simpa [Hid, encI] using HX.out.2, HX.out.1⟩
            case measure => simp [intOf]; omega
          | have HS := hide (HG2.trans (if_neg (by decide)))
            clear HG2
            go_wp2
            go_roundw
            case rel => exact ⟨j + 1, n, cap, ao, by omega, by go_num, rfl, by rw [HS.out]; exact HN.out, by rw [HS.out]; exact HR1, HB1.out⟩
            case measure => simp [intOf]; omega
    · have HJ : Hid (groupTo S p wri j = groupM S p wri) := groupTo_all S p wri (by omega)
      go_wp2
      go_ret
      exact ⟨ao, n, cap, rfl, by rw [HN.out, HJ.out], by rw [← HJ.out]; exact hrow.out, hb.out⟩
end Go.Proofs.YtiabdbeejkadnaaGreatDoor
