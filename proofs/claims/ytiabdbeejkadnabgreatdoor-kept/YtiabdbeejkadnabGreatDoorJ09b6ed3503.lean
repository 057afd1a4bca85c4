import Derived.Test.YtiabdbeejkadnabGreatDoorJ3a8e2cf362
import Derived.Deep.RegionHeld3
import Derived.Deep.Cut
/- The program's queue (stage 2's code): together. Own work of the verifier. -/
namespace Go.Proofs.YtiabdbeejkadnabGreatDoor
open Go.RowKit Go.Maps Go.Sort Go.Shelf

def aloneT (t : Int) : Bool := decide (0 < t)
theorem entry_alone (b : Nat) (t : Int) (w : World) (h : w.cell? ⟨b, 7, none⟩ = some (.int .i64 t)) : Calls Tryz.prog 70 #[.pointer (some ⟨b, 0, none⟩)] w fun e w' => e = .returned (.bool (aloneT t)) ∧ w' = w := by
  unfold aloneT
  by_cases ht : 0 < t
  · have b1 : decide (0 < t) = true := by simpa using ht
    rw [b1]
    go_enter Tryz.func70, Tryz.ntmps70
    go_wp2
    go_ret
    exact ⟨rfl, rfl⟩
  · have b1 : decide (0 < t) = false := by simpa using ht
    rw [b1]
    go_enter Tryz.func70, Tryz.ntmps70
    go_wp2
    go_ret
    exact ⟨rfl, rfl⟩
/-- what together reads of its requests -/
structure TogIn (w : World) (eb : Int → Nat) (L : List Rq) (g s : Nat) : Prop where
  cells : ∀ j (h : j < L.length), w.cell? ⟨g, s + j, none⟩ = some (.pointer (some ⟨eb (L[j]).num, 0, none⟩))
  page : ∀ r ∈ L, w.cell? ⟨eb r.num, 1, none⟩ = some (.int .i64 r.page)
  write : ∀ r ∈ L, w.cell? ⟨eb r.num, 2, none⟩ = some (.bool r.write)
  tries : ∀ r ∈ L, w.cell? ⟨eb r.num, 7, none⟩ = some (.int .i64 r.tries)
theorem TogIn.below {w W : World} {eb : Int → Nat} {L : List Rq} {g s : Nat} (h : TogIn w eb L g s) (hb : Below w.heap.size w W) : TogIn W eb L g s :=
  ⟨fun j hj => (hb.cell (p := ⟨g, s + j, none⟩) (lt_of_cell (h.cells j hj))).trans (h.cells j hj), fun r hr => (hb.cell (p := ⟨eb r.num, 1, none⟩) (lt_of_cell (h.page r hr))).trans (h.page r hr), fun r hr => (hb.cell (p := ⟨eb r.num, 2, none⟩) (lt_of_cell (h.write r hr))).trans (h.write r hr), fun r hr => (hb.cell (p := ⟨eb r.num, 7, none⟩) (lt_of_cell (h.tries r hr))).trans (h.tries r hr)⟩
/-- a row of the chosen entries -/
def ChosenAt (eb : Int → Nat) (C : List Rq) (w : World) (e : Ending) (w' : World) : Prop := ∃ ao n cap, e = .returned (.slice ao n cap) ∧ n = C.length ∧ Row w' (fun b => w.heap.size ≤ b) 75 1 ao n cap (encE eb (C.map (·.num))) ∧ Below w.heap.size w w'

set_option maxHeartbeats 4000000 in
set_option maxRecDepth 1000000 in
theorem together_alone (eb : Int → Nat) (f : Rq) (l : List Rq) (g s m cap : Nat) (w : World) (h : TogIn w eb (f :: l) g s) (hm : m = (f :: l).length) (_hml : m ≤ 1000000) (ha : isAlone f = true) :
    Calls Tryz.prog 53 #[.slice (some ⟨g, s, none⟩) m cap] w fun e w' => ChosenAt eb [f] w e w' := by
  have c0 := h.cells 0 (by simp)
  have t0 := h.tries f (by simp)
  simp only [List.getElem_cons_zero, Nat.add_zero] at c0
  have hm0 : 0 < m := by rw [hm]; simp
  have HAL := hide (entry_alone (eb f.num) f.tries w t0)
  have hat : aloneT f.tries = true := ha
  rw [hat] at HAL
  clear h hm t0 ha hat
  go_enter Tryz.func53, Tryz.ntmps53
  go_wp2_with fail
  refine HAL.out.mono ?_
  rintro e w1 ⟨rfl, hw⟩
  have hw := hw.symm
  subst hw
  go_wp2
  go_ret
  refine ⟨some ⟨w.heap.size, 0, none⟩, 1, 1, rfl, rfl, ?_, alloc_below _ _⟩
  exact ⟨World.ownsRow_lit (base := 0) w #[.pointer (some ⟨eb f.num, 0, none⟩)] 1 (Nat.zero_le _) (by decide) rfl, fun a ha => by cases ha; exact Nat.le_refl _⟩

theorem cell_low {w w1 w2 : World} {B : Nat} {p : Addr} {v : Value} (h1 : Below B w w1) (h2 : Below B w w2) (hp : p.block < B) (hv : w1.cell? p = some v) : w2.cell? p = some v := (h2.cell hp).trans ((h1.cell hp).symm.trans hv)
theorem togo_split {w : Bool} {fin : Int} {page : Int} (k : Nat) (L : List Rq) (hk : k < L.length) : togo w fin page (L.drop k) = if page + 1 < (L[k]).page ∨ fin ≤ (L[k]).page then [] else if (L[k]).write = w ∧ isAlone (L[k]) = false then (L[k]) :: togo w fin (L[k]).page (L.drop (k + 1)) else togo w fin page (L.drop (k + 1)) := by
  rw [List.drop_eq_getElem_cons hk, togo]

set_option maxHeartbeats 8000000 in
set_option maxRecDepth 1000000 in
theorem together_many (eb : Int → Nat) (f : Rq) (l : List Rq) (g s m cap : Nat) (w : World) (h : TogIn w eb (f :: l) g s) (hm : m = (f :: l).length) (hml : m ≤ 1000000) (ha : isAlone f = false) (hpg : ∀ r ∈ f :: l, 0 ≤ r.page ∧ r.page < 16) :
    Calls Tryz.prog 53 #[.slice (some ⟨g, s, none⟩) m cap] w fun e w' => ChosenAt eb (togo f.write (min (f.page + 4) 16) f.page (f :: l)) w e w' := by
  obtain ⟨i0, hi, hi0, hi1, hi2⟩ := info_parts info_ptr
  have c0 := h.cells 0 (by simp)
  have t0 := h.tries f (by simp)
  have p0 := h.page f (by simp)
  have q0 := h.write f (by simp)
  simp only [List.getElem_cons_zero, Nat.add_zero] at c0
  have hm0 : 0 < m := by rw [hm]; simp
  have HAL := hide (entry_alone (eb f.num) f.tries w t0)
  have hat : aloneT f.tries = false := ha
  rw [hat] at HAL
  have hfp := hpg f (by simp)
  have HPG := hide hpg
  have H := hide h
  have HM := hide hm
  clear h hm t0 ha hat hpg
  generalize hL : f :: l = L at *
  have HL := hide hL
  clear hL
  obtain ⟨hf0, hf1⟩ := hfp
  obtain ⟨fin, hfin⟩ : ∃ fin : Int, fin = min (f.page + 4) 16 := ⟨_, rfl⟩
  rw [← hfin]
  have HFI := hide hfin
  clear hfin
  go_enter Tryz.func53, Tryz.ntmps53
  go_wp2_with fail
  refine HAL.out.mono ?_
  rintro e w1 ⟨rfl, hw⟩
  have hw := hw.symm
  subst hw
  go_wp2
  go_quiet (fail)
  go_wp2
  rw [← HFI.out]
  have HDW : Hid (Below w.heap.size w (w.drewN nq)) := below_drewN (Below.refl _ _) nq
  go_loopw [4, 5, 28] (fun c p i wr => ∃ (k n capc : Nat) (ac : Option Addr) (page : Int) (A : List Rq), k ≤ m ∧ i = .int .i64 k ∧ p = .int .i64 page ∧ c = .slice ac n capc ∧ 0 ≤ page ∧ page < 16 ∧ Hid (togo f.write fin f.page L = A ++ togo f.write fin page (L.drop k)) ∧ Hid (n = A.length) ∧ n ≤ k ∧ Hid (Row wr (fun b => w.heap.size ≤ b) 75 1 ac n capc (encE eb (A.map (·.num)))) ∧ Hid (Below w.heap.size w wr)) (fun _ _ i _ => m - (intOf i).toNat)
  case atStart => exact ⟨0, 0, 0, none, f.page, [], Nat.zero_le _, rfl, rfl, rfl, hf0, hf1, rfl, rfl, Nat.le_refl _, Row.nil _ _ _ _, HDW.out⟩
  case round =>
    obtain ⟨k, n, capc, ac, page, A, hk, rfl, rfl, rfl, hp0, hp1, hT, hn, hnk, hrow, hb⟩ := hrel
    by_cases hlt : k < m
    · have hkL : k < L.length := by rw [← HM.out]; exact hlt
      have HI := hide (H.out.below hb.out)
      have ck := HI.out.cells k hkL
      have x1 := HI.out.page _ (List.getElem_mem hkL)
      have x2 := HI.out.write _ (List.getElem_mem hkL)
      have x7 := HI.out.tries _ (List.getElem_mem hkL)
      have HF0 := hide (HI.out.write f (by rw [← HL.out]; simp))
      obtain ⟨hr0, hr1⟩ := HPG.out _ (List.getElem_mem hkL)
      have HS := hide (togo_split (w := f.write) (fin := fin) (page := page) k L hkL)
      have HRM := hide (List.getElem_mem hkL)
      generalize L[k] = r at *
      by_cases hbr : page + 1 < r.page ∨ fin ≤ r.page
      · have HTE : Hid (togo f.write fin f.page L = A) := by show _ = _; rw [hT.out, HS.out, if_pos hbr, List.append_nil]
        clear HS hT
        by_cases h1 : page + 1 < r.page
        · clear hbr
          go_wp2
          go_ret
          exact ⟨ac, n, capc, rfl, by rw [HTE.out]; exact hn.out, by rw [HTE.out]; exact hrow.out, hb.out⟩
        · have h2 : fin ≤ r.page := hbr.elim (fun e => absurd e h1) id
          clear hbr
          go_wp2
          go_ret
          exact ⟨ac, n, capc, rfl, by rw [HTE.out]; exact hn.out, by rw [HTE.out]; exact hrow.out, hb.out⟩
      · have h1 : ¬ page + 1 < r.page := fun e => hbr (Or.inl e)
        have h2 : ¬ fin ≤ r.page := fun e => hbr (Or.inr e)
        have q0' := HF0.out
        by_cases hw : r.write = f.write
        · have bw : (r.write == f.write) = true := beq_iff_eq.2 hw
          by_cases ha : isAlone r = false
          · have hat : aloneT r.tries = false := ha
            have HAQ : Hid (∀ q, Calls Tryz.prog 70 #[.pointer (some ⟨eb r.num, 0, none⟩)] (wr.drewN q) fun e w' => e = .returned (.bool false) ∧ w' = wr.drewN q) := fun q => by rw [← hat]; exact entry_alone (eb r.num) r.tries (wr.drewN q) x7
            have HTE : Hid (togo f.write fin f.page L = (A ++ [r]) ++ togo f.write fin r.page (L.drop (k + 1))) := by show _ = _; rw [hT.out, HS.out, if_neg hbr, if_pos ⟨hw, ha⟩]; simp
            clear HS hT hbr hw ha
            go_wp2
            go_quiet (first | (go_at_call 70; exact Calls.quiet_of_same (HAQ.out _)))
            have HRQ : Hid (Row (wr.drewN nq) (fun b => w.heap.size ≤ b) 75 1 ac n capc (encE eb (A.map (·.num)))) := hrow.out.same (fun _ _ => rfl)
            have HBQ : Hid (Below w.heap.size w (wr.drewN nq)) := below_drewN hb.out nq
            have xq1 : (wr.drewN nq).cell? ⟨eb r.num, 1, none⟩ = some (.int .i64 r.page) := x1
            have hrl : eb r.num < (wr.drewN nq).heap.size := lt_of_cell xq1
            have HNN := hide hn.out
            clear hrow hb ck x1 x2 x7 HF0 q0' HI
            generalize wr.drewN nq = wq at *
            have HO : Hid ((wq.alloc (.cells #[.pointer (some ⟨eb r.num, 0, none⟩)] 75)).ownsRow 0 75 1 (.slice ac n capc) n (encE eb (A.map (·.num)))) := (HRQ.out.alloc _).1
            have HW : Hid (∀ (j : Nat) (u : Value), [Value.pointer (some ⟨eb r.num, 0, none⟩)][j]? = some u → (wq.alloc (.cells #[.pointer (some ⟨eb r.num, 0, none⟩)] 75)).cell? ((⟨wq.heap.size, 0, none⟩ : Addr).add j) = some u) := fun j u => news_new j u
            have HRL : Hid (eb r.num < w.heap.size) := by
              have := lt_of_cell (H.out.page r HRM.out)
              exact this
            go_wp2_with (at_builtin; go_must (refine wpList_append_lies _ rfl (.tmp 61) (.tmp 63) 73 rfl 0 75 i0 (.pointer none) 1 8 Tryz.underlying73 hi hi0 hi1 hi2 rfl (by decide) (.slice ac n capc) n (encE eb (A.map (·.num))) rfl HO.out ⟨wq.heap.size, 0, none⟩ 1 1 [Value.pointer (some ⟨eb r.num, 0, none⟩)] rfl rfl HW.out (by intro u hu; simp at hu; subst hu; rfl) (by decide) (by unfold maxLen; omega) (by omega) (Nat.zero_le _) (wq.heap.size + 1) (by simp) ?_; intro g2 cap' w3 hown hgrow hat3 hlt3; have HXX := hide (own_rel HBQ.out HRQ.out hgrow hown hat3); have y1 : w3.cell? ⟨eb r.num, 1, none⟩ = some (.int .i64 r.page) := cell_low HBQ.out HXX.out.1 HRL.out xq1; clear hown hgrow hat3 hlt3))
            go_roundw
            case rel => exact ⟨k + 1, n + 1, cap', some ⟨g2, 0, none⟩, r.page, A ++ [r], by omega, by go_num, rfl, rfl, hr0, hr1, HTE, by show n + 1 = _; rw [List.length_append, HNN.out]; rfl, by omega, by show Row _ _ _ _ _ _ _ _; rw [List.map_append, encE_append]; exact HXX.out.2, HXX.out.1⟩
            case measure => simp [intOf]; omega
          · have ha' : isAlone r = true := by simpa using ha
            have hat : aloneT r.tries = true := ha'
            have HAQ : Hid (∀ q, Calls Tryz.prog 70 #[.pointer (some ⟨eb r.num, 0, none⟩)] (wr.drewN q) fun e w' => e = .returned (.bool true) ∧ w' = wr.drewN q) := fun q => by rw [← hat]; exact entry_alone (eb r.num) r.tries (wr.drewN q) x7
            have HTE : Hid (togo f.write fin f.page L = A ++ togo f.write fin page (L.drop (k + 1))) := by show _ = _; rw [hT.out, HS.out, if_neg hbr, if_neg (fun e => ha e.2)]
            clear HS hT hbr hw ha ha'
            go_wp2
            go_quiet (first | (go_at_call 70; exact Calls.quiet_of_same (HAQ.out _)))
            go_wp2
            go_roundw
            case rel => exact ⟨k + 1, n, capc, ac, page, A, by omega, by go_num, rfl, rfl, hp0, hp1, HTE, hn, by omega, hrow.out.same (fun _ _ => rfl), below_drewN hb.out _⟩
            case measure => simp [intOf]; omega
        · have bw : (r.write == f.write) = false := beq_eq_false_iff_ne.2 hw
          have HTE : Hid (togo f.write fin f.page L = A ++ togo f.write fin page (L.drop (k + 1))) := by show _ = _; rw [hT.out, HS.out, if_neg hbr, if_neg (fun e => hw e.1)]
          clear HS hT hbr hw
          go_wp2
          go_quiet (fail)
          go_wp2
          go_roundw
          case rel => exact ⟨k + 1, n, capc, ac, page, A, by omega, by go_num, rfl, rfl, hp0, hp1, HTE, hn, by omega, hrow.out.same (fun _ _ => rfl), below_drewN hb.out _⟩
          case measure => simp [intOf]; omega
    · have hkn : k = m := by omega
      subst hkn
      have HTE : Hid (togo f.write fin f.page L = A) := by show _ = _; rw [hT.out, List.drop_of_length_le (by rw [HM.out]; exact Nat.le_refl _)]; simp [togo]
      go_wp2
      go_ret
      exact ⟨ac, n, capc, rfl, by rw [HTE.out]; exact hn.out, by rw [HTE.out]; exact hrow.out, hb.out⟩
end Go.Proofs.YtiabdbeejkadnabGreatDoor

/- The program's queue (stage 2's code): next. Own work of the verifier. -/
namespace Go.Proofs.YtiabdbeejkadnabGreatDoor
open Go.RowKit Go.Maps Go.Sort Go.Shelf

theorem together_go (eb : Int → Nat) (f : Rq) (l : List Rq) (g s m cap : Nat) (w : World) (h : TogIn w eb (f :: l) g s) (hm : m = (f :: l).length) (hml : m ≤ 1000000) (hpg : ∀ r ∈ f :: l, 0 ≤ r.page ∧ r.page < 16) :
    Calls Tryz.prog 53 #[.slice (some ⟨g, s, none⟩) m cap] w fun e w' => ChosenAt eb (togetherM (f :: l)) w e w' := by
  have eT : togetherM (f :: l) = if isAlone f then [f] else togo f.write (min (f.page + 4) 16) f.page (f :: l) := rfl
  rw [eT]
  cases ha : isAlone f with
  | true => exact together_alone eb f l g s m cap w h hm hml ha
  | false => exact together_many eb f l g s m cap w h hm hml ha hpg

theorem next_clos (bq xb eb1 : Nat) (hd p : Int) (w : World) (h0 : w.cell? ⟨bq, 0, none⟩ = some (.pointer (some ⟨xb, 0, none⟩))) (h5 : w.cell? ⟨xb, 5, none⟩ = some (.int .i64 hd)) (h1 : w.cell? ⟨eb1, 1, none⟩ = some (.int .i64 p)) :
    Calls Tryz.prog 52 #[.pointer (some ⟨eb1, 0, none⟩), .pointer (some ⟨bq, 0, none⟩)] w fun e w' => e = .returned (.bool (decide (hd ≤ p))) ∧ ∃ q, w' = w.drewN q := by
  by_cases hp : hd ≤ p
  · have b1 : decide (hd ≤ p) = true := by simpa using hp
    rw [b1]
    go_enter Tryz.func52, Tryz.ntmps52
    go_wp2
    go_quiet (fail)
    go_wp2
    go_ret
    exact ⟨rfl, _, rfl⟩
  · have b1 : decide (hd ≤ p) = false := by simpa using hp
    rw [b1]
    go_enter Tryz.func52, Tryz.ntmps52
    go_wp2
    go_quiet (fail)
    go_wp2
    go_ret
    exact ⟨rfl, _, rfl⟩
theorem idx_find {α : Type} (p : α → Bool) (x : α) (zs : List α) (i : Nat) : Lib.idxByFrom (fun _ y => p y) x zs i = match zs.findIdx? p with | some k => ((i + k : Nat) : Int) | none => -1 := by
  induction zs generalizing i with
  | nil => rfl
  | cons y r ih =>
    rw [Lib.idxByFrom, List.findIdx?_cons]
    cases hp : p y with
    | true => simp
    | false =>
      simp only [Bool.false_eq_true, if_false]
      rw [ih]
      cases r.findIdx? p with
      | none => rfl
      | some k => show ((i + 1 + k : Nat) : Int) = ((i + (k + 1) : Nat) : Int); omega
def startI (S : St) (L : List Rq) : Int := match L.findIdx? (fun r => decide (S.head ≤ r.page)) with | some k => (k : Int) | none => -1
theorem idx_call (S : St) (F : Nat → Prop) (xb bm : Nat) (D : DataW Unit) (eb : Int → Nat) (c : Array Value) (af : Option Addr) (cf : Nat) (vs : List (Option Addr × Nat)) (w w1 : World) (L : List Rq) (g n cap bq : Nat) (h : ProgBlk w F xb S [] bm D eb c af cf vs) (hb : Below w.heap.size w w1) (hL : IsReady S L) (hn : n = L.length)
    (hrow : Row w1 (fun b => (w1.heap.size : Nat) ≤ b ∨ True) 75 1 (some ⟨g, 0, none⟩) n cap (encE eb (L.map (·.num)))) (hl : L.length ≤ 1000000) (hn0 : 0 < n) (h0 : w1.cell? ⟨bq, 0, none⟩ = some (.pointer (some ⟨xb, 0, none⟩))) (h5 : w1.cell? ⟨xb, 5, none⟩ = some (.int .i64 S.head)) :
    Calls Tryz.prog 51 #[.slice (some ⟨g, 0, none⟩) n cap, .func (.func 52) #[] #[.pointer (some ⟨bq, 0, none⟩)]] w1 fun e w' => e = .returned (.int .i64 (startI S L)) ∧ ∃ q, w' = w1.drewN q := by
  have hmem : ∀ r ∈ L, r ∈ S.reqs := fun r hr => ((hL.mem r).1 hr).1
  obtain ⟨d, hd⟩ : ∃ d : List (RqIn S.reqs), d.map (·.1) = L := ⟨L.pmap (fun r h => (⟨r, h⟩ : RqIn S.reqs)) hmem, by simp [List.map_pmap]⟩
  have hdl : d.length = L.length := by rw [← hd, List.length_map]
  have hd0 : d ≠ [] := fun e => by rw [e] at hdl; simp at hdl; omega
  obtain ⟨x0, hx0⟩ : ∃ x, x ∈ d := List.exists_mem_of_ne_nil _ hd0
  haveI : Inhabited (RqIn S.reqs) := ⟨x0⟩
  have eg : ∀ args w, (callFunc 52 args).run Tryz.prog w = .ok (.enter 52 args) w := enters_of Tryz.func52 (by kernel_rfl) rfl
  have hx := AnyE.slices_IndexFunc Tryz.idxF (encP S.reqs eb) (fun x => decide (S.head ≤ x.1.page)) 52 #[.pointer (some ⟨bq, 0, none⟩)] eg g 0 n cap d w1 (fun W x hW => ?_) (by rw [hdl, hn]; exact Nat.le_refl _) (by omega) (fun j hj => ?_)
  · change Calls Tryz.prog 51 _ _ _ at hx
    have e1 : Lib.idxBy (fun _ y => decide (S.head ≤ y.1.page)) (d.take n) default = startI S L := by
      rw [List.take_of_length_le (by rw [hdl, hn]; exact Nat.le_refl _)]
      unfold Lib.idxBy startI
      rw [idx_find (fun x : RqIn S.reqs => decide (S.head ≤ x.1.page)) default d 0, ← hd, List.findIdx?_map]
      simp only [Nat.zero_add]
      rfl
    rw [e1] at hx
    exact hx
  · have hbb := hb.trans (hW.mono hb.size)
    exact next_clos bq xb (eb x.1.num) S.head x.1.page W ((hW.cell (p := ⟨bq, 0, none⟩) (lt_of_cell h0)).trans h0) ((hW.cell (p := ⟨xb, 5, none⟩) (lt_of_cell h5)).trans h5) (h.entAt hbb x.2).2.1
  · have hjL : j < L.length := by rw [← hdl]; exact hj
    rw [Nat.zero_add, ptr_cell hrow hn hjL]
    have e2 : (d[j]!).1 = L[j] := by
      rw [getElem!_pos d j hj]
      have : (d.map (·.1))[j]? = L[j]? := by rw [hd]
      rw [List.getElem?_map, List.getElem?_eq_getElem hj, List.getElem?_eq_getElem hjL] at this
      exact Option.some.inj this
    unfold encP
    rw [e2]

/-- the chosen requests of the next command -/
def nextL (S : St) (L : List Rq) : List Rq := if S.depth ≤ S.flights.length then [] else togetherM (L.drop (startM S L))
/-- what next leaves -/
def NextAt (eb : Int → Nat) (S : St) (w : World) (e : Ending) (w' : World) : Prop := ∃ L, IsReady S L ∧ ChosenAt eb (nextL S L) w e w'

set_option maxHeartbeats 4000000 in
set_option maxRecDepth 1000000 in
theorem prog_next (S : St) (F : Nat → Prop) (xb bm : Nat) (D : DataW Unit) (eb : Int → Nat) (c : Array Value) (af : Option Addr) (cf : Nat) (vs : List (Option Addr × Nat)) (w : World) (h : ProgBlk w F xb S [] bm D eb c af cf vs) (hl : S.last ≤ 1000000) :
    Calls Tryz.prog 29 #[.pointer (some ⟨xb, 0, none⟩)] w fun e w' => NextAt eb S w e w' := by
  have d0 := h.cell 0 _ h.q.c0
  have d4 := h.cell 4 _ h.q.c4
  have d5 := h.cell 5 _ h.q.c5
  have HQ := hide h
  have hxl := h.lt
  have hdp := h.wf.depth
  have hfl := h.wf.flLen
  clear h
  have HB0 : Hid (Below w.heap.size w (w.alloc (.cells #[.pointer (some ⟨xb, 0, none⟩)] 29))) := alloc_below _ _
  have bx : (w.alloc (.cells #[.pointer (some ⟨xb, 0, none⟩)] 29)).cell? ⟨w.heap.size, 0, none⟩ = some (.pointer (some ⟨xb, 0, none⟩)) := by simp
  have hz0 : (w.alloc (.cells #[.pointer (some ⟨xb, 0, none⟩)] 29)).heap.size = w.heap.size + 1 := by simp
  have e0 := (HB0.out.cell (p := ⟨xb, 0, none⟩) hxl).trans d0
  have e4 := (HB0.out.cell (p := ⟨xb, 4, none⟩) hxl).trans d4
  have e5 := (HB0.out.cell (p := ⟨xb, 5, none⟩) hxl).trans d5
  clear d0 d4 d5
  by_cases hd : S.depth ≤ S.flights.length
  · obtain ⟨L0, hL0⟩ := ready_exists S HQ.out.wf.sorted
    have HF : Hid (NextAt eb S w (.returned (.slice none 0 0)) ((w.alloc (.cells #[.pointer (some ⟨xb, 0, none⟩)] 29)).drewN 1)) := ⟨L0, hL0, none, 0, 0, rfl, by unfold nextL; rw [if_pos hd]; rfl, by unfold nextL; rw [if_pos hd]; exact Row.nil _ _ _ _, below_drewN HB0.out 1⟩
    have HF2 : Hid (∀ q, NextAt eb S w (.returned (.slice none 0 0)) ((w.alloc (.cells #[.pointer (some ⟨xb, 0, none⟩)] 29)).drewN q)) := fun q => ⟨L0, hL0, none, 0, 0, rfl, by unfold nextL; rw [if_pos hd]; rfl, by unfold nextL; rw [if_pos hd]; exact Row.nil _ _ _ _, below_drewN HB0.out q⟩
    clear HF hL0 hfl
    generalize S.flights.length = nfl at *
    go_enter Tryz.func29, Tryz.ntmps29
    go_wp2
    generalize hW : w.alloc (.cells #[.pointer (some ⟨xb, 0, none⟩)] 29) = W0 at *
    clear hW
    go_quiet (fail)
    go_wp2
    go_ret
    exact HF2.out _
  · have HDD : Hid (∀ L, nextL S L = togetherM (L.drop (startM S L))) := fun L => by unfold nextL; rw [if_neg hd]
    have HQ0 : Hid (∀ q, ProgBlk ((w.alloc (.cells #[.pointer (some ⟨xb, 0, none⟩)] 29)).drewN q) F xb S [] bm D eb c af cf vs) := fun q => HQ.out.same (fun k _ hk => Below.heap_alloc w _ k hk) (by show w.heap.size ≤ (w.alloc _).heap.size; simp)
    clear hfl
    generalize S.flights.length = nfl at *
    go_enter Tryz.func29, Tryz.ntmps29
    go_wp2
    generalize hW : w.alloc (.cells #[.pointer (some ⟨xb, 0, none⟩)] 29) = W0 at *
    clear hW
    go_quiet (fail)
    go_wp2_with fail
    refine (prog_ready S F xb bm D eb c af cf vs _ (HQ0.out nq) hl).mono ?_
    rintro e w1 ⟨L, ao, n, cap, rfl, hL, hn, hrow, hb⟩
    have HL := hide hL
    have HN := hide hn
    have HR := hide hrow
    have hzw : W0.heap.size ≤ w1.heap.size := hb.size
    have HB1 : Hid (Below W0.heap.size W0 w1) := (below_drewN (Below.refl _ _) nq).trans hb
    have bx1 : w1.cell? ⟨w.heap.size, 0, none⟩ = some (.pointer (some ⟨xb, 0, none⟩)) := (HB1.out.cell (p := ⟨w.heap.size, 0, none⟩) (by show w.heap.size < W0.heap.size; omega)).trans bx
    have f5 := (HB1.out.cell (p := ⟨xb, 5, none⟩) (by show xb < W0.heap.size; omega)).trans e5
    have HBB : Hid (Below w.heap.size w w1) := HB0.out.trans (HB1.out.mono (by rw [hz0]; omega))
    have hLl : L.length ≤ 1000000 := by
      have h1 : L.length ≤ S.reqs.length := by
        have := nodup_len (l := L.map (·.num)) (m := S.reqs.map (·.num)) (by
          show (L.map (·.num)).Pairwise _
          rw [List.pairwise_map]
          refine hL.sorted.imp_of_mem (fun ha hb hlt e => ?_)
          have := num_uniq HQ.out.wf.sorted ((hL.mem _).1 ha).1 ((hL.mem _).1 hb).1 e
          subst this
          exact Lt2.asymm _ _ hlt hlt) (fun x hx => by
          obtain ⟨r, hr, rfl⟩ := List.mem_map.1 hx
          exact List.mem_map.2 ⟨r, ((hL.mem r).1 hr).1, rfl⟩)
        simpa using this
      have := HQ.out.wf.reqsLen
      omega
    clear hL hn hrow hb e0 e4 e5 bx
    by_cases h0 : n = 0
    · subst h0
      have hLn : L = [] := List.eq_nil_of_length_eq_zero HN.out.symm
      go_wp2
      go_ret
      refine ⟨L, HL.out, none, 0, 0, rfl, ?_, ?_, HBB.out⟩
      · rw [hLn, HDD.out]; rfl
      · rw [hLn, HDD.out]; exact Row.nil _ _ _ _
    · have hn1 : n ≤ 1000000 := by rw [HN.out]; exact hLl
      obtain ⟨g, cur, hg, hge, hgb, hncap, _⟩ := Row.some HR.out (by omega)
      subst hg
      have hLne : L ≠ [] := fun e => h0 (by rw [HN.out, e]; rfl)
      obtain ⟨f, l, hfl1, hfl2, hfm, _⟩ := next_eq HQ.out.wf HL.out hLne
      have HX := hide (idx_call S F xb bm D eb c af cf vs w w1 L g n cap w.heap.size HQ.out HBB.out HL.out HN.out (HR.out.mono (fun _ _ => Or.inr trivial)) hLl (by omega) bx1 f5)
      have hcapm : cap ≤ 9223372036854775807 := by
        rcases HR.out.1.2 with ⟨h0', _⟩ | ⟨g', cap', cur', hv, _, _, _, h4, _⟩
        · cases h0'
        · cases hv; unfold maxLen at h4; omega
      have hst : startM S L < n := by
        have h1 : (L.drop (startM S L)).length = l.length + 1 := by rw [hfl1]; rfl
        rw [List.length_drop] at h1
        rw [HN.out]; omega
      have hm : n - startM S L = (f :: l).length := by rw [← hfl1, List.length_drop, HN.out]
      have HT : Hid (∀ q capx, Calls Tryz.prog 53 #[.slice (some ⟨g, startM S L, none⟩) (n - startM S L) capx] (w1.drewN q) fun e w' => ChosenAt eb (togetherM (f :: l)) (w1.drewN q) e w') := fun q capx => by
        have hsub : ∀ r ∈ f :: l, r ∈ S.reqs := fun r hr => ((HL.out.mem r).1 (List.mem_of_mem_drop (by rw [hfl1]; exact hr))).1
        refine together_go eb f l g (startM S L) _ capx (w1.drewN q) ⟨fun j hj => ?_, fun r hr => ?_, fun r hr => ?_, fun r hr => ?_⟩ hm (by omega) (fun r hr => (HQ.out.wf.rq r (hsub r hr)).page)
        · have hjl : startM S L + j < L.length := by
            have h1 : (L.drop (startM S L)).length = (f :: l).length := by rw [hfl1]
            rw [List.length_drop] at h1; omega
          have hc := ptr_cell HR.out HN.out hjl
          have e1 : (f :: l)[j] = L[startM S L + j] := by
            have : (f :: l)[j]? = L[startM S L + j]? := by rw [← hfl1, List.getElem?_drop]
            rw [List.getElem?_eq_getElem hj, List.getElem?_eq_getElem hjl] at this
            exact Option.some.inj this
          rw [e1]; exact hc
        · exact (HQ.out.entAt HBB.out (hsub r hr)).2.1
        · exact (HQ.out.entAt HBB.out (hsub r hr)).2.2.1
        · exact (HQ.out.entAt HBB.out (hsub r hr)).2.2.2.1
      have HE : Hid (nextL S L = togetherM (f :: l)) := by show _ = _; rw [HDD.out, hfl1]
      clear hfl1 hfl2 hfm hm hgb hLne f5
      cases hfi : L.findIdx? (fun r => decide (S.head ≤ r.page)) with
      | none =>
        have e1 : startI S L = -1 := by unfold startI; rw [hfi]
        have e2 : startM S L = 0 := by unfold startM; rw [hfi]; rfl
        rw [e1] at HX
        rw [e2] at HT hst
        simp only [Nat.sub_zero] at HT
        clear hfi e1 e2
        go_wp2_with (first | (go_at_call 51; refine HX.out.mono ?_; rintro e w2 ⟨rfl, q, hw2⟩; subst hw2) | (go_at_call 53; refine (HT.out _ _).mono ?_; rintro e w2 ⟨a2, n2, c2, rfl, h1, h2, h3⟩; have H1 := hide h1; have H2 := hide h2; have H3 := hide h3; clear h1 h2 h3))
        go_ret
        refine ⟨L, HL.out, ?_⟩
        rw [HE.out]
        exact ⟨a2, n2, c2, rfl, H1.out, H2.out.mono (fun k hk => by have := HBB.out.size; have : w1.heap.size ≤ k := hk; omega), HBB.out.trans ((below_drewN (Below.refl _ _) q).trans H3.out |>.mono HBB.out.size)⟩
      | some i =>
        have e1 : startI S L = i := by unfold startI; rw [hfi]
        have e2 : startM S L = i := by unfold startM; rw [hfi]; rfl
        rw [e1] at HX
        rw [e2] at HT hst
        clear hfi e1 e2
        have hic : i < cap := by omega
        go_wp2_with (first | (go_at_call 51; refine HX.out.mono ?_; rintro e w2 ⟨rfl, q, hw2⟩; subst hw2) | (go_at_call 53; refine (HT.out _ _).mono ?_; rintro e w2 ⟨a2, n2, c2, rfl, h1, h2, h3⟩; have H1 := hide h1; have H2 := hide h2; have H3 := hide h3; clear h1 h2 h3))
        go_ret
        refine ⟨L, HL.out, ?_⟩
        rw [HE.out]
        exact ⟨a2, n2, c2, rfl, H1.out, H2.out.mono (fun k hk => by have := HBB.out.size; have : w1.heap.size ≤ k := hk; omega), HBB.out.trans ((below_drewN (Below.refl _ _) q).trans H3.out |>.mono HBB.out.size)⟩
end Go.Proofs.YtiabdbeejkadnabGreatDoor

/- The program's queue (stage 2's code): a command's own words. Own work of the verifier. -/
namespace Go.Proofs.YtiabdbeejkadnabGreatDoor
open Go.RowKit Go.Maps Go.Sort Go.Shelf

/-- what command reads of its requests -/
structure CmdIn (w : World) (eb : Int → Nat) (ns : List Int) (wr : Bool) (p q : Int) : Prop where
  num : ∀ n ∈ ns, w.cell? ⟨eb n, 0, none⟩ = some (.int .i64 n)
  wr : ∀ n, ns.head? = some n → w.cell? ⟨eb n, 2, none⟩ = some (.bool wr)
  fst : ∀ n, ns.head? = some n → w.cell? ⟨eb n, 1, none⟩ = some (.int .i64 p)
  lst : ∀ n, ns.getLast? = some n → w.cell? ⟨eb n, 1, none⟩ = some (.int .i64 q)
def CmdAt (c : Cmd) (w : World) (e : Ending) (w' : World) : Prop := ∃ ao n cap, e = .returned (.agg #[.bool c.write, .int .i64 c.page, .int .i64 c.count, .slice ao n cap]) ∧ n = c.requests.length ∧ Row w' (fun b => w.heap.size ≤ b) 3 1 ao n cap (encI c.requests) ∧ Below w.heap.size w w'

theorem cmd_rel {w wr w2 : World} {ao : Option Addr} {n cap g cap' : Nat} {xs news : List Value} {o : Obj} {oc orr : Obj} (hb : Below w.heap.size w wr) (hrow : Row wr (fun b => w.heap.size + 2 ≤ b) 3 1 ao n cap xs) (hc : wr.heap[w.heap.size + 1]? = some oc) (hr : wr.heap[w.heap.size]? = some orr)
    (hgrow : ((wr.alloc o).drew).grownBy w2 (Value.ownBlock (.slice ao n cap))) (hown : w2.ownsRow 0 3 1 (.slice (some ⟨g, 0, none⟩) (n + 1) cap') (n + 1) (xs ++ news)) (hat : Value.ownBlock (.slice ao n cap) = some g ∨ g = wr.heap.size + 1) :
    Below w.heap.size w w2 ∧ Row w2 (fun b => w.heap.size + 2 ≤ b) 3 1 (some ⟨g, 0, none⟩) (n + 1) cap' (xs ++ news) ∧ w2.heap[w.heap.size + 1]? = some oc ∧ w2.heap[w.heap.size]? = some orr := by
  have hob : ∀ k, Value.ownBlock (.slice ao n cap) = some k → w.heap.size + 2 ≤ k := by
    intro k hk
    cases ao with
    | none => simp [Value.ownBlock] at hk
    | some a => have := hrow.2 a rfl; simp [Value.ownBlock] at hk; omega
  have hl := lt_of_heap hc
  have hl2 := lt_of_heap hr
  have hk : ∀ k, k < wr.heap.size → k < w.heap.size + 2 → w2.heap[k]? = wr.heap[k]? := fun k h1 h2 => (hgrow.block k (by show k < (wr.alloc o).heap.size; simp; omega) (fun e => by have := hob k e.symm; omega)).trans (Below.heap_alloc wr o k h1)
  refine ⟨((hb.alloc hb.size o).drew).grown hgrow (by have := hb.size; show _ ≤ (wr.alloc o).heap.size; simp; omega) (fun k h => by have := hob k h; omega), ⟨hown, fun a ha => ?_⟩, (hk _ hl (by omega)).trans hc, (hk _ hl2 (by omega)).trans hr⟩
  cases ha
  rcases hat with e | e
  · exact hob g e
  · show w.heap.size + 2 ≤ g; omega

theorem cmd_set {w w2 : World} {ao : Option Addr} {n cap : Nat} {xs : List Value} {x0 x1 x2 x3 : Value} {t : TypeId} {orr : Obj} (hb : Below w.heap.size w w2) (hrow : Row w2 (fun b => w.heap.size + 2 ≤ b) 3 1 ao n cap xs) (hc : w2.heap[w.heap.size + 1]? = some (.cells #[x0, x1, x2, x3] t (0, 0))) (hr : w2.heap[w.heap.size]? = some orr) (v : Value) :
    (w2.setCell ⟨w.heap.size + 1, 3, none⟩ v).heap[w.heap.size + 1]? = some (.cells #[x0, x1, x2, v] t (0, 0)) ∧ (w2.setCell ⟨w.heap.size + 1, 3, none⟩ v).heap[w.heap.size]? = some orr ∧ Row (w2.setCell ⟨w.heap.size + 1, 3, none⟩ v) (fun b => w.heap.size + 2 ≤ b) 3 1 ao n cap xs ∧ Below w.heap.size w (w2.setCell ⟨w.heap.size + 1, 3, none⟩ v) := by
  refine ⟨by rw [heap_setCell_at hc]; rfl, (Below.heap_setCell _ _ _ _ (by show w.heap.size ≠ w.heap.size + 1; omega)).trans hr, hrow.setCell_other (fun a ha => ?_) _, hb.setCell (by show _ ≤ w.heap.size + 1; omega) _⟩
  have := hrow.2 a ha
  show a.block ≠ w.heap.size + 1
  omega
theorem cmd_row {w : World} {F : Nat → Prop} {ao : Option Addr} {n cap : Nat} {l : List Int} {x : Int} (h : Row w F 3 1 ao n cap (encI l ++ [.int .i64 x])) : Row w F 3 1 ao n cap (encI (l ++ [x])) := by
  have e : encI (l ++ [x]) = encI l ++ [.int .i64 x] := by simp [encI]
  rw [e]; exact h

set_option maxHeartbeats 4000000 in
set_option maxRecDepth 1000000 in
theorem prog_command (F : Nat → Prop) (eb : Int → Nat) (ns : List Int) (g n cap : Nat) (wri : Bool) (p q : Int) (w : World) (hrow : Row w F 75 1 (some ⟨g, 0, none⟩) n cap (encE eb ns)) (hn : n = ns.length) (hne : ns ≠ []) (hin : CmdIn w eb ns wri p q) (hl : ns.length ≤ 1000000) (hp : 0 ≤ p ∧ p < 16) (hq : 0 ≤ q ∧ q < 16) :
    Calls Tryz.prog 30 #[.slice (some ⟨g, 0, none⟩) n cap] w fun e w' => CmdAt ⟨wri, p, q - p + 1, ns⟩ w e w' := by
  obtain ⟨i0, hi, hi0, hi1, hi2⟩ := info_parts info_int
  have hcell : ∀ j (h : j < ns.length), w.cell? ⟨g, j, none⟩ = some (.pointer (some ⟨eb (ns[j]), 0, none⟩)) := fun j h => by
    rw [Row.cellAt hrow j (by omega)]
    simp [encE, h]
  have hpos : 0 < ns.length := List.length_pos_iff.2 hne
  have c0 := hcell 0 hpos
  have cl := hcell (ns.length - 1) (by omega)
  have hh : ns.head? = some ns[0] := by rw [List.head?_eq_getElem?, List.getElem?_eq_getElem hpos]
  have hg' : ns.getLast? = some ns[ns.length - 1] := by rw [List.getLast?_eq_getElem?, List.getElem?_eq_getElem (by omega)]
  have w0 := hin.wr _ hh
  have p0 := hin.fst _ hh
  have q0 := hin.lst _ hg'
  have HNUM := hide hin.num
  have HCELL := hide hcell
  have hgl : g < w.heap.size := lt_of_cell c0
  generalize hf : ns[0] = n0 at *
  generalize hla : ns[ns.length - 1] = nl at *
  have HN := hide hn
  obtain ⟨hp0, hp1⟩ := hp
  obtain ⟨hq0, hq1⟩ := hq
  rw [← hn] at cl
  have hnl : n ≤ 1000000 := by omega
  have hnp : 0 < n := by omega
  clear hin hcell hh hg' hf hla hrow hn hne
  go_enter Tryz.func30, Tryz.ntmps30
  have HB0 : Hid (Below w.heap.size w (w.alloc (.cells #[.bool false, .int .i64 0, .int .i64 0, .slice none 0 0] 45))) := alloc_below _ _
  have HR0 : Hid ((w.alloc (.cells #[.bool false, .int .i64 0, .int .i64 0, .slice none 0 0] 45)).heap[w.heap.size]? = some (.cells #[.bool false, .int .i64 0, .int .i64 0, .slice none 0 0] 45 (0, 0))) := heap_alloc_new w _
  have HZ0 : (w.alloc (.cells #[.bool false, .int .i64 0, .int .i64 0, .slice none 0 0] 45)).heap.size = w.heap.size + 1 := by simp
  have hn0l : eb n0 < w.heap.size := lt_of_cell p0
  have hnll : eb nl < w.heap.size := lt_of_cell q0
  have c0' := (HB0.out.cell (p := ⟨g, 0, none⟩) hgl).trans c0
  have cl' := (HB0.out.cell (p := ⟨g, n - 1, none⟩) hgl).trans cl
  have w0' := (HB0.out.cell (p := ⟨eb n0, 2, none⟩) hn0l).trans w0
  have p0' := (HB0.out.cell (p := ⟨eb n0, 1, none⟩) hn0l).trans p0
  have q0' := (HB0.out.cell (p := ⟨eb nl, 1, none⟩) hnll).trans q0
  have hn1 : ((n : Int) - 1).toNat = n - 1 := by omega
  clear c0 cl w0 p0 q0
  go_wp2
  generalize hW : w.alloc (.cells #[.bool false, .int .i64 0, .int .i64 0, .slice none 0 0] 45) = W0 at *
  clear hW
  go_quiet (fail)
  go_wp2
  have HB1 : Hid (Below w.heap.size w (W0.drewN nq)) := below_drewN HB0.out nq
  have HR1 : Hid ((W0.drewN nq).heap[w.heap.size]? = some (.cells #[.bool false, .int .i64 0, .int .i64 0, .slice none 0 0] 45 (0, 0))) := HR0.out
  have HZ1 : (W0.drewN nq).heap.size = w.heap.size + 1 := HZ0
  have w1 : (W0.drewN nq).cell? ⟨eb n0, 2, none⟩ = some (.bool wri) := w0'
  have p1 : (W0.drewN nq).cell? ⟨eb n0, 1, none⟩ = some (.int .i64 p) := p0'
  have q1 : (W0.drewN nq).cell? ⟨eb nl, 1, none⟩ = some (.int .i64 q) := q0'
  clear c0' cl' w0' p0' q0' HB0 HR0 HZ0
  generalize W0.drewN nq = W1 at *
  have hn0W : eb n0 < W1.heap.size := by omega
  have hnlW : eb nl < W1.heap.size := by omega
  go_region_held3 (fun W => W.cell? ⟨eb n0, 2, none⟩ = some (.bool wri) ∧ W.cell? ⟨eb n0, 1, none⟩ = some (.int .i64 p) ∧ W.cell? ⟨eb nl, 1, none⟩ = some (.int .i64 q)) (go_keep) (fail)
  have HB2 : Hid (Below w.heap.size w (W1.alloc (.cells #[.bool wri, .int .i64 p, .int .i64 (q - p + 1), .slice none 0 0] 45)).drew) := (HB1.out.trans ((alloc_below _ _).mono HB1.out.size)).drew
  have HC2 : Hid ((W1.alloc (.cells #[.bool wri, .int .i64 p, .int .i64 (q - p + 1), .slice none 0 0] 45)).drew.heap[w.heap.size + 1]? = some (.cells #[.bool wri, .int .i64 p, .int .i64 (q - p + 1), .slice none 0 0] 45 (0, 0))) := by
    have := heap_alloc_new W1 (.cells #[.bool wri, .int .i64 p, .int .i64 (q - p + 1), .slice none 0 0] 45)
    rw [HZ1] at this; exact this
  have HR2 : Hid ((W1.alloc (.cells #[.bool wri, .int .i64 p, .int .i64 (q - p + 1), .slice none 0 0] 45)).drew.heap[w.heap.size]? = some (.cells #[.bool false, .int .i64 0, .int .i64 0, .slice none 0 0] 45 (0, 0))) := (Below.heap_alloc W1 _ _ (by omega)).trans HR1.out
  go_wp2
  generalize (W1.alloc (.cells #[.bool wri, .int .i64 p, .int .i64 (q - p + 1), .slice none 0 0] 45)).drew = W2 at *
  clear w1 p1 q1 HB1 HR1 hn1
  go_loopw [38] (fun i wx => ∃ (k capr : Nat) (ao : Option Addr), k ≤ n ∧ i = .int .i64 k ∧ Hid (wx.heap[w.heap.size + 1]? = some (.cells #[.bool wri, .int .i64 p, .int .i64 (q - p + 1), .slice ao k capr] 45 (0, 0))) ∧ Hid (wx.heap[w.heap.size]? = some (.cells #[.bool false, .int .i64 0, .int .i64 0, .slice none 0 0] 45 (0, 0))) ∧ Hid (Row wx (fun b => w.heap.size + 2 ≤ b) 3 1 ao k capr (encI (ns.take k))) ∧ Hid (Below w.heap.size w wx)) (fun i _ => n - (intOf i).toNat)
  case atStart => exact ⟨0, 0, none, Nat.zero_le _, rfl, HC2, HR2, Row.nil _ _ _ _, HB2⟩
  case round =>
    obtain ⟨k, capr, ao, hk, rfl, hcb, hrb, hrow, hb⟩ := hrel
    by_cases hlt : k < n
    · have hkn : k < ns.length := by rw [← HN.out]; exact hlt
      have ck := (hb.out.cell (p := ⟨g, k, none⟩) hgl).trans (HCELL.out k hkn)
      have nk0 := HNUM.out _ (List.getElem_mem hkn)
      have nk := (hb.out.cell (p := ⟨eb (ns[k]), 0, none⟩) (lt_of_cell nk0)).trans nk0
      have hnkl : eb (ns[k]) < wr.heap.size := lt_of_cell nk
      have HTK : Hid (ns.take (k + 1) = ns.take k ++ [ns[k]]) := List.take_succ_eq_append_getElem hkn
      obtain ⟨⟨b0, b1, b2, b3⟩, z0, z1, z2, z3⟩ := cells4 hcb.out
      have hcl : w.heap.size + 1 < wr.heap.size := lt_of_heap hcb.out
      clear nk0
      generalize ns[k] = x at *
      have HO : Hid (((wr.alloc (.cells #[.int .i64 x] 3)).drew).ownsRow 0 3 1 (.slice ao k capr) k (encI (ns.take k))) := (hrow.out.alloc _).1
      have HW : Hid (∀ (j : Nat) (u : Value), [Value.int .i64 x][j]? = some u → ((wr.alloc (.cells #[.int .i64 x] 3)).drew).cell? ((⟨wr.heap.size, 0, none⟩ : Addr).add j) = some u) := fun j u => news_new j u
      go_wp2
      go_region_law (refine step_append_lies _ rfl (.tmp 43) (.tmp 48) 43 rfl 0 3 i0 (.int .i64 0) 1 8 Tryz.underlying43 hi hi0 hi1 hi2 rfl (by decide) (.slice ao k capr) k (encI (ns.take k)) (by simp [Act.eval]) HO.out ⟨wr.heap.size, 0, none⟩ 1 1 [Value.int .i64 x] (by simp [Act.eval]) rfl HW.out (by intro u hu; simp at hu; subst hu; rfl) (by decide) (by unfold maxLen; omega) (by omega) (Nat.zero_le _) (wr.heap.size + 1) (by simp) ?_; intro g2 cap' w2 hown hgrow hat hlt3; have HX := hide (cmd_rel hb.out hrow.out hcb.out hrb.out hgrow hown hat); obtain ⟨⟨y0, y1, y2, y3⟩, x0, x1, x2, x3⟩ := cells4 HX.out.2.2.1)
      all_goals clear hown hgrow hat hlt3
      all_goals go_wp2
      all_goals go_roundw
      all_goals first
        | (simp [intOf]; omega)
        | exact ⟨k + 1, cap', some ⟨g2, 0, none⟩, by omega, by go_num, (cmd_set HX.out.1 HX.out.2.1 HX.out.2.2.1 HX.out.2.2.2 _).1, (cmd_set HX.out.1 HX.out.2.1 HX.out.2.2.1 HX.out.2.2.2 _).2.1, by show Row _ _ _ _ _ _ _ _; rw [HTK.out]; exact cmd_row (cmd_set HX.out.1 HX.out.2.1 HX.out.2.2.1 HX.out.2.2.2 _).2.2.1, (cmd_set HX.out.1 HX.out.2.1 HX.out.2.2.1 HX.out.2.2.2 _).2.2.2⟩
    · have hkn : k = n := by omega
      subst hkn
      obtain ⟨⟨b0, b1, b2, b3⟩, z0, z1, z2, z3⟩ := cells4 hcb.out
      obtain ⟨⟨r0, r1, r2, r3⟩, s0, s1, s2, s3⟩ := cells4 hrb.out
      have hl1 := lt_of_heap hcb.out
      have hl2 := lt_of_heap hrb.out
      go_wp2
      refine bodyPost_ret (v := .agg #[.bool wri, .int .i64 p, .int .i64 (q - p + 1), .slice ao k capr]) (by simp [results, Tryz.results30, go_sem, r0, r1, r2, r3]) rfl ⟨ao, k, capr, rfl, HN.out, ?_, ?_⟩
      · have h1 := hrow.out
        rw [List.take_of_length_le (by rw [HN.out]; exact Nat.le_refl _)] at h1
        have hne : ∀ a, ao = some a → a.block ≠ w.heap.size := fun a ha => by have := h1.2 a ha; omega
        exact ((((h1.setCell_other (p := ⟨w.heap.size, 0, none⟩) hne _).setCell_other (p := ⟨w.heap.size, 1, none⟩) hne _).setCell_other (p := ⟨w.heap.size, 2, none⟩) hne _).setCell_other (p := ⟨w.heap.size, 3, none⟩) hne _).mono (fun k hk => by omega)
      · exact (((hb.out.setCell (Nat.le_refl _) _).setCell (Nat.le_refl _) _).setCell (Nat.le_refl _) _).setCell (Nat.le_refl _) _
end Go.Proofs.YtiabdbeejkadnabGreatDoor
