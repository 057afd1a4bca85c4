import Derived.Test.YtiabdbeejkadnaaGreatDoorJ670a8aa7d7
import Derived.Test.YtiabdbeejkadnaaGreatDoorJea7c02b8cc
/- The program's queue (stage 2's code): Step. Own work of the verifier. -/
namespace Go.Proofs.YtiabdbeejkadnaaGreatDoor
open Go.RowKit Go.Maps Go.Sort Go.Shelf

theorem info_fl : (Tryz.prog.info? 81).map (fun i => (i.zero, i.size, i.bytes)) = some (some (.slice none 0 0), 1, 24) := by kernel_rfl
/-- behind the append to the commands under way, and its store -/
def StepMid (w W0 w2 : World) (F : Nat → Prop) (xb : Nat) (S : St) (cm : Cmd) (g2 cap2 : Nat) (eb : Int → Nat) (g cap : Nat) : Prop :=
  Kept F w (w2.setCell ⟨xb, 4, none⟩ (.slice (some ⟨g2, 0, none⟩) (S.flights.length + 1) cap2)) ∧ (∃ bm D c af cf vs, ProgBlk (w2.setCell ⟨xb, 4, none⟩ (.slice (some ⟨g2, 0, none⟩) (S.flights.length + 1) cap2)) (Foot F W0 w2) xb { S with reqs := markM S.reqs cm.requests, flights := S.flights ++ [cm] } [] bm D eb c af cf vs) ∧
    Row (w2.setCell ⟨xb, 4, none⟩ (.slice (some ⟨g2, 0, none⟩) (S.flights.length + 1) cap2)) (Foot F W0 w2) 92 1 (some ⟨g, 0, none⟩) cm.requests.length cap (encE eb cm.requests)
theorem WfE.setHead {S : St} {E : List Int} (h : WfE S E) (hd : Int) (hh : 0 ≤ hd ∧ hd ≤ 16) : WfE { S with head := hd } E :=
  ⟨h.depth, h.last, h.now, hh, h.disk, h.sorted, h.rq, h.airIn, h.nodup, h.toldIn, h.toldNd, h.len, h.flLen, fun c hc => (h.fl c hc).of (fun r hr _ => ⟨r, hr, rfl, rfl, rfl⟩)⟩
theorem step_mid {w W0 wr w2 : World} {F : Nat → Prop} {xb : Nat} {S : St} {cm : Cmd} {C : List Rq} {bm : Nat} {D : DataW Unit} {eb : Int → Nat} {c : Array Value} {af : Option Addr} {cf : Nat} {vs : List (Option Addr × Nat)} {g k cap g2 cap2 : Nat} {o : Obj} {oc : Array Value} {ot : TypeId}
    (hP : ProgBlk wr F xb { S with reqs := markM S.reqs cm.requests } cm.requests bm D eb c af cf vs) (hs : Sends S cm C) (hw : Wf S) (hd : ¬ S.depth ≤ S.flights.length) (hK : Kept F w wr) (hF : ∀ j, F j → j < w.heap.size) (hz0 : W0.heap.size = w.heap.size + 1) (hz1 : W0.heap.size ≤ wr.heap.size)
    (hrow : Row wr (fun b => W0.heap.size ≤ b) 92 1 (some ⟨g, 0, none⟩) k cap (encE eb cm.requests)) (hk : k = cm.requests.length) (hR : wr.heap[w.heap.size]? = some (.cells oc ot (0, 0))) (hot : ot ≠ 81)
    (hgrow : (wr.alloc o).grownBy w2 (Value.ownBlock (.slice af S.flights.length cf))) (hown : w2.ownsRow 0 81 1 (.slice (some ⟨g2, 0, none⟩) (S.flights.length + 1) cap2) (S.flights.length + 1) (((S.flights.zip vs).map fun x => Value.slice x.2.1 x.1.requests.length x.2.2) ++ [.slice (some ⟨g, 0, none⟩) k cap])) (hat : Value.ownBlock (.slice af S.flights.length cf) = some g2 ∨ g2 = wr.heap.size + 1) (hlt : g2 < w2.heap.size) :
    StepMid w W0 w2 F xb S cm g2 cap2 eb g cap ∧ w2.heap[w.heap.size]? = some (.cells oc ot (0, 0)) ∧ w2.cell? ⟨xb, 4, none⟩ = some (.slice af S.flights.length cf) ∧ w2.frozen? ⟨xb, 4, none⟩ = false := by
  subst hk
  have hob : ∀ j, Value.ownBlock (.slice af S.flights.length cf) = some j → ∃ a, af = some a ∧ a.block = j := by
    intro j hj
    cases af with
    | none => simp [Value.ownBlock] at hj
    | some a => exact ⟨a, rfl, by simpa [Value.ownBlock] using hj⟩
  have hsame : ∀ j, j < wr.heap.size → (∀ a, af = some a → a.block ≠ j) → w2.heap[j]? = wr.heap[j]? := fun j hj hne =>
    (hgrow.block j (by simp; omega) (fun e => by obtain ⟨a, ha, hab⟩ := hob j e.symm; exact hne a ha hab)).trans (Below.heap_alloc wr o j hj)
  have hzz : wr.heap.size + 1 ≤ w2.heap.size := by have := hgrow.size; simpa using this
  have hl : ∀ j, Foot F W0 w2 j → j < w2.heap.size := fun j hj => hj.elim (fun e => by have := hF j e; omega) (fun e => e.2)
  have hg2 : Foot F W0 w2 g2 := by
    rcases hat with e | e
    · obtain ⟨a, ha, hab⟩ := hob g2 e
      exact Or.inl (hab ▸ hP.l.row.2 a ha)
    · exact Or.inr ⟨by omega, hlt⟩
  have hin2 : Row w2 (Foot F W0 w2) 92 1 (some ⟨g, 0, none⟩) cm.requests.length cap (encE eb cm.requests) := by
    refine ⟨(hrow.same fun a ha => ?_).1, fun a ha => ?_⟩
    · obtain ⟨cur, hh, _⟩ := hrow.block ha
      exact hsame _ (lt_of_heap hh) (fun a' ha' e => hP.l.row.ne hh (by decide) a' ha' e)
    · obtain ⟨cur, hh, _⟩ := hrow.block ha
      have := hrow.2 a ha
      have := lt_of_heap hh
      exact Or.inr ⟨by omega, by omega⟩
  have hwf : Wf { S with reqs := markM S.reqs cm.requests, flights := S.flights ++ [cm] } := (hs.wf hw hd).setHead S.head hw.head
  have hsent := hP.sent (w2 := w2) (F' := Foot F W0 w2) (cm := cm) (af' := some ⟨g2, 0, none⟩) (cf' := cap2) (ao := some ⟨g, 0, none⟩) (cap := cap) hsame (by omega) (fun j hj => Or.inl hj) hl ⟨hown, fun a ha => by cases ha; exact hg2⟩ hin2 hwf
  have hxb : w2.heap[xb]? = wr.heap[xb]? := hsame xb hP.lt (hP.l.row.ne hP.blk (by decide))
  refine ⟨⟨?_, ⟨bm, D, _, _, _, _, hsent⟩, hin2.setCell_other (hin2.ne (hxb.trans hP.blk) (by decide)) _⟩, (hsame _ (lt_of_heap hR) (fun a ha e => hP.l.row.ne hR (fun e' => hot e'.symm) a ha e)).trans hR, ?_, ?_⟩
  · refine Kept.setCell ((hK.alloc o).grown hgrow (fun j hj => ?_)) (Or.inl hP.own) _
    obtain ⟨a, ha, hab⟩ := hob j hj
    exact Or.inl (hab ▸ hP.l.row.2 a ha)
  · rw [World.cell?_of_block (a := ⟨xb, 4, none⟩) hxb]; exact hP.cell 4 _ hP.q.c4
  · rw [World.frozen?_of_block (a := ⟨xb, 4, none⟩) hxb]; exact hP.fz 4
/-- what a command under way reads of its requests -/
theorem ProgBlk.cmdIn {w : World} {F : Nat → Prop} {xb : Nat} {S : St} {E : List Int} {bm : Nat} {D : DataW Unit} {eb : Int → Nat} {c : Array Value} {af : Option Addr} {cf : Nat} {vs : List (Option Addr × Nat)} (h : ProgBlk w F xb S E bm D eb c af cf vs) {cm : Cmd} (hc : cm ∈ S.flights) :
    CmdIn w eb cm.requests cm.write cm.page (cm.page + cm.count - 1) ∧ (0 ≤ cm.page ∧ cm.page < 16) ∧ (0 ≤ cm.page + cm.count - 1 ∧ cm.page + cm.count - 1 < 16) := by
  have hok := h.wf.fl cm hc
  have hin : ∀ n ∈ cm.requests, ∃ r ∈ S.reqs, r.num = n := fun n hn => h.wf.airIn n (List.mem_append_left _ (List.mem_flatMap.2 ⟨cm, hc, hn⟩))
  have hcell : ∀ n ∈ cm.requests, ∃ r ∈ S.reqs, r.num = n ∧ w.cell? ⟨eb n, 0, none⟩ = some (.int .i64 n) ∧ w.cell? ⟨eb n, 1, none⟩ = some (.int .i64 r.page) ∧ w.cell? ⟨eb n, 2, none⟩ = some (.bool r.write) := fun n hn => by
    obtain ⟨r, hr, rfl⟩ := hin n hn
    have := h.entAt (Below.refl _ _) hr
    exact ⟨r, hr, rfl, this.1, this.2.1, this.2.2.1⟩
  refine ⟨⟨fun n hn => ?_, fun n hn => ?_, fun n hn => ?_, fun n hn => ?_⟩, ?_, ?_⟩
  · obtain ⟨r, _, _, h0, _⟩ := hcell n hn; exact h0
  · obtain ⟨r, hr, rfl, _, _, h2⟩ := hcell n (List.mem_of_head? hn)
    rw [h2, hok.wr r hr (List.mem_of_head? hn)]
  · obtain ⟨r, hr, rfl, _, h1, _⟩ := hcell n (List.mem_of_head? hn)
    rw [h1, hok.fst r hr hn]
  · obtain ⟨r, hr, rfl, _, h1, _⟩ := hcell n (List.mem_of_getLast? hn)
    rw [h1, hok.lst r hr hn]
  · obtain ⟨n, hn⟩ : ∃ n, cm.requests.head? = some n := by
      cases hx : cm.requests with
      | nil => exact absurd hx hok.ne
      | cons a l => exact ⟨a, rfl⟩
    obtain ⟨r, hr, rfl⟩ := hin n (List.mem_of_head? hn)
    rw [← hok.fst r hr hn]; exact (h.wf.rq r hr).page
  · obtain ⟨n, hn⟩ : ∃ n, cm.requests.getLast? = some n := by
      cases hx : cm.requests.getLast? with
      | none => exact absurd (List.getLast?_eq_none_iff.1 hx) hok.ne
      | some a => exact ⟨a, rfl⟩
    obtain ⟨r, hr, rfl⟩ := hin n (List.mem_of_getLast? hn)
    rw [← hok.lst r hr hn]; exact (h.wf.rq r hr).page
set_option maxHeartbeats 4000000 in
set_option maxRecDepth 1000000 in
theorem prog_step (S : St) (F : Nat → Prop) (xb : Nat) (w : World) (h : ProgAt w F xb S) (hl : S.last ≤ 1000000) :
    Calls Tryz.prog 26 #[.pointer (some ⟨xb, 0, none⟩)] w fun e w' => StepEnd F xb S w e w' := by
  obtain ⟨i0, hi, hi0, hi1, hi2⟩ := info_parts info_fl
  obtain ⟨bm, D, eb, c, af, cf, vs, h⟩ := h
  have HQ := hide h
  have hxl := h.lt
  have HF := hide h.ltF
  clear h
  have HB0 : Hid (Below w.heap.size w (w.alloc (.cells #[.bool false, .int .i64 0, .int .i64 0, .slice none 0 0] 44))) := alloc_below _ _
  have HR0 : Hid ((w.alloc (.cells #[.bool false, .int .i64 0, .int .i64 0, .slice none 0 0] 44)).heap[w.heap.size]? = some (.cells #[.bool false, .int .i64 0, .int .i64 0, .slice none 0 0] 44 (0, 0))) := heap_alloc_new w _
  have HZ0 : (w.alloc (.cells #[.bool false, .int .i64 0, .int .i64 0, .slice none 0 0] 44)).heap.size = w.heap.size + 1 := by simp
  have HQ0 : Hid (ProgBlk (w.alloc (.cells #[.bool false, .int .i64 0, .int .i64 0, .slice none 0 0] 44)) F xb S [] bm D eb c af cf vs) := HQ.out.same (fun k _ hk => Below.heap_alloc w _ k hk) (by simp)
  go_enter Tryz.func26, Tryz.ntmps26
  go_wp2_with fail
  generalize hW : w.alloc (.cells #[.bool false, .int .i64 0, .int .i64 0, .slice none 0 0] 44) = W0 at *
  clear hW
  refine (orEmpty_some _ _).mono ?_
  rintro e w1 ⟨rfl, hw⟩
  have hw := hw.symm
  subst hw
  go_wp2_with fail
  refine (prog_next S F xb bm D eb c af cf vs _ HQ0.out hl).mono ?_
  rintro e w1 ⟨L, hL, ao, n, cap, rfl, hn, hrow, hb⟩
  have HL := hide hL
  have HN := hide hn
  have HR := hide hrow
  have HB := hide hb
  have HC := hide (next_cases HQ.out.wf hL)
  clear hL hn hrow hb
  by_cases h0 : n = 0
  · subst h0
    have hnil : nextL S L = [] := List.eq_nil_of_length_eq_zero HN.out.symm
    have hnone : nextM S = none := HC.out.elim (fun e => e.2) (fun e => absurd hnil e.1)
    have HST : Hid (stepM S = (none, S)) := by show _ = _; unfold stepM; rw [hnone]
    have HNM := hide hnone
    have HR1 : w1.heap[w.heap.size]? = some (.cells #[.bool false, .int .i64 0, .int .i64 0, .slice none 0 0] 44 (0, 0)) := (HB.out.block _ (by omega)).trans HR0.out
    obtain ⟨⟨r0, r1, r2, r3⟩, s0, s1, s2, s3⟩ := cells4 HR1
    have hz1 : W0.heap.size ≤ w1.heap.size := HB.out.size
    have hzz : w.heap.size < w1.heap.size := by omega
    clear HR1 hnone hnil
    go_wp2
    have HBW : Below w.heap.size w ((((w1.setCell ⟨w.heap.size, 0, none⟩ (.bool false)).setCell ⟨w.heap.size, 1, none⟩ (.int .i64 0)).setCell ⟨w.heap.size, 2, none⟩ (.int .i64 0)).setCell ⟨w.heap.size, 3, none⟩ (.slice none 0 0)) := ((((HB0.out.trans (HB.out.mono (by omega))).setCell (Nat.le_refl _) _).setCell (Nat.le_refl _) _).setCell (Nat.le_refl _) _).setCell (Nat.le_refl _) _
    refine bodyPost_ret (v := .tuple #[.agg #[.bool false, .int .i64 0, .int .i64 0, .slice none 0 0], .bool false]) (by simp [results, Tryz.results26, go_sem, r0, r1, r2, r3]) rfl ⟨none, 0, 0, F, ?_, ?_, ?_, ?_, fun _ hk => hk, fun k hk => Or.inl hk, Go.Proofs.YtiabdbeejkadnaaGreatDoor.Below.kept HBW F⟩
    · rw [HNM.out]; rfl
    · rw [HNM.out]; rfl
    · rw [HNM.out]; exact Row.nil _ _ _ _
    · rw [HST.out]; exact ⟨bm, D, eb, c, af, cf, vs, HQ.out.same (fun k _ hk => HBW.block k hk) HBW.size⟩
  · obtain ⟨cm, hcm, hsnd, hdp⟩ : ∃ cm, nextM S = some cm ∧ Sends S cm (nextL S L) ∧ ¬ S.depth ≤ S.flights.length := HC.out.elim (fun e => absurd (by rw [HN.out, e.1]; rfl) h0) (fun e => e.2)
    have HST : Hid (stepM S = (some cm, sendM S cm)) := by show _ = _; unfold stepM; rw [hcm]
    have HNM := hide hcm
    have HSN := hide hsnd
    have HDP := hide hdp
    have HNN : Hid (n = cm.requests.length) := by show n = _; rw [HN.out, hsnd.nums, List.length_map]
    have HRW : Hid (Row w1 (fun b => W0.heap.size ≤ b) 92 1 ao n cap (encE eb cm.requests)) := by rw [hsnd.nums]; exact HR.out
    have hnl : n ≤ 1000000 := by
      rw [HNN.out]
      have h1 := (hsnd.wf HQ.out.wf hdp).airLen
      have h2 : cm.requests.length ≤ (airs (sendM S cm) ++ []).length := by unfold airs sendM; simp
      have h3 : (sendM S cm).reqs.length = S.reqs.length := mark_len _ _
      have h4 := HQ.out.wf.reqsLen
      omega
    obtain ⟨g, cur, hg, hge, hgb, hncap, _⟩ := Row.some HRW.out (by omega)
    subst hg
    have HQ1 : Hid (ProgBlk w1 F xb S [] bm D eb c af cf vs) := HQ0.out.same (fun k _ hk => HB.out.block k hk) HB.out.size
    have HR1 : Hid (w1.heap[w.heap.size]? = some (.cells #[.bool false, .int .i64 0, .int .i64 0, .slice none 0 0] 44 (0, 0))) := (HB.out.block _ (by omega)).trans HR0.out
    have HBB : Hid (Below w.heap.size w w1) := HB0.out.trans (HB.out.mono (by omega))
    have hz1 : W0.heap.size ≤ w1.heap.size := HB.out.size
    clear hcm hsnd hdp HC HL HN HR hgb
    go_wp2
    go_loopw [18] (fun i wx => ∃ k : Nat, k ≤ n ∧ i = .int .i64 k ∧ Hid (ProgBlk wx F xb { S with reqs := markM S.reqs (cm.requests.take k) } (cm.requests.take k) bm D eb c af cf vs) ∧ Hid (Kept F w1 wx)) (fun i _ => n - (intOf i).toNat)
    case atStart => exact ⟨0, Nat.zero_le _, rfl, by show ProgBlk _ _ _ _ _ _ _ _ _ _ _ _; rw [List.take_zero, mark_nil]; exact HQ1.out, Kept.refl _ _⟩
    case round =>
      obtain ⟨k, hk, rfl, hP, hK⟩ := hrel
      have hgw : ∀ a, (some (⟨g, 0, none⟩ : Addr)) = some a → ¬ F a.block := fun a ha => by cases ha; exact fun e => by have := HF.out _ e; have h2 : W0.heap.size ≤ g := hge; have h3 : g < w.heap.size := this; omega
      have HRX := hide (HRW.out.kept hK.out hgw)
      by_cases hlt : k < n
      · have hkr : k < cm.requests.length := by rw [← HNN.out]; exact hlt
        obtain ⟨m1, m2, m3, m4⟩ := hP.out.marked HSN.out HQ.out.wf hkr
        have ck : wr.cell? ⟨g, k, none⟩ = some (.pointer (some ⟨eb (cm.requests[k]), 0, none⟩)) := by
          rw [Row.cellAt HRX.out k (by omega)]
          simp [encE, hkr]
        have M1 := hide m1
        have M2 : Hid (Kept F w1 (wr.setCell ⟨eb (cm.requests[k]), 9, none⟩ (.int .i64 1))) := hK.out.setCell (p := ⟨eb (cm.requests[k]), 9, none⟩) (Or.inl m2) _
        clear m1 m2 hgw
        generalize cm.requests[k] = x at *
        go_wp2
        go_roundw
        case rel => exact ⟨k + 1, by omega, by go_num, M1, M2⟩
        case measure => simp [intOf]; omega
      · have hkn : k = n := by omega
        subst hkn
        have htk : cm.requests.take k = cm.requests := List.take_of_length_le (by rw [HNN.out]; exact Nat.le_refl _)
        have HP : Hid (ProgBlk wr F xb { S with reqs := markM S.reqs cm.requests } cm.requests bm D eb c af cf vs) := by have := hP.out; rw [htk] at this; exact this
        have hz2 : Hid (w1.heap.size ≤ wr.heap.size) := hK.out.size
        have hxw : xb < wr.heap.size := HP.out.lt
        have d4 := HP.out.cell 4 _ HP.out.q.c4
        have f4 := HP.out.fz 4
        have HR2 : Hid (wr.heap[w.heap.size]? = some (.cells #[.bool false, .int .i64 0, .int .i64 0, .slice none 0 0] 44 (0, 0))) := (hK.out.block _ (lt_of_heap HR1.out) (fun e => by have := HF.out _ e; omega)).trans HR1.out
        have HNF : Hid (S.flights.length ≤ 4) := by have := HQ.out.wf.flLen; have := HQ.out.wf.depth; show _ ≤ _; omega
        have hnf4 := HNF.out
        have HO : Hid ((wr.alloc (.cells #[.slice (some ⟨g, 0, none⟩) k cap] 81)).ownsRow 0 81 1 (.slice af S.flights.length cf) S.flights.length ((S.flights.zip vs).map fun x => Value.slice x.2.1 x.1.requests.length x.2.2)) := (HP.out.l.row.alloc _).1
        have HW : Hid (∀ (j : Nat) (u : Value), [Value.slice (some ⟨g, 0, none⟩) k cap][j]? = some u → (wr.alloc (.cells #[.slice (some ⟨g, 0, none⟩) k cap] 81)).cell? ((⟨wr.heap.size, 0, none⟩ : Addr).add j) = some u) := fun j u => news_new j u
        have HKW : Hid (Kept F w wr) := (Go.Proofs.YtiabdbeejkadnaaGreatDoor.Below.kept HBB.out F).then hK.out
        have hzr : W0.heap.size ≤ wr.heap.size := by have := hz2.out; omega
        have HFIN : Hid (∀ (g2 cap2 : Nat) (w2 : World), (wr.alloc (.cells #[.slice (some ⟨g, 0, none⟩) k cap] 81)).grownBy w2 (Value.ownBlock (.slice af S.flights.length cf)) → w2.ownsRow 0 81 1 (.slice (some ⟨g2, 0, none⟩) (S.flights.length + 1) cap2) (S.flights.length + 1) (((S.flights.zip vs).map fun x => Value.slice x.2.1 x.1.requests.length x.2.2) ++ [.slice (some ⟨g, 0, none⟩) k cap]) → (Value.ownBlock (.slice af S.flights.length cf) = some g2 ∨ g2 = wr.heap.size + 1) → g2 < w2.heap.size →
            StepMid w W0 w2 F xb S cm g2 cap2 eb g cap ∧ w2.heap[w.heap.size]? = some (.cells #[.bool false, .int .i64 0, .int .i64 0, .slice none 0 0] 44 (0, 0)) ∧ w2.cell? ⟨xb, 4, none⟩ = some (.slice af S.flights.length cf) ∧ w2.frozen? ⟨xb, 4, none⟩ = false) :=
          fun g2 cap2 w2 h1 h2 h3 h4 => step_mid HP.out HSN.out HQ.out.wf (by have := HDP.out; omega) HKW.out HF.out HZ0 hzr HRX.out HNN.out HR2.out (by decide) h1 h2 h3 h4
        clear htk hP hK HRX HRW
        go_wp2_with (at_builtin; go_must (refine wpList_append_lies _ rfl (.tmp 30) (.tmp 32) 73 rfl 0 81 i0 (.slice none 0 0) 1 24 Tryz.underlying73 hi hi0 hi1 hi2 rfl (by decide) (.slice af S.flights.length cf) S.flights.length ((S.flights.zip vs).map fun x => Value.slice x.2.1 x.1.requests.length x.2.2) rfl HO.out ⟨wr.heap.size, 0, none⟩ 1 1 [Value.slice (some ⟨g, 0, none⟩) k cap] rfl rfl HW.out (by intro u hu; simp at hu; subst hu; rfl) (by decide) (by unfold maxLen; omega) (by omega) (Nat.zero_le _) (wr.heap.size + 1) (by simp) ?_; intro g2 cap2 w2 hown hgrow hat hlt3; have HX := hide (HFIN.out g2 cap2 w2 hgrow hown hat hlt3); clear hown hgrow hat hlt3; have y4 := HX.out.2.2.1; have z4 := HX.out.2.2.2))
        have HMID := hide HX.out.1
        have HR3 : Hid (w2.heap[w.heap.size]? = some (.cells #[.bool false, .int .i64 0, .int .i64 0, .slice none 0 0] 44 (0, 0))) := HX.out.2.1
        have hxne : w.heap.size ≠ xb := by omega
        have HR4 : Hid ((w2.setCell ⟨xb, 4, none⟩ (.slice (some ⟨g2, 0, none⟩) (S.flights.length + 1) cap2)).heap[w.heap.size]? = some (.cells #[.bool false, .int .i64 0, .int .i64 0, .slice none 0 0] 44 (0, 0))) := (Below.heap_setCell _ _ _ _ hxne).trans HR3.out
        have hz3 : (w2.setCell ⟨xb, 4, none⟩ (.slice (some ⟨g2, 0, none⟩) (S.flights.length + 1) cap2)).heap.size = w2.heap.size := by simp [World.setCell]
        clear HX y4 z4 HR3 HFIN HO HW
        obtain ⟨hKM, ⟨bm', D', c', af', cf', vs', hPM⟩, hRM⟩ := HMID.out
        have HCI := hide (hPM.cmdIn (cm := cm) (by simp))
        have HNK := hide HNN.out
        have HCC : Hid (Calls Tryz.prog 38 #[.slice (some ⟨g, 0, none⟩) k cap] (w2.setCell ⟨xb, 4, none⟩ (.slice (some ⟨g2, 0, none⟩) (S.flights.length + 1) cap2)) fun e w' => CmdAt ⟨cm.write, cm.page, cm.page + cm.count - 1 - cm.page + 1, cm.requests⟩ (w2.setCell ⟨xb, 4, none⟩ (.slice (some ⟨g2, 0, none⟩) (S.flights.length + 1) cap2)) e w') := by
          have := prog_command (Foot F W0 w2) eb cm.requests g cm.requests.length cap cm.write cm.page (cm.page + cm.count - 1) _ hRM rfl (fun e => h0 (by rw [HNK.out, e]; rfl)) HCI.out.1 (by rw [← HNK.out]; exact hnl) HCI.out.2.1 HCI.out.2.2
          rw [HNK.out]; exact this
        have ecnt : cm.page + cm.count - 1 - cm.page + 1 = cm.count := by omega
        rw [ecnt] at HCC
        obtain ⟨⟨hcp0, hcp1⟩, hcq0, hcq1⟩ := HCI.out.2
        have d5 := hPM.cell 5 _ hPM.q.c5
        have f5 := hPM.fz 5
        have HPM := hide hPM
        have HKM := hide hKM
        have hxl2 : xb < w2.heap.size := by have := hPM.lt; omega
        clear hPM hKM hRM ecnt HMID HCI
        generalize hW3 : w2.setCell ⟨xb, 4, none⟩ (.slice (some ⟨g2, 0, none⟩) (S.flights.length + 1) cap2) = W3 at *
        clear hW3
        refine HCC.out.mono ?_
        rintro e w4 ⟨ao4, n4, cap4, rfl, hn4, hrow4, hb4⟩
        have HN4 := hide hn4
        have HROW4 := hide hrow4
        have HB4 := hide hb4
        have hz4 : W3.heap.size ≤ w4.heap.size := hb4.size
        have HR5 := hide ((hb4.block _ (lt_of_heap HR4.out)).trans HR4.out)
        have d5' := (hb4.cell (p := ⟨xb, 5, none⟩) (by show xb < _; omega)).trans d5
        have f5' := (hb4.frozen (p := ⟨xb, 5, none⟩) (by show xb < _; omega)).trans f5
        obtain ⟨⟨r0, r1, r2, r3⟩, s0, s1, s2, s3⟩ := cells4 HR5.out
        have hwl : w.heap.size < w4.heap.size := lt_of_heap HR5.out
        have hxw4 : xb < w4.heap.size := by omega
        clear hn4 hrow4 hb4 d5 f5 HCC
        simp only []
        go_wp2
        have hfF : ∀ j, Foot F W0 w2 j → j ≠ w.heap.size := fun j hj => hj.elim (fun e => by have := HF.out j e; omega) (fun e => by have := e.1; omega)
        have hWS : Wf (sendM S cm) := HSN.out.wf HQ.out.wf (by have := HDP.out; omega)
        have hP4 := (HPM.out.same (w' := w4) (fun j _ hj => HB4.out.block j hj) HB4.out.size).setHead (cm.page + cm.count) hWS
        refine bodyPost_ret (v := .tuple #[.agg #[.bool cm.write, .int .i64 cm.page, .int .i64 cm.count, .slice ao4 n4 cap4], .bool true]) (by simp [results, Tryz.results26, go_sem, r0, r1, r2, r3, hwl]) rfl ⟨ao4, n4, cap4, Foot F W0 w2, ?_, ?_, ?_, ?_, fun _ hj => Or.inl hj, ?_, ?_⟩
        · rw [HNM.out]; rfl
        · rw [HNM.out]; exact HN4.out
        · rw [HNM.out]
          have hge4 : ∀ a, ao4 = some a → w2.heap.size ≤ a.block := fun a ha => by have := HROW4.out.2 a ha; omega
          have h1 : ∀ a, ao4 = some a → a.block ≠ xb := fun a ha => by have := hge4 a ha; omega
          have h2 : ∀ a, ao4 = some a → a.block ≠ w.heap.size := fun a ha => by have := hge4 a ha; have := lt_of_heap HR4.out; omega
          refine ⟨((((((HROW4.out.setCell_other (p := ⟨xb, 5, none⟩) h1 _).setCell_other (p := ⟨w.heap.size, 0, none⟩) h2 _).setCell_other (p := ⟨w.heap.size, 1, none⟩) h2 _).setCell_other (p := ⟨w.heap.size, 2, none⟩) h2 _).setCell_other (p := ⟨w.heap.size, 3, none⟩) h2 _).alloc _).1, fun a ha => ⟨?_, fun hf => ?_⟩⟩
          · have := hge4 a ha; have := lt_of_heap HR4.out; omega
          · have := hge4 a ha
            rcases hf with e | e
            · have := HF.out _ e; have := lt_of_heap HR4.out; omega
            · have := e.2; omega
        · rw [HST.out]
          refine ⟨bm', D', eb, _, af', cf', vs', hP4.same (fun j hj hjl => ?_) (by simp [World.setCell])⟩
          rw [Below.heap_alloc _ _ _ (by simp [World.setCell] at hjl ⊢; exact hjl), Below.heap_setCell _ _ _ _ (hfF j hj), Below.heap_setCell _ _ _ _ (hfF j hj), Below.heap_setCell _ _ _ _ (hfF j hj), Below.heap_setCell _ _ _ _ (hfF j hj)]
        · intro j hj
          rcases hj with e | e
          · exact Or.inl e
          · refine Or.inr ⟨by omega, ?_⟩
            have : w4.heap.size ≤ ((((((w4.setCell ⟨xb, 5, none⟩ (.int .i64 (cm.page + cm.count))).setCell ⟨w.heap.size, 0, none⟩ (.bool cm.write)).setCell ⟨w.heap.size, 1, none⟩ (.int .i64 cm.page)).setCell ⟨w.heap.size, 2, none⟩ (.int .i64 cm.count)).setCell ⟨w.heap.size, 3, none⟩ (.slice ao4 n4 cap4)).alloc (.cells #[.bool cm.write, .int .i64 cm.page, .int .i64 cm.count, .slice ao4 n4 cap4] 44)).heap.size := by simp [World.setCell]
            have := e.2
            omega
        · exact (((((((HKM.out.below HB4.out).setCell (p := ⟨xb, 5, none⟩) (Or.inl HQ.out.own) _).setCell (p := ⟨w.heap.size, 0, none⟩) (Or.inr (Nat.le_refl _)) _).setCell (p := ⟨w.heap.size, 1, none⟩) (Or.inr (Nat.le_refl _)) _).setCell (p := ⟨w.heap.size, 2, none⟩) (Or.inr (Nat.le_refl _)) _).setCell (p := ⟨w.heap.size, 3, none⟩) (Or.inr (Nat.le_refl _)) _).alloc _)
end Go.Proofs.YtiabdbeejkadnaaGreatDoor

/- The law: told (Step). Own work of the verifier. -/
namespace Go.Proofs.YtiabdbeejkadnaaGreatDoor
open Go.RowKit Go.Maps

theorem RefStep.uni {S : St} {w w' : World} {e : Ending} (h : RefStep S w e w') : ∃ ao n cap, e = .returned (.tuple #[.agg #[.bool ((nextM S).getD cmdZ).write, .int .i64 ((nextM S).getD cmdZ).page, .int .i64 ((nextM S).getD cmdZ).count, .slice ao n cap], .bool (nextM S).isSome]) ∧ n = ((nextM S).getD cmdZ).requests.length ∧ Row w' (fun b => w.heap.size ≤ b) 3 1 ao n cap (encI ((nextM S).getD cmdZ).requests) := by
  unfold RefStep at h
  cases hn : nextM S with
  | none => rw [hn] at h; exact ⟨none, 0, 0, h, rfl, Row.nil _ _ _ _⟩
  | some c => rw [hn] at h; exact h
set_option maxHeartbeats 2000000 in
set_option maxRecDepth 1000000 in
theorem law_told_step (wb B N : Nat) (FW : Nat → Prop) (ps : List PQ) (bs is : List (Option Addr × Nat)) (i : Nat) (a b c : Int) (s : ByteArray) (w : World) (h : AllAt w wb FW ps bs is B N) (hi : i < ps.length) (hN : N ≤ 100000) :
    Calls Tryz.prog 49 #[.pointer (some ⟨wb, 0, none⟩), .agg #[.pointer (some ⟨(ps[i]).x, 0, none⟩), .pointer (some ⟨(ps[i]).m, 0, none⟩)], opV 9 a b c s] w fun e w' => Steps w wb B N e w' := by
  unfold opV
  have HA := hide h
  have hpair := h.pair i hi
  have hlast := (h.st i hi).1
  have hltW := h.wat.lt
  have hlow := h.low
  have HOP : Hid (∀ (w3 : World) (F' : Nat → Prop) (S' : St), PairAt w3 F' (ps[i]).x (ps[i]).m S' → (∀ k, F' k → (ps[i]).F k ∨ w.heap.size ≤ k) → S'.last = (ps[i]).S.last ∧ S'.now = (ps[i]).S.now → Kept (ps[i]).F w w3 → AllAt w3 wb FW (ps.set i ⟨(ps[i]).x, (ps[i]).m, S', F'⟩) bs is B N ∧ Below B w w3) := fun w3 F' S' h1 h2 h3 h4 => h.pairOpG i hi (Nat.le_refl N) h1 h2 (by have := (h.st i hi).1; rw [h3.1]; exact this) (by have := (h.st i hi).2; rw [h3.2]; exact this) h4
  clear h
  generalize (ps[i]).x = x at *
  generalize (ps[i]).m = m at *
  generalize (ps[i]).S = S at *
  generalize (ps[i]).F = F at *
  have hwf := hpair.wf
  obtain ⟨Fx, Fm, hP, hM, hd, hF⟩ := hpair
  have hb0 := hide (askW_below x m 9 a b c s w)
  have HP := hide (hP.below hb0.out)
  have HPl := hide hP.lt
  have HM := hide hM
  have HD := hide hd
  have HF := hide hF
  have hsz := askW_size x m 9 a b c s w
  have HO := hide (askW_p x m 9 a b c s w)
  have HSM := hide (stepM_same S)
  clear hP hM hd hF
  go_enter Tryz.func49, Tryz.ntmps49
  go_wp2_with fail
  refine (prog_step S Fx x (askW x m 9 a b c s w) HP.out (by omega)).mono ?_
  rintro e w1 ⟨ao, n, cap, F', rfl, hn, hrow, hP1, hF1, hF2, hK1⟩
  have HLEN : Hid (((nextM S).getD cmdZ).requests.length ≤ 1000000) := by
    rw [Hid]
    cases hnx : nextM S with
    | none => exact Nat.zero_le _
    | some cm =>
      obtain ⟨L, hL⟩ := ready_exists S hwf.sorted
      rcases next_cases hwf hL with ⟨_, e⟩ | ⟨_, c', e, hS, _⟩
      · rw [e] at hnx; cases hnx
      · rw [e] at hnx
        cases hnx
        have h1 := (hS.marked hwf cm.requests.length (Nat.le_refl _)).airLen
        have h2 := hwf.reqsLen
        have h3 : ({ S with reqs := markM S.reqs (cm.requests.take cm.requests.length) } : St).reqs.length = S.reqs.length := mark_len _ _
        have h4 : (airs ({ S with reqs := markM S.reqs (cm.requests.take cm.requests.length) } : St) ++ cm.requests.take cm.requests.length).length = (airs ({ S with reqs := markM S.reqs (cm.requests.take cm.requests.length) } : St)).length + cm.requests.length := by rw [List.length_append, List.take_length]
        show cm.requests.length ≤ 1000000
        omega
  have HRS : Hid (∀ W, RefAt W Fm m S → Calls Tryz.prog 78 #[.pointer (some ⟨m, 0, none⟩)] W fun e w' => (∃ ao n cap, e = .returned (.tuple #[.agg #[.bool ((nextM S).getD cmdZ).write, .int .i64 ((nextM S).getD cmdZ).page, .int .i64 ((nextM S).getD cmdZ).count, .slice ao n cap], .bool (nextM S).isSome]) ∧ n = ((nextM S).getD cmdZ).requests.length ∧ Row w' (fun b => W.heap.size ≤ b) 3 1 ao n cap (encI ((nextM S).getD cmdZ).requests)) ∧ RefAt w' (Foot Fm W w') m (stepM S).2 ∧ Kept Fm W w') := fun W hW => by
    refine (ref_step S Fm m W hW hwf (by omega)).mono ?_
    rintro e w' ⟨h1, h2⟩
    exact ⟨h1.uni, h2⟩
  generalize (nextM S).getD cmdZ = cm at *
  generalize (nextM S).isSome = sb at *
  generalize (stepM S).2 = S' at *
  have hz1 : w.heap.size + 1 < w1.heap.size := by have := hK1.size; omega
  have hz1' : w.heap.size < w1.heap.size := by omega
  have hnx : ¬ Fx w.heap.size := fun e => by have := HPl.out _ e; omega
  obtain ⟨p0, p1, _⟩ := cells2 ((hK1.block w.heap.size (by omega) hnx).trans HO.out)
  have HK1 := hide hK1
  have HROW := hide hrow
  have HNN := hide hn
  have HP1 := hide hP1
  have HF1 := hide hF1
  have HF2 := hide hF2
  have HM1 := hide (pair_mid HM.out HD.out hb0.out hK1 (Below.refl _ _))
  clear hK1 hrow hn hP1 hF1 hF2
  have hnm : ∀ k, w.heap.size ≤ k → ¬ Fm k := fun k hk e => by have := HM.out.lt k e; omega
  have HNM := hide hnm
  clear hnm
  go_wp2_with fail
  refine (HRS.out _ (HM1.out.below (alloc_below _ _))).mono ?_
  rintro e w2 ⟨⟨ao2, n2, cap2, rfl, hn2, hrow2⟩, hM2, hK2⟩
  have e2 : n2 = n := by rw [hn2, HNN.out]
  subst e2
  have hz2 : w1.heap.size < w2.heap.size := by have := hK2.size; simp at this; omega
  have hc2 : w2.heap[w1.heap.size]? = some (.cells #[.bool cm.write, .int .i64 cm.page, .int .i64 cm.count, .slice ao n2 cap] 44 (0, 0)) := (hK2.block w1.heap.size (by simp) (HNM.out _ (by omega))).trans (heap_alloc_new w1 _)
  obtain ⟨⟨q0, q1, q2, q3⟩, _⟩ := cells4 ((Below.heap_alloc w2 (.cells #[.bool cm.write, .int .i64 cm.page, .int .i64 cm.count, .slice ao2 n2 cap2] 44) _ hz2).trans hc2)
  have HRB : Hid (Row (w2.alloc (.cells #[.bool cm.write, .int .i64 cm.page, .int .i64 cm.count, .slice ao2 n2 cap2] 44)) (fun b => w1.heap.size ≤ b) 3 1 ao2 n2 cap2 (encI cm.requests)) := (hrow2.mono fun b hb => by simp at hb; omega).alloc _
  have HRA : Hid (Row (w2.alloc (.cells #[.bool cm.write, .int .i64 cm.page, .int .i64 cm.count, .slice ao2 n2 cap2] 44)) (fun k => w.heap.size ≤ k ∧ k < w1.heap.size ∧ ¬ F' k) 3 1 ao n2 cap (encI cm.requests)) := by
    have h1 : ∀ a, ao = some a → w.heap.size ≤ a.block ∧ a.block < w1.heap.size ∧ ¬ F' a.block := fun a ha => by
      obtain ⟨cu, hcu, _⟩ := HROW.out.block ha
      have h2 := HROW.out.2 a ha
      exact ⟨by omega, lt_of_heap hcu, h2.2⟩
    have h2 := HROW.out.same (w' := w2) fun a ha => by
      obtain ⟨e1, e2, _⟩ := h1 a ha
      exact (hK2.block a.block (by simp; omega) (HNM.out _ e1)).trans (Below.heap_alloc w1 _ _ e2)
    exact Row.alloc ⟨h2.1, h1⟩ _
  have hFl : ∀ k, F' k → k < w1.heap.size := fun k hk => (HF2.out k hk).elim (fun e => by have := HPl.out k e; omega) (fun e => e.2)
  have hFm : ∀ k, F' k → ¬ Fm k := fun k hk => (HF2.out k hk).elim (fun e => HD.out k e) (fun e => HNM.out k (by omega))
  have HPA : Hid (PairAt (w2.alloc (.cells #[.bool cm.write, .int .i64 cm.page, .int .i64 cm.count, .slice ao2 n2 cap2] 44)) (fun k => F' k ∨ Foot Fm (w1.alloc (.cells #[.bool cm.write, .int .i64 cm.page, .int .i64 cm.count, .slice ao n2 cap] 44)) w2 k) x m S' ∧ Kept F w (w2.alloc (.cells #[.bool cm.write, .int .i64 cm.page, .int .i64 cm.count, .slice ao2 n2 cap2] 44))) := by
    refine ⟨⟨F', Foot Fm (w1.alloc (.cells #[.bool cm.write, .int .i64 cm.page, .int .i64 cm.count, .slice ao n2 cap] 44)) w2, ?_, hM2.below (alloc_below _ _), ?_, fun k => Iff.rfl⟩, ?_⟩
    · exact ((HP1.out.below (alloc_below _ _)).kept hK2 (fun k hk hn => hFm k hk hn)).below (alloc_below _ _)
    · rintro k hk (hn | hn)
      · exact hFm k hk hn
      · have := hFl k hk; simp at hn; omega
    · have k1 : Kept F w w1 := (Go.Proofs.YtiabdbeejkadnaaGreatDoor.Below.kept hb0.out F).then (HK1.out.mono fun k _ hk => (HF.out k).2 (Or.inl hk))
      exact ((k1.below (alloc_below _ _)).then (hK2.mono fun k _ hk => (HF.out k).2 (Or.inr hk))).below (alloc_below _ _)
  have HAA := hide (HOP.out _ _ S' HPA.out.1 (fun k hk => by
    rcases hk with hk | hk | hk
    · exact (HF2.out k hk).elim (fun e => Or.inl ((HF.out k).2 (Or.inl e))) (fun e => Or.inr (by omega))
    · exact Or.inl ((HF.out k).2 (Or.inr hk))
    · exact Or.inr (by simp at hk; omega)) HSM.out HPA.out.2)
  have HPD : Hid (∀ j (hj : j < (ps.set i ⟨x, m, S', fun k => F' k ∨ Foot Fm (w1.alloc (.cells #[.bool cm.write, .int .i64 cm.page, .int .i64 cm.count, .slice ao n2 cap] 44)) w2 k⟩).length), ∀ k, (w.heap.size ≤ k ∧ k < w1.heap.size ∧ ¬ F' k) → ¬ ((ps.set i ⟨x, m, S', fun k => F' k ∨ Foot Fm (w1.alloc (.cells #[.bool cm.write, .int .i64 cm.page, .int .i64 cm.count, .slice ao n2 cap] 44)) w2 k⟩)[j]).F k) := fun j hj k hk => by
    rw [List.length_set] at hj
    simp only [List.getElem_set]
    by_cases e : i = j
    · subst e
      simp only [if_true]
      rintro (hn | hn | hn)
      · exact hk.2.2 hn
      · exact HNM.out k hk.1 hn
      · simp at hn; omega
    · simp only [e, if_false]
      intro hn
      have := (HA.out.pair j hj).lt k hn
      omega
  clear hc2 hrow2 hM2 hK2 hFl hFm HPA HOP hn2 HRS
  have hsb : (sb == sb) = true := by simp
  go_wp2_with (first | (go_at_call 70; refine (law_command (cw := cm.write) (cp := cm.page) (cc := cm.count) HAA.out.1.wat HRA.out HRB.out HNN.out (by rw [HNN.out]; exact HLEN.out) (fun k hk e => by have := hltW k hk; omega) (by have := HA.out.lens; omega) HA.out.caps.2).mono ?_; rintro e w4 ⟨rfl, hX⟩; have HX := hide hX; clear hX))
  go_ret
  obtain ⟨w3, FW', G, is', h0, h1, h2, h3, h4, h5, h6⟩ := HX.out
  obtain ⟨r1, r2⟩ := HAA.out.1.wOpG (M := N + 1) (Nat.le_succ N) h0 h1 h2 h3 h4 (fun k hk => by omega) HPD.out (by have := HA.out.lens; omega) ⟨HA.out.caps.1, h6⟩
  exact ⟨rfl, ⟨_, _, _, _, r1⟩, HAA.out.2.trans r2⟩
end Go.Proofs.YtiabdbeejkadnaaGreatDoor
