import Derived.Test.YtiabdbeejkadnaaGreatDoorJ97fed9c167
import Derived.Test.YtiabdbeejkadnaaGreatDoorJ670a8aa7d7
import Derived.Test.YtiabdbeejkadnaaGreatDoorJ60813d70c8
/- The program's queue: Flights. Own work of the verifier. -/
namespace Go.Proofs.YtiabdbeejkadnaaGreatDoor
open Go.RowKit Go.Maps Go.Sort Go.Shelf

theorem flight_in {w : World} {F : Nat → Prop} {xb : Nat} {S : St} {bm : Nat} {D : DataW Unit} {eb : Int → Nat} {c : Array Value} {af : Option Addr} {cf : Nat} {vs : List (Option Addr × Nat)} (h : ProgBlk w F xb S [] bm D eb c af cf vs) {k : Nat} (hk : k < S.flights.length) :
    CmdIn w eb (S.flights[k]).requests (S.flights[k]).write (S.flights[k]).page ((S.flights[k]).page + (S.flights[k]).count - 1) ∧ (0 ≤ (S.flights[k]).page ∧ (S.flights[k]).page < 16) ∧ 0 ≤ (S.flights[k]).page + (S.flights[k]).count - 1 ∧ (S.flights[k]).page + (S.flights[k]).count - 1 < 16 := by
  have hc := h.wf.fl _ (List.getElem_mem hk)
  have hfind : ∀ n ∈ (S.flights[k]).requests, ∃ r ∈ S.reqs, r.num = n := fun n hn => h.wf.airIn n (List.mem_append_left _ (List.mem_flatMap.2 ⟨_, List.getElem_mem hk, hn⟩))
  have hcell : ∀ r ∈ S.reqs, w.cell? ⟨eb r.num, 0, none⟩ = some (.int .i64 r.num) ∧ w.cell? ⟨eb r.num, 1, none⟩ = some (.int .i64 r.page) ∧ w.cell? ⟨eb r.num, 2, none⟩ = some (.bool r.write) := fun r hr => by
    obtain ⟨ds, _, he⟩ := h.e.ent r hr
    simp [World.cell?, he, entC]
  have hhd : ∀ n, (S.flights[k]).requests.head? = some n → n ∈ (S.flights[k]).requests := fun n hn => List.mem_of_head? hn
  have hlt : ∀ n, (S.flights[k]).requests.getLast? = some n → n ∈ (S.flights[k]).requests := fun n hn => List.mem_of_getLast? hn
  refine ⟨⟨fun n hn => ?_, fun n hn => ?_, fun n hn => ?_, fun n hn => ?_⟩, ?_, ?_⟩
  · obtain ⟨r, hr, rfl⟩ := hfind n hn
    exact (hcell r hr).1
  · obtain ⟨r, hr, rfl⟩ := hfind n (hhd n hn)
    rw [← hc.wr r hr (hhd _ hn)]; exact (hcell r hr).2.2
  · obtain ⟨r, hr, rfl⟩ := hfind n (hhd n hn)
    rw [← hc.fst r hr hn]; exact (hcell r hr).2.1
  · obtain ⟨r, hr, rfl⟩ := hfind n (hlt n hn)
    rw [← hc.lst r hr hn]; exact (hcell r hr).2.1
  · cases hh : (S.flights[k]).requests.head? with
    | none => exact absurd (List.head?_eq_none_iff.1 hh) hc.ne
    | some n =>
      obtain ⟨r, hr, rfl⟩ := hfind n (hhd n hh)
      rw [← hc.fst r hr hh]; exact (h.wf.rq r hr).page
  · cases hh : (S.flights[k]).requests.getLast? with
    | none => exact absurd (List.getLast?_eq_none_iff.1 hh) hc.ne
    | some n =>
      obtain ⟨r, hr, rfl⟩ := hfind n (hlt n hh)
      rw [← hc.lst r hr hh]; exact (h.wf.rq r hr).page
/-- what Flights hands out: a row of commands, each with a row of its own -/
structure FlOut (lim : Nat) (w : World) (fl : List Cmd) (ao : Option Addr) (n cap : Nat) (vs : List (Option Addr × Nat)) : Prop where
  len : vs.length = fl.length
  cnt : n = fl.length
  row : Row w (fun b => lim ≤ b) 44 4 ao n cap ((fl.zip vs).flatMap encC)
  ins : ∀ j (hj : j < fl.length) (hv : j < vs.length), Row w (fun b => lim ≤ b) 3 1 (vs[j]).1 (fl[j]).requests.length (vs[j]).2 (encI (fl[j]).requests)
  ap : ∀ i j (hi : i < vs.length) (hj : j < vs.length), i < j → ∀ a b, (vs[i]).1 = some a → (vs[j]).1 = some b → a.block ≠ b.block
theorem FlOut.nil (lim : Nat) (w : World) : FlOut lim w [] none 0 0 [] := ⟨rfl, rfl, Row.nil _ _ _ _, fun j hj => by simp at hj, fun i j hi => by simp at hi⟩
/-- one command more -/
theorem FlOut.push {lim : Nat} {wr w2 w3 : World} {fl : List Cmd} {ao : Option Addr} {n cap : Nat} {vs : List (Option Addr × Nat)} {c : Cmd} {xa : Option Addr} {xn xc g cap' : Nat} {o : Obj} {w : World} (hw : lim = w.heap.size) (h : FlOut lim wr fl ao n cap vs) (hb0 : Below w.heap.size w wr) (hb : Below wr.heap.size wr w2) (hx : Row w2 (fun b => wr.heap.size ≤ b) 3 1 xa xn xc (encI c.requests)) (hxn : xn = c.requests.length)
    (hgrow : (w2.alloc o).grownBy w3 (Value.ownBlock (.slice ao n cap))) (hown : w3.ownsRow 0 44 4 (.slice (some ⟨g, 0, none⟩) (n + 1) cap') (n + 1) ((fl.zip vs).flatMap encC ++ [.bool c.write, .int .i64 c.page, .int .i64 c.count, .slice xa xn xc])) (hat : Value.ownBlock (.slice ao n cap) = some g ∨ g = w2.heap.size + 1) :
    FlOut lim w3 (fl ++ [c]) (some ⟨g, 0, none⟩) (n + 1) cap' (vs ++ [(xa, xc)]) ∧ Below w.heap.size w w3 := by
  subst hw hxn
  have hz0 := hb0.size
  have hz := hb.size
  have hrow2 : Row w2 (fun b => w.heap.size ≤ b) 44 4 ao n cap ((fl.zip vs).flatMap encC) := h.row.same fun a ha => by
    obtain ⟨cu, hcu, _⟩ := h.row.block ha
    exact hb.block _ (lt_of_heap hcu)
  obtain ⟨r1, r2⟩ := own_rel (hb0.trans (hb.mono hz0)) hrow2 hgrow hown hat
  have hzip : (fl ++ [c]).zip (vs ++ [(xa, xc)]) = fl.zip vs ++ [(c, xa, xc)] := by rw [List.zip_append h.len.symm]; rfl
  have hkeep : ∀ b cs, w2.heap[b]? = some (Obj.cells cs 3 (0, 0)) → w3.heap[b]? = w2.heap[b]? := fun b cs hcs => by
    refine (hgrow.block b (by simp; have := lt_of_heap hcs; omega) (fun e => ?_)).trans (Below.heap_alloc _ _ _ (lt_of_heap hcs))
    cases ao with
    | none => simp [Value.ownBlock] at e
    | some a =>
      simp [Value.ownBlock] at e
      exact (hrow2.ne hcs (by decide)) a rfl e.symm
  have hold : ∀ j (hj : j < fl.length) (hv : j < vs.length), Row w3 (fun b => w.heap.size ≤ b) 3 1 (vs[j]).1 (fl[j]).requests.length (vs[j]).2 (encI (fl[j]).requests) := fun j hj hv => by
    have h1 := h.ins j hj hv
    exact h1.same fun a ha => by
      obtain ⟨cu, hcu, _⟩ := h1.block ha
      have e1 := hb.block _ (lt_of_heap hcu)
      exact (hkeep _ cu (e1.trans hcu)).trans e1
  have hnew : Row w3 (fun b => w.heap.size ≤ b) 3 1 xa c.requests.length xc (encI c.requests) := (hx.same fun a ha => by
    obtain ⟨cu, hcu, _⟩ := hx.block ha
    exact hkeep _ cu hcu).mono fun b hb' => by omega
  refine ⟨⟨by rw [List.length_append, List.length_append, h.len]; rfl, by rw [List.length_append, h.cnt]; rfl, ?_, fun j hj hv => ?_, fun i j hi hj hij a b ha hb' => ?_⟩, r1⟩
  · rw [hzip, List.flatMap_append]
    exact r2
  · rcases Nat.lt_or_ge j fl.length with hl | hl
    · have hlv : j < vs.length := by rw [h.len]; exact hl
      rw [List.getElem_append_left hl, List.getElem_append_left hlv]
      exact hold j hl hlv
    · have e : j = fl.length := by rw [List.length_append] at hj; simp at hj; omega
      subst e
      have e2 : (vs ++ [(xa, xc)])[fl.length]'hv = (xa, xc) := by
        rw [List.getElem_append_right (by rw [h.len]; exact Nat.le_refl _)]; simp
      rw [e2, List.getElem_append_right (Nat.le_refl _)]
      simpa using hnew
  · rw [List.length_append] at hi hj
    simp at hi hj
    have hiv : i < vs.length := by omega
    rw [List.getElem_append_left hiv] at ha
    rcases Nat.lt_or_ge j vs.length with hl | hl
    · rw [List.getElem_append_left hl] at hb'
      exact h.ap i j hiv hl hij a b ha hb'
    · have e2 : (vs ++ [(xa, xc)])[j]'(by rw [List.length_append]; simp; omega) = (xa, xc) := by
        rw [List.getElem_append_right hl]; simp
      rw [e2] at hb'
      have h1 := h.ins i (by rw [← h.len]; exact hiv) hiv
      obtain ⟨cu, hcu, _⟩ := h1.block ha
      have h2 := lt_of_heap hcu
      have h3 := hx.2 b hb'
      omega
set_option maxHeartbeats 4000000 in
set_option maxRecDepth 1000000 in
theorem prog_flights (S : St) (F : Nat → Prop) (xb : Nat) (w : World) (h : ProgAt w F xb S) (hl : S.last ≤ 1000000) :
    Calls Tryz.prog 17 #[.pointer (some ⟨xb, 0, none⟩)] w fun e w' => (∃ ao n cap vs, e = .returned (.slice ao n cap) ∧ FlOut w.heap.size w' S.flights ao n cap vs) ∧ Below w.heap.size w w' := by
  obtain ⟨i0, hi, hi0, hi1, hi2⟩ := info_parts info_cmd
  obtain ⟨bm, D, eb, c, af, cf, vs, h⟩ := h
  have d4 := h.cell 4 _ h.q.c4
  have hxl := h.lt
  have hf4 : S.flights.length ≤ 4 := by have := h.wf.flLen; have := h.wf.depth; omega
  have HQ := hide h
  have HCM : Hid (∀ k (hk : k < S.flights.length) (wr : World), Below w.heap.size w wr → ∃ gf ga vc, af = some ⟨gf, 0, none⟩ ∧ wr.cell? ⟨gf, k, none⟩ = some (.slice (some ⟨ga, 0, none⟩) (S.flights[k]).requests.length vc) ∧ Calls Tryz.prog 38 #[.slice (some ⟨ga, 0, none⟩) (S.flights[k]).requests.length vc] wr fun e w' => CmdAt (S.flights[k]) wr e w') := fun k hk wr hb => by
    obtain ⟨gf, cur, hg, hgF, hgb, _, _⟩ := Row.some h.l.row (by omega)
    have h' : ProgBlk wr F xb S [] bm D eb c af cf vs := h.same (fun b _ hb' => hb.block b hb') hb.size
    subst hg
    obtain ⟨ga, hga, _, _, hin⟩ := h'.l.inner hk (h'.wf.fl _ (List.getElem_mem hk)).ne
    have ck := h'.l.cell hk
    rw [hga] at ck
    obtain ⟨hci, hp, hq⟩ := flight_in h' hk
    refine ⟨gf, ga, _, rfl, ck, ?_⟩
    refine (prog_command F eb (S.flights[k]).requests ga _ _ (S.flights[k]).write (S.flights[k]).page ((S.flights[k]).page + (S.flights[k]).count - 1) wr hin rfl (h'.wf.fl _ (List.getElem_mem hk)).ne hci (flight_len h'.wf hk hl) hp hq).mono ?_
    intro e w' hx
    have e1 : (⟨(S.flights[k]).write, (S.flights[k]).page, (S.flights[k]).page + (S.flights[k]).count - 1 - (S.flights[k]).page + 1, (S.flights[k]).requests⟩ : Cmd) = S.flights[k] := by
      have : (S.flights[k]).page + (S.flights[k]).count - 1 - (S.flights[k]).page + 1 = (S.flights[k]).count := by omega
      rw [this]
    rw [e1] at hx
    exact hx
  clear h
  go_enter Tryz.func17, Tryz.ntmps17
  go_wp2_with fail
  refine (orEmpty_some _ _).mono ?_
  rintro e w1 ⟨rfl, hw⟩
  have hw := hw.symm
  subst hw
  go_wp2
  go_loopw [3, 12] (fun l i wr => ∃ (j n cap : Nat) (ao : Option Addr) (us : List (Option Addr × Nat)), j ≤ S.flights.length ∧ i = .int .i64 j ∧ l = .slice ao n cap ∧ n = j ∧ Hid (FlOut w.heap.size wr (S.flights.take j) ao n cap us) ∧ Hid (Below w.heap.size w wr)) (fun _ i _ => S.flights.length - (intOf i).toNat)
  case atStart => exact ⟨0, 0, 0, none, [], Nat.zero_le _, rfl, rfl, rfl, FlOut.nil _ _, Below.refl _ _⟩
  case round =>
    obtain ⟨j, n, cap, ao, us, hj, rfl, rfl, hnj, hF, hb⟩ := hrel
    have HNJ := hide hnj
    clear hnj
    by_cases hlt : j < S.flights.length
    · obtain ⟨gf, ga, vc, hgf, ck, hcmd⟩ := HCM.out j hlt wr hb.out
      have HCMD := hide hcmd
      have HTK : Hid (S.flights.take (j + 1) = S.flights.take j ++ [S.flights[j]]) := List.take_succ_eq_append_getElem hlt
      have hji : (j : Int) < (S.flights.length : Int) := by omega
      subst hgf
      clear hcmd
      generalize S.flights[j] = cm at *
      go_wp2_with fail
      refine HCMD.out.mono ?_
      rintro e w2 ⟨xa, xn, xc, rfl, hxn, hxr, hxb⟩
      have hn4 : n ≤ 4 := by have := HNJ.out; omega
      have HO : Hid ((w2.alloc (.cells #[.bool cm.write, .int .i64 cm.page, .int .i64 cm.count, .slice xa xn xc] 44)).ownsRow 0 44 4 (.slice ao n cap) n (((S.flights.take j).zip us).flatMap encC)) := ((hF.out.row.same fun a ha => by obtain ⟨cu, hcu, _⟩ := hF.out.row.block ha; exact hxb.block _ (lt_of_heap hcu)).alloc _).1
      have HW : Hid (∀ (t : Nat) (u : Value), [Value.bool cm.write, .int .i64 cm.page, .int .i64 cm.count, .slice xa xn xc][t]? = some u → (w2.alloc (.cells #[.bool cm.write, .int .i64 cm.page, .int .i64 cm.count, .slice xa xn xc] 44)).cell? ((⟨w2.heap.size, 0, none⟩ : Addr).add t) = some u) := fun t u => news_new t u
      have HPUSH : Hid (∀ (g cap' : Nat) (w3 : World), w3.ownsRow 0 44 4 (.slice (some ⟨g, 0, none⟩) (n + 1) cap') (n + 1) (((S.flights.take j).zip us).flatMap encC ++ [.bool cm.write, .int .i64 cm.page, .int .i64 cm.count, .slice xa xn xc]) → (w2.alloc (.cells #[.bool cm.write, .int .i64 cm.page, .int .i64 cm.count, .slice xa xn xc] 44)).grownBy w3 (Value.ownBlock (.slice ao n cap)) → (Value.ownBlock (.slice ao n cap) = some g ∨ g = w2.heap.size + 1) → FlOut w.heap.size w3 (S.flights.take (j + 1)) (some ⟨g, 0, none⟩) (n + 1) cap' (us ++ [(xa, xc)]) ∧ Below w.heap.size w w3) := fun g cap' w3 h1 h2 h3 => by
        rw [HTK.out]
        exact FlOut.push rfl hF.out hb.out hxb hxr hxn h2 h1 h3
      clear hxr hxb hxn HCMD
      go_wp2_with (at_builtin; go_must (refine wpList_append_lies _ rfl (.tmp 16) (.tmp 19) 39 rfl 0 44 i0 (.agg #[.bool false, .int .i64 0, .int .i64 0, .slice none 0 0]) 4 48 Tryz.underlying39 hi hi0 hi1 hi2 rfl (by decide) (.slice ao n cap) n (((S.flights.take j).zip us).flatMap encC) rfl HO.out ⟨w2.heap.size, 0, none⟩ 1 1 [Value.bool cm.write, .int .i64 cm.page, .int .i64 cm.count, .slice xa xn xc] rfl rfl HW.out (by intro u hu; simp at hu; rcases hu with rfl | rfl | rfl | rfl <;> rfl) (by decide) (by unfold maxLen; omega) (by omega) (Nat.zero_le _) (w2.heap.size + 1) (by simp) ?_; intro g cap' w3 hown hgrow hat hlt3; have HX := hide (HPUSH.out g cap' w3 hown hgrow hat); clear hown hgrow hat hlt3))
      go_roundw
      case rel => exact ⟨j + 1, n + 1, cap', some ⟨g, 0, none⟩, us ++ [(xa, xc)], by omega, by go_num, rfl, by have := HNJ.out; omega, HX.out.1, HX.out.2⟩
      case measure => simp [intOf]; omega
    · have hjl : S.flights.take j = S.flights := List.take_of_length_le (by omega)
      have HFIN : Hid (FlOut w.heap.size wr S.flights ao n cap us) := by have := hF.out; rw [hjl] at this; exact this
      clear hjl hF
      go_wp2
      go_ret
      exact ⟨⟨ao, n, cap, us, rfl, HFIN.out⟩, hb.out⟩
end Go.Proofs.YtiabdbeejkadnaaGreatDoor

/- The reference queue: put. Own work of the verifier. -/
namespace Go.Proofs.YtiabdbeejkadnaaGreatDoor
open Go.RowKit

/-- the reference queue at mb, its commands' blocks in G -/
def RefG (w : World) (F G : Nat → Prop) (mb : Nat) (S : St) : Prop := ∃ ar cr at_ ct af cf ad cd, RefBlk w F G mb S ar cr at_ ct af cf ad cd
theorem RefG.at_ {w : World} {F G : Nat → Prop} {mb : Nat} {S : St} (h : RefG w F G mb S) : RefAt w F mb S := by
  obtain ⟨ar, cr, at_, ct, af, cf, ad, cd, h⟩ := h
  exact ⟨G, ar, cr, at_, ct, af, cf, ad, cd, h⟩
theorem RefG.same {w w' : World} {F G : Nat → Prop} {mb : Nat} {S : St} (h : RefG w F G mb S) (hs : ∀ k, F k → k < w.heap.size → w'.heap[k]? = w.heap[k]?) (hz : w.heap.size ≤ w'.heap.size) : RefG w' F G mb S := by
  obtain ⟨ar, cr, at_, ct, af, cf, ad, cd, h⟩ := h
  exact ⟨ar, cr, at_, ct, af, cf, ad, cd, h.same hs hz⟩
theorem RefG.wid {w : World} {F F' G : Nat → Prop} {mb : Nat} {S : St} (h : RefG w F G mb S) (hF : ∀ k, F k → F' k) (hl : ∀ k, F' k → k < w.heap.size) : RefG w F' G mb S := by
  obtain ⟨ar, cr, at_, ct, af, cf, ad, cd, h⟩ := h
  exact ⟨ar, cr, at_, ct, af, cf, ad, cd, h.wid hF hl⟩
theorem RefG.lt {w : World} {F G : Nat → Prop} {mb : Nat} {S : St} (h : RefG w F G mb S) : ∀ k, F k → k < w.heap.size := h.at_.lt
def putTo (D : List UInt8) (a : Nat) (ds : List UInt8) (j : Nat) : List UInt8 := (List.range j).foldl (fun D i => D.set (a + i) (ds.getD i 0)) D
theorem putTo_next (D : List UInt8) (a : Nat) (ds : List UInt8) (j : Nat) : putTo D a ds (j + 1) = (putTo D a ds j).set (a + j) (ds.getD j 0) := by
  unfold putTo; rw [List.range_succ, List.foldl_append]; rfl
theorem putTo_four (D : List UInt8) (a : Nat) (ds : List UInt8) : putTo D a ds 4 = putM D a ds := rfl
theorem putTo_len (D : List UInt8) (a : Nat) (ds : List UInt8) (j : Nat) : (putTo D a ds j).length = D.length := by
  induction j with
  | zero => rfl
  | succ j ih => rw [putTo_next, List.length_set, ih]
section
variable {w : World} {F G : Nat → Prop} {mb : Nat} {S : St} {ar : Option Addr} {cr : Nat} {at_ : Option Addr} {ct : Nat} {af : Option Addr} {cf : Nat} {cd : Nat}
theorem RefBlk.setDisk {gd : Nat} (h : RefBlk w F G mb S ar cr at_ ct af cf (some ⟨gd, 0, none⟩) cd) (a : Nat) (v : UInt8) :
    RefBlk (w.setCell ⟨gd, a, none⟩ (.int .u8 v.toNat)) F G mb { S with disk := S.disk.set a v } ar cr at_ ct af cf (some ⟨gd, 0, none⟩) cd := by
  obtain ⟨cur, hh, _⟩ := h.disk.block rfl
  refine ⟨h.own, ?_, ?_, ?_, ?_, ?_, h.sub, h.notMb, h.notR, h.notT, h.notD, fun k hk => by have := h.ltF k hk; simpa [World.setCell] using this⟩
  · have hne : mb ≠ gd := fun e => (h.disk.ne h.blk (by decide)) _ rfl e.symm
    refine (Below.heap_setCell w ⟨gd, a, none⟩ _ mb hne).trans ?_
    simp only [List.length_set]
    exact h.blk
  · exact h.reqs.setCell_other (p := ⟨gd, a, none⟩) (h.reqs.ne hh (by decide)) _
  · exact h.told.setCell_other (p := ⟨gd, a, none⟩) (h.told.ne hh (by decide)) _
  · have := Row.stored h.disk a (.int .u8 v.toNat)
    show Row _ F _ 1 _ (S.disk.set a v).length cd _
    rw [List.length_set]
    have e : (encB S.disk).set a (.int .u8 v.toNat) = encB (S.disk.set a v) := by simp [encB, List.map_set]
    rw [e] at this
    exact this
  · exact h.flights.same fun b hb => Below.heap_setCell _ _ _ _ (fun e => h.notD _ rfl (by have e' : b = gd := e; rw [← e']; exact hb))
end
set_option maxHeartbeats 2000000 in
set_option maxRecDepth 1000000 in
theorem ref_put (S : St) (F : Nat → Prop) (mb : Nat) (pg : Nat) (data : ByteArray) (w : World) {G : Nat → Prop} (h : RefG w F G mb S) (hd : S.disk.length = 64) (hp : pg < 16) (hs : data.size = 4) :
    Calls Tryz.prog 111 #[.pointer (some ⟨mb, 0, none⟩), .int .i64 pg, .string data] w fun e w' => e = .returned (.tuple #[]) ∧ RefG w' F G mb { S with disk := putM S.disk (4 * pg) data.data.toList } ∧ Kept (fun k => F k ∧ ¬ G k) w w' ∧ w'.heap.size = w.heap.size := by
  obtain ⟨ar, cr, at_, ct, af, cf, ad, cd, h⟩ := h
  obtain ⟨gd, cur, hg, hgF, _, _, _⟩ := Row.some h.disk (by omega)
  subst hg
  have hgG : ¬ G gd := h.notD _ rfl
  have H := hide h
  have HD := hide hd
  clear h hd
  have HDS : Hid (∀ j, (hj : j < 4) → data.data.toList.getD j 0 = data.data[j]'(by have : data.data.size = 4 := hs; omega)) := fun j hj => by
    have h4 : data.data.size = 4 := hs
    rw [List.getD_eq_getElem?_getD, Array.getElem?_toList, Array.getElem?_eq_getElem (by omega)]; rfl
  go_enter Tryz.func111, Tryz.ntmps111
  go_wp2
  go_loopw [6] (fun i wr => ∃ j : Nat, j ≤ 4 ∧ i = .int .i64 j ∧ Hid (RefBlk wr F G mb { S with disk := putTo S.disk (4 * pg) data.data.toList j } ar cr at_ ct af cf (some ⟨gd, 0, none⟩) cd) ∧ Hid (Kept (fun k => F k ∧ ¬ G k) w wr) ∧ Hid (wr.heap.size = w.heap.size)) (fun i _ => 4 - (intOf i).toNat)
  case atStart => exact ⟨0, by omega, rfl, H.out, Kept.refl _ _, rfl⟩
  case round =>
    obtain ⟨j, hj, rfl, HQ, HK, HZ⟩ := hrel
    by_cases hlt : j < 4
    · have c7 := HQ.out.c7
      have hl : ({ S with disk := putTo S.disk (4 * pg) data.data.toList j } : St).disk.length = 64 := (putTo_len _ _ _ _).trans HD.out
      rw [hl] at c7
      have hrd := HQ.out.disk
      rw [hl] at hrd
      have cx : ∃ v, wr.cell? ⟨gd, 4 * pg + j, none⟩ = some v := by
        rw [Row.cellAt hrd (4 * pg + j) (by omega)]
        have h2 : 4 * pg + j < (encB ({ S with disk := putTo S.disk (4 * pg) data.data.toList j } : St).disk).length := by rw [hrd.len]; omega
        exact ⟨_, List.getElem?_eq_getElem h2⟩
      obtain ⟨vx, cx⟩ := cx
      have fx := hrd.frozenAt (4 * pg + j)
      clear hrd hl
      have h4 : data.data.size = 4 := hs
      have hsI : (data.size : Int) = 4 := by omega
      have hpI : (pg : Int) < 16 := by omega
      have hjI : (j : Int) < 4 := by omega
      have gm1 : gd ≠ mb := fun e => by subst e; exact (HQ.out.disk.ne HQ.out.blk (by decide)) _ rfl rfl
      have gm2 : mb ≠ gd := fun e => gm1 e.symm
      have hta : ((4 * (pg : Int) + (j : Int)).toNat) = 4 * pg + j := by omega
      have hb0 : (0 : Int) ≤ 4 * (pg : Int) + (j : Int) := by omega
      have hb1 : 4 * (pg : Int) + (j : Int) < 64 := by omega
      have hw1 : IntKind.i64.wrap (4 * (pg : Int)) = 4 * (pg : Int) := by rw [IntKind.wrap_i64]; omega
      have hw2 : IntKind.i64.wrap (4 * (pg : Int) + (j : Int)) = 4 * (pg : Int) + (j : Int) := by rw [IntKind.wrap_i64]; omega
      have hjs : (j : Int) < (data.size : Int) := by omega
      have hjn : j < data.size := by omega
      have HSTEP : Hid (RefBlk (wr.setCell ⟨gd, 4 * pg + j, none⟩ (.int .u8 ((data[j]'(by omega)).toNat : Int))) F G mb { S with disk := putTo S.disk (4 * pg) data.data.toList (j + 1) } ar cr at_ ct af cf (some ⟨gd, 0, none⟩) cd) := by
        have := HQ.out.setDisk (4 * pg + j) (data.data[j]'(by omega))
        rw [Hid, putTo_next, HDS.out j hlt]
        exact this
      go_wp2_with fail
      go_region_held3 (fun W => W.cell? ⟨mb, 7, none⟩ = some (.slice (some ⟨gd, 0, none⟩) 64 cd)) (go_keep) (fail)
      go_wp2
      go_roundw
      case rel => exact ⟨j + 1, by omega, by go_num, HSTEP.out.same (fun _ _ _ => rfl) (Nat.le_refl _), (HK.out.setCell (p := ⟨gd, 4 * pg + j, none⟩) (Or.inl ⟨hgF, hgG⟩) _).drew, by rw [Hid, ← HZ.out]; simp [World.setCell, World.drew]⟩
      case measure => simp [intOf]; omega
    · have hj4 : j = 4 := by omega
      subst hj4
      have HFIN : Hid (RefG wr F G mb { S with disk := putM S.disk (4 * pg) data.data.toList }) := ⟨_, _, _, _, _, _, _, _, HQ.out⟩
      go_wp2
      go_end0
      exact ⟨rfl, HFIN.out, HK.out, HZ.out⟩
end Go.Proofs.YtiabdbeejkadnaaGreatDoor

/- The reference queue: a request is stored whole. Own work of the verifier. -/
namespace Go.Proofs.YtiabdbeejkadnaaGreatDoor
open Go.RowKit

section
variable {w : World} {F G : Nat → Prop} {mb : Nat} {S : St} {cr : Nat} {at_ : Option Addr} {ct : Nat} {af : Option Addr} {cf : Nat} {ad : Option Addr} {cd : Nat}
/-- one cell more of request k, which was x -/
theorem RefBlk.setN {g0 : Nat} {R : List Rq} {x : Rq} {k : Nat} (h : RefBlk w F G mb { S with reqs := R.set k x } (some ⟨g0, 0, none⟩) cr at_ ct af cf ad cd) (t : Nat) (v : Value) (r' : Rq) (hk : k < R.length) (ht : t < 10) (hv : encR r' = (encR x).set t v) :
    RefBlk (w.setCell ⟨g0, k * 10 + t, none⟩ v) F G mb { S with reqs := R.set k r' } (some ⟨g0, 0, none⟩) cr at_ ct af cf ad cd := by
  have hk1 : k < ({ S with reqs := R.set k x } : St).reqs.length := by show k < (R.set k x).length; rw [List.length_set]; exact hk
  have e : ({ S with reqs := R.set k x } : St).reqs[k]'hk1 = x := by simp
  have h2 := h.setT k t v r' hk1 ht (by rw [e]; exact hv)
  have e2 : ({ S with reqs := R.set k x } : St).reqs.set k r' = R.set k r' := by show (R.set k x).set k r' = _; rw [List.set_set]
  rw [e2] at h2
  exact h2
theorem RefBlk.setAll {g0 : Nat} (h : RefBlk w F G mb S (some ⟨g0, 0, none⟩) cr at_ ct af cf ad cd) (k : Nat) (r : Rq) (hk : k < S.reqs.length) :
    RefBlk ((((((((((w.setCell ⟨g0, k * 10 + 0, none⟩ (.int .i64 r.num)).setCell ⟨g0, k * 10 + 1, none⟩ (.bool r.write)).setCell ⟨g0, k * 10 + 2, none⟩ (.int .i64 r.page)).setCell ⟨g0, k * 10 + 3, none⟩ (.string r.data)).setCell ⟨g0, k * 10 + 4, none⟩ (.int .i64 r.state)).setCell ⟨g0, k * 10 + 5, none⟩ (.int .i64 r.tries)).setCell ⟨g0, k * 10 + 6, none⟩ (.int .i64 r.after)).setCell ⟨g0, k * 10 + 7, none⟩ (.bool r.alone)).setCell ⟨g0, k * 10 + 8, none⟩ (.bool r.inAir)).setCell ⟨g0, k * 10 + 9, none⟩ (.string r.answer)) F G mb { S with reqs := S.reqs.set k r } (some ⟨g0, 0, none⟩) cr at_ ct af cf ad cd := by
  have hself : S.reqs.set k S.reqs[k] = S.reqs := List.set_getElem_self hk
  have h0 : RefBlk w F G mb { S with reqs := S.reqs.set k S.reqs[k] } (some ⟨g0, 0, none⟩) cr at_ ct af cf ad cd := by rw [hself]; exact h
  have h1 := h0.setN 0 (.int .i64 r.num) { S.reqs[k] with num := r.num } hk (by omega) rfl
  have h2 := h1.setN 1 (.bool r.write) { S.reqs[k] with num := r.num, write := r.write } hk (by omega) rfl
  have h3 := h2.setN 2 (.int .i64 r.page) { S.reqs[k] with num := r.num, write := r.write, page := r.page } hk (by omega) rfl
  have h4 := h3.setN 3 (.string r.data) { S.reqs[k] with num := r.num, write := r.write, page := r.page, data := r.data } hk (by omega) rfl
  have h5 := h4.setN 4 (.int .i64 r.state) { S.reqs[k] with num := r.num, write := r.write, page := r.page, data := r.data, state := r.state } hk (by omega) rfl
  have h6 := h5.setN 5 (.int .i64 r.tries) { S.reqs[k] with num := r.num, write := r.write, page := r.page, data := r.data, state := r.state, tries := r.tries } hk (by omega) rfl
  have h7 := h6.setN 6 (.int .i64 r.after) { S.reqs[k] with num := r.num, write := r.write, page := r.page, data := r.data, state := r.state, tries := r.tries, after := r.after } hk (by omega) rfl
  have h8 := h7.setN 7 (.bool r.alone) { S.reqs[k] with num := r.num, write := r.write, page := r.page, data := r.data, state := r.state, tries := r.tries, after := r.after, alone := r.alone } hk (by omega) rfl
  have h9 := h8.setN 8 (.bool r.inAir) { S.reqs[k] with num := r.num, write := r.write, page := r.page, data := r.data, state := r.state, tries := r.tries, after := r.after, alone := r.alone, inAir := r.inAir } hk (by omega) rfl
  have h10 := h9.setN 9 (.string r.answer) { S.reqs[k] with num := r.num, write := r.write, page := r.page, data := r.data, state := r.state, tries := r.tries, after := r.after, alone := r.alone, inAir := r.inAir, answer := r.answer } hk (by omega) rfl
  exact h10
end
end Go.Proofs.YtiabdbeejkadnaaGreatDoor
