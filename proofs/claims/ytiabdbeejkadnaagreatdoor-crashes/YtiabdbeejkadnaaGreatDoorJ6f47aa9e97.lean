import Derived.Test.YtiabdbeejkadnaaGreatDoorJ7350601c60
import Derived.Test.YtiabdbeejkadnaaGreatDoorJ670a8aa7d7
/- The reference queue: Complete. Own work of the verifier. -/
namespace Go.Proofs.YtiabdbeejkadnaaGreatDoor
open Go.RowKit

/-- the first i of a list but for the one at place k -/
def keepG {α : Type} (R : List α) (k i : Nat) : List α := (R.take i).eraseIdx k
theorem keepG_zero {α : Type} (R : List α) (k : Nat) : keepG R k 0 = [] := by simp [keepG]
theorem keepG_all {α : Type} (R : List α) (k i : Nat) (h : R.length ≤ i) : keepG R k i = R.eraseIdx k := by rw [keepG, List.take_of_length_le h]
theorem keepG_same {α : Type} (R : List α) (k : Nat) : keepG R k (k + 1) = keepG R k k := by
  unfold keepG
  by_cases h : k < R.length
  · have hl : (R.take k).length = k := by rw [List.length_take]; omega
    rw [List.take_succ_eq_append_getElem h, List.eraseIdx_append_of_length_le (by omega), hl, Nat.sub_self, List.eraseIdx_of_length_le (l := R.take k) (k := k) (by omega)]
    simp
  · rw [List.take_of_length_le (by omega), List.take_of_length_le (by omega)]
theorem keepG_next {α : Type} (R : List α) (k i : Nat) (h : i < R.length) (hne : i ≠ k) : keepG R k (i + 1) = keepG R k i ++ [R[i]] := by
  unfold keepG
  rw [List.take_succ_eq_append_getElem h]
  rcases Nat.lt_or_ge k i with hk | hk
  · rw [List.eraseIdx_append_of_lt_length (by rw [List.length_take]; omega)]
  · rw [List.eraseIdx_of_length_le (by rw [List.length_append, List.length_take]; simp; omega), List.eraseIdx_of_length_le (by rw [List.length_take]; omega)]
theorem keepG_len {α : Type} (R : List α) (k i : Nat) : (keepG R k i).length ≤ R.length := by
  unfold keepG
  have := List.length_eraseIdx_le (R.take i) k
  have := List.length_take_le' i R
  omega
theorem encC_at (l : List (Cmd × Option Addr × Nat)) (i t : Nat) (hi : i < l.length) (ht : t < 4) : (l.flatMap encC)[i * 4 + t]? = (encC l[i])[t]? := by
  induction l generalizing i with
  | nil => simp at hi
  | cons r l ih =>
    cases i with
    | zero =>
      simp only [List.flatMap_cons, Nat.zero_mul, Nat.zero_add]
      rw [List.getElem?_append_left (by simpa [encC] using ht)]
      simp
    | succ i =>
      simp only [List.flatMap_cons]
      rw [List.getElem?_append_right (by simp [encC]; omega)]
      have e : (i + 1) * 4 + t - (encC r).length = i * 4 + t := by simp [encC]; omega
      rw [e, ih i (by simpa using hi)]
      simp
theorem zip_erase' {α β : Type} (l : List α) (m : List β) (k : Nat) : (l.eraseIdx k).zip (m.eraseIdx k) = (l.zip m).eraseIdx k := by
  induction l generalizing m k with
  | nil => simp
  | cons a l ih =>
    cases m with
    | nil => simp
    | cons b m =>
      cases k with
      | zero => simp
      | succ k => simp [ih]
section
variable {w : World} {F G : Nat → Prop} {mb : Nat} {S : St} {ar : Option Addr} {cr : Nat} {at_ : Option Addr} {ct : Nat} {af : Option Addr} {cf : Nat} {ad : Option Addr} {cd : Nat}
def isBlk (ao : Option Addr) (b : Nat) : Prop := ∃ a, ao = some a ∧ a.block = b
/-- the row of commands is another: stored into the queue -/
theorem RefBlk.setFl {w2 : World} {ao : Option Addr} {n cap : Nat} {fl : List Cmd} {vs : List (Option Addr × Nat)} (h : RefBlk w F G mb S ar cr at_ ct af cf ad cd) (hs : ∀ k, k < w.heap.size → w2.heap[k]? = w.heap[k]?) (hz : w.heap.size ≤ w2.heap.size)
    (hv : vs.length = fl.length) (hn : n = fl.length) (hrow : Row w2 (fun b => w.heap.size ≤ b) 44 4 ao n cap ((fl.zip vs).flatMap encC)) (hins : ∀ x ∈ fl.zip vs, Row w G 3 1 x.2.1 x.1.requests.length x.2.2 (encI x.1.requests)) :
    RefBlk (w2.setCell ⟨mb, 3, none⟩ (.slice ao n cap)) (fun b => F b ∨ isBlk ao b) (fun b => G b ∨ isBlk ao b) mb { S with flights := fl } ar cr at_ ct ao cap ad cd := by
  subst hn
  have hb : w2.heap[mb]? = _ := (hs mb (lt_of_heap h.blk)).trans h.blk
  have hnew : ∀ b, isBlk ao b → w.heap.size ≤ b ∧ b < w2.heap.size := fun b ⟨a, ha, e⟩ => by
    obtain ⟨cu, hcu, _⟩ := hrow.block ha
    subst e
    exact ⟨hrow.2 a ha, lt_of_heap hcu⟩
  have hold : ∀ b, b < w.heap.size → b ≠ mb → (w2.setCell ⟨mb, 3, none⟩ (.slice ao fl.length cap)).heap[b]? = w.heap[b]? := fun b hlt hne => (Below.heap_setCell _ _ _ _ hne).trans (hs b hlt)
  refine ⟨Or.inl h.own, ?_, ?_, ?_, ?_, ⟨vs, hv, ?_, ?_⟩, fun k hk => hk.elim (fun e => Or.inl (h.sub k e)) Or.inr, ?_, ?_, ?_, ?_, ?_⟩
  · rw [heap_setCell_at hb]; rfl
  · exact (h.reqs.same fun a ha => by
      obtain ⟨c, hc, _⟩ := h.reqs.block ha
      exact hold _ (lt_of_heap hc) (h.reqs.ne h.blk (by decide) a ha)).mono fun k hk => Or.inl hk
  · exact (h.told.same fun a ha => by
      obtain ⟨c, hc, _⟩ := h.told.block ha
      exact hold _ (lt_of_heap hc) (h.told.ne h.blk (by decide) a ha)).mono fun k hk => Or.inl hk
  · exact (h.disk.same fun a ha => by
      obtain ⟨c, hc, _⟩ := h.disk.block ha
      exact hold _ (lt_of_heap hc) (h.disk.ne h.blk (by decide) a ha)).mono fun k hk => Or.inl hk
  · have h1 := hrow.setCell_other (p := ⟨mb, 3, none⟩) (hrow.ne hb (by decide)) (.slice ao fl.length cap)
    exact ⟨h1.1, fun a ha => Or.inr ⟨a, ha, rfl⟩⟩
  · intro x hx
    have h1 := hins x hx
    exact (h1.same fun a ha => by
      obtain ⟨c, hc, _⟩ := h1.block ha
      exact hold _ (lt_of_heap hc) (fun e => h.notMb (by rw [← e]; exact h1.2 a ha))).mono fun k hk => Or.inl hk
  · rintro (e | e)
    · exact h.notMb e
    · have := hnew _ e; have := h.lt; omega
  · rintro a ha (e | e)
    · exact h.notR a ha e
    · have := hnew _ e; obtain ⟨c, hc, _⟩ := h.reqs.block ha; have := lt_of_heap hc; omega
  · rintro a ha (e | e)
    · exact h.notT a ha e
    · have := hnew _ e; obtain ⟨c, hc, _⟩ := h.told.block ha; have := lt_of_heap hc; omega
  · rintro a ha (e | e)
    · exact h.notD a ha e
    · have := hnew _ e; obtain ⟨c, hc, _⟩ := h.disk.block ha; have := lt_of_heap hc; omega
  · rintro k (e | e)
    · have := h.ltF k e; simp [World.setCell]; omega
    · have := hnew _ e; simp [World.setCell]; omega
end
theorem ref_complete_no (S : St) (F : Nat → Prop) (mb : Nat) (kk : Int) (fault : Bool) (w : World) (h : RefAt w F mb S) (hk : kk < 0 ∨ (S.flights.length : Int) ≤ kk) :
    Calls Tryz.prog 46 #[.pointer (some ⟨mb, 0, none⟩), .int .i64 kk, .bool fault] w fun e w' => e = .returned (.bool false) ∧ w' = w := by
  obtain ⟨G, ar, cr, at_, ct, af, cf, ad, cd, h⟩ := h
  have c3 := h.c3
  clear h
  by_cases h0 : kk < 0
  · clear hk
    go_enter Tryz.func46, Tryz.ntmps46
    go_wp2
    go_ret
    exact ⟨rfl, rfl⟩
  · have h1 : (S.flights.length : Int) ≤ kk := hk.elim (fun e => absurd e h0) id
    clear hk
    go_enter Tryz.func46, Tryz.ntmps46
    go_wp2
    go_ret
    exact ⟨rfl, rfl⟩
set_option maxHeartbeats 4000000 in
set_option maxRecDepth 1000000 in
theorem ref_complete_ok (S : St) (F : Nat → Prop) (mb k : Nat) (fault : Bool) (w : World) (h : RefAt w F mb S) (hk : k < S.flights.length) (hw : Wf S) (hl : S.last ≤ 1000000) (hnow : S.now ≤ 1000000000) :
    Calls Tryz.prog 46 #[.pointer (some ⟨mb, 0, none⟩), .int .i64 (k : Int), .bool fault] w fun e w' => e = .returned (.bool true) ∧ RefAt w' (Foot F w w') mb (endM { S with flights := S.flights.eraseIdx k } (S.flights[k]).requests fault) ∧ Kept F w w' := by
  obtain ⟨i0, hi, hi0, hi1, hi2⟩ := info_parts info_cmd
  obtain ⟨G, ar, cr, at_, ct, af, cf, ad, cd, hB⟩ := h
  obtain ⟨vs, hvl, hRf, hins⟩ := hB.flights
  replace hRf : Row w G 44 4 af S.flights.length cf ((S.flights.zip vs).flatMap encC) := hRf
  obtain ⟨gf, cur, hgf, hgG, hgb, _, _⟩ := Row.some hRf (by omega)
  subst hgf
  have hzl : (S.flights.zip vs).length = S.flights.length := by rw [List.length_zip, hvl, Nat.min_self]
  have hkz : k < (S.flights.zip vs).length := by omega
  have hkv : k < vs.length := by omega
  have hzk : (S.flights.zip vs)[k] = (S.flights[k], vs[k]) := by simp
  have c3 := hB.c3
  have HC : Hid (∀ i t, (hi : i < (S.flights.zip vs).length) → t < 4 → w.cell? ⟨gf, i * 4 + t, none⟩ = (encC (S.flights.zip vs)[i])[t]?) := fun i t hi ht => by
    rw [Row.cellAt hRf (i * 4 + t) (by omega), encC_at _ i t hi ht]
  have x0 : w.cell? ⟨gf, k * 4, none⟩ = some (.bool (S.flights[k]).write) := by have := HC.out k 0 hkz (by omega); rw [hzk] at this; exact this
  have x1 : w.cell? ⟨gf, k * 4 + 1, none⟩ = some (.int .i64 (S.flights[k]).page) := by have := HC.out k 1 hkz (by omega); rw [hzk] at this; exact this
  have x2 : w.cell? ⟨gf, k * 4 + 2, none⟩ = some (.int .i64 (S.flights[k]).count) := by have := HC.out k 2 hkz (by omega); rw [hzk] at this; exact this
  have x3 : w.cell? ⟨gf, k * 4 + 3, none⟩ = some (.slice (vs[k]).1 (S.flights[k]).requests.length (vs[k]).2) := by have := HC.out k 3 hkz (by omega); rw [hzk] at this; exact this
  have HIN : Hid (Row w G 3 1 (vs[k]).1 (S.flights[k]).requests.length (vs[k]).2 (encI (S.flights[k]).requests)) := by
    have := hins _ (List.getElem_mem hkz)
    rw [hzk] at this; exact this
  have hfl4 : S.flights.length ≤ 4 := by have := hw.flLen; have := hw.depth; omega
  have hns : (S.flights[k]).requests.length ≤ 1000000 := by
    have h1 := hw.airLen
    have h2 := hw.reqsLen
    have h3 : (S.flights[k]).requests.length ≤ (airs S ++ []).length := nodup_len (by
      have hnd := hw.nodup
      rw [List.append_nil] at hnd
      exact (List.pairwise_flatMap.1 hnd).1 _ (List.getElem_mem hk)) (fun x hx => List.mem_append_left _ (List.mem_flatMap.2 ⟨_, List.getElem_mem hk, hx⟩))
    omega
  have HWL := hide (hw.lift hk)
  have HINS := hide hins
  have HB := hide hB
  have HVL := hide hvl
  have hmbl := hB.lt
  have hf3 := hB.fz 3
  have hgl : gf < w.heap.size := lt_of_heap hgb
  have hki : (k : Int) < (S.flights.length : Int) := by omega
  generalize hZ : S.flights.zip vs = Z at *
  have HZ : Hid (S.flights.zip vs = Z) := hZ
  generalize hvk : vs[k] = vk at *
  obtain ⟨va, vc⟩ := vk
  generalize hcm : S.flights[k] = cm at *
  clear hZ hvk hRf hins hvl hB hgb hkz hzk hcm hkv
  simp only at x3
  go_enter Tryz.func46, Tryz.ntmps46
  go_wp2
  have HB0 : Hid (Below w.heap.size w (w.alloc (.cells #[.bool cm.write, .int .i64 cm.page, .int .i64 cm.count, .slice va cm.requests.length vc] 44))) := alloc_below _ _
  have HC0 : Hid ((w.alloc (.cells #[.bool cm.write, .int .i64 cm.page, .int .i64 cm.count, .slice va cm.requests.length vc] 44)).heap[w.heap.size]? = some (.cells #[.bool cm.write, .int .i64 cm.page, .int .i64 cm.count, .slice va cm.requests.length vc] 44 (0, 0))) := heap_alloc_new w _
  have hsz0 : (w.alloc (.cells #[.bool cm.write, .int .i64 cm.page, .int .i64 cm.count, .slice va cm.requests.length vc] 44)).heap.size = w.heap.size + 1 := by simp
  clear x0 x1 x2 x3
  generalize w.alloc (.cells #[.bool cm.write, .int .i64 cm.page, .int .i64 cm.count, .slice va cm.requests.length vc] 44) = W0 at HB0 HC0 hsz0 ⊢
  go_loopw [8, 9] (fun l i wr => ∃ (j n cap : Nat) (ao : Option Addr), j ≤ S.flights.length ∧ i = .int .i64 j ∧ l = .slice ao n cap ∧ n = (keepG Z k j).length ∧ Hid (Row wr (fun b => W0.heap.size ≤ b) 44 4 ao n cap ((keepG Z k j).flatMap encC)) ∧ Hid (Below W0.heap.size W0 wr)) (fun _ i _ => S.flights.length - (intOf i).toNat)
  case atStart => exact ⟨0, 0, 0, none, Nat.zero_le _, rfl, rfl, by rw [keepG_zero]; rfl, by rw [keepG_zero]; exact Row.nil _ _ _ _, Below.refl _ _⟩
  case round =>
    obtain ⟨j, n, cap, ao, hj, rfl, rfl, hn, hrow, hb⟩ := hrel
    have HN : Hid (n = (keepG Z k j).length) := hn
    have hnl : n ≤ S.flights.length := by rw [hn, ← hzl]; exact keepG_len Z k j
    clear hn
    have HBW : Hid (Below w.heap.size w wr) := HB0.out.trans (hb.out.mono (by omega))
    have d3 : wr.cell? ⟨mb, 3, none⟩ = some (.slice (some ⟨gf, 0, none⟩) S.flights.length cf) := (HBW.out.cell (p := ⟨mb, 3, none⟩) hmbl).trans c3
    have e3 : wr.frozen? ⟨mb, 3, none⟩ = false := (HBW.out.frozen (p := ⟨mb, 3, none⟩) hmbl).trans hf3
    by_cases hlt2 : j < S.flights.length
    · have hji : (j : Int) < (S.flights.length : Int) := by omega
      by_cases hjk : j = k
      · have b1 : ((j : Int) != (k : Int)) = false := by simp [hjk]
        have HE : Hid (j = k) := hjk
        clear hjk
        go_wp2
        go_roundw
        case rel => exact ⟨j + 1, n, cap, ao, by omega, by go_num, rfl, by rw [HN.out, HE.out, keepG_same], by rw [HE.out, keepG_same]; rw [HE.out] at hrow; exact hrow, hb⟩
        case measure => simp [intOf]; omega
      · have b1 : ((j : Int) != (k : Int)) = true := by rw [bne_iff_ne]; omega
        have hjz : j < Z.length := by omega
        have HKN := hide (keepG_next Z k j hjz hjk)
        have hq : ∀ t, t < 4 → wr.cell? ⟨gf, j * 4 + t, none⟩ = (encC Z[j])[t]? := fun t ht => (HBW.out.cell (p := ⟨gf, j * 4 + t, none⟩) hgl).trans (HC.out j t hjz ht)
        generalize Z[j] = z at *
        obtain ⟨zc, za, zk⟩ := z
        have q0 : wr.cell? ⟨gf, j * 4, none⟩ = some (.bool zc.write) := hq 0 (by omega)
        have q1 : wr.cell? ⟨gf, j * 4 + 1, none⟩ = some (.int .i64 zc.page) := hq 1 (by omega)
        have q2 : wr.cell? ⟨gf, j * 4 + 2, none⟩ = some (.int .i64 zc.count) := hq 2 (by omega)
        have q3 : wr.cell? ⟨gf, j * 4 + 3, none⟩ = some (.slice za zc.requests.length zk) := hq 3 (by omega)
        clear hq hjk
        have HO : Hid ((wr.alloc (.cells #[.bool zc.write, .int .i64 zc.page, .int .i64 zc.count, .slice za zc.requests.length zk] 44)).ownsRow 0 44 4 (.slice ao n cap) n ((keepG Z k j).flatMap encC)) := (hrow.out.alloc _).1
        have HW : Hid (∀ (t : Nat) (u : Value), [Value.bool zc.write, .int .i64 zc.page, .int .i64 zc.count, .slice za zc.requests.length zk][t]? = some u → (wr.alloc (.cells #[.bool zc.write, .int .i64 zc.page, .int .i64 zc.count, .slice za zc.requests.length zk] 44)).cell? ((⟨wr.heap.size, 0, none⟩ : Addr).add t) = some u) := fun t u => news_new t u
        go_wp2_with (at_builtin; go_must (refine wpList_append_lies _ rfl (.tmp 41) (.tmp 49) 39 rfl 0 44 i0 (.agg #[.bool false, .int .i64 0, .int .i64 0, .slice none 0 0]) 4 48 Tryz.underlying39 hi hi0 hi1 hi2 rfl (by decide) (.slice ao n cap) n ((keepG Z k j).flatMap encC) rfl HO.out ⟨wr.heap.size, 0, none⟩ 1 1 [Value.bool zc.write, .int .i64 zc.page, .int .i64 zc.count, .slice za zc.requests.length zk] rfl rfl HW.out (by intro u hu; simp at hu; rcases hu with rfl | rfl | rfl | rfl <;> rfl) (by decide) (by unfold maxLen; omega) (by omega) (Nat.zero_le _) (wr.heap.size + 1) (by simp) ?_; intro g cap' w2 hown hgrow hat hlt3; have HX := hide (own_rel hb.out hrow.out hgrow hown hat); clear hown hgrow hat hlt3))
        go_roundw
        case rel => exact ⟨j + 1, n + 1, cap', some ⟨g, 0, none⟩, by omega, by go_num, rfl, by rw [HKN.out, List.length_append, HN.out]; rfl, by rw [HKN.out, List.flatMap_append]; simpa [Hid, encC] using HX.out.2, HX.out.1⟩
        case measure => simp [intOf]; omega
    · have HALL : Hid (keepG Z k j = (S.flights.eraseIdx k).zip (vs.eraseIdx k)) := by rw [Hid, keepG_all Z k j (by omega), ← HZ.out, zip_erase']
      have hlen : (S.flights.eraseIdx k).length = S.flights.length - 1 := by rw [List.length_eraseIdx, if_pos hk]
      have hvlen : (vs.eraseIdx k).length = (S.flights.eraseIdx k).length := by rw [List.length_eraseIdx, List.length_eraseIdx, HVL.out]
      have hnn : n = (S.flights.eraseIdx k).length := by
        rw [HN.out, HALL.out, List.length_zip, hvlen, Nat.min_self]
      have HRB : Hid (RefBlk (wr.setCell ⟨mb, 3, none⟩ (.slice ao n cap)) (fun b => F b ∨ isBlk ao b) (fun b => G b ∨ isBlk ao b) mb { S with flights := S.flights.eraseIdx k } ar cr at_ ct ao cap ad cd) := by
        have hrow2 := hrow.out
        rw [HALL.out] at hrow2
        exact HB.out.setFl (fun b hb' => HBW.out.block b hb') HBW.out.size hvlen hnn (hrow2.mono fun b hb' => by omega) (fun x hx => by
          rw [zip_erase', HZ.out] at hx
          have := HINS.out x (List.mem_of_mem_eraseIdx hx)
          exact this)
      have hnew : ∀ b, isBlk ao b → W0.heap.size ≤ b := fun b ⟨a, ha, e⟩ => by rw [← e]; exact hrow.out.2 a ha
      have HCB : Hid ((wr.setCell ⟨mb, 3, none⟩ (.slice ao n cap)).heap[w.heap.size]? = some (.cells #[.bool cm.write, .int .i64 cm.page, .int .i64 cm.count, .slice va cm.requests.length vc] 44 (0, 0))) := by
        rw [Hid, Below.heap_setCell _ _ _ _ (by show w.heap.size ≠ mb; omega)]
        exact (hb.out.block w.heap.size (by omega)).trans HC0.out
      have HKW : Hid (Kept F w (wr.setCell ⟨mb, 3, none⟩ (.slice ao n cap))) := (Go.Proofs.YtiabdbeejkadnaaGreatDoor.Below.kept HBW.out F).setCell (p := ⟨mb, 3, none⟩) (Or.inl HB.out.own) _
      have HRI : Hid (Row (wr.setCell ⟨mb, 3, none⟩ (.slice ao n cap)) (fun b => G b ∨ isBlk ao b) 3 1 va cm.requests.length vc (encI cm.requests)) := by
        refine (HIN.out.same fun a ha => ?_).mono fun b hb' => Or.inl hb'
        have h1 := HIN.out.2 a ha
        obtain ⟨cu, hcu, _⟩ := HIN.out.block ha
        rw [Below.heap_setCell _ _ _ _ (fun e => HB.out.notMb (by have e' : a.block = mb := e; rw [← e']; exact h1))]
        exact HBW.out.block _ (lt_of_heap hcu)
      have HNF : Hid (¬ (F w.heap.size ∨ isBlk ao w.heap.size)) := by
        rintro (e | e)
        · have := HB.out.ltF _ e; omega
        · have := hnew _ e; omega
      have HFZ : Hid (∀ b, (F b ∨ isBlk ao b) → F b ∨ w.heap.size ≤ b) := fun b hb' => hb'.elim Or.inl (fun e => Or.inr (by have := hnew b e; omega))
      have hcl : Hid (w.heap.size < (wr.setCell ⟨mb, 3, none⟩ (.slice ao n cap)).heap.size) := lt_of_heap HCB.out
      clear hnew hnn hvlen hlen
      go_wp2_with fail
      generalize wr.setCell ⟨mb, 3, none⟩ (.slice ao n cap) = W1 at *
      generalize hF1 : (fun b => F b ∨ isBlk ao b) = F1 at *
      generalize hG1 : (fun b => G b ∨ isBlk ao b) = G1 at *
      have HF1 : Hid (∀ b, F1 b → F b ∨ w.heap.size ≤ b) := fun b hb' => HFZ.out b (by rw [← hF1] at hb'; exact hb')
      have HFF : Hid (∀ b, F b → F1 b) := fun b hb' => by rw [← hF1]; exact Or.inl hb'
      have HNF1 : Hid (¬ F1 w.heap.size) := by rw [Hid, ← hF1]; exact HNF.out
      have HG0 : Hid (RefG W1 F1 G1 mb { S with flights := S.flights.eraseIdx k }) := ⟨_, _, _, _, _, _, _, _, HRB.out⟩
      generalize hS1 : ({ S with flights := S.flights.eraseIdx k } : St) = S1 at *
      have hS1n : S1.now = S.now := by rw [← hS1]
      have hS1l : S1.last = S.last := by rw [← hS1]
      generalize hns' : cm.requests = ns at *
      have HS1 := hide hS1
      have HNS := hide hns'
      clear HRB HNF HFZ hF1 hG1 hS1 d3 e3 c3 hf3 hb hrow HALL HN HC0 HB0 HB HINS HIN HZ HC hns'
      go_loopw [10] (fun i wr => ∃ t : Nat, t ≤ ns.length ∧ i = .int .i64 t ∧ Hid (RefG wr (Foot F1 W1 wr) G1 mb (endM S1 (ns.take t) fault)) ∧ Hid (Kept (fun k => F1 k ∧ ¬ G1 k) W1 wr)) (fun i _ => ns.length - (intOf i).toNat)
      case atStart => exact ⟨0, Nat.zero_le _, rfl, HG0.out.wid Foot.of (Foot.lt HG0.out.lt (Nat.le_refl _)), Kept.refl _ _⟩
      case round =>
        obtain ⟨t, ht, rfl, HG, HK⟩ := hrel
        have hcb : wr.heap[w.heap.size]? = _ := (HK.out.block w.heap.size hcl.out (fun e => HNF1.out e.1)).trans HCB.out
        obtain ⟨⟨c0, c1, c2, c3⟩, _⟩ := quad hcb
        clear hcb
        by_cases hlt : t < ns.length
        · have hti : (t : Int) < (ns.length : Int) := by omega
          have hrow2 : Row wr G1 3 1 va ns.length vc (encI ns) := HRI.out.same fun a ha => by
            obtain ⟨cu, hcu, _⟩ := HRI.out.block ha
            exact HK.out.block _ (lt_of_heap hcu) (fun e => e.2 (HRI.out.2 a ha))
          obtain ⟨g4, cur4, hg4, _, _, _, _⟩ := Row.some hrow2 (by omega)
          subst hg4
          have ck : wr.cell? ⟨g4, t, none⟩ = some (.int .i64 ns[t]) := by rw [Row.cellAt hrow2 t (by omega)]; simp [encI, hlt]
          clear hrow2
          have HEND : Hid (endM S1 (ns.take (t + 1)) fault = triedM (endM S1 (ns.take t) fault) ns[t] fault) := by rw [Hid, List.take_succ_eq_append_getElem hlt]; unfold endM; rw [List.foldl_append]; rfl
          have hwt : WfE (endM S1 (ns.take t) fault) (ns[t] :: ns.drop (t + 1)) := by
            rw [← List.drop_eq_getElem_cons hlt]
            exact WfE.ends (by rw [List.take_append_drop]; exact HWL.out) fault
          have hsm := endM_same (ns.take t) S1 fault
          have HTR := hide (ref_tried _ _ (Foot F1 W1 wr) G1 mb ns[t] fault wr HG.out hwt (by rw [hsm.1]; omega) (by rw [hsm.2.1]; omega))
          clear hwt hsm
          generalize ns[t] = nn at *
          go_wp2_with (first | (go_at_call 71; refine HTR.out.mono ?_; rintro e w2 ⟨rfl, h1, h2⟩; have HX := hide (And.intro h1 h2); clear h1 h2))
          go_roundw
          case rel =>
            have hz := HX.out.2.size
            have hzk := HK.out.size
            refine ⟨t + 1, by omega, by go_num, ?_, ?_⟩
            · rw [HEND.out]
              exact HX.out.1.wid (fun b hb' => Foot.trans hzk hz b hb') (Foot.lt HG0.out.lt (by omega))
            · refine HK.out.trans (HX.out.2.mono fun b _ hb' => ?_)
              rcases hb'.1 with e | e
              · exact Or.inl ⟨e, hb'.2⟩
              · exact Or.inr e.1
          case measure => simp [intOf]; omega
        · have hta : ns.take t = ns := List.take_of_length_le (by omega)
          have HFIN : Hid (RefAt wr (Foot F w wr) mb (endM S1 ns fault) ∧ Kept F w wr) := by
            have h1 := HG.out
            rw [hta] at h1
            have hzk := HK.out.size
            have hz1 := HKW.out.size
            refine ⟨h1.at_.wid (fun b hb' => ?_) (fun b hb' => ?_), HKW.out.trans (HK.out.mono fun b _ hb' => ?_)⟩
            · rcases hb' with e | e
              · rcases HF1.out b e with e' | e'
                · exact Or.inl e'
                · have := HG0.out.lt b e; exact Or.inr ⟨e', by omega⟩
              · exact Or.inr ⟨by omega, e.2⟩
            · rcases hb' with e | e
              · have := HG0.out.lt b (HFF.out b e); omega
              · exact e.2
            · exact (HF1.out b hb'.1).elim Or.inl Or.inr
          clear HG HK hta
          go_wp2
          go_ret
          rw [HS1.out, HNS.out]
          exact ⟨rfl, HFIN.out.1, HFIN.out.2⟩
/-- Complete, whole -/
theorem ref_complete (S : St) (F : Nat → Prop) (mb : Nat) (kk : Int) (fault : Bool) (w : World) (h : RefAt w F mb S) (hw : Wf S) (hl : S.last ≤ 1000000) (hnow : S.now ≤ 1000000000) :
    Calls Tryz.prog 46 #[.pointer (some ⟨mb, 0, none⟩), .int .i64 kk, .bool fault] w fun e w' => e = .returned (.bool (completeM S kk fault).1) ∧ RefAt w' (Foot F w w') mb (completeM S kk fault).2 ∧ Kept F w w' := by
  by_cases hk : kk < 0 ∨ (S.flights.length : Int) ≤ kk
  · have e : completeM S kk fault = (false, S) := by unfold completeM; rw [if_pos hk]
    rw [e]
    refine (ref_complete_no S F mb kk fault w h hk).mono ?_
    rintro e w' ⟨rfl, rfl⟩
    exact ⟨rfl, Kept.refAt h, Kept.refl _ _⟩
  · obtain ⟨k, rfl⟩ : ∃ k : Nat, kk = k := ⟨kk.toNat, by omega⟩
    have hk' : k < S.flights.length := by omega
    have e : completeM S (k : Int) fault = (true, endM { S with flights := S.flights.eraseIdx k } (S.flights[k]).requests fault) := by
      unfold completeM; rw [if_neg hk]
      simp [List.getD_eq_getElem?_getD, hk']
    rw [e]
    exact ref_complete_ok S F mb k fault w h hk' hw hl hnow
end Go.Proofs.YtiabdbeejkadnaaGreatDoor
