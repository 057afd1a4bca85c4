import Derived.Test.YtiabdbeejkadnabGreatDoorJ5e46982a77
import Derived.Test.YtiabdbeejkadnabGreatDoorJf04770ab70
/- The keeps: ask of a write. Own work of the verifier. -/
namespace Go.Proofs.YtiabdbeejkadnabGreatDoor
open Go.RowKit Go.Maps

/-- what a write asks for: the byte, and two of the request's place -/
def kdata (v : UInt8) (n : Nat) : ByteArray := ⟨#[v, UInt8.ofNat n, UInt8.ofNat n / 2, 1]⟩
theorem kdata_size (v : UInt8) (n : Nat) : (kdata v n).size = 4 := rfl
set_option maxHeartbeats 4000000 in
set_option maxRecDepth 1000000 in
/-- a write that is taken in -/
theorem keep_ask_w (S : St) (rs : List KR) (F : Nat → Prop) (wb xb : Nat) (page : Int) (v : UInt8) (w : World) (h : KAt w F wb xb S rs) (hg : GCell w) (h0 : ¬ F 0) (hlast : S.last = rs.length) (hl : rs.length ≤ 100000) (hp : 0 ≤ page ∧ page < 16) (hf : ¬ 40 ≤ (S.reqs.length : Int) - S.told.length) :
    Calls Tryz.prog 8 #[.pointer (some ⟨wb, 0, none⟩), .bool true, .int .i64 page, .int .u8 v.toNat] w fun e w' => e = .returned (.bool true) ∧ KAt w' (Foot F w w') wb xb (askOk S true page (kdata v rs.length)) (rs ++ [⟨rs.length + 1, true, page, kdata v rs.length, 0, ⟨#[]⟩⟩]) ∧ Kept F w w' := by
  obtain ⟨i0, hi, hi0, hi1, hi2⟩ := info_parts info_kreq
  obtain ⟨Fx, Fk, ar, cr, hP, hB, hd, hF⟩ := h
  have hn1 : ((UInt8.ofNat rs.length).toNat : Int) = (rs.length : Int) % 256 := by simp [UInt8.toNat_ofNat']
  have hn2 : ((UInt8.ofNat rs.length / 2).toNat : Int) = (rs.length : Int) % 256 / 2 := by simp [UInt8.toNat_div, UInt8.toNat_ofNat']
  have hbyte : ∀ (W : World), W.heap[w.heap.size + 1]? = some (.cells #[.int .u8 (v.toNat : Int), .int .u8 ((rs.length : Int) % 256), .int .u8 ((rs.length : Int) % 256 / 2), .int .u8 1] 5 (0, 0)) → ∀ j, (hj : j < (kdata v rs.length).data.toList.length) → W.cell? ((⟨w.heap.size + 1, 0, none⟩ : Addr).add j) = some (.int .u8 (((kdata v rs.length).data.toList[j]).toNat : Int)) := fun W hW j hj => by
    have hj4 : j < 4 := hj
    rw [Addr.add_lit, Nat.zero_add]
    have h4 : j = 0 ∨ j = 1 ∨ j = 2 ∨ j = 3 := by omega
    rcases h4 with rfl | rfl | rfl | rfl
    · simp [World.cell?, hW, kdata]
    · simp only [World.cell?, hW]; simp [kdata]
    · simp only [World.cell?, hW]; simp [kdata]
    · simp [World.cell?, hW, kdata]
  have hcv : (convert 37 9 (.slice (some ⟨w.heap.size + 1, 0, none⟩) 4 4)).run Tryz.prog ((w.alloc (.cells #[.int .i64 0, .bool true, .int .i64 page, .string ⟨#[]⟩, .int .i64 0, .string ⟨#[]⟩] 28)).alloc (.cells #[.int .u8 (v.toNat : Int), .int .u8 ((rs.length : Int) % 256), .int .u8 ((rs.length : Int) % 256 / 2), .int .u8 1] 5)) = .ok (.string (kdata v rs.length)) ((w.alloc (.cells #[.int .i64 0, .bool true, .int .i64 page, .string ⟨#[]⟩, .int .i64 0, .string ⟨#[]⟩] 28)).alloc (.cells #[.int .u8 (v.toNat : Int), .int .u8 ((rs.length : Int) % 256), .int .u8 ((rs.length : Int) % 256 / 2), .int .u8 1] 5)) := by
    have hW : ((w.alloc (.cells #[.int .i64 0, .bool true, .int .i64 page, .string ⟨#[]⟩, .int .i64 0, .string ⟨#[]⟩] 28)).alloc (.cells #[.int .u8 (v.toNat : Int), .int .u8 ((rs.length : Int) % 256), .int .u8 ((rs.length : Int) % 256 / 2), .int .u8 1] 5)).heap[w.heap.size + 1]? = some (.cells #[.int .u8 (v.toNat : Int), .int .u8 ((rs.length : Int) % 256), .int .u8 ((rs.length : Int) % 256 / 2), .int .u8 1] 5 (0, 0)) := by
      have := heap_alloc_new (w.alloc (.cells #[.int .i64 0, .bool true, .int .i64 page, .string ⟨#[]⟩, .int .i64 0, .string ⟨#[]⟩] 28)) (.cells #[.int .u8 (v.toNat : Int), .int .u8 ((rs.length : Int) % 256), .int .u8 ((rs.length : Int) % 256 / 2), .int .u8 1] 5)
      simp only [World.size_alloc] at this; exact this
    exact run_convert_bytes_back (P := Tryz.prog) _ 37 9 5 ⟨w.heap.size + 1, 0, none⟩ 4 (kdata v rs.length).data.toList Tryz.underlying37 Tryz.underlying5 Tryz.underlying9 (hbyte _ hW)
  have hask : askM S true page (kdata v rs.length) = (S.last + 1, 0, askOk S true page (kdata v rs.length)) := by
    unfold askM; rw [if_neg (by omega), if_neg (by rw [kdata_size]; simp), if_neg hf]
  have hb0 : Hid (Below w.heap.size w ((w.alloc (.cells #[.int .i64 0, .bool true, .int .i64 page, .string (kdata v rs.length), .int .i64 0, .string ⟨#[]⟩] 28)).alloc (.cells #[.int .u8 (v.toNat : Int), .int .u8 ((rs.length : Int) % 256), .int .u8 ((rs.length : Int) % 256 / 2), .int .u8 1] 5))) := (alloc_below _ _).trans ((alloc_below _ _).mono (by simp))
  have hA1 : ((w.alloc (.cells #[.int .i64 0, .bool true, .int .i64 page, .string (kdata v rs.length), .int .i64 0, .string ⟨#[]⟩] 28)).alloc (.cells #[.int .u8 (v.toNat : Int), .int .u8 ((rs.length : Int) % 256), .int .u8 ((rs.length : Int) % 256 / 2), .int .u8 1] 5)).heap[w.heap.size + 1]? = some (.cells #[.int .u8 (v.toNat : Int), .int .u8 ((rs.length : Int) % 256), .int .u8 ((rs.length : Int) % 256 / 2), .int .u8 1] 5 (0, 0)) := by
    have := heap_alloc_new (w.alloc (.cells #[.int .i64 0, .bool true, .int .i64 page, .string (kdata v rs.length), .int .i64 0, .string ⟨#[]⟩] 28)) (.cells #[.int .u8 (v.toNat : Int), .int .u8 ((rs.length : Int) % 256), .int .u8 ((rs.length : Int) % 256 / 2), .int .u8 1] 5)
    simp only [World.size_alloc] at this; exact this
  have hA0 : ((w.alloc (.cells #[.int .i64 0, .bool true, .int .i64 page, .string (kdata v rs.length), .int .i64 0, .string ⟨#[]⟩] 28)).alloc (.cells #[.int .u8 (v.toNat : Int), .int .u8 ((rs.length : Int) % 256), .int .u8 ((rs.length : Int) % 256 / 2), .int .u8 1] 5)).heap[w.heap.size]? = some (.cells (encK ⟨0, true, page, kdata v rs.length, 0, ⟨#[]⟩⟩).toArray 28 (0, 0)) := (Below.heap_alloc _ _ _ (by simp)).trans (heap_alloc_new w _)
  have hAz : ((w.alloc (.cells #[.int .i64 0, .bool true, .int .i64 page, .string (kdata v rs.length), .int .i64 0, .string ⟨#[]⟩] 28)).alloc (.cells #[.int .u8 (v.toNat : Int), .int .u8 ((rs.length : Int) % 256), .int .u8 ((rs.length : Int) % 256 / 2), .int .u8 1] 5)).heap.size = w.heap.size + 2 := by simp
  have HRD := hide (plain_write S Fx xb (w.heap.size + 1) 4 page (kdata v rs.length) ((w.alloc (.cells #[.int .i64 0, .bool true, .int .i64 page, .string (kdata v rs.length), .int .i64 0, .string ⟨#[]⟩] 28)).alloc (.cells #[.int .u8 (v.toNat : Int), .int .u8 ((rs.length : Int) % 256), .int .u8 ((rs.length : Int) % 256 / 2), .int .u8 1] 5)) (hP.same (fun k _ hk => hb0.out.block k hk) hb0.out.size) (fun j hj => by
    have := hbyte _ hA1 j hj
    rw [Addr.add_lit, Nat.zero_add] at this
    rw [this]
    have hj' : j < (kdata v rs.length).data.toList.length := hj
    rw [List.getD_eq_getElem?_getD, List.getElem?_eq_getElem hj']; rfl) (by omega) (by rw [kdata_size]; omega) (hg.below hb0.out) (fun e => h0 ((hF 0).2 (Or.inl e))) (by omega))
  rw [hask] at HRD
  have HA0 := hide hA0
  have HAZ := hide hAz
  have HD := hide hd
  have HF := hide hF
  have HPl := hide hP.lt
  have HLA := hide hlast
  have c0 := hB.c0
  have c1 := hB.c1
  have hwl : wb < w.heap.size := lt_of_heap hB.blk
  have HB := hide hB
  clear hP hB hd hF hask hf hA1 hA0 hAz hbyte hn1 hn2
  go_enter Tryz.func8, Tryz.ntmps8
  go_wp2_with fail
  refine HRD.out.mono ?_
  rintro e w1 ⟨rfl, hP1, hK1⟩
  have hnx : ∀ k, w.heap.size ≤ k → ¬ Fx k := fun k hk e => by have := HPl.out k e; omega
  have hz1 : w.heap.size + 1 < w1.heap.size := by have := hK1.size; have := HAZ.out; omega
  have hz1' : w.heap.size < w1.heap.size := by omega
  have q : w1.heap[w.heap.size]? = some (.cells (encK ⟨0, true, page, kdata v rs.length, 0, ⟨#[]⟩⟩).toArray 28 (0, 0)) := (hK1.block w.heap.size (by have := HAZ.out; omega) (hnx _ (Nat.le_refl _))).trans HA0.out
  obtain ⟨⟨r0, r1, r2, r3, r4, r5⟩, rf⟩ := six q
  have f0 := rf 0
  have HB1 := hide ((HB.out.below hb0.out).kept hK1 (fun k hk e => HD.out k e hk))
  have HK1 := hide hK1
  have HP1 := hide hP1
  rw [HLA.out]
  generalize hA : askOk S true page (kdata v rs.length) = S' at *
  have HA := hide hA
  clear hA hP1 hK1 HRD rf hcv c1
  go_wp2_with fail
  refine (keep_fine 0 (-1) 0 _).mono ?_
  rintro e w2 ⟨rfl, hb2⟩
  have ef : fineB 0 (-1) 0 = true := rfl
  rw [ef]
  have hz2 : w1.heap.size < w2.heap.size := by have := hb2.size; simp [World.setCell] at this; omega
  have hwk : ¬ Fk w.heap.size := fun e => by have := HB.out.ltF _ e; omega
  have q2 : w2.heap[w.heap.size]? = some (.cells (encK ⟨rs.length + 1, true, page, (kdata v rs.length), 0, ⟨#[]⟩⟩).toArray 28 (0, 0)) := by
    rw [hb2.block w.heap.size (by simp [World.setCell]; omega), Below.heap_alloc _ _ _ (by simp [World.setCell]; omega), heap_setCell_at q]; rfl
  obtain ⟨⟨s0, s1, s2, s3, s4, s5⟩, sf⟩ := six q2
  have HB2 : Hid (KBlk w2 Fk wb xb rs ar cr) := (((HB1.out.same (w1 := w1.setCell ⟨w.heap.size, 0, none⟩ (.int .i64 ((rs.length : Int) + 1))) (fun k hk _ => Below.heap_setCell _ _ _ _ (fun e => hwk (by have e' : k = w.heap.size := e; rw [← e']; exact hk))) (by simp [World.setCell])).below (alloc_below _ _)).below hb2)
  have HK2 : Hid (Kept Fx ((w.alloc (.cells #[.int .i64 0, .bool true, .int .i64 page, .string (kdata v rs.length), .int .i64 0, .string ⟨#[]⟩] 28)).alloc (.cells #[.int .u8 (v.toNat : Int), .int .u8 ((rs.length : Int) % 256), .int .u8 ((rs.length : Int) % 256 / 2), .int .u8 1] 5)) w1 ∧ (w2.os = w1.os ∧ w2.tape = w1.tape ∧ w2.output = w1.output ∧ w1.heap.size ≤ w2.heap.size) ∧ ∀ k, k < w1.heap.size → k ≠ w.heap.size → w2.heap[k]? = w1.heap[k]?) := ⟨HK1.out, ⟨hb2.os, hb2.tape, hb2.output, by omega⟩, fun k hk hne => by
    rw [hb2.block k (by simp [World.setCell]; omega), Below.heap_alloc _ _ _ (by simp [World.setCell]; omega), Below.heap_setCell _ _ _ _ hne]⟩
  have c1 := HB2.out.c1
  have f1 := HB2.out.fz 1
  have hwl2 : wb < w2.heap.size := lt_of_heap HB2.out.blk
  have hww : w.heap.size < w2.heap.size := by omega
  have hee : (((rs.length : Int) + 1) != ((rs.length : Int) + 1)) = false := by simp
  clear q q2 hb2 sf r0 r1 r2 r3 r4 r5 f0 c0 HK1 HB1 HA0
  go_wp2
  go_quiet (fail)
  go_wp2
  have HB3 : Hid (KBlk (w2.drewN nq) Fk wb xb rs ar cr) := HB2.out.same (fun _ _ _ => rfl) (Nat.le_refl _)
  have hW : Hid ((w2.drewN nq).heap = w2.heap ∧ (w2.drewN nq).os = w2.os ∧ (w2.drewN nq).tape = w2.tape ∧ (w2.drewN nq).output = w2.output) := ⟨rfl, rfl, rfl, rfl⟩
  replace c1 : (w2.drewN nq).cell? ⟨wb, 1, none⟩ = _ := c1
  replace f1 : (w2.drewN nq).frozen? ⟨wb, 1, none⟩ = false := f1
  replace s0 : (w2.drewN nq).cell? ⟨w.heap.size, 0, none⟩ = some (.int .i64 ((rs.length : Int) + 1)) := s0
  replace s1 : (w2.drewN nq).cell? ⟨w.heap.size, 1, none⟩ = some (.bool true) := s1
  replace s2 : (w2.drewN nq).cell? ⟨w.heap.size, 2, none⟩ = some (.int .i64 page) := s2
  replace s3 : (w2.drewN nq).cell? ⟨w.heap.size, 3, none⟩ = some (.string (kdata v rs.length)) := s3
  replace s4 : (w2.drewN nq).cell? ⟨w.heap.size, 4, none⟩ = some (.int .i64 0) := s4
  replace s5 : (w2.drewN nq).cell? ⟨w.heap.size, 5, none⟩ = some (.string ⟨#[]⟩) := s5
  replace hwl2 : wb < (w2.drewN nq).heap.size := hwl2
  replace hww : w.heap.size < (w2.drewN nq).heap.size := hww
  clear HB2
  generalize w2.drewN nq = w3 at *
  have HO : Hid (((w3.alloc (.cells #[.int .i64 ((rs.length : Int) + 1), .bool true, .int .i64 page, .string (kdata v rs.length), .int .i64 0, .string ⟨#[]⟩] 28)).drew).ownsRow 0 28 6 (.slice ar rs.length cr) rs.length (rs.flatMap encK)) := (HB3.out.row.alloc _).1
  have HN : Hid (∀ (j : Nat) (u : Value), [Value.int .i64 ((rs.length : Int) + 1), .bool true, .int .i64 page, .string (kdata v rs.length), .int .i64 0, .string ⟨#[]⟩][j]? = some u → ((w3.alloc (.cells #[.int .i64 ((rs.length : Int) + 1), .bool true, .int .i64 page, .string (kdata v rs.length), .int .i64 0, .string ⟨#[]⟩] 28)).drew).cell? ((⟨w3.heap.size, 0, none⟩ : Addr).add j) = some u) := fun j u => news_new j u
  have HPU : Hid (∀ (g cap : Nat) (w4 : World), w4.ownsRow 0 28 6 (.slice (some ⟨g, 0, none⟩) (rs.length + 1) cap) (rs.length + 1) (rs.flatMap encK ++ [Value.int .i64 ((rs.length : Int) + 1), .bool true, .int .i64 page, .string (kdata v rs.length), .int .i64 0, .string ⟨#[]⟩]) → ((w3.alloc (.cells #[.int .i64 ((rs.length : Int) + 1), .bool true, .int .i64 page, .string (kdata v rs.length), .int .i64 0, .string ⟨#[]⟩] 28)).drew).grownBy w4 (Value.ownBlock (.slice ar rs.length cr)) → (Value.ownBlock (.slice ar rs.length cr) = some g ∨ g = w3.heap.size + 1) → g < w4.heap.size → KBlk (w4.setCell ⟨wb, 1, none⟩ (.slice (some ⟨g, 0, none⟩) (rs.length + 1) cap)) (fun k => Fk k ∨ (w3.heap.size ≤ k ∧ k < w4.heap.size)) wb xb (rs ++ [⟨rs.length + 1, true, page, (kdata v rs.length), 0, ⟨#[]⟩⟩]) (some ⟨g, 0, none⟩) cap ∧ Kept Fk w3 (w4.setCell ⟨wb, 1, none⟩ (.slice (some ⟨g, 0, none⟩) (rs.length + 1) cap)) ∧ w4.heap[wb]? = w3.heap[wb]?) := fun g cap w4 h1 h2 h3 h4 => by
    have e : rs.flatMap encK ++ [Value.int .i64 ((rs.length : Int) + 1), .bool true, .int .i64 page, .string (kdata v rs.length), .int .i64 0, .string ⟨#[]⟩] = (rs ++ [(⟨rs.length + 1, true, page, (kdata v rs.length), 0, ⟨#[]⟩⟩ : KR)]).flatMap encK := by simp [List.flatMap_append, encK]
    rw [e] at h1
    exact HB3.out.pushed h2 h1 (by simp) h3 h4
  go_region_law (refine step_append_lies _ rfl (.tmp 86) (.tmp 88) 30 rfl 0 28 i0 (.agg #[.int .i64 0, .bool false, .int .i64 0, .string ⟨#[]⟩, .int .i64 0, .string ⟨#[]⟩]) 6 64 Tryz.underlying30 hi hi0 hi1 hi2 rfl (by decide) (.slice ar rs.length cr) rs.length (rs.flatMap encK) (by simp [Act.eval]) HO.out ⟨w3.heap.size, 0, none⟩ 1 1 [Value.int .i64 ((rs.length : Int) + 1), .bool true, .int .i64 page, .string (kdata v rs.length), .int .i64 0, .string ⟨#[]⟩] (by simp [Act.eval]) rfl HN.out (by intro u hu; simp at hu; rcases hu with rfl | rfl | rfl | rfl | rfl | rfl <;> rfl) (by decide) (by unfold maxLen; omega) (by omega) (Nat.zero_le _) (w3.heap.size + 1) (by simp) ?_; intro g cap w4 hown hgrow hat hlt4; have HX := hide (HPU.out g cap w4 hown hgrow hat hlt4); clear hown hgrow hat hlt4)
  all_goals
    have m1 := (World.cell?_of_block (a := ⟨wb, 1, none⟩) HX.out.2.2).trans c1
    have n1 := (World.frozen?_of_block (a := ⟨wb, 1, none⟩) HX.out.2.2).trans f1
    clear s0 s1 s2 s3 s4 s5 c1 f1
    go_wp2
    go_ret
    obtain ⟨r1, r2⟩ := KAt.fin hb0.out (by have := HAZ.out; omega) HPl.out HB.out.ltF HD.out HF.out HP1.out HK2.out.1 HK2.out.2 hW.out HX.out.1 (fun k hk => hk.elim Or.inl (fun e => Or.inr e.1)) HX.out.2.1
    rw [HA.out]
    exact ⟨rfl, r1, r2⟩
end Go.Proofs.YtiabdbeejkadnabGreatDoor

/- The program's queue (stage 2's code): an entry's functions. Own work of the verifier. -/
namespace Go.Proofs.YtiabdbeejkadnabGreatDoor
open Go.RowKit Go.Maps

theorem entry_pending0 (b : Nat) (w : World) (h : w.cell? ⟨b, 9, none⟩ = some (.int .i64 0)) : Calls Tryz.prog 47 #[.pointer (some ⟨b, 0, none⟩)] w fun e w' => e = .returned (.bool true) ∧ w' = w := by
  go_enter Tryz.func47, Tryz.ntmps47
  go_wp2
  go_ret
  exact ⟨rfl, rfl⟩
theorem entry_pending1 (b : Nat) (w : World) (h : w.cell? ⟨b, 9, none⟩ = some (.int .i64 1)) : Calls Tryz.prog 47 #[.pointer (some ⟨b, 0, none⟩)] w fun e w' => e = .returned (.bool true) ∧ w' = w := by
  go_enter Tryz.func47, Tryz.ntmps47
  go_wp2
  go_ret
  exact ⟨rfl, rfl⟩
theorem entry_pending (b : Nat) (st : Int) (w : World) (h : w.cell? ⟨b, 9, none⟩ = some (.int .i64 st)) (hs : st = 0 ∨ st = 1) : Calls Tryz.prog 47 #[.pointer (some ⟨b, 0, none⟩)] w fun e w' => e = .returned (.bool true) ∧ w' = w := by
  rcases hs with rfl | rfl
  · exact entry_pending0 b w h
  · exact entry_pending1 b w h
theorem entry_not_pending (b : Nat) (st : Int) (w : World) (h : w.cell? ⟨b, 9, none⟩ = some (.int .i64 st)) (hs : 2 ≤ st) : Calls Tryz.prog 47 #[.pointer (some ⟨b, 0, none⟩)] w fun e w' => e = .returned (.bool false) ∧ w' = w := by
  have b0 : (st == 0) = false := beq_eq_false_iff_ne.2 (by omega)
  have b1 : (st == 1) = false := beq_eq_false_iff_ne.2 (by omega)
  clear hs
  go_enter Tryz.func47, Tryz.ntmps47
  go_wp2
  go_ret
  exact ⟨rfl, rfl⟩
theorem entry_fault (b : Nat) (num tries kind : Int) (w : World) (h0 : w.cell? ⟨b, 0, none⟩ = some (.int .i64 num)) (h7 : w.cell? ⟨b, 7, none⟩ = some (.int .i64 tries)) :
    Calls Tryz.prog 48 #[.pointer (some ⟨b, 0, none⟩), .int .i64 kind] w fun e w' => e = .returned (.iface 125 (.pointer (some ⟨w.heap.size, 0, none⟩))) ∧ w'.heap[w.heap.size]? = some (.cells #[.int .i64 num, .int .i64 tries, .int .i64 kind] 129 (0, 0)) ∧ Below w.heap.size w w' := by
  go_enter Tryz.func48, Tryz.ntmps48
  go_wp2
  go_region
  all_goals go_wp2
  all_goals go_ret
  all_goals exact ⟨rfl, heap_alloc_new w _, (alloc_below _ _).drew⟩
theorem entry_outcome4 (b : Nat) (num tries : Int) (w : World) (h0 : w.cell? ⟨b, 0, none⟩ = some (.int .i64 num)) (h7 : w.cell? ⟨b, 7, none⟩ = some (.int .i64 tries)) (h8 : w.cell? ⟨b, 9, none⟩ = some (.int .i64 4)) :
    Calls Tryz.prog 49 #[.pointer (some ⟨b, 0, none⟩)] w fun e w' => (∃ g, e = .returned (.tuple #[.agg #[.slice none 0 0, .int .i64 0], .iface 125 (.pointer (some ⟨g, 0, none⟩))]) ∧ w'.heap[g]? = some (.cells #[.int .i64 num, .int .i64 tries, .int .i64 8] 129 (0, 0)) ∧ w.heap.size ≤ g) ∧ Below w.heap.size w w' := by
  have hbl := lt_of_cell h0
  go_enter Tryz.func49, Tryz.ntmps49
  go_wp2_with fail
  refine (entry_fault b num tries 8 _ (by rw [World.cell?_alloc_lt _ _ ⟨b, 0, none⟩ hbl]; exact h0) (by rw [World.cell?_alloc_lt _ _ ⟨b, 7, none⟩ hbl]; exact h7)).mono ?_
  rintro e w1 ⟨rfl, he, hb⟩
  have hz : w.heap.size < w1.heap.size := by have := hb.size; simp at this; omega
  have a0 := hb.cell (p := ⟨w.heap.size, 0, none⟩) (by simp)
  have a1 := hb.cell (p := ⟨w.heap.size, 1, none⟩) (by simp)
  have f0 := hb.frozen (p := ⟨w.heap.size, 0, none⟩) (by simp)
  have f1 := hb.frozen (p := ⟨w.heap.size, 1, none⟩) (by simp)
  simp at a0 a1 f0 f1 he
  have HE := hide he
  have HB := hide hb
  clear he hb
  go_wp2
  refine bodyPost_ret (v := .tuple #[.agg #[.slice none 0 0, .int .i64 0], .iface 125 (.pointer (some ⟨w.heap.size + 1, 0, none⟩))]) (by simp [results, Tryz.results49, go_sem, a0, a1]) rfl ⟨⟨w.heap.size + 1, rfl, ?_, by omega⟩, ?_⟩
  · rw [Below.heap_setCell _ _ _ _ (by show w.heap.size + 1 ≠ w.heap.size; omega), Below.heap_setCell _ _ _ _ (by show w.heap.size + 1 ≠ w.heap.size; omega)]; exact HE.out
  · exact (((alloc_below _ _).trans (HB.out.mono (by simp))).setCell (Nat.le_refl _) _).setCell (Nat.le_refl _) _
theorem entry_outcome3 (b : Nat) (num tries : Int) (w : World) (h0 : w.cell? ⟨b, 0, none⟩ = some (.int .i64 num)) (h7 : w.cell? ⟨b, 7, none⟩ = some (.int .i64 tries)) (h8 : w.cell? ⟨b, 9, none⟩ = some (.int .i64 3)) :
    Calls Tryz.prog 49 #[.pointer (some ⟨b, 0, none⟩)] w fun e w' => (∃ g, e = .returned (.tuple #[.agg #[.slice none 0 0, .int .i64 0], .iface 125 (.pointer (some ⟨g, 0, none⟩))]) ∧ w'.heap[g]? = some (.cells #[.int .i64 num, .int .i64 tries, .int .i64 7] 129 (0, 0)) ∧ w.heap.size ≤ g) ∧ Below w.heap.size w w' := by
  have hbl := lt_of_cell h0
  go_enter Tryz.func49, Tryz.ntmps49
  go_wp2_with fail
  refine (entry_fault b num tries 7 _ (by rw [World.cell?_alloc_lt _ _ ⟨b, 0, none⟩ hbl]; exact h0) (by rw [World.cell?_alloc_lt _ _ ⟨b, 7, none⟩ hbl]; exact h7)).mono ?_
  rintro e w1 ⟨rfl, he, hb⟩
  have hz : w.heap.size < w1.heap.size := by have := hb.size; simp at this; omega
  have a0 := hb.cell (p := ⟨w.heap.size, 0, none⟩) (by simp)
  have a1 := hb.cell (p := ⟨w.heap.size, 1, none⟩) (by simp)
  have f0 := hb.frozen (p := ⟨w.heap.size, 0, none⟩) (by simp)
  have f1 := hb.frozen (p := ⟨w.heap.size, 1, none⟩) (by simp)
  simp at a0 a1 f0 f1 he
  have HE := hide he
  have HB := hide hb
  clear he hb
  go_wp2
  refine bodyPost_ret (v := .tuple #[.agg #[.slice none 0 0, .int .i64 0], .iface 125 (.pointer (some ⟨w.heap.size + 1, 0, none⟩))]) (by simp [results, Tryz.results49, go_sem, a0, a1]) rfl ⟨⟨w.heap.size + 1, rfl, ?_, by omega⟩, ?_⟩
  · rw [Below.heap_setCell _ _ _ _ (by show w.heap.size + 1 ≠ w.heap.size; omega), Below.heap_setCell _ _ _ _ (by show w.heap.size + 1 ≠ w.heap.size; omega)]; exact HE.out
  · exact (((alloc_below _ _).trans (HB.out.mono (by simp))).setCell (Nat.le_refl _) _).setCell (Nat.le_refl _) _
set_option maxHeartbeats 1000000 in
theorem entry_outcome2w (b : Nat) (tries : Int) (w : World) (h2 : w.cell? ⟨b, 2, none⟩ = some (.bool true)) (h7 : w.cell? ⟨b, 7, none⟩ = some (.int .i64 tries)) (h8 : w.cell? ⟨b, 9, none⟩ = some (.int .i64 2)) :
    Calls Tryz.prog 49 #[.pointer (some ⟨b, 0, none⟩)] w fun e w' => e = .returned (.tuple #[.agg #[.slice none 0 0, .int .i64 tries], .nilIface]) ∧ Below w.heap.size w w' := by
  have hbl := lt_of_cell h2
  go_enter Tryz.func49, Tryz.ntmps49
  go_wp2
  refine bodyPost_ret (v := .tuple #[.agg #[.slice none 0 0, .int .i64 tries], .nilIface]) (by simp [results, Tryz.results49, go_sem]) rfl ⟨rfl, (alloc_below _ _).trans ((alloc_below _ _).mono (by simp))⟩
theorem app_keep {W w2 : World} (hgrow : W.drew.grownBy w2 (Value.ownBlock (.slice none 0 0))) {k : Nat} (hk : k < W.heap.size) : w2.heap[k]? = W.heap[k]? := hgrow.block k hk (by simp [Value.ownBlock])
theorem cells2 {w : World} {b : Nat} {x0 x1 : Value} {t : TypeId} (h : w.heap[b]? = some (.cells #[x0, x1] t (0, 0))) : w.cell? ⟨b, 0, none⟩ = some x0 ∧ w.cell? ⟨b, 1, none⟩ = some x1 ∧ w.frozen? ⟨b, 0, none⟩ = false ∧ w.frozen? ⟨b, 1, none⟩ = false := by simp [World.cell?, World.frozen?, h]
theorem cells4 {w : World} {b : Nat} {x0 x1 x2 x3 : Value} {t : TypeId} (h : w.heap[b]? = some (.cells #[x0, x1, x2, x3] t (0, 0))) : (w.cell? ⟨b, 0, none⟩ = some x0 ∧ w.cell? ⟨b, 1, none⟩ = some x1 ∧ w.cell? ⟨b, 2, none⟩ = some x2 ∧ w.cell? ⟨b, 3, none⟩ = some x3) ∧ w.frozen? ⟨b, 0, none⟩ = false ∧ w.frozen? ⟨b, 1, none⟩ = false ∧ w.frozen? ⟨b, 2, none⟩ = false ∧ w.frozen? ⟨b, 3, none⟩ = false := by simp [World.cell?, World.frozen?, h]
theorem dataCells {w : World} {b : Nat} {r : Rq} {ds : List UInt8} (h : w.heap[b]? = some (.cells (entC r ds) 80 (0, 0))) (hl : ds.length = 4) (j : Nat) (u : Value) (hj : (encB ds)[j]? = some u) : w.cell? ((⟨b, 3, none⟩ : Addr).add j) = some u := by
  rw [Addr.add_lit]
  match ds, hl with
  | [a0, a1, a2, a3], _ =>
    match j, hj with
    | 0, hj => simp [encB] at hj; subst hj; simp [World.cell?, h, entC, u8]
    | 1, hj => simp [encB] at hj; subst hj; simp [World.cell?, h, entC, u8]
    | 2, hj => simp [encB] at hj; subst hj; simp [World.cell?, h, entC, u8]
    | 3, hj => simp [encB] at hj; subst hj; simp [World.cell?, h, entC, u8]
    | j + 4, hj => simp [encB] at hj
set_option maxHeartbeats 1000000 in
theorem entry_outcome2r (b : Nat) (r : Rq) (ds : List UInt8) (w : World) (h : w.heap[b]? = some (.cells (entC r ds) 80 (0, 0))) (hl : ds.length = 4) (hw : r.write = false) (hs : r.state = 2) :
    Calls Tryz.prog 49 #[.pointer (some ⟨b, 0, none⟩)] w fun e w' => ∃ g cap, e = .returned (.tuple #[.agg #[.slice (some ⟨g, 0, none⟩) 4 cap, .int .i64 r.tries], .nilIface]) ∧ Row w' (fun k => w.heap.size ≤ k) 5 1 (some ⟨g, 0, none⟩) 4 cap (encB ds) ∧ Below w.heap.size w w' := by
  obtain ⟨i0, hi, hi0, hi1, hi2⟩ := info_parts info_byte
  have h2 : w.cell? ⟨b, 2, none⟩ = some (.bool false) := by simp [World.cell?, h, entC, hw]
  have h7 : w.cell? ⟨b, 7, none⟩ = some (.int .i64 r.tries) := by simp [World.cell?, h, entC]
  have h8 : w.cell? ⟨b, 9, none⟩ = some (.int .i64 2) := by simp [World.cell?, h, entC, hs]
  have hbl := lt_of_cell h2
  have HD : Hid (∀ (j : Nat) (u : Value), (encB ds)[j]? = some u → w.cell? ((⟨b, 3, none⟩ : Addr).add j) = some u) := fun j u => dataCells h hl j u
  have HL := hide hl
  clear h hl hw hs
  generalize r.tries = tr at *
  go_enter Tryz.func49, Tryz.ntmps49
  go_wp2
  have HB : Hid (Below w.heap.size w ((w.alloc (.cells #[.slice none 0 0, .int .i64 0] 39)).alloc (.cells #[.slice none 0 0, .int .i64 tr] 39))) := (alloc_below _ _).trans ((alloc_below _ _).mono (by simp))
  have HZ : ((w.alloc (.cells #[.slice none 0 0, .int .i64 0] 39)).alloc (.cells #[.slice none 0 0, .int .i64 tr] 39)).heap.size = w.heap.size + 2 := by simp
  have HA : ((w.alloc (.cells #[.slice none 0 0, .int .i64 0] 39)).alloc (.cells #[.slice none 0 0, .int .i64 tr] 39)).heap[w.heap.size + 1]? = some (.cells #[.slice none 0 0, .int .i64 tr] 39 (0, 0)) := by
    have := heap_alloc_new (w.alloc (.cells #[.slice none 0 0, .int .i64 0] 39)) (.cells #[.slice none 0 0, .int .i64 tr] 39)
    simp only [World.size_alloc] at this
    exact this
  have HA0 : ((w.alloc (.cells #[.slice none 0 0, .int .i64 0] 39)).alloc (.cells #[.slice none 0 0, .int .i64 tr] 39)).heap[w.heap.size]? = some (.cells #[.slice none 0 0, .int .i64 0] 39 (0, 0)) := (Below.heap_alloc _ _ _ (by simp)).trans (heap_alloc_new w _)
  generalize (w.alloc (.cells #[.slice none 0 0, .int .i64 0] 39)).alloc (.cells #[.slice none 0 0, .int .i64 tr] 39) = W at HB HZ HA HA0 ⊢
  have HN : Hid (∀ (j : Nat) (u : Value), (encB ds)[j]? = some u → W.drew.cell? ((⟨b, 3, none⟩ : Addr).add j) = some u) := fun j u hj => by rw [Addr.add_lit]; have := HD.out j u hj; rw [Addr.add_lit] at this; exact (HB.out.cell (p := ⟨b, 3 + j, none⟩) hbl).trans this
  have HO : Hid (W.drew.ownsRow 0 5 1 (.slice none 0 0) 0 []) := World.ownsRow_nil _ _ _ _
  have m0 : W.cell? ⟨w.heap.size + 1, 0, none⟩ = some (.slice none 0 0) := by simp [World.cell?, HA]
  have f0 : W.frozen? ⟨w.heap.size + 1, 0, none⟩ = false := by simp [World.frozen?, HA]
  have HA' := hide HA
  have HA0' := hide HA0
  have HZ' := hide HZ
  clear HA HA0 HZ
  go_region_law (refine step_append_lies _ rfl (.tmp 30) (.tmp 34) 37 rfl 0 5 i0 (.int .u8 0) 1 1 Tryz.underlying37 hi hi0 hi1 hi2 rfl (by decide) (.slice none 0 0) 0 [] (by simp [Act.eval]) HO.out ⟨b, 3, none⟩ 4 4 (encB ds) (by simp [Act.eval]) (by simp [encB, HL.out]) HN.out (by intro u hu; simp [encB] at hu; obtain ⟨_, _, rfl⟩ := hu; rfl) (by decide) (by unfold maxLen; omega) (by omega) (Nat.zero_le _) (W.heap.size) rfl ?_; intro g cap w2 hown hgrow hat hlt; have hx1 := app_keep hgrow (k := w.heap.size + 1) (by rw [HZ'.out]; omega); have hx0 := app_keep hgrow (k := w.heap.size) (by rw [HZ'.out]; omega); have n0 := cells2 (hx1.trans HA'.out); have n1 := cells2 (hx0.trans HA0'.out); obtain ⟨p0, p1, p2, p3⟩ := n0; obtain ⟨r0, r1, r2, r3⟩ := n1)
  have hg : g = W.heap.size := hat.elim (fun e => by simp [Value.ownBlock] at e) id
  have HG : Hid (g = w.heap.size + 2) := hg.trans HZ'.out
  have HR : Hid (Row w2 (fun k => w.heap.size ≤ k) 5 1 (some ⟨g, 0, none⟩) 4 cap (encB ds)) := ⟨hown, fun a ha => by cases ha; show w.heap.size ≤ g; rw [HG.out]; omega⟩
  have HB2 : Hid (Below w.heap.size w w2) := HB.out.drew.grown hgrow (by show w.heap.size ≤ W.heap.size; rw [HZ'.out]; omega) (fun k hk => by simp [Value.ownBlock] at hk)
  clear hown hgrow hat hlt hx1 hx0 hg HO HN m0 f0
  go_wp2
  refine bodyPost_ret (v := .tuple #[.agg #[.slice (some ⟨g, 0, none⟩) 4 cap, .int .i64 tr], .nilIface]) (by simp [results, Tryz.results49, go_sem, r0, r1]) rfl ⟨g, cap, rfl, ?_, ?_⟩
  · have hne : ∀ a, (some ⟨g, 0, none⟩ : Option Addr) = some a → a.block ≠ w.heap.size ∧ a.block ≠ w.heap.size + 1 := fun a ha => by cases ha; show g ≠ _ ∧ g ≠ _; rw [HG.out]; omega
    exact ((HR.out.setCell_other (fun a ha => (hne a ha).2) _).setCell_other (fun a ha => (hne a ha).1) _).setCell_other (fun a ha => (hne a ha).1) _
  · exact ((HB2.out.setCell (by show _ ≤ w.heap.size + 1; omega) _).setCell (Nat.le_refl _) _).setCell (Nat.le_refl _) _
end Go.Proofs.YtiabdbeejkadnabGreatDoor
