/- The reference queue: Ask whole, Cancel, Disk, NewQueue. Own work of the verifier. -/
import Derived.Test.YtiabdbeejkadnaaGreatDoorRefB
namespace Go.Proofs.YtiabdbeejkadnaaGreatDoor
open Go.RowKit

theorem Kept.refAt {w : World} {F : Nat → Prop} {mb : Nat} {S : St} (h : RefAt w F mb S) : RefAt w (Foot F w w) mb S := h.grow (Below.refl _ _)
theorem RefAt.drewN {w : World} {F : Nat → Prop} {mb : Nat} {S : St} (h : RefAt w F mb S) (n : Nat) : RefAt (w.drewN n) (Foot F w (w.drewN n)) mb S := h.grow (below_drewN (Below.refl _ _) n)

theorem ref_ask_page (S : St) (F : Nat → Prop) (mb : Nat) (write : Bool) (page : Int) (data : ByteArray) (w : World) (h : RefAt w F mb S) (hp : page < 0 ∨ 16 ≤ page) :
    Calls Tryz.prog 64 #[.pointer (some ⟨mb, 0, none⟩), .bool write, .int .i64 page, .string data] w fun e w' => e = .returned (.tuple #[.int .i64 0, .int .i64 2]) ∧ RefAt w' (Foot F w w') mb S ∧ Kept F w w' := by
  have H : Hid (RefAt w F mb S) := h
  clear h
  by_cases h0 : page < 0
  · clear hp
    go_enter Tryz.func64, Tryz.ntmps64
    go_wp2
    go_ret2
    exact ⟨rfl, Kept.refAt H.out, Kept.refl _ _⟩
  · have h1 : 16 ≤ page := by omega
    clear hp
    go_enter Tryz.func64, Tryz.ntmps64
    go_wp2
    go_ret2
    exact ⟨rfl, Kept.refAt H.out, Kept.refl _ _⟩

theorem ref_ask_data (S : St) (F : Nat → Prop) (mb : Nat) (page : Int) (data : ByteArray) (w : World) (h : RefAt w F mb S) (hp0 : ¬ page < 0) (hp1 : ¬ 16 ≤ page) (hd : ((data.size : Int) != 4) = true) :
    Calls Tryz.prog 64 #[.pointer (some ⟨mb, 0, none⟩), .bool true, .int .i64 page, .string data] w fun e w' => e = .returned (.tuple #[.int .i64 0, .int .i64 3]) ∧ RefAt w' (Foot F w w') mb S ∧ Kept F w w' := by
  have H : Hid (RefAt w F mb S) := h
  clear h
  go_enter Tryz.func64, Tryz.ntmps64
  go_wp2
  go_ret2
  exact ⟨rfl, Kept.refAt H.out, Kept.refl _ _⟩

theorem ref_ask_full (S : St) (F : Nat → Prop) (mb : Nat) (write : Bool) (page : Int) (data : ByteArray) (w : World) (h : RefAt w F mb S) (hl : S.told.length ≤ 1000000) (hr : S.reqs.length ≤ 1000000) (hp0 : ¬ page < 0) (hp1 : ¬ 16 ≤ page) (hd : write = false ∨ ((data.size : Int) != 4) = false) (hf : 40 ≤ (S.reqs.length : Int) - S.told.length) :
    Calls Tryz.prog 64 #[.pointer (some ⟨mb, 0, none⟩), .bool write, .int .i64 page, .string data] w fun e w' => e = .returned (.tuple #[.int .i64 0, .int .i64 4]) ∧ RefAt w' (Foot F w w') mb S ∧ Kept F w w' := by
  have H : Hid (RefAt w F mb S) := h
  obtain ⟨G, ar, cr, at_, ct, af, cf, ad, cd, h⟩ := h
  have c1 := h.c1
  have c2 := h.c2
  clear h
  generalize S.told.length = nt at *
  generalize S.reqs.length = nr at *
  cases write
  · clear hd
    go_enter Tryz.func64, Tryz.ntmps64
    go_wp2
    go_quiet (fail)
    go_wp2
    go_ret2
    exact ⟨rfl, H.out.drewN _, Kept.drewN (Kept.refl _ _) _⟩
  · have hd' : ((data.size : Int) != 4) = false := by simpa using hd
    clear hd
    go_enter Tryz.func64, Tryz.ntmps64
    go_wp2
    go_quiet (fail)
    go_wp2
    go_ret2
    exact ⟨rfl, H.out.drewN _, Kept.drewN (Kept.refl _ _) _⟩

/-- Ask, whole. -/
theorem ref_ask (S : St) (F : Nat → Prop) (mb : Nat) (write : Bool) (page : Int) (data : ByteArray) (w : World) (h : RefAt w F mb S) (hl : S.told.length ≤ 1000000) (hr : S.reqs.length ≤ 1000000) (hz0 : 0 ≤ S.last) (hz1 : S.last ≤ 1000000) :
    Calls Tryz.prog 64 #[.pointer (some ⟨mb, 0, none⟩), .bool write, .int .i64 page, .string data] w fun e w' => e = .returned (.tuple #[.int .i64 (askM S write page data).1, .int .i64 (askM S write page data).2.1]) ∧ RefAt w' (Foot F w w') mb (askM S write page data).2.2 ∧ Kept F w w' := by
  unfold askM
  by_cases h1 : page < 0 ∨ 16 ≤ page
  · rw [if_pos h1]; exact ref_ask_page S F mb write page data w h h1
  · rw [if_neg h1]
    have hp0 : ¬ page < 0 := fun e => h1 (Or.inl e)
    have hp1 : ¬ 16 ≤ page := fun e => h1 (Or.inr e)
    by_cases h2 : write = true ∧ data.size ≠ 4
    · rw [if_pos h2]
      obtain ⟨rfl, h2⟩ := h2
      exact ref_ask_data S F mb page data w h hp0 hp1 (by rw [bne_iff_ne]; omega)
    · rw [if_neg h2]
      by_cases h3 : 40 ≤ (S.reqs.length : Int) - S.told.length
      · rw [if_pos h3]
        refine ref_ask_full S F mb write page data w h hl hr hp0 hp1 ?_ h3
        cases write
        · exact Or.inl rfl
        · refine Or.inr ?_
          have : data.size = 4 := by simpa using h2
          simp [this]
      · rw [if_neg h3]
        cases write
        · exact ref_ask_ok_r S F mb page data w h hl hr hz0 hz1 hp0 hp1 h3
        · have : data.size = 4 := by simpa using h2
          exact ref_ask_ok_w S F mb page data w h hl hr hz0 hz1 hp0 hp1 (by simp [this]) h3
end Go.Proofs.YtiabdbeejkadnaaGreatDoor
