/- The reference queue: Disk, NewQueue. Own work of the verifier. -/
import Derived.Test.YtiabdbeejkadnaaGreatDoorRefF
import Derived.Laws.IdiomStrings
namespace Go.Proofs.YtiabdbeejkadnaaGreatDoor
open Go.RowKit

theorem ref_disk (S : St) (F : Nat → Prop) (mb : Nat) (w : World) (h : RefAt w F mb S) (hd : 0 < S.disk.length) :
    Calls Tryz.prog 77 #[.pointer (some ⟨mb, 0, none⟩)] w fun e w' => e = .returned (.string ⟨S.disk.toArray⟩) ∧ w' = w := by
  obtain ⟨G, ar, cr, at_, ct, af, cf, ad, cd, h⟩ := h
  obtain ⟨g0, cur, hg0, _, hgb, _, _⟩ := Row.some h.disk hd
  subst hg0
  have c7 := h.c7
  have hcv := run_convert_bytes_back (P := Tryz.prog) w 86 9 5 ⟨g0, 0, none⟩ cd S.disk Tryz.underlying86 Tryz.underlying5 Tryz.underlying9 (fun j hj => by
    rw [Addr.add_lit, Nat.zero_add, Row.cellAt h.disk j (by omega)]
    simp [encB, hj])
  clear h hgb
  generalize hn : S.disk.length = n at *
  generalize S.disk.toArray = D at *
  clear hn
  go_enter Tryz.func77, Tryz.ntmps77
  go_wp2
  go_ret
  exact ⟨rfl, rfl⟩

def zeros64 : Array Value := (encB (List.replicate 64 0)).toArray
theorem mk64 (w : World) : (Instr.makeSlice 86 (.int .i64 64) (.int .i64 64)).run Tryz.prog w = .ok (.slice (some ⟨w.heap.size, 0, none⟩) 64 64) (w.alloc (.cells zeros64 5)) := by kernel_rfl

theorem new_refAt (depth : Int) (w : World) : RefAt ((w.alloc (.cells zeros64 5)).alloc (.cells #[.int .i64 depth, .slice none 0 0, .slice none 0 0, .slice none 0 0, .int .i64 0, .int .i64 0, .int .i64 0, .slice (some ⟨w.heap.size, 0, none⟩) 64 64] 104))
    (Foot (fun _ => False) w ((w.alloc (.cells zeros64 5)).alloc (.cells #[.int .i64 depth, .slice none 0 0, .slice none 0 0, .slice none 0 0, .int .i64 0, .int .i64 0, .int .i64 0, .slice (some ⟨w.heap.size, 0, none⟩) 64 64] 104))) (w.heap.size + 1) (St.new depth) := by
  refine ⟨fun _ => False, none, 0, none, 0, none, 0, some ⟨w.heap.size, 0, none⟩, 64, ?_⟩
  have hz : ∀ o1 o2 : Obj, ((w.alloc o1).alloc o2).heap.size = w.heap.size + 2 := fun o1 o2 => by simp
  refine ⟨Or.inr ⟨by omega, by rw [hz]; omega⟩, ?_, Row.nil _ _ _ _, Row.nil _ _ _ _, ?_, ⟨[], rfl, Row.nil _ _ _ _, fun x hx => by simp [St.new] at hx⟩, fun _ h => h.elim, fun h => h, fun _ h => (by cases h), fun _ h => (by cases h), fun _ _ h => h, fun k hk => hk.elim (fun h => h.elim) (fun h => h.2)⟩
  · have := heap_alloc_new (w.alloc (.cells zeros64 5)) (.cells #[.int .i64 depth, .slice none 0 0, .slice none 0 0, .slice none 0 0, .int .i64 0, .int .i64 0, .int .i64 0, .slice (some ⟨w.heap.size, 0, none⟩) 64 64] 104)
    have e : (w.alloc (.cells zeros64 5)).heap.size = w.heap.size + 1 := by simp
    rw [e] at this
    exact this
  · have hl := World.ownsRow_lit (base := 0) (e := 5) (size := 1) w zeros64 64 (Nat.zero_le _) (by decide) (by decide)
    exact ⟨hl.alloc _, fun a ha => by cases ha; exact Or.inr ⟨Nat.le_refl _, by rw [hz]; show w.heap.size < _; omega⟩⟩

theorem ref_new_ok (depth : Int) (w : World) (h1 : 1 ≤ depth) (h4 : depth ≤ 4) :
    Calls Tryz.prog 63 #[.int .i64 depth] w fun e w' => e = .returned (.tuple #[.pointer (some ⟨w.heap.size + 1, 0, none⟩), .bool true]) ∧ RefAt w' (Foot (fun _ => False) w w') (w.heap.size + 1) (St.new depth) ∧ Below w.heap.size w w' := by
  have hm := mk64
  have b1 : decide (1 ≤ depth) = true := by simp [h1]
  have b2 : decide (depth ≤ 4) = true := by simp [h4]
  go_enter Tryz.func63, Tryz.ntmps63
  go_wp2
  go_ret2
  exact ⟨rfl, new_refAt depth w, ((Below.refl _ _).alloc (Nat.le_refl _) _).alloc (by simp) _⟩
theorem ref_new_no (depth : Int) (w : World) (h : depth < 1 ∨ 4 < depth) :
    Calls Tryz.prog 63 #[.int .i64 depth] w fun e w' => (∃ v, e = .returned (.tuple #[v, .bool false])) ∧ Below w.heap.size w w' := by
  have hm := mk64
  by_cases h1 : depth < 1
  · have b1 : decide (1 ≤ depth) = false := by simp; omega
    clear h
    go_enter Tryz.func63, Tryz.ntmps63
    go_wp2
    go_ret2
    exact ⟨⟨_, rfl⟩, ((Below.refl _ _).alloc (Nat.le_refl _) _).alloc (by simp) _⟩
  · have b1 : decide (1 ≤ depth) = true := by simp; omega
    have b2 : decide (depth ≤ 4) = false := by simp; omega
    have h2 : 4 < depth := by omega
    clear h
    go_enter Tryz.func63, Tryz.ntmps63
    go_wp2
    go_ret2
    exact ⟨⟨_, rfl⟩, ((Below.refl _ _).alloc (Nat.le_refl _) _).alloc (by simp) _⟩
end Go.Proofs.YtiabdbeejkadnaaGreatDoor
