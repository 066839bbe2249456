
/-
  No idle program: what the law's first look does.
-/
import Derived.Test.YtgonflnmkfgfhaaCutS
import Derived.Test.YtgonflnmkfgfhaaStuB
import Derived.Test.YtgonflnmkfgfhaaTakeI
namespace Go.Proofs.Ytgonflnmkfgfhaa
open Go.RowKit

set_option maxRecDepth 100000 in
set_option maxHeartbeats 4000000 in
theorem works (w : World) : Calls Try.prog 5 #[] w fun e w' => e = .returned (.bool true) ∧ Up w w' := by
  go_enter Try.func5, Try.ntmps5
  go_wp2_with fail
  have hL : LC (w.alloc (.cells #[.string ⟨#[97]⟩, .string ⟨#[98]⟩, .string ⟨#[99]⟩] 9)) (.slice (some ⟨w.heap.size, 0, none⟩) 3 3) 1 3 [.string ⟨#[97]⟩, .string ⟨#[98]⟩, .string ⟨#[99]⟩] := lc_row (heap_alloc_new w _) rfl 3 (Nat.le_refl _)
  refine (LS.cut _ 3 1 _ ⟨#[98]⟩ _ hL (by decide) (by decide) (by intro u hu; simp at hu; rcases hu with rfl | rfl | rfl <;> rfl) rfl).mono ?_
  rintro e w1 ⟨g1, hg1, rfl, hrow1, u1⟩
  have U1 : Up w w1 := ((Up.refl _).alloc _).trans u1
  have c1 : w1.cell? ⟨g1, 1, none⟩ = some (.string ⟨#[99]⟩) := by
    simp [World.cell?, hrow1]
  clear hL hrow1 u1 hg1
  have hg1 : g1 < w1.heap.size := World.block_lt_of_cell? w1 _ c1
  go_wp2_with fail
  refine (LBS.newStack 3 w1 (by decide)).mono ?_
  rintro e w2 ⟨rfl, hs2, u2, hz2⟩
  have U2 : Up w w2 := U1.trans u2
  have c2 := u2.cell c1
  have hs1 : w.heap.size ≤ w1.heap.size := U1.size
  clear c1 u2 U1
  have H2 : Hid (LBS.StackAt w2 w1.heap.size (w1.heap.size + 1) (.slice none 0 0) [] 0 3) := hs2
  have HZ2 : Hid (w2.heap.size = w1.heap.size + 1) := hz2
  clear hs2 hz2
  obtain ⟨sb, hsb⟩ : ∃ sb, sb = w1.heap.size := ⟨_, rfl⟩
  rw [← hsb] at H2 HZ2 hg1 hs1 ⊢
  clear hsb
  go_wp2_with fail
  refine (LBS.do_ sb (sb + 1) (.slice none 0 0) [] 0 3 5 w2 H2.out (by decide) (by decide) (by decide) (by rw [HZ2.out]; exact Nat.le_refl _)).mono ?_
  rintro e w3 ⟨rfl, v3, hs3, ht3, ho3⟩
  have c3 := LBS.two_cell ht3 c2 (by omega) (by intro h; cases h)
  have U3 : Up w w3 := LBS.two_below U2 ht3 hs1 (by intro g h; cases h) U2.size
  have hv3 : ∀ g, v3.ownBlock = some g → sb + 1 ≤ g := fun g hg => (hs3.2.1.lt g hg).1
  have H3 : Hid (LBS.StackAt w3 sb (sb + 1) v3 [5] 1 3) := hs3
  have HZ3 : Hid (sb + 1 ≤ w3.heap.size) := by have := ht3.2.1; rw [HZ2.out] at this; exact this
  clear hs3 ht3 ho3 c2 U2 H2
  go_wp2_with fail
  refine (LBS.do_ sb (sb + 1) v3 [5] 1 3 6 w3 H3.out (by decide) (by decide) (by decide) HZ3.out).mono ?_
  rintro e w4 ⟨rfl, v4, hs4, ht4, ho4⟩
  have c4 := LBS.two_cell ht4 c3 (by omega) (by intro h; have := hv3 _ h; omega)
  have U4 : Up w w4 := LBS.two_below U3 ht4 hs1 (by intro g h; have := hv3 _ h; omega) U3.size
  have H4 : Hid (LBS.StackAt w4 sb (sb + 1) v4 [5, 6] 2 3) := hs4
  clear hs4 ht4 ho4 c3 U3 H3 hv3
  go_wp2_with fail
  refine (LBS.undo sb (sb + 1) v4 [5, 6] 1 3 w4 H4.out (by decide)).mono ?_
  rintro e w5 ⟨rfl, -, ho5⟩
  have c5 : w5.cell? ⟨g1, 1, none⟩ = some (.string ⟨#[99]⟩) := by
    rw [World.cell?_of_block (w := w4) (w' := w5) (a := ⟨g1, 1, none⟩) (ho5.2.2 g1 (World.block_lt_of_cell? w4 _ c4) (by omega))]; exact c4
  have U5 : Up w w5 := U4.trans' ho5 hs1
  clear c4 U4 H4 ho5
  go_wp2_with fail
  refine (HI.newHeap 28 w5).mono ?_
  rintro e w6 ⟨rfl, hh6, u6, hz6⟩
  have c6 := u6.cell c5
  have U6 : Up w w6 := U5.trans u6
  have hs5 : w.heap.size ≤ w5.heap.size := U5.size
  have hg5 : g1 < w5.heap.size := World.block_lt_of_cell? w5 _ c5
  have H6 : Hid (HI.HeapOf w6 w5.heap.size 28 (w5.heap.size + 1) [] 0) := hh6
  have HZ6 : Hid (w6.heap.size = w5.heap.size + 1) := hz6
  clear c5 U5 u6 hh6 hz6
  obtain ⟨hb, hhb⟩ : ∃ hb, hb = w5.heap.size := ⟨_, rfl⟩
  rw [← hhb] at H6 HZ6 hs5 hg5 ⊢
  clear hhb
  go_wp2_with fail
  have u7 : Up w6 (w6.alloc (.cells #[.int .i64 3, .int .i64 1, .int .i64 2] 3)) := (Up.refl _).alloc _
  have H7 : Hid (HI.HeapOf (w6.alloc (.cells #[.int .i64 3, .int .i64 1, .int .i64 2] 3)) hb 28 (hb + 1) [] 0) := H6.out.fr u7
  have hL7 : HI.Lst hb (hb + 1) (w6.alloc (.cells #[.int .i64 3, .int .i64 1, .int .i64 2] 3)) (.slice (some ⟨w6.heap.size, 0, none⟩) 3 3) [3, 1, 2] := by
    refine ⟨_, 3, rfl, fun _ => ⟨w6.heap.size, 0, rfl, ⟨by rw [HZ6.out]; omega, .inr ?_⟩, ?_⟩⟩
    · intro o ho cs fz e
      rw [heap_alloc_new w6 _] at ho
      rw [e] at ho
      cases ho
    · intro i hi
      have hi : i < 3 := hi
      have : i = 0 ∨ i = 1 ∨ i = 2 := by omega
      rcases this with rfl | rfl | rfl <;> simp
  have c7 := u7.cell c6
  have U7 : Up w (w6.alloc (.cells #[.int .i64 3, .int .i64 1, .int .i64 2] 3)) := U6.trans u7
  have HZ7 : Hid (hb + 1 ≤ (w6.alloc (.cells #[.int .i64 3, .int .i64 1, .int .i64 2] 3)).heap.size) := by unfold Hid; have := HZ6.out; simp; omega
  have HL7 : Hid _ := hL7
  clear c6 U6 u7 H6 hL7
  generalize w6.alloc (.cells #[.int .i64 3, .int .i64 1, .int .i64 2] 3) = w7 at *
  refine (HI.put_ hb 28 (hb + 1) _ [] [3, 1, 2] 0 w7 H7.out HL7.out HI.less1 HZ7.out (by decide) (by decide)).mono ?_
  rintro e w8 ⟨rfl, hh8, hf8⟩
  have c8 : w8.cell? ⟨g1, 1, none⟩ = some (.string ⟨#[99]⟩) := Safe.cell (tE := HI.tE) (hb := hb) (base := hb + 1) ⟨by omega, .inl (by omega)⟩ hf8 c7
  have U8 : Up w w8 := Below.trans U7 (Below.mono (hf8.below (Nat.lt_succ_self _) (Nat.le_of_succ_le HZ7.out)) hs5)
  have HZ8 : Hid (hb + 1 ≤ w8.heap.size) := Nat.le_trans HZ7.out hf8.2.1
  have H8 : Hid (HI.HeapOf w8 hb 28 (hb + 1) [3, 1, 2] 3) := hh8
  clear hh8 hf8 c7 U7 H7 HL7
  go_wp2_with fail
  refine (HI.take_ hb 28 (hb + 1) [3, 1, 2] 3 w8 H8.out (by decide) HI.less1 HZ8.out (by decide)).mono ?_
  rintro e w9 ⟨rfl, -, hf9⟩
  rw [show least HI.rk HI.dx [3, 1, 2] = 1 by decide]
  have c9 : w9.cell? ⟨g1, 1, none⟩ = some (.string ⟨#[99]⟩) := Safe.cell (tE := HI.tE) (hb := hb) (base := hb + 1) ⟨by omega, .inl (by omega)⟩ hf9 c8
  have U9 : Up w w9 := Below.trans U8 (Below.mono (hf9.below (Nat.lt_succ_self _) (Nat.le_of_succ_le HZ8.out)) hs5)
  clear hf9 c8 U8 H8
  go_wp2
  go_ret
  exact ⟨rfl, U9⟩
end Go.Proofs.Ytgonflnmkfgfhaa
