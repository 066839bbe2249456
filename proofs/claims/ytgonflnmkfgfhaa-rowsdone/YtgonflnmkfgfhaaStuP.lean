
/-
  What Undo does at a stack of pairs.
-/
import Derived.Test.YtgonflnmkfgfhaaStkP
import Derived.Test.YtgonflnmkfgfhaaTail
namespace Go.Proofs.Ytgonflnmkfgfhaa
open Go.RowKit
attribute [local go_sem ↓] Go.wp_at_zero Go.wp_at_succ

namespace LPS
theorem StackAt.mark {W : World} {sb base : Nat} {v : Value} {all : List X} {d : Nat} {most : Int} (h : StackAt W sb base v all d most) (d' : Nat) (hd : d' ≤ all.length) : StackAt (W.setCell ⟨sb, 1, none⟩ (.int .i64 d')) sb base v all d' most :=
  ⟨put1 h.1 _, ownsRow_setCell_below h.2.1 (a := ⟨sb, 1, none⟩) h.2.2.1 _, h.2.2.1, hd⟩
theorem two_below {B sb : Nat} {v : Value} {a b c : World} (h : Below B a b) (k : Two sb v b c) (h1 : B ≤ sb) (h2 : ∀ g, v.ownBlock = some g → B ≤ g) (h3 : B ≤ b.heap.size) : Below B a c :=
  h.trans ⟨k.1.1, k.1.2.1, k.1.2.2, k.2.1, fun g hg => k.2.2 g (by omega) (by omega) (fun e => by have := h2 g e; omega)⟩
theorem two_cell {sb : Nat} {v : Value} {b c : World} (k : Two sb v b c) {g j : Nat} {x : Value} (hc : b.cell? ⟨g, j, none⟩ = some x) (h1 : g ≠ sb) (h2 : v.ownBlock ≠ some g) : c.cell? ⟨g, j, none⟩ = some x := by
  rw [World.cell?_of_block (w := b) (w' := c) (a := ⟨g, j, none⟩) (k.2.2 g (World.block_lt_of_cell? b _ hc) h1 h2)]; exact hc
set_option maxHeartbeats 1000000 in
theorem undo_none (sb base : Nat) (v : Value) (all : List X) (most : Int) (w : World) (h : StackAt w sb base v all 0 most) :
    Calls Try.prog 18 #[.pointer (some ⟨sb, 0, none⟩)] w fun e w' => e = .returned (.tuple #[.agg #[.int .i8 0, .string ⟨#[]⟩], .bool false]) ∧ Up w w' := by
  obtain ⟨c0, c1, c2, ff⟩ := three_cells h.1
  have hlh : sb < w.heap.size := (Array.getElem?_eq_some_iff.1 h.1).1
  have e0 : (((0 : Nat) : Int) == 0) = true := rfl
  clear h
  go_enter Try.func18, Try.ntmps18
  go_wp2
  exact bodyPost_ret (v := .tuple #[.agg #[.int .i8 0, .string ⟨#[]⟩], .bool false]) (by simp [results, Try.results18, go_sem]) rfl ⟨rfl, by first | exact ((Up.refl _).alloc _).alloc _ | exact (Up.refl _).alloc _⟩
set_option maxHeartbeats 2000000 in
theorem undo (sb base : Nat) (v : Value) (all : List X) (d : Nat) (most : Int) (w : World) (h : StackAt w sb base v all (d + 1) most) (hm : all.length ≤ 100000) :
    Calls Try.prog 18 #[.pointer (some ⟨sb, 0, none⟩)] w fun e w' => e = .returned (.tuple #[.agg #[.int .i8 (all.getD d dx).1, .string (all.getD d dx).2], .bool true]) ∧ StackAt w' sb base v all d most ∧ Only sb w w' := by
  have hl : d + 1 ≤ all.length := h.2.2.2
  obtain ⟨g, cap, hg, hcap, rfl⟩ := row_some h.2.1 (by omega)
  obtain ⟨x, hx⟩ : ∃ x, x = all.getD d dx := ⟨_, rfl⟩
  rw [← hx]
  obtain ⟨c0, c1, c2, ff⟩ := three_cells h.1
  have hlh : sb < w.heap.size := (Array.getElem?_eq_some_iff.1 h.1).1
  have hne : sb ≠ g := by have := h.2.2.1; omega
  have HS : Hid (StackAt (w.setCell ⟨sb, 1, none⟩ (.int .i64 (d : Int))) sb base (.slice (some ⟨g, 0, none⟩) all.length cap) all d most) := h.mark d (by omega)
  have cx := HS.out.cells d (by omega) x hx
  have HX : Hid _ := hx
  obtain ⟨k0, k1, k2, kf⟩ := three_cells HS.out.1
  have e0 : (((d + 1 : Nat) : Int) == 0) = false := by simp; omega
  have e1 : (((d : Int) + 1) == 0) = false := by simp; omega
  have e2 : (d : Int) + 1 - 1 = (d : Int) := by omega
  have hdl : (d : Int) < (all.length : Int) := by omega
  clear h hx
  generalize all.length = n at *
  go_enter Try.func18, Try.ntmps18
  go_wp2_with fail
  obtain ⟨w1, hw1⟩ : ∃ W, W = w.setCell ⟨sb, 1, none⟩ (.int .i64 (d : Int)) := ⟨_, rfl⟩
  have hz1 : w1.heap.size = w.heap.size := by rw [hw1]; simp
  have HO1 : Hid (Only sb w w1) := by unfold Hid; rw [hw1]; exact (Only.refl _ _).set 1 _
  rw [← hw1] at HS cx k0 k1 k2 kf ⊢
  obtain ⟨W0, hW0⟩ : ∃ W, W = w1.alloc (.cells #[.int .i8 0, .string ⟨#[]⟩] 53) := ⟨_, rfl⟩
  have u0 : Up w1 W0 := by rw [hW0]; exact (Up.refl _).alloc _
  have hbx : W0.heap[w.heap.size]? = some (.cells #[.int .i8 0, .string ⟨#[]⟩] 53 (0, 0)) := by rw [hW0, ← hz1]; exact heap_alloc_new w1 _
  rw [← hW0]
  have m0 := u0.cell k0
  have m1 := u0.cell k1
  have m3 := u0.cell cx.1
  have m4 := u0.cell cx.2
  have b0 : W0.cell? ⟨w.heap.size, 0, none⟩ = some (.int .i8 0) := by simp [World.cell?, hbx]
  have b1 : W0.cell? ⟨w.heap.size, 1, none⟩ = some (.string ⟨#[]⟩) := by simp [World.cell?, hbx]
  have bf : ∀ j, W0.frozen? ⟨w.heap.size, j, none⟩ = false := fun j => by simp [World.frozen?, hbx]
  have HU0 : Hid (Up w1 W0) := u0
  have HZ : Hid (w1.heap.size = w.heap.size) := hz1
  generalize w.heap.size = bx at *
  clear hW0 hw1 u0 hbx c0 c1 c2 ff k0 k1 k2 kf cx hz1
  refine TailR.wp_region_seq 10 (by kernel_rfl) (by kernel_rfl) ?_
  simp only [List.take_succ_cons, List.take_zero, List.drop_succ_cons, List.drop_zero]
  repeat (go_big_quiet_step (fail))
  refine wpQuiet_nil ?_
  intro _ hw'
  obtain ⟨nq, hw''⟩ := hw'
  subst hw''
  go_wp2_with fail
  have U9 : Up w1 (((W0.drewN nq).setCell ⟨bx, 0, none⟩ (.int .i8 x.1)).setCell ⟨bx, 1, none⟩ (.string x.2)) := Below.setCell (Below.setCell (HU0.out.drewN nq) (Nat.le_of_eq HZ.out) _) (Nat.le_of_eq HZ.out) _
  refine bodyPost_ret (v := .tuple #[.agg #[.int .i8 x.1, .string x.2], .bool true]) (by simp [results, Try.results18, go_sem, b0, b1]) rfl ⟨rfl, HS.out.up U9, HO1.out.trans (Only.up U9)⟩
end LPS
end Go.Proofs.Ytgonflnmkfgfhaa
