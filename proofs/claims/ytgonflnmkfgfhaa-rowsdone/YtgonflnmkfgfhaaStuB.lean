
/-
  What Undo does at a stack of small ints.
-/
import Derived.Test.YtgonflnmkfgfhaaStkB
namespace Go.Proofs.Ytgonflnmkfgfhaa
open Go.RowKit
attribute [local go_sem ↓] Go.wp_at_zero Go.wp_at_succ

namespace LBS
theorem StackAt.mark {W : World} {sb base : Nat} {v : Value} {all : List X} {d : Nat} {most : Int} (h : StackAt W sb base v all d most) (d' : Nat) (hd : d' ≤ all.length) : StackAt (W.setCell ⟨sb, 1, none⟩ (.int .i64 d')) sb base v all d' most :=
  ⟨put1 h.1 _, ownsRow_setCell_below h.2.1 (a := ⟨sb, 1, none⟩) h.2.2.1 _, h.2.2.1, hd⟩
theorem two_below {B sb : Nat} {v : Value} {a b c : World} (h : Below B a b) (k : Two sb v b c) (h1 : B ≤ sb) (h2 : ∀ g, v.ownBlock = some g → B ≤ g) (h3 : B ≤ b.heap.size) : Below B a c :=
  h.trans ⟨k.1.1, k.1.2.1, k.1.2.2, k.2.1, fun g hg => k.2.2 g (by omega) (by omega) (fun e => by have := h2 g e; omega)⟩
theorem two_cell {sb : Nat} {v : Value} {b c : World} (k : Two sb v b c) {g j : Nat} {x : Value} (hc : b.cell? ⟨g, j, none⟩ = some x) (h1 : g ≠ sb) (h2 : v.ownBlock ≠ some g) : c.cell? ⟨g, j, none⟩ = some x := by
  rw [World.cell?_of_block (w := b) (w' := c) (a := ⟨g, j, none⟩) (k.2.2 g (World.block_lt_of_cell? b _ hc) h1 h2)]; exact hc
set_option maxHeartbeats 1000000 in
theorem undo_none (sb base : Nat) (v : Value) (all : List X) (most : Int) (w : World) (h : StackAt w sb base v all 0 most) :
    Calls Try.prog 26 #[.pointer (some ⟨sb, 0, none⟩)] w fun e w' => e = .returned (.tuple #[.int .i8 0, .bool false]) ∧ Up w w' := by
  obtain ⟨c0, c1, c2, ff⟩ := three_cells h.1
  have hlh : sb < w.heap.size := (Array.getElem?_eq_some_iff.1 h.1).1
  have e0 : (((0 : Nat) : Int) == 0) = true := rfl
  clear h
  go_enter Try.func26, Try.ntmps26
  go_wp2
  go_ret2
  exact ⟨rfl, Up.refl _⟩
set_option maxHeartbeats 2000000 in
theorem undo (sb base : Nat) (v : Value) (all : List X) (d : Nat) (most : Int) (w : World) (h : StackAt w sb base v all (d + 1) most) (hm : all.length ≤ 100000) :
    Calls Try.prog 26 #[.pointer (some ⟨sb, 0, none⟩)] w fun e w' => e = .returned (.tuple #[.int .i8 (all.getD d dx), .bool true]) ∧ StackAt w' sb base v all d most ∧ Only sb w w' := by
  have hl : d + 1 ≤ all.length := h.2.2.2
  obtain ⟨g, cap, hg, hcap, rfl⟩ := row_some h.2.1 (by omega)
  obtain ⟨x, hx⟩ : ∃ x, x = all.getD d dx := ⟨_, rfl⟩
  rw [← hx]
  obtain ⟨c0, c1, c2, ff⟩ := three_cells h.1
  have hlh : sb < w.heap.size := (Array.getElem?_eq_some_iff.1 h.1).1
  have hne : sb ≠ g := by have := h.2.2.1; omega
  have HS : Hid (StackAt (w.setCell ⟨sb, 1, none⟩ (.int .i64 (d : Int))) sb base (.slice (some ⟨g, 0, none⟩) all.length cap) all d most) := h.mark d (by omega)
  have cx := HS.out.cells d (by omega) x hx
  have HX : Hid _ := hx
  obtain ⟨k0, k1, k2, kf⟩ := three_cells HS.out.1
  have e0 : (((d + 1 : Nat) : Int) == 0) = false := by simp; omega
  have e1 : (((d : Int) + 1) == 0) = false := by simp; omega
  have e2 : (d : Int) + 1 - 1 = (d : Int) := by omega
  have hdl : (d : Int) < (all.length : Int) := by omega
  clear h hx
  generalize all.length = n at *
  go_enter Try.func26, Try.ntmps26
  go_wp2_with fail
  go_quiet (fail)
  go_wp2
  go_ret2
  exact ⟨rfl, HS.out.up ((Up.refl _).drewN _), ((Only.refl _ _).set 1 _).trans (Only.up ((Up.refl _).drewN _))⟩
end LBS
end Go.Proofs.Ytgonflnmkfgfhaa
