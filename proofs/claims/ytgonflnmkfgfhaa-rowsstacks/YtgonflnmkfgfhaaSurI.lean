
/-
  What Redo and Len do at a stack of ints.
-/
import Derived.Test.YtgonflnmkfgfhaaStuI
namespace Go.Proofs.Ytgonflnmkfgfhaa
open Go.RowKit
attribute [local go_sem ↓] Go.wp_at_zero Go.wp_at_succ

namespace LIS
set_option maxHeartbeats 1000000 in
theorem redo_none (sb base : Nat) (v : Value) (all : List X) (most : Int) (w : World) (h : StackAt w sb base v all all.length most) :
    Calls Try.prog 13 #[.pointer (some ⟨sb, 0, none⟩)] w fun e w' => e = .returned (.tuple #[.int .i64 0, .bool false]) ∧ Up w w' := by
  obtain ⟨va, vcap, rfl⟩ := row_val h.2.1
  obtain ⟨c0, c1, c2, ff⟩ := three_cells h.1
  have hlh : sb < w.heap.size := (Array.getElem?_eq_some_iff.1 h.1).1
  have e0 : (((all.length : Nat) : Int) == ((all.length : Nat) : Int)) = true := by simp
  clear h
  generalize all.length = n at *
  go_enter Try.func13, Try.ntmps13
  go_wp2_with fail
  go_quiet (fail)
  go_wp2
  go_ret2
  exact ⟨rfl, (Up.refl _).drewN _⟩
set_option maxHeartbeats 2000000 in
theorem redo (sb base : Nat) (v : Value) (all : List X) (d : Nat) (most : Int) (w : World) (h : StackAt w sb base v all d most) (hd : d < all.length) (hm : all.length ≤ 100000) :
    Calls Try.prog 13 #[.pointer (some ⟨sb, 0, none⟩)] w fun e w' => e = .returned (.tuple #[.int .i64 (all.getD d dx), .bool true]) ∧ StackAt w' sb base v all (d + 1) most ∧ Only sb w w' := by
  obtain ⟨g, cap, hg, hcap, rfl⟩ := row_some h.2.1 (by omega)
  obtain ⟨x, hx⟩ : ∃ x, x = all.getD d dx := ⟨_, rfl⟩
  rw [← hx]
  obtain ⟨c0, c1, c2, ff⟩ := three_cells h.1
  have hlh : sb < w.heap.size := (Array.getElem?_eq_some_iff.1 h.1).1
  have hne : sb ≠ g := by have := h.2.2.1; omega
  have e0 : (((d : Nat) : Int) == ((all.length : Nat) : Int)) = false := beq_eq_false_iff_ne.2 (by omega)
  have hdl : (d : Int) < (all.length : Int) := by omega
  have HNX : Hid (∀ W, Up w W → StackAt (W.setCell ⟨sb, 1, none⟩ (.int .i64 ((d : Int) + 1))) sb base (.slice (some ⟨g, 0, none⟩) all.length cap) all (d + 1) most) := fun W u => (h.up u).mark (d + 1) (by omega)
  have HCX : Hid (∀ W, Up w W → (W.setCell ⟨sb, 1, none⟩ (.int .i64 ((d : Int) + 1))).cell? ⟨g, d, none⟩ = some (.int .i64 x)) := fun W u => ((h.up u).mark (d + 1) (by omega)).cells d hd x hx
  clear h hx
  generalize all.length = n at *
  go_enter Try.func13, Try.ntmps13
  go_wp2_with fail
  go_quiet (fail)
  obtain ⟨W0, hW0⟩ : ∃ W, W = (w).drewN nq := ⟨_, rfl⟩
  have u0 : Up w W0 := by rw [hW0]; exact (Up.refl _).drewN _
  have HS : Hid (StackAt (W0.setCell ⟨sb, 1, none⟩ (.int .i64 ((d : Int) + 1))) sb base (.slice (some ⟨g, 0, none⟩) n cap) all (d + 1) most) := HNX.out W0 u0
  have hcx := HCX.out W0 u0
  have d0 := u0.cell c0
  have d1 := u0.cell c1
  have df : ∀ j, W0.frozen? ⟨sb, j, none⟩ = false := fun j => by rw [Below.frozen u0 (by exact hlh)]; exact ff j
  have hl0 : sb < W0.heap.size := Nat.lt_of_lt_of_le hlh u0.size
  have HU0 : Hid (Up w W0) := u0
  have HC2 : Hid _ := hcx
  rw [← hW0]
  clear hW0 u0 c0 c1 c2 ff hcx HNX HCX
  go_wp2_with fail
  have cx := HC2.out
  obtain ⟨k0, k1, k2, kf⟩ := three_cells HS.out.1
  have k1' : (W0.setCell ⟨sb, 1, none⟩ (.int .i64 ((d : Int) + 1))).cell? ⟨sb, 1, none⟩ = some (.int .i64 ((d : Int) + 1)) := k1
  have e2 : (d : Int) + 1 - 1 = (d : Int) := by omega
  have e5 : IntKind.i64.wrap (d : Int) = (d : Int) := IntWalk.i64_in _ ⟨by omega, by omega⟩
  clear d0 d1 df k1
  go_quiet (fail)
  go_wp2
  go_ret2
  exact ⟨rfl, HS.out.up ((Up.refl _).drewN _), (((Only.up HU0.out).set 1 _).trans (Only.up ((Up.refl _).drewN _)))⟩
set_option maxHeartbeats 1000000 in
theorem len_ (sb base : Nat) (v : Value) (all : List X) (d : Nat) (most : Int) (w : World) (h : StackAt w sb base v all d most) (hm : all.length ≤ 100000) :
    Calls Try.prog 14 #[.pointer (some ⟨sb, 0, none⟩)] w fun e w' => e = .returned (.tuple #[.int .i64 d, .int .i64 ((all.length : Int) - d)]) ∧ Up w w' := by
  obtain ⟨va, vcap, rfl⟩ := row_val h.2.1
  obtain ⟨c0, c1, c2, ff⟩ := three_cells h.1
  have hd := h.2.2.2
  clear h
  generalize all.length = n at *
  go_enter Try.func14, Try.ntmps14
  go_wp2_with fail
  go_quiet (fail)
  go_wp2
  go_ret2
  exact ⟨rfl, (Up.refl _).drewN _⟩
end LIS
end Go.Proofs.Ytgonflnmkfgfhaa
