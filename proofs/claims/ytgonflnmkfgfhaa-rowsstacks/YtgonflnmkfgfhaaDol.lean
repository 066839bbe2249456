
/-
  Len at both stacks.
-/
import Derived.Test.YtgonflnmkfgfhaaDos
namespace Go.Proofs.Ytgonflnmkfgfhaa
open Go.RowKit
attribute [local go_sem ↓] Go.wp_at_zero Go.wp_at_succ

namespace DS
set_option maxRecDepth 100000 in
set_option maxHeartbeats 2000000 in
theorem does_len_nil (hp : Option Addr) (k on n : Int) (w : World) (h0 : k ≠ 0) (h1 : k ≠ 1) (h2 : k ≠ 2) (h3 : k ≠ 3) :
    Calls Try.prog 8 #[.pointer none, .pointer none, op k on n, .pointer hp] w fun e w' => e = .returned (.bool true) ∧ Up w w' := by
  have HL : Hid _ := LIS.len_nil
  have f0 : (k == 0) = false := beq_eq_false_iff_ne.2 h0
  have f1 : (k == 1) = false := beq_eq_false_iff_ne.2 h1
  have f2 : (k == 2) = false := beq_eq_false_iff_ne.2 h2
  have f3 : (k == 3) = false := beq_eq_false_iff_ne.2 h3
  unfold op
  go_enter Try.func8, Try.ntmps8
  go_wp2_with fail
  refine Calls.mono (HL.out _) ?_
  rintro e w1 ⟨rfl, u⟩
  have HU : Hid (Up w w1) := Up.trans ((Up.refl _).alloc _) u
  clear u
  go_wp2
  first | exact ⟨rfl, HU.out⟩ | (go_ret; exact ⟨rfl, HU.out⟩)
set_option maxRecDepth 100000 in
set_option maxHeartbeats 2000000 in
theorem does_len (sb base rb b2 : Nat) (v vd vu : Value) (all : List Int) (d : Nat) (most : Int) (dn un : List Int) (hp : Option Addr) (k on n : Int) (w : World) (h0 : k ≠ 0) (h1 : k ≠ 1) (h2 : k ≠ 2) (h3 : k ≠ 3)
    (hs : LIS.StackAt w sb base v all d most) (hr : RS.RSt w rb b2 vd vu most dn un) (hm : all.length ≤ 100000) (hd : dn.length = d) (hu : un.length = all.length - d) :
    Calls Try.prog 8 #[.pointer (some ⟨sb, 0, none⟩), .pointer (some ⟨rb, 0, none⟩), op k on n, .pointer hp] w fun e w' => e = .returned (.bool true) ∧ Up w w' := by
  have hda := hs.2.2.2
  have HL : Hid (∀ W, Up w W → _) := fun W u => LIS.len_ sb base v all d most W (hs.up u) hm
  obtain ⟨va, vc, rfl⟩ := row_val hr.2.1
  obtain ⟨ua, uc, rfl⟩ := row_val hr.2.2.1
  have HC : Hid (∀ W, Up w W → _) := fun W u => RS.three3 (u.heap hr.1)
  have f0 : (k == 0) = false := beq_eq_false_iff_ne.2 h0
  have f1 : (k == 1) = false := beq_eq_false_iff_ne.2 h1
  have f2 : (k == 2) = false := beq_eq_false_iff_ne.2 h2
  have f3 : (k == 3) = false := beq_eq_false_iff_ne.2 h3
  have e6 : (((all.length : Int) - (d : Int)) == (un.length : Int)) = true := by rw [hu]; simp; omega
  subst hd
  clear hs hr hu
  unfold op
  go_enter Try.func8, Try.ntmps8
  go_wp2_with fail
  refine Calls.mono (HL.out _ ((Up.refl _).alloc _)) ?_
  rintro e w1 ⟨rfl, u⟩
  have HU : Hid (Up w w1) := Up.trans ((Up.refl _).alloc _) u
  obtain ⟨c0, c1, c2, cf⟩ := HC.out w1 HU.out
  clear u
  go_wp2
  first | exact ⟨rfl, HU.out⟩ | (go_ret; exact ⟨rfl, HU.out⟩)
end DS
end Go.Proofs.Ytgonflnmkfgfhaa
