/- The law SatTurns returns true for every three int64: order, rising, and Go's own numbers where nothing is cut; no conditions. -/
import Derived.Test.YthanbiblikkimabRows
import Derived.WalkKit
import Derived.ProofKit
import Derived.OpenShut
import Derived.Test.YthanbiblikkimabSum
import Derived.Below
import Derived.ChangeOld
import Derived.Deep.RegionHeld3
namespace Go.Proofs.Ythanbiblikkimab.satTurns
open Go.ChangeShapes Go.WideShapes Go.ChangeAt Go.RowKit
set_option linter.unusedVariables false      -- a walk need not use every 'w<i>' (that an integer argument fits its kind)

theorem own : ownKnob Try.prog.godebug = none := by kernel_rfl

theorem cutUp (x y : Int) (h : x ≤ y) : cut64 x ≤ cut64 y := by unfold cut64 cutI; omega
theorem cutUp16 (x y : Int) (h : x ≤ y) : cut16 x ≤ cut16 y := by unfold cut16 cutI; omega
theorem beqSelf (x : Int) : (x == x) = true := by simp
theorem small (a : Int) : -2147483648 ≤ wrap32 a ∧ wrap32 a ≤ 2147483647 := by rw [wrap_i32]; omega
theorem prod (x y : Int) (x1 : -2147483648 ≤ x) (x2 : x ≤ 2147483647) (y1 : -2147483648 ≤ y) (y2 : y ≤ 2147483647) : -4611686018427387904 ≤ x * y ∧ x * y ≤ 4611686018427387904 := by
  have h : (x * y).natAbs ≤ 2147483648 * 2147483648 := by rw [Int.natAbs_mul]; exact Nat.mul_le_mul (by omega) (by omega)
  omega
set_option maxHeartbeats 4000000 in
set_option maxRecDepth 100000 in
theorem walk000 (a b c : Int) (a1 : -9223372036854775808 ≤ a) (a2 : a ≤ 9223372036854775807) (b1 : -9223372036854775808 ≤ b) (b2 : b ≤ 9223372036854775807) (c1 : -9223372036854775808 ≤ c) (c2 : c ≤ 9223372036854775807) (w : World) (h : a ≤ b) (hc : 0 ≤ c) (hm : c < a) :
    Calls Try.prog 6 #[.int .i64 a, .int .i64 b, .int .i64 c] w fun e w' => e = .returned (.bool true) ∧ Up w w' := by
  have R : Hid (cut64 a = a) := cut64_in a a1 a2
  obtain ⟨s1, s2⟩ := small a
  obtain ⟨s3, s4⟩ := small b
  obtain ⟨s5, s6⟩ := prod _ _ s1 s2 s3 s4
  have R1 : Hid (cut64 (wrap32 a + wrap32 b) = wrap32 a + wrap32 b) := cut64_in _ (by omega) (by omega)
  have R2 : Hid (cut64 (wrap32 a - wrap32 b) = wrap32 a - wrap32 b) := cut64_in _ (by omega) (by omega)
  have R3 : Hid (cut64 (wrap32 a * wrap32 b) = wrap32 a * wrap32 b) := cut64_in _ (by omega) (by omega)
  have R4 : Hid (max a (min c b) = a) := by unfold Hid; omega
  have g1 := beqSelf (cut64 (a + b))
  have g2 := beqSelf (cut64 (a * b))
  have g3 := beqSelf a
  have g4 := beqSelf (cut64 (-a))
  have g5 : 0 ≤ cut64 a.natAbs := by unfold cut64 cutI; omega
  have g6 : cut64 (a + c) ≤ cut64 (b + c) := cutUp _ _ (by omega)
  have g7 : cut64 (a - c) ≤ cut64 (b - c) := cutUp _ _ (by omega)
  have g8 : cut64 (c - b) ≤ cut64 (c - a) := cutUp _ _ (by omega)
  have g9 : cut16 a ≤ cut16 b := cutUp16 _ _ (by omega)
  have g10 : cut64 (a * c) ≤ cut64 (b * c) := cutUp _ _ (Int.mul_le_mul_of_nonneg_right (by omega) hc)
  have g11 := beqSelf (wrap32 a + wrap32 b)
  have g12 := beqSelf (wrap32 a - wrap32 b)
  have g13 := beqSelf (wrap32 a * wrap32 b)
  have g14 := beqSelf c
  go_enter Try.func6, Try.ntmps6
  go_wp2_with fail
  refine (works _).mono ?_
  rintro e wa ⟨rfl, up⟩
  go_wp2_with fail
  refine (addI64 a b _ a1 a2 b1 b2).mono ?_
  rintro e v ⟨rfl, rfl⟩
  go_wp2_with fail
  refine (addI64 b a _ b1 b2 a1 a2).mono ?_
  rintro e v ⟨rfl, rfl⟩
  rw [Int.add_comm b a]
  go_wp2_with fail
  refine (mulI64 a b _ a1 a2 b1 b2).mono ?_
  rintro e v ⟨rfl, rfl⟩
  go_wp2_with fail
  refine (mulI64 b a _ b1 b2 a1 a2).mono ?_
  rintro e v ⟨rfl, rfl⟩
  rw [Int.mul_comm b a]
  go_wp2_with fail
  refine (addI64 a 0 _ a1 a2 (by decide) (by decide)).mono ?_
  rintro e v ⟨rfl, rfl⟩
  rw [Int.add_zero, R.out]
  go_wp2_with fail
  refine (mulI64 a 1 _ a1 a2 (by decide) (by decide)).mono ?_
  rintro e v ⟨rfl, rfl⟩
  rw [Int.mul_one, R.out]
  go_wp2_with fail
  refine (mulI64 a (-1) _ a1 a2 (by decide) (by decide)).mono ?_
  rintro e v ⟨rfl, rfl⟩
  rw [show a * (-1) = -a by omega]
  go_wp2_with fail
  refine (negI64 a _ a1 a2).mono ?_
  rintro e v ⟨rfl, rfl⟩
  go_wp2_with fail
  refine (subI64 0 a _ (by decide) (by decide) a1 a2).mono ?_
  rintro e v ⟨rfl, rfl⟩
  rw [Int.zero_sub]
  go_wp2_with fail
  refine (negI64 a _ a1 a2).mono ?_
  rintro e v ⟨rfl, rfl⟩
  go_wp2_with fail
  refine (absI64 a _ a1 a2).mono ?_
  rintro e v ⟨rfl, rfl⟩
  go_wp2_with fail
  refine (addI64 a c _ a1 a2 c1 c2).mono ?_
  rintro e v ⟨rfl, rfl⟩
  go_wp2_with fail
  refine (addI64 b c _ b1 b2 c1 c2).mono ?_
  rintro e v ⟨rfl, rfl⟩
  go_wp2_with fail
  refine (subI64 a c _ a1 a2 c1 c2).mono ?_
  rintro e v ⟨rfl, rfl⟩
  go_wp2_with fail
  refine (subI64 b c _ b1 b2 c1 c2).mono ?_
  rintro e v ⟨rfl, rfl⟩
  go_wp2_with fail
  refine (subI64 c a _ c1 c2 a1 a2).mono ?_
  rintro e v ⟨rfl, rfl⟩
  go_wp2_with fail
  refine (subI64 c b _ c1 c2 b1 b2).mono ?_
  rintro e v ⟨rfl, rfl⟩
  go_wp2_with fail
  refine (toI16I64 a _ a1 a2).mono ?_
  rintro e v ⟨rfl, rfl⟩
  go_wp2_with fail
  refine (toI16I64 b _ b1 b2).mono ?_
  rintro e v ⟨rfl, rfl⟩
  go_wp2_with fail
  refine (mulI64 a c _ a1 a2 c1 c2).mono ?_
  rintro e v ⟨rfl, rfl⟩
  go_wp2_with fail
  refine (mulI64 b c _ b1 b2 c1 c2).mono ?_
  rintro e v ⟨rfl, rfl⟩
  go_wp2_with fail
  refine (addI64 (wrap32 a) (wrap32 b) _ (by omega) (by omega) (by omega) (by omega)).mono ?_
  rintro e v ⟨rfl, rfl⟩
  rw [R1.out]
  go_wp2_with fail
  refine (subI64 (wrap32 a) (wrap32 b) _ (by omega) (by omega) (by omega) (by omega)).mono ?_
  rintro e v ⟨rfl, rfl⟩
  rw [R2.out]
  go_wp2_with fail
  refine (mulI64 (wrap32 a) (wrap32 b) _ (by omega) (by omega) (by omega) (by omega)).mono ?_
  rintro e v ⟨rfl, rfl⟩
  rw [R3.out]
  go_wp2_with fail
  refine (clampI64 c a b _).mono ?_
  rintro e v ⟨rfl, rfl⟩
  rw [R4.out]
  go_wp2
  go_ret
  exact ⟨rfl, up⟩
set_option maxHeartbeats 4000000 in
set_option maxRecDepth 100000 in
theorem walk001 (a b c : Int) (a1 : -9223372036854775808 ≤ a) (a2 : a ≤ 9223372036854775807) (b1 : -9223372036854775808 ≤ b) (b2 : b ≤ 9223372036854775807) (c1 : -9223372036854775808 ≤ c) (c2 : c ≤ 9223372036854775807) (w : World) (h : a ≤ b) (hc : 0 ≤ c) (hm : a ≤ c) (hn : b < c) :
    Calls Try.prog 6 #[.int .i64 a, .int .i64 b, .int .i64 c] w fun e w' => e = .returned (.bool true) ∧ Up w w' := by
  have R : Hid (cut64 a = a) := cut64_in a a1 a2
  obtain ⟨s1, s2⟩ := small a
  obtain ⟨s3, s4⟩ := small b
  obtain ⟨s5, s6⟩ := prod _ _ s1 s2 s3 s4
  have R1 : Hid (cut64 (wrap32 a + wrap32 b) = wrap32 a + wrap32 b) := cut64_in _ (by omega) (by omega)
  have R2 : Hid (cut64 (wrap32 a - wrap32 b) = wrap32 a - wrap32 b) := cut64_in _ (by omega) (by omega)
  have R3 : Hid (cut64 (wrap32 a * wrap32 b) = wrap32 a * wrap32 b) := cut64_in _ (by omega) (by omega)
  have R4 : Hid (max a (min c b) = b) := by unfold Hid; omega
  have g1 := beqSelf (cut64 (a + b))
  have g2 := beqSelf (cut64 (a * b))
  have g3 := beqSelf a
  have g4 := beqSelf (cut64 (-a))
  have g5 : 0 ≤ cut64 a.natAbs := by unfold cut64 cutI; omega
  have g6 : cut64 (a + c) ≤ cut64 (b + c) := cutUp _ _ (by omega)
  have g7 : cut64 (a - c) ≤ cut64 (b - c) := cutUp _ _ (by omega)
  have g8 : cut64 (c - b) ≤ cut64 (c - a) := cutUp _ _ (by omega)
  have g9 : cut16 a ≤ cut16 b := cutUp16 _ _ (by omega)
  have g10 : cut64 (a * c) ≤ cut64 (b * c) := cutUp _ _ (Int.mul_le_mul_of_nonneg_right (by omega) hc)
  have g11 := beqSelf (wrap32 a + wrap32 b)
  have g12 := beqSelf (wrap32 a - wrap32 b)
  have g13 := beqSelf (wrap32 a * wrap32 b)
  have g14 := beqSelf c
  go_enter Try.func6, Try.ntmps6
  go_wp2_with fail
  refine (works _).mono ?_
  rintro e wa ⟨rfl, up⟩
  go_wp2_with fail
  refine (addI64 a b _ a1 a2 b1 b2).mono ?_
  rintro e v ⟨rfl, rfl⟩
  go_wp2_with fail
  refine (addI64 b a _ b1 b2 a1 a2).mono ?_
  rintro e v ⟨rfl, rfl⟩
  rw [Int.add_comm b a]
  go_wp2_with fail
  refine (mulI64 a b _ a1 a2 b1 b2).mono ?_
  rintro e v ⟨rfl, rfl⟩
  go_wp2_with fail
  refine (mulI64 b a _ b1 b2 a1 a2).mono ?_
  rintro e v ⟨rfl, rfl⟩
  rw [Int.mul_comm b a]
  go_wp2_with fail
  refine (addI64 a 0 _ a1 a2 (by decide) (by decide)).mono ?_
  rintro e v ⟨rfl, rfl⟩
  rw [Int.add_zero, R.out]
  go_wp2_with fail
  refine (mulI64 a 1 _ a1 a2 (by decide) (by decide)).mono ?_
  rintro e v ⟨rfl, rfl⟩
  rw [Int.mul_one, R.out]
  go_wp2_with fail
  refine (mulI64 a (-1) _ a1 a2 (by decide) (by decide)).mono ?_
  rintro e v ⟨rfl, rfl⟩
  rw [show a * (-1) = -a by omega]
  go_wp2_with fail
  refine (negI64 a _ a1 a2).mono ?_
  rintro e v ⟨rfl, rfl⟩
  go_wp2_with fail
  refine (subI64 0 a _ (by decide) (by decide) a1 a2).mono ?_
  rintro e v ⟨rfl, rfl⟩
  rw [Int.zero_sub]
  go_wp2_with fail
  refine (negI64 a _ a1 a2).mono ?_
  rintro e v ⟨rfl, rfl⟩
  go_wp2_with fail
  refine (absI64 a _ a1 a2).mono ?_
  rintro e v ⟨rfl, rfl⟩
  go_wp2_with fail
  refine (addI64 a c _ a1 a2 c1 c2).mono ?_
  rintro e v ⟨rfl, rfl⟩
  go_wp2_with fail
  refine (addI64 b c _ b1 b2 c1 c2).mono ?_
  rintro e v ⟨rfl, rfl⟩
  go_wp2_with fail
  refine (subI64 a c _ a1 a2 c1 c2).mono ?_
  rintro e v ⟨rfl, rfl⟩
  go_wp2_with fail
  refine (subI64 b c _ b1 b2 c1 c2).mono ?_
  rintro e v ⟨rfl, rfl⟩
  go_wp2_with fail
  refine (subI64 c a _ c1 c2 a1 a2).mono ?_
  rintro e v ⟨rfl, rfl⟩
  go_wp2_with fail
  refine (subI64 c b _ c1 c2 b1 b2).mono ?_
  rintro e v ⟨rfl, rfl⟩
  go_wp2_with fail
  refine (toI16I64 a _ a1 a2).mono ?_
  rintro e v ⟨rfl, rfl⟩
  go_wp2_with fail
  refine (toI16I64 b _ b1 b2).mono ?_
  rintro e v ⟨rfl, rfl⟩
  go_wp2_with fail
  refine (mulI64 a c _ a1 a2 c1 c2).mono ?_
  rintro e v ⟨rfl, rfl⟩
  go_wp2_with fail
  refine (mulI64 b c _ b1 b2 c1 c2).mono ?_
  rintro e v ⟨rfl, rfl⟩
  go_wp2_with fail
  refine (addI64 (wrap32 a) (wrap32 b) _ (by omega) (by omega) (by omega) (by omega)).mono ?_
  rintro e v ⟨rfl, rfl⟩
  rw [R1.out]
  go_wp2_with fail
  refine (subI64 (wrap32 a) (wrap32 b) _ (by omega) (by omega) (by omega) (by omega)).mono ?_
  rintro e v ⟨rfl, rfl⟩
  rw [R2.out]
  go_wp2_with fail
  refine (mulI64 (wrap32 a) (wrap32 b) _ (by omega) (by omega) (by omega) (by omega)).mono ?_
  rintro e v ⟨rfl, rfl⟩
  rw [R3.out]
  go_wp2_with fail
  refine (clampI64 c a b _).mono ?_
  rintro e v ⟨rfl, rfl⟩
  rw [R4.out]
  go_wp2
  go_ret
  exact ⟨rfl, up⟩
set_option maxHeartbeats 4000000 in
set_option maxRecDepth 100000 in
theorem walk002 (a b c : Int) (a1 : -9223372036854775808 ≤ a) (a2 : a ≤ 9223372036854775807) (b1 : -9223372036854775808 ≤ b) (b2 : b ≤ 9223372036854775807) (c1 : -9223372036854775808 ≤ c) (c2 : c ≤ 9223372036854775807) (w : World) (h : a ≤ b) (hc : 0 ≤ c) (hm : a ≤ c) (hn : c ≤ b) :
    Calls Try.prog 6 #[.int .i64 a, .int .i64 b, .int .i64 c] w fun e w' => e = .returned (.bool true) ∧ Up w w' := by
  have R : Hid (cut64 a = a) := cut64_in a a1 a2
  obtain ⟨s1, s2⟩ := small a
  obtain ⟨s3, s4⟩ := small b
  obtain ⟨s5, s6⟩ := prod _ _ s1 s2 s3 s4
  have R1 : Hid (cut64 (wrap32 a + wrap32 b) = wrap32 a + wrap32 b) := cut64_in _ (by omega) (by omega)
  have R2 : Hid (cut64 (wrap32 a - wrap32 b) = wrap32 a - wrap32 b) := cut64_in _ (by omega) (by omega)
  have R3 : Hid (cut64 (wrap32 a * wrap32 b) = wrap32 a * wrap32 b) := cut64_in _ (by omega) (by omega)
  have R4 : Hid (max a (min c b) = c) := by unfold Hid; omega
  have g1 := beqSelf (cut64 (a + b))
  have g2 := beqSelf (cut64 (a * b))
  have g3 := beqSelf a
  have g4 := beqSelf (cut64 (-a))
  have g5 : 0 ≤ cut64 a.natAbs := by unfold cut64 cutI; omega
  have g6 : cut64 (a + c) ≤ cut64 (b + c) := cutUp _ _ (by omega)
  have g7 : cut64 (a - c) ≤ cut64 (b - c) := cutUp _ _ (by omega)
  have g8 : cut64 (c - b) ≤ cut64 (c - a) := cutUp _ _ (by omega)
  have g9 : cut16 a ≤ cut16 b := cutUp16 _ _ (by omega)
  have g10 : cut64 (a * c) ≤ cut64 (b * c) := cutUp _ _ (Int.mul_le_mul_of_nonneg_right (by omega) hc)
  have g11 := beqSelf (wrap32 a + wrap32 b)
  have g12 := beqSelf (wrap32 a - wrap32 b)
  have g13 := beqSelf (wrap32 a * wrap32 b)
  have g14 := beqSelf c
  go_enter Try.func6, Try.ntmps6
  go_wp2_with fail
  refine (works _).mono ?_
  rintro e wa ⟨rfl, up⟩
  go_wp2_with fail
  refine (addI64 a b _ a1 a2 b1 b2).mono ?_
  rintro e v ⟨rfl, rfl⟩
  go_wp2_with fail
  refine (addI64 b a _ b1 b2 a1 a2).mono ?_
  rintro e v ⟨rfl, rfl⟩
  rw [Int.add_comm b a]
  go_wp2_with fail
  refine (mulI64 a b _ a1 a2 b1 b2).mono ?_
  rintro e v ⟨rfl, rfl⟩
  go_wp2_with fail
  refine (mulI64 b a _ b1 b2 a1 a2).mono ?_
  rintro e v ⟨rfl, rfl⟩
  rw [Int.mul_comm b a]
  go_wp2_with fail
  refine (addI64 a 0 _ a1 a2 (by decide) (by decide)).mono ?_
  rintro e v ⟨rfl, rfl⟩
  rw [Int.add_zero, R.out]
  go_wp2_with fail
  refine (mulI64 a 1 _ a1 a2 (by decide) (by decide)).mono ?_
  rintro e v ⟨rfl, rfl⟩
  rw [Int.mul_one, R.out]
  go_wp2_with fail
  refine (mulI64 a (-1) _ a1 a2 (by decide) (by decide)).mono ?_
  rintro e v ⟨rfl, rfl⟩
  rw [show a * (-1) = -a by omega]
  go_wp2_with fail
  refine (negI64 a _ a1 a2).mono ?_
  rintro e v ⟨rfl, rfl⟩
  go_wp2_with fail
  refine (subI64 0 a _ (by decide) (by decide) a1 a2).mono ?_
  rintro e v ⟨rfl, rfl⟩
  rw [Int.zero_sub]
  go_wp2_with fail
  refine (negI64 a _ a1 a2).mono ?_
  rintro e v ⟨rfl, rfl⟩
  go_wp2_with fail
  refine (absI64 a _ a1 a2).mono ?_
  rintro e v ⟨rfl, rfl⟩
  go_wp2_with fail
  refine (addI64 a c _ a1 a2 c1 c2).mono ?_
  rintro e v ⟨rfl, rfl⟩
  go_wp2_with fail
  refine (addI64 b c _ b1 b2 c1 c2).mono ?_
  rintro e v ⟨rfl, rfl⟩
  go_wp2_with fail
  refine (subI64 a c _ a1 a2 c1 c2).mono ?_
  rintro e v ⟨rfl, rfl⟩
  go_wp2_with fail
  refine (subI64 b c _ b1 b2 c1 c2).mono ?_
  rintro e v ⟨rfl, rfl⟩
  go_wp2_with fail
  refine (subI64 c a _ c1 c2 a1 a2).mono ?_
  rintro e v ⟨rfl, rfl⟩
  go_wp2_with fail
  refine (subI64 c b _ c1 c2 b1 b2).mono ?_
  rintro e v ⟨rfl, rfl⟩
  go_wp2_with fail
  refine (toI16I64 a _ a1 a2).mono ?_
  rintro e v ⟨rfl, rfl⟩
  go_wp2_with fail
  refine (toI16I64 b _ b1 b2).mono ?_
  rintro e v ⟨rfl, rfl⟩
  go_wp2_with fail
  refine (mulI64 a c _ a1 a2 c1 c2).mono ?_
  rintro e v ⟨rfl, rfl⟩
  go_wp2_with fail
  refine (mulI64 b c _ b1 b2 c1 c2).mono ?_
  rintro e v ⟨rfl, rfl⟩
  go_wp2_with fail
  refine (addI64 (wrap32 a) (wrap32 b) _ (by omega) (by omega) (by omega) (by omega)).mono ?_
  rintro e v ⟨rfl, rfl⟩
  rw [R1.out]
  go_wp2_with fail
  refine (subI64 (wrap32 a) (wrap32 b) _ (by omega) (by omega) (by omega) (by omega)).mono ?_
  rintro e v ⟨rfl, rfl⟩
  rw [R2.out]
  go_wp2_with fail
  refine (mulI64 (wrap32 a) (wrap32 b) _ (by omega) (by omega) (by omega) (by omega)).mono ?_
  rintro e v ⟨rfl, rfl⟩
  rw [R3.out]
  go_wp2_with fail
  refine (clampI64 c a b _).mono ?_
  rintro e v ⟨rfl, rfl⟩
  rw [R4.out]
  go_wp2
  go_ret
  exact ⟨rfl, up⟩
set_option maxHeartbeats 4000000 in
set_option maxRecDepth 100000 in
theorem walk010 (a b c : Int) (a1 : -9223372036854775808 ≤ a) (a2 : a ≤ 9223372036854775807) (b1 : -9223372036854775808 ≤ b) (b2 : b ≤ 9223372036854775807) (c1 : -9223372036854775808 ≤ c) (c2 : c ≤ 9223372036854775807) (w : World) (h : a ≤ b) (hc : c < 0) (hm : c < a) :
    Calls Try.prog 6 #[.int .i64 a, .int .i64 b, .int .i64 c] w fun e w' => e = .returned (.bool true) ∧ Up w w' := by
  have R : Hid (cut64 a = a) := cut64_in a a1 a2
  obtain ⟨s1, s2⟩ := small a
  obtain ⟨s3, s4⟩ := small b
  obtain ⟨s5, s6⟩ := prod _ _ s1 s2 s3 s4
  have R1 : Hid (cut64 (wrap32 a + wrap32 b) = wrap32 a + wrap32 b) := cut64_in _ (by omega) (by omega)
  have R2 : Hid (cut64 (wrap32 a - wrap32 b) = wrap32 a - wrap32 b) := cut64_in _ (by omega) (by omega)
  have R3 : Hid (cut64 (wrap32 a * wrap32 b) = wrap32 a * wrap32 b) := cut64_in _ (by omega) (by omega)
  have R4 : Hid (max a (min c b) = a) := by unfold Hid; omega
  have g1 := beqSelf (cut64 (a + b))
  have g2 := beqSelf (cut64 (a * b))
  have g3 := beqSelf a
  have g4 := beqSelf (cut64 (-a))
  have g5 : 0 ≤ cut64 a.natAbs := by unfold cut64 cutI; omega
  have g6 : cut64 (a + c) ≤ cut64 (b + c) := cutUp _ _ (by omega)
  have g7 : cut64 (a - c) ≤ cut64 (b - c) := cutUp _ _ (by omega)
  have g8 : cut64 (c - b) ≤ cut64 (c - a) := cutUp _ _ (by omega)
  have g9 : cut16 a ≤ cut16 b := cutUp16 _ _ (by omega)
  have g10 : cut64 (b * c) ≤ cut64 (a * c) := cutUp _ _ (Int.mul_le_mul_of_nonpos_right (by omega) (by omega))
  have g11 := beqSelf (wrap32 a + wrap32 b)
  have g12 := beqSelf (wrap32 a - wrap32 b)
  have g13 := beqSelf (wrap32 a * wrap32 b)
  have g14 := beqSelf c
  go_enter Try.func6, Try.ntmps6
  go_wp2_with fail
  refine (works _).mono ?_
  rintro e wa ⟨rfl, up⟩
  go_wp2_with fail
  refine (addI64 a b _ a1 a2 b1 b2).mono ?_
  rintro e v ⟨rfl, rfl⟩
  go_wp2_with fail
  refine (addI64 b a _ b1 b2 a1 a2).mono ?_
  rintro e v ⟨rfl, rfl⟩
  rw [Int.add_comm b a]
  go_wp2_with fail
  refine (mulI64 a b _ a1 a2 b1 b2).mono ?_
  rintro e v ⟨rfl, rfl⟩
  go_wp2_with fail
  refine (mulI64 b a _ b1 b2 a1 a2).mono ?_
  rintro e v ⟨rfl, rfl⟩
  rw [Int.mul_comm b a]
  go_wp2_with fail
  refine (addI64 a 0 _ a1 a2 (by decide) (by decide)).mono ?_
  rintro e v ⟨rfl, rfl⟩
  rw [Int.add_zero, R.out]
  go_wp2_with fail
  refine (mulI64 a 1 _ a1 a2 (by decide) (by decide)).mono ?_
  rintro e v ⟨rfl, rfl⟩
  rw [Int.mul_one, R.out]
  go_wp2_with fail
  refine (mulI64 a (-1) _ a1 a2 (by decide) (by decide)).mono ?_
  rintro e v ⟨rfl, rfl⟩
  rw [show a * (-1) = -a by omega]
  go_wp2_with fail
  refine (negI64 a _ a1 a2).mono ?_
  rintro e v ⟨rfl, rfl⟩
  go_wp2_with fail
  refine (subI64 0 a _ (by decide) (by decide) a1 a2).mono ?_
  rintro e v ⟨rfl, rfl⟩
  rw [Int.zero_sub]
  go_wp2_with fail
  refine (negI64 a _ a1 a2).mono ?_
  rintro e v ⟨rfl, rfl⟩
  go_wp2_with fail
  refine (absI64 a _ a1 a2).mono ?_
  rintro e v ⟨rfl, rfl⟩
  go_wp2_with fail
  refine (addI64 a c _ a1 a2 c1 c2).mono ?_
  rintro e v ⟨rfl, rfl⟩
  go_wp2_with fail
  refine (addI64 b c _ b1 b2 c1 c2).mono ?_
  rintro e v ⟨rfl, rfl⟩
  go_wp2_with fail
  refine (subI64 a c _ a1 a2 c1 c2).mono ?_
  rintro e v ⟨rfl, rfl⟩
  go_wp2_with fail
  refine (subI64 b c _ b1 b2 c1 c2).mono ?_
  rintro e v ⟨rfl, rfl⟩
  go_wp2_with fail
  refine (subI64 c a _ c1 c2 a1 a2).mono ?_
  rintro e v ⟨rfl, rfl⟩
  go_wp2_with fail
  refine (subI64 c b _ c1 c2 b1 b2).mono ?_
  rintro e v ⟨rfl, rfl⟩
  go_wp2_with fail
  refine (toI16I64 a _ a1 a2).mono ?_
  rintro e v ⟨rfl, rfl⟩
  go_wp2_with fail
  refine (toI16I64 b _ b1 b2).mono ?_
  rintro e v ⟨rfl, rfl⟩
  go_wp2_with fail
  refine (mulI64 a c _ a1 a2 c1 c2).mono ?_
  rintro e v ⟨rfl, rfl⟩
  go_wp2_with fail
  refine (mulI64 b c _ b1 b2 c1 c2).mono ?_
  rintro e v ⟨rfl, rfl⟩
  go_wp2_with fail
  refine (addI64 (wrap32 a) (wrap32 b) _ (by omega) (by omega) (by omega) (by omega)).mono ?_
  rintro e v ⟨rfl, rfl⟩
  rw [R1.out]
  go_wp2_with fail
  refine (subI64 (wrap32 a) (wrap32 b) _ (by omega) (by omega) (by omega) (by omega)).mono ?_
  rintro e v ⟨rfl, rfl⟩
  rw [R2.out]
  go_wp2_with fail
  refine (mulI64 (wrap32 a) (wrap32 b) _ (by omega) (by omega) (by omega) (by omega)).mono ?_
  rintro e v ⟨rfl, rfl⟩
  rw [R3.out]
  go_wp2_with fail
  refine (clampI64 c a b _).mono ?_
  rintro e v ⟨rfl, rfl⟩
  rw [R4.out]
  go_wp2
  go_ret
  exact ⟨rfl, up⟩
set_option maxHeartbeats 4000000 in
set_option maxRecDepth 100000 in
theorem walk011 (a b c : Int) (a1 : -9223372036854775808 ≤ a) (a2 : a ≤ 9223372036854775807) (b1 : -9223372036854775808 ≤ b) (b2 : b ≤ 9223372036854775807) (c1 : -9223372036854775808 ≤ c) (c2 : c ≤ 9223372036854775807) (w : World) (h : a ≤ b) (hc : c < 0) (hm : a ≤ c) (hn : b < c) :
    Calls Try.prog 6 #[.int .i64 a, .int .i64 b, .int .i64 c] w fun e w' => e = .returned (.bool true) ∧ Up w w' := by
  have R : Hid (cut64 a = a) := cut64_in a a1 a2
  obtain ⟨s1, s2⟩ := small a
  obtain ⟨s3, s4⟩ := small b
  obtain ⟨s5, s6⟩ := prod _ _ s1 s2 s3 s4
  have R1 : Hid (cut64 (wrap32 a + wrap32 b) = wrap32 a + wrap32 b) := cut64_in _ (by omega) (by omega)
  have R2 : Hid (cut64 (wrap32 a - wrap32 b) = wrap32 a - wrap32 b) := cut64_in _ (by omega) (by omega)
  have R3 : Hid (cut64 (wrap32 a * wrap32 b) = wrap32 a * wrap32 b) := cut64_in _ (by omega) (by omega)
  have R4 : Hid (max a (min c b) = b) := by unfold Hid; omega
  have g1 := beqSelf (cut64 (a + b))
  have g2 := beqSelf (cut64 (a * b))
  have g3 := beqSelf a
  have g4 := beqSelf (cut64 (-a))
  have g5 : 0 ≤ cut64 a.natAbs := by unfold cut64 cutI; omega
  have g6 : cut64 (a + c) ≤ cut64 (b + c) := cutUp _ _ (by omega)
  have g7 : cut64 (a - c) ≤ cut64 (b - c) := cutUp _ _ (by omega)
  have g8 : cut64 (c - b) ≤ cut64 (c - a) := cutUp _ _ (by omega)
  have g9 : cut16 a ≤ cut16 b := cutUp16 _ _ (by omega)
  have g10 : cut64 (b * c) ≤ cut64 (a * c) := cutUp _ _ (Int.mul_le_mul_of_nonpos_right (by omega) (by omega))
  have g11 := beqSelf (wrap32 a + wrap32 b)
  have g12 := beqSelf (wrap32 a - wrap32 b)
  have g13 := beqSelf (wrap32 a * wrap32 b)
  have g14 := beqSelf c
  go_enter Try.func6, Try.ntmps6
  go_wp2_with fail
  refine (works _).mono ?_
  rintro e wa ⟨rfl, up⟩
  go_wp2_with fail
  refine (addI64 a b _ a1 a2 b1 b2).mono ?_
  rintro e v ⟨rfl, rfl⟩
  go_wp2_with fail
  refine (addI64 b a _ b1 b2 a1 a2).mono ?_
  rintro e v ⟨rfl, rfl⟩
  rw [Int.add_comm b a]
  go_wp2_with fail
  refine (mulI64 a b _ a1 a2 b1 b2).mono ?_
  rintro e v ⟨rfl, rfl⟩
  go_wp2_with fail
  refine (mulI64 b a _ b1 b2 a1 a2).mono ?_
  rintro e v ⟨rfl, rfl⟩
  rw [Int.mul_comm b a]
  go_wp2_with fail
  refine (addI64 a 0 _ a1 a2 (by decide) (by decide)).mono ?_
  rintro e v ⟨rfl, rfl⟩
  rw [Int.add_zero, R.out]
  go_wp2_with fail
  refine (mulI64 a 1 _ a1 a2 (by decide) (by decide)).mono ?_
  rintro e v ⟨rfl, rfl⟩
  rw [Int.mul_one, R.out]
  go_wp2_with fail
  refine (mulI64 a (-1) _ a1 a2 (by decide) (by decide)).mono ?_
  rintro e v ⟨rfl, rfl⟩
  rw [show a * (-1) = -a by omega]
  go_wp2_with fail
  refine (negI64 a _ a1 a2).mono ?_
  rintro e v ⟨rfl, rfl⟩
  go_wp2_with fail
  refine (subI64 0 a _ (by decide) (by decide) a1 a2).mono ?_
  rintro e v ⟨rfl, rfl⟩
  rw [Int.zero_sub]
  go_wp2_with fail
  refine (negI64 a _ a1 a2).mono ?_
  rintro e v ⟨rfl, rfl⟩
  go_wp2_with fail
  refine (absI64 a _ a1 a2).mono ?_
  rintro e v ⟨rfl, rfl⟩
  go_wp2_with fail
  refine (addI64 a c _ a1 a2 c1 c2).mono ?_
  rintro e v ⟨rfl, rfl⟩
  go_wp2_with fail
  refine (addI64 b c _ b1 b2 c1 c2).mono ?_
  rintro e v ⟨rfl, rfl⟩
  go_wp2_with fail
  refine (subI64 a c _ a1 a2 c1 c2).mono ?_
  rintro e v ⟨rfl, rfl⟩
  go_wp2_with fail
  refine (subI64 b c _ b1 b2 c1 c2).mono ?_
  rintro e v ⟨rfl, rfl⟩
  go_wp2_with fail
  refine (subI64 c a _ c1 c2 a1 a2).mono ?_
  rintro e v ⟨rfl, rfl⟩
  go_wp2_with fail
  refine (subI64 c b _ c1 c2 b1 b2).mono ?_
  rintro e v ⟨rfl, rfl⟩
  go_wp2_with fail
  refine (toI16I64 a _ a1 a2).mono ?_
  rintro e v ⟨rfl, rfl⟩
  go_wp2_with fail
  refine (toI16I64 b _ b1 b2).mono ?_
  rintro e v ⟨rfl, rfl⟩
  go_wp2_with fail
  refine (mulI64 a c _ a1 a2 c1 c2).mono ?_
  rintro e v ⟨rfl, rfl⟩
  go_wp2_with fail
  refine (mulI64 b c _ b1 b2 c1 c2).mono ?_
  rintro e v ⟨rfl, rfl⟩
  go_wp2_with fail
  refine (addI64 (wrap32 a) (wrap32 b) _ (by omega) (by omega) (by omega) (by omega)).mono ?_
  rintro e v ⟨rfl, rfl⟩
  rw [R1.out]
  go_wp2_with fail
  refine (subI64 (wrap32 a) (wrap32 b) _ (by omega) (by omega) (by omega) (by omega)).mono ?_
  rintro e v ⟨rfl, rfl⟩
  rw [R2.out]
  go_wp2_with fail
  refine (mulI64 (wrap32 a) (wrap32 b) _ (by omega) (by omega) (by omega) (by omega)).mono ?_
  rintro e v ⟨rfl, rfl⟩
  rw [R3.out]
  go_wp2_with fail
  refine (clampI64 c a b _).mono ?_
  rintro e v ⟨rfl, rfl⟩
  rw [R4.out]
  go_wp2
  go_ret
  exact ⟨rfl, up⟩
set_option maxHeartbeats 4000000 in
set_option maxRecDepth 100000 in
theorem walk012 (a b c : Int) (a1 : -9223372036854775808 ≤ a) (a2 : a ≤ 9223372036854775807) (b1 : -9223372036854775808 ≤ b) (b2 : b ≤ 9223372036854775807) (c1 : -9223372036854775808 ≤ c) (c2 : c ≤ 9223372036854775807) (w : World) (h : a ≤ b) (hc : c < 0) (hm : a ≤ c) (hn : c ≤ b) :
    Calls Try.prog 6 #[.int .i64 a, .int .i64 b, .int .i64 c] w fun e w' => e = .returned (.bool true) ∧ Up w w' := by
  have R : Hid (cut64 a = a) := cut64_in a a1 a2
  obtain ⟨s1, s2⟩ := small a
  obtain ⟨s3, s4⟩ := small b
  obtain ⟨s5, s6⟩ := prod _ _ s1 s2 s3 s4
  have R1 : Hid (cut64 (wrap32 a + wrap32 b) = wrap32 a + wrap32 b) := cut64_in _ (by omega) (by omega)
  have R2 : Hid (cut64 (wrap32 a - wrap32 b) = wrap32 a - wrap32 b) := cut64_in _ (by omega) (by omega)
  have R3 : Hid (cut64 (wrap32 a * wrap32 b) = wrap32 a * wrap32 b) := cut64_in _ (by omega) (by omega)
  have R4 : Hid (max a (min c b) = c) := by unfold Hid; omega
  have g1 := beqSelf (cut64 (a + b))
  have g2 := beqSelf (cut64 (a * b))
  have g3 := beqSelf a
  have g4 := beqSelf (cut64 (-a))
  have g5 : 0 ≤ cut64 a.natAbs := by unfold cut64 cutI; omega
  have g6 : cut64 (a + c) ≤ cut64 (b + c) := cutUp _ _ (by omega)
  have g7 : cut64 (a - c) ≤ cut64 (b - c) := cutUp _ _ (by omega)
  have g8 : cut64 (c - b) ≤ cut64 (c - a) := cutUp _ _ (by omega)
  have g9 : cut16 a ≤ cut16 b := cutUp16 _ _ (by omega)
  have g10 : cut64 (b * c) ≤ cut64 (a * c) := cutUp _ _ (Int.mul_le_mul_of_nonpos_right (by omega) (by omega))
  have g11 := beqSelf (wrap32 a + wrap32 b)
  have g12 := beqSelf (wrap32 a - wrap32 b)
  have g13 := beqSelf (wrap32 a * wrap32 b)
  have g14 := beqSelf c
  go_enter Try.func6, Try.ntmps6
  go_wp2_with fail
  refine (works _).mono ?_
  rintro e wa ⟨rfl, up⟩
  go_wp2_with fail
  refine (addI64 a b _ a1 a2 b1 b2).mono ?_
  rintro e v ⟨rfl, rfl⟩
  go_wp2_with fail
  refine (addI64 b a _ b1 b2 a1 a2).mono ?_
  rintro e v ⟨rfl, rfl⟩
  rw [Int.add_comm b a]
  go_wp2_with fail
  refine (mulI64 a b _ a1 a2 b1 b2).mono ?_
  rintro e v ⟨rfl, rfl⟩
  go_wp2_with fail
  refine (mulI64 b a _ b1 b2 a1 a2).mono ?_
  rintro e v ⟨rfl, rfl⟩
  rw [Int.mul_comm b a]
  go_wp2_with fail
  refine (addI64 a 0 _ a1 a2 (by decide) (by decide)).mono ?_
  rintro e v ⟨rfl, rfl⟩
  rw [Int.add_zero, R.out]
  go_wp2_with fail
  refine (mulI64 a 1 _ a1 a2 (by decide) (by decide)).mono ?_
  rintro e v ⟨rfl, rfl⟩
  rw [Int.mul_one, R.out]
  go_wp2_with fail
  refine (mulI64 a (-1) _ a1 a2 (by decide) (by decide)).mono ?_
  rintro e v ⟨rfl, rfl⟩
  rw [show a * (-1) = -a by omega]
  go_wp2_with fail
  refine (negI64 a _ a1 a2).mono ?_
  rintro e v ⟨rfl, rfl⟩
  go_wp2_with fail
  refine (subI64 0 a _ (by decide) (by decide) a1 a2).mono ?_
  rintro e v ⟨rfl, rfl⟩
  rw [Int.zero_sub]
  go_wp2_with fail
  refine (negI64 a _ a1 a2).mono ?_
  rintro e v ⟨rfl, rfl⟩
  go_wp2_with fail
  refine (absI64 a _ a1 a2).mono ?_
  rintro e v ⟨rfl, rfl⟩
  go_wp2_with fail
  refine (addI64 a c _ a1 a2 c1 c2).mono ?_
  rintro e v ⟨rfl, rfl⟩
  go_wp2_with fail
  refine (addI64 b c _ b1 b2 c1 c2).mono ?_
  rintro e v ⟨rfl, rfl⟩
  go_wp2_with fail
  refine (subI64 a c _ a1 a2 c1 c2).mono ?_
  rintro e v ⟨rfl, rfl⟩
  go_wp2_with fail
  refine (subI64 b c _ b1 b2 c1 c2).mono ?_
  rintro e v ⟨rfl, rfl⟩
  go_wp2_with fail
  refine (subI64 c a _ c1 c2 a1 a2).mono ?_
  rintro e v ⟨rfl, rfl⟩
  go_wp2_with fail
  refine (subI64 c b _ c1 c2 b1 b2).mono ?_
  rintro e v ⟨rfl, rfl⟩
  go_wp2_with fail
  refine (toI16I64 a _ a1 a2).mono ?_
  rintro e v ⟨rfl, rfl⟩
  go_wp2_with fail
  refine (toI16I64 b _ b1 b2).mono ?_
  rintro e v ⟨rfl, rfl⟩
  go_wp2_with fail
  refine (mulI64 a c _ a1 a2 c1 c2).mono ?_
  rintro e v ⟨rfl, rfl⟩
  go_wp2_with fail
  refine (mulI64 b c _ b1 b2 c1 c2).mono ?_
  rintro e v ⟨rfl, rfl⟩
  go_wp2_with fail
  refine (addI64 (wrap32 a) (wrap32 b) _ (by omega) (by omega) (by omega) (by omega)).mono ?_
  rintro e v ⟨rfl, rfl⟩
  rw [R1.out]
  go_wp2_with fail
  refine (subI64 (wrap32 a) (wrap32 b) _ (by omega) (by omega) (by omega) (by omega)).mono ?_
  rintro e v ⟨rfl, rfl⟩
  rw [R2.out]
  go_wp2_with fail
  refine (mulI64 (wrap32 a) (wrap32 b) _ (by omega) (by omega) (by omega) (by omega)).mono ?_
  rintro e v ⟨rfl, rfl⟩
  rw [R3.out]
  go_wp2_with fail
  refine (clampI64 c a b _).mono ?_
  rintro e v ⟨rfl, rfl⟩
  rw [R4.out]
  go_wp2
  go_ret
  exact ⟨rfl, up⟩
set_option maxHeartbeats 4000000 in
set_option maxRecDepth 100000 in
theorem walk100 (a b c : Int) (a1 : -9223372036854775808 ≤ a) (a2 : a ≤ 9223372036854775807) (b1 : -9223372036854775808 ≤ b) (b2 : b ≤ 9223372036854775807) (c1 : -9223372036854775808 ≤ c) (c2 : c ≤ 9223372036854775807) (w : World) (h : b < a) (hc : 0 ≤ c) (hm : c < b) :
    Calls Try.prog 6 #[.int .i64 a, .int .i64 b, .int .i64 c] w fun e w' => e = .returned (.bool true) ∧ Up w w' := by
  have R : Hid (cut64 a = a) := cut64_in a a1 a2
  obtain ⟨s1, s2⟩ := small a
  obtain ⟨s3, s4⟩ := small b
  obtain ⟨s5, s6⟩ := prod _ _ s1 s2 s3 s4
  have R1 : Hid (cut64 (wrap32 a + wrap32 b) = wrap32 a + wrap32 b) := cut64_in _ (by omega) (by omega)
  have R2 : Hid (cut64 (wrap32 a - wrap32 b) = wrap32 a - wrap32 b) := cut64_in _ (by omega) (by omega)
  have R3 : Hid (cut64 (wrap32 a * wrap32 b) = wrap32 a * wrap32 b) := cut64_in _ (by omega) (by omega)
  have R4 : Hid (max b (min c a) = b) := by unfold Hid; omega
  have g1 := beqSelf (cut64 (a + b))
  have g2 := beqSelf (cut64 (a * b))
  have g3 := beqSelf a
  have g4 := beqSelf (cut64 (-a))
  have g5 : 0 ≤ cut64 a.natAbs := by unfold cut64 cutI; omega
  have g6 : cut64 (b + c) ≤ cut64 (a + c) := cutUp _ _ (by omega)
  have g7 : cut64 (b - c) ≤ cut64 (a - c) := cutUp _ _ (by omega)
  have g8 : cut64 (c - a) ≤ cut64 (c - b) := cutUp _ _ (by omega)
  have g9 : cut16 b ≤ cut16 a := cutUp16 _ _ (by omega)
  have g10 : cut64 (b * c) ≤ cut64 (a * c) := cutUp _ _ (Int.mul_le_mul_of_nonneg_right (by omega) hc)
  have g11 := beqSelf (wrap32 a + wrap32 b)
  have g12 := beqSelf (wrap32 a - wrap32 b)
  have g13 := beqSelf (wrap32 a * wrap32 b)
  have g14 := beqSelf c
  go_enter Try.func6, Try.ntmps6
  go_wp2_with fail
  refine (works _).mono ?_
  rintro e wa ⟨rfl, up⟩
  go_wp2_with fail
  refine (addI64 a b _ a1 a2 b1 b2).mono ?_
  rintro e v ⟨rfl, rfl⟩
  go_wp2_with fail
  refine (addI64 b a _ b1 b2 a1 a2).mono ?_
  rintro e v ⟨rfl, rfl⟩
  rw [Int.add_comm b a]
  go_wp2_with fail
  refine (mulI64 a b _ a1 a2 b1 b2).mono ?_
  rintro e v ⟨rfl, rfl⟩
  go_wp2_with fail
  refine (mulI64 b a _ b1 b2 a1 a2).mono ?_
  rintro e v ⟨rfl, rfl⟩
  rw [Int.mul_comm b a]
  go_wp2_with fail
  refine (addI64 a 0 _ a1 a2 (by decide) (by decide)).mono ?_
  rintro e v ⟨rfl, rfl⟩
  rw [Int.add_zero, R.out]
  go_wp2_with fail
  refine (mulI64 a 1 _ a1 a2 (by decide) (by decide)).mono ?_
  rintro e v ⟨rfl, rfl⟩
  rw [Int.mul_one, R.out]
  go_wp2_with fail
  refine (mulI64 a (-1) _ a1 a2 (by decide) (by decide)).mono ?_
  rintro e v ⟨rfl, rfl⟩
  rw [show a * (-1) = -a by omega]
  go_wp2_with fail
  refine (negI64 a _ a1 a2).mono ?_
  rintro e v ⟨rfl, rfl⟩
  go_wp2_with fail
  refine (subI64 0 a _ (by decide) (by decide) a1 a2).mono ?_
  rintro e v ⟨rfl, rfl⟩
  rw [Int.zero_sub]
  go_wp2_with fail
  refine (negI64 a _ a1 a2).mono ?_
  rintro e v ⟨rfl, rfl⟩
  go_wp2_with fail
  refine (absI64 a _ a1 a2).mono ?_
  rintro e v ⟨rfl, rfl⟩
  go_wp2_with fail
  refine (addI64 b c _ b1 b2 c1 c2).mono ?_
  rintro e v ⟨rfl, rfl⟩
  go_wp2_with fail
  refine (addI64 a c _ a1 a2 c1 c2).mono ?_
  rintro e v ⟨rfl, rfl⟩
  go_wp2_with fail
  refine (subI64 b c _ b1 b2 c1 c2).mono ?_
  rintro e v ⟨rfl, rfl⟩
  go_wp2_with fail
  refine (subI64 a c _ a1 a2 c1 c2).mono ?_
  rintro e v ⟨rfl, rfl⟩
  go_wp2_with fail
  refine (subI64 c b _ c1 c2 b1 b2).mono ?_
  rintro e v ⟨rfl, rfl⟩
  go_wp2_with fail
  refine (subI64 c a _ c1 c2 a1 a2).mono ?_
  rintro e v ⟨rfl, rfl⟩
  go_wp2_with fail
  refine (toI16I64 b _ b1 b2).mono ?_
  rintro e v ⟨rfl, rfl⟩
  go_wp2_with fail
  refine (toI16I64 a _ a1 a2).mono ?_
  rintro e v ⟨rfl, rfl⟩
  go_wp2_with fail
  refine (mulI64 b c _ b1 b2 c1 c2).mono ?_
  rintro e v ⟨rfl, rfl⟩
  go_wp2_with fail
  refine (mulI64 a c _ a1 a2 c1 c2).mono ?_
  rintro e v ⟨rfl, rfl⟩
  go_wp2_with fail
  refine (addI64 (wrap32 a) (wrap32 b) _ (by omega) (by omega) (by omega) (by omega)).mono ?_
  rintro e v ⟨rfl, rfl⟩
  rw [R1.out]
  go_wp2_with fail
  refine (subI64 (wrap32 a) (wrap32 b) _ (by omega) (by omega) (by omega) (by omega)).mono ?_
  rintro e v ⟨rfl, rfl⟩
  rw [R2.out]
  go_wp2_with fail
  refine (mulI64 (wrap32 a) (wrap32 b) _ (by omega) (by omega) (by omega) (by omega)).mono ?_
  rintro e v ⟨rfl, rfl⟩
  rw [R3.out]
  go_wp2_with fail
  refine (clampI64 c b a _).mono ?_
  rintro e v ⟨rfl, rfl⟩
  rw [R4.out]
  go_wp2
  go_ret
  exact ⟨rfl, up⟩
set_option maxHeartbeats 4000000 in
set_option maxRecDepth 100000 in
theorem walk101 (a b c : Int) (a1 : -9223372036854775808 ≤ a) (a2 : a ≤ 9223372036854775807) (b1 : -9223372036854775808 ≤ b) (b2 : b ≤ 9223372036854775807) (c1 : -9223372036854775808 ≤ c) (c2 : c ≤ 9223372036854775807) (w : World) (h : b < a) (hc : 0 ≤ c) (hm : b ≤ c) (hn : a < c) :
    Calls Try.prog 6 #[.int .i64 a, .int .i64 b, .int .i64 c] w fun e w' => e = .returned (.bool true) ∧ Up w w' := by
  have R : Hid (cut64 a = a) := cut64_in a a1 a2
  obtain ⟨s1, s2⟩ := small a
  obtain ⟨s3, s4⟩ := small b
  obtain ⟨s5, s6⟩ := prod _ _ s1 s2 s3 s4
  have R1 : Hid (cut64 (wrap32 a + wrap32 b) = wrap32 a + wrap32 b) := cut64_in _ (by omega) (by omega)
  have R2 : Hid (cut64 (wrap32 a - wrap32 b) = wrap32 a - wrap32 b) := cut64_in _ (by omega) (by omega)
  have R3 : Hid (cut64 (wrap32 a * wrap32 b) = wrap32 a * wrap32 b) := cut64_in _ (by omega) (by omega)
  have R4 : Hid (max b (min c a) = a) := by unfold Hid; omega
  have g1 := beqSelf (cut64 (a + b))
  have g2 := beqSelf (cut64 (a * b))
  have g3 := beqSelf a
  have g4 := beqSelf (cut64 (-a))
  have g5 : 0 ≤ cut64 a.natAbs := by unfold cut64 cutI; omega
  have g6 : cut64 (b + c) ≤ cut64 (a + c) := cutUp _ _ (by omega)
  have g7 : cut64 (b - c) ≤ cut64 (a - c) := cutUp _ _ (by omega)
  have g8 : cut64 (c - a) ≤ cut64 (c - b) := cutUp _ _ (by omega)
  have g9 : cut16 b ≤ cut16 a := cutUp16 _ _ (by omega)
  have g10 : cut64 (b * c) ≤ cut64 (a * c) := cutUp _ _ (Int.mul_le_mul_of_nonneg_right (by omega) hc)
  have g11 := beqSelf (wrap32 a + wrap32 b)
  have g12 := beqSelf (wrap32 a - wrap32 b)
  have g13 := beqSelf (wrap32 a * wrap32 b)
  have g14 := beqSelf c
  go_enter Try.func6, Try.ntmps6
  go_wp2_with fail
  refine (works _).mono ?_
  rintro e wa ⟨rfl, up⟩
  go_wp2_with fail
  refine (addI64 a b _ a1 a2 b1 b2).mono ?_
  rintro e v ⟨rfl, rfl⟩
  go_wp2_with fail
  refine (addI64 b a _ b1 b2 a1 a2).mono ?_
  rintro e v ⟨rfl, rfl⟩
  rw [Int.add_comm b a]
  go_wp2_with fail
  refine (mulI64 a b _ a1 a2 b1 b2).mono ?_
  rintro e v ⟨rfl, rfl⟩
  go_wp2_with fail
  refine (mulI64 b a _ b1 b2 a1 a2).mono ?_
  rintro e v ⟨rfl, rfl⟩
  rw [Int.mul_comm b a]
  go_wp2_with fail
  refine (addI64 a 0 _ a1 a2 (by decide) (by decide)).mono ?_
  rintro e v ⟨rfl, rfl⟩
  rw [Int.add_zero, R.out]
  go_wp2_with fail
  refine (mulI64 a 1 _ a1 a2 (by decide) (by decide)).mono ?_
  rintro e v ⟨rfl, rfl⟩
  rw [Int.mul_one, R.out]
  go_wp2_with fail
  refine (mulI64 a (-1) _ a1 a2 (by decide) (by decide)).mono ?_
  rintro e v ⟨rfl, rfl⟩
  rw [show a * (-1) = -a by omega]
  go_wp2_with fail
  refine (negI64 a _ a1 a2).mono ?_
  rintro e v ⟨rfl, rfl⟩
  go_wp2_with fail
  refine (subI64 0 a _ (by decide) (by decide) a1 a2).mono ?_
  rintro e v ⟨rfl, rfl⟩
  rw [Int.zero_sub]
  go_wp2_with fail
  refine (negI64 a _ a1 a2).mono ?_
  rintro e v ⟨rfl, rfl⟩
  go_wp2_with fail
  refine (absI64 a _ a1 a2).mono ?_
  rintro e v ⟨rfl, rfl⟩
  go_wp2_with fail
  refine (addI64 b c _ b1 b2 c1 c2).mono ?_
  rintro e v ⟨rfl, rfl⟩
  go_wp2_with fail
  refine (addI64 a c _ a1 a2 c1 c2).mono ?_
  rintro e v ⟨rfl, rfl⟩
  go_wp2_with fail
  refine (subI64 b c _ b1 b2 c1 c2).mono ?_
  rintro e v ⟨rfl, rfl⟩
  go_wp2_with fail
  refine (subI64 a c _ a1 a2 c1 c2).mono ?_
  rintro e v ⟨rfl, rfl⟩
  go_wp2_with fail
  refine (subI64 c b _ c1 c2 b1 b2).mono ?_
  rintro e v ⟨rfl, rfl⟩
  go_wp2_with fail
  refine (subI64 c a _ c1 c2 a1 a2).mono ?_
  rintro e v ⟨rfl, rfl⟩
  go_wp2_with fail
  refine (toI16I64 b _ b1 b2).mono ?_
  rintro e v ⟨rfl, rfl⟩
  go_wp2_with fail
  refine (toI16I64 a _ a1 a2).mono ?_
  rintro e v ⟨rfl, rfl⟩
  go_wp2_with fail
  refine (mulI64 b c _ b1 b2 c1 c2).mono ?_
  rintro e v ⟨rfl, rfl⟩
  go_wp2_with fail
  refine (mulI64 a c _ a1 a2 c1 c2).mono ?_
  rintro e v ⟨rfl, rfl⟩
  go_wp2_with fail
  refine (addI64 (wrap32 a) (wrap32 b) _ (by omega) (by omega) (by omega) (by omega)).mono ?_
  rintro e v ⟨rfl, rfl⟩
  rw [R1.out]
  go_wp2_with fail
  refine (subI64 (wrap32 a) (wrap32 b) _ (by omega) (by omega) (by omega) (by omega)).mono ?_
  rintro e v ⟨rfl, rfl⟩
  rw [R2.out]
  go_wp2_with fail
  refine (mulI64 (wrap32 a) (wrap32 b) _ (by omega) (by omega) (by omega) (by omega)).mono ?_
  rintro e v ⟨rfl, rfl⟩
  rw [R3.out]
  go_wp2_with fail
  refine (clampI64 c b a _).mono ?_
  rintro e v ⟨rfl, rfl⟩
  rw [R4.out]
  go_wp2
  go_ret
  exact ⟨rfl, up⟩
set_option maxHeartbeats 4000000 in
set_option maxRecDepth 100000 in
theorem walk102 (a b c : Int) (a1 : -9223372036854775808 ≤ a) (a2 : a ≤ 9223372036854775807) (b1 : -9223372036854775808 ≤ b) (b2 : b ≤ 9223372036854775807) (c1 : -9223372036854775808 ≤ c) (c2 : c ≤ 9223372036854775807) (w : World) (h : b < a) (hc : 0 ≤ c) (hm : b ≤ c) (hn : c ≤ a) :
    Calls Try.prog 6 #[.int .i64 a, .int .i64 b, .int .i64 c] w fun e w' => e = .returned (.bool true) ∧ Up w w' := by
  have R : Hid (cut64 a = a) := cut64_in a a1 a2
  obtain ⟨s1, s2⟩ := small a
  obtain ⟨s3, s4⟩ := small b
  obtain ⟨s5, s6⟩ := prod _ _ s1 s2 s3 s4
  have R1 : Hid (cut64 (wrap32 a + wrap32 b) = wrap32 a + wrap32 b) := cut64_in _ (by omega) (by omega)
  have R2 : Hid (cut64 (wrap32 a - wrap32 b) = wrap32 a - wrap32 b) := cut64_in _ (by omega) (by omega)
  have R3 : Hid (cut64 (wrap32 a * wrap32 b) = wrap32 a * wrap32 b) := cut64_in _ (by omega) (by omega)
  have R4 : Hid (max b (min c a) = c) := by unfold Hid; omega
  have g1 := beqSelf (cut64 (a + b))
  have g2 := beqSelf (cut64 (a * b))
  have g3 := beqSelf a
  have g4 := beqSelf (cut64 (-a))
  have g5 : 0 ≤ cut64 a.natAbs := by unfold cut64 cutI; omega
  have g6 : cut64 (b + c) ≤ cut64 (a + c) := cutUp _ _ (by omega)
  have g7 : cut64 (b - c) ≤ cut64 (a - c) := cutUp _ _ (by omega)
  have g8 : cut64 (c - a) ≤ cut64 (c - b) := cutUp _ _ (by omega)
  have g9 : cut16 b ≤ cut16 a := cutUp16 _ _ (by omega)
  have g10 : cut64 (b * c) ≤ cut64 (a * c) := cutUp _ _ (Int.mul_le_mul_of_nonneg_right (by omega) hc)
  have g11 := beqSelf (wrap32 a + wrap32 b)
  have g12 := beqSelf (wrap32 a - wrap32 b)
  have g13 := beqSelf (wrap32 a * wrap32 b)
  have g14 := beqSelf c
  go_enter Try.func6, Try.ntmps6
  go_wp2_with fail
  refine (works _).mono ?_
  rintro e wa ⟨rfl, up⟩
  go_wp2_with fail
  refine (addI64 a b _ a1 a2 b1 b2).mono ?_
  rintro e v ⟨rfl, rfl⟩
  go_wp2_with fail
  refine (addI64 b a _ b1 b2 a1 a2).mono ?_
  rintro e v ⟨rfl, rfl⟩
  rw [Int.add_comm b a]
  go_wp2_with fail
  refine (mulI64 a b _ a1 a2 b1 b2).mono ?_
  rintro e v ⟨rfl, rfl⟩
  go_wp2_with fail
  refine (mulI64 b a _ b1 b2 a1 a2).mono ?_
  rintro e v ⟨rfl, rfl⟩
  rw [Int.mul_comm b a]
  go_wp2_with fail
  refine (addI64 a 0 _ a1 a2 (by decide) (by decide)).mono ?_
  rintro e v ⟨rfl, rfl⟩
  rw [Int.add_zero, R.out]
  go_wp2_with fail
  refine (mulI64 a 1 _ a1 a2 (by decide) (by decide)).mono ?_
  rintro e v ⟨rfl, rfl⟩
  rw [Int.mul_one, R.out]
  go_wp2_with fail
  refine (mulI64 a (-1) _ a1 a2 (by decide) (by decide)).mono ?_
  rintro e v ⟨rfl, rfl⟩
  rw [show a * (-1) = -a by omega]
  go_wp2_with fail
  refine (negI64 a _ a1 a2).mono ?_
  rintro e v ⟨rfl, rfl⟩
  go_wp2_with fail
  refine (subI64 0 a _ (by decide) (by decide) a1 a2).mono ?_
  rintro e v ⟨rfl, rfl⟩
  rw [Int.zero_sub]
  go_wp2_with fail
  refine (negI64 a _ a1 a2).mono ?_
  rintro e v ⟨rfl, rfl⟩
  go_wp2_with fail
  refine (absI64 a _ a1 a2).mono ?_
  rintro e v ⟨rfl, rfl⟩
  go_wp2_with fail
  refine (addI64 b c _ b1 b2 c1 c2).mono ?_
  rintro e v ⟨rfl, rfl⟩
  go_wp2_with fail
  refine (addI64 a c _ a1 a2 c1 c2).mono ?_
  rintro e v ⟨rfl, rfl⟩
  go_wp2_with fail
  refine (subI64 b c _ b1 b2 c1 c2).mono ?_
  rintro e v ⟨rfl, rfl⟩
  go_wp2_with fail
  refine (subI64 a c _ a1 a2 c1 c2).mono ?_
  rintro e v ⟨rfl, rfl⟩
  go_wp2_with fail
  refine (subI64 c b _ c1 c2 b1 b2).mono ?_
  rintro e v ⟨rfl, rfl⟩
  go_wp2_with fail
  refine (subI64 c a _ c1 c2 a1 a2).mono ?_
  rintro e v ⟨rfl, rfl⟩
  go_wp2_with fail
  refine (toI16I64 b _ b1 b2).mono ?_
  rintro e v ⟨rfl, rfl⟩
  go_wp2_with fail
  refine (toI16I64 a _ a1 a2).mono ?_
  rintro e v ⟨rfl, rfl⟩
  go_wp2_with fail
  refine (mulI64 b c _ b1 b2 c1 c2).mono ?_
  rintro e v ⟨rfl, rfl⟩
  go_wp2_with fail
  refine (mulI64 a c _ a1 a2 c1 c2).mono ?_
  rintro e v ⟨rfl, rfl⟩
  go_wp2_with fail
  refine (addI64 (wrap32 a) (wrap32 b) _ (by omega) (by omega) (by omega) (by omega)).mono ?_
  rintro e v ⟨rfl, rfl⟩
  rw [R1.out]
  go_wp2_with fail
  refine (subI64 (wrap32 a) (wrap32 b) _ (by omega) (by omega) (by omega) (by omega)).mono ?_
  rintro e v ⟨rfl, rfl⟩
  rw [R2.out]
  go_wp2_with fail
  refine (mulI64 (wrap32 a) (wrap32 b) _ (by omega) (by omega) (by omega) (by omega)).mono ?_
  rintro e v ⟨rfl, rfl⟩
  rw [R3.out]
  go_wp2_with fail
  refine (clampI64 c b a _).mono ?_
  rintro e v ⟨rfl, rfl⟩
  rw [R4.out]
  go_wp2
  go_ret
  exact ⟨rfl, up⟩
set_option maxHeartbeats 4000000 in
set_option maxRecDepth 100000 in
theorem walk110 (a b c : Int) (a1 : -9223372036854775808 ≤ a) (a2 : a ≤ 9223372036854775807) (b1 : -9223372036854775808 ≤ b) (b2 : b ≤ 9223372036854775807) (c1 : -9223372036854775808 ≤ c) (c2 : c ≤ 9223372036854775807) (w : World) (h : b < a) (hc : c < 0) (hm : c < b) :
    Calls Try.prog 6 #[.int .i64 a, .int .i64 b, .int .i64 c] w fun e w' => e = .returned (.bool true) ∧ Up w w' := by
  have R : Hid (cut64 a = a) := cut64_in a a1 a2
  obtain ⟨s1, s2⟩ := small a
  obtain ⟨s3, s4⟩ := small b
  obtain ⟨s5, s6⟩ := prod _ _ s1 s2 s3 s4
  have R1 : Hid (cut64 (wrap32 a + wrap32 b) = wrap32 a + wrap32 b) := cut64_in _ (by omega) (by omega)
  have R2 : Hid (cut64 (wrap32 a - wrap32 b) = wrap32 a - wrap32 b) := cut64_in _ (by omega) (by omega)
  have R3 : Hid (cut64 (wrap32 a * wrap32 b) = wrap32 a * wrap32 b) := cut64_in _ (by omega) (by omega)
  have R4 : Hid (max b (min c a) = b) := by unfold Hid; omega
  have g1 := beqSelf (cut64 (a + b))
  have g2 := beqSelf (cut64 (a * b))
  have g3 := beqSelf a
  have g4 := beqSelf (cut64 (-a))
  have g5 : 0 ≤ cut64 a.natAbs := by unfold cut64 cutI; omega
  have g6 : cut64 (b + c) ≤ cut64 (a + c) := cutUp _ _ (by omega)
  have g7 : cut64 (b - c) ≤ cut64 (a - c) := cutUp _ _ (by omega)
  have g8 : cut64 (c - a) ≤ cut64 (c - b) := cutUp _ _ (by omega)
  have g9 : cut16 b ≤ cut16 a := cutUp16 _ _ (by omega)
  have g10 : cut64 (a * c) ≤ cut64 (b * c) := cutUp _ _ (Int.mul_le_mul_of_nonpos_right (by omega) (by omega))
  have g11 := beqSelf (wrap32 a + wrap32 b)
  have g12 := beqSelf (wrap32 a - wrap32 b)
  have g13 := beqSelf (wrap32 a * wrap32 b)
  have g14 := beqSelf c
  go_enter Try.func6, Try.ntmps6
  go_wp2_with fail
  refine (works _).mono ?_
  rintro e wa ⟨rfl, up⟩
  go_wp2_with fail
  refine (addI64 a b _ a1 a2 b1 b2).mono ?_
  rintro e v ⟨rfl, rfl⟩
  go_wp2_with fail
  refine (addI64 b a _ b1 b2 a1 a2).mono ?_
  rintro e v ⟨rfl, rfl⟩
  rw [Int.add_comm b a]
  go_wp2_with fail
  refine (mulI64 a b _ a1 a2 b1 b2).mono ?_
  rintro e v ⟨rfl, rfl⟩
  go_wp2_with fail
  refine (mulI64 b a _ b1 b2 a1 a2).mono ?_
  rintro e v ⟨rfl, rfl⟩
  rw [Int.mul_comm b a]
  go_wp2_with fail
  refine (addI64 a 0 _ a1 a2 (by decide) (by decide)).mono ?_
  rintro e v ⟨rfl, rfl⟩
  rw [Int.add_zero, R.out]
  go_wp2_with fail
  refine (mulI64 a 1 _ a1 a2 (by decide) (by decide)).mono ?_
  rintro e v ⟨rfl, rfl⟩
  rw [Int.mul_one, R.out]
  go_wp2_with fail
  refine (mulI64 a (-1) _ a1 a2 (by decide) (by decide)).mono ?_
  rintro e v ⟨rfl, rfl⟩
  rw [show a * (-1) = -a by omega]
  go_wp2_with fail
  refine (negI64 a _ a1 a2).mono ?_
  rintro e v ⟨rfl, rfl⟩
  go_wp2_with fail
  refine (subI64 0 a _ (by decide) (by decide) a1 a2).mono ?_
  rintro e v ⟨rfl, rfl⟩
  rw [Int.zero_sub]
  go_wp2_with fail
  refine (negI64 a _ a1 a2).mono ?_
  rintro e v ⟨rfl, rfl⟩
  go_wp2_with fail
  refine (absI64 a _ a1 a2).mono ?_
  rintro e v ⟨rfl, rfl⟩
  go_wp2_with fail
  refine (addI64 b c _ b1 b2 c1 c2).mono ?_
  rintro e v ⟨rfl, rfl⟩
  go_wp2_with fail
  refine (addI64 a c _ a1 a2 c1 c2).mono ?_
  rintro e v ⟨rfl, rfl⟩
  go_wp2_with fail
  refine (subI64 b c _ b1 b2 c1 c2).mono ?_
  rintro e v ⟨rfl, rfl⟩
  go_wp2_with fail
  refine (subI64 a c _ a1 a2 c1 c2).mono ?_
  rintro e v ⟨rfl, rfl⟩
  go_wp2_with fail
  refine (subI64 c b _ c1 c2 b1 b2).mono ?_
  rintro e v ⟨rfl, rfl⟩
  go_wp2_with fail
  refine (subI64 c a _ c1 c2 a1 a2).mono ?_
  rintro e v ⟨rfl, rfl⟩
  go_wp2_with fail
  refine (toI16I64 b _ b1 b2).mono ?_
  rintro e v ⟨rfl, rfl⟩
  go_wp2_with fail
  refine (toI16I64 a _ a1 a2).mono ?_
  rintro e v ⟨rfl, rfl⟩
  go_wp2_with fail
  refine (mulI64 b c _ b1 b2 c1 c2).mono ?_
  rintro e v ⟨rfl, rfl⟩
  go_wp2_with fail
  refine (mulI64 a c _ a1 a2 c1 c2).mono ?_
  rintro e v ⟨rfl, rfl⟩
  go_wp2_with fail
  refine (addI64 (wrap32 a) (wrap32 b) _ (by omega) (by omega) (by omega) (by omega)).mono ?_
  rintro e v ⟨rfl, rfl⟩
  rw [R1.out]
  go_wp2_with fail
  refine (subI64 (wrap32 a) (wrap32 b) _ (by omega) (by omega) (by omega) (by omega)).mono ?_
  rintro e v ⟨rfl, rfl⟩
  rw [R2.out]
  go_wp2_with fail
  refine (mulI64 (wrap32 a) (wrap32 b) _ (by omega) (by omega) (by omega) (by omega)).mono ?_
  rintro e v ⟨rfl, rfl⟩
  rw [R3.out]
  go_wp2_with fail
  refine (clampI64 c b a _).mono ?_
  rintro e v ⟨rfl, rfl⟩
  rw [R4.out]
  go_wp2
  go_ret
  exact ⟨rfl, up⟩
set_option maxHeartbeats 4000000 in
set_option maxRecDepth 100000 in
theorem walk111 (a b c : Int) (a1 : -9223372036854775808 ≤ a) (a2 : a ≤ 9223372036854775807) (b1 : -9223372036854775808 ≤ b) (b2 : b ≤ 9223372036854775807) (c1 : -9223372036854775808 ≤ c) (c2 : c ≤ 9223372036854775807) (w : World) (h : b < a) (hc : c < 0) (hm : b ≤ c) (hn : a < c) :
    Calls Try.prog 6 #[.int .i64 a, .int .i64 b, .int .i64 c] w fun e w' => e = .returned (.bool true) ∧ Up w w' := by
  have R : Hid (cut64 a = a) := cut64_in a a1 a2
  obtain ⟨s1, s2⟩ := small a
  obtain ⟨s3, s4⟩ := small b
  obtain ⟨s5, s6⟩ := prod _ _ s1 s2 s3 s4
  have R1 : Hid (cut64 (wrap32 a + wrap32 b) = wrap32 a + wrap32 b) := cut64_in _ (by omega) (by omega)
  have R2 : Hid (cut64 (wrap32 a - wrap32 b) = wrap32 a - wrap32 b) := cut64_in _ (by omega) (by omega)
  have R3 : Hid (cut64 (wrap32 a * wrap32 b) = wrap32 a * wrap32 b) := cut64_in _ (by omega) (by omega)
  have R4 : Hid (max b (min c a) = a) := by unfold Hid; omega
  have g1 := beqSelf (cut64 (a + b))
  have g2 := beqSelf (cut64 (a * b))
  have g3 := beqSelf a
  have g4 := beqSelf (cut64 (-a))
  have g5 : 0 ≤ cut64 a.natAbs := by unfold cut64 cutI; omega
  have g6 : cut64 (b + c) ≤ cut64 (a + c) := cutUp _ _ (by omega)
  have g7 : cut64 (b - c) ≤ cut64 (a - c) := cutUp _ _ (by omega)
  have g8 : cut64 (c - a) ≤ cut64 (c - b) := cutUp _ _ (by omega)
  have g9 : cut16 b ≤ cut16 a := cutUp16 _ _ (by omega)
  have g10 : cut64 (a * c) ≤ cut64 (b * c) := cutUp _ _ (Int.mul_le_mul_of_nonpos_right (by omega) (by omega))
  have g11 := beqSelf (wrap32 a + wrap32 b)
  have g12 := beqSelf (wrap32 a - wrap32 b)
  have g13 := beqSelf (wrap32 a * wrap32 b)
  have g14 := beqSelf c
  go_enter Try.func6, Try.ntmps6
  go_wp2_with fail
  refine (works _).mono ?_
  rintro e wa ⟨rfl, up⟩
  go_wp2_with fail
  refine (addI64 a b _ a1 a2 b1 b2).mono ?_
  rintro e v ⟨rfl, rfl⟩
  go_wp2_with fail
  refine (addI64 b a _ b1 b2 a1 a2).mono ?_
  rintro e v ⟨rfl, rfl⟩
  rw [Int.add_comm b a]
  go_wp2_with fail
  refine (mulI64 a b _ a1 a2 b1 b2).mono ?_
  rintro e v ⟨rfl, rfl⟩
  go_wp2_with fail
  refine (mulI64 b a _ b1 b2 a1 a2).mono ?_
  rintro e v ⟨rfl, rfl⟩
  rw [Int.mul_comm b a]
  go_wp2_with fail
  refine (addI64 a 0 _ a1 a2 (by decide) (by decide)).mono ?_
  rintro e v ⟨rfl, rfl⟩
  rw [Int.add_zero, R.out]
  go_wp2_with fail
  refine (mulI64 a 1 _ a1 a2 (by decide) (by decide)).mono ?_
  rintro e v ⟨rfl, rfl⟩
  rw [Int.mul_one, R.out]
  go_wp2_with fail
  refine (mulI64 a (-1) _ a1 a2 (by decide) (by decide)).mono ?_
  rintro e v ⟨rfl, rfl⟩
  rw [show a * (-1) = -a by omega]
  go_wp2_with fail
  refine (negI64 a _ a1 a2).mono ?_
  rintro e v ⟨rfl, rfl⟩
  go_wp2_with fail
  refine (subI64 0 a _ (by decide) (by decide) a1 a2).mono ?_
  rintro e v ⟨rfl, rfl⟩
  rw [Int.zero_sub]
  go_wp2_with fail
  refine (negI64 a _ a1 a2).mono ?_
  rintro e v ⟨rfl, rfl⟩
  go_wp2_with fail
  refine (absI64 a _ a1 a2).mono ?_
  rintro e v ⟨rfl, rfl⟩
  go_wp2_with fail
  refine (addI64 b c _ b1 b2 c1 c2).mono ?_
  rintro e v ⟨rfl, rfl⟩
  go_wp2_with fail
  refine (addI64 a c _ a1 a2 c1 c2).mono ?_
  rintro e v ⟨rfl, rfl⟩
  go_wp2_with fail
  refine (subI64 b c _ b1 b2 c1 c2).mono ?_
  rintro e v ⟨rfl, rfl⟩
  go_wp2_with fail
  refine (subI64 a c _ a1 a2 c1 c2).mono ?_
  rintro e v ⟨rfl, rfl⟩
  go_wp2_with fail
  refine (subI64 c b _ c1 c2 b1 b2).mono ?_
  rintro e v ⟨rfl, rfl⟩
  go_wp2_with fail
  refine (subI64 c a _ c1 c2 a1 a2).mono ?_
  rintro e v ⟨rfl, rfl⟩
  go_wp2_with fail
  refine (toI16I64 b _ b1 b2).mono ?_
  rintro e v ⟨rfl, rfl⟩
  go_wp2_with fail
  refine (toI16I64 a _ a1 a2).mono ?_
  rintro e v ⟨rfl, rfl⟩
  go_wp2_with fail
  refine (mulI64 b c _ b1 b2 c1 c2).mono ?_
  rintro e v ⟨rfl, rfl⟩
  go_wp2_with fail
  refine (mulI64 a c _ a1 a2 c1 c2).mono ?_
  rintro e v ⟨rfl, rfl⟩
  go_wp2_with fail
  refine (addI64 (wrap32 a) (wrap32 b) _ (by omega) (by omega) (by omega) (by omega)).mono ?_
  rintro e v ⟨rfl, rfl⟩
  rw [R1.out]
  go_wp2_with fail
  refine (subI64 (wrap32 a) (wrap32 b) _ (by omega) (by omega) (by omega) (by omega)).mono ?_
  rintro e v ⟨rfl, rfl⟩
  rw [R2.out]
  go_wp2_with fail
  refine (mulI64 (wrap32 a) (wrap32 b) _ (by omega) (by omega) (by omega) (by omega)).mono ?_
  rintro e v ⟨rfl, rfl⟩
  rw [R3.out]
  go_wp2_with fail
  refine (clampI64 c b a _).mono ?_
  rintro e v ⟨rfl, rfl⟩
  rw [R4.out]
  go_wp2
  go_ret
  exact ⟨rfl, up⟩
set_option maxHeartbeats 4000000 in
set_option maxRecDepth 100000 in
theorem walk112 (a b c : Int) (a1 : -9223372036854775808 ≤ a) (a2 : a ≤ 9223372036854775807) (b1 : -9223372036854775808 ≤ b) (b2 : b ≤ 9223372036854775807) (c1 : -9223372036854775808 ≤ c) (c2 : c ≤ 9223372036854775807) (w : World) (h : b < a) (hc : c < 0) (hm : b ≤ c) (hn : c ≤ a) :
    Calls Try.prog 6 #[.int .i64 a, .int .i64 b, .int .i64 c] w fun e w' => e = .returned (.bool true) ∧ Up w w' := by
  have R : Hid (cut64 a = a) := cut64_in a a1 a2
  obtain ⟨s1, s2⟩ := small a
  obtain ⟨s3, s4⟩ := small b
  obtain ⟨s5, s6⟩ := prod _ _ s1 s2 s3 s4
  have R1 : Hid (cut64 (wrap32 a + wrap32 b) = wrap32 a + wrap32 b) := cut64_in _ (by omega) (by omega)
  have R2 : Hid (cut64 (wrap32 a - wrap32 b) = wrap32 a - wrap32 b) := cut64_in _ (by omega) (by omega)
  have R3 : Hid (cut64 (wrap32 a * wrap32 b) = wrap32 a * wrap32 b) := cut64_in _ (by omega) (by omega)
  have R4 : Hid (max b (min c a) = c) := by unfold Hid; omega
  have g1 := beqSelf (cut64 (a + b))
  have g2 := beqSelf (cut64 (a * b))
  have g3 := beqSelf a
  have g4 := beqSelf (cut64 (-a))
  have g5 : 0 ≤ cut64 a.natAbs := by unfold cut64 cutI; omega
  have g6 : cut64 (b + c) ≤ cut64 (a + c) := cutUp _ _ (by omega)
  have g7 : cut64 (b - c) ≤ cut64 (a - c) := cutUp _ _ (by omega)
  have g8 : cut64 (c - a) ≤ cut64 (c - b) := cutUp _ _ (by omega)
  have g9 : cut16 b ≤ cut16 a := cutUp16 _ _ (by omega)
  have g10 : cut64 (a * c) ≤ cut64 (b * c) := cutUp _ _ (Int.mul_le_mul_of_nonpos_right (by omega) (by omega))
  have g11 := beqSelf (wrap32 a + wrap32 b)
  have g12 := beqSelf (wrap32 a - wrap32 b)
  have g13 := beqSelf (wrap32 a * wrap32 b)
  have g14 := beqSelf c
  go_enter Try.func6, Try.ntmps6
  go_wp2_with fail
  refine (works _).mono ?_
  rintro e wa ⟨rfl, up⟩
  go_wp2_with fail
  refine (addI64 a b _ a1 a2 b1 b2).mono ?_
  rintro e v ⟨rfl, rfl⟩
  go_wp2_with fail
  refine (addI64 b a _ b1 b2 a1 a2).mono ?_
  rintro e v ⟨rfl, rfl⟩
  rw [Int.add_comm b a]
  go_wp2_with fail
  refine (mulI64 a b _ a1 a2 b1 b2).mono ?_
  rintro e v ⟨rfl, rfl⟩
  go_wp2_with fail
  refine (mulI64 b a _ b1 b2 a1 a2).mono ?_
  rintro e v ⟨rfl, rfl⟩
  rw [Int.mul_comm b a]
  go_wp2_with fail
  refine (addI64 a 0 _ a1 a2 (by decide) (by decide)).mono ?_
  rintro e v ⟨rfl, rfl⟩
  rw [Int.add_zero, R.out]
  go_wp2_with fail
  refine (mulI64 a 1 _ a1 a2 (by decide) (by decide)).mono ?_
  rintro e v ⟨rfl, rfl⟩
  rw [Int.mul_one, R.out]
  go_wp2_with fail
  refine (mulI64 a (-1) _ a1 a2 (by decide) (by decide)).mono ?_
  rintro e v ⟨rfl, rfl⟩
  rw [show a * (-1) = -a by omega]
  go_wp2_with fail
  refine (negI64 a _ a1 a2).mono ?_
  rintro e v ⟨rfl, rfl⟩
  go_wp2_with fail
  refine (subI64 0 a _ (by decide) (by decide) a1 a2).mono ?_
  rintro e v ⟨rfl, rfl⟩
  rw [Int.zero_sub]
  go_wp2_with fail
  refine (negI64 a _ a1 a2).mono ?_
  rintro e v ⟨rfl, rfl⟩
  go_wp2_with fail
  refine (absI64 a _ a1 a2).mono ?_
  rintro e v ⟨rfl, rfl⟩
  go_wp2_with fail
  refine (addI64 b c _ b1 b2 c1 c2).mono ?_
  rintro e v ⟨rfl, rfl⟩
  go_wp2_with fail
  refine (addI64 a c _ a1 a2 c1 c2).mono ?_
  rintro e v ⟨rfl, rfl⟩
  go_wp2_with fail
  refine (subI64 b c _ b1 b2 c1 c2).mono ?_
  rintro e v ⟨rfl, rfl⟩
  go_wp2_with fail
  refine (subI64 a c _ a1 a2 c1 c2).mono ?_
  rintro e v ⟨rfl, rfl⟩
  go_wp2_with fail
  refine (subI64 c b _ c1 c2 b1 b2).mono ?_
  rintro e v ⟨rfl, rfl⟩
  go_wp2_with fail
  refine (subI64 c a _ c1 c2 a1 a2).mono ?_
  rintro e v ⟨rfl, rfl⟩
  go_wp2_with fail
  refine (toI16I64 b _ b1 b2).mono ?_
  rintro e v ⟨rfl, rfl⟩
  go_wp2_with fail
  refine (toI16I64 a _ a1 a2).mono ?_
  rintro e v ⟨rfl, rfl⟩
  go_wp2_with fail
  refine (mulI64 b c _ b1 b2 c1 c2).mono ?_
  rintro e v ⟨rfl, rfl⟩
  go_wp2_with fail
  refine (mulI64 a c _ a1 a2 c1 c2).mono ?_
  rintro e v ⟨rfl, rfl⟩
  go_wp2_with fail
  refine (addI64 (wrap32 a) (wrap32 b) _ (by omega) (by omega) (by omega) (by omega)).mono ?_
  rintro e v ⟨rfl, rfl⟩
  rw [R1.out]
  go_wp2_with fail
  refine (subI64 (wrap32 a) (wrap32 b) _ (by omega) (by omega) (by omega) (by omega)).mono ?_
  rintro e v ⟨rfl, rfl⟩
  rw [R2.out]
  go_wp2_with fail
  refine (mulI64 (wrap32 a) (wrap32 b) _ (by omega) (by omega) (by omega) (by omega)).mono ?_
  rintro e v ⟨rfl, rfl⟩
  rw [R3.out]
  go_wp2_with fail
  refine (clampI64 c b a _).mono ?_
  rintro e v ⟨rfl, rfl⟩
  rw [R4.out]
  go_wp2
  go_ret
  exact ⟨rfl, up⟩
theorem walk (a0 : Int) (a1 : Int) (a2 : Int) (w0 : (Lit.int .i64 a0).wf = true) (w1 : (Lit.int .i64 a1).wf = true) (w2 : (Lit.int .i64 a2).wf = true) (w : World) :
    Calls Try.prog 6 #[.int .i64 a0, .int .i64 a1, .int .i64 a2] w fun e w' => e = .returned (.bool true) ∧ Up w w' := by
  obtain ⟨x1, x2⟩ := bounds_i64 w0
  obtain ⟨y1, y2⟩ := bounds_i64 w1
  obtain ⟨z1, z2⟩ := bounds_i64 w2
  by_cases h : a0 ≤ a1 <;> by_cases hc : 0 ≤ a2
  · by_cases hm : a2 < a0
    · exact walk000 a0 a1 a2 x1 x2 y1 y2 z1 z2 w h hc hm
    · by_cases hn : a1 < a2
      · exact walk001 a0 a1 a2 x1 x2 y1 y2 z1 z2 w h hc (by omega) hn
      · exact walk002 a0 a1 a2 x1 x2 y1 y2 z1 z2 w h hc (by omega) (by omega)
  · by_cases hm : a2 < a0
    · exact walk010 a0 a1 a2 x1 x2 y1 y2 z1 z2 w h (by omega) hm
    · by_cases hn : a1 < a2
      · exact walk011 a0 a1 a2 x1 x2 y1 y2 z1 z2 w h (by omega) (by omega) hn
      · exact walk012 a0 a1 a2 x1 x2 y1 y2 z1 z2 w h (by omega) (by omega) (by omega)
  · by_cases hm : a2 < a1
    · exact walk100 a0 a1 a2 x1 x2 y1 y2 z1 z2 w (by omega) hc hm
    · by_cases hn : a0 < a2
      · exact walk101 a0 a1 a2 x1 x2 y1 y2 z1 z2 w (by omega) hc (by omega) hn
      · exact walk102 a0 a1 a2 x1 x2 y1 y2 z1 z2 w (by omega) hc (by omega) (by omega)
  · by_cases hm : a2 < a1
    · exact walk110 a0 a1 a2 x1 x2 y1 y2 z1 z2 w (by omega) (by omega) hm
    · by_cases hn : a0 < a2
      · exact walk111 a0 a1 a2 x1 x2 y1 y2 z1 z2 w (by omega) (by omega) (by omega) hn
      · exact walk112 a0 a1 a2 x1 x2 y1 y2 z1 z2 w (by omega) (by omega) (by omega) (by omega)

set_option maxRecDepth 100000 in
theorem lifted (os : Os) (started : os.Started) (H : Type) (enc : TypeId × Value → H) :
    ReturnsInHanded {} Try.checked os 6 .any (Rows.satTurnsSpec.pre6 enc Try.prog Try.f6 Rows.satTurnsRow.domain false) (Rows.satTurnsSpec.post enc Try.prog Try.f6 false true false false) := by
  refine returnsInHanded_of_change (C := Try.checked) own started (by kernel_rfl) Try.func6
    (ChangeSpec.witness6 (enc := enc) (C := Try.checked) false ⟨#[], #[.int .i64 0, .int .i64 0, .int .i64 0], []⟩ 8 (by kernel_rfl) (by kernel_rfl) (by kernel_rfl) (by kernel_rfl)) ?_
  intro W base args ds gs before hval0 hW hcnd _
  have hval : ∀ (j : Nat) t v, Try.f6.params[j]? = some t → args[j]? = some v → Value.okWide Try.prog W .any base t v := hval0
  have hW' := hW
  obtain ⟨p, q, hA0, hV, rfl, hfz, hnd⟩ := hW
  have hA : DataW.TrodAll enc Try.prog W 0 (fun _ => true) true Try.f6.params.toList args.toList ds p := hA0
  rw [Try.params6] at hA hval
  obtain ⟨v0, vs0, d0, ds0, p0, q0, hargs, rfl, rfl, h0, r0⟩ := trodAll_cons hA
  obtain ⟨v1, vs1, d1, ds1, p1, q1, rfl, rfl, rfl, h1, r1⟩ := trodAll_cons r0
  obtain ⟨v2, vs2, d2, ds2, p2, q2, rfl, rfl, rfl, h2, r2⟩ := trodAll_cons r1
  obtain ⟨rfl, rfl, rfl⟩ := trodAll_nil r2
  obtain rfl : args = #[v0, v1, v2] := by cases args; simp_all
  obtain ⟨rfl, rfl⟩ := trodVars_none hV
  obtain ⟨a0, rfl, rfl, rfl, w0⟩ := open_int Try.underlying2 (hval 0 2 v0 rfl rfl) h0
  obtain ⟨a1, rfl, rfl, rfl, w1⟩ := open_int Try.underlying2 (hval 1 2 v1 rfl rfl) h1
  obtain ⟨a2, rfl, rfl, rfl, w2⟩ := open_int Try.underlying2 (hval 2 2 v2 rfl rfl) h2
  clear hA0 hval0
  simp only [List.append_nil] at hW'
  refine (walk a0 a1 a2 w0 w1 w2 W).mono fun e W' ⟨he, hg⟩ => ?_
  subst he
  exact ⟨_, rfl, _, _, _, [], _, [], hW', (trodAll_cons_mk (shut_bool Try.underlying4 _) trodAll_mk0), (trodAll_cons_mk (shut_int Try.underlying2 w0) (trodAll_cons_mk (shut_int Try.underlying2 w1) (trodAll_cons_mk (shut_int Try.underlying2 w2) trodAll_mk0))), rfl, Below.frame hg _, fun h => by cases h⟩

theorem over : Rows.satTurnsRow.holds Try.pinned (OpenSpec.ofChange Rows.satTurnsSpec) :=
  OpenClaim.holds_of_wide 6 Try.f6 rfl rfl rfl rfl rfl rfl rfl ⟨rfl, rfl, rfl, rfl, rfl⟩ rfl rfl rfl rfl rfl (by kernel_rfl) Try.func6 (by kernel_rfl)
    (of_decide_eq_true (by kernel_rfl)) (by unfold Func.isWrapper; first | (rw [if_pos (by decide +kernel)]; kernel_rfl) | (rw [if_neg (by decide +kernel)]; exact ⟨rfl, rfl⟩))
    (fun os started H enc _ => lifted os started H enc)

theorem proved : Rows.SatTurnsSaid :=
  over
end Go.Proofs.Ythanbiblikkimab.satTurns
namespace Go.Proofs.Ythanbiblikkimab
theorem satTurns_holds : Rows.SatTurnsSaid := satTurns.proved
#print axioms satTurns_holds
end Go.Proofs.Ythanbiblikkimab
