/-
  What each function of the document's answer (package tableauref01) answers, as contracts over the seat's program: the whole number cut to the ends that are told; nothing that was there is written.
-/
import Derived.Test.YthanbiblikkimabSum
namespace Go.Proofs.Ythanbiblikkimab
open Go.RowKit

def hiAt (k : Nat) : Int := 9223372036854775807 / 2 ^ k
theorem hiAt_0 : hiAt 0 = 9223372036854775807 := by decide
theorem hiAt_succ (k : Nat) : hiAt (k + 1) = hiAt k / 2 := by
  unfold hiAt
  rw [Int.pow_succ, Int.ediv_ediv_of_nonneg (Int.le_of_lt (Int.pow_pos (by decide)))]
theorem hiAt_bd (k : Nat) : 0 ≤ hiAt k ∧ hiAt k ≤ 9223372036854775807 := by
  induction k with
  | zero => rw [hiAt_0]; decide
  | succ k ih => rw [hiAt_succ]; omega
set_option maxHeartbeats 400000 in
theorem refOf (n : Nat) (w : World) (h1 : n ≤ 64) :
    Calls Try.prog 9 #[.int .i64 n] w fun e w' => e = .returned (.agg #[.int .i64 (-hiAt (64 - n) - 1), .int .i64 (hiAt (64 - n))]) ∧ Up w w' := by
  go_enter Try.func9, Try.ntmps9
  go_wp2
  go_loop [3, 4] (fun t i => ∃ k : Nat, n + k ≤ 64 ∧ i = .int .i64 ((n + k : Nat) : Int) ∧ t = .int .i64 (hiAt k)) (fun _ i => 64 - (intOf i).toNat)
  case atStart => exact ⟨0, by omega, rfl, by rw [hiAt_0]⟩
  case round =>
    obtain ⟨k, hk, rfl, rfl⟩ := hrel
    obtain ⟨g1, g2⟩ := hiAt_bd k
    have HS : Hid (hiAt (k + 1) = hiAt k / 2) := hiAt_succ k
    by_cases hlt : n + k < 64
    · go_wp2
      go_round
      case rel => exact ⟨k + 1, by omega, by go_num, by rw [HS.out]⟩
      case measure => simp [intOf]; omega
    · obtain rfl : k = 64 - n := by omega
      clear HS
      go_wp2
      exact bodyPost_ret (v := .agg #[.int .i64 (-hiAt (64 - n) - 1), .int .i64 (hiAt (64 - n))]) (by simp [results, Try.results9, go_sem]) rfl ⟨rfl, (Up.refl _).alloc _⟩

theorem refOf8 (w : World) : Calls Try.prog 9 #[.int .i64 8] w fun e w' => e = .returned (.agg #[.int .i64 (-128), .int .i64 127]) ∧ Up w w' := by
  have h := refOf 8 w (by decide)
  rw [show (-hiAt (64 - 8) - 1) = -128 by decide, show hiAt (64 - 8) = 127 by decide] at h
  exact h

theorem refOf16 (w : World) : Calls Try.prog 9 #[.int .i64 16] w fun e w' => e = .returned (.agg #[.int .i64 (-32768), .int .i64 32767]) ∧ Up w w' := by
  have h := refOf 16 w (by decide)
  rw [show (-hiAt (64 - 16) - 1) = -32768 by decide, show hiAt (64 - 16) = 32767 by decide] at h
  exact h

theorem refOf32 (w : World) : Calls Try.prog 9 #[.int .i64 32] w fun e w' => e = .returned (.agg #[.int .i64 (-2147483648), .int .i64 2147483647]) ∧ Up w w' := by
  have h := refOf 32 w (by decide)
  rw [show (-hiAt (64 - 32) - 1) = -2147483648 by decide, show hiAt (64 - 32) = 2147483647 by decide] at h
  exact h

theorem refOf64 (w : World) : Calls Try.prog 9 #[.int .i64 64] w fun e w' => e = .returned (.agg #[.int .i64 (-9223372036854775808), .int .i64 9223372036854775807]) ∧ Up w w' := by
  have h := refOf 64 w (by decide)
  rw [show (-hiAt (64 - 64) - 1) = -9223372036854775808 by decide, show hiAt (64 - 64) = 9223372036854775807 by decide] at h
  exact h


set_option maxHeartbeats 400000 in
theorem refCut (a lo hi : Int) (w : World)  :
    Calls Try.prog 11 #[.int .i64 a, .agg #[.int .i64 lo, .int .i64 hi]] w fun e w' => e = .returned (.int .i64 (cutI lo hi a)) ∧ Up w w' := by
  go_enter Try.func11, Try.ntmps11
  go_wp2
  all_goals (go_ret; refine ⟨ret_int ?_, (Up.refl _).alloc _⟩)
  all_goals (unfold cutI; omega)


set_option maxHeartbeats 400000 in
theorem refAdd (a b lo hi : Int) (w : World) (h1 : 0 < hi) (h2 : hi ≤ 9223372036854775807) (l1 : lo ≤ -hi - 1) (l2 : -hi - 1 ≤ lo) (a1 : lo ≤ a) (a2 : a ≤ hi) (b1 : lo ≤ b) (b2 : b ≤ hi) :
    Calls Try.prog 57 #[.int .i64 a, .int .i64 b, .agg #[.int .i64 lo, .int .i64 hi]] w fun e w' => e = .returned (.int .i64 (cutI lo hi (a + b))) ∧ Up w w' := by
  go_enter Try.func57, Try.ntmps57
  go_wp2
  all_goals (go_ret; refine ⟨ret_int ?_, (Up.refl _).alloc _⟩)
  all_goals ((try simp only [wrap_i64] at *); unfold cutI; omega)

end Go.Proofs.Ythanbiblikkimab
