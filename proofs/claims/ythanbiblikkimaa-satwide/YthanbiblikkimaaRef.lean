/-
  What each function of the document's answer (package tableauref01) answers, as contracts over the seat's program: the whole number cut to the ends that are told; nothing that was there is written.
-/
import Derived.Test.YthanbiblikkimaaSum
namespace Go.Proofs.Ythanbiblikkimaa
open Go.RowKit

def hiAt (k : Nat) : Int := 9223372036854775807 / 2 ^ k
theorem hiAt_0 : hiAt 0 = 9223372036854775807 := by decide
theorem hiAt_succ (k : Nat) : hiAt (k + 1) = hiAt k / 2 := by
  unfold hiAt
  rw [Int.pow_succ, Int.ediv_ediv_of_nonneg (Int.le_of_lt (Int.pow_pos (by decide)))]
theorem hiAt_bd (k : Nat) : 0 ≤ hiAt k ∧ hiAt k ≤ 9223372036854775807 := by
  induction k with
  | zero => rw [hiAt_0]; decide
  | succ k ih => rw [hiAt_succ]; omega
set_option maxHeartbeats 400000 in
theorem refOf (n : Nat) (w : World) (h1 : n ≤ 64) :
    Calls Try.prog 10 #[.int .i64 n] w fun e w' => e = .returned (.agg #[.int .i64 (-hiAt (64 - n) - 1), .int .i64 (hiAt (64 - n))]) ∧ Up w w' := by
  go_enter Try.func10, Try.ntmps10
  go_wp2
  go_loop [3, 4] (fun t i => ∃ k : Nat, n + k ≤ 64 ∧ i = .int .i64 ((n + k : Nat) : Int) ∧ t = .int .i64 (hiAt k)) (fun _ i => 64 - (intOf i).toNat)
  case atStart => exact ⟨0, by omega, rfl, by rw [hiAt_0]⟩
  case round =>
    obtain ⟨k, hk, rfl, rfl⟩ := hrel
    obtain ⟨g1, g2⟩ := hiAt_bd k
    have HS : Hid (hiAt (k + 1) = hiAt k / 2) := hiAt_succ k
    by_cases hlt : n + k < 64
    · go_wp2
      go_round
      case rel => exact ⟨k + 1, by omega, by go_num, by rw [HS.out]⟩
      case measure => simp [intOf]; omega
    · obtain rfl : k = 64 - n := by omega
      clear HS
      go_wp2
      exact bodyPost_ret (v := .agg #[.int .i64 (-hiAt (64 - n) - 1), .int .i64 (hiAt (64 - n))]) (by simp [results, Try.results10, go_sem]) rfl ⟨rfl, (Up.refl _).alloc _⟩

theorem refOf8 (w : World) : Calls Try.prog 10 #[.int .i64 8] w fun e w' => e = .returned (.agg #[.int .i64 (-128), .int .i64 127]) ∧ Up w w' := by
  have h := refOf 8 w (by decide)
  rw [show (-hiAt (64 - 8) - 1) = -128 by decide, show hiAt (64 - 8) = 127 by decide] at h
  exact h

theorem refOf16 (w : World) : Calls Try.prog 10 #[.int .i64 16] w fun e w' => e = .returned (.agg #[.int .i64 (-32768), .int .i64 32767]) ∧ Up w w' := by
  have h := refOf 16 w (by decide)
  rw [show (-hiAt (64 - 16) - 1) = -32768 by decide, show hiAt (64 - 16) = 32767 by decide] at h
  exact h

theorem refOf32 (w : World) : Calls Try.prog 10 #[.int .i64 32] w fun e w' => e = .returned (.agg #[.int .i64 (-2147483648), .int .i64 2147483647]) ∧ Up w w' := by
  have h := refOf 32 w (by decide)
  rw [show (-hiAt (64 - 32) - 1) = -2147483648 by decide, show hiAt (64 - 32) = 2147483647 by decide] at h
  exact h

theorem refOf64 (w : World) : Calls Try.prog 10 #[.int .i64 64] w fun e w' => e = .returned (.agg #[.int .i64 (-9223372036854775808), .int .i64 9223372036854775807]) ∧ Up w w' := by
  have h := refOf 64 w (by decide)
  rw [show (-hiAt (64 - 64) - 1) = -9223372036854775808 by decide, show hiAt (64 - 64) = 9223372036854775807 by decide] at h
  exact h


set_option maxHeartbeats 400000 in
theorem refAdd (a b lo hi : Int) (w : World) (h1 : 0 < hi) (h2 : hi ≤ 9223372036854775807) (l1 : lo ≤ -hi - 1) (l2 : -hi - 1 ≤ lo) (a1 : lo ≤ a) (a2 : a ≤ hi) (b1 : lo ≤ b) (b2 : b ≤ hi) :
    Calls Try.prog 16 #[.int .i64 a, .int .i64 b, .agg #[.int .i64 lo, .int .i64 hi]] w fun e w' => e = .returned (.int .i64 (cutI lo hi (a + b))) ∧ Up w w' := by
  go_enter Try.func16, Try.ntmps16
  go_wp2
  all_goals (go_ret; refine ⟨ret_int ?_, (Up.refl _).alloc _⟩)
  all_goals ((try simp only [wrap_i64] at *); unfold cutI; omega)


set_option maxHeartbeats 400000 in
theorem refSub (a b lo hi : Int) (w : World) (h1 : 0 < hi) (h2 : hi ≤ 9223372036854775807) (l1 : lo ≤ -hi - 1) (l2 : -hi - 1 ≤ lo) (a1 : lo ≤ a) (a2 : a ≤ hi) (b1 : lo ≤ b) (b2 : b ≤ hi) :
    Calls Try.prog 18 #[.int .i64 a, .int .i64 b, .agg #[.int .i64 lo, .int .i64 hi]] w fun e w' => e = .returned (.int .i64 (cutI lo hi (a - b))) ∧ Up w w' := by
  go_enter Try.func18, Try.ntmps18
  go_wp2
  all_goals (go_ret; refine ⟨ret_int ?_, (Up.refl _).alloc _⟩)
  all_goals ((try simp only [wrap_i64] at *); unfold cutI; omega)


set_option maxHeartbeats 400000 in
theorem refsize (a : Int) (w : World) (a1 : -9223372036854775808 ≤ a) (a2 : a ≤ 9223372036854775807) :
    Calls Try.prog 70 #[.int .i64 a] w fun e w' => e = .returned (.int .u64 (a.natAbs : Int)) ∧ w' = w := by
  by_cases h : a < 0
  · go_enter Try.func70, Try.ntmps70
    go_wp2
    go_ret
    exact ⟨ret_int (by omega), rfl⟩
  · go_enter Try.func70, Try.ntmps70
    go_wp2
    go_ret
    exact ⟨ret_int (by omega), rfl⟩


theorem uw (x y : Nat) (h : x ≤ 9223372036854775808) : IntKind.u64.wrap ((x : Int) / (y : Int)) = (x : Int) / (y : Int) := by
  have h1 : x / y ≤ x := Nat.div_le_self x y
  have h2 : ((x / y : Nat) : Int) = (x : Int) / (y : Int) := Int.natCast_ediv x y
  rw [← h2]
  clear h2
  generalize x / y = q at *
  exact IntWalk.u64_in _ ⟨by omega, by omega⟩
theorem mulK (a b m : Int) (hb : ¬ b = 0) (h1 : 0 < m) (h2 : m ≤ 9223372036854775808) :
    ((IntKind.u64.wrap ((m.natAbs : Int) / (b.natAbs : Int)) < (a.natAbs : Int)) → m < ((a * b).natAbs : Int)) ∧
    (((a.natAbs : Int) ≤ IntKind.u64.wrap ((m.natAbs : Int) / (b.natAbs : Int))) → ((a * b).natAbs : Int) ≤ m) := by
  rw [uw _ _ (by omega)]
  have hp : (0 : Int) < (b.natAbs : Int) := by omega
  have hc : (a.natAbs : Int) * (b.natAbs : Int) = ((a * b).natAbs : Int) := by rw [Int.natAbs_mul]; exact (Int.natCast_mul _ _).symm
  refine ⟨fun h => ?_, fun h => ?_⟩
  · have hq := Int.lt_mul_of_ediv_lt hp h
    rw [hc] at hq
    omega
  · have hq := Int.mul_le_of_le_ediv hp h
    rw [hc] at hq
    omega
theorem mulT (a b : Int) (ha : ¬ a = 0) (hb : ¬ b = 0) (h : (!(decide (a < 0) == decide (b < 0))) = true) : a * b < 0 := by
  rcases mul_sign a b ha hb with ⟨⟨p, q⟩ | ⟨p, q⟩, s⟩ | ⟨_, s⟩
  · simp [p, q] at h
  · have p' : ¬ a < 0 := by omega
    have q' : ¬ b < 0 := by omega
    simp [p', q'] at h
  · exact s
theorem mulF (a b : Int) (ha : ¬ a = 0) (hb : ¬ b = 0) (h : (!(decide (a < 0) == decide (b < 0))) = false) : 0 < a * b := by
  rcases mul_sign a b ha hb with ⟨_, s⟩ | ⟨⟨p, q⟩ | ⟨p, q⟩, s⟩
  · exact s
  · have q' : ¬ b < 0 := by omega
    simp [p, q'] at h
  · have p' : ¬ a < 0 := by omega
    simp [p', q] at h
theorem mulA (a b lo hi : Int) (h1 : 0 < hi) (h2 : hi ≤ 9223372036854775807) (l1 : lo ≤ -hi - 1) (l2 : -hi - 1 ≤ lo) (ha : ¬ a = 0) (hb : ¬ b = 0) (h : (!(decide (a < 0) == decide (b < 0))) = true) (g : IntKind.u64.wrap ((lo.natAbs : Int) / (b.natAbs : Int)) < (a.natAbs : Int)) : lo = cutI lo hi (a * b) := by
  have s := mulT a b ha hb h
  have e : lo.natAbs = (-lo).natAbs := by omega
  rw [e] at g
  have k := (mulK a b (-lo) hb (by omega) (by omega)).1 g
  unfold cutI
  generalize a * b = x at *
  omega
theorem mulB (a b lo hi : Int) (h1 : 0 < hi) (h2 : hi ≤ 9223372036854775807) (l1 : lo ≤ -hi - 1) (l2 : -hi - 1 ≤ lo) (ha : ¬ a = 0) (hb : ¬ b = 0) (h : (!(decide (a < 0) == decide (b < 0))) = true) (g : (a.natAbs : Int) ≤ IntKind.u64.wrap ((lo.natAbs : Int) / (b.natAbs : Int))) : wrap64 (a * b) = cutI lo hi (a * b) := by
  have s := mulT a b ha hb h
  have e : lo.natAbs = (-lo).natAbs := by omega
  rw [e] at g
  have k := (mulK a b (-lo) hb (by omega) (by omega)).2 g
  unfold cutI
  rw [wrap_i64]
  generalize a * b = x at *
  omega
theorem mulC (a b lo hi : Int) (h1 : 0 < hi) (h2 : hi ≤ 9223372036854775807) (l1 : lo ≤ -hi - 1) (l2 : -hi - 1 ≤ lo) (ha : ¬ a = 0) (hb : ¬ b = 0) (h : (!(decide (a < 0) == decide (b < 0))) = false) (g : IntKind.u64.wrap ((hi.natAbs : Int) / (b.natAbs : Int)) < (a.natAbs : Int)) : hi = cutI lo hi (a * b) := by
  have s := mulF a b ha hb h
  have k := (mulK a b hi hb (by omega) (by omega)).1 g
  unfold cutI
  generalize a * b = x at *
  omega
theorem mulD (a b lo hi : Int) (h1 : 0 < hi) (h2 : hi ≤ 9223372036854775807) (l1 : lo ≤ -hi - 1) (l2 : -hi - 1 ≤ lo) (ha : ¬ a = 0) (hb : ¬ b = 0) (h : (!(decide (a < 0) == decide (b < 0))) = false) (g : (a.natAbs : Int) ≤ IntKind.u64.wrap ((hi.natAbs : Int) / (b.natAbs : Int))) : wrap64 (a * b) = cutI lo hi (a * b) := by
  have s := mulF a b ha hb h
  have k := (mulK a b hi hb (by omega) (by omega)).2 g
  unfold cutI
  rw [wrap_i64]
  generalize a * b = x at *
  omega


set_option maxHeartbeats 400000 in
theorem refMul (a b lo hi : Int) (w : World) (h1 : 0 < hi) (h2 : hi ≤ 9223372036854775807) (l1 : lo ≤ -hi - 1) (l2 : -hi - 1 ≤ lo) (a1 : lo ≤ a) (a2 : a ≤ hi) (b1 : lo ≤ b) (b2 : b ≤ hi) :
    Calls Try.prog 20 #[.int .i64 a, .int .i64 b, .agg #[.int .i64 lo, .int .i64 hi]] w fun e w' => e = .returned (.int .i64 (cutI lo hi (a * b))) ∧ Up w w' := by
  by_cases ha : a = 0
  · subst ha
    have z : cutI lo hi (0 * b) = 0 := by rw [Int.zero_mul]; unfold cutI; omega
    rw [z]
    clear z
    go_enter Try.func20, Try.ntmps20
    go_wp2
    go_ret
    exact ⟨rfl, (Up.refl _).alloc _⟩
  by_cases hb : b = 0
  · subst hb
    have z : cutI lo hi (a * 0) = 0 := by rw [Int.mul_zero]; unfold cutI; omega
    rw [z]
    clear z
    go_enter Try.func20, Try.ntmps20
    go_wp2
    go_ret
    exact ⟨rfl, (Up.refl _).alloc _⟩
  have ha0 : (a == 0) = false := by simpa using ha
  have hb0 : (b == 0) = false := by simpa using hb
  go_enter Try.func20, Try.ntmps20
  go_wp2_with (go_at_call 70; refine (refsize _ _ (by omega) (by omega)).mono ?_; rintro e w' ⟨rfl, rfl⟩)
  all_goals (go_ret; refine ⟨ret_int ?_, (Up.refl _).alloc _⟩)
  all_goals first | exact mulA a b lo hi h1 h2 l1 l2 ha hb ‹_› ‹_› | exact mulC a b lo hi h1 h2 l1 l2 ha hb ‹_› ‹_› | exact mulB a b lo hi h1 h2 l1 l2 ha hb ‹_› ‹_› | exact mulD a b lo hi h1 h2 l1 l2 ha hb ‹_› ‹_›


set_option maxHeartbeats 400000 in
theorem refNeg (a lo hi : Int) (w : World) (h1 : 0 < hi) (h2 : hi ≤ 9223372036854775807) (l1 : lo ≤ -hi - 1) (l2 : -hi - 1 ≤ lo) (a1 : lo ≤ a) (a2 : a ≤ hi) :
    Calls Try.prog 22 #[.int .i64 a, .agg #[.int .i64 lo, .int .i64 hi]] w fun e w' => e = .returned (.int .i64 (cutI lo hi (-a))) ∧ Up w w' := by
  go_enter Try.func22, Try.ntmps22
  go_wp2_with fail
  refine (refSub 0 a lo hi _ h1 h2 l1 l2 (by omega) (by omega) a1 a2).mono ?_
  rintro e w' ⟨rfl, up⟩
  go_wp2_with fail
  go_ret
  exact ⟨ret_int (by first | rfl | rw [Int.zero_sub]), Up.trans ((Up.refl _).alloc _) up⟩


set_option maxHeartbeats 400000 in
theorem refAbs (a lo hi : Int) (w : World) (h1 : 0 < hi) (h2 : hi ≤ 9223372036854775807) (l1 : lo ≤ -hi - 1) (l2 : -hi - 1 ≤ lo) (a1 : lo ≤ a) (a2 : a ≤ hi) :
    Calls Try.prog 24 #[.int .i64 a, .agg #[.int .i64 lo, .int .i64 hi]] w fun e w' => e = .returned (.int .i64 (cutI lo hi a.natAbs)) ∧ Up w w' := by
  by_cases h : a < 0
  · have z : cutI lo hi a.natAbs = cutI lo hi (-a) := by rw [show (a.natAbs : Int) = -a by omega]
    rw [z]
    clear z
    go_enter Try.func24, Try.ntmps24
    go_wp2_with fail
    refine (refNeg a lo hi _ h1 h2 l1 l2 a1 a2).mono ?_
    rintro e w' ⟨rfl, up⟩
    go_wp2_with fail
    go_ret
    exact ⟨rfl, Up.trans ((Up.refl _).alloc _) up⟩
  · have z : cutI lo hi a.natAbs = a := by rw [show (a.natAbs : Int) = a by omega]; unfold cutI; omega
    rw [z]
    clear z
    go_enter Try.func24, Try.ntmps24
    go_wp2
    go_ret
    exact ⟨rfl, (Up.refl _).alloc _⟩


theorem quo_in (a b lo hi : Int) (h1 : 0 < hi) (h2 : hi ≤ 9223372036854775807) (l1 : lo ≤ -hi - 1) (l2 : -hi - 1 ≤ lo) (a1 : lo ≤ a) (a2 : a ≤ hi) (hb : ¬ b = 0) (hn : ¬ b = -1) : lo ≤ a.tdiv b ∧ a.tdiv b ≤ hi := by
  have t := tdiv_abs a b
  by_cases h : b = 1
  · subst h; rw [Int.tdiv_one]; exact ⟨a1, a2⟩
  · have h2 : 2 ≤ b.natAbs := by omega
    have h3 : a.natAbs / b.natAbs ≤ a.natAbs / 2 := Nat.div_le_div_left h2 (by omega)
    generalize a.tdiv b = q at *
    omega
def divI (lo hi a b : Int) : Int := if b = 0 then 0 else cutI lo hi (a.tdiv b)
def remI (a b : Int) : Int := if b = 0 then 0 else a.tmod b
set_option maxHeartbeats 400000 in
theorem refDiv (a b lo hi : Int) (w : World) (h1 : 0 < hi) (h2 : hi ≤ 9223372036854775807) (l1 : lo ≤ -hi - 1) (l2 : -hi - 1 ≤ lo) (a1 : lo ≤ a) (a2 : a ≤ hi) (b1 : lo ≤ b) (b2 : b ≤ hi) :
    Calls Try.prog 13 #[.int .i64 a, .int .i64 b, .agg #[.int .i64 lo, .int .i64 hi]] w fun e w' => e = .returned (.tuple #[.int .i64 (divI lo hi a b), .bool (nz b)]) ∧ Up w w' := by
  by_cases hb : b = 0
  · subst hb
    have z : divI lo hi a 0 = 0 := if_pos rfl
    rw [z, nz_no]
    clear z
    go_enter Try.func13, Try.ntmps13
    go_wp2
    go_ret2
    exact ⟨rfl, (Up.refl _).alloc _⟩
  rw [nz_yes b hb]
  by_cases hn : b = -1
  · subst hn
    have z : divI lo hi a (-1) = cutI lo hi (-a) := by unfold divI; rw [if_neg (by decide), show a.tdiv (-1) = -a by rw [Int.tdiv_neg, Int.tdiv_one]]
    rw [z]
    clear z
    go_enter Try.func13, Try.ntmps13
    go_wp2_with fail
    refine (refNeg a lo hi _ h1 h2 l1 l2 a1 a2).mono ?_
    rintro e w' ⟨rfl, up⟩
    go_wp2_with fail
    go_ret2
    exact ⟨rfl, Up.trans ((Up.refl _).alloc _) up⟩
  obtain ⟨q1, q2⟩ := quo_in a b lo hi h1 h2 l1 l2 a1 a2 hb hn
  have z : divI lo hi a b = a.tdiv b := by unfold divI; rw [if_neg hb]; unfold cutI; omega
  rw [z]
  clear z
  have hb0 : (b == 0) = false := by simpa using hb
  have hn0 : (b == -1) = false := by simpa using hn
  go_enter Try.func13, Try.ntmps13
  go_wp2
  go_ret2
  exact ⟨rfl, (Up.refl _).alloc _⟩


set_option maxHeartbeats 400000 in
theorem refRem (a b : Int) (w : World) (b1 : -9223372036854775808 ≤ b) (b2 : b ≤ 9223372036854775807) :
    Calls Try.prog 14 #[.int .i64 a, .int .i64 b] w fun e w' => e = .returned (.tuple #[.int .i64 (remI a b), .bool (nz b)]) ∧ w' = w := by
  by_cases hb : b = 0
  · subst hb
    have z : remI a 0 = 0 := if_pos rfl
    rw [z, nz_no]
    clear z
    go_enter Try.func14, Try.ntmps14
    go_wp2
    go_ret2
    exact ⟨rfl, rfl⟩
  rw [nz_yes b hb]
  by_cases hn : b = -1
  · subst hn
    have z : remI a (-1) = 0 := by unfold remI; rw [if_neg (by decide), Int.tmod_neg, Int.tmod_one]
    rw [z]
    clear z
    go_enter Try.func14, Try.ntmps14
    go_wp2
    go_ret2
    exact ⟨rfl, rfl⟩
  have z : remI a b = a.tmod b := if_neg hb
  rw [z]
  clear z
  obtain ⟨q1, q2⟩ := rem64_in a b b1 b2 hb
  have hb0 : (b == 0) = false := by simpa using hb
  have hn0 : (b == -1) = false := by simpa using hn
  go_enter Try.func14, Try.ntmps14
  go_wp2
  go_ret2
  exact ⟨rfl, rfl⟩


set_option maxHeartbeats 400000 in
theorem refClamp (a b c : Int) (w : World) :
    Calls Try.prog 26 #[.int .i64 a, .int .i64 b, .int .i64 c] w fun e w' => e = .returned (.int .i64 (max b (min a c))) ∧ w' = w := by
  go_enter Try.func26, Try.ntmps26
  go_wp2
  all_goals (go_ret; exact ⟨ret_int (by omega), rfl⟩)

end Go.Proofs.Ythanbiblikkimaa
