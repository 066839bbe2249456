/-
  What each function of package sat answers, kind by kind, as contracts over the seat's program: the whole number cut to the kind's ends; memory stands as it stood.
-/
import Derived.Test.YthanbiblikkimabProg
import Derived.Test.YthanbiblikkimabNum
import Derived.WalkSpells
import Derived.WalkLawsBesides
import Derived.Handy
namespace Go.Proofs.Ythanbiblikkimab
open Go.RowKit


set_option maxHeartbeats 400000 in
theorem endI8 (q : Bool) (w : World) :
    Calls Try.prog 51 #[.bool q] w fun e w' => e = .returned (.int .i8 (end8V q)) ∧ w' = w := by
  have i0 : ∀ w : World, (Instr.index 77 (.agg #[.int .i64 127, .int .i64 32767, .int .i64 2147483647, .int .i64 9223372036854775807]) (.int .i64 0)).run Try.prog w = .ok (.int .i64 127) w := fun _ => by kernel_rfl
  have i1 : ∀ w : World, (Instr.index 77 (.agg #[.int .i64 127, .int .i64 32767, .int .i64 2147483647, .int .i64 9223372036854775807]) (.int .i64 1)).run Try.prog w = .ok (.int .i64 32767) w := fun _ => by kernel_rfl
  have i2 : ∀ w : World, (Instr.index 77 (.agg #[.int .i64 127, .int .i64 32767, .int .i64 2147483647, .int .i64 9223372036854775807]) (.int .i64 2)).run Try.prog w = .ok (.int .i64 2147483647) w := fun _ => by kernel_rfl
  have i3 : ∀ w : World, (Instr.index 77 (.agg #[.int .i64 127, .int .i64 32767, .int .i64 2147483647, .int .i64 9223372036854775807]) (.int .i64 3)).run Try.prog w = .ok (.int .i64 9223372036854775807) w := fun _ => by kernel_rfl
  have k0 : IntKind.i8.wrap 127 = 127 := by rw [wrap_i8]; decide
  have k1 : IntKind.i8.wrap 32767 = -1 := by rw [wrap_i8]; decide
  have k2 : IntKind.i8.wrap 2147483647 = -1 := by rw [wrap_i8]; decide
  have k3 : IntKind.i8.wrap 9223372036854775807 = -1 := by rw [wrap_i8]; decide
  cases q
  · rw [end8_f]
    go_enter Try.func51, Try.ntmps51
    go_wp2
    go_rounds 5
    go_ret
    exact ⟨rfl, rfl⟩
  · rw [end8_t]
    go_enter Try.func51, Try.ntmps51
    go_wp2
    go_rounds 5
    go_ret
    exact ⟨rfl, rfl⟩


set_option maxHeartbeats 400000 in
theorem addI8 (a b : Int) (w : World) (a1 : -128 ≤ a) (a2 : a ≤ 127) (b1 : -128 ≤ b) (b2 : b ≤ 127) :
    Calls Try.prog 37 #[.int .i8 a, .int .i8 b] w fun e w' => e = .returned (.int .i8 (cut8 (a + b))) ∧ w' = w := by
  go_enter Try.func37, Try.ntmps37
  go_wp2_with (go_at_call 51; refine (endI8 _ _).mono ?_; rintro e w' ⟨rfl, rfl⟩)
  all_goals (go_ret; refine ⟨ret_int ?_, rfl⟩)
  all_goals (simp only [wrap_i8] at *; unfold cut8 cutI; first | omega | (unfold end8V; simp [*]; omega))


set_option maxHeartbeats 400000 in
theorem subI8 (a b : Int) (w : World) (a1 : -128 ≤ a) (a2 : a ≤ 127) (b1 : -128 ≤ b) (b2 : b ≤ 127) :
    Calls Try.prog 38 #[.int .i8 a, .int .i8 b] w fun e w' => e = .returned (.int .i8 (cut8 (a - b))) ∧ w' = w := by
  go_enter Try.func38, Try.ntmps38
  go_wp2_with (go_at_call 51; refine (endI8 _ _).mono ?_; rintro e w' ⟨rfl, rfl⟩)
  all_goals (go_ret; refine ⟨ret_int ?_, rfl⟩)
  all_goals (simp only [wrap_i8] at *; unfold cut8 cutI; first | omega | (unfold end8V; simp [*]; omega))


set_option maxHeartbeats 400000 in
theorem mulI8 (a b : Int) (w : World) (a1 : -128 ≤ a) (a2 : a ≤ 127) (b1 : -128 ≤ b) (b2 : b ≤ 127) :
    Calls Try.prog 39 #[.int .i8 a, .int .i8 b] w fun e w' => e = .returned (.int .i8 (cut8 (a * b))) ∧ w' = w := by
  by_cases ha : a = 0
  · subst ha
    have z : cut8 (0 * b) = 0 := by rw [Int.zero_mul]; decide
    rw [z]
    go_enter Try.func39, Try.ntmps39
    go_wp2
    go_ret
    exact ⟨rfl, rfl⟩
  by_cases hb : b = 0
  · subst hb
    have z : cut8 (a * 0) = 0 := by rw [Int.mul_zero]; decide
    rw [z]
    go_enter Try.func39, Try.ntmps39
    go_wp2
    go_ret
    exact ⟨rfl, rfl⟩
  have ha0 : (a == 0) = false := by simpa using ha
  have hb0 : (b == 0) = false := by simpa using hb
  go_enter Try.func39, Try.ntmps39
  go_wp2_with (go_at_call 51; refine (endI8 _ _).mono ?_; rintro e w' ⟨rfl, rfl⟩)
  all_goals (go_ret; refine ⟨ret_int ?_, rfl⟩)
  all_goals first | exact mulN8 a b a1 a2 b1 b2 ha hb ‹_› | exact mulYn8 a b a1 a2 b1 b2 ha hb ‹_› ‹_› | exact mulYy8 a b a1 a2 b1 b2 ha hb ‹_› ‹_›


set_option maxHeartbeats 400000 in
theorem negI8 (a : Int) (w : World) (a1 : -128 ≤ a) (a2 : a ≤ 127) :
    Calls Try.prog 34 #[.int .i8 a] w fun e w' => e = .returned (.int .i8 (cut8 (-a))) ∧ w' = w := by
  go_enter Try.func34, Try.ntmps34
  go_wp2_with fail
  refine (subI8 0 a _ (by omega) (by omega) a1 a2).mono ?_
  rintro e w' ⟨rfl, rfl⟩
  go_wp2_with fail
  go_ret
  exact ⟨ret_int (by first | rfl | rw [Int.zero_sub]), rfl⟩


set_option maxHeartbeats 400000 in
theorem absI8 (a : Int) (w : World) (a1 : -128 ≤ a) (a2 : a ≤ 127) :
    Calls Try.prog 36 #[.int .i8 a] w fun e w' => e = .returned (.int .i8 (cut8 a.natAbs)) ∧ w' = w := by
  by_cases h : a < 0
  · have z : cut8 a.natAbs = cut8 (-a) := by rw [show (a.natAbs : Int) = -a by omega]
    rw [z]
    clear z
    go_enter Try.func36, Try.ntmps36
    go_wp2_with fail
    refine (negI8 a _ a1 a2).mono ?_
    rintro e w' ⟨rfl, rfl⟩
    go_wp2_with fail
    go_ret
    exact ⟨rfl, rfl⟩
  · have z : cut8 a.natAbs = a := by rw [show (a.natAbs : Int) = a by omega]; exact cut8_in _ a1 a2
    rw [z]
    clear z
    go_enter Try.func36, Try.ntmps36
    go_wp2
    go_ret
    exact ⟨rfl, rfl⟩


def div8VI8 (a b : Int) : Int := if b = 0 then 0 else cut8 (a.tdiv b)
set_option maxHeartbeats 400000 in
theorem divI8 (a b : Int) (w : World) (a1 : -128 ≤ a) (a2 : a ≤ 127) (b1 : -128 ≤ b) (b2 : b ≤ 127) :
    Calls Try.prog 40 #[.int .i8 a, .int .i8 b] w fun e w' => e = .returned (.tuple #[.int .i8 (div8VI8 a b), .bool (nz b)]) ∧ w' = w := by
  by_cases hb : b = 0
  · subst hb
    have z : div8VI8 a 0 = 0 := if_pos rfl
    rw [z, nz_no]
    go_enter Try.func40, Try.ntmps40
    go_wp2
    go_ret2
    exact ⟨rfl, rfl⟩
  rw [nz_yes b hb]
  by_cases hn : b = -1
  · subst hn
    have z : div8VI8 a (-1) = cut8 (-a) := by unfold div8VI8; rw [if_neg (by decide), show a.tdiv (-1) = -a by rw [Int.tdiv_neg, Int.tdiv_one]]
    rw [z]
    clear z
    go_enter Try.func40, Try.ntmps40
    go_wp2_with fail
    refine (negI8 a _ a1 a2).mono ?_
    rintro e w' ⟨rfl, rfl⟩
    go_wp2_with fail
    go_ret2
    exact ⟨rfl, rfl⟩
  have q := quo8_in a b a1 a2 hb hn
  have z : div8VI8 a b = a.tdiv b := by unfold div8VI8; rw [if_neg hb]; exact cut8_in _ q.1 q.2
  rw [z]
  clear z
  obtain ⟨q1, q2⟩ := q
  go_enter Try.func40, Try.ntmps40
  go_wp2
  go_ret2
  exact ⟨rfl, rfl⟩


def rem8VI8 (a b : Int) : Int := if b = 0 then 0 else a.tmod b
set_option maxHeartbeats 400000 in
theorem remI8 (a b : Int) (w : World) (_a1 : -128 ≤ a) (_a2 : a ≤ 127) (b1 : -128 ≤ b) (b2 : b ≤ 127) :
    Calls Try.prog 41 #[.int .i8 a, .int .i8 b] w fun e w' => e = .returned (.tuple #[.int .i8 (rem8VI8 a b), .bool (nz b)]) ∧ w' = w := by
  by_cases hb : b = 0
  · subst hb
    have z : rem8VI8 a 0 = 0 := if_pos rfl
    rw [z, nz_no]
    go_enter Try.func41, Try.ntmps41
    go_wp2
    go_ret2
    exact ⟨rfl, rfl⟩
  rw [nz_yes b hb]
  have z : rem8VI8 a b = a.tmod b := if_neg hb
  rw [z]
  clear z
  obtain ⟨q1, q2⟩ := rem8_in a b b1 b2 hb
  go_enter Try.func41, Try.ntmps41
  go_wp2
  go_ret2
  exact ⟨rfl, rfl⟩


set_option maxHeartbeats 400000 in
theorem endI16 (q : Bool) (w : World) :
    Calls Try.prog 52 #[.bool q] w fun e w' => e = .returned (.int .i16 (end16V q)) ∧ w' = w := by
  have i0 : ∀ w : World, (Instr.index 77 (.agg #[.int .i64 127, .int .i64 32767, .int .i64 2147483647, .int .i64 9223372036854775807]) (.int .i64 0)).run Try.prog w = .ok (.int .i64 127) w := fun _ => by kernel_rfl
  have i1 : ∀ w : World, (Instr.index 77 (.agg #[.int .i64 127, .int .i64 32767, .int .i64 2147483647, .int .i64 9223372036854775807]) (.int .i64 1)).run Try.prog w = .ok (.int .i64 32767) w := fun _ => by kernel_rfl
  have i2 : ∀ w : World, (Instr.index 77 (.agg #[.int .i64 127, .int .i64 32767, .int .i64 2147483647, .int .i64 9223372036854775807]) (.int .i64 2)).run Try.prog w = .ok (.int .i64 2147483647) w := fun _ => by kernel_rfl
  have i3 : ∀ w : World, (Instr.index 77 (.agg #[.int .i64 127, .int .i64 32767, .int .i64 2147483647, .int .i64 9223372036854775807]) (.int .i64 3)).run Try.prog w = .ok (.int .i64 9223372036854775807) w := fun _ => by kernel_rfl
  have k0 : IntKind.i16.wrap 127 = 127 := by rw [wrap_i16]; decide
  have k1 : IntKind.i16.wrap 32767 = 32767 := by rw [wrap_i16]; decide
  have k2 : IntKind.i16.wrap 2147483647 = -1 := by rw [wrap_i16]; decide
  have k3 : IntKind.i16.wrap 9223372036854775807 = -1 := by rw [wrap_i16]; decide
  cases q
  · rw [end16_f]
    go_enter Try.func52, Try.ntmps52
    go_wp2
    go_rounds 5
    go_ret
    exact ⟨rfl, rfl⟩
  · rw [end16_t]
    go_enter Try.func52, Try.ntmps52
    go_wp2
    go_rounds 5
    go_ret
    exact ⟨rfl, rfl⟩


set_option maxHeartbeats 400000 in
theorem mulI16 (a b : Int) (w : World) (a1 : -32768 ≤ a) (a2 : a ≤ 32767) (b1 : -32768 ≤ b) (b2 : b ≤ 32767) :
    Calls Try.prog 50 #[.int .i16 a, .int .i16 b] w fun e w' => e = .returned (.int .i16 (cut16 (a * b))) ∧ w' = w := by
  by_cases ha : a = 0
  · subst ha
    have z : cut16 (0 * b) = 0 := by rw [Int.zero_mul]; decide
    rw [z]
    go_enter Try.func50, Try.ntmps50
    go_wp2
    go_ret
    exact ⟨rfl, rfl⟩
  by_cases hb : b = 0
  · subst hb
    have z : cut16 (a * 0) = 0 := by rw [Int.mul_zero]; decide
    rw [z]
    go_enter Try.func50, Try.ntmps50
    go_wp2
    go_ret
    exact ⟨rfl, rfl⟩
  have ha0 : (a == 0) = false := by simpa using ha
  have hb0 : (b == 0) = false := by simpa using hb
  go_enter Try.func50, Try.ntmps50
  go_wp2_with (go_at_call 52; refine (endI16 _ _).mono ?_; rintro e w' ⟨rfl, rfl⟩)
  all_goals (go_ret; refine ⟨ret_int ?_, rfl⟩)
  all_goals first | exact mulN16 a b a1 a2 b1 b2 ha hb ‹_› | exact mulYn16 a b a1 a2 b1 b2 ha hb ‹_› ‹_› | exact mulYy16 a b a1 a2 b1 b2 ha hb ‹_› ‹_›


set_option maxHeartbeats 400000 in
theorem endI32 (q : Bool) (w : World) :
    Calls Try.prog 53 #[.bool q] w fun e w' => e = .returned (.int .i32 (end32V q)) ∧ w' = w := by
  have i0 : ∀ w : World, (Instr.index 77 (.agg #[.int .i64 127, .int .i64 32767, .int .i64 2147483647, .int .i64 9223372036854775807]) (.int .i64 0)).run Try.prog w = .ok (.int .i64 127) w := fun _ => by kernel_rfl
  have i1 : ∀ w : World, (Instr.index 77 (.agg #[.int .i64 127, .int .i64 32767, .int .i64 2147483647, .int .i64 9223372036854775807]) (.int .i64 1)).run Try.prog w = .ok (.int .i64 32767) w := fun _ => by kernel_rfl
  have i2 : ∀ w : World, (Instr.index 77 (.agg #[.int .i64 127, .int .i64 32767, .int .i64 2147483647, .int .i64 9223372036854775807]) (.int .i64 2)).run Try.prog w = .ok (.int .i64 2147483647) w := fun _ => by kernel_rfl
  have i3 : ∀ w : World, (Instr.index 77 (.agg #[.int .i64 127, .int .i64 32767, .int .i64 2147483647, .int .i64 9223372036854775807]) (.int .i64 3)).run Try.prog w = .ok (.int .i64 9223372036854775807) w := fun _ => by kernel_rfl
  have k0 : wrap32 127 = 127 := by rw [wrap_i32]; decide
  have k1 : wrap32 32767 = 32767 := by rw [wrap_i32]; decide
  have k2 : wrap32 2147483647 = 2147483647 := by rw [wrap_i32]; decide
  have k3 : wrap32 9223372036854775807 = -1 := by rw [wrap_i32]; decide
  cases q
  · rw [end32_f]
    go_enter Try.func53, Try.ntmps53
    go_wp2
    go_rounds 5
    go_ret
    exact ⟨rfl, rfl⟩
  · rw [end32_t]
    go_enter Try.func53, Try.ntmps53
    go_wp2
    go_rounds 5
    go_ret
    exact ⟨rfl, rfl⟩


set_option maxHeartbeats 400000 in
theorem addI32 (a b : Int) (w : World) (a1 : -2147483648 ≤ a) (a2 : a ≤ 2147483647) (b1 : -2147483648 ≤ b) (b2 : b ≤ 2147483647) :
    Calls Try.prog 58 #[.int .i32 a, .int .i32 b] w fun e w' => e = .returned (.int .i32 (cut32 (a + b))) ∧ w' = w := by
  go_enter Try.func58, Try.ntmps58
  go_wp2_with (go_at_call 53; refine (endI32 _ _).mono ?_; rintro e w' ⟨rfl, rfl⟩)
  all_goals (go_ret; refine ⟨ret_int ?_, rfl⟩)
  all_goals (simp only [wrap_i32] at *; unfold cut32 cutI; first | omega | (unfold end32V; simp [*]; omega))


set_option maxHeartbeats 400000 in
theorem endI64 (q : Bool) (w : World) :
    Calls Try.prog 54 #[.bool q] w fun e w' => e = .returned (.int .i64 (end64V q)) ∧ w' = w := by
  have i0 : ∀ w : World, (Instr.index 77 (.agg #[.int .i64 127, .int .i64 32767, .int .i64 2147483647, .int .i64 9223372036854775807]) (.int .i64 0)).run Try.prog w = .ok (.int .i64 127) w := fun _ => by kernel_rfl
  have i1 : ∀ w : World, (Instr.index 77 (.agg #[.int .i64 127, .int .i64 32767, .int .i64 2147483647, .int .i64 9223372036854775807]) (.int .i64 1)).run Try.prog w = .ok (.int .i64 32767) w := fun _ => by kernel_rfl
  have i2 : ∀ w : World, (Instr.index 77 (.agg #[.int .i64 127, .int .i64 32767, .int .i64 2147483647, .int .i64 9223372036854775807]) (.int .i64 2)).run Try.prog w = .ok (.int .i64 2147483647) w := fun _ => by kernel_rfl
  have i3 : ∀ w : World, (Instr.index 77 (.agg #[.int .i64 127, .int .i64 32767, .int .i64 2147483647, .int .i64 9223372036854775807]) (.int .i64 3)).run Try.prog w = .ok (.int .i64 9223372036854775807) w := fun _ => by kernel_rfl
  cases q
  · rw [end64_f]
    go_enter Try.func54, Try.ntmps54
    go_wp2
    go_rounds 5
    go_ret
    exact ⟨rfl, rfl⟩
  · rw [end64_t]
    go_enter Try.func54, Try.ntmps54
    go_wp2
    go_rounds 5
    go_ret
    exact ⟨rfl, rfl⟩


set_option maxHeartbeats 400000 in
theorem addI64 (a b : Int) (w : World) (a1 : -9223372036854775808 ≤ a) (a2 : a ≤ 9223372036854775807) (b1 : -9223372036854775808 ≤ b) (b2 : b ≤ 9223372036854775807) :
    Calls Try.prog 42 #[.int .i64 a, .int .i64 b] w fun e w' => e = .returned (.int .i64 (cut64 (a + b))) ∧ w' = w := by
  go_enter Try.func42, Try.ntmps42
  go_wp2_with (go_at_call 54; refine (endI64 _ _).mono ?_; rintro e w' ⟨rfl, rfl⟩)
  all_goals (go_ret; refine ⟨ret_int ?_, rfl⟩)
  all_goals (simp only [wrap_i64] at *; unfold cut64 cutI; first | omega | (unfold end64V; simp [*]; omega))


set_option maxHeartbeats 400000 in
theorem subI64 (a b : Int) (w : World) (a1 : -9223372036854775808 ≤ a) (a2 : a ≤ 9223372036854775807) (b1 : -9223372036854775808 ≤ b) (b2 : b ≤ 9223372036854775807) :
    Calls Try.prog 45 #[.int .i64 a, .int .i64 b] w fun e w' => e = .returned (.int .i64 (cut64 (a - b))) ∧ w' = w := by
  go_enter Try.func45, Try.ntmps45
  go_wp2_with (go_at_call 54; refine (endI64 _ _).mono ?_; rintro e w' ⟨rfl, rfl⟩)
  all_goals (go_ret; refine ⟨ret_int ?_, rfl⟩)
  all_goals (simp only [wrap_i64] at *; unfold cut64 cutI; first | omega | (unfold end64V; simp [*]; omega))


set_option maxHeartbeats 400000 in
theorem mulI64 (a b : Int) (w : World) (a1 : -9223372036854775808 ≤ a) (a2 : a ≤ 9223372036854775807) (b1 : -9223372036854775808 ≤ b) (b2 : b ≤ 9223372036854775807) :
    Calls Try.prog 43 #[.int .i64 a, .int .i64 b] w fun e w' => e = .returned (.int .i64 (cut64 (a * b))) ∧ w' = w := by
  by_cases ha : a = 0
  · subst ha
    have z : cut64 (0 * b) = 0 := by rw [Int.zero_mul]; decide
    rw [z]
    go_enter Try.func43, Try.ntmps43
    go_wp2
    go_ret
    exact ⟨rfl, rfl⟩
  by_cases hb : b = 0
  · subst hb
    have z : cut64 (a * 0) = 0 := by rw [Int.mul_zero]; decide
    rw [z]
    go_enter Try.func43, Try.ntmps43
    go_wp2
    go_ret
    exact ⟨rfl, rfl⟩
  have ha0 : (a == 0) = false := by simpa using ha
  have hb0 : (b == 0) = false := by simpa using hb
  go_enter Try.func43, Try.ntmps43
  go_wp2_with (go_at_call 54; refine (endI64 _ _).mono ?_; rintro e w' ⟨rfl, rfl⟩)
  all_goals (go_ret; refine ⟨ret_int ?_, rfl⟩)
  all_goals first | exact mulN64 a b a1 a2 b1 b2 ha hb ‹_› | exact mulYn64 a b a1 a2 b1 b2 ha hb ‹_› ‹_› | exact mulYy64 a b a1 a2 b1 b2 ha hb ‹_› ‹_›


set_option maxHeartbeats 400000 in
theorem negI64 (a : Int) (w : World) (a1 : -9223372036854775808 ≤ a) (a2 : a ≤ 9223372036854775807) :
    Calls Try.prog 44 #[.int .i64 a] w fun e w' => e = .returned (.int .i64 (cut64 (-a))) ∧ w' = w := by
  go_enter Try.func44, Try.ntmps44
  go_wp2_with fail
  refine (subI64 0 a _ (by omega) (by omega) a1 a2).mono ?_
  rintro e w' ⟨rfl, rfl⟩
  go_wp2_with fail
  go_ret
  exact ⟨ret_int (by first | rfl | rw [Int.zero_sub]), rfl⟩


set_option maxHeartbeats 400000 in
theorem absI64 (a : Int) (w : World) (a1 : -9223372036854775808 ≤ a) (a2 : a ≤ 9223372036854775807) :
    Calls Try.prog 46 #[.int .i64 a] w fun e w' => e = .returned (.int .i64 (cut64 a.natAbs)) ∧ w' = w := by
  by_cases h : a < 0
  · have z : cut64 a.natAbs = cut64 (-a) := by rw [show (a.natAbs : Int) = -a by omega]
    rw [z]
    clear z
    go_enter Try.func46, Try.ntmps46
    go_wp2_with fail
    refine (negI64 a _ a1 a2).mono ?_
    rintro e w' ⟨rfl, rfl⟩
    go_wp2_with fail
    go_ret
    exact ⟨rfl, rfl⟩
  · have z : cut64 a.natAbs = a := by rw [show (a.natAbs : Int) = a by omega]; exact cut64_in _ a1 a2
    rw [z]
    clear z
    go_enter Try.func46, Try.ntmps46
    go_wp2
    go_ret
    exact ⟨rfl, rfl⟩


def div64VI64 (a b : Int) : Int := if b = 0 then 0 else cut64 (a.tdiv b)
set_option maxHeartbeats 400000 in
theorem divI64 (a b : Int) (w : World) (a1 : -9223372036854775808 ≤ a) (a2 : a ≤ 9223372036854775807) (b1 : -9223372036854775808 ≤ b) (b2 : b ≤ 9223372036854775807) :
    Calls Try.prog 48 #[.int .i64 a, .int .i64 b] w fun e w' => e = .returned (.tuple #[.int .i64 (div64VI64 a b), .bool (nz b)]) ∧ w' = w := by
  by_cases hb : b = 0
  · subst hb
    have z : div64VI64 a 0 = 0 := if_pos rfl
    rw [z, nz_no]
    go_enter Try.func48, Try.ntmps48
    go_wp2
    go_ret2
    exact ⟨rfl, rfl⟩
  rw [nz_yes b hb]
  by_cases hn : b = -1
  · subst hn
    have z : div64VI64 a (-1) = cut64 (-a) := by unfold div64VI64; rw [if_neg (by decide), show a.tdiv (-1) = -a by rw [Int.tdiv_neg, Int.tdiv_one]]
    rw [z]
    clear z
    go_enter Try.func48, Try.ntmps48
    go_wp2_with fail
    refine (negI64 a _ a1 a2).mono ?_
    rintro e w' ⟨rfl, rfl⟩
    go_wp2_with fail
    go_ret2
    exact ⟨rfl, rfl⟩
  have q := quo64_in a b a1 a2 hb hn
  have z : div64VI64 a b = a.tdiv b := by unfold div64VI64; rw [if_neg hb]; exact cut64_in _ q.1 q.2
  rw [z]
  clear z
  obtain ⟨q1, q2⟩ := q
  go_enter Try.func48, Try.ntmps48
  go_wp2
  go_ret2
  exact ⟨rfl, rfl⟩


def rem64VI64 (a b : Int) : Int := if b = 0 then 0 else a.tmod b
set_option maxHeartbeats 400000 in
theorem remI64 (a b : Int) (w : World) (_a1 : -9223372036854775808 ≤ a) (_a2 : a ≤ 9223372036854775807) (b1 : -9223372036854775808 ≤ b) (b2 : b ≤ 9223372036854775807) :
    Calls Try.prog 49 #[.int .i64 a, .int .i64 b] w fun e w' => e = .returned (.tuple #[.int .i64 (rem64VI64 a b), .bool (nz b)]) ∧ w' = w := by
  by_cases hb : b = 0
  · subst hb
    have z : rem64VI64 a 0 = 0 := if_pos rfl
    rw [z, nz_no]
    go_enter Try.func49, Try.ntmps49
    go_wp2
    go_ret2
    exact ⟨rfl, rfl⟩
  rw [nz_yes b hb]
  have z : rem64VI64 a b = a.tmod b := if_neg hb
  rw [z]
  clear z
  obtain ⟨q1, q2⟩ := rem64_in a b b1 b2 hb
  go_enter Try.func49, Try.ntmps49
  go_wp2
  go_ret2
  exact ⟨rfl, rfl⟩


set_option maxHeartbeats 400000 in
theorem clampI64 (a b c : Int) (w : World) :
    Calls Try.prog 47 #[.int .i64 a, .int .i64 b, .int .i64 c] w fun e w' => e = .returned (.int .i64 (max b (min a c))) ∧ w' = w := by
  go_enter Try.func47, Try.ntmps47
  go_wp2
  all_goals (go_ret; exact ⟨ret_int (by omega), rfl⟩)


set_option maxHeartbeats 400000 in
theorem endIn (q : Bool) (w : World) :
    Calls Try.prog 55 #[.bool q] w fun e w' => e = .returned (.int .i64 (end64V q)) ∧ w' = w := by
  have i0 : ∀ w : World, (Instr.index 77 (.agg #[.int .i64 127, .int .i64 32767, .int .i64 2147483647, .int .i64 9223372036854775807]) (.int .i64 0)).run Try.prog w = .ok (.int .i64 127) w := fun _ => by kernel_rfl
  have i1 : ∀ w : World, (Instr.index 77 (.agg #[.int .i64 127, .int .i64 32767, .int .i64 2147483647, .int .i64 9223372036854775807]) (.int .i64 1)).run Try.prog w = .ok (.int .i64 32767) w := fun _ => by kernel_rfl
  have i2 : ∀ w : World, (Instr.index 77 (.agg #[.int .i64 127, .int .i64 32767, .int .i64 2147483647, .int .i64 9223372036854775807]) (.int .i64 2)).run Try.prog w = .ok (.int .i64 2147483647) w := fun _ => by kernel_rfl
  have i3 : ∀ w : World, (Instr.index 77 (.agg #[.int .i64 127, .int .i64 32767, .int .i64 2147483647, .int .i64 9223372036854775807]) (.int .i64 3)).run Try.prog w = .ok (.int .i64 9223372036854775807) w := fun _ => by kernel_rfl
  cases q
  · rw [end64_f]
    go_enter Try.func55, Try.ntmps55
    go_wp2
    go_rounds 5
    go_ret
    exact ⟨rfl, rfl⟩
  · rw [end64_t]
    go_enter Try.func55, Try.ntmps55
    go_wp2
    go_rounds 5
    go_ret
    exact ⟨rfl, rfl⟩


set_option maxHeartbeats 400000 in
theorem endOw (q : Bool) (w : World) :
    Calls Try.prog 56 #[.bool q] w fun e w' => e = .returned (.int .i16 (end16V q)) ∧ w' = w := by
  have i0 : ∀ w : World, (Instr.index 77 (.agg #[.int .i64 127, .int .i64 32767, .int .i64 2147483647, .int .i64 9223372036854775807]) (.int .i64 0)).run Try.prog w = .ok (.int .i64 127) w := fun _ => by kernel_rfl
  have i1 : ∀ w : World, (Instr.index 77 (.agg #[.int .i64 127, .int .i64 32767, .int .i64 2147483647, .int .i64 9223372036854775807]) (.int .i64 1)).run Try.prog w = .ok (.int .i64 32767) w := fun _ => by kernel_rfl
  have i2 : ∀ w : World, (Instr.index 77 (.agg #[.int .i64 127, .int .i64 32767, .int .i64 2147483647, .int .i64 9223372036854775807]) (.int .i64 2)).run Try.prog w = .ok (.int .i64 2147483647) w := fun _ => by kernel_rfl
  have i3 : ∀ w : World, (Instr.index 77 (.agg #[.int .i64 127, .int .i64 32767, .int .i64 2147483647, .int .i64 9223372036854775807]) (.int .i64 3)).run Try.prog w = .ok (.int .i64 9223372036854775807) w := fun _ => by kernel_rfl
  have k0 : IntKind.i16.wrap 127 = 127 := by rw [wrap_i16]; decide
  have k1 : IntKind.i16.wrap 32767 = 32767 := by rw [wrap_i16]; decide
  have k2 : IntKind.i16.wrap 2147483647 = -1 := by rw [wrap_i16]; decide
  have k3 : IntKind.i16.wrap 9223372036854775807 = -1 := by rw [wrap_i16]; decide
  cases q
  · rw [end16_f]
    go_enter Try.func56, Try.ntmps56
    go_wp2
    go_rounds 5
    go_ret
    exact ⟨rfl, rfl⟩
  · rw [end16_t]
    go_enter Try.func56, Try.ntmps56
    go_wp2
    go_rounds 5
    go_ret
    exact ⟨rfl, rfl⟩


set_option maxHeartbeats 400000 in
theorem toI8I64 (a : Int) (w : World) (a1 : -9223372036854775808 ≤ a) (a2 : a ≤ 9223372036854775807) :
    Calls Try.prog 10 #[.int .i64 a] w fun e w' => e = .returned (.int .i8 (cut8 a)) ∧ w' = w := by
  by_cases r : -128 ≤ a ∧ a ≤ 127
  · obtain ⟨r1, r2⟩ := r
    rw [cut8_in a r1 r2]
    go_enter Try.func10, Try.ntmps10
    go_wp2
    go_ret
    exact ⟨rfl, rfl⟩
  · have c1 : -128 ≤ IntKind.i8.wrap a ∧ IntKind.i8.wrap a ≤ 127 := by rw [wrap_i8]; omega
    obtain ⟨c1, c2⟩ := c1
    have d : (IntKind.i8.wrap a != a) = true := by rw [bne_iff_ne]; omega
    by_cases s : a < 0
    · rw [cut8_lo a (by omega), ← end8_t]
      go_enter Try.func10, Try.ntmps10
      go_wp2_with (go_at_call 51; refine (endI8 _ _).mono ?_; rintro e w' ⟨rfl, rfl⟩)
      go_ret
      exact ⟨rfl, rfl⟩
    · rw [cut8_hi a (by omega), ← end8_f]
      go_enter Try.func10, Try.ntmps10
      go_wp2_with (go_at_call 51; refine (endI8 _ _).mono ?_; rintro e w' ⟨rfl, rfl⟩)
      go_ret
      exact ⟨rfl, rfl⟩


set_option maxHeartbeats 400000 in
theorem toI16I64 (a : Int) (w : World) (a1 : -9223372036854775808 ≤ a) (a2 : a ≤ 9223372036854775807) :
    Calls Try.prog 12 #[.int .i64 a] w fun e w' => e = .returned (.int .i16 (cut16 a)) ∧ w' = w := by
  by_cases r : -32768 ≤ a ∧ a ≤ 32767
  · obtain ⟨r1, r2⟩ := r
    rw [cut16_in a r1 r2]
    go_enter Try.func12, Try.ntmps12
    go_wp2
    go_ret
    exact ⟨rfl, rfl⟩
  · have c1 : -32768 ≤ IntKind.i16.wrap a ∧ IntKind.i16.wrap a ≤ 32767 := by rw [wrap_i16]; omega
    obtain ⟨c1, c2⟩ := c1
    have d : (IntKind.i16.wrap a != a) = true := by rw [bne_iff_ne]; omega
    by_cases s : a < 0
    · rw [cut16_lo a (by omega), ← end16_t]
      go_enter Try.func12, Try.ntmps12
      go_wp2_with (go_at_call 52; refine (endI16 _ _).mono ?_; rintro e w' ⟨rfl, rfl⟩)
      go_ret
      exact ⟨rfl, rfl⟩
    · rw [cut16_hi a (by omega), ← end16_f]
      go_enter Try.func12, Try.ntmps12
      go_wp2_with (go_at_call 52; refine (endI16 _ _).mono ?_; rintro e w' ⟨rfl, rfl⟩)
      go_ret
      exact ⟨rfl, rfl⟩


set_option maxHeartbeats 400000 in
theorem toI32I64 (a : Int) (w : World) (a1 : -9223372036854775808 ≤ a) (a2 : a ≤ 9223372036854775807) :
    Calls Try.prog 13 #[.int .i64 a] w fun e w' => e = .returned (.int .i32 (cut32 a)) ∧ w' = w := by
  by_cases r : -2147483648 ≤ a ∧ a ≤ 2147483647
  · obtain ⟨r1, r2⟩ := r
    rw [cut32_in a r1 r2]
    go_enter Try.func13, Try.ntmps13
    go_wp2
    go_ret
    exact ⟨rfl, rfl⟩
  · have c1 : -2147483648 ≤ wrap32 a ∧ wrap32 a ≤ 2147483647 := by rw [wrap_i32]; omega
    obtain ⟨c1, c2⟩ := c1
    have d : (wrap32 a != a) = true := by rw [bne_iff_ne]; omega
    by_cases s : a < 0
    · rw [cut32_lo a (by omega), ← end32_t]
      go_enter Try.func13, Try.ntmps13
      go_wp2_with (go_at_call 53; refine (endI32 _ _).mono ?_; rintro e w' ⟨rfl, rfl⟩)
      go_ret
      exact ⟨rfl, rfl⟩
    · rw [cut32_hi a (by omega), ← end32_f]
      go_enter Try.func13, Try.ntmps13
      go_wp2_with (go_at_call 53; refine (endI32 _ _).mono ?_; rintro e w' ⟨rfl, rfl⟩)
      go_ret
      exact ⟨rfl, rfl⟩


set_option maxHeartbeats 400000 in
theorem toI64I64 (a : Int) (w : World) (a1 : -9223372036854775808 ≤ a) (a2 : a ≤ 9223372036854775807) :
    Calls Try.prog 14 #[.int .i64 a] w fun e w' => e = .returned (.int .i64 (cut64 a)) ∧ w' = w := by
  by_cases r : -9223372036854775808 ≤ a ∧ a ≤ 9223372036854775807
  · obtain ⟨r1, r2⟩ := r
    rw [cut64_in a r1 r2]
    go_enter Try.func14, Try.ntmps14
    go_wp2
    go_ret
    exact ⟨rfl, rfl⟩
  · exfalso; omega


set_option maxHeartbeats 400000 in
theorem toInI64 (a : Int) (w : World) (a1 : -9223372036854775808 ≤ a) (a2 : a ≤ 9223372036854775807) :
    Calls Try.prog 15 #[.int .i64 a] w fun e w' => e = .returned (.int .i64 (cut64 a)) ∧ w' = w := by
  by_cases r : -9223372036854775808 ≤ a ∧ a ≤ 9223372036854775807
  · obtain ⟨r1, r2⟩ := r
    rw [cut64_in a r1 r2]
    go_enter Try.func15, Try.ntmps15
    go_wp2
    go_ret
    exact ⟨rfl, rfl⟩
  · exfalso; omega


set_option maxHeartbeats 400000 in
theorem toOwI64 (a : Int) (w : World) (a1 : -9223372036854775808 ≤ a) (a2 : a ≤ 9223372036854775807) :
    Calls Try.prog 16 #[.int .i64 a] w fun e w' => e = .returned (.int .i16 (cut16 a)) ∧ w' = w := by
  by_cases r : -32768 ≤ a ∧ a ≤ 32767
  · obtain ⟨r1, r2⟩ := r
    rw [cut16_in a r1 r2]
    go_enter Try.func16, Try.ntmps16
    go_wp2
    go_ret
    exact ⟨rfl, rfl⟩
  · have c1 : -32768 ≤ IntKind.i16.wrap a ∧ IntKind.i16.wrap a ≤ 32767 := by rw [wrap_i16]; omega
    obtain ⟨c1, c2⟩ := c1
    have d : (IntKind.i16.wrap a != a) = true := by rw [bne_iff_ne]; omega
    by_cases s : a < 0
    · rw [cut16_lo a (by omega), ← end16_t]
      go_enter Try.func16, Try.ntmps16
      go_wp2_with (go_at_call 56; refine (endOw _ _).mono ?_; rintro e w' ⟨rfl, rfl⟩)
      go_ret
      exact ⟨rfl, rfl⟩
    · rw [cut16_hi a (by omega), ← end16_f]
      go_enter Try.func16, Try.ntmps16
      go_wp2_with (go_at_call 56; refine (endOw _ _).mono ?_; rintro e w' ⟨rfl, rfl⟩)
      go_ret
      exact ⟨rfl, rfl⟩


set_option maxHeartbeats 400000 in
theorem toI8I32 (a : Int) (w : World) (a1 : -2147483648 ≤ a) (a2 : a ≤ 2147483647) :
    Calls Try.prog 17 #[.int .i32 a] w fun e w' => e = .returned (.int .i8 (cut8 a)) ∧ w' = w := by
  by_cases r : -128 ≤ a ∧ a ≤ 127
  · obtain ⟨r1, r2⟩ := r
    rw [cut8_in a r1 r2]
    go_enter Try.func17, Try.ntmps17
    go_wp2
    go_ret
    exact ⟨rfl, rfl⟩
  · have c1 : -128 ≤ IntKind.i8.wrap a ∧ IntKind.i8.wrap a ≤ 127 := by rw [wrap_i8]; omega
    obtain ⟨c1, c2⟩ := c1
    have d : (IntKind.i8.wrap a != a) = true := by rw [bne_iff_ne]; omega
    by_cases s : a < 0
    · rw [cut8_lo a (by omega), ← end8_t]
      go_enter Try.func17, Try.ntmps17
      go_wp2_with (go_at_call 51; refine (endI8 _ _).mono ?_; rintro e w' ⟨rfl, rfl⟩)
      go_ret
      exact ⟨rfl, rfl⟩
    · rw [cut8_hi a (by omega), ← end8_f]
      go_enter Try.func17, Try.ntmps17
      go_wp2_with (go_at_call 51; refine (endI8 _ _).mono ?_; rintro e w' ⟨rfl, rfl⟩)
      go_ret
      exact ⟨rfl, rfl⟩


set_option maxHeartbeats 400000 in
theorem toOwI32 (a : Int) (w : World) (a1 : -2147483648 ≤ a) (a2 : a ≤ 2147483647) :
    Calls Try.prog 18 #[.int .i32 a] w fun e w' => e = .returned (.int .i16 (cut16 a)) ∧ w' = w := by
  by_cases r : -32768 ≤ a ∧ a ≤ 32767
  · obtain ⟨r1, r2⟩ := r
    rw [cut16_in a r1 r2]
    go_enter Try.func18, Try.ntmps18
    go_wp2
    go_ret
    exact ⟨rfl, rfl⟩
  · have c1 : -32768 ≤ IntKind.i16.wrap a ∧ IntKind.i16.wrap a ≤ 32767 := by rw [wrap_i16]; omega
    obtain ⟨c1, c2⟩ := c1
    have d : (IntKind.i16.wrap a != a) = true := by rw [bne_iff_ne]; omega
    by_cases s : a < 0
    · rw [cut16_lo a (by omega), ← end16_t]
      go_enter Try.func18, Try.ntmps18
      go_wp2_with (go_at_call 56; refine (endOw _ _).mono ?_; rintro e w' ⟨rfl, rfl⟩)
      go_ret
      exact ⟨rfl, rfl⟩
    · rw [cut16_hi a (by omega), ← end16_f]
      go_enter Try.func18, Try.ntmps18
      go_wp2_with (go_at_call 56; refine (endOw _ _).mono ?_; rintro e w' ⟨rfl, rfl⟩)
      go_ret
      exact ⟨rfl, rfl⟩


set_option maxHeartbeats 400000 in
theorem toI64I32 (a : Int) (w : World) (a1 : -2147483648 ≤ a) (a2 : a ≤ 2147483647) :
    Calls Try.prog 19 #[.int .i32 a] w fun e w' => e = .returned (.int .i64 (cut64 a)) ∧ w' = w := by
  by_cases r : -9223372036854775808 ≤ a ∧ a ≤ 9223372036854775807
  · obtain ⟨r1, r2⟩ := r
    rw [cut64_in a r1 r2]
    go_enter Try.func19, Try.ntmps19
    go_wp2
    go_ret
    exact ⟨rfl, rfl⟩
  · exfalso; omega


set_option maxHeartbeats 400000 in
theorem toInI32 (a : Int) (w : World) (a1 : -2147483648 ≤ a) (a2 : a ≤ 2147483647) :
    Calls Try.prog 20 #[.int .i32 a] w fun e w' => e = .returned (.int .i64 (cut64 a)) ∧ w' = w := by
  by_cases r : -9223372036854775808 ≤ a ∧ a ≤ 9223372036854775807
  · obtain ⟨r1, r2⟩ := r
    rw [cut64_in a r1 r2]
    go_enter Try.func20, Try.ntmps20
    go_wp2
    go_ret
    exact ⟨rfl, rfl⟩
  · exfalso; omega


set_option maxHeartbeats 400000 in
theorem toI32I32 (a : Int) (w : World) (a1 : -2147483648 ≤ a) (a2 : a ≤ 2147483647) :
    Calls Try.prog 21 #[.int .i32 a] w fun e w' => e = .returned (.int .i32 (cut32 a)) ∧ w' = w := by
  by_cases r : -2147483648 ≤ a ∧ a ≤ 2147483647
  · obtain ⟨r1, r2⟩ := r
    rw [cut32_in a r1 r2]
    go_enter Try.func21, Try.ntmps21
    go_wp2
    go_ret
    exact ⟨rfl, rfl⟩
  · exfalso; omega


set_option maxHeartbeats 400000 in
theorem toI8I16 (a : Int) (w : World) (a1 : -32768 ≤ a) (a2 : a ≤ 32767) :
    Calls Try.prog 22 #[.int .i16 a] w fun e w' => e = .returned (.int .i8 (cut8 a)) ∧ w' = w := by
  by_cases r : -128 ≤ a ∧ a ≤ 127
  · obtain ⟨r1, r2⟩ := r
    rw [cut8_in a r1 r2]
    go_enter Try.func22, Try.ntmps22
    go_wp2
    go_ret
    exact ⟨rfl, rfl⟩
  · have c1 : -128 ≤ IntKind.i8.wrap a ∧ IntKind.i8.wrap a ≤ 127 := by rw [wrap_i8]; omega
    obtain ⟨c1, c2⟩ := c1
    have d : (IntKind.i8.wrap a != a) = true := by rw [bne_iff_ne]; omega
    by_cases s : a < 0
    · rw [cut8_lo a (by omega), ← end8_t]
      go_enter Try.func22, Try.ntmps22
      go_wp2_with (go_at_call 51; refine (endI8 _ _).mono ?_; rintro e w' ⟨rfl, rfl⟩)
      go_ret
      exact ⟨rfl, rfl⟩
    · rw [cut8_hi a (by omega), ← end8_f]
      go_enter Try.func22, Try.ntmps22
      go_wp2_with (go_at_call 51; refine (endI8 _ _).mono ?_; rintro e w' ⟨rfl, rfl⟩)
      go_ret
      exact ⟨rfl, rfl⟩


set_option maxHeartbeats 400000 in
theorem toI64I16 (a : Int) (w : World) (a1 : -32768 ≤ a) (a2 : a ≤ 32767) :
    Calls Try.prog 23 #[.int .i16 a] w fun e w' => e = .returned (.int .i64 (cut64 a)) ∧ w' = w := by
  by_cases r : -9223372036854775808 ≤ a ∧ a ≤ 9223372036854775807
  · obtain ⟨r1, r2⟩ := r
    rw [cut64_in a r1 r2]
    go_enter Try.func23, Try.ntmps23
    go_wp2
    go_ret
    exact ⟨rfl, rfl⟩
  · exfalso; omega


set_option maxHeartbeats 400000 in
theorem toI32Ow (a : Int) (w : World) (a1 : -32768 ≤ a) (a2 : a ≤ 32767) :
    Calls Try.prog 24 #[.int .i16 a] w fun e w' => e = .returned (.int .i32 (cut32 a)) ∧ w' = w := by
  by_cases r : -2147483648 ≤ a ∧ a ≤ 2147483647
  · obtain ⟨r1, r2⟩ := r
    rw [cut32_in a r1 r2]
    go_enter Try.func24, Try.ntmps24
    go_wp2
    go_ret
    exact ⟨rfl, rfl⟩
  · exfalso; omega


set_option maxHeartbeats 400000 in
theorem toI8Ow (a : Int) (w : World) (a1 : -32768 ≤ a) (a2 : a ≤ 32767) :
    Calls Try.prog 25 #[.int .i16 a] w fun e w' => e = .returned (.int .i8 (cut8 a)) ∧ w' = w := by
  by_cases r : -128 ≤ a ∧ a ≤ 127
  · obtain ⟨r1, r2⟩ := r
    rw [cut8_in a r1 r2]
    go_enter Try.func25, Try.ntmps25
    go_wp2
    go_ret
    exact ⟨rfl, rfl⟩
  · have c1 : -128 ≤ IntKind.i8.wrap a ∧ IntKind.i8.wrap a ≤ 127 := by rw [wrap_i8]; omega
    obtain ⟨c1, c2⟩ := c1
    have d : (IntKind.i8.wrap a != a) = true := by rw [bne_iff_ne]; omega
    by_cases s : a < 0
    · rw [cut8_lo a (by omega), ← end8_t]
      go_enter Try.func25, Try.ntmps25
      go_wp2_with (go_at_call 51; refine (endI8 _ _).mono ?_; rintro e w' ⟨rfl, rfl⟩)
      go_ret
      exact ⟨rfl, rfl⟩
    · rw [cut8_hi a (by omega), ← end8_f]
      go_enter Try.func25, Try.ntmps25
      go_wp2_with (go_at_call 51; refine (endI8 _ _).mono ?_; rintro e w' ⟨rfl, rfl⟩)
      go_ret
      exact ⟨rfl, rfl⟩


set_option maxHeartbeats 400000 in
theorem toI16I8 (a : Int) (w : World) (a1 : -128 ≤ a) (a2 : a ≤ 127) :
    Calls Try.prog 26 #[.int .i8 a] w fun e w' => e = .returned (.int .i16 (cut16 a)) ∧ w' = w := by
  by_cases r : -32768 ≤ a ∧ a ≤ 32767
  · obtain ⟨r1, r2⟩ := r
    rw [cut16_in a r1 r2]
    go_enter Try.func26, Try.ntmps26
    go_wp2
    go_ret
    exact ⟨rfl, rfl⟩
  · exfalso; omega


set_option maxHeartbeats 400000 in
theorem toInI8 (a : Int) (w : World) (a1 : -128 ≤ a) (a2 : a ≤ 127) :
    Calls Try.prog 27 #[.int .i8 a] w fun e w' => e = .returned (.int .i64 (cut64 a)) ∧ w' = w := by
  by_cases r : -9223372036854775808 ≤ a ∧ a ≤ 9223372036854775807
  · obtain ⟨r1, r2⟩ := r
    rw [cut64_in a r1 r2]
    go_enter Try.func27, Try.ntmps27
    go_wp2
    go_ret
    exact ⟨rfl, rfl⟩
  · exfalso; omega


set_option maxHeartbeats 400000 in
theorem toI8I8 (a : Int) (w : World) (a1 : -128 ≤ a) (a2 : a ≤ 127) :
    Calls Try.prog 28 #[.int .i8 a] w fun e w' => e = .returned (.int .i8 (cut8 a)) ∧ w' = w := by
  by_cases r : -128 ≤ a ∧ a ≤ 127
  · obtain ⟨r1, r2⟩ := r
    rw [cut8_in a r1 r2]
    go_enter Try.func28, Try.ntmps28
    go_wp2
    go_ret
    exact ⟨rfl, rfl⟩
  · exfalso; omega


set_option maxHeartbeats 400000 in
theorem toI8In (a : Int) (w : World) (a1 : -9223372036854775808 ≤ a) (a2 : a ≤ 9223372036854775807) :
    Calls Try.prog 29 #[.int .i64 a] w fun e w' => e = .returned (.int .i8 (cut8 a)) ∧ w' = w := by
  by_cases r : -128 ≤ a ∧ a ≤ 127
  · obtain ⟨r1, r2⟩ := r
    rw [cut8_in a r1 r2]
    go_enter Try.func29, Try.ntmps29
    go_wp2
    go_ret
    exact ⟨rfl, rfl⟩
  · have c1 : -128 ≤ IntKind.i8.wrap a ∧ IntKind.i8.wrap a ≤ 127 := by rw [wrap_i8]; omega
    obtain ⟨c1, c2⟩ := c1
    have d : (IntKind.i8.wrap a != a) = true := by rw [bne_iff_ne]; omega
    by_cases s : a < 0
    · rw [cut8_lo a (by omega), ← end8_t]
      go_enter Try.func29, Try.ntmps29
      go_wp2_with (go_at_call 51; refine (endI8 _ _).mono ?_; rintro e w' ⟨rfl, rfl⟩)
      go_ret
      exact ⟨rfl, rfl⟩
    · rw [cut8_hi a (by omega), ← end8_f]
      go_enter Try.func29, Try.ntmps29
      go_wp2_with (go_at_call 51; refine (endI8 _ _).mono ?_; rintro e w' ⟨rfl, rfl⟩)
      go_ret
      exact ⟨rfl, rfl⟩

end Go.Proofs.Ythanbiblikkimab
