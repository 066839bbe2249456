/-
  What each function of package sat answers, kind by kind, as contracts over the seat's program: the whole number cut to the kind's ends; memory stands as it stood.
-/
import Derived.Test.YthanbiblikkimaaProg
import Derived.Test.YthanbiblikkimaaNum
import Derived.WalkSpells
import Derived.WalkLawsBesides
import Derived.Handy
namespace Go.Proofs.Ythanbiblikkimaa
open Go.RowKit


set_option maxHeartbeats 400000 in
theorem endI8 (q : Bool) (w : World) :
    Calls Try.prog 69 #[.bool q] w fun e w' => e = .returned (.int .i8 (end8V q)) ∧ w' = w := by
  have i0 : ∀ w : World, (Instr.index 79 (.agg #[.int .i64 127, .int .i64 32767, .int .i64 2147483647, .int .i64 9223372036854775807]) (.int .i64 0)).run Try.prog w = .ok (.int .i64 127) w := fun _ => by kernel_rfl
  have i1 : ∀ w : World, (Instr.index 79 (.agg #[.int .i64 127, .int .i64 32767, .int .i64 2147483647, .int .i64 9223372036854775807]) (.int .i64 1)).run Try.prog w = .ok (.int .i64 32767) w := fun _ => by kernel_rfl
  have i2 : ∀ w : World, (Instr.index 79 (.agg #[.int .i64 127, .int .i64 32767, .int .i64 2147483647, .int .i64 9223372036854775807]) (.int .i64 2)).run Try.prog w = .ok (.int .i64 2147483647) w := fun _ => by kernel_rfl
  have i3 : ∀ w : World, (Instr.index 79 (.agg #[.int .i64 127, .int .i64 32767, .int .i64 2147483647, .int .i64 9223372036854775807]) (.int .i64 3)).run Try.prog w = .ok (.int .i64 9223372036854775807) w := fun _ => by kernel_rfl
  have k0 : IntKind.i8.wrap 127 = 127 := by rw [wrap_i8]; decide
  have k1 : IntKind.i8.wrap 32767 = -1 := by rw [wrap_i8]; decide
  have k2 : IntKind.i8.wrap 2147483647 = -1 := by rw [wrap_i8]; decide
  have k3 : IntKind.i8.wrap 9223372036854775807 = -1 := by rw [wrap_i8]; decide
  cases q
  · rw [end8_f]
    go_enter Try.func69, Try.ntmps69
    go_wp2
    go_rounds 5
    go_ret
    exact ⟨rfl, rfl⟩
  · rw [end8_t]
    go_enter Try.func69, Try.ntmps69
    go_wp2
    go_rounds 5
    go_ret
    exact ⟨rfl, rfl⟩


set_option maxHeartbeats 400000 in
theorem addI8 (a b : Int) (w : World) (a1 : -128 ≤ a) (a2 : a ≤ 127) (b1 : -128 ≤ b) (b2 : b ≤ 127) :
    Calls Try.prog 15 #[.int .i8 a, .int .i8 b] w fun e w' => e = .returned (.int .i8 (cut8 (a + b))) ∧ w' = w := by
  go_enter Try.func15, Try.ntmps15
  go_wp2_with (go_at_call 69; refine (endI8 _ _).mono ?_; rintro e w' ⟨rfl, rfl⟩)
  all_goals (go_ret; refine ⟨ret_int ?_, rfl⟩)
  all_goals (simp only [wrap_i8] at *; unfold cut8 cutI; first | omega | (unfold end8V; simp [*]; omega))


set_option maxHeartbeats 400000 in
theorem subI8 (a b : Int) (w : World) (a1 : -128 ≤ a) (a2 : a ≤ 127) (b1 : -128 ≤ b) (b2 : b ≤ 127) :
    Calls Try.prog 17 #[.int .i8 a, .int .i8 b] w fun e w' => e = .returned (.int .i8 (cut8 (a - b))) ∧ w' = w := by
  go_enter Try.func17, Try.ntmps17
  go_wp2_with (go_at_call 69; refine (endI8 _ _).mono ?_; rintro e w' ⟨rfl, rfl⟩)
  all_goals (go_ret; refine ⟨ret_int ?_, rfl⟩)
  all_goals (simp only [wrap_i8] at *; unfold cut8 cutI; first | omega | (unfold end8V; simp [*]; omega))


set_option maxHeartbeats 400000 in
theorem mulI8 (a b : Int) (w : World) (a1 : -128 ≤ a) (a2 : a ≤ 127) (b1 : -128 ≤ b) (b2 : b ≤ 127) :
    Calls Try.prog 19 #[.int .i8 a, .int .i8 b] w fun e w' => e = .returned (.int .i8 (cut8 (a * b))) ∧ w' = w := by
  by_cases ha : a = 0
  · subst ha
    have z : cut8 (0 * b) = 0 := by rw [Int.zero_mul]; decide
    rw [z]
    go_enter Try.func19, Try.ntmps19
    go_wp2
    go_ret
    exact ⟨rfl, rfl⟩
  by_cases hb : b = 0
  · subst hb
    have z : cut8 (a * 0) = 0 := by rw [Int.mul_zero]; decide
    rw [z]
    go_enter Try.func19, Try.ntmps19
    go_wp2
    go_ret
    exact ⟨rfl, rfl⟩
  have ha0 : (a == 0) = false := by simpa using ha
  have hb0 : (b == 0) = false := by simpa using hb
  go_enter Try.func19, Try.ntmps19
  go_wp2_with (go_at_call 69; refine (endI8 _ _).mono ?_; rintro e w' ⟨rfl, rfl⟩)
  all_goals (go_ret; refine ⟨ret_int ?_, rfl⟩)
  all_goals first | exact mulN8 a b a1 a2 b1 b2 ha hb ‹_› | exact mulYn8 a b a1 a2 b1 b2 ha hb ‹_› ‹_› | exact mulYy8 a b a1 a2 b1 b2 ha hb ‹_› ‹_›


set_option maxHeartbeats 400000 in
theorem negI8 (a : Int) (w : World) (a1 : -128 ≤ a) (a2 : a ≤ 127) :
    Calls Try.prog 21 #[.int .i8 a] w fun e w' => e = .returned (.int .i8 (cut8 (-a))) ∧ w' = w := by
  go_enter Try.func21, Try.ntmps21
  go_wp2_with fail
  refine (subI8 0 a _ (by omega) (by omega) a1 a2).mono ?_
  rintro e w' ⟨rfl, rfl⟩
  go_wp2_with fail
  go_ret
  exact ⟨ret_int (by first | rfl | rw [Int.zero_sub]), rfl⟩


set_option maxHeartbeats 400000 in
theorem absI8 (a : Int) (w : World) (a1 : -128 ≤ a) (a2 : a ≤ 127) :
    Calls Try.prog 23 #[.int .i8 a] w fun e w' => e = .returned (.int .i8 (cut8 a.natAbs)) ∧ w' = w := by
  by_cases h : a < 0
  · have z : cut8 a.natAbs = cut8 (-a) := by rw [show (a.natAbs : Int) = -a by omega]
    rw [z]
    clear z
    go_enter Try.func23, Try.ntmps23
    go_wp2_with fail
    refine (negI8 a _ a1 a2).mono ?_
    rintro e w' ⟨rfl, rfl⟩
    go_wp2_with fail
    go_ret
    exact ⟨rfl, rfl⟩
  · have z : cut8 a.natAbs = a := by rw [show (a.natAbs : Int) = a by omega]; exact cut8_in _ a1 a2
    rw [z]
    clear z
    go_enter Try.func23, Try.ntmps23
    go_wp2
    go_ret
    exact ⟨rfl, rfl⟩


def div8VI8 (a b : Int) : Int := if b = 0 then 0 else cut8 (a.tdiv b)
set_option maxHeartbeats 400000 in
theorem divI8 (a b : Int) (w : World) (a1 : -128 ≤ a) (a2 : a ≤ 127) (b1 : -128 ≤ b) (b2 : b ≤ 127) :
    Calls Try.prog 11 #[.int .i8 a, .int .i8 b] w fun e w' => e = .returned (.tuple #[.int .i8 (div8VI8 a b), .bool (nz b)]) ∧ w' = w := by
  by_cases hb : b = 0
  · subst hb
    have z : div8VI8 a 0 = 0 := if_pos rfl
    rw [z, nz_no]
    go_enter Try.func11, Try.ntmps11
    go_wp2
    go_ret2
    exact ⟨rfl, rfl⟩
  rw [nz_yes b hb]
  by_cases hn : b = -1
  · subst hn
    have z : div8VI8 a (-1) = cut8 (-a) := by unfold div8VI8; rw [if_neg (by decide), show a.tdiv (-1) = -a by rw [Int.tdiv_neg, Int.tdiv_one]]
    rw [z]
    clear z
    go_enter Try.func11, Try.ntmps11
    go_wp2_with fail
    refine (negI8 a _ a1 a2).mono ?_
    rintro e w' ⟨rfl, rfl⟩
    go_wp2_with fail
    go_ret2
    exact ⟨rfl, rfl⟩
  have q := quo8_in a b a1 a2 hb hn
  have z : div8VI8 a b = a.tdiv b := by unfold div8VI8; rw [if_neg hb]; exact cut8_in _ q.1 q.2
  rw [z]
  clear z
  obtain ⟨q1, q2⟩ := q
  go_enter Try.func11, Try.ntmps11
  go_wp2
  go_ret2
  exact ⟨rfl, rfl⟩


def rem8VI8 (a b : Int) : Int := if b = 0 then 0 else a.tmod b
set_option maxHeartbeats 400000 in
theorem remI8 (a b : Int) (w : World) (_a1 : -128 ≤ a) (_a2 : a ≤ 127) (b1 : -128 ≤ b) (b2 : b ≤ 127) :
    Calls Try.prog 12 #[.int .i8 a, .int .i8 b] w fun e w' => e = .returned (.tuple #[.int .i8 (rem8VI8 a b), .bool (nz b)]) ∧ w' = w := by
  by_cases hb : b = 0
  · subst hb
    have z : rem8VI8 a 0 = 0 := if_pos rfl
    rw [z, nz_no]
    go_enter Try.func12, Try.ntmps12
    go_wp2
    go_ret2
    exact ⟨rfl, rfl⟩
  rw [nz_yes b hb]
  have z : rem8VI8 a b = a.tmod b := if_neg hb
  rw [z]
  clear z
  obtain ⟨q1, q2⟩ := rem8_in a b b1 b2 hb
  go_enter Try.func12, Try.ntmps12
  go_wp2
  go_ret2
  exact ⟨rfl, rfl⟩


set_option maxHeartbeats 400000 in
theorem clampI8 (a b c : Int) (w : World) :
    Calls Try.prog 25 #[.int .i8 a, .int .i8 b, .int .i8 c] w fun e w' => e = .returned (.int .i8 (max b (min a c))) ∧ w' = w := by
  go_enter Try.func25, Try.ntmps25
  go_wp2
  all_goals (go_ret; exact ⟨ret_int (by omega), rfl⟩)


set_option maxHeartbeats 400000 in
theorem endI16 (q : Bool) (w : World) :
    Calls Try.prog 71 #[.bool q] w fun e w' => e = .returned (.int .i16 (end16V q)) ∧ w' = w := by
  have i0 : ∀ w : World, (Instr.index 79 (.agg #[.int .i64 127, .int .i64 32767, .int .i64 2147483647, .int .i64 9223372036854775807]) (.int .i64 0)).run Try.prog w = .ok (.int .i64 127) w := fun _ => by kernel_rfl
  have i1 : ∀ w : World, (Instr.index 79 (.agg #[.int .i64 127, .int .i64 32767, .int .i64 2147483647, .int .i64 9223372036854775807]) (.int .i64 1)).run Try.prog w = .ok (.int .i64 32767) w := fun _ => by kernel_rfl
  have i2 : ∀ w : World, (Instr.index 79 (.agg #[.int .i64 127, .int .i64 32767, .int .i64 2147483647, .int .i64 9223372036854775807]) (.int .i64 2)).run Try.prog w = .ok (.int .i64 2147483647) w := fun _ => by kernel_rfl
  have i3 : ∀ w : World, (Instr.index 79 (.agg #[.int .i64 127, .int .i64 32767, .int .i64 2147483647, .int .i64 9223372036854775807]) (.int .i64 3)).run Try.prog w = .ok (.int .i64 9223372036854775807) w := fun _ => by kernel_rfl
  have k0 : IntKind.i16.wrap 127 = 127 := by rw [wrap_i16]; decide
  have k1 : IntKind.i16.wrap 32767 = 32767 := by rw [wrap_i16]; decide
  have k2 : IntKind.i16.wrap 2147483647 = -1 := by rw [wrap_i16]; decide
  have k3 : IntKind.i16.wrap 9223372036854775807 = -1 := by rw [wrap_i16]; decide
  cases q
  · rw [end16_f]
    go_enter Try.func71, Try.ntmps71
    go_wp2
    go_rounds 5
    go_ret
    exact ⟨rfl, rfl⟩
  · rw [end16_t]
    go_enter Try.func71, Try.ntmps71
    go_wp2
    go_rounds 5
    go_ret
    exact ⟨rfl, rfl⟩


set_option maxHeartbeats 400000 in
theorem addI16 (a b : Int) (w : World) (a1 : -32768 ≤ a) (a2 : a ≤ 32767) (b1 : -32768 ≤ b) (b2 : b ≤ 32767) :
    Calls Try.prog 29 #[.int .i16 a, .int .i16 b] w fun e w' => e = .returned (.int .i16 (cut16 (a + b))) ∧ w' = w := by
  go_enter Try.func29, Try.ntmps29
  go_wp2_with (go_at_call 71; refine (endI16 _ _).mono ?_; rintro e w' ⟨rfl, rfl⟩)
  all_goals (go_ret; refine ⟨ret_int ?_, rfl⟩)
  all_goals (simp only [wrap_i16] at *; unfold cut16 cutI; first | omega | (unfold end16V; simp [*]; omega))


set_option maxHeartbeats 400000 in
theorem subI16 (a b : Int) (w : World) (a1 : -32768 ≤ a) (a2 : a ≤ 32767) (b1 : -32768 ≤ b) (b2 : b ≤ 32767) :
    Calls Try.prog 30 #[.int .i16 a, .int .i16 b] w fun e w' => e = .returned (.int .i16 (cut16 (a - b))) ∧ w' = w := by
  go_enter Try.func30, Try.ntmps30
  go_wp2_with (go_at_call 71; refine (endI16 _ _).mono ?_; rintro e w' ⟨rfl, rfl⟩)
  all_goals (go_ret; refine ⟨ret_int ?_, rfl⟩)
  all_goals (simp only [wrap_i16] at *; unfold cut16 cutI; first | omega | (unfold end16V; simp [*]; omega))


set_option maxHeartbeats 400000 in
theorem mulI16 (a b : Int) (w : World) (a1 : -32768 ≤ a) (a2 : a ≤ 32767) (b1 : -32768 ≤ b) (b2 : b ≤ 32767) :
    Calls Try.prog 31 #[.int .i16 a, .int .i16 b] w fun e w' => e = .returned (.int .i16 (cut16 (a * b))) ∧ w' = w := by
  by_cases ha : a = 0
  · subst ha
    have z : cut16 (0 * b) = 0 := by rw [Int.zero_mul]; decide
    rw [z]
    go_enter Try.func31, Try.ntmps31
    go_wp2
    go_ret
    exact ⟨rfl, rfl⟩
  by_cases hb : b = 0
  · subst hb
    have z : cut16 (a * 0) = 0 := by rw [Int.mul_zero]; decide
    rw [z]
    go_enter Try.func31, Try.ntmps31
    go_wp2
    go_ret
    exact ⟨rfl, rfl⟩
  have ha0 : (a == 0) = false := by simpa using ha
  have hb0 : (b == 0) = false := by simpa using hb
  go_enter Try.func31, Try.ntmps31
  go_wp2_with (go_at_call 71; refine (endI16 _ _).mono ?_; rintro e w' ⟨rfl, rfl⟩)
  all_goals (go_ret; refine ⟨ret_int ?_, rfl⟩)
  all_goals first | exact mulN16 a b a1 a2 b1 b2 ha hb ‹_› | exact mulYn16 a b a1 a2 b1 b2 ha hb ‹_› ‹_› | exact mulYy16 a b a1 a2 b1 b2 ha hb ‹_› ‹_›


set_option maxHeartbeats 400000 in
theorem negI16 (a : Int) (w : World) (a1 : -32768 ≤ a) (a2 : a ≤ 32767) :
    Calls Try.prog 32 #[.int .i16 a] w fun e w' => e = .returned (.int .i16 (cut16 (-a))) ∧ w' = w := by
  go_enter Try.func32, Try.ntmps32
  go_wp2_with fail
  refine (subI16 0 a _ (by omega) (by omega) a1 a2).mono ?_
  rintro e w' ⟨rfl, rfl⟩
  go_wp2_with fail
  go_ret
  exact ⟨ret_int (by first | rfl | rw [Int.zero_sub]), rfl⟩


set_option maxHeartbeats 400000 in
theorem absI16 (a : Int) (w : World) (a1 : -32768 ≤ a) (a2 : a ≤ 32767) :
    Calls Try.prog 33 #[.int .i16 a] w fun e w' => e = .returned (.int .i16 (cut16 a.natAbs)) ∧ w' = w := by
  by_cases h : a < 0
  · have z : cut16 a.natAbs = cut16 (-a) := by rw [show (a.natAbs : Int) = -a by omega]
    rw [z]
    clear z
    go_enter Try.func33, Try.ntmps33
    go_wp2_with fail
    refine (negI16 a _ a1 a2).mono ?_
    rintro e w' ⟨rfl, rfl⟩
    go_wp2_with fail
    go_ret
    exact ⟨rfl, rfl⟩
  · have z : cut16 a.natAbs = a := by rw [show (a.natAbs : Int) = a by omega]; exact cut16_in _ a1 a2
    rw [z]
    clear z
    go_enter Try.func33, Try.ntmps33
    go_wp2
    go_ret
    exact ⟨rfl, rfl⟩


def div16VI16 (a b : Int) : Int := if b = 0 then 0 else cut16 (a.tdiv b)
set_option maxHeartbeats 400000 in
theorem divI16 (a b : Int) (w : World) (a1 : -32768 ≤ a) (a2 : a ≤ 32767) (b1 : -32768 ≤ b) (b2 : b ≤ 32767) :
    Calls Try.prog 27 #[.int .i16 a, .int .i16 b] w fun e w' => e = .returned (.tuple #[.int .i16 (div16VI16 a b), .bool (nz b)]) ∧ w' = w := by
  by_cases hb : b = 0
  · subst hb
    have z : div16VI16 a 0 = 0 := if_pos rfl
    rw [z, nz_no]
    go_enter Try.func27, Try.ntmps27
    go_wp2
    go_ret2
    exact ⟨rfl, rfl⟩
  rw [nz_yes b hb]
  by_cases hn : b = -1
  · subst hn
    have z : div16VI16 a (-1) = cut16 (-a) := by unfold div16VI16; rw [if_neg (by decide), show a.tdiv (-1) = -a by rw [Int.tdiv_neg, Int.tdiv_one]]
    rw [z]
    clear z
    go_enter Try.func27, Try.ntmps27
    go_wp2_with fail
    refine (negI16 a _ a1 a2).mono ?_
    rintro e w' ⟨rfl, rfl⟩
    go_wp2_with fail
    go_ret2
    exact ⟨rfl, rfl⟩
  have q := quo16_in a b a1 a2 hb hn
  have z : div16VI16 a b = a.tdiv b := by unfold div16VI16; rw [if_neg hb]; exact cut16_in _ q.1 q.2
  rw [z]
  clear z
  obtain ⟨q1, q2⟩ := q
  go_enter Try.func27, Try.ntmps27
  go_wp2
  go_ret2
  exact ⟨rfl, rfl⟩


def rem16VI16 (a b : Int) : Int := if b = 0 then 0 else a.tmod b
set_option maxHeartbeats 400000 in
theorem remI16 (a b : Int) (w : World) (_a1 : -32768 ≤ a) (_a2 : a ≤ 32767) (b1 : -32768 ≤ b) (b2 : b ≤ 32767) :
    Calls Try.prog 28 #[.int .i16 a, .int .i16 b] w fun e w' => e = .returned (.tuple #[.int .i16 (rem16VI16 a b), .bool (nz b)]) ∧ w' = w := by
  by_cases hb : b = 0
  · subst hb
    have z : rem16VI16 a 0 = 0 := if_pos rfl
    rw [z, nz_no]
    go_enter Try.func28, Try.ntmps28
    go_wp2
    go_ret2
    exact ⟨rfl, rfl⟩
  rw [nz_yes b hb]
  have z : rem16VI16 a b = a.tmod b := if_neg hb
  rw [z]
  clear z
  obtain ⟨q1, q2⟩ := rem16_in a b b1 b2 hb
  go_enter Try.func28, Try.ntmps28
  go_wp2
  go_ret2
  exact ⟨rfl, rfl⟩


set_option maxHeartbeats 400000 in
theorem clampI16 (a b c : Int) (w : World) :
    Calls Try.prog 34 #[.int .i16 a, .int .i16 b, .int .i16 c] w fun e w' => e = .returned (.int .i16 (max b (min a c))) ∧ w' = w := by
  go_enter Try.func34, Try.ntmps34
  go_wp2
  all_goals (go_ret; exact ⟨ret_int (by omega), rfl⟩)


set_option maxHeartbeats 400000 in
theorem endI32 (q : Bool) (w : World) :
    Calls Try.prog 72 #[.bool q] w fun e w' => e = .returned (.int .i32 (end32V q)) ∧ w' = w := by
  have i0 : ∀ w : World, (Instr.index 79 (.agg #[.int .i64 127, .int .i64 32767, .int .i64 2147483647, .int .i64 9223372036854775807]) (.int .i64 0)).run Try.prog w = .ok (.int .i64 127) w := fun _ => by kernel_rfl
  have i1 : ∀ w : World, (Instr.index 79 (.agg #[.int .i64 127, .int .i64 32767, .int .i64 2147483647, .int .i64 9223372036854775807]) (.int .i64 1)).run Try.prog w = .ok (.int .i64 32767) w := fun _ => by kernel_rfl
  have i2 : ∀ w : World, (Instr.index 79 (.agg #[.int .i64 127, .int .i64 32767, .int .i64 2147483647, .int .i64 9223372036854775807]) (.int .i64 2)).run Try.prog w = .ok (.int .i64 2147483647) w := fun _ => by kernel_rfl
  have i3 : ∀ w : World, (Instr.index 79 (.agg #[.int .i64 127, .int .i64 32767, .int .i64 2147483647, .int .i64 9223372036854775807]) (.int .i64 3)).run Try.prog w = .ok (.int .i64 9223372036854775807) w := fun _ => by kernel_rfl
  have k0 : wrap32 127 = 127 := by rw [wrap_i32]; decide
  have k1 : wrap32 32767 = 32767 := by rw [wrap_i32]; decide
  have k2 : wrap32 2147483647 = 2147483647 := by rw [wrap_i32]; decide
  have k3 : wrap32 9223372036854775807 = -1 := by rw [wrap_i32]; decide
  cases q
  · rw [end32_f]
    go_enter Try.func72, Try.ntmps72
    go_wp2
    go_rounds 5
    go_ret
    exact ⟨rfl, rfl⟩
  · rw [end32_t]
    go_enter Try.func72, Try.ntmps72
    go_wp2
    go_rounds 5
    go_ret
    exact ⟨rfl, rfl⟩


set_option maxHeartbeats 400000 in
theorem addI32 (a b : Int) (w : World) (a1 : -2147483648 ≤ a) (a2 : a ≤ 2147483647) (b1 : -2147483648 ≤ b) (b2 : b ≤ 2147483647) :
    Calls Try.prog 37 #[.int .i32 a, .int .i32 b] w fun e w' => e = .returned (.int .i32 (cut32 (a + b))) ∧ w' = w := by
  go_enter Try.func37, Try.ntmps37
  go_wp2_with (go_at_call 72; refine (endI32 _ _).mono ?_; rintro e w' ⟨rfl, rfl⟩)
  all_goals (go_ret; refine ⟨ret_int ?_, rfl⟩)
  all_goals (simp only [wrap_i32] at *; unfold cut32 cutI; first | omega | (unfold end32V; simp [*]; omega))


set_option maxHeartbeats 400000 in
theorem subI32 (a b : Int) (w : World) (a1 : -2147483648 ≤ a) (a2 : a ≤ 2147483647) (b1 : -2147483648 ≤ b) (b2 : b ≤ 2147483647) :
    Calls Try.prog 38 #[.int .i32 a, .int .i32 b] w fun e w' => e = .returned (.int .i32 (cut32 (a - b))) ∧ w' = w := by
  go_enter Try.func38, Try.ntmps38
  go_wp2_with (go_at_call 72; refine (endI32 _ _).mono ?_; rintro e w' ⟨rfl, rfl⟩)
  all_goals (go_ret; refine ⟨ret_int ?_, rfl⟩)
  all_goals (simp only [wrap_i32] at *; unfold cut32 cutI; first | omega | (unfold end32V; simp [*]; omega))


set_option maxHeartbeats 400000 in
theorem mulI32 (a b : Int) (w : World) (a1 : -2147483648 ≤ a) (a2 : a ≤ 2147483647) (b1 : -2147483648 ≤ b) (b2 : b ≤ 2147483647) :
    Calls Try.prog 39 #[.int .i32 a, .int .i32 b] w fun e w' => e = .returned (.int .i32 (cut32 (a * b))) ∧ w' = w := by
  by_cases ha : a = 0
  · subst ha
    have z : cut32 (0 * b) = 0 := by rw [Int.zero_mul]; decide
    rw [z]
    go_enter Try.func39, Try.ntmps39
    go_wp2
    go_ret
    exact ⟨rfl, rfl⟩
  by_cases hb : b = 0
  · subst hb
    have z : cut32 (a * 0) = 0 := by rw [Int.mul_zero]; decide
    rw [z]
    go_enter Try.func39, Try.ntmps39
    go_wp2
    go_ret
    exact ⟨rfl, rfl⟩
  have ha0 : (a == 0) = false := by simpa using ha
  have hb0 : (b == 0) = false := by simpa using hb
  go_enter Try.func39, Try.ntmps39
  go_wp2_with (go_at_call 72; refine (endI32 _ _).mono ?_; rintro e w' ⟨rfl, rfl⟩)
  all_goals (go_ret; refine ⟨ret_int ?_, rfl⟩)
  all_goals first | exact mulN32 a b a1 a2 b1 b2 ha hb ‹_› | exact mulYn32 a b a1 a2 b1 b2 ha hb ‹_› ‹_› | exact mulYy32 a b a1 a2 b1 b2 ha hb ‹_› ‹_›


set_option maxHeartbeats 400000 in
theorem negI32 (a : Int) (w : World) (a1 : -2147483648 ≤ a) (a2 : a ≤ 2147483647) :
    Calls Try.prog 40 #[.int .i32 a] w fun e w' => e = .returned (.int .i32 (cut32 (-a))) ∧ w' = w := by
  go_enter Try.func40, Try.ntmps40
  go_wp2_with fail
  refine (subI32 0 a _ (by omega) (by omega) a1 a2).mono ?_
  rintro e w' ⟨rfl, rfl⟩
  go_wp2_with fail
  go_ret
  exact ⟨ret_int (by first | rfl | rw [Int.zero_sub]), rfl⟩


set_option maxHeartbeats 400000 in
theorem absI32 (a : Int) (w : World) (a1 : -2147483648 ≤ a) (a2 : a ≤ 2147483647) :
    Calls Try.prog 41 #[.int .i32 a] w fun e w' => e = .returned (.int .i32 (cut32 a.natAbs)) ∧ w' = w := by
  by_cases h : a < 0
  · have z : cut32 a.natAbs = cut32 (-a) := by rw [show (a.natAbs : Int) = -a by omega]
    rw [z]
    clear z
    go_enter Try.func41, Try.ntmps41
    go_wp2_with fail
    refine (negI32 a _ a1 a2).mono ?_
    rintro e w' ⟨rfl, rfl⟩
    go_wp2_with fail
    go_ret
    exact ⟨rfl, rfl⟩
  · have z : cut32 a.natAbs = a := by rw [show (a.natAbs : Int) = a by omega]; exact cut32_in _ a1 a2
    rw [z]
    clear z
    go_enter Try.func41, Try.ntmps41
    go_wp2
    go_ret
    exact ⟨rfl, rfl⟩


def div32VI32 (a b : Int) : Int := if b = 0 then 0 else cut32 (a.tdiv b)
set_option maxHeartbeats 400000 in
theorem divI32 (a b : Int) (w : World) (a1 : -2147483648 ≤ a) (a2 : a ≤ 2147483647) (b1 : -2147483648 ≤ b) (b2 : b ≤ 2147483647) :
    Calls Try.prog 35 #[.int .i32 a, .int .i32 b] w fun e w' => e = .returned (.tuple #[.int .i32 (div32VI32 a b), .bool (nz b)]) ∧ w' = w := by
  by_cases hb : b = 0
  · subst hb
    have z : div32VI32 a 0 = 0 := if_pos rfl
    rw [z, nz_no]
    go_enter Try.func35, Try.ntmps35
    go_wp2
    go_ret2
    exact ⟨rfl, rfl⟩
  rw [nz_yes b hb]
  by_cases hn : b = -1
  · subst hn
    have z : div32VI32 a (-1) = cut32 (-a) := by unfold div32VI32; rw [if_neg (by decide), show a.tdiv (-1) = -a by rw [Int.tdiv_neg, Int.tdiv_one]]
    rw [z]
    clear z
    go_enter Try.func35, Try.ntmps35
    go_wp2_with fail
    refine (negI32 a _ a1 a2).mono ?_
    rintro e w' ⟨rfl, rfl⟩
    go_wp2_with fail
    go_ret2
    exact ⟨rfl, rfl⟩
  have q := quo32_in a b a1 a2 hb hn
  have z : div32VI32 a b = a.tdiv b := by unfold div32VI32; rw [if_neg hb]; exact cut32_in _ q.1 q.2
  rw [z]
  clear z
  obtain ⟨q1, q2⟩ := q
  go_enter Try.func35, Try.ntmps35
  go_wp2
  go_ret2
  exact ⟨rfl, rfl⟩


def rem32VI32 (a b : Int) : Int := if b = 0 then 0 else a.tmod b
set_option maxHeartbeats 400000 in
theorem remI32 (a b : Int) (w : World) (_a1 : -2147483648 ≤ a) (_a2 : a ≤ 2147483647) (b1 : -2147483648 ≤ b) (b2 : b ≤ 2147483647) :
    Calls Try.prog 36 #[.int .i32 a, .int .i32 b] w fun e w' => e = .returned (.tuple #[.int .i32 (rem32VI32 a b), .bool (nz b)]) ∧ w' = w := by
  by_cases hb : b = 0
  · subst hb
    have z : rem32VI32 a 0 = 0 := if_pos rfl
    rw [z, nz_no]
    go_enter Try.func36, Try.ntmps36
    go_wp2
    go_ret2
    exact ⟨rfl, rfl⟩
  rw [nz_yes b hb]
  have z : rem32VI32 a b = a.tmod b := if_neg hb
  rw [z]
  clear z
  obtain ⟨q1, q2⟩ := rem32_in a b b1 b2 hb
  go_enter Try.func36, Try.ntmps36
  go_wp2
  go_ret2
  exact ⟨rfl, rfl⟩


set_option maxHeartbeats 400000 in
theorem clampI32 (a b c : Int) (w : World) :
    Calls Try.prog 42 #[.int .i32 a, .int .i32 b, .int .i32 c] w fun e w' => e = .returned (.int .i32 (max b (min a c))) ∧ w' = w := by
  go_enter Try.func42, Try.ntmps42
  go_wp2
  all_goals (go_ret; exact ⟨ret_int (by omega), rfl⟩)


set_option maxHeartbeats 400000 in
theorem endI64 (q : Bool) (w : World) :
    Calls Try.prog 73 #[.bool q] w fun e w' => e = .returned (.int .i64 (end64V q)) ∧ w' = w := by
  have i0 : ∀ w : World, (Instr.index 79 (.agg #[.int .i64 127, .int .i64 32767, .int .i64 2147483647, .int .i64 9223372036854775807]) (.int .i64 0)).run Try.prog w = .ok (.int .i64 127) w := fun _ => by kernel_rfl
  have i1 : ∀ w : World, (Instr.index 79 (.agg #[.int .i64 127, .int .i64 32767, .int .i64 2147483647, .int .i64 9223372036854775807]) (.int .i64 1)).run Try.prog w = .ok (.int .i64 32767) w := fun _ => by kernel_rfl
  have i2 : ∀ w : World, (Instr.index 79 (.agg #[.int .i64 127, .int .i64 32767, .int .i64 2147483647, .int .i64 9223372036854775807]) (.int .i64 2)).run Try.prog w = .ok (.int .i64 2147483647) w := fun _ => by kernel_rfl
  have i3 : ∀ w : World, (Instr.index 79 (.agg #[.int .i64 127, .int .i64 32767, .int .i64 2147483647, .int .i64 9223372036854775807]) (.int .i64 3)).run Try.prog w = .ok (.int .i64 9223372036854775807) w := fun _ => by kernel_rfl
  cases q
  · rw [end64_f]
    go_enter Try.func73, Try.ntmps73
    go_wp2
    go_rounds 5
    go_ret
    exact ⟨rfl, rfl⟩
  · rw [end64_t]
    go_enter Try.func73, Try.ntmps73
    go_wp2
    go_rounds 5
    go_ret
    exact ⟨rfl, rfl⟩


set_option maxHeartbeats 400000 in
theorem addI64 (a b : Int) (w : World) (a1 : -9223372036854775808 ≤ a) (a2 : a ≤ 9223372036854775807) (b1 : -9223372036854775808 ≤ b) (b2 : b ≤ 9223372036854775807) :
    Calls Try.prog 45 #[.int .i64 a, .int .i64 b] w fun e w' => e = .returned (.int .i64 (cut64 (a + b))) ∧ w' = w := by
  go_enter Try.func45, Try.ntmps45
  go_wp2_with (go_at_call 73; refine (endI64 _ _).mono ?_; rintro e w' ⟨rfl, rfl⟩)
  all_goals (go_ret; refine ⟨ret_int ?_, rfl⟩)
  all_goals (simp only [wrap_i64] at *; unfold cut64 cutI; first | omega | (unfold end64V; simp [*]; omega))


set_option maxHeartbeats 400000 in
theorem subI64 (a b : Int) (w : World) (a1 : -9223372036854775808 ≤ a) (a2 : a ≤ 9223372036854775807) (b1 : -9223372036854775808 ≤ b) (b2 : b ≤ 9223372036854775807) :
    Calls Try.prog 46 #[.int .i64 a, .int .i64 b] w fun e w' => e = .returned (.int .i64 (cut64 (a - b))) ∧ w' = w := by
  go_enter Try.func46, Try.ntmps46
  go_wp2_with (go_at_call 73; refine (endI64 _ _).mono ?_; rintro e w' ⟨rfl, rfl⟩)
  all_goals (go_ret; refine ⟨ret_int ?_, rfl⟩)
  all_goals (simp only [wrap_i64] at *; unfold cut64 cutI; first | omega | (unfold end64V; simp [*]; omega))


set_option maxHeartbeats 400000 in
theorem mulI64 (a b : Int) (w : World) (a1 : -9223372036854775808 ≤ a) (a2 : a ≤ 9223372036854775807) (b1 : -9223372036854775808 ≤ b) (b2 : b ≤ 9223372036854775807) :
    Calls Try.prog 47 #[.int .i64 a, .int .i64 b] w fun e w' => e = .returned (.int .i64 (cut64 (a * b))) ∧ w' = w := by
  by_cases ha : a = 0
  · subst ha
    have z : cut64 (0 * b) = 0 := by rw [Int.zero_mul]; decide
    rw [z]
    go_enter Try.func47, Try.ntmps47
    go_wp2
    go_ret
    exact ⟨rfl, rfl⟩
  by_cases hb : b = 0
  · subst hb
    have z : cut64 (a * 0) = 0 := by rw [Int.mul_zero]; decide
    rw [z]
    go_enter Try.func47, Try.ntmps47
    go_wp2
    go_ret
    exact ⟨rfl, rfl⟩
  have ha0 : (a == 0) = false := by simpa using ha
  have hb0 : (b == 0) = false := by simpa using hb
  go_enter Try.func47, Try.ntmps47
  go_wp2_with (go_at_call 73; refine (endI64 _ _).mono ?_; rintro e w' ⟨rfl, rfl⟩)
  all_goals (go_ret; refine ⟨ret_int ?_, rfl⟩)
  all_goals first | exact mulN64 a b a1 a2 b1 b2 ha hb ‹_› | exact mulYn64 a b a1 a2 b1 b2 ha hb ‹_› ‹_› | exact mulYy64 a b a1 a2 b1 b2 ha hb ‹_› ‹_›


set_option maxHeartbeats 400000 in
theorem negI64 (a : Int) (w : World) (a1 : -9223372036854775808 ≤ a) (a2 : a ≤ 9223372036854775807) :
    Calls Try.prog 48 #[.int .i64 a] w fun e w' => e = .returned (.int .i64 (cut64 (-a))) ∧ w' = w := by
  go_enter Try.func48, Try.ntmps48
  go_wp2_with fail
  refine (subI64 0 a _ (by omega) (by omega) a1 a2).mono ?_
  rintro e w' ⟨rfl, rfl⟩
  go_wp2_with fail
  go_ret
  exact ⟨ret_int (by first | rfl | rw [Int.zero_sub]), rfl⟩


set_option maxHeartbeats 400000 in
theorem absI64 (a : Int) (w : World) (a1 : -9223372036854775808 ≤ a) (a2 : a ≤ 9223372036854775807) :
    Calls Try.prog 49 #[.int .i64 a] w fun e w' => e = .returned (.int .i64 (cut64 a.natAbs)) ∧ w' = w := by
  by_cases h : a < 0
  · have z : cut64 a.natAbs = cut64 (-a) := by rw [show (a.natAbs : Int) = -a by omega]
    rw [z]
    clear z
    go_enter Try.func49, Try.ntmps49
    go_wp2_with fail
    refine (negI64 a _ a1 a2).mono ?_
    rintro e w' ⟨rfl, rfl⟩
    go_wp2_with fail
    go_ret
    exact ⟨rfl, rfl⟩
  · have z : cut64 a.natAbs = a := by rw [show (a.natAbs : Int) = a by omega]; exact cut64_in _ a1 a2
    rw [z]
    clear z
    go_enter Try.func49, Try.ntmps49
    go_wp2
    go_ret
    exact ⟨rfl, rfl⟩


def div64VI64 (a b : Int) : Int := if b = 0 then 0 else cut64 (a.tdiv b)
set_option maxHeartbeats 400000 in
theorem divI64 (a b : Int) (w : World) (a1 : -9223372036854775808 ≤ a) (a2 : a ≤ 9223372036854775807) (b1 : -9223372036854775808 ≤ b) (b2 : b ≤ 9223372036854775807) :
    Calls Try.prog 43 #[.int .i64 a, .int .i64 b] w fun e w' => e = .returned (.tuple #[.int .i64 (div64VI64 a b), .bool (nz b)]) ∧ w' = w := by
  by_cases hb : b = 0
  · subst hb
    have z : div64VI64 a 0 = 0 := if_pos rfl
    rw [z, nz_no]
    go_enter Try.func43, Try.ntmps43
    go_wp2
    go_ret2
    exact ⟨rfl, rfl⟩
  rw [nz_yes b hb]
  by_cases hn : b = -1
  · subst hn
    have z : div64VI64 a (-1) = cut64 (-a) := by unfold div64VI64; rw [if_neg (by decide), show a.tdiv (-1) = -a by rw [Int.tdiv_neg, Int.tdiv_one]]
    rw [z]
    clear z
    go_enter Try.func43, Try.ntmps43
    go_wp2_with fail
    refine (negI64 a _ a1 a2).mono ?_
    rintro e w' ⟨rfl, rfl⟩
    go_wp2_with fail
    go_ret2
    exact ⟨rfl, rfl⟩
  have q := quo64_in a b a1 a2 hb hn
  have z : div64VI64 a b = a.tdiv b := by unfold div64VI64; rw [if_neg hb]; exact cut64_in _ q.1 q.2
  rw [z]
  clear z
  obtain ⟨q1, q2⟩ := q
  go_enter Try.func43, Try.ntmps43
  go_wp2
  go_ret2
  exact ⟨rfl, rfl⟩


def rem64VI64 (a b : Int) : Int := if b = 0 then 0 else a.tmod b
set_option maxHeartbeats 400000 in
theorem remI64 (a b : Int) (w : World) (_a1 : -9223372036854775808 ≤ a) (_a2 : a ≤ 9223372036854775807) (b1 : -9223372036854775808 ≤ b) (b2 : b ≤ 9223372036854775807) :
    Calls Try.prog 44 #[.int .i64 a, .int .i64 b] w fun e w' => e = .returned (.tuple #[.int .i64 (rem64VI64 a b), .bool (nz b)]) ∧ w' = w := by
  by_cases hb : b = 0
  · subst hb
    have z : rem64VI64 a 0 = 0 := if_pos rfl
    rw [z, nz_no]
    go_enter Try.func44, Try.ntmps44
    go_wp2
    go_ret2
    exact ⟨rfl, rfl⟩
  rw [nz_yes b hb]
  have z : rem64VI64 a b = a.tmod b := if_neg hb
  rw [z]
  clear z
  obtain ⟨q1, q2⟩ := rem64_in a b b1 b2 hb
  go_enter Try.func44, Try.ntmps44
  go_wp2
  go_ret2
  exact ⟨rfl, rfl⟩


set_option maxHeartbeats 400000 in
theorem clampI64 (a b c : Int) (w : World) :
    Calls Try.prog 50 #[.int .i64 a, .int .i64 b, .int .i64 c] w fun e w' => e = .returned (.int .i64 (max b (min a c))) ∧ w' = w := by
  go_enter Try.func50, Try.ntmps50
  go_wp2
  all_goals (go_ret; exact ⟨ret_int (by omega), rfl⟩)


set_option maxHeartbeats 400000 in
theorem endIn (q : Bool) (w : World) :
    Calls Try.prog 74 #[.bool q] w fun e w' => e = .returned (.int .i64 (end64V q)) ∧ w' = w := by
  have i0 : ∀ w : World, (Instr.index 79 (.agg #[.int .i64 127, .int .i64 32767, .int .i64 2147483647, .int .i64 9223372036854775807]) (.int .i64 0)).run Try.prog w = .ok (.int .i64 127) w := fun _ => by kernel_rfl
  have i1 : ∀ w : World, (Instr.index 79 (.agg #[.int .i64 127, .int .i64 32767, .int .i64 2147483647, .int .i64 9223372036854775807]) (.int .i64 1)).run Try.prog w = .ok (.int .i64 32767) w := fun _ => by kernel_rfl
  have i2 : ∀ w : World, (Instr.index 79 (.agg #[.int .i64 127, .int .i64 32767, .int .i64 2147483647, .int .i64 9223372036854775807]) (.int .i64 2)).run Try.prog w = .ok (.int .i64 2147483647) w := fun _ => by kernel_rfl
  have i3 : ∀ w : World, (Instr.index 79 (.agg #[.int .i64 127, .int .i64 32767, .int .i64 2147483647, .int .i64 9223372036854775807]) (.int .i64 3)).run Try.prog w = .ok (.int .i64 9223372036854775807) w := fun _ => by kernel_rfl
  cases q
  · rw [end64_f]
    go_enter Try.func74, Try.ntmps74
    go_wp2
    go_rounds 5
    go_ret
    exact ⟨rfl, rfl⟩
  · rw [end64_t]
    go_enter Try.func74, Try.ntmps74
    go_wp2
    go_rounds 5
    go_ret
    exact ⟨rfl, rfl⟩


set_option maxHeartbeats 400000 in
theorem addIn (a b : Int) (w : World) (a1 : -9223372036854775808 ≤ a) (a2 : a ≤ 9223372036854775807) (b1 : -9223372036854775808 ≤ b) (b2 : b ≤ 9223372036854775807) :
    Calls Try.prog 53 #[.int .i64 a, .int .i64 b] w fun e w' => e = .returned (.int .i64 (cut64 (a + b))) ∧ w' = w := by
  go_enter Try.func53, Try.ntmps53
  go_wp2_with (go_at_call 74; refine (endIn _ _).mono ?_; rintro e w' ⟨rfl, rfl⟩)
  all_goals (go_ret; refine ⟨ret_int ?_, rfl⟩)
  all_goals (simp only [wrap_i64] at *; unfold cut64 cutI; first | omega | (unfold end64V; simp [*]; omega))


set_option maxHeartbeats 400000 in
theorem subIn (a b : Int) (w : World) (a1 : -9223372036854775808 ≤ a) (a2 : a ≤ 9223372036854775807) (b1 : -9223372036854775808 ≤ b) (b2 : b ≤ 9223372036854775807) :
    Calls Try.prog 54 #[.int .i64 a, .int .i64 b] w fun e w' => e = .returned (.int .i64 (cut64 (a - b))) ∧ w' = w := by
  go_enter Try.func54, Try.ntmps54
  go_wp2_with (go_at_call 74; refine (endIn _ _).mono ?_; rintro e w' ⟨rfl, rfl⟩)
  all_goals (go_ret; refine ⟨ret_int ?_, rfl⟩)
  all_goals (simp only [wrap_i64] at *; unfold cut64 cutI; first | omega | (unfold end64V; simp [*]; omega))


set_option maxHeartbeats 400000 in
theorem mulIn (a b : Int) (w : World) (a1 : -9223372036854775808 ≤ a) (a2 : a ≤ 9223372036854775807) (b1 : -9223372036854775808 ≤ b) (b2 : b ≤ 9223372036854775807) :
    Calls Try.prog 55 #[.int .i64 a, .int .i64 b] w fun e w' => e = .returned (.int .i64 (cut64 (a * b))) ∧ w' = w := by
  by_cases ha : a = 0
  · subst ha
    have z : cut64 (0 * b) = 0 := by rw [Int.zero_mul]; decide
    rw [z]
    go_enter Try.func55, Try.ntmps55
    go_wp2
    go_ret
    exact ⟨rfl, rfl⟩
  by_cases hb : b = 0
  · subst hb
    have z : cut64 (a * 0) = 0 := by rw [Int.mul_zero]; decide
    rw [z]
    go_enter Try.func55, Try.ntmps55
    go_wp2
    go_ret
    exact ⟨rfl, rfl⟩
  have ha0 : (a == 0) = false := by simpa using ha
  have hb0 : (b == 0) = false := by simpa using hb
  go_enter Try.func55, Try.ntmps55
  go_wp2_with (go_at_call 74; refine (endIn _ _).mono ?_; rintro e w' ⟨rfl, rfl⟩)
  all_goals (go_ret; refine ⟨ret_int ?_, rfl⟩)
  all_goals first | exact mulN64 a b a1 a2 b1 b2 ha hb ‹_› | exact mulYn64 a b a1 a2 b1 b2 ha hb ‹_› ‹_› | exact mulYy64 a b a1 a2 b1 b2 ha hb ‹_› ‹_›


set_option maxHeartbeats 400000 in
theorem negIn (a : Int) (w : World) (a1 : -9223372036854775808 ≤ a) (a2 : a ≤ 9223372036854775807) :
    Calls Try.prog 56 #[.int .i64 a] w fun e w' => e = .returned (.int .i64 (cut64 (-a))) ∧ w' = w := by
  go_enter Try.func56, Try.ntmps56
  go_wp2_with fail
  refine (subIn 0 a _ (by omega) (by omega) a1 a2).mono ?_
  rintro e w' ⟨rfl, rfl⟩
  go_wp2_with fail
  go_ret
  exact ⟨ret_int (by first | rfl | rw [Int.zero_sub]), rfl⟩


set_option maxHeartbeats 400000 in
theorem absIn (a : Int) (w : World) (a1 : -9223372036854775808 ≤ a) (a2 : a ≤ 9223372036854775807) :
    Calls Try.prog 57 #[.int .i64 a] w fun e w' => e = .returned (.int .i64 (cut64 a.natAbs)) ∧ w' = w := by
  by_cases h : a < 0
  · have z : cut64 a.natAbs = cut64 (-a) := by rw [show (a.natAbs : Int) = -a by omega]
    rw [z]
    clear z
    go_enter Try.func57, Try.ntmps57
    go_wp2_with fail
    refine (negIn a _ a1 a2).mono ?_
    rintro e w' ⟨rfl, rfl⟩
    go_wp2_with fail
    go_ret
    exact ⟨rfl, rfl⟩
  · have z : cut64 a.natAbs = a := by rw [show (a.natAbs : Int) = a by omega]; exact cut64_in _ a1 a2
    rw [z]
    clear z
    go_enter Try.func57, Try.ntmps57
    go_wp2
    go_ret
    exact ⟨rfl, rfl⟩


def div64VIn (a b : Int) : Int := if b = 0 then 0 else cut64 (a.tdiv b)
set_option maxHeartbeats 400000 in
theorem divIn (a b : Int) (w : World) (a1 : -9223372036854775808 ≤ a) (a2 : a ≤ 9223372036854775807) (b1 : -9223372036854775808 ≤ b) (b2 : b ≤ 9223372036854775807) :
    Calls Try.prog 51 #[.int .i64 a, .int .i64 b] w fun e w' => e = .returned (.tuple #[.int .i64 (div64VIn a b), .bool (nz b)]) ∧ w' = w := by
  by_cases hb : b = 0
  · subst hb
    have z : div64VIn a 0 = 0 := if_pos rfl
    rw [z, nz_no]
    go_enter Try.func51, Try.ntmps51
    go_wp2
    go_ret2
    exact ⟨rfl, rfl⟩
  rw [nz_yes b hb]
  by_cases hn : b = -1
  · subst hn
    have z : div64VIn a (-1) = cut64 (-a) := by unfold div64VIn; rw [if_neg (by decide), show a.tdiv (-1) = -a by rw [Int.tdiv_neg, Int.tdiv_one]]
    rw [z]
    clear z
    go_enter Try.func51, Try.ntmps51
    go_wp2_with fail
    refine (negIn a _ a1 a2).mono ?_
    rintro e w' ⟨rfl, rfl⟩
    go_wp2_with fail
    go_ret2
    exact ⟨rfl, rfl⟩
  have q := quo64_in a b a1 a2 hb hn
  have z : div64VIn a b = a.tdiv b := by unfold div64VIn; rw [if_neg hb]; exact cut64_in _ q.1 q.2
  rw [z]
  clear z
  obtain ⟨q1, q2⟩ := q
  go_enter Try.func51, Try.ntmps51
  go_wp2
  go_ret2
  exact ⟨rfl, rfl⟩


def rem64VIn (a b : Int) : Int := if b = 0 then 0 else a.tmod b
set_option maxHeartbeats 400000 in
theorem remIn (a b : Int) (w : World) (_a1 : -9223372036854775808 ≤ a) (_a2 : a ≤ 9223372036854775807) (b1 : -9223372036854775808 ≤ b) (b2 : b ≤ 9223372036854775807) :
    Calls Try.prog 52 #[.int .i64 a, .int .i64 b] w fun e w' => e = .returned (.tuple #[.int .i64 (rem64VIn a b), .bool (nz b)]) ∧ w' = w := by
  by_cases hb : b = 0
  · subst hb
    have z : rem64VIn a 0 = 0 := if_pos rfl
    rw [z, nz_no]
    go_enter Try.func52, Try.ntmps52
    go_wp2
    go_ret2
    exact ⟨rfl, rfl⟩
  rw [nz_yes b hb]
  have z : rem64VIn a b = a.tmod b := if_neg hb
  rw [z]
  clear z
  obtain ⟨q1, q2⟩ := rem64_in a b b1 b2 hb
  go_enter Try.func52, Try.ntmps52
  go_wp2
  go_ret2
  exact ⟨rfl, rfl⟩


set_option maxHeartbeats 400000 in
theorem clampIn (a b c : Int) (w : World) :
    Calls Try.prog 58 #[.int .i64 a, .int .i64 b, .int .i64 c] w fun e w' => e = .returned (.int .i64 (max b (min a c))) ∧ w' = w := by
  go_enter Try.func58, Try.ntmps58
  go_wp2
  all_goals (go_ret; exact ⟨ret_int (by omega), rfl⟩)


set_option maxHeartbeats 400000 in
theorem endOw (q : Bool) (w : World) :
    Calls Try.prog 75 #[.bool q] w fun e w' => e = .returned (.int .i16 (end16V q)) ∧ w' = w := by
  have i0 : ∀ w : World, (Instr.index 79 (.agg #[.int .i64 127, .int .i64 32767, .int .i64 2147483647, .int .i64 9223372036854775807]) (.int .i64 0)).run Try.prog w = .ok (.int .i64 127) w := fun _ => by kernel_rfl
  have i1 : ∀ w : World, (Instr.index 79 (.agg #[.int .i64 127, .int .i64 32767, .int .i64 2147483647, .int .i64 9223372036854775807]) (.int .i64 1)).run Try.prog w = .ok (.int .i64 32767) w := fun _ => by kernel_rfl
  have i2 : ∀ w : World, (Instr.index 79 (.agg #[.int .i64 127, .int .i64 32767, .int .i64 2147483647, .int .i64 9223372036854775807]) (.int .i64 2)).run Try.prog w = .ok (.int .i64 2147483647) w := fun _ => by kernel_rfl
  have i3 : ∀ w : World, (Instr.index 79 (.agg #[.int .i64 127, .int .i64 32767, .int .i64 2147483647, .int .i64 9223372036854775807]) (.int .i64 3)).run Try.prog w = .ok (.int .i64 9223372036854775807) w := fun _ => by kernel_rfl
  have k0 : IntKind.i16.wrap 127 = 127 := by rw [wrap_i16]; decide
  have k1 : IntKind.i16.wrap 32767 = 32767 := by rw [wrap_i16]; decide
  have k2 : IntKind.i16.wrap 2147483647 = -1 := by rw [wrap_i16]; decide
  have k3 : IntKind.i16.wrap 9223372036854775807 = -1 := by rw [wrap_i16]; decide
  cases q
  · rw [end16_f]
    go_enter Try.func75, Try.ntmps75
    go_wp2
    go_rounds 5
    go_ret
    exact ⟨rfl, rfl⟩
  · rw [end16_t]
    go_enter Try.func75, Try.ntmps75
    go_wp2
    go_rounds 5
    go_ret
    exact ⟨rfl, rfl⟩


set_option maxHeartbeats 400000 in
theorem addOw (a b : Int) (w : World) (a1 : -32768 ≤ a) (a2 : a ≤ 32767) (b1 : -32768 ≤ b) (b2 : b ≤ 32767) :
    Calls Try.prog 61 #[.int .i16 a, .int .i16 b] w fun e w' => e = .returned (.int .i16 (cut16 (a + b))) ∧ w' = w := by
  go_enter Try.func61, Try.ntmps61
  go_wp2_with (go_at_call 75; refine (endOw _ _).mono ?_; rintro e w' ⟨rfl, rfl⟩)
  all_goals (go_ret; refine ⟨ret_int ?_, rfl⟩)
  all_goals (simp only [wrap_i16] at *; unfold cut16 cutI; first | omega | (unfold end16V; simp [*]; omega))


set_option maxHeartbeats 400000 in
theorem subOw (a b : Int) (w : World) (a1 : -32768 ≤ a) (a2 : a ≤ 32767) (b1 : -32768 ≤ b) (b2 : b ≤ 32767) :
    Calls Try.prog 62 #[.int .i16 a, .int .i16 b] w fun e w' => e = .returned (.int .i16 (cut16 (a - b))) ∧ w' = w := by
  go_enter Try.func62, Try.ntmps62
  go_wp2_with (go_at_call 75; refine (endOw _ _).mono ?_; rintro e w' ⟨rfl, rfl⟩)
  all_goals (go_ret; refine ⟨ret_int ?_, rfl⟩)
  all_goals (simp only [wrap_i16] at *; unfold cut16 cutI; first | omega | (unfold end16V; simp [*]; omega))


set_option maxHeartbeats 400000 in
theorem mulOw (a b : Int) (w : World) (a1 : -32768 ≤ a) (a2 : a ≤ 32767) (b1 : -32768 ≤ b) (b2 : b ≤ 32767) :
    Calls Try.prog 63 #[.int .i16 a, .int .i16 b] w fun e w' => e = .returned (.int .i16 (cut16 (a * b))) ∧ w' = w := by
  by_cases ha : a = 0
  · subst ha
    have z : cut16 (0 * b) = 0 := by rw [Int.zero_mul]; decide
    rw [z]
    go_enter Try.func63, Try.ntmps63
    go_wp2
    go_ret
    exact ⟨rfl, rfl⟩
  by_cases hb : b = 0
  · subst hb
    have z : cut16 (a * 0) = 0 := by rw [Int.mul_zero]; decide
    rw [z]
    go_enter Try.func63, Try.ntmps63
    go_wp2
    go_ret
    exact ⟨rfl, rfl⟩
  have ha0 : (a == 0) = false := by simpa using ha
  have hb0 : (b == 0) = false := by simpa using hb
  go_enter Try.func63, Try.ntmps63
  go_wp2_with (go_at_call 75; refine (endOw _ _).mono ?_; rintro e w' ⟨rfl, rfl⟩)
  all_goals (go_ret; refine ⟨ret_int ?_, rfl⟩)
  all_goals first | exact mulN16 a b a1 a2 b1 b2 ha hb ‹_› | exact mulYn16 a b a1 a2 b1 b2 ha hb ‹_› ‹_› | exact mulYy16 a b a1 a2 b1 b2 ha hb ‹_› ‹_›


set_option maxHeartbeats 400000 in
theorem negOw (a : Int) (w : World) (a1 : -32768 ≤ a) (a2 : a ≤ 32767) :
    Calls Try.prog 64 #[.int .i16 a] w fun e w' => e = .returned (.int .i16 (cut16 (-a))) ∧ w' = w := by
  go_enter Try.func64, Try.ntmps64
  go_wp2_with fail
  refine (subOw 0 a _ (by omega) (by omega) a1 a2).mono ?_
  rintro e w' ⟨rfl, rfl⟩
  go_wp2_with fail
  go_ret
  exact ⟨ret_int (by first | rfl | rw [Int.zero_sub]), rfl⟩


set_option maxHeartbeats 400000 in
theorem absOw (a : Int) (w : World) (a1 : -32768 ≤ a) (a2 : a ≤ 32767) :
    Calls Try.prog 65 #[.int .i16 a] w fun e w' => e = .returned (.int .i16 (cut16 a.natAbs)) ∧ w' = w := by
  by_cases h : a < 0
  · have z : cut16 a.natAbs = cut16 (-a) := by rw [show (a.natAbs : Int) = -a by omega]
    rw [z]
    clear z
    go_enter Try.func65, Try.ntmps65
    go_wp2_with fail
    refine (negOw a _ a1 a2).mono ?_
    rintro e w' ⟨rfl, rfl⟩
    go_wp2_with fail
    go_ret
    exact ⟨rfl, rfl⟩
  · have z : cut16 a.natAbs = a := by rw [show (a.natAbs : Int) = a by omega]; exact cut16_in _ a1 a2
    rw [z]
    clear z
    go_enter Try.func65, Try.ntmps65
    go_wp2
    go_ret
    exact ⟨rfl, rfl⟩


def div16VOw (a b : Int) : Int := if b = 0 then 0 else cut16 (a.tdiv b)
set_option maxHeartbeats 400000 in
theorem divOw (a b : Int) (w : World) (a1 : -32768 ≤ a) (a2 : a ≤ 32767) (b1 : -32768 ≤ b) (b2 : b ≤ 32767) :
    Calls Try.prog 59 #[.int .i16 a, .int .i16 b] w fun e w' => e = .returned (.tuple #[.int .i16 (div16VOw a b), .bool (nz b)]) ∧ w' = w := by
  by_cases hb : b = 0
  · subst hb
    have z : div16VOw a 0 = 0 := if_pos rfl
    rw [z, nz_no]
    go_enter Try.func59, Try.ntmps59
    go_wp2
    go_ret2
    exact ⟨rfl, rfl⟩
  rw [nz_yes b hb]
  by_cases hn : b = -1
  · subst hn
    have z : div16VOw a (-1) = cut16 (-a) := by unfold div16VOw; rw [if_neg (by decide), show a.tdiv (-1) = -a by rw [Int.tdiv_neg, Int.tdiv_one]]
    rw [z]
    clear z
    go_enter Try.func59, Try.ntmps59
    go_wp2_with fail
    refine (negOw a _ a1 a2).mono ?_
    rintro e w' ⟨rfl, rfl⟩
    go_wp2_with fail
    go_ret2
    exact ⟨rfl, rfl⟩
  have q := quo16_in a b a1 a2 hb hn
  have z : div16VOw a b = a.tdiv b := by unfold div16VOw; rw [if_neg hb]; exact cut16_in _ q.1 q.2
  rw [z]
  clear z
  obtain ⟨q1, q2⟩ := q
  go_enter Try.func59, Try.ntmps59
  go_wp2
  go_ret2
  exact ⟨rfl, rfl⟩


def rem16VOw (a b : Int) : Int := if b = 0 then 0 else a.tmod b
set_option maxHeartbeats 400000 in
theorem remOw (a b : Int) (w : World) (_a1 : -32768 ≤ a) (_a2 : a ≤ 32767) (b1 : -32768 ≤ b) (b2 : b ≤ 32767) :
    Calls Try.prog 60 #[.int .i16 a, .int .i16 b] w fun e w' => e = .returned (.tuple #[.int .i16 (rem16VOw a b), .bool (nz b)]) ∧ w' = w := by
  by_cases hb : b = 0
  · subst hb
    have z : rem16VOw a 0 = 0 := if_pos rfl
    rw [z, nz_no]
    go_enter Try.func60, Try.ntmps60
    go_wp2
    go_ret2
    exact ⟨rfl, rfl⟩
  rw [nz_yes b hb]
  have z : rem16VOw a b = a.tmod b := if_neg hb
  rw [z]
  clear z
  obtain ⟨q1, q2⟩ := rem16_in a b b1 b2 hb
  go_enter Try.func60, Try.ntmps60
  go_wp2
  go_ret2
  exact ⟨rfl, rfl⟩


set_option maxHeartbeats 400000 in
theorem clampOw (a b c : Int) (w : World) :
    Calls Try.prog 66 #[.int .i16 a, .int .i16 b, .int .i16 c] w fun e w' => e = .returned (.int .i16 (max b (min a c))) ∧ w' = w := by
  go_enter Try.func66, Try.ntmps66
  go_wp2
  all_goals (go_ret; exact ⟨ret_int (by omega), rfl⟩)


set_option maxHeartbeats 400000 in
theorem toI8I64 (a : Int) (w : World) (a1 : -9223372036854775808 ≤ a) (a2 : a ≤ 9223372036854775807) :
    Calls Try.prog 67 #[.int .i64 a] w fun e w' => e = .returned (.int .i8 (cut8 a)) ∧ w' = w := by
  by_cases r : -128 ≤ a ∧ a ≤ 127
  · obtain ⟨r1, r2⟩ := r
    rw [cut8_in a r1 r2]
    go_enter Try.func67, Try.ntmps67
    go_wp2
    go_ret
    exact ⟨rfl, rfl⟩
  · have c1 : -128 ≤ IntKind.i8.wrap a ∧ IntKind.i8.wrap a ≤ 127 := by rw [wrap_i8]; omega
    obtain ⟨c1, c2⟩ := c1
    have d : (IntKind.i8.wrap a != a) = true := by rw [bne_iff_ne]; omega
    by_cases s : a < 0
    · rw [cut8_lo a (by omega), ← end8_t]
      go_enter Try.func67, Try.ntmps67
      go_wp2_with (go_at_call 69; refine (endI8 _ _).mono ?_; rintro e w' ⟨rfl, rfl⟩)
      go_ret
      exact ⟨rfl, rfl⟩
    · rw [cut8_hi a (by omega), ← end8_f]
      go_enter Try.func67, Try.ntmps67
      go_wp2_with (go_at_call 69; refine (endI8 _ _).mono ?_; rintro e w' ⟨rfl, rfl⟩)
      go_ret
      exact ⟨rfl, rfl⟩

end Go.Proofs.Ythanbiblikkimaa
