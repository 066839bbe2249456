/-
  What each function of package sat answers, kind by kind, as contracts over the seat's program: the whole number cut to the kind's ends; memory stands as it stood.
-/
import Derived.Test.YtjabjiahienohaaGreatDoorProg
import Derived.Test.YtjabjiahienohaaGreatDoorNumQ
import Derived.Test.YtjabjiahienohaaGreatDoorBaseToLc
import Derived.WalkSpells
import Derived.WalkLawsBesides
import Derived.Handy
namespace Go.Proofs.YtjabjiahienohaaGreatDoor
open Go.RowKit


set_option maxHeartbeats 400000 in
theorem endI64 (q : Bool) (w : World) :
    Calls Tryz.prog 201 #[.bool q] w fun e w' => e = .returned (.int .i64 (end64V q)) ∧ w' = w := by
  have i0 : ∀ w : World, (Instr.index 221 (.agg #[.int .i64 127, .int .i64 32767, .int .i64 2147483647, .int .i64 9223372036854775807]) (.int .i64 0)).run Tryz.prog w = .ok (.int .i64 127) w := fun _ => by kernel_rfl
  have i1 : ∀ w : World, (Instr.index 221 (.agg #[.int .i64 127, .int .i64 32767, .int .i64 2147483647, .int .i64 9223372036854775807]) (.int .i64 1)).run Tryz.prog w = .ok (.int .i64 32767) w := fun _ => by kernel_rfl
  have i2 : ∀ w : World, (Instr.index 221 (.agg #[.int .i64 127, .int .i64 32767, .int .i64 2147483647, .int .i64 9223372036854775807]) (.int .i64 2)).run Tryz.prog w = .ok (.int .i64 2147483647) w := fun _ => by kernel_rfl
  have i3 : ∀ w : World, (Instr.index 221 (.agg #[.int .i64 127, .int .i64 32767, .int .i64 2147483647, .int .i64 9223372036854775807]) (.int .i64 3)).run Tryz.prog w = .ok (.int .i64 9223372036854775807) w := fun _ => by kernel_rfl
  cases q
  · rw [end64_f]
    go_enter Tryz.func201, Tryz.ntmps201
    go_wp2
    go_rounds 5
    go_ret
    exact ⟨rfl, rfl⟩
  · rw [end64_t]
    go_enter Tryz.func201, Tryz.ntmps201
    go_wp2
    go_rounds 5
    go_ret
    exact ⟨rfl, rfl⟩


set_option maxHeartbeats 400000 in
theorem addI64 (a b : Int) (w : World) (a1 : -9223372036854775808 ≤ a) (a2 : a ≤ 9223372036854775807) (b1 : -9223372036854775808 ≤ b) (b2 : b ≤ 9223372036854775807) :
    Calls Tryz.prog 172 #[.int .i64 a, .int .i64 b] w fun e w' => e = .returned (.int .i64 (cut64 (a + b))) ∧ w' = w := by
  go_enter Tryz.func172, Tryz.ntmps172
  go_wp2_with (go_at_call 201; refine (endI64 _ _).mono ?_; rintro e w' ⟨rfl, rfl⟩)
  all_goals (go_ret; refine ⟨ret_int ?_, rfl⟩)
  all_goals (simp only [wrap_i64] at *; unfold cut64 cutI; first | omega | (unfold end64V; simp [*]; omega))


set_option maxHeartbeats 400000 in
theorem clampI64 (a b c : Int) (w : World) :
    Calls Tryz.prog 171 #[.int .i64 a, .int .i64 b, .int .i64 c] w fun e w' => e = .returned (.int .i64 (max b (min a c))) ∧ w' = w := by
  go_enter Tryz.func171, Tryz.ntmps171
  go_wp2
  all_goals (go_ret; exact ⟨ret_int (by omega), rfl⟩)

end Go.Proofs.YtjabjiahienohaaGreatDoor
