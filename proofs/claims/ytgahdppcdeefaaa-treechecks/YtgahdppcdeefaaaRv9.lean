/-
  What is wanted at a place: the document's.
-/
import Derived.Test.YtgahdppcdeefaaaRt9
namespace Go.Proofs.Ytgahdppcdeefaaa
open Go.RowKit
attribute [local go_sem ↓] Go.wp_at_zero Go.wp_at_succ
namespace TR
def rExpr (op : Int) : Bool := decide (30 ≤ op) && decide (op ≤ 50)
def rWant (op want : Int) : Bool :=
  if want = 0 then op == 1
  else if want = 1 then op == 2
  else if want = 2 then decide (3 ≤ op) && decide (op ≤ 7)
  else if want = 3 then rExpr op
  else if want = 4 then op == 10
  else if want = 5 then decide (11 ≤ op) && decide (op ≤ 19)
  else if want = 6 then op == 10 || op == 13
  else rExpr op || (op == 51 || op == 52)
theorem expr_ (op : Int) (w : World) : Calls Try.prog 43 #[.int .i8 op] w fun e w' => e = .returned (.bool (rExpr op)) ∧ w' = w := by
  go_enter Try.func43, Try.ntmps43
  go_wp2
  all_goals (go_ret; refine ⟨?_, rfl⟩; unfold rExpr; first | (simp_all; done) | (simp_all; omega))
set_option maxRecDepth 100000 in
set_option maxHeartbeats 16000000 in
theorem wanted_ (op want : Int) (w : World) (h : want = 0 ∨ want = 1 ∨ want = 2 ∨ want = 3 ∨ want = 4 ∨ want = 5 ∨ want = 6 ∨ want = 7) : Calls Try.prog 36 #[.int .i8 op, .int .i64 want] w fun e w' => e = .returned (.bool (rWant op want)) ∧ w' = w := by
  obtain ⟨Post, hPost⟩ : ∃ P : Ending → World → Prop, P = fun e w' => e = .returned (.bool (rWant op want)) ∧ w' = w := ⟨_, rfl⟩
  rw [← hPost]
  have HPo : Hid (Post = fun e w' => e = .returned (.bool (rWant op want)) ∧ w' = w) := hPost
  clear hPost
  rcases h with rfl | rfl | rfl | rfl | rfl | rfl | rfl | rfl
  · go_enter Try.func36, Try.ntmps36
    go_wp2_with fail
    all_goals rw [HPo.out]
    all_goals (refine ⟨?_, rfl⟩; unfold rWant; first | (simp_all; done) | (simp_all; omega) | (simp_all [rExpr]; omega))
  · go_enter Try.func36, Try.ntmps36
    go_wp2_with fail
    all_goals rw [HPo.out]
    all_goals (refine ⟨?_, rfl⟩; unfold rWant; first | (simp_all; done) | (simp_all; omega) | (simp_all [rExpr]; omega))
  · go_enter Try.func36, Try.ntmps36
    go_wp2_with fail
    all_goals rw [HPo.out]
    all_goals (refine ⟨?_, rfl⟩; unfold rWant; first | (simp_all; done) | (simp_all; omega) | (simp_all [rExpr]; omega))
  · go_enter Try.func36, Try.ntmps36
    go_wp2_with fail
    refine Calls.mono (expr_ op w) ?_
    rintro e w1 ⟨rfl, hw⟩
    obtain rfl := hw.symm
    clear hw
    generalize hq : rExpr op = q at *
    cases q <;> go_wp2_with fail
    all_goals rw [HPo.out]
    all_goals (refine ⟨?_, rfl⟩; unfold rWant; first | (simp_all; done) | (simp_all; omega) | (simp_all [rExpr]; omega))
  · go_enter Try.func36, Try.ntmps36
    go_wp2_with fail
    all_goals rw [HPo.out]
    all_goals (refine ⟨?_, rfl⟩; unfold rWant; first | (simp_all; done) | (simp_all; omega) | (simp_all [rExpr]; omega))
  · go_enter Try.func36, Try.ntmps36
    go_wp2_with fail
    all_goals rw [HPo.out]
    all_goals (refine ⟨?_, rfl⟩; unfold rWant; first | (simp_all; done) | (simp_all; omega) | (simp_all [rExpr]; omega))
  · go_enter Try.func36, Try.ntmps36
    go_wp2_with fail
    all_goals rw [HPo.out]
    all_goals (refine ⟨?_, rfl⟩; unfold rWant; first | (simp_all; done) | (simp_all; omega) | (simp_all [rExpr]; omega))
  · go_enter Try.func36, Try.ntmps36
    go_wp2_with fail
    refine Calls.mono (expr_ op w) ?_
    rintro e w1 ⟨rfl, hw⟩
    obtain rfl := hw.symm
    clear hw
    generalize hq : rExpr op = q at *
    cases q <;> go_wp2_with fail
    all_goals rw [HPo.out]
    all_goals (refine ⟨?_, rfl⟩; unfold rWant; first | (simp_all; done) | (simp_all; omega) | (simp_all [rExpr]; omega))
end TR
end Go.Proofs.Ytgahdppcdeefaaa
