/-
  The last four things.
-/
import Derived.Test.YtmpamcdobhiipaaGreatDoorGeQ
import Derived.Test.YtmpamcdobhiipaaGreatDoorLastQ
namespace Go.Proofs.YtmpamcdobhiipaaGreatDoor
open Go.RowKit
attribute [local go_sem ↓] Go.wp_at_zero Go.wp_at_succ


namespace ST
def LaPost (w : World) (R : Value) (e : Ending) (w' : World) : Prop := e = .returned R ∧ Up w w'
def last4 (s : Stt) : Value := .agg #[.bool (decide (1 ≤ s.turn)), .bool (numB s.whose s.ps.length), .bool (finB s), .bool (winB s)]
set_option maxRecDepth 100000 in
set_option maxHeartbeats 2000000 in
theorem lastThings_ (v : Value) (s : Stt) (w : World) (hs : StL w v s) : Calls Tryz.prog 78 #[v] w fun e w' => LaPost w (last4 s) e w' := by
  obtain ⟨vp, vc, vz, rfl, h1, -, -⟩ := hs
  obtain ⟨a1, k1, rfl, -, -⟩ := lc_at h1
  clear h1
  unfold sv
  obtain ⟨np, hnp⟩ : ∃ n, n = s.ps.length := ⟨_, rfl⟩
  obtain ⟨B, hB⟩ : ∃ b, numB s.whose s.ps.length = b := ⟨_, rfl⟩
  obtain ⟨fin, hfin⟩ : ∃ z, z = s.fin := ⟨_, rfl⟩
  have HR : Hid (last4 s = .agg #[.bool (decide (1 ≤ s.turn)), .bool B, .bool (finB s), .bool (winB s)]) := by unfold Hid; rw [← hB]; rfl
  generalize last4 s = R at HR ⊢
  have HB : Hid (numB s.whose np = B) := by unfold Hid; rw [hnp]; exact hB
  have HF : Hid (fin = s.fin) := hfin
  have HN : Hid (np = s.ps.length) := hnp
  rw [← hnp, ← hfin]
  generalize s.whose = whose at *
  by_cases f1 : fin = 1
  · subst f1
    obtain ⟨C, hC⟩ : ∃ b, numB s.winner np = b := ⟨_, rfl⟩
    have HC : Hid (numB s.winner np = C) := hC
    have HW : Hid (winB s = C) := by unfold Hid; rw [winB, ← HF.out, if_pos rfl, ← HN.out]; exact hC
    have HE : Hid (finB s = true) := by unfold Hid; rw [finB, ← HF.out]; rfl
    clear hB hnp hfin hC HF HN
    generalize s.winner = winner at *
    generalize s.turn = turn at *
    go_enter Tryz.func78, Tryz.ntmps78
    go_wp2_with fail
    refine Calls.mono (isNumberB _ _ C HC.out _) ?_
    rintro e w1 ⟨rfl, rfl⟩
    go_wp2_with fail
    refine wp_region_last 22 (by kernel_rfl) (by kernel_rfl) ?_
    simp only [List.take_succ_cons, List.take_zero, List.drop_succ_cons, List.drop_zero]
    repeat (go_big_quiet_step (exact Calls.quiet_of_same (isNumberB _ _ B HB.out _)))
    refine wpQuiet_nil ?_
    intro _ hw'
    obtain ⟨nq, hw''⟩ := hw'
    subst hw''
    go_wp2
    refine bodyPost_ret (v := .agg #[.bool (decide (1 ≤ turn)), .bool B, .bool true, .bool C]) (by simp [results, Tryz.results78, go_sem]) rfl ?_
    refine ⟨?_, ?_⟩
    · rw [HR.out, HW.out, HE.out]
    · repeat (first | with_reducible exact Up.refl _ | with_reducible apply Up.alloc | with_reducible apply Up.drewN | with_reducible apply Up.drew | with_reducible refine Up.set ?_ _ _ (by first | exact Nat.le_refl _ | exact Nat.le_succ _ | (simp; omega)))
  · have HW : Hid (winB s = decide (s.winner = 0)) := by unfold Hid; rw [winB, ← HF.out, if_neg f1]
    have HE : Hid (finB s = (decide (fin = 0) || decide (fin = 2))) := by unfold Hid; rw [finB, ← HF.out]; simp [f1]
    have b1 : (fin == 1) = false := by simpa using f1
    clear hB hnp hfin HF HN
    generalize s.winner = winner at *
    generalize s.turn = turn at *
    by_cases f0 : fin = 0
    · subst f0
      go_enter Tryz.func78, Tryz.ntmps78
      go_wp2_with fail
      refine wp_region_last 22 (by kernel_rfl) (by kernel_rfl) ?_
      simp only [List.take_succ_cons, List.take_zero, List.drop_succ_cons, List.drop_zero]
      repeat (go_big_quiet_step (exact Calls.quiet_of_same (isNumberB _ _ B HB.out _)))
      refine wpQuiet_nil ?_
      intro _ hw'
      obtain ⟨nq, hw''⟩ := hw'
      subst hw''
      go_wp2
      refine bodyPost_ret (v := .agg #[.bool (decide (1 ≤ turn)), .bool B, .bool true, .bool (winner == 0)]) (by simp [results, Tryz.results78, go_sem]) rfl ?_
      refine ⟨?_, ?_⟩
      · rw [HR.out, HW.out, HE.out]; rfl
      · repeat (first | with_reducible exact Up.refl _ | with_reducible apply Up.alloc | with_reducible apply Up.drewN | with_reducible apply Up.drew | with_reducible refine Up.set ?_ _ _ (by first | exact Nat.le_refl _ | exact Nat.le_succ _ | (simp; omega)))
    · have b0 : (fin == 0) = false := by simpa using f0
      by_cases f2 : fin = 2
      · subst f2
        go_enter Tryz.func78, Tryz.ntmps78
        go_wp2_with fail
        refine wp_region_last 22 (by kernel_rfl) (by kernel_rfl) ?_
        simp only [List.take_succ_cons, List.take_zero, List.drop_succ_cons, List.drop_zero]
        repeat (go_big_quiet_step (exact Calls.quiet_of_same (isNumberB _ _ B HB.out _)))
        refine wpQuiet_nil ?_
        intro _ hw'
        obtain ⟨nq, hw''⟩ := hw'
        subst hw''
        go_wp2
        refine bodyPost_ret (v := .agg #[.bool (decide (1 ≤ turn)), .bool B, .bool true, .bool (winner == 0)]) (by simp [results, Tryz.results78, go_sem]) rfl ?_
        refine ⟨?_, ?_⟩
        · rw [HR.out, HW.out, HE.out]; rfl
        · repeat (first | with_reducible exact Up.refl _ | with_reducible apply Up.alloc | with_reducible apply Up.drewN | with_reducible apply Up.drew | with_reducible refine Up.set ?_ _ _ (by first | exact Nat.le_refl _ | exact Nat.le_succ _ | (simp; omega)))
      · have b2 : (fin == 2) = false := by simpa using f2
        go_enter Tryz.func78, Tryz.ntmps78
        go_wp2_with fail
        refine wp_region_last 22 (by kernel_rfl) (by kernel_rfl) ?_
        simp only [List.take_succ_cons, List.take_zero, List.drop_succ_cons, List.drop_zero]
        repeat (go_big_quiet_step (exact Calls.quiet_of_same (isNumberB _ _ B HB.out _)))
        refine wpQuiet_nil ?_
        intro _ hw'
        obtain ⟨nq, hw''⟩ := hw'
        subst hw''
        go_wp2
        refine bodyPost_ret (v := .agg #[.bool (decide (1 ≤ turn)), .bool B, .bool false, .bool (winner == 0)]) (by simp [results, Tryz.results78, go_sem]) rfl ?_
        refine ⟨?_, ?_⟩
        · rw [HR.out, HW.out, HE.out]; simp [f0, f2]; rfl
        · repeat (first | with_reducible exact Up.refl _ | with_reducible apply Up.alloc | with_reducible apply Up.drewN | with_reducible apply Up.drew | with_reducible refine Up.set ?_ _ _ (by first | exact Nat.le_refl _ | exact Nat.le_succ _ | (simp; omega)))
end ST
end Go.Proofs.YtmpamcdobhiipaaGreatDoor
