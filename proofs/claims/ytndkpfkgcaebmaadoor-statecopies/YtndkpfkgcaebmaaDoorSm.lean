/-
  The program's small questions: stats, numbers, sizes.
-/
import Derived.Test.YtndkpfkgcaebmaaDoorMem
namespace Go.Proofs.YtndkpfkgcaebmaaDoor
open Go.RowKit
attribute [local go_sem ↓] Go.wp_at_zero Go.wp_at_succ

namespace ST
set_option maxHeartbeats 1000000 in
theorem isStat_ (n : Int) (w : World) : Calls Tryd.prog 67 #[.int .i32 n] w fun e w' => e = .returned (.bool (statB n)) ∧ w' = w := by
  by_cases h1 : -1000000000 ≤ n
  · by_cases h2 : n ≤ 1000000000
    · go_enter Tryd.func67, Tryd.ntmps67
      go_wp2
      go_ret
      exact ⟨by simp [statB, h1, h2], rfl⟩
    · go_enter Tryd.func67, Tryd.ntmps67
      go_wp2
      go_ret
      exact ⟨by simp [statB, h2], rfl⟩
  · go_enter Tryd.func67, Tryd.ntmps67
    go_wp2
    go_ret
    exact ⟨by simp [statB]; omega, rfl⟩
set_option maxHeartbeats 1000000 in
theorem isNumber_ (x : Int) (n : Nat) (w : World) : Calls Tryd.prog 85 #[.int .i64 x, .int .i64 n] w fun e w' => e = .returned (.bool (numB x n)) ∧ w' = w := by
  by_cases h1 : 0 ≤ x
  · by_cases h2 : x < (n : Int)
    · go_enter Tryd.func85, Tryd.ntmps85
      go_wp2
      go_ret
      exact ⟨by simp [numB, h1, h2], rfl⟩
    · go_enter Tryd.func85, Tryd.ntmps85
      go_wp2
      go_ret
      exact ⟨by simp [numB, h2], rfl⟩
  · go_enter Tryd.func85, Tryd.ntmps85
    go_wp2
    go_ret
    exact ⟨by simp [numB]; omega, rfl⟩
set_option maxHeartbeats 1000000 in
theorem playersFit_ (n : Nat) (w : World) : Calls Tryd.prog 80 #[.int .i64 n] w fun e w' => e = .returned (.bool (npB n)) ∧ w' = w := by
  by_cases h1 : 2 ≤ n
  · have h1' : (2 : Int) ≤ (n : Int) := by omega
    by_cases h2 : n ≤ 4
    · have h2' : (n : Int) ≤ 4 := by omega
      go_enter Tryd.func80, Tryd.ntmps80
      go_wp2
      go_ret
      exact ⟨by simp [npB, h1, h2], rfl⟩
    · have h2' : ¬ (n : Int) ≤ 4 := by omega
      go_enter Tryd.func80, Tryd.ntmps80
      go_wp2
      go_ret
      exact ⟨by simp [npB, h2], rfl⟩
  · have h1' : ¬ (2 : Int) ≤ (n : Int) := by omega
    go_enter Tryd.func80, Tryd.ntmps80
    go_wp2
    go_ret
    exact ⟨by simp [npB, h1], rfl⟩
set_option maxHeartbeats 1000000 in
theorem cardsFit_ (n : Nat) (w : World) : Calls Tryd.prog 81 #[.int .i64 n] w fun e w' => e = .returned (.bool (ncB n)) ∧ w' = w := by
  by_cases h1 : 1 ≤ n
  · have h1' : (1 : Int) ≤ (n : Int) := by omega
    by_cases h2 : n ≤ 256
    · have h2' : (n : Int) ≤ 256 := by omega
      go_enter Tryd.func81, Tryd.ntmps81
      go_wp2
      go_ret
      exact ⟨by simp [ncB, h1, h2], rfl⟩
    · have h2' : ¬ (n : Int) ≤ 256 := by omega
      go_enter Tryd.func81, Tryd.ntmps81
      go_wp2
      go_ret
      exact ⟨by simp [ncB, h2], rfl⟩
  · have h1' : ¬ (1 : Int) ≤ (n : Int) := by omega
    go_enter Tryd.func81, Tryd.ntmps81
    go_wp2
    go_ret
    exact ⟨by simp [ncB, h1], rfl⟩
theorem isStatB (n : Int) (b : Bool) (h : statB n = b) (w : World) : Calls Tryd.prog 67 #[.int .i32 n] w fun e w' => e = .returned (.bool b) ∧ w' = w := by subst h; exact isStat_ n w
theorem isNumberB (x : Int) (n : Nat) (b : Bool) (h : numB x n = b) (w : World) : Calls Tryd.prog 85 #[.int .i64 x, .int .i64 n] w fun e w' => e = .returned (.bool b) ∧ w' = w := by subst h; exact isNumber_ x n w
theorem isNumberC (x : Int) (b : Bool) (h : numB x 256 = b) (w : World) : Calls Tryd.prog 85 #[.int .i64 x, .int .i64 256] w fun e w' => e = .returned (.bool b) ∧ w' = w := by subst h; exact isNumber_ x 256 w
theorem playersFitB (n : Nat) (b : Bool) (h : npB n = b) (w : World) : Calls Tryd.prog 80 #[.int .i64 n] w fun e w' => e = .returned (.bool b) ∧ w' = w := by subst h; exact playersFit_ n w
theorem cardsFitB (n : Nat) (b : Bool) (h : ncB n = b) (w : World) : Calls Tryd.prog 81 #[.int .i64 n] w fun e w' => e = .returned (.bool b) ∧ w' = w := by subst h; exact cardsFit_ n w
def cag (c : Crd) : Value := .agg #[.int .i64 c.kind, .int .i64 c.owner, .int .i32 c.power, .int .i32 c.health, .int .i32 c.damage, .int .i32 c.marks]
set_option maxHeartbeats 2000000 in
theorem cardFits_ (c : Crd) (w : World) : Calls Tryd.prog 82 #[cag c] w fun e w' => e = .returned (.bool (crd0B c)) ∧ Up w w' := by
  unfold cag
  cases h0 : numB c.kind 256
  · go_enter Tryd.func82, Tryd.ntmps82
    go_wp2_with fail
    refine Calls.mono (isNumberC _ false h0 _) ?_
    rintro e w1 ⟨rfl, rfl⟩
    go_wp2
    go_ret
    exact ⟨by simp [crd0B, h0], (Up.refl _).alloc _⟩
  · cases h1 : statB c.power
    · go_enter Tryd.func82, Tryd.ntmps82
      go_wp2_with fail
      refine Calls.mono (isNumberC _ true h0 _) ?_
      rintro e w1 ⟨rfl, rfl⟩
      go_wp2_with fail
      refine Calls.mono (isStatB _ false h1 _) ?_
      rintro e w2 ⟨rfl, rfl⟩
      go_wp2
      go_ret
      exact ⟨by simp [crd0B, h1], (Up.refl _).alloc _⟩
    · cases h2 : statB c.health
      · go_enter Tryd.func82, Tryd.ntmps82
        go_wp2_with fail
        refine Calls.mono (isNumberC _ true h0 _) ?_
        rintro e w1 ⟨rfl, rfl⟩
        go_wp2_with fail
        refine Calls.mono (isStatB _ true h1 _) ?_
        rintro e w2 ⟨rfl, rfl⟩
        go_wp2_with fail
        refine Calls.mono (isStatB _ false h2 _) ?_
        rintro e w3 ⟨rfl, rfl⟩
        go_wp2
        go_ret
        exact ⟨by simp [crd0B, h2], (Up.refl _).alloc _⟩
      · cases h3 : statB c.damage
        · go_enter Tryd.func82, Tryd.ntmps82
          go_wp2_with fail
          refine Calls.mono (isNumberC _ true h0 _) ?_
          rintro e w1 ⟨rfl, rfl⟩
          go_wp2_with fail
          refine Calls.mono (isStatB _ true h1 _) ?_
          rintro e w2 ⟨rfl, rfl⟩
          go_wp2_with fail
          refine Calls.mono (isStatB _ true h2 _) ?_
          rintro e w3 ⟨rfl, rfl⟩
          go_wp2_with fail
          refine Calls.mono (isStatB _ false h3 _) ?_
          rintro e w4 ⟨rfl, rfl⟩
          go_wp2
          go_ret
          exact ⟨by simp [crd0B, h3], (Up.refl _).alloc _⟩
        · cases h4 : statB c.marks
          · go_enter Tryd.func82, Tryd.ntmps82
            go_wp2_with fail
            refine Calls.mono (isNumberC _ true h0 _) ?_
            rintro e w1 ⟨rfl, rfl⟩
            go_wp2_with fail
            refine Calls.mono (isStatB _ true h1 _) ?_
            rintro e w2 ⟨rfl, rfl⟩
            go_wp2_with fail
            refine Calls.mono (isStatB _ true h2 _) ?_
            rintro e w3 ⟨rfl, rfl⟩
            go_wp2_with fail
            refine Calls.mono (isStatB _ true h3 _) ?_
            rintro e w4 ⟨rfl, rfl⟩
            go_wp2_with fail
            refine Calls.mono (isStatB _ false h4 _) ?_
            rintro e w5 ⟨rfl, rfl⟩
            go_wp2
            go_ret
            exact ⟨by simp [crd0B, h4], (Up.refl _).alloc _⟩
          · go_enter Tryd.func82, Tryd.ntmps82
            go_wp2_with fail
            refine Calls.mono (isNumberC _ true h0 _) ?_
            rintro e w1 ⟨rfl, rfl⟩
            go_wp2_with fail
            refine Calls.mono (isStatB _ true h1 _) ?_
            rintro e w2 ⟨rfl, rfl⟩
            go_wp2_with fail
            refine Calls.mono (isStatB _ true h2 _) ?_
            rintro e w3 ⟨rfl, rfl⟩
            go_wp2_with fail
            refine Calls.mono (isStatB _ true h3 _) ?_
            rintro e w4 ⟨rfl, rfl⟩
            go_wp2_with fail
            refine Calls.mono (isStatB _ true h4 _) ?_
            rintro e w5 ⟨rfl, rfl⟩
            go_wp2
            go_ret
            exact ⟨by simp [crd0B, h0, h1, h2, h3, h4], (Up.refl _).alloc _⟩
theorem cardFitsB (c : Crd) (b : Bool) (h : crd0B c = b) (w : World) : Calls Tryd.prog 82 #[cag c] w fun e w' => e = .returned (.bool b) ∧ Up w w' := by subst h; exact cardFits_ c w
set_option maxHeartbeats 2000000 in
theorem sizesFit_ (v : Value) (s : Stt) (w : World) (hs : StL w v s) (hn : s.ps.length ≤ 4294967296) : Calls Tryd.prog 84 #[v] w fun e w' => e = .returned (.bool (sizesB s)) ∧ Up w w' := by
  obtain ⟨vp, vc, vz, rfl, h1, h2, h3⟩ := hs
  obtain ⟨a1, k1, rfl, -, -⟩ := lc_at h1
  obtain ⟨a2, k2, rfl, -, -⟩ := lc_at h2
  obtain ⟨vs, h3, -⟩ := h3
  obtain ⟨a3, k3, rfl, -, -⟩ := lc_at h3
  clear h1 h2 h3
  unfold sv
  obtain ⟨np, hnp⟩ : ∃ n, n = s.ps.length := ⟨_, rfl⟩
  obtain ⟨nc, hnc⟩ : ∃ n, n = s.cs.length := ⟨_, rfl⟩
  obtain ⟨nz, hnz⟩ : ∃ n, n = s.zs.length := ⟨_, rfl⟩
  have HR : Hid (sizesB s = (npB np && ncB nc && decide (nz = 4 * np))) := by unfold Hid; rw [hnp, hnc, hnz]; rfl
  rw [← hnp] at hn ⊢
  rw [← hnc, ← hnz]
  generalize sizesB s = R at HR ⊢
  clear hnp hnc hnz
  cases e1 : npB np
  · go_enter Tryd.func84, Tryd.ntmps84
    go_wp2_with fail
    go_quiet (fail)
    go_wp2_with fail
    refine Calls.mono (playersFitB _ false e1 _) ?_
    rintro e w1 ⟨rfl, rfl⟩
    go_wp2
    go_ret
    exact ⟨by rw [HR.out, e1]; rfl, ((Up.refl _).alloc _).drewN _⟩
  · cases e2 : ncB nc
    · go_enter Tryd.func84, Tryd.ntmps84
      go_wp2_with fail
      go_quiet (fail)
      go_wp2_with fail
      refine Calls.mono (playersFitB _ true e1 _) ?_
      rintro e w1 ⟨rfl, rfl⟩
      go_wp2_with fail
      refine Calls.mono (cardsFitB _ false e2 _) ?_
      rintro e w1 ⟨rfl, rfl⟩
      go_wp2
      go_ret
      exact ⟨by rw [HR.out, e1, e2]; rfl, ((Up.refl _).alloc _).drewN _⟩
    · by_cases e3 : nz = 4 * np
      · have e3' : ((nz : Int) == 4 * (np : Int)) = true := by simp; omega
        go_enter Tryd.func84, Tryd.ntmps84
        go_wp2_with fail
        go_quiet (fail)
        go_wp2_with fail
        refine Calls.mono (playersFitB _ true e1 _) ?_
        rintro e w1 ⟨rfl, rfl⟩
        go_wp2_with fail
        refine Calls.mono (cardsFitB _ true e2 _) ?_
        rintro e w1 ⟨rfl, rfl⟩
        go_wp2
        go_ret
        exact ⟨by rw [HR.out, e1, e2]; simp [e3], ((Up.refl _).alloc _).drewN _⟩
      · have e3' : ((nz : Int) == 4 * (np : Int)) = false := by simp; omega
        go_enter Tryd.func84, Tryd.ntmps84
        go_wp2_with fail
        go_quiet (fail)
        go_wp2_with fail
        refine Calls.mono (playersFitB _ true e1 _) ?_
        rintro e w1 ⟨rfl, rfl⟩
        go_wp2_with fail
        refine Calls.mono (cardsFitB _ true e2 _) ?_
        rintro e w1 ⟨rfl, rfl⟩
        go_wp2
        go_ret
        exact ⟨by rw [HR.out, e1, e2]; simp [e3], ((Up.refl _).alloc _).drewN _⟩
end ST
end Go.Proofs.YtndkpfkgcaebmaaDoor
