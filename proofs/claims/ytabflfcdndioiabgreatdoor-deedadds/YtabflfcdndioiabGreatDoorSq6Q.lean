/-
  stopped: whether a field stands at an end of the stats.
-/
import Derived.Test.YtabflfcdndioiabGreatDoorPx6ToAq6
namespace Go.Proofs.YtabflfcdndioiabGreatDoor
open Go.RowKit
attribute [local go_sem ↓] Go.wp_at_zero Go.wp_at_succ

namespace DE
open Go.Proofs.YtabflfcdndioiabGreatDoor.ST
def endB (y : Int) : Bool := decide (y = 1000000000) || decide (y = -1000000000)
theorem cget_cases {c : Crd} {f y : Int} (h : cGet c f = some y) : (f = 1 ∧ c.power = y) ∨ (f = 2 ∧ c.health = y) ∨ (f = 3 ∧ c.damage = y) ∨ (f = 4 ∧ c.marks = y) := by
  unfold cGet at h
  split at h
  · rename_i hf; cases h; exact .inl ⟨hf, rfl⟩
  split at h
  · rename_i hf; cases h; exact .inr (.inl ⟨hf, rfl⟩)
  split at h
  · rename_i hf; cases h; exact .inr (.inr (.inl ⟨hf, rfl⟩))
  split at h
  · rename_i hf; cases h; exact .inr (.inr (.inr ⟨hf, rfl⟩))
  · cases h
theorem pget_cases {c : Ply} {f y : Int} (h : pGet c f = some y) : (f = 5 ∧ c.life = y) ∨ (f = 6 ∧ c.energy = y) := by
  unfold pGet at h
  split at h
  · rename_i hf; cases h; exact .inl ⟨hf, rfl⟩
  split at h
  · rename_i hf; cases h; exact .inr ⟨hf, rfl⟩
  · cases h
set_option maxRecDepth 100000 in
set_option maxHeartbeats 4000000 in
theorem stopped_ (v : Value) (s : Stt) (f n : Int) (r : Ev × Int) (w : World) (hs : StL w v s) (hsm : Small s) (h : chP s f n = some r) : Calls Tryz.prog 21 #[v, .int .i8 f, .int .i64 n] w fun x w' => x = .returned (.bool (endB r.2)) ∧ Up w w' := by
  obtain ⟨ev, y⟩ := r
  dsimp only
  obtain ⟨vp, vc, vz, rfl, h1, h2, h3⟩ := hs
  obtain ⟨a1, k1, rfl, -, hpl⟩ := pl_at h1
  obtain ⟨a2, k2, rfl, -, hcl⟩ := cl_at h2
  obtain ⟨a3, k3, rfl, -, -⟩ := zl_at h3
  unfold sv
  have hm1 := hsm.1
  have hm2 := hsm.2.1
  have HU : Hid (Up w (w.alloc (.cells #[.slice a1 s.ps.length k1, .slice a2 s.cs.length k2, .slice a3 s.zs.length k3, .int .i32 s.turn, .int .i64 s.whose, .int .i8 s.fin, .int .i64 s.winner] 27))) := (Up.refl _).alloc _
  clear h1 h2 h3 hsm
  unfold endB
  rcases chP_cases h with ⟨i, rfl, hi, hg, -⟩ | ⟨-, i, rfl, hi, hg, -⟩
  · obtain ⟨cb, co, rfl, hcc⟩ := hcl (by omega)
    obtain ⟨c0, c1, c2, c3, c4, c5⟩ := hcc _ HU.out i hi
    dsimp only at hg
    have i1 : (i : Int) < (s.cs.length : Int) := by omega
    have i2 : ¬ (s.cs.length : Int) ≤ (i : Int) := by omega
    have i3 : ¬ (i : Int) < 0 := by omega
    have hq4 := cget_cases hg
    clear hg hcc hcl hpl h
    generalize s.cs.getD i dc = cc at *
    rcases hq4 with hq | hq | hq | hq
    · obtain ⟨hf, hy⟩ := hq
      subst hf
      rw [hy] at c2
      by_cases e1 : y = 1000000000
      · subst e1
        go_enter Tryz.func21, Tryz.ntmps21
        go_wp2
        go_ret
        exact ⟨rfl, (Up.refl _).alloc _⟩
      · have e9 : (y == 1000000000) = false := beq_eq_false_iff_ne.2 e1
        by_cases e2 : y = -1000000000
        · subst e2
          go_enter Tryz.func21, Tryz.ntmps21
          go_wp2
          go_ret
          exact ⟨by simp, (Up.refl _).alloc _⟩
        · have e8 : (y == -1000000000) = false := beq_eq_false_iff_ne.2 e2
          go_enter Tryz.func21, Tryz.ntmps21
          go_wp2
          go_ret
          exact ⟨by simp, (Up.refl _).alloc _⟩
    · obtain ⟨hf, hy⟩ := hq
      subst hf
      rw [hy] at c3
      by_cases e1 : y = 1000000000
      · subst e1
        go_enter Tryz.func21, Tryz.ntmps21
        go_wp2
        go_ret
        exact ⟨rfl, (Up.refl _).alloc _⟩
      · have e9 : (y == 1000000000) = false := beq_eq_false_iff_ne.2 e1
        by_cases e2 : y = -1000000000
        · subst e2
          go_enter Tryz.func21, Tryz.ntmps21
          go_wp2
          go_ret
          exact ⟨by simp, (Up.refl _).alloc _⟩
        · have e8 : (y == -1000000000) = false := beq_eq_false_iff_ne.2 e2
          go_enter Tryz.func21, Tryz.ntmps21
          go_wp2
          go_ret
          exact ⟨by simp, (Up.refl _).alloc _⟩
    · obtain ⟨hf, hy⟩ := hq
      subst hf
      rw [hy] at c4
      by_cases e1 : y = 1000000000
      · subst e1
        go_enter Tryz.func21, Tryz.ntmps21
        go_wp2
        go_ret
        exact ⟨rfl, (Up.refl _).alloc _⟩
      · have e9 : (y == 1000000000) = false := beq_eq_false_iff_ne.2 e1
        by_cases e2 : y = -1000000000
        · subst e2
          go_enter Tryz.func21, Tryz.ntmps21
          go_wp2
          go_ret
          exact ⟨by simp, (Up.refl _).alloc _⟩
        · have e8 : (y == -1000000000) = false := beq_eq_false_iff_ne.2 e2
          go_enter Tryz.func21, Tryz.ntmps21
          go_wp2
          go_ret
          exact ⟨by simp, (Up.refl _).alloc _⟩
    · obtain ⟨hf, hy⟩ := hq
      subst hf
      rw [hy] at c5
      by_cases e1 : y = 1000000000
      · subst e1
        go_enter Tryz.func21, Tryz.ntmps21
        go_wp2
        go_ret
        exact ⟨rfl, (Up.refl _).alloc _⟩
      · have e9 : (y == 1000000000) = false := beq_eq_false_iff_ne.2 e1
        by_cases e2 : y = -1000000000
        · subst e2
          go_enter Tryz.func21, Tryz.ntmps21
          go_wp2
          go_ret
          exact ⟨by simp, (Up.refl _).alloc _⟩
        · have e8 : (y == -1000000000) = false := beq_eq_false_iff_ne.2 e2
          go_enter Tryz.func21, Tryz.ntmps21
          go_wp2
          go_ret
          exact ⟨by simp, (Up.refl _).alloc _⟩
  · obtain ⟨cb, co, rfl, hcc⟩ := hpl (by omega)
    obtain ⟨c0, c1, c2⟩ := hcc _ HU.out i hi
    dsimp only at hg
    have i1 : (i : Int) < (s.ps.length : Int) := by omega
    have i2 : ¬ (s.ps.length : Int) ≤ (i : Int) := by omega
    have i3 : ¬ (i : Int) < 0 := by omega
    have hq4 := pget_cases hg
    clear hg hcc hcl hpl h
    generalize s.ps.getD i dp = cc at *
    rcases hq4 with hq | hq
    · obtain ⟨hf, hy⟩ := hq
      subst hf
      rw [hy] at c0
      by_cases e1 : y = 1000000000
      · subst e1
        go_enter Tryz.func21, Tryz.ntmps21
        go_wp2
        go_ret
        exact ⟨rfl, (Up.refl _).alloc _⟩
      · have e9 : (y == 1000000000) = false := beq_eq_false_iff_ne.2 e1
        by_cases e2 : y = -1000000000
        · subst e2
          go_enter Tryz.func21, Tryz.ntmps21
          go_wp2
          go_ret
          exact ⟨by simp, (Up.refl _).alloc _⟩
        · have e8 : (y == -1000000000) = false := beq_eq_false_iff_ne.2 e2
          go_enter Tryz.func21, Tryz.ntmps21
          go_wp2
          go_ret
          exact ⟨by simp, (Up.refl _).alloc _⟩
    · obtain ⟨hf, hy⟩ := hq
      subst hf
      rw [hy] at c1
      by_cases e1 : y = 1000000000
      · subst e1
        go_enter Tryz.func21, Tryz.ntmps21
        go_wp2
        go_ret
        exact ⟨rfl, (Up.refl _).alloc _⟩
      · have e9 : (y == 1000000000) = false := beq_eq_false_iff_ne.2 e1
        by_cases e2 : y = -1000000000
        · subst e2
          go_enter Tryz.func21, Tryz.ntmps21
          go_wp2
          go_ret
          exact ⟨by simp, (Up.refl _).alloc _⟩
        · have e8 : (y == -1000000000) = false := beq_eq_false_iff_ne.2 e2
          go_enter Tryz.func21, Tryz.ntmps21
          go_wp2
          go_ret
          exact ⟨by simp, (Up.refl _).alloc _⟩
end DE
end Go.Proofs.YtabflfcdndioiabGreatDoor
