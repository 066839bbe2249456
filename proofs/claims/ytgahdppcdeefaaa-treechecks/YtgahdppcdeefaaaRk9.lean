/-
  The document's frame: what is wanted now. The rank of an expression, and what a place wants.
-/
import Derived.Test.YtgahdppcdeefaaaTh9
import Derived.Test.YtgahdppcdeefaaaRi9
namespace Go.Proofs.Ytgahdppcdeefaaa
open Go.RowKit
attribute [local go_sem ↓] Go.wp_at_zero Go.wp_at_succ
namespace TR
def rRank (op : Int) : Int :=
  if op = 36 then 1
  else if op = 37 then 2
  else if op = 34 then 3
  else if 38 ≤ op ∧ op ≤ 43 then 4
  else if op = 44 ∨ op = 45 then 5
  else if 46 ≤ op ∧ op ≤ 48 then 6
  else if op = 35 then 7
  else 8
def rWants (op kid : Int) : Int :=
  if rRank op = 1 then 1 + kid
  else if rRank op = 2 then 2 + kid
  else if rRank op = 3 then 3
  else if rRank op = 4 then 5
  else if rRank op = 5 then 5 + kid
  else if rRank op = 6 then 6 + kid
  else if rRank op = 7 then 7
  else if op = 49 then 8
  else 1
set_option maxRecDepth 100000 in
set_option maxHeartbeats 16000000 in
theorem rank_ (op : Int) (w : World) : Calls Try.prog 42 #[.int .i8 op] w fun e w' => e = .returned (.int .i64 (rRank op)) ∧ w' = w := by
  obtain ⟨Post, hPost⟩ : ∃ P : Ending → World → Prop, P = fun e w' => e = .returned (.int .i64 (rRank op)) ∧ w' = w := ⟨_, rfl⟩
  rw [← hPost]
  have HPo : Hid (Post = fun e w' => e = .returned (.int .i64 (rRank op)) ∧ w' = w) := hPost
  clear hPost
  by_cases h : op = 36 ∨ op = 37 ∨ op = 34 ∨ op = 38 ∨ op = 39 ∨ op = 40 ∨ op = 41 ∨ op = 42 ∨ op = 43 ∨ op = 44 ∨ op = 45 ∨ op = 46 ∨ op = 47 ∨ op = 48 ∨ op = 35
  · rcases h with rfl | rfl | rfl | rfl | rfl | rfl | rfl | rfl | rfl | rfl | rfl | rfl | rfl | rfl | rfl
    all_goals
      go_enter Try.func42, Try.ntmps42
      go_wp2_with fail
      all_goals rw [HPo.out]
      all_goals exact ⟨rfl, rfl⟩
  · have hr : rRank op = 8 := by
      unfold rRank
      rw [if_neg (by omega), if_neg (by omega), if_neg (by omega), if_neg (by omega), if_neg (by omega), if_neg (by omega), if_neg (by omega)]
    have HR : Hid (rRank op = 8) := hr
    have HN : Hid (¬ (op = 36 ∨ op = 37 ∨ op = 34 ∨ op = 38 ∨ op = 39 ∨ op = 40 ∨ op = 41 ∨ op = 42 ∨ op = 43 ∨ op = 44 ∨ op = 45 ∨ op = 46 ∨ op = 47 ∨ op = 48 ∨ op = 35)) := h
    go_enter Try.func42, Try.ntmps42
    have n36 : ¬ op = 36 := by omega
    have n37 : ¬ op = 37 := by omega
    have n34 : ¬ op = 34 := by omega
    have n44 : ¬ op = 44 := by omega
    have n45 : ¬ op = 45 := by omega
    have n35 : ¬ op = 35 := by omega
    clear h hr
    by_cases a1 : 38 ≤ op
    · have a2 : ¬ op ≤ 43 := by have := HN.out; omega
      by_cases a3 : 46 ≤ op
      · have a4 : ¬ op ≤ 48 := by have := HN.out; omega
        go_wp2_with fail
        all_goals rw [HPo.out]
        all_goals first | (exfalso; simp_all; done) | exact ⟨by rw [HR.out], rfl⟩
      · go_wp2_with fail
        all_goals rw [HPo.out]
        all_goals first | (exfalso; simp_all; done) | exact ⟨by rw [HR.out], rfl⟩
    · have a3 : ¬ 46 ≤ op := by omega
      go_wp2_with fail
      all_goals rw [HPo.out]
      all_goals first | (exfalso; simp_all; done) | exact ⟨by rw [HR.out], rfl⟩
theorem rank_is (op : Int) : rRank op = 1 ∨ rRank op = 2 ∨ rRank op = 3 ∨ rRank op = 4 ∨ rRank op = 5 ∨ rRank op = 6 ∨ rRank op = 7 ∨ rRank op = 8 := by
  unfold rRank
  repeat' split
  all_goals simp
set_option maxRecDepth 100000 in
set_option maxHeartbeats 16000000 in
theorem wants_ (op kid : Int) (w : World) (h0 : 0 ≤ kid) (h1 : kid ≤ 4294967296) : Calls Try.prog 46 #[.int .i8 op, .int .i64 kid] w fun e w' => e = .returned (.int .i64 (rWants op kid)) ∧ w' = w := by
  obtain ⟨Post, hPost⟩ : ∃ P : Ending → World → Prop, P = fun e w' => e = .returned (.int .i64 (rWants op kid)) ∧ w' = w := ⟨_, rfl⟩
  rw [← hPost]
  have HPo : Hid (Post = fun e w' => e = .returned (.int .i64 (rWants op kid)) ∧ w' = w) := hPost
  clear hPost
  have HK : Hid (0 ≤ kid ∧ kid ≤ 4294967296) := ⟨h0, h1⟩
  clear h0 h1
  go_enter Try.func46, Try.ntmps46
  go_wp2_with fail
  refine Calls.mono (rank_ op w) ?_
  rintro e w1 ⟨rfl, hw⟩
  obtain rfl := hw.symm
  clear hw
  have hr := rank_is op
  rcases hr with hr | hr | hr | hr | hr | hr | hr | hr
  · have HR : Hid (rRank op = 1) := hr
    rw [hr]
    clear hr
    go_wp2_with fail
    all_goals rw [HPo.out]
    all_goals (refine ⟨?_, rfl⟩; unfold rWants; rw [HR.out]; obtain ⟨k0, k1⟩ := HK.out; first | rfl | (simp; done) | (simp; unfold wrap64; omega))
  · have HR : Hid (rRank op = 2) := hr
    rw [hr]
    clear hr
    go_wp2_with fail
    all_goals rw [HPo.out]
    all_goals (refine ⟨?_, rfl⟩; unfold rWants; rw [HR.out]; obtain ⟨k0, k1⟩ := HK.out; first | rfl | (simp; done) | (simp; unfold wrap64; omega))
  · have HR : Hid (rRank op = 3) := hr
    rw [hr]
    clear hr
    go_wp2_with fail
    all_goals rw [HPo.out]
    all_goals (refine ⟨?_, rfl⟩; unfold rWants; rw [HR.out]; obtain ⟨k0, k1⟩ := HK.out; first | rfl | (simp; done) | (simp; unfold wrap64; omega))
  · have HR : Hid (rRank op = 4) := hr
    rw [hr]
    clear hr
    go_wp2_with fail
    all_goals rw [HPo.out]
    all_goals (refine ⟨?_, rfl⟩; unfold rWants; rw [HR.out]; obtain ⟨k0, k1⟩ := HK.out; first | rfl | (simp; done) | (simp; unfold wrap64; omega))
  · have HR : Hid (rRank op = 5) := hr
    rw [hr]
    clear hr
    go_wp2_with fail
    all_goals rw [HPo.out]
    all_goals (refine ⟨?_, rfl⟩; unfold rWants; rw [HR.out]; obtain ⟨k0, k1⟩ := HK.out; first | rfl | (simp; done) | (simp; unfold wrap64; omega))
  · have HR : Hid (rRank op = 6) := hr
    rw [hr]
    clear hr
    go_wp2_with fail
    all_goals rw [HPo.out]
    all_goals (refine ⟨?_, rfl⟩; unfold rWants; rw [HR.out]; obtain ⟨k0, k1⟩ := HK.out; first | rfl | (simp; done) | (simp; unfold wrap64; omega))
  · have HR : Hid (rRank op = 7) := hr
    rw [hr]
    clear hr
    go_wp2_with fail
    all_goals rw [HPo.out]
    all_goals (refine ⟨?_, rfl⟩; unfold rWants; rw [HR.out]; obtain ⟨k0, k1⟩ := HK.out; first | rfl | (simp; done) | (simp; unfold wrap64; omega))
  · have HR : Hid (rRank op = 8) := hr
    rw [hr]
    clear hr
    by_cases c : op = 49
    · subst c
      go_wp2_with fail
      all_goals rw [HPo.out]
      all_goals (refine ⟨?_, rfl⟩; unfold rWants; rw [HR.out]; rfl)
    · go_wp2_with fail
      all_goals rw [HPo.out]
      all_goals (refine ⟨?_, rfl⟩; unfold rWants; rw [HR.out]; simp [c])
end TR
end Go.Proofs.Ytgahdppcdeefaaa
