
/-
  A byte and its step.
-/
import Derived.Test.YtjjikeehifndhaaDoorCp8
import Derived.Test.YtjjikeehifndhaaDoorCq8
import Derived.Test.YtjjikeehifndhaaDoorCr8
namespace Go.Proofs.YtjjikeehifndhaaDoor
open Go.RowKit
attribute [local go_sem ↓] Go.wp_at_zero Go.wp_at_succ
namespace TK
theorem cls_blk {c : Int} (h : clsI c = 1) : blk c = true := by
  unfold clsI at h
  split at h
  · assumption
  · repeat' split at h
    all_goals omega
theorem cls_sml {c : Int} (h : clsI c = 2) : blk c = false ∧ sml c = true := by
  unfold clsI at h
  split at h
  · omega
  · split at h
    · rename_i h1 h2; exact ⟨by simpa using h1, h2⟩
    · repeat' split at h
      all_goals omega
theorem cls_dig {c : Int} (h : clsI c = 4) : blk c = false ∧ sml c = false ∧ dig c = true := by
  unfold clsI at h
  split at h
  · omega
  · split at h
    · omega
    · split at h
      · omega
      · split at h
        · rename_i h1 h2 _ h4; exact ⟨by simpa using h1, by simpa using h2, h4⟩
        · repeat' split at h
          all_goals omega
theorem cls_quo {c : Int} (h : clsI c = 6) : c = 34 := by
  unfold clsI at h
  repeat' split at h
  all_goals first | omega | (rename_i h9; simpa using h9)
theorem cls_sls {c : Int} (h : clsI c = 7) : c = 47 := by
  unfold clsI at h
  repeat' split at h
  all_goals first | omega | (rename_i h9; simpa using h9)
theorem cls_oth {c : Int} (h1 : clsI c ≠ 1) (h2 : clsI c ≠ 2) (h4 : clsI c ≠ 4) (h6 : clsI c ≠ 6) (h7 : clsI c ≠ 7) : blk c = false ∧ sml c = false ∧ dig c = false ∧ c ≠ 34 ∧ c ≠ 47 := by
  have k1 : blk c = false := by
    cases hb : blk c with
    | false => rfl
    | true => exact absurd (by unfold clsI; rw [if_pos hb]) h1
  have k2 : sml c = false := by
    cases hb : sml c with
    | false => rfl
    | true => exact absurd (by unfold clsI; rw [if_neg (by rw [k1]; decide), if_pos hb]) h2
  have k6 : c ≠ 34 := by
    rintro rfl
    exact h6 (by decide)
  have k7 : c ≠ 47 := by
    rintro rfl
    exact h7 (by decide)
  refine ⟨k1, k2, ?_, k6, k7⟩
  rw [dig_cls]
  simpa using h4
theorem not_rmk {B : List Int} {p : Nat} (h : B.getD p 0 ≠ 47) : rmk B p = false := by
  unfold rmk
  rw [show (B.getD p 0 == 47) = false by simpa using h]
  rfl
theorem stp_1 {B : List Int} {p : Nat} (h : clsI (B.getD p 0) = 1) : stp B p = .skip (p + 1) := by
  unfold stp
  rw [if_pos (cls_blk h)]
theorem stp_2 {B : List Int} {p : Nat} (h : clsI (B.getD p 0) = 2) : stp B p = nme B p := by
  obtain ⟨h1, h2⟩ := cls_sml h
  unfold stp
  rw [h1, not_rmk (by unfold sml at h2; simp only [Bool.and_eq_true, decide_eq_true_eq] at h2; omega), h2]
  rfl
theorem stp_4 {B : List Int} {p : Nat} (h : clsI (B.getD p 0) = 4) : stp B p = nmb B p ∧ dig (B.getD p 0) = true := by
  obtain ⟨h1, h2, h3⟩ := cls_dig h
  refine ⟨?_, h3⟩
  unfold stp
  rw [h1, not_rmk (by unfold dig at h3; simp only [Bool.and_eq_true, decide_eq_true_eq] at h3; omega), h2, h3]
  rfl
theorem stp_6 {B : List Int} {p : Nat} (h : clsI (B.getD p 0) = 6) : stp B p = tx B p := by
  have h1 := cls_quo h
  unfold stp
  rw [not_rmk (by omega), h1]
  rfl
theorem stp_7 {B : List Int} {p : Nat} (h : clsI (B.getD p 0) = 7) : stp B p = if decide (p + 1 < B.length) && B.getD (p + 1) 0 == 47 then .skip (spn nnl B p) else mkk B p := by
  have h1 := cls_sls h
  unfold stp rmk
  rw [h1]
  rfl
theorem stp_0 {B : List Int} {p : Nat} (h1 : clsI (B.getD p 0) ≠ 1) (h2 : clsI (B.getD p 0) ≠ 2) (h4 : clsI (B.getD p 0) ≠ 4) (h6 : clsI (B.getD p 0) ≠ 6) (h7 : clsI (B.getD p 0) ≠ 7) : stp B p = mkk B p := by
  obtain ⟨k1, k2, k3, k4, k5⟩ := cls_oth h1 h2 h4 h6 h7
  unfold stp
  rw [k1, not_rmk k5, k2, k3, show (B.getD p 0 == 34) = false by simpa using k4]
  rfl
end TK
end Go.Proofs.YtjjikeehifndhaaDoor
