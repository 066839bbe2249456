
/-
  Kinds as texts: the law KindsTexts.
-/
import Derived.Test.YtifabdnjdadkbaaLi12
namespace Go.Proofs.Ytifabdnjdadkbaa
open Go.RowKit
attribute [local go_sem ↓] Go.wp_at_zero Go.wp_at_succ
namespace KD
def knd (k : Int) : ByteArray := if k = 0 then ⟨#[110, 111, 110, 101]⟩ else if k = 1 then ⟨#[105, 110, 116]⟩ else if k = 2 then ⟨#[98, 111, 111, 108]⟩ else if k = 3 then ⟨#[99, 97, 114, 100]⟩ else if k = 4 then ⟨#[112, 108, 97, 121, 101, 114]⟩ else if k = 5 then ⟨#[122, 111, 110, 101]⟩ else if k = 6 then ⟨#[108, 105, 115, 116]⟩ else ⟨#[]⟩
theorem knd_in (k : Int) : k = 0 ∨ k = 1 ∨ k = 2 ∨ k = 3 ∨ k = 4 ∨ k = 5 ∨ k = 6 ∨ (k ≠ 0 ∧ k ≠ 1 ∧ k ≠ 2 ∧ k ≠ 3 ∧ k ≠ 4 ∧ k ≠ 5 ∧ k ≠ 6) := by omega
theorem knd_no {k : Int} (h : k ≠ 0 ∧ k ≠ 1 ∧ k ≠ 2 ∧ k ≠ 3 ∧ k ≠ 4 ∧ k ≠ 5 ∧ k ≠ 6) : knd k = ⟨#[]⟩ := by simp [knd, h]
set_option maxRecDepth 100000 in
set_option maxHeartbeats 8000000 in
theorem kind_ (k : Int) (w : World) : Calls Try.prog 6 #[.int .i8 k] w fun e w' => e = .returned (.string (knd k)) ∧ w' = w := by
  rcases knd_in k with rfl | rfl | rfl | rfl | rfl | rfl | rfl | h
  case inr.inr.inr.inr.inr.inr.inr =>
    rw [knd_no h]
    obtain ⟨h0, h1, h2, h3, h4, h5, h6⟩ := h
    go_enter Try.func6, Try.ntmps6
    go_wp2_with fail
    go_ret
    exact ⟨rfl, rfl⟩
  all_goals
    unfold knd
    go_enter Try.func6, Try.ntmps6
    go_wp2_with fail
    go_ret
    exact ⟨rfl, rfl⟩
set_option maxRecDepth 100000 in
set_option maxHeartbeats 8000000 in
theorem rkind_ (k : Int) (w : World) (hk : -128 ≤ k ∧ k < 128) : Calls Try.prog 7 #[.int .i8 k] w fun e w' => e = .returned (.string (knd k)) ∧ Up w w' := by
  have hu := (Up.refl w).alloc (.cells #[.string ⟨#[110, 111, 110, 101]⟩, .string ⟨#[105, 110, 116]⟩, .string ⟨#[98, 111, 111, 108]⟩, .string ⟨#[99, 97, 114, 100]⟩, .string ⟨#[112, 108, 97, 121, 101, 114]⟩, .string ⟨#[122, 111, 110, 101]⟩, .string ⟨#[108, 105, 115, 116]⟩] 9)
  rcases knd_in k with rfl | rfl | rfl | rfl | rfl | rfl | rfl | h
  case inr.inr.inr.inr.inr.inr.inr =>
    rw [knd_no h]
    have h9 : k < 0 ∨ 7 ≤ k := by omega
    clear h
    have ew : IntKind.i64.wrap k = k := by rw [IntKind.wrap_i64]; omega
    rcases h9 with h9 | h9
    · go_enter Try.func7, Try.ntmps7
      go_wp2_with fail
      go_ret
      exact ⟨rfl, hu⟩
    · have h8 : ¬ k < 0 := by omega
      go_enter Try.func7, Try.ntmps7
      go_wp2_with fail
      go_ret
      exact ⟨rfl, hu⟩
  all_goals
    unfold knd
    go_enter Try.func7, Try.ntmps7
    go_wp2_with fail
    go_ret
    exact ⟨rfl, hu⟩
set_option maxRecDepth 100000 in
set_option maxHeartbeats 8000000 in
theorem ktexts (k : Int) (w : World) (hk : -128 ≤ k ∧ k < 128) : Calls Try.prog 3 #[.int .i8 k] w fun e w' => e = .returned (.bool true) ∧ Up w w' := by
  obtain ⟨Post, hPost⟩ : ∃ P : Ending → World → Prop, P = fun e w' => e = .returned (.bool true) ∧ Up w w' := ⟨_, rfl⟩
  rw [← hPost]
  have HP : Hid (∀ W, Up w W → Post (.returned (.bool true)) W) := fun W h => by rw [hPost]; exact ⟨rfl, h⟩
  clear hPost
  have H1 : Hid (Calls Try.prog 6 #[.int .i8 k] w fun e w' => e = .returned (.string (knd k)) ∧ w' = w) := kind_ k w
  have H2 : Hid (Calls Try.prog 7 #[.int .i8 k] w fun e w' => e = .returned (.string (knd k)) ∧ Up w w') := rkind_ k w hk
  generalize knd k = s at *
  go_enter Try.func3, Try.ntmps3
  go_wp2_with fail
  refine H1.out.mono ?_
  rintro r W1 ⟨rfl, hw⟩
  obtain rfl := hw.symm
  go_wp2_with fail
  refine H2.out.mono ?_
  rintro r W2 ⟨rfl, u⟩
  go_wp2_with fail
  refine (lives_ W2).mono ?_
  rintro r W3 ⟨rfl, u3⟩
  have HU := u.trans u3
  clear u u3
  go_wp2_with fail
  exact HP.out _ HU
end KD
end Go.Proofs.Ytifabdnjdadkbaa
