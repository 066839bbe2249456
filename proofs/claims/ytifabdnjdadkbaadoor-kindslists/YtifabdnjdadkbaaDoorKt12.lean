
/-
  Kinds as texts: the law KindsTexts.
-/
import Derived.Test.YtifabdnjdadkbaaDoorLi12
namespace Go.Proofs.YtifabdnjdadkbaaDoor
open Go.RowKit
attribute [local go_sem ↓] Go.wp_at_zero Go.wp_at_succ
namespace KD
def knd (k : Int) : ByteArray := if k = 0 then ⟨#[110, 111, 110, 101]⟩ else if k = 1 then ⟨#[105, 110, 116]⟩ else if k = 2 then ⟨#[98, 111, 111, 108]⟩ else if k = 3 then ⟨#[99, 97, 114, 100]⟩ else if k = 4 then ⟨#[112, 108, 97, 121, 101, 114]⟩ else if k = 5 then ⟨#[122, 111, 110, 101]⟩ else if k = 6 then ⟨#[108, 105, 115, 116]⟩ else ⟨#[]⟩
theorem knd_in (k : Int) : k = 0 ∨ k = 1 ∨ k = 2 ∨ k = 3 ∨ k = 4 ∨ k = 5 ∨ k = 6 ∨ (k ≠ 0 ∧ k ≠ 1 ∧ k ≠ 2 ∧ k ≠ 3 ∧ k ≠ 4 ∧ k ≠ 5 ∧ k ≠ 6) := by omega
theorem knd_no {k : Int} (h : k ≠ 0 ∧ k ≠ 1 ∧ k ≠ 2 ∧ k ≠ 3 ∧ k ≠ 4 ∧ k ≠ 5 ∧ k ≠ 6) : knd k = ⟨#[]⟩ := by simp [knd, h]
end KD
end Go.Proofs.YtifabdnjdadkbaaDoor
