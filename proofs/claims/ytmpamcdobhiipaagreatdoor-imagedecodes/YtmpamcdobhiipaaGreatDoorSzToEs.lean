/-
  How much is handed in.
-/
import Derived.Test.YtmpamcdobhiipaaGreatDoorWhToCt
import Derived.Test.YtmpamcdobhiipaaGreatDoorEqQ
namespace Go.Proofs.YtmpamcdobhiipaaGreatDoor
open Go.RowKit
attribute [local go_sem ↓] Go.wp_at_zero Go.wp_at_succ

namespace ST
def szF : List (List Int) → Nat → Nat
  | [], n => n
  | l :: zs, n => if n ≤ 2147483647 then szF zs (n + l.length) else n
theorem szF_is : ∀ (zs : List (List Int)) (n : Nat), szF zs n = n + zs.flatten.length ∨ 2147483647 < szF zs n ∧ szF zs n ≤ n + zs.flatten.length := by
  intro zs
  induction zs with
  | nil => intro n; left; simp [szF]
  | cons l zs ih =>
    intro n
    simp only [szF, List.flatten_cons, List.length_append]
    split
    · rcases ih (n + l.length) with h | h
      · left; omega
      · right; omega
    · right; omega
def Near (zs : List (List Int)) : Prop := zs.length ≤ 140737488355328 ∧ ∀ r, r < zs.length → (zs.getD r []).length ≤ 140737488355328
theorem szF_le : ∀ (zs : List (List Int)) (n : Nat), (∀ r, r < zs.length → (zs.getD r []).length ≤ 140737488355328) → n ≤ 281474976710656 → szF zs n ≤ 281474976710656 := by
  intro zs
  induction zs with
  | nil => intro n _ h; exact h
  | cons l zs ih =>
    intro n h hn
    simp only [szF]
    split
    · have := h 0 (by simp)
      simp at this
      exact ih _ (fun r hr => by have := h (r + 1) (by simpa using hr); simpa using this) (by omega)
    · exact hn
def Far (s : Stt) : Prop := s.ps.length ≤ 140737488355328 ∧ s.cs.length ≤ 140737488355328 ∧ Near s.zs
def lenS (s : Stt) : Nat := s.ps.length + s.cs.length + (s.zs.length + (flat s).length)
theorem row_flat : ∀ (zs : List (List Int)) (r : Nat), r < zs.length → (zs.getD r []).length ≤ zs.flatten.length := by
  intro zs
  induction zs with
  | nil => intro r h; simp at h
  | cons l zs ih =>
    intro r h
    rw [List.flatten_cons, List.length_append]
    cases r with
    | zero => simp
    | succ r =>
      rw [List.getD_cons_succ]
      have := ih r (by simpa using h)
      omega
theorem small_of {s : Stt} (h : lenS s ≤ 2147483647) : Small s := by
  unfold lenS flat at h
  exact ⟨by omega, by omega, by omega, fun r hr => by have := row_flat s.zs r hr; omega⟩
end ST
end Go.Proofs.YtmpamcdobhiipaaGreatDoor
/-
  The library's Equal of two lists of ints, players, cards; EqualFunc of two lists of lists.
-/
namespace Go.Proofs.YtmpamcdobhiipaaGreatDoor
open Go.RowKit
attribute [local go_sem ↓] Go.wp_at_zero Go.wp_at_succ

namespace ST
end ST
end Go.Proofs.YtmpamcdobhiipaaGreatDoor
