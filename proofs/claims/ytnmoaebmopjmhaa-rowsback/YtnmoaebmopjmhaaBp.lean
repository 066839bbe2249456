/-
  What Find finds behind a Put; no program.
-/
import Derived.Test.YtnmoaebmopjmhaaPrs
namespace Go.Proofs.Ytnmoaebmopjmhaa
open Go.RowKit
namespace PR
open IN AP CU OD
theorem peq_refl (x : PX) : peq x x = true := by simp [peq]
theorem pfnd_none (ps : List PX) (x : PX) : ∀ f i, (∀ j, i ≤ j → j < i + f → peq (ps.getD j pdx) x = false) → pfnd ps x f i = -1 := by
  intro f
  induction f with
  | zero => intro i _; rfl
  | succ f ih =>
    intro i h
    rw [pfnd, h i (Nat.le_refl _) (by omega)]
    exact ih (i + 1) (fun j h1 h2 => h j (by omega) (by omega))
theorem pfnd_some (ps : List PX) (x : PX) (k : Nat) (hk : peq (ps.getD k pdx) x = true) : ∀ f i, i ≤ k → k < i + f → ∃ n : Nat, pfnd ps x f i = (n : Int) ∧ i ≤ n ∧ n ≤ k ∧ peq (ps.getD n pdx) x = true ∧ ∀ j, i ≤ j → j < n → peq (ps.getD j pdx) x = false := by
  intro f
  induction f with
  | zero => intro i h1 h2; omega
  | succ f ih =>
    intro i h1 h2
    cases e : peq (ps.getD i pdx) x
    · have hne : i ≠ k := fun h => by rw [h, hk] at e; cases e
      obtain ⟨n, a, b, c, d, g⟩ := ih (i + 1) (by omega) (by omega)
      refine ⟨n, by rw [pfnd, e]; exact a, by omega, c, d, fun j h3 h4 => ?_⟩
      by_cases ej : j = i
      · subst ej; exact e
      · exact g j (by omega) h4
    · exact ⟨i, by rw [pfnd, e]; rfl, Nat.le_refl _, h1, e, fun j h3 h4 => by omega⟩
def putL (ps : List PX) (k : Nat) (x : PX) : List PX := ps.take k ++ x :: ps.drop k
theorem putL_len (ps : List PX) (k : Nat) (x : PX) (hk : k ≤ ps.length) : (putL ps k x).length = ps.length + 1 := by
  simp [putL]; omega
theorem putL_at (ps : List PX) (k : Nat) (x : PX) (hk : k ≤ ps.length) : (putL ps k x).getD k pdx = x := by
  simp only [putL]
  rw [List.getD_eq_getElem?_getD, List.getElem?_append_right (by simp; omega)]
  simp [Nat.min_eq_left hk]
theorem put_find (ps : List PX) (k : Nat) (x : PX) (hk : k ≤ ps.length) : ∃ n : Nat, pfnd (putL ps k x) x (putL ps k x).length 0 = (n : Int) ∧ n ≤ k ∧ peq ((putL ps k x).getD n pdx) x = true ∧ pfnd ((putL ps k x).take n) x n 0 = -1 := by
  obtain ⟨n, h1, -, h2, h3, h4⟩ := pfnd_some (putL ps k x) x k (by rw [putL_at ps k x hk]; exact peq_refl x) (putL ps k x).length 0 (Nat.zero_le _) (by rw [putL_len ps k x hk]; omega)
  refine ⟨n, h1, h2, h3, pfnd_none _ x n 0 (fun j _ hj => ?_)⟩
  have : ((putL ps k x).take n).getD j pdx = (putL ps k x).getD j pdx := by
    rw [List.getD_eq_getElem?_getD, List.getElem?_take, if_pos (by omega), ← List.getD_eq_getElem?_getD]
  rw [this]
  exact h4 j (Nat.zero_le _) (by omega)
end PR
end Go.Proofs.Ytnmoaebmopjmhaa
