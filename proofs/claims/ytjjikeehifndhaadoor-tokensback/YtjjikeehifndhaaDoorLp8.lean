
/-
  Lines and columns, no program.
-/
import Derived.Test.YtjjikeehifndhaaDoorMr8
import Derived.Lib.CountLaws
import Derived.Lib.Bytes
namespace Go.Proofs.YtjjikeehifndhaaDoor
namespace TK
def lnS (s : Int × Int) (c : Int) : Int × Int := if c = 10 then (s.1 + 1, 1) else (s.1, s.2 + 1)
def ln (l : List Int) : Int × Int := l.foldl lnS (1, 1)
theorem ln_snoc (l : List Int) (c : Int) : ln (l ++ [c]) = lnS (ln l) c := by
  unfold ln
  rw [List.foldl_append]
  rfl
theorem take_snoc {B : List Int} {k : Nat} (h : k < B.length) : B.take (k + 1) = B.take k ++ [B.getD k 0] := by
  rw [List.take_succ_eq_append_getElem h, List.getD_eq_getElem?_getD, List.getElem?_eq_getElem h]
  rfl
theorem ln_step {B : List Int} {k : Nat} (h : k < B.length) : ln (B.take (k + 1)) = lnS (ln (B.take k)) (B.getD k 0) := by
  rw [take_snoc h, ln_snoc]
/- the last line's end -/
def Lst (B : List Int) (k : Nat) (r : Int) : Prop := (r = -1 ∧ ∀ j, j < k → B.getD j 0 ≠ 10) ∨ ∃ i : Nat, i < k ∧ r = i ∧ B.getD i 0 = 10 ∧ ∀ j, i < j → j < k → B.getD j 0 ≠ 10
theorem ln_run {B : List Int} {i : Nat} : ∀ d : Nat, i + d ≤ B.length → (∀ j, i ≤ j → j < i + d → B.getD j 0 ≠ 10) → (ln (B.take (i + d))).2 = (ln (B.take i)).2 + d
  | 0, _, _ => by simp
  | d + 1, h, hn => by
    have h1 := ln_run d (by omega) (fun j h1 h2 => hn j h1 (by omega))
    rw [show i + (d + 1) = (i + d) + 1 by omega, ln_step (by omega)]
    unfold lnS
    rw [if_neg (hn (i + d) (by omega) (by omega))]
    show (ln (B.take (i + d))).2 + 1 = _
    rw [h1]
    omega
theorem ln_col {B : List Int} {k : Nat} {r : Int} (hk : k ≤ B.length) (h : Lst B k r) : (ln (B.take k)).2 = (k : Int) - r := by
  rcases h with ⟨rfl, h⟩ | ⟨i, hi, rfl, h1, h2⟩
  · have h3 := ln_run (B := B) (i := 0) k (by omega) (fun j _ hj => h j (by omega))
    rw [Nat.zero_add] at h3
    rw [h3]
    show (1 : Int) + k = _
    omega
  · have h3 := ln_run (B := B) (i := i + 1) (k - (i + 1)) (by omega) (fun j h3 h4 => h2 j (by omega) (by omega))
    rw [show i + 1 + (k - (i + 1)) = k by omega] at h3
    rw [h3, ln_step (by omega)]
    unfold lnS
    rw [if_pos h1]
    show (1 : Int) + ((k - (i + 1) : Nat) : Int) = _
    omega
theorem ln_lin {B : List Int} (hB : Byt B) : ∀ k : Nat, k ≤ B.length → (ln (B.take k)).1 = 1 + (Lib.countByte (Lib.bytesOf (B.take k)) 10 : Int)
  | 0, _ => by simp [ln, Lib.bytesOf, Lib.countByte]
  | k + 1, h => by
    have h1 := ln_lin hB k (by omega)
    have hb := hB.at k
    rw [ln_step (by omega), take_snoc (by omega)]
    unfold lnS Lib.bytesOf Lib.countByte
    rw [List.map_append, List.count_append]
    unfold Lib.bytesOf Lib.countByte at h1
    by_cases h2 : B.getD k 0 = 10
    · rw [if_pos h2, h2]
      show (ln (B.take k)).1 + 1 = _
      rw [h1]
      simp
      omega
    · rw [if_neg h2]
      show (ln (B.take k)).1 = _
      rw [h1]
      have h3 : ¬ UInt8.ofNat (B.getD k 0).toNat = 10 := by
        rw [u8_is hb]
        exact h2
      simp only [List.map_cons, List.map_nil, List.count_cons, List.count_nil, beq_iff_eq, if_neg h3]
      simp
theorem ln_in {B : List Int} : ∀ k : Nat, k ≤ B.length → 1 ≤ (ln (B.take k)).1 ∧ (ln (B.take k)).1 ≤ 1 + k ∧ 1 ≤ (ln (B.take k)).2 ∧ (ln (B.take k)).2 ≤ 1 + k
  | 0, _ => by simp [ln]
  | k + 1, h => by
    have h1 := ln_in (B := B) k (by omega)
    rw [ln_step (by omega)]
    unfold lnS
    split
    · refine ⟨?_, ?_, ?_, ?_⟩ <;> simp <;> omega
    · refine ⟨?_, ?_, ?_, ?_⟩ <;> simp <;> omega
end TK
end Go.Proofs.YtjjikeehifndhaaDoor
