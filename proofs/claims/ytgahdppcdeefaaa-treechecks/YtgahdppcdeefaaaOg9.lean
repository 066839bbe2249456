
/-
  The kids of a node in a forest, one by one: where they stand, what is answered at them.
-/
import Derived.Test.YtgahdppcdeefaaaCe9
namespace Go.Proofs.Ytgahdppcdeefaaa
namespace TR
def mxA (A : Nat → Nat) (e : Nat) : Nat → Nat
  | 0 => e
  | n + 1 => max (mxA A e n) (A n)
theorem mxA_shift (A : Nat → Nat) (e : Nat) : ∀ n, mxA A e (n + 1) = mxA (fun i => A (i + 1)) (max e (A 0)) n
  | 0 => rfl
  | n + 1 => by
    rw [mxA, mxA_shift A e n]
    rfl
theorem mxA_congr {A B : Nat → Nat} (e : Nat) : ∀ n, (∀ i, i < n → A i = B i) → mxA A e n = mxA B e n
  | 0, _ => rfl
  | n + 1, h => by
    rw [mxA, mxA, mxA_congr e n (fun i hi => h i (by omega)), h n (by omega)]
def posN : Fo → Nat → Nat → Nat
  | .nil, _, _ => 0
  | .cons _ _ _, p, 0 => p
  | .cons _ k r, p, i + 1 => posN r (p + 1 + (flF k).length) i
theorem posF_N : ∀ (f : Fo) (p : Nat), posF f p = (List.range (cntF f)).map fun i => ((posN f p i : Nat) : Int)
  | .nil, _ => rfl
  | .cons a k r, p => by
    show (p : Int) :: posF r (p + 1 + (flF k).length) = (List.range (cntF r + 1)).map _
    rw [List.range_succ_eq_map, List.map_cons, List.map_map, posF_N r]
    rfl
def ansK (op i : Int) (b : Nd) (kb : Fo) (e : Nat) : Nat := if op = 13 ∧ i = 2 ∧ b.op = 13 then opK b kb (e + 1) else opK b kb (e + par b.op (rWants op i))
def ansN (op : Int) : Int → Fo → Nat → Nat → Nat
  | _, .nil, _, _ => 0
  | i, .cons b kb _, e, 0 => ansK op i b kb e
  | i, .cons _ _ r, e, j + 1 => ansN op (i + 1) r e j
theorem kl_mx (op : Int) : ∀ (f : Fo) (i : Int) (e x : Nat), e ≤ x → mxA (ansN op i f e) x (cntF f) = max x (klK op i f e)
  | .nil, i, e, x, h => by
    rw [klK]
    show x = max x e
    omega
  | .cons b kb r, i, e, x, h => by
    show mxA (ansN op i (.cons b kb r) e) x (cntF r + 1) = _
    rw [mxA_shift]
    have h1 := kl_mx op r (i + 1) e (max x (ansK op i b kb e)) (by omega)
    have h2 : mxA (fun j => ansN op i (.cons b kb r) e (j + 1)) (max x (ansN op i (.cons b kb r) e 0)) (cntF r) = mxA (ansN op (i + 1) r e) (max x (ansK op i b kb e)) (cntF r) := rfl
    rw [h2, h1, klK]
    show max (max x (ansK op i b kb e)) (klK op (i + 1) r e) = max x (max (ansK op i b kb e) (klK op (i + 1) r e))
    omega
/- what is so of a node and its kids -/
def NdF (b : Nd) (kb : Fo) : Prop := b.kids = (cntF kb : Int) ∧ wfF kb ∧ acF kb ∧ (rrow b.op = true → cntF kb = 2) ∧ (b.op = 49 → cntF kb = 1)
theorem kid_at (l : List Nd) (op : Int) : ∀ (f : Fo) (tl : List Nd) (p i : Nat) (i0 : Int) (e : Nat), l.drop p = flF f ++ tl → wfF f → acF f → i < cntF f → ∃ b kb tl2, l.drop (posN f p i) = b :: (flF kb ++ tl2) ∧ NdF b kb ∧ SizeOf.sizeOf kb < SizeOf.sizeOf f ∧ (flF kb).length < (flF f).length ∧ ansN op i0 f e i = ansK op (i0 + i) b kb e
  | .nil, _, _, _, _, _, _, _, _, h => absurd h (Nat.not_lt_zero _)
  | .cons a k r, tl, p, i, i0, e, hd, hw, ha, hi => by
    have hd2 : l.drop p = a :: (flF k ++ (flF r ++ tl)) := by
      rw [hd]
      show a :: (flF k ++ flF r) ++ tl = _
      rw [List.cons_append, List.append_assoc]
    cases i with
    | zero =>
      refine ⟨a, k, flF r ++ tl, hd2, ⟨hw.1, hw.2.1, ha.2.2.1, ha.1, ha.2.1⟩, by simp; omega, by rw [fl_cons]; omega, ?_⟩
      show ansK op i0 a k e = ansK op (i0 + ((0 : Nat) : Int)) a k e
      congr 1
      omega
    | succ i =>
      have hd3 : l.drop (p + 1 + (flF k).length) = flF r ++ tl := by
        rw [show p + 1 + (flF k).length = p + (1 + (flF k).length) by omega, ← List.drop_drop, hd2, ← List.drop_drop]
        show (flF k ++ (flF r ++ tl)).drop (flF k).length = _
        exact List.drop_left
      obtain ⟨b, kb, tl2, q1, q2, q3, q4, q5⟩ := kid_at l op r tl (p + 1 + (flF k).length) i (i0 + 1) e hd3 hw.2.2 ha.2.2.2 (by have : cntF (.cons a k r) = cntF r + 1 := rfl; omega)
      refine ⟨b, kb, tl2, q1, q2, by simp; omega, by rw [fl_cons]; omega, ?_⟩
      show ansN op (i0 + 1) r e i = _
      rw [q5]
      congr 1
      omega
theorem rank_row {a b : Int} (ha : rrow a = true) (h : rRank b = rRank a) : rrow b = true := by
  have h1 : rRank a = 1 ∨ rRank a = 2 ∨ rRank a = 5 ∨ rRank a = 6 := by
    unfold rrow at ha
    simp only [Bool.and_eq_true, Bool.or_eq_true, beq_iff_eq] at ha
    exact ha.2
  rw [← h] at h1
  unfold rrow
  simp only [Bool.and_eq_true, Bool.or_eq_true, beq_iff_eq]
  refine ⟨?_, h1⟩
  unfold rExpr
  unfold rRank at h1
  repeat' split at h1
  all_goals simp_all
  all_goals omega
theorem row_is {a : Int} (h : rrow a = true) : a = 36 ∨ a = 37 ∨ a = 44 ∨ a = 45 ∨ a = 46 ∨ a = 47 ∨ a = 48 := by
  have h1 : rRank a = 1 ∨ rRank a = 2 ∨ rRank a = 5 ∨ rRank a = 6 := by
    unfold rrow at h
    simp only [Bool.and_eq_true, Bool.or_eq_true, beq_iff_eq] at h
    exact h.2
  unfold rRank at h1
  repeat' split at h1
  all_goals simp_all
  all_goals omega
theorem ans_le (op i : Int) (b : Nd) (kb : Fo) (e : Nat) : ansK op i b kb e ≤ e + 2 * (flF kb).length + 2 := by
  unfold ansK
  split
  · have := op_le b kb (e + 1); omega
  · have := op_le b kb (e + par b.op (rWants op i))
    have := par_le b.op (rWants op i)
    omega
end TR
end Go.Proofs.Ytgahdppcdeefaaa
