
/-
  The end of a chain of fields.
-/
import Derived.Test.YtgahdppcdeefaaaBo9
namespace Go.Proofs.Ytgahdppcdeefaaa
namespace TR
theorem getD_drop {l : List Nd} {p : Nat} {a : Nd} {t : List Nd} (h : l.drop p = a :: t) : l.getD p dn = a ∧ p < l.length ∧ l.drop (p + 1) = t := by
  have h1 := congrArg (fun m => m[0]?) h
  simp only [List.getElem?_drop, Nat.add_zero, List.getElem?_cons_zero] at h1
  refine ⟨?_, (List.getElem?_eq_some_iff.1 h1).1, ?_⟩
  · rw [List.getD_eq_getElem?_getD, h1]
    rfl
  · rw [← List.drop_drop, h]
    rfl
theorem chain_end (l : List Nd) : ∀ (k : Fo) (p : Nat) (tl : List Nd), l.drop p = flF k ++ tl → cntF k = 1 → wfF k → acF k → ∃ m b kb tl2, (∀ i, i < m → (l.getD (p + i) dn).op = 49) ∧ l.drop (p + m) = b :: (flF kb ++ tl2) ∧ b.op ≠ 49 ∧ b.kids = (cntF kb : Int) ∧ wfF kb ∧ acF kb ∧ (rrow b.op = true → cntF kb = 2) ∧ SizeOf.sizeOf kb < SizeOf.sizeOf k ∧ (flF kb).length + m < (flF k).length ∧ ∀ n d, 1 ≤ n → chK k n d = max (d + n + m - 1) (opK b kb (d + par b.op 8))
  | .nil, p, tl, _, hc, _, _ => by cases hc
  | .cons b kb r, p, tl, hd, hc, hw, ha => by
    have hd2 : l.drop p = b :: (flF kb ++ (flF r ++ tl)) := by
      rw [hd]
      show b :: (flF kb ++ flF r) ++ tl = _
      rw [List.cons_append, List.append_assoc]
    obtain ⟨g1, g2, g3⟩ := getD_drop hd2
    by_cases h49 : b.op = 49
    · obtain ⟨m, c, kc, tl2, q1, q2, q3, q4, q5, q6, q10, q7, q8, q9⟩ := chain_end l kb (p + 1) (flF r ++ tl) g3 (ha.2.1 h49) hw.2.1 ha.2.2.1
      refine ⟨m + 1, c, kc, tl2, ?_, ?_, q3, q4, q5, q6, q10, by simp; omega, by rw [fl_cons]; omega, ?_⟩
      · intro i hi
        cases i with
        | zero => rw [Nat.add_zero, g1]; exact h49
        | succ i =>
          have := q1 i (by omega)
          rw [show p + (i + 1) = p + 1 + i by omega]
          exact this
      · rw [show p + (m + 1) = p + 1 + m by omega]
        exact q2
      · intro n d hn
        rw [chK, if_pos h49, q9 (n + 1) d (by omega)]
        congr 1
        omega
    · refine ⟨0, b, kb, flF r ++ tl, fun i hi => absurd hi (by omega), hd2, h49, hw.1, hw.2.1, ha.2.2.1, ha.1, by simp; omega, by rw [fl_cons]; omega, ?_⟩
      intro n d hn
      rw [chK, if_neg h49]
      congr 1
end TR
end Go.Proofs.Ytgahdppcdeefaaa
