/-
  The kids of a node in a forest, one by one: where they stand, what is answered at them.
-/
import Derived.Test.YtgahdppcdeefaaaPq9
namespace Go.Proofs.Ytgahdppcdeefaaa
namespace TR
theorem par_le (op w : Int) : par op w ≤ 1 := by unfold par; split <;> omega
theorem dopn_le (op : Int) : dopn op ≤ 1 := by unfold dopn; split <;> omega
theorem fl_cons (a : Nd) (k r : Fo) : (flF (.cons a k r)).length = (flF k).length + (flF r).length + 1 := by
  show (flF k ++ flF r).length + 1 = _
  rw [List.length_append]
mutual
theorem op_le (a : Nd) (k : Fo) (d : Nat) : opK a k d ≤ d + 2 * (flF k).length + 1 ∧ d ≤ opK a k d := by
  have h0 := dopn_le a.op
  rw [opK]
  split
  · have h := ch_le k 1 (d + dopn a.op) (Nat.le_refl _)
    omega
  · split
    · have h := row_le a.op k (d + dopn a.op)
      omega
    · have h := kl_le a.op 0 k (d + dopn a.op)
      omega
termination_by (SizeOf.sizeOf k, 1)
theorem ch_le (k : Fo) (n d : Nat) (hn : 1 ≤ n) : chK k n d ≤ d + (n - 1) + 2 * (flF k).length ∧ d ≤ chK k n d := by
  match k with
  | .nil => rw [chK]; omega
  | .cons b kb r =>
    rw [chK, fl_cons]
    split
    · have h := ch_le kb (n + 1) d (by omega)
      omega
    · have h := op_le b kb (d + par b.op 8)
      have h1 := par_le b.op 8
      omega
termination_by (SizeOf.sizeOf k, 0)
theorem row_le (op : Int) (k : Fo) (d : Nat) : (rowK op k d).1 ≤ d + 2 * (flF k).length ∧ d ≤ (rowK op k d).1 ∧ (rowK op k d).2 ≤ (flF k).length + 1 := by
  match k with
  | .nil => simp only [rowK]; omega
  | .cons b kb .nil => simp only [rowK]; omega
  | .cons b kb (.cons c kc r) =>
    have h1 := par_le c.op (rWants op 1)
    have h2 := par_le b.op (rWants op 0)
    rw [rowK, fl_cons, fl_cons]
    split
    · have h3 := row_le b.op kb d
      have h4 := op_le c kc (d + (rowK b.op kb d).2 + par c.op (rWants op 1))
      simp only
      omega
    · have h3 := op_le b kb (d + par b.op (rWants op 0))
      have h4 := op_le c kc (d + par c.op (rWants op 1))
      simp only
      omega
termination_by (SizeOf.sizeOf k, 0)
theorem kl_le (op i : Int) (k : Fo) (d : Nat) : klK op i k d ≤ d + 2 * (flF k).length ∧ d ≤ klK op i k d := by
  match k with
  | .nil => rw [klK]; omega
  | .cons b kb r =>
    have h1 := par_le b.op (rWants op i)
    have h2 := kl_le op (i + 1) r d
    rw [klK, fl_cons]
    split
    · have h3 := op_le b kb (d + 1)
      omega
    · have h3 := op_le b kb (d + par b.op (rWants op i))
      omega
termination_by (SizeOf.sizeOf k, 0)
end
/- each row has two kids, each field one -/
def acF : Fo → Prop
  | .nil => True
  | .cons a k r => (rrow a.op = true → cntF k = 2) ∧ (a.op = 49 → cntF k = 1) ∧ acF k ∧ acF r
theorem goF_ac : ∀ (f : Fo) (tl : List Nd) (S : List Wt) (D : Nat) {W : List Wt} {D1 : Nat}, goF f tl S D = some (W, D1) → acF f
  | .nil, _, _, _, _, _, _ => trivial
  | .cons a k r, tl, S, D, W, D1, h => by
    have hwf := goF_wf _ _ _ _ h
    rw [goF] at h
    split at h
    · cases h
    · split at h
      · cases h
      · rename_i o ws he
        split at h
        · cases h
        · rename_i W1 D2 hk
          split at h
          · obtain ⟨h1, ps, many, h2, -, -⟩ := ent_is he
            have hkey := is_key h1
            have h7 := plcs_kids h2
            have h8 := hwf.1
            refine ⟨fun hr => ?_, fun h49 => ?_, goF_ac k _ _ _ hk, goF_ac r _ _ _ h⟩
            · rcases kind_of hkey with ⟨-, -, h3⟩ | ⟨-, -, h3⟩ | ⟨-, -, -, h3⟩ | ⟨-, -, he0, r1, r2, hw⟩
              · rw [hr] at h3; cases h3
              · rw [hr] at h3; cases h3
              · rw [hr] at h3; cases h3
              · rcases plcs_way he0 h2 with ⟨h9, rfl⟩ | ⟨-, h9⟩
                · rw [hw] at h9
                  obtain rfl := List.mem_singleton.1 h9
                  simp at h7
                  omega
                · rw [hw] at h9
                  cases h9
            · rcases kind_of hkey with ⟨-, h3, -⟩ | ⟨-, h3, -⟩ | ⟨-, he0, hw, -⟩ | ⟨-, h3, -⟩
              · exact absurd h49 h3
              · exact absurd h49 h3
              · rcases plcs_way he0 h2 with ⟨h9, rfl⟩ | ⟨-, h9⟩
                · rw [hw] at h9
                  obtain rfl := List.mem_singleton.1 h9
                  simp at h7
                  omega
                · rw [hw] at h9
                  cases h9
              · exact absurd h49 h3
          · cases h
end TR
end Go.Proofs.Ytgahdppcdeefaaa
namespace Go.Proofs.Ytgahdppcdeefaaa
namespace TR
theorem getD_drop {l : List Nd} {p : Nat} {a : Nd} {t : List Nd} (h : l.drop p = a :: t) : l.getD p dn = a ∧ p < l.length ∧ l.drop (p + 1) = t := by
  have h1 := congrArg (fun m => m[0]?) h
  simp only [List.getElem?_drop, Nat.add_zero, List.getElem?_cons_zero] at h1
  refine ⟨?_, (List.getElem?_eq_some_iff.1 h1).1, ?_⟩
  · rw [List.getD_eq_getElem?_getD, h1]
    rfl
  · rw [← List.drop_drop, h]
    rfl
theorem chain_end (l : List Nd) : ∀ (k : Fo) (p : Nat) (tl : List Nd), l.drop p = flF k ++ tl → cntF k = 1 → wfF k → acF k → ∃ m b kb tl2, (∀ i, i < m → (l.getD (p + i) dn).op = 49) ∧ l.drop (p + m) = b :: (flF kb ++ tl2) ∧ b.op ≠ 49 ∧ b.kids = (cntF kb : Int) ∧ wfF kb ∧ acF kb ∧ (rrow b.op = true → cntF kb = 2) ∧ SizeOf.sizeOf kb < SizeOf.sizeOf k ∧ (flF kb).length + m < (flF k).length ∧ ∀ n d, 1 ≤ n → chK k n d = max (d + n + m - 1) (opK b kb (d + par b.op 8))
  | .nil, p, tl, _, hc, _, _ => by cases hc
  | .cons b kb r, p, tl, hd, hc, hw, ha => by
    have hd2 : l.drop p = b :: (flF kb ++ (flF r ++ tl)) := by
      rw [hd]
      show b :: (flF kb ++ flF r) ++ tl = _
      rw [List.cons_append, List.append_assoc]
    obtain ⟨g1, g2, g3⟩ := getD_drop hd2
    by_cases h49 : b.op = 49
    · obtain ⟨m, c, kc, tl2, q1, q2, q3, q4, q5, q6, q10, q7, q8, q9⟩ := chain_end l kb (p + 1) (flF r ++ tl) g3 (ha.2.1 h49) hw.2.1 ha.2.2.1
      refine ⟨m + 1, c, kc, tl2, ?_, ?_, q3, q4, q5, q6, q10, by simp; omega, by rw [fl_cons]; omega, ?_⟩
      · intro i hi
        cases i with
        | zero => rw [Nat.add_zero, g1]; exact h49
        | succ i =>
          have := q1 i (by omega)
          rw [show p + (i + 1) = p + 1 + i by omega]
          exact this
      · rw [show p + (m + 1) = p + 1 + m by omega]
        exact q2
      · intro n d hn
        rw [chK, if_pos h49, q9 (n + 1) d (by omega)]
        congr 1
        omega
    · refine ⟨0, b, kb, flF r ++ tl, fun i hi => absurd hi (by omega), hd2, h49, hw.1, hw.2.1, ha.2.2.1, ha.1, by simp; omega, by rw [fl_cons]; omega, ?_⟩
      intro n d hn
      rw [chK, if_neg h49]
      congr 1
end TR
end Go.Proofs.Ytgahdppcdeefaaa
namespace Go.Proofs.Ytgahdppcdeefaaa
namespace TR
def mxA (A : Nat → Nat) (e : Nat) : Nat → Nat
  | 0 => e
  | n + 1 => max (mxA A e n) (A n)
theorem mxA_shift (A : Nat → Nat) (e : Nat) : ∀ n, mxA A e (n + 1) = mxA (fun i => A (i + 1)) (max e (A 0)) n
  | 0 => rfl
  | n + 1 => by
    rw [mxA, mxA_shift A e n]
    rfl
theorem mxA_congr {A B : Nat → Nat} (e : Nat) : ∀ n, (∀ i, i < n → A i = B i) → mxA A e n = mxA B e n
  | 0, _ => rfl
  | n + 1, h => by
    rw [mxA, mxA, mxA_congr e n (fun i hi => h i (by omega)), h n (by omega)]
def posN : Fo → Nat → Nat → Nat
  | .nil, _, _ => 0
  | .cons _ _ _, p, 0 => p
  | .cons _ k r, p, i + 1 => posN r (p + 1 + (flF k).length) i
theorem posF_N : ∀ (f : Fo) (p : Nat), posF f p = (List.range (cntF f)).map fun i => ((posN f p i : Nat) : Int)
  | .nil, _ => rfl
  | .cons a k r, p => by
    show (p : Int) :: posF r (p + 1 + (flF k).length) = (List.range (cntF r + 1)).map _
    rw [List.range_succ_eq_map, List.map_cons, List.map_map, posF_N r]
    rfl
def ansK (op i : Int) (b : Nd) (kb : Fo) (e : Nat) : Nat := if op = 13 ∧ i = 2 ∧ b.op = 13 then opK b kb (e + 1) else opK b kb (e + par b.op (rWants op i))
def ansN (op : Int) : Int → Fo → Nat → Nat → Nat
  | _, .nil, _, _ => 0
  | i, .cons b kb _, e, 0 => ansK op i b kb e
  | i, .cons _ _ r, e, j + 1 => ansN op (i + 1) r e j
theorem kl_mx (op : Int) : ∀ (f : Fo) (i : Int) (e x : Nat), e ≤ x → mxA (ansN op i f e) x (cntF f) = max x (klK op i f e)
  | .nil, i, e, x, h => by
    rw [klK]
    show x = max x e
    omega
  | .cons b kb r, i, e, x, h => by
    show mxA (ansN op i (.cons b kb r) e) x (cntF r + 1) = _
    rw [mxA_shift]
    have h1 := kl_mx op r (i + 1) e (max x (ansK op i b kb e)) (by omega)
    have h2 : mxA (fun j => ansN op i (.cons b kb r) e (j + 1)) (max x (ansN op i (.cons b kb r) e 0)) (cntF r) = mxA (ansN op (i + 1) r e) (max x (ansK op i b kb e)) (cntF r) := rfl
    rw [h2, h1, klK]
    show max (max x (ansK op i b kb e)) (klK op (i + 1) r e) = max x (max (ansK op i b kb e) (klK op (i + 1) r e))
    omega
/- what is so of a node and its kids -/
def NdF (b : Nd) (kb : Fo) : Prop := b.kids = (cntF kb : Int) ∧ wfF kb ∧ acF kb ∧ (rrow b.op = true → cntF kb = 2) ∧ (b.op = 49 → cntF kb = 1)
theorem kid_at (l : List Nd) (op : Int) : ∀ (f : Fo) (tl : List Nd) (p i : Nat) (i0 : Int) (e : Nat), l.drop p = flF f ++ tl → wfF f → acF f → i < cntF f → ∃ b kb tl2, l.drop (posN f p i) = b :: (flF kb ++ tl2) ∧ NdF b kb ∧ SizeOf.sizeOf kb < SizeOf.sizeOf f ∧ (flF kb).length < (flF f).length ∧ ansN op i0 f e i = ansK op (i0 + i) b kb e
  | .nil, _, _, _, _, _, _, _, _, h => absurd h (Nat.not_lt_zero _)
  | .cons a k r, tl, p, i, i0, e, hd, hw, ha, hi => by
    have hd2 : l.drop p = a :: (flF k ++ (flF r ++ tl)) := by
      rw [hd]
      show a :: (flF k ++ flF r) ++ tl = _
      rw [List.cons_append, List.append_assoc]
    cases i with
    | zero =>
      refine ⟨a, k, flF r ++ tl, hd2, ⟨hw.1, hw.2.1, ha.2.2.1, ha.1, ha.2.1⟩, by simp; omega, by rw [fl_cons]; omega, ?_⟩
      show ansK op i0 a k e = ansK op (i0 + ((0 : Nat) : Int)) a k e
      congr 1
      omega
    | succ i =>
      have hd3 : l.drop (p + 1 + (flF k).length) = flF r ++ tl := by
        rw [show p + 1 + (flF k).length = p + (1 + (flF k).length) by omega, ← List.drop_drop, hd2, ← List.drop_drop]
        show (flF k ++ (flF r ++ tl)).drop (flF k).length = _
        exact List.drop_left
      obtain ⟨b, kb, tl2, q1, q2, q3, q4, q5⟩ := kid_at l op r tl (p + 1 + (flF k).length) i (i0 + 1) e hd3 hw.2.2 ha.2.2.2 (by have : cntF (.cons a k r) = cntF r + 1 := rfl; omega)
      refine ⟨b, kb, tl2, q1, q2, by simp; omega, by rw [fl_cons]; omega, ?_⟩
      show ansN op (i0 + 1) r e i = _
      rw [q5]
      congr 1
      omega
theorem rank_row {a b : Int} (ha : rrow a = true) (h : rRank b = rRank a) : rrow b = true := by
  have h1 : rRank a = 1 ∨ rRank a = 2 ∨ rRank a = 5 ∨ rRank a = 6 := by
    unfold rrow at ha
    simp only [Bool.and_eq_true, Bool.or_eq_true, beq_iff_eq] at ha
    exact ha.2
  rw [← h] at h1
  unfold rrow
  simp only [Bool.and_eq_true, Bool.or_eq_true, beq_iff_eq]
  refine ⟨?_, h1⟩
  unfold rExpr
  unfold rRank at h1
  repeat' split at h1
  all_goals simp_all
  all_goals omega
theorem row_is {a : Int} (h : rrow a = true) : a = 36 ∨ a = 37 ∨ a = 44 ∨ a = 45 ∨ a = 46 ∨ a = 47 ∨ a = 48 := by
  have h1 : rRank a = 1 ∨ rRank a = 2 ∨ rRank a = 5 ∨ rRank a = 6 := by
    unfold rrow at h
    simp only [Bool.and_eq_true, Bool.or_eq_true, beq_iff_eq] at h
    exact h.2
  unfold rRank at h1
  repeat' split at h1
  all_goals simp_all
  all_goals omega
theorem ans_le (op i : Int) (b : Nd) (kb : Fo) (e : Nat) : ansK op i b kb e ≤ e + 2 * (flF kb).length + 2 := by
  unfold ansK
  split
  · have := op_le b kb (e + 1); omega
  · have := op_le b kb (e + par b.op (rWants op i))
    have := par_le b.op (rWants op i)
    omega
end TR
end Go.Proofs.Ytgahdppcdeefaaa
