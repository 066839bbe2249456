
/-
  Bounds of the document's depth; its chain; each row has two kids, each field one.
-/
import Derived.Test.YtgahdppcdeefaaaPq9
namespace Go.Proofs.Ytgahdppcdeefaaa
namespace TR
theorem par_le (op w : Int) : par op w ≤ 1 := by unfold par; split <;> omega
theorem dopn_le (op : Int) : dopn op ≤ 1 := by unfold dopn; split <;> omega
theorem fl_cons (a : Nd) (k r : Fo) : (flF (.cons a k r)).length = (flF k).length + (flF r).length + 1 := by
  show (flF k ++ flF r).length + 1 = _
  rw [List.length_append]
mutual
theorem op_le (a : Nd) (k : Fo) (d : Nat) : opK a k d ≤ d + 2 * (flF k).length + 1 ∧ d ≤ opK a k d := by
  have h0 := dopn_le a.op
  rw [opK]
  split
  · have h := ch_le k 1 (d + dopn a.op) (Nat.le_refl _)
    omega
  · split
    · have h := row_le a.op k (d + dopn a.op)
      omega
    · have h := kl_le a.op 0 k (d + dopn a.op)
      omega
termination_by (SizeOf.sizeOf k, 1)
theorem ch_le (k : Fo) (n d : Nat) (hn : 1 ≤ n) : chK k n d ≤ d + (n - 1) + 2 * (flF k).length ∧ d ≤ chK k n d := by
  match k with
  | .nil => rw [chK]; omega
  | .cons b kb r =>
    rw [chK, fl_cons]
    split
    · have h := ch_le kb (n + 1) d (by omega)
      omega
    · have h := op_le b kb (d + par b.op 8)
      have h1 := par_le b.op 8
      omega
termination_by (SizeOf.sizeOf k, 0)
theorem row_le (op : Int) (k : Fo) (d : Nat) : (rowK op k d).1 ≤ d + 2 * (flF k).length ∧ d ≤ (rowK op k d).1 ∧ (rowK op k d).2 ≤ (flF k).length + 1 := by
  match k with
  | .nil => simp only [rowK]; omega
  | .cons b kb .nil => simp only [rowK]; omega
  | .cons b kb (.cons c kc r) =>
    have h1 := par_le c.op (rWants op 1)
    have h2 := par_le b.op (rWants op 0)
    rw [rowK, fl_cons, fl_cons]
    split
    · have h3 := row_le b.op kb d
      have h4 := op_le c kc (d + (rowK b.op kb d).2 + par c.op (rWants op 1))
      simp only
      omega
    · have h3 := op_le b kb (d + par b.op (rWants op 0))
      have h4 := op_le c kc (d + par c.op (rWants op 1))
      simp only
      omega
termination_by (SizeOf.sizeOf k, 0)
theorem kl_le (op i : Int) (k : Fo) (d : Nat) : klK op i k d ≤ d + 2 * (flF k).length ∧ d ≤ klK op i k d := by
  match k with
  | .nil => rw [klK]; omega
  | .cons b kb r =>
    have h1 := par_le b.op (rWants op i)
    have h2 := kl_le op (i + 1) r d
    rw [klK, fl_cons]
    split
    · have h3 := op_le b kb (d + 1)
      omega
    · have h3 := op_le b kb (d + par b.op (rWants op i))
      omega
termination_by (SizeOf.sizeOf k, 0)
end
/- each row has two kids, each field one -/
def acF : Fo → Prop
  | .nil => True
  | .cons a k r => (rrow a.op = true → cntF k = 2) ∧ (a.op = 49 → cntF k = 1) ∧ acF k ∧ acF r
theorem goF_ac : ∀ (f : Fo) (tl : List Nd) (S : List Wt) (D : Nat) {W : List Wt} {D1 : Nat}, goF f tl S D = some (W, D1) → acF f
  | .nil, _, _, _, _, _, _ => trivial
  | .cons a k r, tl, S, D, W, D1, h => by
    have hwf := goF_wf _ _ _ _ h
    rw [goF] at h
    split at h
    · cases h
    · split at h
      · cases h
      · rename_i o ws he
        split at h
        · cases h
        · rename_i W1 D2 hk
          split at h
          · obtain ⟨h1, ps, many, h2, -, -⟩ := ent_is he
            have hkey := is_key h1
            have h7 := plcs_kids h2
            have h8 := hwf.1
            refine ⟨fun hr => ?_, fun h49 => ?_, goF_ac k _ _ _ hk, goF_ac r _ _ _ h⟩
            · rcases kind_of hkey with ⟨-, -, h3⟩ | ⟨-, -, h3⟩ | ⟨-, -, -, h3⟩ | ⟨-, -, he0, r1, r2, hw⟩
              · rw [hr] at h3; cases h3
              · rw [hr] at h3; cases h3
              · rw [hr] at h3; cases h3
              · rcases plcs_way he0 h2 with ⟨h9, rfl⟩ | ⟨-, h9⟩
                · rw [hw] at h9
                  obtain rfl := List.mem_singleton.1 h9
                  simp at h7
                  omega
                · rw [hw] at h9
                  cases h9
            · rcases kind_of hkey with ⟨-, h3, -⟩ | ⟨-, h3, -⟩ | ⟨-, he0, hw, -⟩ | ⟨-, h3, -⟩
              · exact absurd h49 h3
              · exact absurd h49 h3
              · rcases plcs_way he0 h2 with ⟨h9, rfl⟩ | ⟨-, h9⟩
                · rw [hw] at h9
                  obtain rfl := List.mem_singleton.1 h9
                  simp at h7
                  omega
                · rw [hw] at h9
                  cases h9
              · exact absurd h49 h3
          · cases h
end TR
end Go.Proofs.Ytgahdppcdeefaaa
