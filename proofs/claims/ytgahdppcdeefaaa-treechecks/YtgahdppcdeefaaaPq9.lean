
/-
  Where the trees of a forest stand: the document's Behind and Kids.
-/
import Derived.Test.YtgahdppcdeefaaaDq9
namespace Go.Proofs.Ytgahdppcdeefaaa
namespace TR
def totW (S : List Wt) : Nat := (S.map (·.many)).sum
theorem totW_cons (x : Wt) (S : List Wt) : totW (x :: S) = x.many + totW S := by unfold totW; simp
theorem totW_pop : ∀ (S : List Wt), totW (pop S) = totW S
  | [] => rfl
  | x :: S => by
    rw [pop]
    split
    · rename_i h
      rw [totW_pop S, totW_cons, h]
      omega
    · rfl
theorem pop_pos : ∀ {S : List Wt} {x : Wt} {S' : List Wt}, pop S = x :: S' → x.many ≠ 0
  | [], x, S', h => by cases h
  | y :: S, x, S', h => by
    rw [pop] at h
    split at h
    · exact pop_pos h
    · rename_i h1
      cases h
      exact h1
theorem goF_cnt : ∀ (f : Fo) (tl : List Nd) (S : List Wt) (D : Nat) {W : List Wt} {D1 : Nat}, goF f tl S D = some (W, D1) → totW W + cntF f = totW S
  | .nil, tl, S, D, W, D1, h => by
    cases h
    rfl
  | .cons a k r, tl, S, D, W, D1, h => by
    rw [goF] at h
    cases hp : pop S with
    | nil => rw [hp] at h; cases h
    | cons x S' =>
      rw [hp] at h
      simp only at h
      have h0 := totW_pop S
      rw [hp, totW_cons] at h0
      have h1 := pop_pos hp
      split at h
      · cases h
      · split at h
        · cases h
        · split at h
          · have h2 := goF_cnt r tl _ _ h
            rw [totW_cons] at h2
            show totW W + (cntF r + 1) = _
            have h3 : (wless x).many = x.many - 1 := rfl
            omega
          · cases h
theorem totW_wants (ps : List Plc) (many o : Nat) (g : Bool) : totW (wants ps many o g) = ps.length * many := by
  cases ps with
  | nil => simp [wants, totW]
  | cons p r =>
    rw [wants, totW_cons]
    have : totW (r.map fun q => ⟨q, many, o, false⟩) = r.length * many := by
      induction r with
      | nil => simp [totW]
      | cons q t ih => rw [List.map_cons, totW_cons, ih, List.length_cons, Nat.succ_mul]; simp only; omega
    rw [this, List.length_cons, Nat.succ_mul]
    simp only
    omega
theorem plcs_kids {k : Kd} {kids : Int} {ps : List Plc} {many : Nat} (h : plcs k kids = some (ps, many)) : ((ps.length * many : Nat) : Int) = kids := by
  unfold plcs at h
  split at h
  · split at h
    · cases h
      simp only [List.length_cons, List.length_nil]
      omega
    · cases h
  · split at h
    · rename_i w hw
      cases h
      have := List.find?_some hw
      simp only [beq_iff_eq] at this
      omega
    · split at h
      · rename_i h9
        cases h
        simp only [List.length_nil]
        omega
      · cases h
/- each node has as many kids as it says -/
def wfF : Fo → Prop
  | .nil => True
  | .cons a k r => a.kids = (cntF k : Int) ∧ wfF k ∧ wfF r
theorem goF_wf : ∀ (f : Fo) (tl : List Nd) (S : List Wt) (D : Nat) {W : List Wt} {D1 : Nat}, goF f tl S D = some (W, D1) → wfF f
  | .nil, _, _, _, _, _, _ => trivial
  | .cons a k r, tl, S, D, W, D1, h => by
    rw [goF] at h
    split at h
    · cases h
    · split at h
      · cases h
      · rename_i o ws he
        split at h
        · cases h
        · rename_i W1 D2 hk
          split at h
          · rename_i hw
            refine ⟨?_, goF_wf k _ _ _ hk, goF_wf r _ _ _ h⟩
            obtain ⟨-, ps, many, h2, -, h4⟩ := ent_is he
            have h5 := goF_cnt k _ _ _ hk
            have h6 := totW_pop W1
            rw [hw] at h6
            rw [h4, totW_wants] at h5
            have h7 := plcs_kids h2
            have h8 : totW ([] : List Wt) = 0 := rfl
            omega
          · cases h
theorem cnt_le : ∀ (f : Fo), cntF f ≤ (flF f).length
  | .nil => Nat.le_refl _
  | .cons a k r => by
    have := cnt_le r
    show cntF r + 1 ≤ (flF k ++ flF r).length + 1
    rw [List.length_append]
    omega
theorem bhn_over (N : Nat) : ∀ (f : Fo) (tl : List Nd) (j p : Nat), wfF f → (flF f).length ≤ N → bhn N (flF f ++ tl) (cntF f + j) p = bhn N tl j (p + (flF f).length)
  | .nil, tl, j, p, _, _ => by
    show bhn N tl (0 + j) p = _
    rw [Nat.zero_add]
    rfl
  | .cons a k r, tl, j, p, hw, hn => by
    obtain ⟨h1, h2, h3⟩ := hw
    have hl : (flF (.cons a k r)).length = (flF k).length + (flF r).length + 1 := by
      show (flF k ++ flF r).length + 1 = _
      rw [List.length_append]
    have hc := cnt_le k
    rw [hl] at hn ⊢
    show bhn N (a :: (flF k ++ flF r ++ tl)) (cntF r + 1 + j) p = _
    rw [show cntF r + 1 + j = (cntF r + j) + 1 by omega, bhn, if_pos (by omega), h1, List.append_assoc, show cntF r + j + ((cntF k : Int)).toNat = cntF k + (cntF r + j) by omega, bhn_over N k (flF r ++ tl) (cntF r + j) (p + 1) h2 (by omega), bhn_over N r tl j _ h3 (by omega)]
    congr 1
    omega
/- behind a tree that stands in a list -/
theorem bhd_at {l : List Nd} {p : Nat} {a : Nd} {k : Fo} {tl : List Nd} (hd : l.drop p = a :: (flF k ++ tl)) (hk : a.kids = (cntF k : Int)) (hw : wfF k) : bhd l (p : Int) = ((p + 1 + (flF k).length : Nat) : Int) := by
  have hlen := congrArg List.length hd
  rw [List.length_drop, List.length_cons, List.length_append] at hlen
  unfold bhd
  rw [if_neg (by omega), Int.toNat_natCast, hd]
  have h1 := bhn_over l.length (.cons a k .nil) tl 0 p ⟨hk, hw, trivial⟩ (by
    show (flF k ++ []).length + 1 ≤ _
    rw [List.append_nil]
    omega)
  have h2 : flF (.cons a k .nil) ++ tl = a :: (flF k ++ tl) := by
    show a :: (flF k ++ [] ++ tl) = _
    rw [List.append_nil]
  rw [h2] at h1
  have h3 : cntF (.cons a k .nil) + 0 = 1 := rfl
  rw [h3] at h1
  rw [h1]
  show (match bhn l.length tl 0 (p + (flF k ++ []).length.succ) with | some q => (q : Int) | none => -1) = _
  have h4 : ∀ q, bhn l.length tl 0 q = some q := fun q => by cases tl <;> rfl
  rw [h4, List.append_nil]
  show ((p + ((flF k).length + 1) : Nat) : Int) = _
  omega
/- where they begin -/
def posF : Fo → Nat → List Int
  | .nil, _ => []
  | .cons _ k r, p => (p : Int) :: posF r (p + 1 + (flF k).length)
theorem kdsF_at (l : List Nd) : ∀ (f : Fo) (tl : List Nd) (p : Nat), l.drop p = flF f ++ tl → wfF f → kdsF l (cntF f) (p : Int) = posF f p
  | .nil, _, _, _, _ => rfl
  | .cons a k r, tl, p, hd, hw => by
    obtain ⟨h1, h2, h3⟩ := hw
    have hd2 : l.drop p = a :: (flF k ++ (flF r ++ tl)) := by
      rw [hd]
      show a :: (flF k ++ flF r) ++ tl = _
      rw [List.cons_append, List.append_assoc]
    show (p : Int) :: kdsF l (cntF r) (bhd l p) = _
    rw [bhd_at hd2 h1 h2, kdsF_at l r tl _ (by
      rw [show p + 1 + (flF k).length = p + (1 + (flF k).length) by omega, ← List.drop_drop, hd2, ← List.drop_drop]
      show (flF k ++ (flF r ++ tl)).drop (flF k).length = _
      exact List.drop_left) h3]
    rfl
theorem kds_at {l : List Nd} {p : Nat} {a : Nd} {k : Fo} {tl : List Nd} (hd : l.drop p = a :: (flF k ++ tl)) (hk : a.kids = (cntF k : Int)) (hw : wfF k) : kds l (p : Int) = posF k (p + 1) := by
  unfold kds
  rw [bhd_at hd hk hw, if_neg (by omega), Int.toNat_natCast]
  have hg : l.getD p dn = a := by
    have h1 := congrArg (fun m => m[0]?) hd
    simp only [List.getElem?_drop, Nat.add_zero, List.getElem?_cons_zero] at h1
    rw [List.getD_eq_getElem?_getD, h1]
    rfl
  rw [hg, hk, Int.toNat_natCast]
  have h2 := kdsF_at l k tl (p + 1) (by rw [← List.drop_drop, hd]; rfl) hw
  exact h2
end TR
end Go.Proofs.Ytgahdppcdeefaaa
