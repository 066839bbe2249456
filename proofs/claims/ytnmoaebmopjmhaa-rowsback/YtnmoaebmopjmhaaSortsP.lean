/-
  What is still to come out of a heap while things are taken by their ranks, no program.
-/
import Derived.Test.YtnmoaebmopjmhaaHp
namespace Go.Proofs.Ytnmoaebmopjmhaa

section
variable {X : Type} (rk : X → Int)
def rem (r : Int) (i : Nat) (l : List X) : List X := (l.take i).filter (fun x => decide (r < rk x)) ++ (l.drop i).filter (fun x => decide (r ≤ rk x))
theorem rem_all (r : Int) (l : List X) (h : ∀ x ∈ l, r ≤ rk x) : rem rk r 0 l = l := by
  unfold rem
  rw [List.take_zero, List.filter_nil, List.nil_append, List.drop_zero, List.filter_eq_self.2]
  intro x hx; exact decide_eq_true (h x hx)
theorem rem_none (r : Int) (l : List X) (h : ∀ x ∈ l, rk x < r) : rem rk r 0 l = [] := by
  unfold rem
  rw [List.take_zero, List.filter_nil, List.nil_append, List.drop_zero, List.filter_eq_nil_iff]
  intro x hx hd; have := h x hx; rw [decide_eq_true_eq] at hd; omega
theorem rem_end (r : Int) (l : List X) : rem rk r l.length l = rem rk (r + 1) 0 l := by
  unfold rem
  rw [List.take_length, List.drop_length, List.filter_nil, List.append_nil, List.take_zero, List.filter_nil, List.nil_append, List.drop_zero]
  apply List.filter_congr
  intro x _
  rw [decide_eq_decide]; omega
theorem rem_skip (dx : X) (r : Int) (i : Nat) (l : List X) (hi : i < l.length) (h : rk (l.getD i dx) ≠ r) : rem rk r (i + 1) l = rem rk r i l := by
  unfold rem
  have e : l.getD i dx = l[i] := by rw [List.getD_eq_getElem?_getD, List.getElem?_eq_getElem hi]; rfl
  rw [e] at h
  rw [List.take_add_one, List.getElem?_eq_getElem hi, Option.toList_some, List.filter_append, List.drop_eq_getElem_cons hi, List.append_assoc]
  congr 1
  by_cases hc : r < rk l[i]
  · rw [List.filter_cons_of_pos (by simpa using hc), List.filter_nil, List.filter_cons_of_pos (by simp; omega)]
    rfl
  · rw [List.filter_cons_of_neg (by simpa using hc), List.filter_nil, List.filter_cons_of_neg (by simp; omega)]
    rfl
theorem rem_take (dx : X) (r : Int) (i : Nat) (l : List X) (hi : i < l.length) (h : rk (l.getD i dx) = r) :
    rem rk r i l ≠ [] ∧ (rem rk r i l).getD (least rk dx (rem rk r i l)) dx = l.getD i dx ∧ (rem rk r i l).eraseIdx (least rk dx (rem rk r i l)) = rem rk r (i + 1) l := by
  have e : l.getD i dx = l[i] := by rw [List.getD_eq_getElem?_getD, List.getElem?_eq_getElem hi]; rfl
  rw [e] at h
  obtain ⟨A, hA⟩ : ∃ A, A = (l.take i).filter (fun x => decide (r < rk x)) := ⟨_, rfl⟩
  obtain ⟨B, hB⟩ : ∃ B, B = (l.drop (i + 1)).filter (fun x => decide (r ≤ rk x)) := ⟨_, rfl⟩
  have h1 : rem rk r i l = A ++ l[i] :: B := by
    unfold rem
    rw [← hA, List.drop_eq_getElem_cons hi, List.filter_cons_of_pos (by simp; omega), ← hB]
  have h2 : rem rk r (i + 1) l = A ++ B := by
    unfold rem
    rw [← hB, List.take_add_one, List.getElem?_eq_getElem hi, Option.toList_some, List.filter_append, ← hA, List.filter_cons_of_neg (by simp; omega), List.filter_nil, List.append_nil]
  have hAr : ∀ j, j < A.length → r < rk (A.getD j dx) := by
    intro j hj
    have : A.getD j dx ∈ A := by rw [List.getD_eq_getElem?_getD, List.getElem?_eq_getElem hj]; exact List.getElem_mem _
    rw [hA, List.mem_filter] at this
    have h3 := this.2
    rw [decide_eq_true_eq, ← hA] at h3
    exact h3
  have hBr : ∀ x ∈ B, r ≤ rk x := by
    intro x hx
    rw [hB, List.mem_filter] at hx
    simpa using hx.2
  have gA : ∀ j, j < A.length → (A ++ l[i] :: B).getD j dx = A.getD j dx := fun j hj => by
    rw [List.getD_eq_getElem?_getD, List.getElem?_append_left hj, ← List.getD_eq_getElem?_getD]
  have gM : (A ++ l[i] :: B).getD A.length dx = l[i] := by
    rw [List.getD_eq_getElem?_getD, List.getElem?_append_right (Nat.le_refl _), Nat.sub_self]; rfl
  have hl : least rk dx (A ++ l[i] :: B) = A.length := by
    apply least_eq rk dx _ _ (by simp)
    · intro j hj
      rw [gM, h]
      by_cases c1 : j < A.length
      · rw [gA j c1]; have := hAr j c1; omega
      · by_cases c2 : j = A.length
        · rw [c2, gM, h]; exact Int.le_refl _
        · obtain ⟨q, hq⟩ : ∃ q, j = A.length + (q + 1) := ⟨j - A.length - 1, by omega⟩
          rw [hq, List.getD_eq_getElem?_getD, List.getElem?_append_right (by omega), show A.length + (q + 1) - A.length = q + 1 by omega, List.getElem?_cons_succ]
          have hqB : q < B.length := by simp at hj; omega
          rw [List.getElem?_eq_getElem hqB]
          exact hBr _ (List.getElem_mem _)
    · intro j hj
      rw [gM, gA j hj, h]
      exact hAr j hj
  rw [h1, h2, hl]
  refine ⟨by simp, by rw [gM, e], ?_⟩
  rw [List.eraseIdx_append_of_length_le (Nat.le_refl _), Nat.sub_self]
  rfl
end
end Go.Proofs.Ytnmoaebmopjmhaa
