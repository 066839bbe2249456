
/-
  A list of nodes as a forest, and the walk over it.
-/
import Derived.Test.YtgahdppcdeefaaaTh9
namespace Go.Proofs.Ytgahdppcdeefaaa
namespace TR
/- trees side by side: the first one's node, its kids, the others -/
inductive Fo where
  | nil
  | cons (a : Nd) (kids rest : Fo)
def flF : Fo → List Nd
  | .nil => []
  | .cons a k r => a :: (flF k ++ flF r)
def cntF : Fo → Nat
  | .nil => 0
  | .cons _ _ r => cntF r + 1
def wless (x : Wt) : Wt := { x with many := x.many - 1 }
/- the walk over a forest, behind which tl stands: what is still wanted, and the depth -/
def goF : Fo → List Nd → List Wt → Nat → Option (List Wt × Nat)
  | .nil, _, S, d => some (S, d)
  | .cons a k r, tl, S, d => match pop S with
    | [] => none
    | x :: S' => match ent a (flF k ++ (flF r ++ tl)) x with
      | none => none
      | some (o, ws) => match goF k (flF r ++ tl) ws (max d o) with
        | none => none
        | some (W, d1) => if pop W = [] then goF r tl (wless x :: S') d1 else none
theorem popA_nil : ∀ {S : List Wt} (T : List Wt), pop S = [] → pop (S ++ T) = pop T
  | [], _, _ => rfl
  | x :: S, T, h => by
    rw [pop] at h
    rw [List.cons_append, pop]
    split at h
    · rename_i h1
      rw [if_pos h1]
      exact popA_nil T h
    · cases h
theorem popA_cons : ∀ {S : List Wt} {x : Wt} {S' : List Wt} (T : List Wt), pop S = x :: S' → pop (S ++ T) = x :: (S' ++ T)
  | [], _, _, _, h => by cases h
  | y :: S, x, S', T, h => by
    rw [pop] at h
    rw [List.cons_append, pop]
    split at h
    · rename_i h1
      rw [if_pos h1]
      exact popA_cons T h
    · rename_i h1
      rw [if_neg h1]
      cases h
      rfl
theorem go_popA {l : List Nd} {S T : List Wt} {d p : Nat} (h : pop S = []) : go l (S ++ T) d p = go l T d p := by
  cases l with
  | nil => unfold go; rw [popA_nil T h]
  | cons a r => unfold go; rw [popA_nil T h]
/- the walk goes over a forest as goF says -/
theorem go_over : ∀ (f : Fo) (tl : List Nd) (S T : List Wt) (d p : Nat) {S1 : List Wt} {d1 : Nat}, goF f tl S d = some (S1, d1) → go (flF f ++ tl) (S ++ T) d p = go tl (S1 ++ T) d1 (p + (flF f).length)
  | .nil, tl, S, T, d, p, S1, d1, h => by
    cases h
    rfl
  | .cons a k r, tl, S, T, d, p, S1, d1, h => by
    rw [goF] at h
    cases hp : pop S with
    | nil => rw [hp] at h; cases h
    | cons x S' =>
      rw [hp] at h
      simp only at h
      cases he : ent a (flF k ++ (flF r ++ tl)) x with
      | none => rw [he] at h; cases h
      | some q =>
        obtain ⟨o, ws⟩ := q
        rw [he] at h
        simp only at h
        cases hk : goF k (flF r ++ tl) ws (max d o) with
        | none => rw [hk] at h; cases h
        | some q =>
          obtain ⟨W, d2⟩ := q
          rw [hk] at h
          simp only at h
          by_cases hw : pop W = []
          · rw [if_pos hw] at h
            have h1 := go_over k (flF r ++ tl) ws (wless x :: S' ++ T) (max d o) (p + 1) hk
            have h2 := go_over r tl (wless x :: S') T d2 (p + 1 + (flF k).length) h
            rw [go_popA hw, h2] at h1
            show go (a :: (flF k ++ flF r) ++ tl) (S ++ T) d p = _
            rw [List.cons_append, List.append_assoc, go, popA_cons T hp]
            simp only
            rw [he]
            simp only
            refine h1.trans ?_
            congr 1
            show p + 1 + (flF k).length + (flF r).length = p + (flF k ++ flF r).length.succ
            rw [List.length_append]
            omega
          · rw [if_neg hw] at h
            cases h
/- and a list over which it goes well is a forest -/
theorem go_split : ∀ (n : Nat) (l : List Nd) (S T : List Wt) (d p : Nat), l.length ≤ n → (go l (S ++ T) d p).2.2 = true → ∃ f tl W d1, l = flF f ++ tl ∧ goF f tl S d = some (W, d1) ∧ pop W = [] ∧ go l (S ++ T) d p = go tl T d1 (p + (flF f).length)
  | n, l, S, T, d, p, hn, h => by
    cases hp : pop S with
    | nil => exact ⟨.nil, l, S, d, rfl, rfl, hp, go_popA hp⟩
    | cons x S' =>
      cases l with
      | nil =>
        rw [go, popA_cons T hp, if_neg (by simp)] at h
        cases h
      | cons a r =>
        cases n with
        | zero => simp at hn
        | succ n =>
          have hr : r.length ≤ n := by simp at hn; omega
          have hg : go (a :: r) (S ++ T) d p = match ent a r x with
            | none => (0, p, false)
            | some (o, ws) => go r (ws ++ (wless x :: S' ++ T)) (max d o) (p + 1) := by
            rw [go, popA_cons T hp]
            rfl
          rw [hg] at h ⊢
          cases he : ent a r x with
          | none => rw [he] at h; cases h
          | some q =>
            obtain ⟨o, ws⟩ := q
            rw [he] at h
            simp only at h ⊢
            obtain ⟨k, t1, W1, d1, e1, g1, p1, q1⟩ := go_split n r ws (wless x :: S' ++ T) (max d o) (p + 1) hr h
            rw [q1] at h ⊢
            have hl : t1.length ≤ n := by
              have := congrArg List.length e1
              rw [List.length_append] at this
              omega
            obtain ⟨f, t2, W2, d2, e2, g2, p2, q2⟩ := go_split n t1 (wless x :: S') T d1 (p + 1 + (flF k).length) hl h
            refine ⟨.cons a k f, t2, W2, d2, ?_, ?_, p2, ?_⟩
            · rw [e1, e2]
              show a :: (flF k ++ (flF f ++ t2)) = a :: (flF k ++ flF f) ++ t2
              rw [List.cons_append, List.append_assoc]
            · rw [goF, hp]
              simp only
              rw [← e2, ← e1, he]
              simp only
              rw [g1]
              simp only
              rw [if_pos p1]
              exact g2
            · rw [q2]
              congr 1
              show p + 1 + (flF k).length + (flF f).length = p + (flF k ++ flF f).length.succ
              rw [List.length_append]
              omega
/- a list that is a tree -/
theorem wlk_tree {l : List Nd} (h : (wlk l).2.2 = true) : ∃ a k W, l = a :: flF k ∧ goF (.cons a k .nil) [] [wroot] 0 = some (W, dpt l) ∧ pop W = [] := by
  obtain ⟨f, tl, W, d1, e, g, hp, q⟩ := go_split l.length l [wroot] [] 0 0 (Nat.le_refl _) h
  have h2 : (go tl [] d1 (0 + (flF f).length)).2.2 = true := by
    have h3 := h
    unfold wlk at h3
    rw [show ([wroot] : List Wt) = [wroot] ++ [] from rfl, q] at h3
    exact h3
  obtain rfl : tl = [] := by
    cases tl with
    | nil => rfl
    | cons b t =>
      rw [go, pop] at h2
      cases h2
  rw [List.append_nil] at e
  subst e
  have hd : dpt (flF f) = d1 := by
    unfold dpt wlk
    rw [show ([wroot] : List Wt) = [wroot] ++ [] from rfl, q, go, pop, if_pos rfl]
  rw [← hd] at g
  cases f with
  | nil =>
    cases g
    cases hp
  | cons a k r =>
    cases r with
    | nil => exact ⟨a, k, W, by show a :: (flF k ++ []) = _; rw [List.append_nil], g, hp⟩
    | cons b k2 r2 =>
      rw [goF] at g
      have e1 : pop [wroot] = [wroot] := rfl
      rw [e1] at g
      simp only at g
      split at g
      · cases g
      · split at g
        · cases g
        · split at g
          · rw [goF] at g
            have e2 : pop [wless wroot] = [] := rfl
            rw [e2] at g
            cases g
          · cases g
end TR
end Go.Proofs.Ytgahdppcdeefaaa
