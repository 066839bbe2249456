/-
  The document's depth over a forest; the kinds' table against its words.
-/
import Derived.Test.YtgahdppcdeefaaaTh9
import Derived.Test.YtgahdppcdeefaaaRk9
namespace Go.Proofs.Ytgahdppcdeefaaa
namespace TR
/- trees side by side: the first one's node, its kids, the others -/
inductive Fo where
  | nil
  | cons (a : Nd) (kids rest : Fo)
def flF : Fo → List Nd
  | .nil => []
  | .cons a k r => a :: (flF k ++ flF r)
def cntF : Fo → Nat
  | .nil => 0
  | .cons _ _ r => cntF r + 1
def wless (x : Wt) : Wt := { x with many := x.many - 1 }
/- the walk over a forest, behind which tl stands: what is still wanted, and the depth -/
def goF : Fo → List Nd → List Wt → Nat → Option (List Wt × Nat)
  | .nil, _, S, d => some (S, d)
  | .cons a k r, tl, S, d => match pop S with
    | [] => none
    | x :: S' => match ent a (flF k ++ (flF r ++ tl)) x with
      | none => none
      | some (o, ws) => match goF k (flF r ++ tl) ws (max d o) with
        | none => none
        | some (W, d1) => if pop W = [] then goF r tl (wless x :: S') d1 else none
theorem popA_nil : ∀ {S : List Wt} (T : List Wt), pop S = [] → pop (S ++ T) = pop T
  | [], _, _ => rfl
  | x :: S, T, h => by
    rw [pop] at h
    rw [List.cons_append, pop]
    split at h
    · rename_i h1
      rw [if_pos h1]
      exact popA_nil T h
    · cases h
theorem popA_cons : ∀ {S : List Wt} {x : Wt} {S' : List Wt} (T : List Wt), pop S = x :: S' → pop (S ++ T) = x :: (S' ++ T)
  | [], _, _, _, h => by cases h
  | y :: S, x, S', T, h => by
    rw [pop] at h
    rw [List.cons_append, pop]
    split at h
    · rename_i h1
      rw [if_pos h1]
      exact popA_cons T h
    · rename_i h1
      rw [if_neg h1]
      cases h
      rfl
theorem go_popA {l : List Nd} {S T : List Wt} {d p : Nat} (h : pop S = []) : go l (S ++ T) d p = go l T d p := by
  cases l with
  | nil => unfold go; rw [popA_nil T h]
  | cons a r => unfold go; rw [popA_nil T h]
/- the walk goes over a forest as goF says -/
theorem go_over : ∀ (f : Fo) (tl : List Nd) (S T : List Wt) (d p : Nat) {S1 : List Wt} {d1 : Nat}, goF f tl S d = some (S1, d1) → go (flF f ++ tl) (S ++ T) d p = go tl (S1 ++ T) d1 (p + (flF f).length)
  | .nil, tl, S, T, d, p, S1, d1, h => by
    cases h
    rfl
  | .cons a k r, tl, S, T, d, p, S1, d1, h => by
    rw [goF] at h
    cases hp : pop S with
    | nil => rw [hp] at h; cases h
    | cons x S' =>
      rw [hp] at h
      simp only at h
      cases he : ent a (flF k ++ (flF r ++ tl)) x with
      | none => rw [he] at h; cases h
      | some q =>
        obtain ⟨o, ws⟩ := q
        rw [he] at h
        simp only at h
        cases hk : goF k (flF r ++ tl) ws (max d o) with
        | none => rw [hk] at h; cases h
        | some q =>
          obtain ⟨W, d2⟩ := q
          rw [hk] at h
          simp only at h
          by_cases hw : pop W = []
          · rw [if_pos hw] at h
            have h1 := go_over k (flF r ++ tl) ws (wless x :: S' ++ T) (max d o) (p + 1) hk
            have h2 := go_over r tl (wless x :: S') T d2 (p + 1 + (flF k).length) h
            rw [go_popA hw, h2] at h1
            show go (a :: (flF k ++ flF r) ++ tl) (S ++ T) d p = _
            rw [List.cons_append, List.append_assoc, go, popA_cons T hp]
            simp only
            rw [he]
            simp only
            refine h1.trans ?_
            congr 1
            show p + 1 + (flF k).length + (flF r).length = p + (flF k ++ flF r).length.succ
            rw [List.length_append]
            omega
          · rw [if_neg hw] at h
            cases h
/- and a list over which it goes well is a forest -/
theorem go_split : ∀ (n : Nat) (l : List Nd) (S T : List Wt) (d p : Nat), l.length ≤ n → (go l (S ++ T) d p).2.2 = true → ∃ f tl W d1, l = flF f ++ tl ∧ goF f tl S d = some (W, d1) ∧ pop W = [] ∧ go l (S ++ T) d p = go tl T d1 (p + (flF f).length)
  | n, l, S, T, d, p, hn, h => by
    cases hp : pop S with
    | nil => exact ⟨.nil, l, S, d, rfl, rfl, hp, go_popA hp⟩
    | cons x S' =>
      cases l with
      | nil =>
        rw [go, popA_cons T hp, if_neg (by simp)] at h
        cases h
      | cons a r =>
        cases n with
        | zero => simp at hn
        | succ n =>
          have hr : r.length ≤ n := by simp at hn; omega
          have hg : go (a :: r) (S ++ T) d p = match ent a r x with
            | none => (0, p, false)
            | some (o, ws) => go r (ws ++ (wless x :: S' ++ T)) (max d o) (p + 1) := by
            rw [go, popA_cons T hp]
            rfl
          rw [hg] at h ⊢
          cases he : ent a r x with
          | none => rw [he] at h; cases h
          | some q =>
            obtain ⟨o, ws⟩ := q
            rw [he] at h
            simp only at h ⊢
            obtain ⟨k, t1, W1, d1, e1, g1, p1, q1⟩ := go_split n r ws (wless x :: S' ++ T) (max d o) (p + 1) hr h
            rw [q1] at h ⊢
            have hl : t1.length ≤ n := by
              have := congrArg List.length e1
              rw [List.length_append] at this
              omega
            obtain ⟨f, t2, W2, d2, e2, g2, p2, q2⟩ := go_split n t1 (wless x :: S') T d1 (p + 1 + (flF k).length) hl h
            refine ⟨.cons a k f, t2, W2, d2, ?_, ?_, p2, ?_⟩
            · rw [e1, e2]
              show a :: (flF k ++ (flF f ++ t2)) = a :: (flF k ++ flF f) ++ t2
              rw [List.cons_append, List.append_assoc]
            · rw [goF, hp]
              simp only
              rw [← e2, ← e1, he]
              simp only
              rw [g1]
              simp only
              rw [if_pos p1]
              exact g2
            · rw [q2]
              congr 1
              show p + 1 + (flF k).length + (flF f).length = p + (flF k ++ flF f).length.succ
              rw [List.length_append]
              omega
/- a list that is a tree -/
theorem wlk_tree {l : List Nd} (h : (wlk l).2.2 = true) : ∃ a k W, l = a :: flF k ∧ goF (.cons a k .nil) [] [wroot] 0 = some (W, dpt l) ∧ pop W = [] := by
  obtain ⟨f, tl, W, d1, e, g, hp, q⟩ := go_split l.length l [wroot] [] 0 0 (Nat.le_refl _) h
  have h2 : (go tl [] d1 (0 + (flF f).length)).2.2 = true := by
    have h3 := h
    unfold wlk at h3
    rw [show ([wroot] : List Wt) = [wroot] ++ [] from rfl, q] at h3
    exact h3
  obtain rfl : tl = [] := by
    cases tl with
    | nil => rfl
    | cons b t =>
      rw [go, pop] at h2
      cases h2
  rw [List.append_nil] at e
  subst e
  have hd : dpt (flF f) = d1 := by
    unfold dpt wlk
    rw [show ([wroot] : List Wt) = [wroot] ++ [] from rfl, q, go, pop, if_pos rfl]
  rw [← hd] at g
  cases f with
  | nil =>
    cases g
    cases hp
  | cons a k r =>
    cases r with
    | nil => exact ⟨a, k, W, by show a :: (flF k ++ []) = _; rw [List.append_nil], g, hp⟩
    | cons b k2 r2 =>
      rw [goF] at g
      have e1 : pop [wroot] = [wroot] := rfl
      rw [e1] at g
      simp only at g
      split at g
      · cases g
      · split at g
        · cases g
        · split at g
          · rw [goF] at g
            have e2 : pop [wless wroot] = [] := rfl
            rw [e2] at g
            cases g
          · cases g
end TR
end Go.Proofs.Ytgahdppcdeefaaa
namespace Go.Proofs.Ytgahdppcdeefaaa
namespace TR
def dopn (op : Int) : Nat := if op = 10 ∨ op = 19 ∨ op = 50 ∨ op = 34 ∨ op = 35 then 1 else 0
def rrow (op : Int) : Bool := rExpr op && (rRank op == 1 || (rRank op == 2 || (rRank op == 5 || rRank op == 6)))
def par (op w : Int) : Nat := if (rExpr op && decide (rRank op < w)) = true then 1 else 0
mutual
/- within a node, so many being open at it -/
def opK (a : Nd) (k : Fo) (d : Nat) : Nat :=
  if a.op = 49 then chK k 1 (d + dopn a.op)
  else if rrow a.op = true then (rowK a.op k (d + dopn a.op)).1
  else klK a.op 0 k (d + dopn a.op)
termination_by (SizeOf.sizeOf k, 1)
def chK (k : Fo) (n d : Nat) : Nat :=
  match k with
  | .nil => d
  | .cons b kb _ => if b.op = 49 then chK kb (n + 1) d else max (d + n - 1) (opK b kb (d + par b.op 8))
termination_by (SizeOf.sizeOf k, 0)
def rowK (op : Int) (k : Fo) (d : Nat) : Nat × Nat :=
  match k with
  | .cons b kb (.cons c kc _) =>
    if rRank b.op = rRank op then (max (max d (rowK b.op kb d).1) (opK c kc (d + (rowK b.op kb d).2 + par c.op (rWants op 1))), (rowK b.op kb d).2 + 1)
    else (max (max d (opK b kb (d + par b.op (rWants op 0)))) (opK c kc (d + par c.op (rWants op 1))), 1)
  | _ => (d, 1)
termination_by (SizeOf.sizeOf k, 0)
def klK (op i : Int) (k : Fo) (d : Nat) : Nat :=
  match k with
  | .nil => d
  | .cons b kb r => max (if op = 13 ∧ i = 2 ∧ b.op = 13 then opK b kb (d + 1) else opK b kb (d + par b.op (rWants op i))) (klK op (i + 1) r d)
termination_by (SizeOf.sizeOf k, 0)
end
/- the table -/
theorem opens_tab {op : Int} (h : op ∈ keys) : (kd op).opens = dopn op := by
  have h1 : keys.all (fun op => (kd op).opens == dopn op) = true := by decide +kernel
  simpa using List.all_eq_true.1 h1 op h
theorem row_tab {op : Int} (h : op ∈ keys) : (kd op).row = (decide (op = 49) || rrow op) := by
  have h1 : keys.all (fun op => (kd op).row == (decide (op = 49) || rrow op)) = true := by decide +kernel
  simpa using List.all_eq_true.1 h1 op h
theorem goes_tab {a b : Int} (ha : a ∈ keys) (hb : b ∈ keys) : ((kd a).row && ((kd b).row && (kd a).rank == (kd b).rank)) = (decide (a = 49 ∧ b = 49) || (rrow a && decide (rRank b = rRank a))) := by
  have h1 : keys.all (fun a => keys.all fun b => ((kd a).row && ((kd b).row && (kd a).rank == (kd b).rank)) == (decide (a = 49 ∧ b = 49) || (rrow a && decide (rRank b = rRank a)))) = true := by decide +kernel
  simpa using List.all_eq_true.1 (List.all_eq_true.1 h1 a ha) b hb
/- what stands in parentheses, and an if behind an else -/
def mr (k : Kd) (q : Plc) : Nat := (if k.rank < q.rank then 1 else 0) + (if k.is &&& q.takes &&& 32 ≠ 0 then 1 else 0)
theorem more_mr (k : Kd) (x : Wt) (m : Nat) : more k x m = mr k x.plc + (if x.rest then 0 else m) := rfl
theorem way_tab {a b : Int} (ha : a ∈ keys) (hb : b ∈ keys) {w : List Plc} (hw : w ∈ (kd a).ways) {j : Nat} {q : Plc} (hq : w[j]? = some q) (ht : (kd b).is &&& q.takes ≠ 0) : mr (kd b) q = if a = 13 ∧ j = 2 ∧ b = 13 then 1 else par b (rWants a j) := by
  have h1 : keys.all (fun a => keys.all fun b => (kd a).ways.all fun w => (List.range 3).all fun j => match w[j]? with
    | none => true
    | some q => decide ((kd b).is &&& q.takes = 0) || mr (kd b) q == if a = 13 ∧ j = 2 ∧ b = 13 then 1 else par b (rWants a j)) = true := by decide +kernel
  have h3 : keys.all (fun a => (kd a).ways.all fun w => decide (w.length ≤ 3)) = true := by decide +kernel
  have h4 := List.all_eq_true.1 (List.all_eq_true.1 h3 a ha) w hw
  simp only [decide_eq_true_eq] at h4
  have hj : j < w.length := (List.getElem?_eq_some_iff.1 hq).1
  have h2 := List.all_eq_true.1 (List.all_eq_true.1 (List.all_eq_true.1 (List.all_eq_true.1 h1 a ha) b hb) w hw) j (List.mem_range.2 (by omega))
  rw [hq] at h2
  simp only [Bool.or_eq_true, decide_eq_true_eq, beq_iff_eq] at h2
  rcases h2 with h2 | h2
  · exact absurd h2 ht
  · exact h2
theorem each_tab {a b : Int} (ha : a ∈ keys) (he : (kd a).each ≠ 0) (j : Int) : mr (kd b) ⟨(kd a).each, 0⟩ = 0 ∧ par b (rWants a j) = 0 ∧ a ≠ 13 ∧ a ≠ 49 ∧ rrow a = false := by
  have h1 : keys.all (fun a => decide ((kd a).each = 0) || (((kd a).each &&& 32 == 0) && (rRank a == 8 && (decide (a ≠ 13) && (decide (a ≠ 49) && rrow a == false))))) = true := by decide +kernel
  have h2 := List.all_eq_true.1 h1 a ha
  simp only [Bool.or_eq_true, Bool.and_eq_true, decide_eq_true_eq, beq_iff_eq] at h2
  rcases h2 with h2 | ⟨h2, h3, h4, h5, h6⟩
  · exact absurd h2 he
  · refine ⟨?_, ?_, h4, h5, h6⟩
    · unfold mr
      rw [if_neg (by simp), if_neg (by simp only; rw [Nat.and_assoc, h2]; simp)]
    · unfold par rWants
      rw [h3]
      rw [if_neg]
      simp only [Bool.and_eq_true, decide_eq_true_eq, not_and]
      intro _
      rw [if_neg (by decide), if_neg (by decide), if_neg (by decide), if_neg (by decide), if_neg (by decide), if_neg (by decide), if_neg (by decide), if_neg h5]
      rcases rank_is b with h | h | h | h | h | h | h | h <;> rw [h] <;> decide
end TR
end Go.Proofs.Ytgahdppcdeefaaa
