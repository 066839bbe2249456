
/-
  The document's depth over a forest; the kinds' table against its words.
-/
import Derived.Test.YtgahdppcdeefaaaFo9
import Derived.Test.YtgahdppcdeefaaaRk9
namespace Go.Proofs.Ytgahdppcdeefaaa
namespace TR
def dopn (op : Int) : Nat := if op = 10 ∨ op = 19 ∨ op = 50 ∨ op = 34 ∨ op = 35 then 1 else 0
def rrow (op : Int) : Bool := rExpr op && (rRank op == 1 || (rRank op == 2 || (rRank op == 5 || rRank op == 6)))
def par (op w : Int) : Nat := if (rExpr op && decide (rRank op < w)) = true then 1 else 0
mutual
/- within a node, so many being open at it -/
def opK (a : Nd) (k : Fo) (d : Nat) : Nat :=
  if a.op = 49 then chK k 1 (d + dopn a.op)
  else if rrow a.op = true then (rowK a.op k (d + dopn a.op)).1
  else klK a.op 0 k (d + dopn a.op)
termination_by (SizeOf.sizeOf k, 1)
def chK (k : Fo) (n d : Nat) : Nat :=
  match k with
  | .nil => d
  | .cons b kb _ => if b.op = 49 then chK kb (n + 1) d else max (d + n - 1) (opK b kb (d + par b.op 8))
termination_by (SizeOf.sizeOf k, 0)
def rowK (op : Int) (k : Fo) (d : Nat) : Nat × Nat :=
  match k with
  | .cons b kb (.cons c kc _) =>
    if rRank b.op = rRank op then (max (max d (rowK b.op kb d).1) (opK c kc (d + (rowK b.op kb d).2 + par c.op (rWants op 1))), (rowK b.op kb d).2 + 1)
    else (max (max d (opK b kb (d + par b.op (rWants op 0)))) (opK c kc (d + par c.op (rWants op 1))), 1)
  | _ => (d, 1)
termination_by (SizeOf.sizeOf k, 0)
def klK (op i : Int) (k : Fo) (d : Nat) : Nat :=
  match k with
  | .nil => d
  | .cons b kb r => max (if op = 13 ∧ i = 2 ∧ b.op = 13 then opK b kb (d + 1) else opK b kb (d + par b.op (rWants op i))) (klK op (i + 1) r d)
termination_by (SizeOf.sizeOf k, 0)
end
/- the table -/
theorem opens_tab {op : Int} (h : op ∈ keys) : (kd op).opens = dopn op := by
  have h1 : keys.all (fun op => (kd op).opens == dopn op) = true := by decide +kernel
  simpa using List.all_eq_true.1 h1 op h
theorem row_tab {op : Int} (h : op ∈ keys) : (kd op).row = (decide (op = 49) || rrow op) := by
  have h1 : keys.all (fun op => (kd op).row == (decide (op = 49) || rrow op)) = true := by decide +kernel
  simpa using List.all_eq_true.1 h1 op h
theorem goes_tab {a b : Int} (ha : a ∈ keys) (hb : b ∈ keys) : ((kd a).row && ((kd b).row && (kd a).rank == (kd b).rank)) = (decide (a = 49 ∧ b = 49) || (rrow a && decide (rRank b = rRank a))) := by
  have h1 : keys.all (fun a => keys.all fun b => ((kd a).row && ((kd b).row && (kd a).rank == (kd b).rank)) == (decide (a = 49 ∧ b = 49) || (rrow a && decide (rRank b = rRank a)))) = true := by decide +kernel
  simpa using List.all_eq_true.1 (List.all_eq_true.1 h1 a ha) b hb
/- what stands in parentheses, and an if behind an else -/
def mr (k : Kd) (q : Plc) : Nat := (if k.rank < q.rank then 1 else 0) + (if k.is &&& q.takes &&& 32 ≠ 0 then 1 else 0)
theorem more_mr (k : Kd) (x : Wt) (m : Nat) : more k x m = mr k x.plc + (if x.rest then 0 else m) := rfl
theorem way_tab {a b : Int} (ha : a ∈ keys) (hb : b ∈ keys) {w : List Plc} (hw : w ∈ (kd a).ways) {j : Nat} {q : Plc} (hq : w[j]? = some q) (ht : (kd b).is &&& q.takes ≠ 0) : mr (kd b) q = if a = 13 ∧ j = 2 ∧ b = 13 then 1 else par b (rWants a j) := by
  have h1 : keys.all (fun a => keys.all fun b => (kd a).ways.all fun w => (List.range 3).all fun j => match w[j]? with
    | none => true
    | some q => decide ((kd b).is &&& q.takes = 0) || mr (kd b) q == if a = 13 ∧ j = 2 ∧ b = 13 then 1 else par b (rWants a j)) = true := by decide +kernel
  have h3 : keys.all (fun a => (kd a).ways.all fun w => decide (w.length ≤ 3)) = true := by decide +kernel
  have h4 := List.all_eq_true.1 (List.all_eq_true.1 h3 a ha) w hw
  simp only [decide_eq_true_eq] at h4
  have hj : j < w.length := (List.getElem?_eq_some_iff.1 hq).1
  have h2 := List.all_eq_true.1 (List.all_eq_true.1 (List.all_eq_true.1 (List.all_eq_true.1 h1 a ha) b hb) w hw) j (List.mem_range.2 (by omega))
  rw [hq] at h2
  simp only [Bool.or_eq_true, decide_eq_true_eq, beq_iff_eq] at h2
  rcases h2 with h2 | h2
  · exact absurd h2 ht
  · exact h2
theorem each_tab {a b : Int} (ha : a ∈ keys) (he : (kd a).each ≠ 0) (j : Int) : mr (kd b) ⟨(kd a).each, 0⟩ = 0 ∧ par b (rWants a j) = 0 ∧ a ≠ 13 ∧ a ≠ 49 ∧ rrow a = false := by
  have h1 : keys.all (fun a => decide ((kd a).each = 0) || (((kd a).each &&& 32 == 0) && (rRank a == 8 && (decide (a ≠ 13) && (decide (a ≠ 49) && rrow a == false))))) = true := by decide +kernel
  have h2 := List.all_eq_true.1 h1 a ha
  simp only [Bool.or_eq_true, Bool.and_eq_true, decide_eq_true_eq, beq_iff_eq] at h2
  rcases h2 with h2 | ⟨h2, h3, h4, h5, h6⟩
  · exact absurd h2 he
  · refine ⟨?_, ?_, h4, h5, h6⟩
    · unfold mr
      rw [if_neg (by simp), if_neg (by simp only; rw [Nat.and_assoc, h2]; simp)]
    · unfold par rWants
      rw [h3]
      rw [if_neg]
      simp only [Bool.and_eq_true, decide_eq_true_eq, not_and]
      intro _
      rw [if_neg (by decide), if_neg (by decide), if_neg (by decide), if_neg (by decide), if_neg (by decide), if_neg (by decide), if_neg (by decide), if_neg h5]
      rcases rank_is b with h | h | h | h | h | h | h | h <;> rw [h] <;> decide
end TR
end Go.Proofs.Ytgahdppcdeefaaa
