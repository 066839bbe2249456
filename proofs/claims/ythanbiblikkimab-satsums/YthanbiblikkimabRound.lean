/-
  The three loops of the law on sums, without the walk: what a round does to the list that the law fills, and to the lists that it gathers.
-/
import Derived.Test.YthanbiblikkimabLies
namespace Go.Proofs.Ythanbiblikkimab
open Go.RowKit

def inL (zl : List Int) (k n : Nat) : List Value := (List.range n).map fun j => Value.int .i8 (if j < k then (if j < zl.length then zl.getD j 0 else 91) else 0)
theorem inL_zero (zl : List Int) (n : Nat) : inL zl 0 n = List.replicate n (Value.int .i8 0) := by
  unfold inL
  apply List.ext_getElem
  · simp
  · intro i h1 h2; simp
theorem inL_less (zl : List Int) (k n : Nat) (h : k < zl.length) (v : Value) : ((inL zl k n).set k v).set k (.int .i8 (zl.getD k 0)) = inL zl (k + 1) n := by
  unfold inL
  apply List.ext_getElem
  · simp
  · intro i h1 h2
    simp only [List.getElem_set, List.getElem_map, List.getElem_range]
    by_cases e : k = i
    · subst e; simp [h]
    · rw [if_neg e, if_neg e]
      by_cases hik : i < k
      · rw [if_pos hik, if_pos (show i < k + 1 by omega)]
      · rw [if_neg hik, if_neg (show ¬ i < k + 1 by omega)]
theorem inL_more (zl : List Int) (k n : Nat) (h : ¬ k < zl.length) : (inL zl k n).set k (.int .i8 91) = inL zl (k + 1) n := by
  unfold inL
  apply List.ext_getElem
  · simp
  · intro i h1 h2
    simp only [List.getElem_set, List.getElem_map, List.getElem_range]
    by_cases e : k = i
    · subst e; simp [h]
    · rw [if_neg e]
      by_cases hik : i < k
      · rw [if_pos hik, if_pos (show i < k + 1 by omega)]
      · rw [if_neg hik, if_neg (show ¬ i < k + 1 by omega)]
theorem inL_get (zl : List Int) (n j : Nat) (h : j < n) : (inL zl n n)[j]? = some (.int .i8 (if j < zl.length then zl.getD j 0 else 91)) := by
  unfold inL
  simp [h]
theorem map_take_snoc (k : IntKind) (zs : List Int) (j : Nat) (h : j < zs.length) : (zs.take j).map (Value.int k) ++ [.int k (zs.getD j 0)] = (zs.take (j + 1)).map (Value.int k) := by
  rw [take_snoc' zs j h, List.map_append]; rfl
theorem lies_slice {k : IntKind} {w : World} {a : Option Addr} {len cap : Nat} {zs : List Int} (h : Lies k w (.slice a len cap) zs) (hn : 0 < zs.length) : ∃ b off, a = some ⟨b, off, none⟩ ∧ ∀ i, i < zs.length → w.cell? ⟨b, off + i, none⟩ = some (.int k (zs.getD i 0)) := by
  obtain ⟨a', cap', hv, h⟩ := h
  simp only [Value.slice.injEq] at hv
  obtain ⟨rfl, _, _⟩ := hv
  exact h (by omega)
theorem app_keep {w W w' : World} {g n m B e1 e2 : Nat} {va : Value} {xs ys : List Value} {o : Obj} (hI : W.ownsRow B e1 1 (.slice (some ⟨g, 0, none⟩) n n) n xs) (hO : W.ownsRow (g + 1) e2 1 va m ys) (hU : Up w W) (hg : w.heap.size ≤ g)
    (hgrow : (W.alloc o).grownBy w' va.ownBlock) : w'.ownsRow B e1 1 (.slice (some ⟨g, 0, none⟩) n n) n xs ∧ Up w w' := by
  refine ⟨(hI.alloc o).kept hgrow ?_, Below.grown (Up.alloc hU o) hgrow (Up.alloc hU o).size ?_⟩
  · right
    intro he
    have := hO.lt g (by rw [← he]; rfl)
    omega
  · intro k hk
    have := hO.lt k hk
    omega
theorem two_stores {w W : World} {g n m B e1 e2 k : Nat} {va : Value} {xs ys : List Value} (x y : Value) (hI : W.ownsRow B e1 1 (.slice (some ⟨g, 0, none⟩) n n) n xs) (hO : W.ownsRow (g + 1) e2 1 va m ys) (hU : Up w W) (hg : w.heap.size ≤ g) :
    ((W.setCell ⟨g, k, none⟩ x).setCell ⟨g, k, none⟩ y).ownsRow B e1 1 (.slice (some ⟨g, 0, none⟩) n n) n ((xs.set k x).set k y) ∧ ((W.setCell ⟨g, k, none⟩ x).setCell ⟨g, k, none⟩ y).ownsRow (g + 1) e2 1 va m ys ∧ Up w ((W.setCell ⟨g, k, none⟩ x).setCell ⟨g, k, none⟩ y) :=
  ⟨((hI.stored k x).1.stored k y).1, ownsRow_setCell_below (ownsRow_setCell_below hO (Nat.lt_succ_self g) x) (Nat.lt_succ_self g) y, Below.setCell (Below.setCell hU hg x) hg y⟩
theorem one_store {w W : World} {g n m B e1 e2 k : Nat} {va : Value} {xs ys : List Value} (x : Value) (hI : W.ownsRow B e1 1 (.slice (some ⟨g, 0, none⟩) n n) n xs) (hO : W.ownsRow (g + 1) e2 1 va m ys) (hU : Up w W) (hg : w.heap.size ≤ g) :
    (W.setCell ⟨g, k, none⟩ x).ownsRow B e1 1 (.slice (some ⟨g, 0, none⟩) n n) n (xs.set k x) ∧ (W.setCell ⟨g, k, none⟩ x).ownsRow (g + 1) e2 1 va m ys ∧ Up w (W.setCell ⟨g, k, none⟩ x) :=
  ⟨(hI.stored k x).1, ownsRow_setCell_below hO (Nat.lt_succ_self g) x, Below.setCell hU hg x⟩
theorem cell_fresh (W : World) (v : Value) (e n : Nat) (h : n = W.heap.size) : (W.alloc (.cells #[v] e)).cell? ⟨n, 0, none⟩ = some v := by subst h; simp
theorem take_past (zs : List Int) (k : Nat) (h : ¬ k < zs.length) : zs.take (k + 1) = zs.take k := by rw [List.take_of_length_le (by omega), List.take_of_length_le (by omega)]
theorem app_up {w W w' : World} {m base e : Nat} {va : Value} {ys : List Value} {o : Obj} (hO : W.ownsRow base e 1 va m ys) (hU : Up w W) (hb : w.heap.size ≤ base)
    (hgrow : (W.alloc o).grownBy w' va.ownBlock) : Up w w' := by
  refine Below.grown (Up.alloc hU o) hgrow (Up.alloc hU o).size ?_
  intro k hk
  have := hO.lt k hk
  omega
theorem lies_in {w : World} {B g n : Nat} {zl : List Int} (h : w.ownsRow B 26 1 (.slice (some ⟨g, 0, none⟩) n n) n (inL zl n n)) : ∀ j, j < n → w.cell? ⟨g, j, none⟩ = some (.int .i8 (if j < zl.length then zl.getD j 0 else 91)) := by
  intro j hj
  rw [h.cellAt j (by omega), inL_get zl n j hj]
theorem lies_cut {w : World} {g n len cap : Nat} {zl : List Int} (hn : zl.length = len) (hle : len ≤ n) (h : ∀ j, j < n → w.cell? ⟨g, j, none⟩ = some (.int .i8 (if j < zl.length then zl.getD j 0 else 91))) : Lies .i8 w (.slice (some ⟨g, 0, none⟩) len cap) zl :=
  ⟨_, cap, by rw [hn], fun _ => ⟨g, 0, rfl, fun i hi => by rw [Nat.zero_add, h i (by omega), if_pos hi]⟩⟩
theorem keep2 {u v v' : World} {p q : Addr} {x y : Value} (k : Up v v') (h : v.cell? p = some x ∧ v.cell? q = some y ∧ Up u v) : v'.cell? p = some x ∧ v'.cell? q = some y ∧ Up u v' :=
  ⟨k.cell h.1, k.cell h.2.1, h.2.2.trans k⟩
theorem keep2D {u v : World} {p q : Addr} {x y : Value} (h : v.cell? p = some x ∧ v.cell? q = some y ∧ Up u v) : v.drew.cell? p = some x ∧ v.drew.cell? q = some y ∧ Up u v.drew :=
  ⟨h.1, h.2.1, h.2.2.drew⟩
theorem keep1D {u v : World} {p : Addr} {x : Value} (h : v.cell? p = some x ∧ Up u v) : v.drew.cell? p = some x ∧ Up u v.drew :=
  ⟨h.1, h.2.drew⟩
theorem take_len_succ (zs : List Int) (k : Nat) (h : k < zs.length) : (zs.take (k + 1)).length = (zs.take k).length + 1 := by simp; omega
theorem Try.info26 : (Try.prog.info? 26).map (fun i => (i.zero, i.size, i.bytes)) = some (some (.int .i8 0), 1, 1) := by kernel_rfl
theorem Try.info2 : (Try.prog.info? 2).map (fun i => (i.zero, i.size, i.bytes)) = some (some (.int .i64 0), 1, 8) := by kernel_rfl
end Go.Proofs.Ythanbiblikkimab
