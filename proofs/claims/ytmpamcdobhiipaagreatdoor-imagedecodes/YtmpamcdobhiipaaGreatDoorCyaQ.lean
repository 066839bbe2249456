/-
  state.Copy: each of the copy's lists in a block of its own.
-/
import Derived.Test.YtmpamcdobhiipaaGreatDoorDd7ToCy
import Derived.Test.YtmpamcdobhiipaaGreatDoorWsToRa
namespace Go.Proofs.YtmpamcdobhiipaaGreatDoor
open Go.RowKit
attribute [local go_sem ↓] Go.wp_at_zero Go.wp_at_succ
namespace ST
def CYa (w W : World) (B : Nat) (box cbox : Array Value) (gz nz i : Nat) (vs : List Value) (x1 x2 : Value) (s : Stt) : Prop :=
  W.heap[B]? = some (.cells box 30 (0, 0)) ∧ W.heap[B + 1]? = some (.cells zbox 30 (0, 0)) ∧ W.heap[B + 1 + 1]? = some (.cells cbox 30 (0, 0)) ∧
  (W.heap[gz]? = some (.cells vs.toArray 84 (0, 0)) ∧ vs.length = nz ∧ B + 3 ≤ gz) ∧ (∀ j, j < i → IRow (B + 3) W (vs.getD j nl) (s.zs.getD j [])) ∧ PO (B + 3) W x1 s.ps ∧ CO (B + 3) W x2 s.cs ∧ Up w W ∧ (B = w.heap.size ∧ RA i vs)
theorem CYa.up {w W W' : World} {B : Nat} {box cbox : Array Value} {gz nz i : Nat} {vs : List Value} {x1 x2 : Value} {s : Stt} (h : CYa w W B box cbox gz nz i vs x1 x2 s) (u : Up W W') : CYa w W' B box cbox gz nz i vs x1 x2 s := by
  obtain ⟨h1, h2, h3, ⟨h4, h5, h6⟩, h7, h8, h9, h10, h11⟩ := h
  exact ⟨u.heap h1, u.heap h2, u.heap h3, ⟨u.heap h4, h5, h6⟩, fun j hj => row_up (h7 j hj) u, row_up h8 u, row_up h9 u, h10.trans u, h11⟩
theorem CYa.put {w W : World} {B : Nat} {box cbox : Array Value} {gz nz i : Nat} {vs : List Value} {x1 x2 x : Value} {s : Stt} (h : CYa w W B box cbox gz nz i vs x1 x2 s) (hi : i < nz) (hx : IRow (B + 3) W x (s.zs.getD i [])) (hxa : ∀ p g, p < i → (vs.getD p nl).ownBlock = some g → x.ownBlock ≠ some g) : CYa w (W.setCell ⟨gz, i, none⟩ x) B box cbox gz nz (i + 1) (vs.set i x) x1 x2 s := by
  obtain ⟨h1, h2, h3, ⟨h4, h5, h6⟩, h7, h8, h9, h10, h11⟩ := h
  refine ⟨set_other h1 (heap_ne h1 h4 (by decide)), set_other h2 (heap_ne h2 h4 (by decide)), set_other h3 (heap_ne h3 h4 (by decide)), ⟨?_, by simpa using h5, h6⟩, fun j hj => ?_, row_set_ty h8 h4 (by decide), row_set_ty h9 h4 (by decide), Up.set h10 _ _ (by show w.heap.size ≤ gz; omega), ⟨h11.1, h11.2.put (by omega) hxa⟩⟩
  · have := set_cells (j := i) (x := x) h4
    simpa using this
  · by_cases e : j = i
    · subst e
      rw [List.getD_eq_getElem?_getD, List.getElem?_set_self (by omega)]
      exact row_set_ty hx h4 (by decide)
    · rw [List.getD_eq_getElem?_getD, List.getElem?_set_ne (fun h => e h.symm), ← List.getD_eq_getElem?_getD]
      exact row_set_ty (h7 j (by omega)) h4 (by decide)
end ST
end Go.Proofs.YtmpamcdobhiipaaGreatDoor
