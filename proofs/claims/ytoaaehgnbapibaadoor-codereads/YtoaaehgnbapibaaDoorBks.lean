
/-
  Cells of one element stored one behind the other.
-/
import Derived.Test.YtoaaehgnbapibaaDoorBki
namespace Go.Proofs.YtoaaehgnbapibaaDoor.BG
open Go.RowKit

def setsW (W : World) (g : Nat) : Nat → List Value → World
  | _, [] => W
  | a, y :: ys => setsW (W.setCell ⟨g, a, none⟩ y) g (a + 1) ys
theorem setsW_heap {g : Nat} {t : Nat} : ∀ (ys : List Value) (a : Nat) {W : World} {cur : Array Value}, W.heap[g]? = some (.cells cur t (0, 0)) → a + ys.length ≤ cur.size → (setsW W g a ys).heap[g]? = some (.cells (cur.toList.take a ++ ys ++ cur.toList.drop (a + ys.length)).toArray t (0, 0))
  | [], a, W, cur, h, _ => by
    rw [setsW, h]
    simp
  | y :: ys, a, W, cur, h, hl => by
    have hl' : a + 1 + ys.length ≤ cur.size := by simp at hl; omega
    rw [setsW, setsW_heap ys (a + 1) (set_cells h) (by simpa using hl')]
    congr 3
    rw [Array.toList_setIfInBounds, List.set_eq_take_append_cons_drop, if_pos (by simp; omega)]
    have e1 : (cur.toList.take a ++ y :: cur.toList.drop (a + 1)).take (a + 1) = cur.toList.take a ++ [y] := by
      rw [List.take_append]
      have : (cur.toList.take a).length = a := by simp; omega
      rw [this, List.take_of_length_le (by omega), show a + 1 - a = 1 by omega]
      rfl
    have e2 : (cur.toList.take a ++ y :: cur.toList.drop (a + 1)).drop (a + 1 + ys.length) = cur.toList.drop (a + (ys.length + 1)) := by
      rw [List.drop_append]
      have : (cur.toList.take a).length = a := by simp; omega
      rw [this, List.drop_of_length_le (by omega), show a + 1 + ys.length - a = ys.length + 1 by omega, List.drop_succ_cons, List.drop_drop, List.nil_append]
      congr 1
      omega
    rw [e1, e2]
    simp
theorem setsW_other {g b : Nat} : ∀ (ys : List Value) (a : Nat) {W : World}, b ≠ g → (setsW W g a ys).heap[b]? = W.heap[b]?
  | [], _, _, _ => rfl
  | y :: ys, a, W, h => by rw [setsW, setsW_other ys (a + 1) h]; exact Below.heap_setCell _ _ _ _ h
theorem setsW_exc {S : Nat → Prop} {g : Nat} {w : World} : ∀ (ys : List Value) (a : Nat) {W : World}, Exc S w W → (S g ∨ w.heap.size ≤ g) → Exc S w (setsW W g a ys)
  | [], _, _, h, _ => h
  | y :: ys, a, _, h, hc => setsW_exc ys (a + 1) (h.set g a y hc) hc
theorem newCells (W : World) (ys : List Value) (t : Nat) : ∀ j u, ys[j]? = some u → (W.alloc (.cells ys.toArray t)).cell? ((⟨W.heap.size, 0, none⟩ : Addr).add j) = some u := by
  intro j u hj
  have h : (W.alloc (.cells ys.toArray t)).heap[W.heap.size]? = some (.cells ys.toArray t (0, 0)) := Array.getElem?_push_size
  have ha : (⟨W.heap.size, 0, none⟩ : Addr).add j = ⟨W.heap.size, j, none⟩ := by
    unfold Addr.add
    by_cases e : j = 0
    · subst e; rfl
    · simp [e]
  rw [ha]
  simp only [World.cell?, h]
  simpa using hj
theorem Up.setB {a w : World} {b : Nat} (h : Up a w) (j : Nat) (x : Value) (hb : a.heap.size ≤ b) : Up a (w.setCell ⟨b, j, none⟩ x) := Below.setCell h hb x
end Go.Proofs.YtoaaehgnbapibaaDoor.BG
