
/-
  A pair of stacks, the program's and the document's: Undo and Redo at both.
-/
import Derived.Test.YtgonflnmkfgfhaaDoe
namespace Go.Proofs.Ytgonflnmkfgfhaa
open Go.RowKit
attribute [local go_sem ↓] Go.wp_at_zero Go.wp_at_succ

namespace DS
open IN
def Pair (W : World) (sb b1 rb b2 : Nat) (v vd vu : Value) (all : List Int) (d : Nat) (most : Int) : Prop :=
  LIS.StackAt W sb b1 v all d most ∧ RS.RSt W rb b2 vd vu most (all.take d) (all.drop d).reverse
theorem rst_only {w W : World} {rb b2 sb : Nat} {vd vu v : Value} {most : Int} {dn un : List Int} {x y z : Value} (h : RS.RSt w rb b2 vd vu most dn un) (hs : w.heap[sb]? = some (.cells #[x, y, z] 42 (0, 0))) (t : LIS.Two sb v w W) (h1 : ∀ g, v.ownBlock = some g → g ≠ rb ∧ vd.ownBlock ≠ some g ∧ vu.ownBlock ≠ some g) : RS.RSt W rb b2 vd vu most dn un := by
  have key : ∀ {b n : Nat} {u : Value} {ys : List Value}, w.ownsRow b 3 1 u n ys → (∀ g, v.ownBlock = some g → u.ownBlock ≠ some g) → W.ownsRow b 3 1 u n ys := by
    intro b n u ys k hu
    refine ⟨k.1, ?_⟩
    rcases k.2 with h0 | ⟨g, cap, cur, e1, e2, e3, e4⟩
    · exact .inl h0
    · refine .inr ⟨g, cap, cur, e1, e2, ?_, e4⟩
      rw [t.2.2 g (Array.getElem?_eq_some_iff.1 e3).1 (fun e => by subst e; rw [hs] at e3; cases e3) (fun e => hu g e (by rw [e1]; simp [Value.ownBlock]))]
      exact e3
  refine ⟨?_, key h.2.1 (fun g e => (h1 g e).2.1), key h.2.2.1 (fun g e => (h1 g e).2.2), h.2.2.2⟩
  rw [t.2.2 rb (Array.getElem?_eq_some_iff.1 h.1).1 (fun e => by subst e; have := h.1; rw [hs] at this; cases this) (fun e => (h1 rb e).1 rfl)]
  exact h.1
theorem stack_only {w W : World} {sb b1 rb : Nat} {v x y z : Value} {all : List Int} {d : Nat} {most : Int} (h : LIS.StackAt w sb b1 v all d most) (hr : w.heap[rb]? = some (.cells #[x, y, z] 40 (0, 0))) (o : Only rb w W) : LIS.StackAt W sb b1 v all d most := by
  refine ⟨o.heap h.1 (fun e => by subst e; have := h.1; rw [LIS.Hd, hr] at this; cases this), ?_, h.2.2⟩
  refine ⟨h.2.1.1, ?_⟩
  rcases h.2.1.2 with h0 | ⟨g, cap, cur, e1, e2, e3, e4⟩
  · exact .inl h0
  · exact .inr ⟨g, cap, cur, e1, e2, o.heap e3 (fun e => by subst e; rw [hr] at e3; cases e3), e4⟩
end DS
end Go.Proofs.Ytgonflnmkfgfhaa
