
/-
  Two pairs beside each other: a call at one leaves the other.
-/
import Derived.Test.YtgonflnmkfgfhaaPan
namespace Go.Proofs.Ytgonflnmkfgfhaa
open Go.RowKit

namespace DS
open IN
structure G where
  sb : Nat
  b1 : Nat
  rb : Nat
  b2 : Nat
  v : Value
  vd : Value
  vu : Value
  all : List Int
  d : Nat
  most : Int
def GOk (W : World) (N : Nat) (g : G) : Prop := Pair W g.sb g.b1 g.rb g.b2 g.v g.vd g.vu g.all g.d g.most ∧ Ap g.v g.vd g.vu ∧ g.b1 ≤ W.heap.size ∧ g.all.length ≤ N
theorem own_int {w : World} {b n : Nat} {u : Value} {ys : List Value} (h : w.ownsRow b 3 1 u n ys) {k : Nat} (e : u.ownBlock = some k) : ∃ cur, w.heap[k]? = some (.cells cur 3 (0, 0)) := by
  rcases h.2 with ⟨e0, _⟩ | ⟨g, cap, cur, e0, _, e3, _⟩
  · rw [e0] at e; cases e
  · rw [e0] at e
    have e' : g = k := by simpa [Value.ownBlock] using e
    subst e'
    exact ⟨cur, e3⟩
/- a block of ints that is not the stack's own -/
theorem chg_int {w w' : World} {N b : Nat} {g : G} {cur : Array Value} (h : GOk w N g) (c : Chg g.sb g.rb g.v w w') (hx : w.heap[b]? = some (.cells cur 3 (0, 0))) (hv : g.v.ownBlock ≠ some b) : w'.heap[b]? = some (.cells cur 3 (0, 0)) := by
  rw [c.2.2 b (Array.getElem?_eq_some_iff.1 hx).1 (fun e => ?_) (fun e => ?_) hv]
  · exact hx
  · subst e
    have := h.1.1.1
    rw [LIS.Hd, hx] at this
    cases this
  · subst e
    have := h.1.2.1
    rw [hx] at this
    cases this
theorem chg_obj {w w' : World} {N b : Nat} {g : G} {cur : Array Value} {t : TypeId} (h : GOk w N g) (c : Chg g.sb g.rb g.v w w') (hx : w.heap[b]? = some (.cells cur t (0, 0))) (ht : t ≠ 3) (h1 : b ≠ g.sb) (h2 : b ≠ g.rb) : w'.heap[b]? = some (.cells cur t (0, 0)) := by
  rw [c.2.2 b (Array.getElem?_eq_some_iff.1 hx).1 h1 h2 (fun e => ?_)]
  · exact hx
  · obtain ⟨cur', k⟩ := own_int h.1.1.2.1 e
    rw [hx] at k
    simp only [Option.some.injEq, Obj.cells.injEq] at k
    exact ht k.2.1
theorem chg_row {w w' : World} {N b n : Nat} {g : G} {u : Value} {ys : List Value} (h : GOk w N g) (c : Chg g.sb g.rb g.v w w') (hr : w.ownsRow b 3 1 u n ys) (hv : ∀ k, u.ownBlock = some k → g.v.ownBlock ≠ some k) : w'.ownsRow b 3 1 u n ys := by
  refine ⟨hr.1, ?_⟩
  rcases hr.2 with h0 | ⟨k, cap, cur, e1, e2, e3, e4⟩
  · exact .inl h0
  · exact .inr ⟨k, cap, cur, e1, e2, chg_int h c e3 (hv k (by rw [e1]; simp [Value.ownBlock])), e4⟩
/- two pairs that lie apart -/
def Beside (g f : G) : Prop := g.sb ≠ f.sb ∧ g.rb ≠ f.rb ∧ ∀ k, g.v.ownBlock = some k → f.v.ownBlock ≠ some k ∧ f.vd.ownBlock ≠ some k ∧ f.vu.ownBlock ≠ some k
theorem sb_ne_rb {w : World} {N M : Nat} {g f : G} (h : GOk w N g) (k : GOk w M f) : g.sb ≠ f.rb := fun e => by
  have h1 := h.1.1.1
  rw [LIS.Hd, e, k.1.2.1] at h1
  simp at h1
theorem other_keep {w w' : World} {N M : Nat} {g f : G} (h : GOk w N g) (k : GOk w M f) (b : Beside g f) (c : Chg g.sb g.rb g.v w w') : GOk w' M f := by
  obtain ⟨⟨⟨k1, k2, k3⟩, k4, k5, k6, k7⟩, ka, kb, kl⟩ := k
  have kk : GOk w M f := ⟨⟨⟨k1, k2, k3⟩, k4, k5, k6, k7⟩, ka, kb, kl⟩
  refine ⟨⟨⟨chg_obj h c k1 (by decide) (fun e => b.1 e.symm) (sb_ne_rb kk h), chg_row h c k2 (fun q e1 e2 => (b.2.2 q e2).1 e1), k3⟩, chg_obj h c k4 (by decide) (fun e => sb_ne_rb h kk e.symm) (fun e => b.2.1 e.symm), chg_row h c k5 (fun q e1 e2 => (b.2.2 q e2).2.1 e1), chg_row h c k6 (fun q e1 e2 => (b.2.2 q e2).2.2 e1), k7⟩, ka, Nat.le_trans kb c.2.1, kl⟩
end DS
end Go.Proofs.Ytgonflnmkfgfhaa
