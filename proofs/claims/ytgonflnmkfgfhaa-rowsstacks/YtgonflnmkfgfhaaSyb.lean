
/-
  A call at one of two pairs: both pairs behind it.
-/
import Derived.Test.YtgonflnmkfgfhaaSya
namespace Go.Proofs.Ytgonflnmkfgfhaa
open Go.RowKit

namespace DS
open IN
/- the same stacks, later -/
def Later (w : World) (g g' : G) : Prop := (g'.sb = g.sb ∧ g'.rb = g.rb ∧ g'.most = g.most ∧ g'.b1 = g.b1) ∧ New w g.v g'.v ∧ New w g.vd g'.vd ∧ New w g.vu g'.vu
theorem g_step (g : G) (N : Nat) (hp : Option Addr) (k on n : Int) (w : World) (h : GOk w N g) (hN : N ≤ 50000) (hk : k ≠ 3) :
    Calls Try.prog 8 #[.pointer (some ⟨g.sb, 0, none⟩), .pointer (some ⟨g.rb, 0, none⟩), op k on n, .pointer hp] w fun e w' => e = .returned (.bool true) ∧ ∃ g', Later w g g' ∧ GOk w' (N + 1) g' ∧ Chg g.sb g.rb g.v w w' := by
  obtain ⟨h1, h2, h3, h4⟩ := h
  refine (pair_step g.sb g.b1 g.rb g.b2 g.v g.vd g.vu g.all g.d g.most hp k on n w h1 h2 (by omega) h3 hk).mono ?_
  rintro e w' ⟨he, b2, v', vd', vu', all', d', p1, p2, p3, p4, p5, p6, p7⟩
  exact ⟨he, ⟨g.sb, g.b1, g.rb, b2, v', vd', vu', all', d', g.most⟩, ⟨⟨rfl, rfl, rfl, rfl⟩, p3, p4, p5⟩, ⟨p1, p2, Nat.le_trans h3 p6.2.1, by show all'.length ≤ N + 1; omega⟩, p6⟩
theorem GOk.lt {w : World} {N : Nat} {g : G} (h : GOk w N g) : (∀ k, g.v.ownBlock = some k → k < w.heap.size) ∧ (∀ k, g.vd.ownBlock = some k → k < w.heap.size) ∧ (∀ k, g.vu.ownBlock = some k → k < w.heap.size) := ⟨row_lt h.1.1.2.1, row_lt h.1.2.2.1, row_lt h.1.2.2.2.1⟩
theorem new_ne {w : World} {u u' x : Value} (n : New w u u') (hx : ∀ k, x.ownBlock = some k → k < w.heap.size) {k : Nat} (e : x.ownBlock = some k) (h : u.ownBlock ≠ some k) : u'.ownBlock ≠ some k := fun e2 => by
  rcases n with n | n
  · exact h (by rw [← n]; exact e2)
  · have := n k e2
    have := hx k e
    omega
theorem beside_l {w : World} {M : Nat} {g g' f : G} (k : GOk w M f) (b : Beside g f) (l : Later w g g') : Beside g' f := by
  obtain ⟨f1, f2, f3⟩ := k.lt
  refine ⟨by rw [l.1.1]; exact b.1, by rw [l.1.2.1]; exact b.2.1, fun q e => ?_⟩
  have key : ∀ x : Value, (∀ k, x.ownBlock = some k → k < w.heap.size) → (g.v.ownBlock = some q → x.ownBlock ≠ some q) → x.ownBlock ≠ some q := fun x hx hne e2 => by
    exact new_ne l.2.1 hx e2 (fun e3 => hne e3 e2) e
  exact ⟨key _ f1 (fun e3 => (b.2.2 q e3).1), key _ f2 (fun e3 => (b.2.2 q e3).2.1), key _ f3 (fun e3 => (b.2.2 q e3).2.2)⟩
theorem beside_r {w : World} {M : Nat} {g g' f : G} (k : GOk w M f) (b : Beside f g) (l : Later w g g') : Beside f g' := by
  obtain ⟨f1, -, -⟩ := k.lt
  refine ⟨by rw [l.1.1]; exact b.1, by rw [l.1.2.1]; exact b.2.1, fun q e => ?_⟩
  obtain ⟨c1, c2, c3⟩ := b.2.2 q e
  exact ⟨new_ne l.2.1 f1 e c1, new_ne l.2.2.1 f1 e c2, new_ne l.2.2.2 f1 e c3⟩
end DS
end Go.Proofs.Ytgonflnmkfgfhaa
