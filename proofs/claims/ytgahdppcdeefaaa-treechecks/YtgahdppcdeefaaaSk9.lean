/-
  The document's stack of frames in memory: popped, stored back, kept.
-/
import Derived.Test.YtgahdppcdeefaaaTh9
import Derived.Test.YtgahdppcdeefaaaRi9
import Derived.Test.YtgahdppcdeefaaaKw9
import Derived.Test.YtgahdppcdeefaaaNa9
namespace Go.Proofs.Ytgahdppcdeefaaa
open Go.RowKit
attribute [local go_sem ↓] Go.wp_at_zero Go.wp_at_succ
namespace TR
set_option maxRecDepth 100000 in
set_option maxHeartbeats 16000000 in
theorem fwant_ (v : Value) (own : List Int) (other left : Int) (next : Nat) (w : World) (hv : IvL w v own) : Calls Try.prog 37 #[.agg #[v, .int .i64 other, .int .i64 left, .int .i64 next]] w fun e w' => e = .returned (.int .i64 (own.getD next other)) ∧ Up w w' := by
  obtain ⟨a1, k1, rfl, h1⟩ := ivl_at hv
  obtain ⟨n, hn0⟩ : ∃ n, n = own.length := ⟨_, rfl⟩
  rw [← hn0] at h1 ⊢
  by_cases hlt : next < n
  · obtain ⟨b1, o1, rfl, c1⟩ := h1 (by omega)
    have hlt2 : (next : Int) < (n : Int) := by omega
    have hg : own.getD next other = own.getD next 0 := by
      rw [List.getD_eq_getElem?_getD, List.getD_eq_getElem?_getD, List.getElem?_eq_getElem (by omega)]
      rfl
    rw [hg]
    have X : ∀ t, (w.alloc (.cells #[.slice (some ⟨b1, o1, none⟩) n k1, .int .i64 other, .int .i64 left, .int .i64 next] t)).cell? ⟨b1, o1 + next, none⟩ = some (.int .i64 (own.getD next 0)) := fun t => c1 _ ((Up.refl _).alloc _) next hlt
    clear h1 c1 hv hg hn0
    generalize own.getD next 0 = z at *
    go_enter Try.func37, Try.ntmps37
    go_wp2
    go_ret
    exact ⟨rfl, (Up.refl _).alloc _⟩
  · have hlt2 : ¬ (next : Int) < (n : Int) := by omega
    have hg : own.getD next other = other := by
      rw [List.getD_eq_getElem?_getD, List.getElem?_eq_none (by omega)]
      rfl
    rw [hg]
    clear h1 hv hg hn0
    go_enter Try.func37, Try.ntmps37
    go_wp2
    go_ret
    exact ⟨rfl, (Up.refl _).alloc _⟩
end TR
end Go.Proofs.Ytgahdppcdeefaaa
namespace Go.Proofs.Ytgahdppcdeefaaa
open Go.RowKit
attribute [local go_sem ↓] Go.wp_at_zero Go.wp_at_succ
namespace TR
def fmc (x : Fm × Value) : List Value := [x.2, .int .i64 x.1.other, .int .i64 x.1.left, .int .i64 x.1.next]
def fms (X : List (Fm × Value)) : List Value := X.flatMap fmc
theorem fms_app (a b : List (Fm × Value)) : fms (a ++ b) = fms a ++ fms b := List.flatMap_append
theorem fms_len (X : List (Fm × Value)) : (fms X).length = X.length * 4 := by
  induction X with
  | nil => rfl
  | cons x X ih =>
    show (fmc x ++ fms X).length = _
    rw [List.length_append, ih, List.length_cons]
    show 4 + _ = _
    omega
theorem infoFm : (Try.prog.info? 60).map (fun i => (i.zero, i.size, i.bytes)) = some (some (.agg #[.slice none 0 0, .int .i64 0, .int .i64 0, .int .i64 0]), 4, 48) := by kernel_rfl
def SK (w0 W : World) (wv : Value) (X : List (Fm × Value)) : Prop := W.ownsRow w0.heap.size 60 4 wv X.length (fms X.reverse) ∧ (∀ x ∈ X, W.ownsRow w0.heap.size 3 1 x.2 x.1.own.length (ivn x.1.own)) ∧ Up w0 W
theorem SK.up {w0 W W' : World} {wv : Value} {X : List (Fm × Value)} (h : SK w0 W wv X) (u : Up W W') : SK w0 W' wv X := ⟨row_up h.1 u, fun x hx => row_up (h.2.1 x hx) u, h.2.2.trans u⟩
theorem int_ne {W : World} {base g n m c : Nat} {v : Value} {xs ys : List Value} (h : W.ownsRow base 60 4 (.slice (some ⟨g, 0, none⟩) m c) m ys) (k : W.ownsRow base 3 1 v n xs) : v.ownBlock ≠ some g := fun e => by
  rcases h.2 with ⟨h1, -⟩ | ⟨g1, c1, cur, h1, -, h3, -⟩
  · cases h1
  · cases h1
    rcases k.2 with ⟨rfl, -⟩ | ⟨g2, c2, cur2, rfl, -, k3, -⟩
    · simp [Value.ownBlock] at e
    · have e : g2 = g := by simpa [Value.ownBlock] using e
      subst e
      rw [h3] at k3
      injection k3 with h5
      injection h5 with _ h6
      exact absurd h6 (by decide)
/- the stack's top -/
theorem SK.top {w0 W : World} {wv : Value} {x : Fm × Value} {X : List (Fm × Value)} (h : SK w0 W wv (x :: X)) : ∃ g c, wv = .slice (some ⟨g, 0, none⟩) (X.length + 1) c ∧ w0.heap.size ≤ g ∧ X.length + 1 ≤ c ∧ W.ownsRow w0.heap.size 60 4 (.slice (some ⟨g, 0, none⟩) (X.length + 1) c) (X.length + 1) (fms X.reverse ++ fmc x) ∧ ∀ j, j < 4 → W.cell? ⟨g, X.length * 4 + j, none⟩ = (fmc x)[j]? := by
  have h1 := h.1
  rw [List.reverse_cons, fms_app, List.length_cons] at h1
  obtain ⟨g, c, h2, h3, rfl⟩ := row_some h1 (by omega)
  have h1 : W.ownsRow w0.heap.size 60 4 (.slice (some ⟨g, 0, none⟩) (X.length + 1) c) (X.length + 1) (fms X.reverse ++ fmc x) := by
    have e : fms [x] = fmc x := by show fmc x ++ [] = _; rw [List.append_nil]
    rw [e] at h1
    exact h1
  refine ⟨g, c, rfl, h2, h3, h1, fun j hj => ?_⟩
  have hl : (fms X.reverse).length = X.length * 4 := by rw [fms_len, List.length_reverse]
  rw [h1.cellAt (X.length * 4 + j) (by omega), List.getElem?_append_right (by omega), hl, Nat.add_sub_cancel_left]
theorem SK.pop {w0 W : World} {g n c : Nat} {x : Fm × Value} {X : List (Fm × Value)} (h : SK w0 W (.slice (some ⟨g, 0, none⟩) n c) (x :: X)) : SK w0 W (.slice (some ⟨g, 0, none⟩) X.length c) X := by
  obtain ⟨g2, c2, e, h2, h3, h1, -⟩ := h.top
  cases e
  have h5 := row_short h1 (m := X.length) (by omega)
  have hl : (fms X.reverse).length = X.length * 4 := by rw [fms_len, List.length_reverse]
  rw [List.take_append_of_le_length (by omega), List.take_of_length_le (by omega)] at h5
  exact ⟨h5, fun y hy => h.2.1 y (.tail _ hy), h.2.2⟩
theorem set_four (A : List Value) (a b c d a' b' c' d' : Value) : ((((A ++ [a, b, c, d]).set A.length a').set (A.length + 1) b').set (A.length + 1 + 1) c').set (A.length + 1 + 1 + 1) d' = A ++ [a', b', c', d'] := by
  rw [List.set_append_right _ _ (by omega), List.set_append_right _ _ (by omega), List.set_append_right _ _ (by omega), List.set_append_right _ _ (by omega)]
  rw [show A.length - A.length = 0 by omega, show A.length + 1 - A.length = 1 by omega, show A.length + 1 + 1 - A.length = 2 by omega, show A.length + 1 + 1 + 1 - A.length = 3 by omega]
  rfl
/- the stack's top stored back -/
set_option maxHeartbeats 4000000 in
theorem SK.put {w0 W : World} {g n c : Nat} {x y : Fm × Value} {X : List (Fm × Value)} (h : SK w0 W (.slice (some ⟨g, 0, none⟩) n c) (x :: X)) (hv : y.2 = x.2) (ho : y.1.own = x.1.own) : SK w0 (W.setCells g (X.length * 4) (fmc y)) (.slice (some ⟨g, 0, none⟩) n c) (y :: X) := by
  obtain ⟨g2, c2, e, h2, h3, h1, -⟩ := h.top
  cases e
  have hl : (fms X.reverse).length = X.length * 4 := by rw [fms_len, List.length_reverse]
  unfold fmc at h1 ⊢
  unfold World.setCells World.setCells World.setCells World.setCells World.setCells
  have k1 := (h1.stored (X.length * 4) y.2).1
  have k2 := (k1.stored (X.length * 4 + 1) (.int .i64 y.1.other)).1
  have k3 := (k2.stored (X.length * 4 + 1 + 1) (.int .i64 y.1.left)).1
  have k4 := (k3.stored (X.length * 4 + 1 + 1 + 1) (.int .i64 y.1.next)).1
  rw [← hl, set_four, hl] at k4
  have hk : ∀ z ∈ x :: X, ((((W.setCell ⟨g, X.length * 4, none⟩ y.2).setCell ⟨g, X.length * 4 + 1, none⟩ (.int .i64 y.1.other)).setCell ⟨g, X.length * 4 + 1 + 1, none⟩ (.int .i64 y.1.left)).setCell ⟨g, X.length * 4 + 1 + 1 + 1, none⟩ (.int .i64 y.1.next)).ownsRow w0.heap.size 3 1 z.2 z.1.own.length (ivn z.1.own) := fun z hz => by
    have k := h.2.1 z hz
    have hne := int_ne h1 k
    exact own_keep (own_keep (own_keep (own_keep k hne) hne) hne) hne
  refine ⟨?_, ?_, ?_⟩
  · rw [List.reverse_cons, fms_app, List.length_cons]
    have e : fms [y] = [y.2, .int .i64 y.1.other, .int .i64 y.1.left, .int .i64 y.1.next] := by show fmc y ++ [] = _; rw [List.append_nil]; rfl
    rw [e]
    exact k4
  · intro z hz
    rcases List.mem_cons.1 hz with rfl | hz
    · have := hk x (.head _)
      rw [hv, ho]
      rw [hv] at this
      exact this
    · exact hk z (.tail _ hz)
  · exact up_setN (up_setN (up_setN (up_setN h.2.2 _ _ h2) _ _ h2) _ _ h2) _ _ h2
end TR
end Go.Proofs.Ytgahdppcdeefaaa
