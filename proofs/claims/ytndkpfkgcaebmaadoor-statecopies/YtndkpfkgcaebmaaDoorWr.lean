/-
  Lists of lists with marks behind them; a state with marks behind its lists.
-/
import Derived.Test.YtndkpfkgcaebmaaDoorWp
namespace Go.Proofs.YtndkpfkgcaebmaaDoor
open Go.RowKit
attribute [local go_sem ↓] Go.wp_at_zero Go.wp_at_succ

namespace ST
/- the row that lies in cell i: a list with marks behind it; behind the list a mark of its own -/
def WRow (base : Nat) (W : World) (x : Value) (zs : List (List Int)) (i : Nat) : Prop := if i < zs.length then WI base W x (zs.getD i []) else ∃ g, base ≤ g ∧ x = .slice (some ⟨g, 0, none⟩) 1 1 ∧ W.heap[g]? = some (.cells #[.int .i64 (numI i)] 3 (0, 0))
theorem WRow.keep {base : Nat} {W W' : World} {x : Value} {zs : List (List Int)} {i : Nat} (h : WRow base W x zs i) (k : ∀ g cs, base ≤ g → W.heap[g]? = some (.cells cs 3 (0, 0)) → W'.heap[g]? = some (.cells cs 3 (0, 0))) : WRow base W' x zs i := by
  unfold WRow at h ⊢
  split
  · rename_i hi
    rw [if_pos hi] at h
    obtain ⟨g, h1, h2, h3⟩ := h
    exact ⟨g, h1, h2, k g _ h1 h3⟩
  · rename_i hi
    rw [if_neg hi] at h
    obtain ⟨g, h1, h2, h3⟩ := h
    exact ⟨g, h1, h2, k g _ h1 h3⟩
def WZ (base : Nat) (W : World) (v : Value) (zs : List (List Int)) : Prop := ∃ g vs, base ≤ g ∧ v = .slice (some ⟨g, 0, none⟩) zs.length (zs.length + 64) ∧ W.heap[g]? = some (.cells (vs : List Value).toArray 74 (0, 0)) ∧ vs.length = zs.length + 64 ∧ ∀ i, i < zs.length + 64 → WRow base W (vs.getD i nl) zs i
theorem WZ.up {base : Nat} {W W' : World} {v : Value} {zs : List (List Int)} (h : WZ base W v zs) (u : Up W W') : WZ base W' v zs := by
  obtain ⟨g, vs, h1, h2, h3, h4, h5⟩ := h
  exact ⟨g, vs, h1, h2, u.heap h3, h4, fun i hi => (h5 i hi).keep (fun g cs _ hg => u.heap hg)⟩
theorem WZ.zl {base : Nat} {W : World} {v : Value} {zs : List (List Int)} (h : WZ base W v zs) : ZL W v zs := by
  obtain ⟨g, vs, h1, rfl, h3, h4, h5⟩ := h
  refine ⟨vs.take zs.length, ⟨by rw [List.length_take]; omega, some ⟨g, 0, none⟩, zs.length + 64, rfl, by omega, fun hn => ⟨g, 0, rfl, fun j hj => ?_⟩⟩, fun i hi => ?_⟩
  · rw [Nat.zero_add, List.getElem?_take, if_pos (by omega)]
    simp [World.cell?, h3]
  · have h6 := h5 i (by omega)
    rw [WRow, if_pos hi] at h6
    have e : (vs.take zs.length).getD i nl = vs.getD i nl := by rw [List.getD_eq_getElem?_getD, List.getElem?_take, if_pos hi, ← List.getD_eq_getElem?_getD]
    rw [e]
    exact h6.il
def WS (base : Nat) (W : World) (v : Value) (s : Stt) : Prop := ∃ vp vc vz, v = sv vp vc vz s ∧ WP base W vp s.ps ∧ WC base W vc s.cs ∧ WZ base W vz s.zs
theorem WS.sl {base : Nat} {W : World} {v : Value} {s : Stt} (h : WS base W v s) : StL W v s := by
  obtain ⟨vp, vc, vz, hv, h1, h2, h3⟩ := h
  exact ⟨vp, vc, vz, hv, h1.il, h2.il, h3.zl⟩
theorem WS.up {base : Nat} {W W' : World} {v : Value} {s : Stt} (h : WS base W v s) (u : Up W W') : WS base W' v s := by
  obtain ⟨vp, vc, vz, hv, h1, h2, h3⟩ := h
  exact ⟨vp, vc, vz, hv, h1.up u, h2.up u, h3.up u⟩
end ST
end Go.Proofs.YtndkpfkgcaebmaaDoor
