/-
  The walk.
-/
import Derived.Test.YtgahdppcdeefaaaKv9
namespace Go.Proofs.Ytgahdppcdeefaaa
open Go.RowKit
attribute [local go_sem ↓] Go.wp_at_zero Go.wp_at_succ
namespace TR
theorem calls_w {P : Program} {f : FuncId} {args : Array Value} {a b : World} {R : Ending → World → Prop} (h : a = b) (c : Calls P f args b R) : Calls P f args a R := by rw [h]; exact c
theorem cell_off {W : World} {g i j : Nat} {u : Value} (h : i ≠ j) : (W.setCell ⟨g, i, none⟩ u).cell? ⟨g, j, none⟩ = W.cell? ⟨g, j, none⟩ := by
  unfold World.cell? World.setCell
  simp only [Array.getElem?_modify]
  cases W.heap[g]? with
  | none => simp
  | some o => cases o <;> simp [h]
theorem ws_at {w0 W : World} {g m p d : Nat} {v : Value} {x : Wt} {S : List Wt} (h : WS w0 W g m v p (x :: S) d) : ∃ gr cr, gr ≠ g ∧ w0.heap.size ≤ gr ∧ w0.heap.size ≤ g ∧ Up w0 W ∧ S.length + 1 ≤ cr ∧ WK W g m v p (.slice (some ⟨gr, 0, none⟩) (S.length + 1) cr) d ∧ W.ownsRow w0.heap.size 56 5 (.slice (some ⟨gr, 0, none⟩) (S.length + 1) cr) (S.length + 1) (wts S.reverse ++ (wtc x).toList) := by
  obtain ⟨wv, h1, h2, h3, h4⟩ := h
  rw [List.reverse_cons, wts_app, List.length_cons] at h2
  obtain ⟨gr, cr, h5, h6, rfl⟩ := row_some h2 (by omega)
  exact ⟨gr, cr, fun e9 => row_ne_g h2 h1 (by rw [e9]; rfl), h5, h4, h3, h6, h1, h2⟩
theorem wtc_cells {W : World} {base gr M cr : Nat} {xs : List Value} {x : Wt} (h : W.ownsRow base 56 5 (.slice (some ⟨gr, 0, none⟩) (M + 1) cr) (M + 1) (xs ++ (wtc x).toList)) : W.cell? ⟨gr, M * 5, none⟩ = some (.int .i64 (x.plc.takes : Int)) ∧ W.cell? ⟨gr, M * 5 + 1, none⟩ = some (.int .i64 (x.plc.rank : Int)) ∧ W.cell? ⟨gr, M * 5 + 2, none⟩ = some (.int .i64 (x.many : Int)) ∧ W.cell? ⟨gr, M * 5 + 3, none⟩ = some (.int .i64 (x.opn : Int)) ∧ W.cell? ⟨gr, M * 5 + 4, none⟩ = some (.bool x.rest) ∧ ∀ j, W.frozen? ⟨gr, j, none⟩ = false := by
  have hl : xs.length = M * 5 := by
    have := h.1
    simp [wtc] at this
    omega
  have k : ∀ j, j < 5 → W.cell? ⟨gr, M * 5 + j, none⟩ = (wtc x).toList[j]? := fun j hj => by
    rw [h.cellAt (M * 5 + j) (by omega), List.getElem?_append_right (by omega), hl, Nat.add_sub_cancel_left]
  exact ⟨k 0 (by decide), k 1 (by decide), k 2 (by decide), k 3 (by decide), k 4 (by decide), fun j => h.frozenAt j⟩
theorem wk_set2 {W : World} {g m p d : Nat} {v wv : Value} (h : WK W g m v p wv d) (p' : Nat) : WK (W.setCell ⟨g, 2, none⟩ (.int .i64 (p' : Int))) g m v p' wv d := by
  unfold WK at h ⊢
  simp [World.setCell, Array.getElem?_modify, h, wkc]
theorem WS.on {w0 W : World} {g m p d : Nat} {v : Value} {S : List Wt} (h : WS w0 W g m v p S d) (p' : Nat) : WS w0 (W.setCell ⟨g, 2, none⟩ (.int .i64 (p' : Int))) g m v p' S d := by
  obtain ⟨wv, h1, h2, h3, h4⟩ := h
  exact ⟨wv, wk_set2 h1 p', own_keep h2 (row_ne_g h2 h1), (Only.up h3).set 2 _ |>.below h4 (Nat.le_refl _), h4⟩
theorem WS.popped {w0 W : World} {g m p d : Nat} {v : Value} {x : Wt} {S : List Wt} {gr cr : Nat} (h1 : WK W g m v p (.slice (some ⟨gr, 0, none⟩) (S.length + 1) cr) d) (h2 : W.ownsRow w0.heap.size 56 5 (.slice (some ⟨gr, 0, none⟩) (S.length + 1) cr) (S.length + 1) (wts S.reverse ++ (wtc x).toList)) (h3 : Up w0 W) (h4 : w0.heap.size ≤ g) : WS w0 (W.setCell ⟨g, 3, none⟩ (.slice (some ⟨gr, 0, none⟩) S.length cr)) g m v p S d := by
  have h5 := row_short h2 (m := S.length) (by omega)
  rw [List.take_append_of_le_length (by rw [wts_len, List.length_reverse]; exact Nat.le_refl _), List.take_of_length_le (by rw [wts_len, List.length_reverse]; exact Nat.le_refl _)] at h5
  exact ⟨_, wk_set3 h1 _, own_keep h5 (row_ne_g h5 h1), (Only.up h3).set 3 _ |>.below h4 (Nat.le_refl _), h4⟩
theorem set_two (A : List Value) (a b c d e c' : Value) : (A ++ [a, b, c, d, e]).set (A.length + 2) c' = A ++ [a, b, c', d, e] := by
  rw [List.set_append_right _ _ (by omega)]
  simp
theorem WS.less {w0 W : World} {g m p d : Nat} {v : Value} {x : Wt} {S : List Wt} {gr cr : Nat} (hne : gr ≠ g) (hgr : w0.heap.size ≤ gr) (hx : x.many ≠ 0) (h1 : WK W g m v p (.slice (some ⟨gr, 0, none⟩) (S.length + 1) cr) d) (h2 : W.ownsRow w0.heap.size 56 5 (.slice (some ⟨gr, 0, none⟩) (S.length + 1) cr) (S.length + 1) (wts S.reverse ++ (wtc x).toList)) (h3 : Up w0 W) (h4 : w0.heap.size ≤ g) : WS w0 (W.setCell ⟨gr, S.length * 5 + 2, none⟩ (.int .i64 ((x.many : Int) - 1))) g m v p ({ x with many := x.many - 1 } :: S) d := by
  have h5 := (h2.stored (S.length * 5 + 2) (.int .i64 ((x.many : Int) - 1))).1
  have hl : (wts S.reverse).length = S.length * 5 := by rw [wts_len, List.length_reverse]
  refine ⟨.slice (some ⟨gr, 0, none⟩) (S.length + 1) cr, ?_, ?_, (Only.up h3).set _ _ |>.below hgr (Nat.le_refl _), h4⟩
  · unfold WK at h1 ⊢
    rw [Below.heap_setCell _ _ _ _ (Ne.symm hne)]
    exact h1
  · rw [List.reverse_cons, wts_app, List.length_cons]
    have e : (wts S.reverse ++ (wtc x).toList).set (S.length * 5 + 2) (.int .i64 ((x.many : Int) - 1)) = wts S.reverse ++ wts [{ x with many := x.many - 1 }] := by
      rw [← hl]
      have := set_two (wts S.reverse) (.int .i64 (x.plc.takes : Int)) (.int .i64 (x.plc.rank : Int)) (.int .i64 (x.many : Int)) (.int .i64 (x.opn : Int)) (.bool x.rest) (.int .i64 ((x.many : Int) - 1))
      refine this.trans ?_
      rw [show ((x.many : Int) - 1) = ((x.many - 1 : Nat) : Int) by omega]
      rfl
    rw [← e]
    exact h5
/- how much there is still to do -/
def mz (g n : Nat) (W : World) : Nat := 4 * (n - (match W.cell? ⟨g, 2, none⟩ with | some (.int _ z) => z.toNat | _ => 0)) + (match W.cell? ⟨g, 3, none⟩ with | some (.slice _ k _) => k | _ => 0)
theorem mz_is {w0 W : World} {g m p d n : Nat} {v : Value} {S : List Wt} (h : WS w0 W g m v p S d) : mz g n W = 4 * (n - p) + S.length := by
  obtain ⟨wv, h1, h2, -⟩ := h
  obtain ⟨a, c, rfl⟩ := row_val h2
  unfold mz
  rw [h1.cells.2.2.1, h1.cells.2.2.2.1]
  rfl
end TR
end Go.Proofs.Ytgahdppcdeefaaa
