
/-
  Any call but Done at two stacks that are nil, and Len at a pair.
-/
import Derived.Test.YtgonflnmkfgfhaaPad
namespace Go.Proofs.Ytgonflnmkfgfhaa
open Go.RowKit

namespace DS
open IN
theorem nil_step (hp : Option Addr) (k on n : Int) (w : World) (hk : k ≠ 3) :
    Calls Try.prog 8 #[.pointer none, .pointer none, op k on n, .pointer hp] w fun e w' => e = .returned (.bool true) ∧ Up w w' := by
  by_cases h0 : k = 0
  · subst h0
    exact does_do _ _ hp on n false (fun w1 => Up w w1) (fun w2 => Up w w2) w (fun W u => (LIS.do_nil n W).mono fun e w1 k => ⟨k.1, Up.trans u k.2, nw_up k.2⟩) (fun w1 u => (RS.rdo_nil n w1).mono fun e w2 k => ⟨k.1, Up.trans u k.2⟩)
  · by_cases h1 : k = 1
    · subst h1
      exact does_undo _ _ hp on n 0 false (fun w1 => Up w w1) (fun w2 => Up w w2) w (fun W u => (LIS.undo_nil W).mono fun e w1 k => ⟨k.1, Up.trans u k.2, nw_up k.2⟩) (fun w1 u => (RS.rundo_nil w1).mono fun e w2 k => ⟨k.1, Up.trans u k.2⟩)
    · by_cases h2 : k = 2
      · subst h2
        exact does_redo _ _ hp on n 0 false (fun w1 => Up w w1) (fun w2 => Up w w2) w (fun W u => (LIS.redo_nil W).mono fun e w1 k => ⟨k.1, Up.trans u k.2, nw_up k.2⟩) (fun w1 u => (RS.rredo_nil w1).mono fun e w2 k => ⟨k.1, Up.trans u k.2⟩)
      · exact does_len_nil hp k on n w h0 h1 h2 hk
/- any call but Done at a pair -/
theorem pair_step (sb b1 rb b2 : Nat) (v vd vu : Value) (all : List Int) (d : Nat) (most : Int) (hp : Option Addr) (k on n : Int) (w : World) (h : Pair w sb b1 rb b2 v vd vu all d most) (ha : Ap v vd vu) (hl : all.length ≤ 50000) (hb1 : b1 ≤ w.heap.size) (hk : k ≠ 3) :
    Calls Try.prog 8 #[.pointer (some ⟨sb, 0, none⟩), .pointer (some ⟨rb, 0, none⟩), op k on n, .pointer hp] w fun e w' => e = .returned (.bool true) ∧ Stp w sb b1 rb v vd vu all most w' := by
  by_cases h0 : k = 0
  · subst h0
    exact pair_do sb b1 rb b2 v vd vu all d most hp on n w h ha hl hb1
  · by_cases h1 : k = 1
    · subst h1
      exact pair_undo sb b1 rb b2 v vd vu all d most hp on n w h ha hl
    · by_cases h2 : k = 2
      · subst h2
        exact pair_redo sb b1 rb b2 v vd vu all d most hp on n w h ha hl
      · refine (does_len sb b1 rb b2 v vd vu all d most _ _ hp k on n w h0 h1 h2 hk h.1 h.2 (by omega) ?_ ?_).mono ?_
        · have := h.1.2.2.2
          rw [List.length_take]; omega
        · simp
        · rintro e w' ⟨he, u⟩
          exact ⟨he, b2, v, vd, vu, all, d, ⟨h.1.up u, h.2.up u⟩, ha, .inl rfl, .inl rfl, .inl rfl, Chg.up u, by omega⟩
end DS
end Go.Proofs.Ytgonflnmkfgfhaa
