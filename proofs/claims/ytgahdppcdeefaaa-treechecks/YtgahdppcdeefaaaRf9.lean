
/-
  The document's frame: what is wanted now.
-/
import Derived.Test.YtgahdppcdeefaaaTh9
import Derived.Test.YtgahdppcdeefaaaRi9
namespace Go.Proofs.Ytgahdppcdeefaaa
open Go.RowKit
attribute [local go_sem ↓] Go.wp_at_zero Go.wp_at_succ
namespace TR
set_option maxRecDepth 100000 in
set_option maxHeartbeats 16000000 in
theorem fwant_ (v : Value) (own : List Int) (other left : Int) (next : Nat) (w : World) (hv : IvL w v own) : Calls Try.prog 37 #[.agg #[v, .int .i64 other, .int .i64 left, .int .i64 next]] w fun e w' => e = .returned (.int .i64 (own.getD next other)) ∧ Up w w' := by
  obtain ⟨a1, k1, rfl, h1⟩ := ivl_at hv
  obtain ⟨n, hn0⟩ : ∃ n, n = own.length := ⟨_, rfl⟩
  rw [← hn0] at h1 ⊢
  by_cases hlt : next < n
  · obtain ⟨b1, o1, rfl, c1⟩ := h1 (by omega)
    have hlt2 : (next : Int) < (n : Int) := by omega
    have hg : own.getD next other = own.getD next 0 := by
      rw [List.getD_eq_getElem?_getD, List.getD_eq_getElem?_getD, List.getElem?_eq_getElem (by omega)]
      rfl
    rw [hg]
    have X : ∀ t, (w.alloc (.cells #[.slice (some ⟨b1, o1, none⟩) n k1, .int .i64 other, .int .i64 left, .int .i64 next] t)).cell? ⟨b1, o1 + next, none⟩ = some (.int .i64 (own.getD next 0)) := fun t => c1 _ ((Up.refl _).alloc _) next hlt
    clear h1 c1 hv hg hn0
    generalize own.getD next 0 = z at *
    go_enter Try.func37, Try.ntmps37
    go_wp2
    go_ret
    exact ⟨rfl, (Up.refl _).alloc _⟩
  · have hlt2 : ¬ (next : Int) < (n : Int) := by omega
    have hg : own.getD next other = other := by
      rw [List.getD_eq_getElem?_getD, List.getElem?_eq_none (by omega)]
      rfl
    rw [hg]
    clear h1 hv hg hn0
    go_enter Try.func37, Try.ntmps37
    go_wp2
    go_ret
    exact ⟨rfl, (Up.refl _).alloc _⟩
end TR
end Go.Proofs.Ytgahdppcdeefaaa
