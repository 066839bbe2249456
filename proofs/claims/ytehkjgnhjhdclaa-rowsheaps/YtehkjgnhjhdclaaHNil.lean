/-
  Heaps that are none, and heaps that nobody made.
-/
import Derived.Test.YtehkjgnhjhdclaaTakeT
namespace Go.Proofs.Ytehkjgnhjhdclaa
open Go.RowKit

namespace HT
theorem fnn (w : World) : (binOp .eql 67 Value.nilFunc Value.nilFunc).run Try.prog w = .ok (.bool true) w := by
  have hd : Op.maxDepth = (Op.maxDepth - 1) + 1 := by decide
  simp only [binOp, Op.equal]
  rw [hd]
  simp [Op.equalIn, run_underlying Try.underlying67, Result.andThen, go_sem]
/- no heap, or one that nobody made -/
def Idle (W : World) (p : Option Addr) : Prop := p = none ∨ ∃ pb, p = some ⟨pb, 0, none⟩ ∧ W.heap[pb]? = some (.cells #[.nilFunc, .slice none 0 0, .int .i64 0, .bool false] 77 (0, 0))
theorem Idle.up {W W' : World} {p : Option Addr} (h : Idle W p) (u : Up W W') : Idle W' p := by
  rcases h with h | ⟨pb, h1, h2⟩
  · exact .inl h
  · exact .inr ⟨pb, h1, u.heap h2⟩
set_option maxHeartbeats 1000000 in
theorem noneI (p : Option Addr) (w : World) (h : Idle w p) :
    Calls Try.prog 62 #[.pointer p] w fun e w' => e = .returned (.bool true) ∧ w' = w := by
  have func_nil := fnn
  rcases h with rfl | ⟨pb, rfl, h⟩
  · go_enter Try.func62, Try.ntmps62
    go_wp2
    go_ret
    exact ⟨rfl, rfl⟩
  · obtain ⟨c0, c1, c2, c3, ff⟩ := four_cells h
    go_enter Try.func62, Try.ntmps62
    go_wp2
    go_ret
    exact ⟨rfl, rfl⟩
set_option maxHeartbeats 1000000 in
theorem takeI (p : Option Addr) (w : World) (h : Idle w p) :
    Calls Try.prog 37 #[.pointer p] w fun e w' => e = .returned (.tuple #[.agg #[.int .i64 0, .int .i64 0], .bool false]) ∧ Up w w' := by
  have HH : Hid (Idle w p) := h
  clear h
  go_enter Try.func37, Try.ntmps37
  go_wp2_with fail
  refine (noneI p _ (HH.out.up (((Up.refl _).alloc _).alloc _))).mono ?_
  rintro e w1 ⟨rfl, rfl⟩
  go_wp2
  exact bodyPost_ret (v := .tuple #[.agg #[.int .i64 0, .int .i64 0], .bool false]) (by simp [results, Try.results37, go_sem]) rfl ⟨rfl, ((Up.refl _).alloc _).alloc _⟩
set_option maxHeartbeats 1000000 in
theorem putI (p : Option Addr) (v : Value) (w : World) (h : Idle w p) :
    Calls Try.prog 36 #[.pointer p, v] w fun e w' => e = .returned (.bool false) ∧ w' = w := by
  have HH : Hid (Idle w p) := h
  clear h
  go_enter Try.func36, Try.ntmps36
  go_wp2_with fail
  refine (noneI p _ HH.out).mono ?_
  rintro e w1 ⟨rfl, rfl⟩
  go_wp2
  go_ret
  exact ⟨rfl, rfl⟩
set_option maxHeartbeats 1000000 in
theorem lenI (p : Option Addr) (w : World) (h : Idle w p) :
    Calls Try.prog 39 #[.pointer p] w fun e w' => e = .returned (.int .i64 0) ∧ w' = w := by
  rcases h with rfl | ⟨pb, rfl, h⟩
  · go_enter Try.func39, Try.ntmps39
    go_wp2
    go_ret
    exact ⟨rfl, rfl⟩
  · obtain ⟨c0, c1, c2, c3, ff⟩ := four_cells h
    go_enter Try.func39, Try.ntmps39
    go_wp2
    go_ret
    exact ⟨rfl, rfl⟩
end HT
end Go.Proofs.Ytehkjgnhjhdclaa
