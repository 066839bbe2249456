/-
  The table of rules, as a value; and what stands in a row of it.
-/
import Derived.Test.YtabflfcdndioiabGreatDoorEs6Q
import Derived.Laws.Tables
namespace Go.Proofs.YtabflfcdndioiabGreatDoor
open Go.RowKit
attribute [local go_sem ↓] Go.wp_at_zero Go.wp_at_succ

namespace DE
open Go.Proofs.YtabflfcdndioiabGreatDoor.ST
theorem setRow_heap (w : World) (g : Nat) (old : Array Value) (t : TypeId) (fr : Nat × Nat) (C : Array Value) (h : w.heap[g]? = some (.cells old t fr)) : (w.setRow g C).heap[g]? = some (.cells C t fr) := by
  simp only [World.setRow, Array.getElem?_modify]
  rw [if_pos trivial, h]
  rfl
theorem up_row {w W : World} {g : Nat} (h : Up w W) (hg : w.heap.size ≤ g) (C : Array Value) : Up w (W.setRow g C) := by
  refine ⟨h.os, h.tape, h.output, by have := h.size; simpa [World.setRow] using this, fun k hk => ?_⟩
  rw [← h.block k hk]
  simp only [World.setRow, Array.getElem?_modify]
  rw [if_neg (by omega)]
def fv (n : Nat) : Value := .func (.func n) #[] #[]
def row (k : Nat) : Array Value := match k with
  | 1 => #[fv 59, fv 60, fv 61, fv 62, fv 63, fv 64]
  | 2 => #[fv 65, fv 66, fv 67, fv 68, fv 69, fv 70]
  | 3 => #[fv 71, fv 72, fv 73, fv 74, fv 75, fv 76]
  | 4 => #[fv 77, fv 78, fv 78, fv 79, fv 80, fv 81]
  | 5 => #[fv 82, fv 83, fv 84, fv 85, fv 86, fv 87]
  | 6 => #[fv 88, fv 89, fv 90, fv 91, fv 92, fv 93]
  | 7 => #[fv 94, fv 95, fv 96, fv 97, fv 98, fv 99]
  | _ => #[.nilFunc, .nilFunc, .nilFunc, .nilFunc, .nilFunc, .nilFunc]
def tabV : Array Value := row 0 ++ row 1 ++ row 2 ++ row 3 ++ row 4 ++ row 5 ++ row 6 ++ row 7
def nilV : Array Value := Array.replicate 48 .nilFunc
theorem tabV_size : tabV.size = 48 := by kernel_rfl
theorem tabV_one : tabV.all (·.oneCell') = true := by kernel_rfl
theorem infoTab : (Tryz.prog.info? 73).map (·.size) = some tabV.size := by kernel_rfl
set_option maxRecDepth 100000 in
set_option maxHeartbeats 4000000 in
theorem rules_ (w : World) : Calls Tryz.prog 37 #[] w fun x w' => x = .returned (.agg tabV) ∧ Up w w' := by
  go_enter Tryz.func37, Tryz.ntmps37
  go_wp2_with (refine wpList_store_row rfl 73 (.tmp 0) (.tmp 8) rfl w.heap.size tabV rfl rfl 73 nilV (heap_alloc_new w _) infoTab (by rw [tabV_size]; rfl) tabV_one ?_)
  refine bodyPost_ret (v := .agg tabV) (results_cell_row (p := 0) (ty := 73) rfl _ _ w.heap.size 73 tabV (0, 0) _ rfl (setRow_heap _ _ nilV _ _ _ (heap_alloc_new w _)) Tryz.underlying73 rfl infoTab) rfl ⟨rfl, up_row ((Up.refl _).alloc _) (Nat.le_refl _) _⟩
end DE
end Go.Proofs.YtabflfcdndioiabGreatDoor
