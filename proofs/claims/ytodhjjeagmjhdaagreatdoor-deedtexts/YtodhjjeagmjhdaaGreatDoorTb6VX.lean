/-
  The table of rules, as a value; and what stands in a row of it.
-/
import Derived.Test.YtodhjjeagmjhdaaGreatDoorEs6VX
import Derived.Laws.Tables
namespace Go.Proofs.YtodhjjeagmjhdaaGreatDoor
open Go.RowKit
attribute [local go_sem ↓] Go.wp_at_zero Go.wp_at_succ
namespace DE
open Go.Proofs.YtodhjjeagmjhdaaGreatDoor.ST
theorem setRow_heap (w : World) (g : Nat) (old : Array Value) (t : TypeId) (fr : Nat × Nat) (C : Array Value) (h : w.heap[g]? = some (.cells old t fr)) : (w.setRow g C).heap[g]? = some (.cells C t fr) := by
 simp only [World.setRow,Array.getElem?_modify]
 rw [if_pos trivial,h]
 rfl
theorem up_row {w W : World} {g : Nat} (h : Up w W) (hg : w.heap.size <= g) (C : Array Value) : Up w (W.setRow g C) := by
 refine ⟨h.os,h.tape,h.output,by have := h.size; simpa [World.setRow] using this,fun k hk=>?_⟩
 rw [<- h.block k hk]
 simp only [World.setRow,Array.getElem?_modify]
 rw [if_neg (by omega)]
def fv (n : Nat) : Value := .func (.func n) #[] #[]
def row (k : Nat) : Array Value := match k with
 | 1=>#[fv 117,fv 118,fv 119,fv 120,fv 121,fv 122]
 | 2=>#[fv 123,fv 124,fv 125,fv 126,fv 127,fv 128]
 | 3=>#[fv 129,fv 130,fv 131,fv 132,fv 133,fv 134]
 | 4=>#[fv 135,fv 136,fv 136,fv 137,fv 138,fv 139]
 | 5=>#[fv 140,fv 141,fv 142,fv 143,fv 144,fv 145]
 | 6=>#[fv 146,fv 147,fv 148,fv 149,fv 150,fv 151]
 | 7=>#[fv 152,fv 153,fv 154,fv 155,fv 156,fv 157]
 | _=>#[.nilFunc,.nilFunc,.nilFunc,.nilFunc,.nilFunc,.nilFunc]
def tabV : Array Value := row 0 ++ row 1 ++ row 2 ++ row 3 ++ row 4 ++ row 5 ++ row 6 ++ row 7
def nilV : Array Value := Array.replicate 48 .nilFunc
theorem tabV_size : tabV.size = 48 := by kernel_rfl
theorem tabV_one : tabV.all (·.oneCell') = true := by kernel_rfl
theorem infoTab : (Tryz.prog.info? 107).map (·.size) = some tabV.size := by kernel_rfl
set_option maxRecDepth 100000 in
set_option maxHeartbeats 4000000 in
theorem rules_ (w : World) : Calls Tryz.prog 81 #[] w fun x w'=>x = .returned (.agg tabV) /\ Up w w' := by
 go_enter Tryz.func81,Tryz.ntmps81
 go_wp2_with (refine wpList_store_row rfl 107 (.tmp 0) (.tmp 8) rfl w.heap.size tabV rfl rfl 107 nilV (heap_alloc_new w _) infoTab (by rw [tabV_size]; rfl) tabV_one ?_)
 refine bodyPost_ret (v := .agg tabV) (results_cell_row (p := 0) (ty := 107) rfl _ _ w.heap.size 107 tabV (0,0) _ rfl (setRow_heap _ _ nilV _ _ _ (heap_alloc_new w _)) Tryz.underlying107 rfl infoTab) rfl ⟨rfl,up_row ((Up.refl _).alloc _) (Nat.le_refl _) _⟩
end DE
end Go.Proofs.YtodhjjeagmjhdaaGreatDoor
