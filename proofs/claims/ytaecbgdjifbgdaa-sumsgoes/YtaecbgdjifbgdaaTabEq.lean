/-
  Two tables of 256 numbers, held against each other as values.
-/
import Derived.Test.YtaecbgdjifbgdaaTwice
namespace Go.Proofs.Ytaecbgdjifbgdaa
open Go.RowKit
def tabL : List Value := (List.range 256).map fun i => Value.int .u32 ((if i < 256 then Sn 8 i else 0 : Nat) : Int)
theorem tabL_eq : tabL.toArray = tabC 256 := rfl
theorem tabL_len : tabL.length = 256 := by simp [tabL]
theorem tab_neq (w : World) : (binOp .neq 34 (.agg (tabC 256)) (.agg (tabC 256))).run Try.prog w = .ok (.bool false) w := by kernel_rfl
theorem tab_eql (w : World) : (binOp .eql 34 (.agg (tabC 256)) (.agg (tabC 256))).run Try.prog w = .ok (.bool true) w := by kernel_rfl
theorem tab_eqL (w : World) : (binOp .eql 34 (.agg tabL.toArray) (.agg tabL.toArray)).run Try.prog w = .ok (.bool true) w := tab_eql w
theorem tab_eqM (w : World) : (binOp .eql 34 (.agg (tabC 256)) (.agg tabL.toArray)).run Try.prog w = .ok (.bool true) w := tab_eql w
theorem range_tab {w : World} {g : Nat} (h : w.heap[g]? = some (.cells (tabC 256) 34 (0, 0))) : w.rangeAt g 0 tabL := fun j x hj => by
  rw [Nat.zero_add, cell_of_row _ _ j _ _ _ h, ← tabL_eq]
  simpa using hj
theorem cell_tab {w : World} {g i : Nat} (h : w.heap[g]? = some (.cells (tabC 256) 34 (0, 0))) (hi : i < 256) : w.cell? ⟨g, i, none⟩ = some (.int .u32 (Sn 8 i : Nat)) := by
  rw [cell_of_row _ _ i _ _ _ h, tabC_at 256 i hi, if_pos hi]
theorem Up.range {v v' : World} (u : Up v v') {b o : Nat} {cs : List Value} (h : v.rangeAt b o cs) : v'.rangeAt b o cs := fun j x hj => u.cell (h j x hj)
theorem keepE {w v v' : World} {b1 b2 b3 j : Nat} {x y : Value} (u : Up v v') (h : v.rangeAt b2 0 tabL ∧ v.rangeAt b3 0 tabL ∧ v.cell? ⟨b1, j, none⟩ = some x ∧ v.cell? ⟨b2, j, none⟩ = some y ∧ Up w v) :
    v'.rangeAt b2 0 tabL ∧ v'.rangeAt b3 0 tabL ∧ v'.cell? ⟨b1, j, none⟩ = some x ∧ v'.cell? ⟨b2, j, none⟩ = some y ∧ Up w v' :=
  ⟨u.range h.1, u.range h.2.1, u.cell h.2.2.1, u.cell h.2.2.2.1, h.2.2.2.2.trans u⟩
theorem Up.toDrew (v : World) : Up v v.drew := (Up.refl v).drew
end Go.Proofs.Ytaecbgdjifbgdaa
