/-
  Nothing beside what a kind names; the table of rules.
-/
import Derived.Test.YtodhjjeagmjhdaaGreatDoorErVX
import Derived.Laws.EntriesVeiled
namespace Go.Proofs.YtodhjjeagmjhdaaGreatDoor
open Go.RowKit
attribute [local go_sem ↓] Go.wp_at_zero Go.wp_at_succ
namespace DE
open Go.Proofs.YtodhjjeagmjhdaaGreatDoor.ST
theorem sNums : Tryz.prog.underlying 204 = some (.struct (Tryz.prog.fieldsOf 204)) := by kernel_rfl
theorem hNums : Tryz.prog.stoodInHeld 204 = false := by kernel_rfl
def nothingB (e : Ev) : Bool := decide (e.field = 0) && decide (e.card = 0) && decide (e.player = 0) && decide (e.other = 0) && decide (e.fr = 0) && decide (e.frAt = 0) && decide (e.to_ = 0) && decide (e.toAt = 0) && decide (e.was = 0) && decide (e.now = 0)
theorem eqNums (a0 a1 a2 a3 a4 a5 a6 a7 a8 a9 : Int) (W : World) : (binOp .eql 204 (.agg #[.int .i8 a0,.int .i64 a1,.int .i64 a2,.int .i64 a3,.int .i64 a4,.int .i64 a5,.int .i64 a6,.int .i64 a7,.int .i32 a8,.int .i32 a9]) (.agg #[.int .i8 0,.int .i64 0,.int .i64 0,.int .i64 0,.int .i64 0,.int .i64 0,.int .i64 0,.int .i64 0,.int .i32 0,.int .i32 0])).run Tryz.prog W = .ok (.bool (decide (a0 = 0) && decide (a1 = 0) && decide (a2 = 0) && decide (a3 = 0) && decide (a4 = 0) && decide (a5 = 0) && decide (a6 = 0) && decide (a7 = 0) && decide (a8 = 0) && decide (a9 = 0))) W := by
 have u3 := Tryz.underlying3
 have v3 := Tryz.isAgg3
 have z3 := Tryz.sizeOf3
 have u4 := Tryz.underlying21
 have v4 := Tryz.isAgg21
 have z4 := Tryz.sizeOf21
 have u5 := Tryz.underlying25
 have v5 := Tryz.isAgg25
 have z5 := Tryz.sizeOf25
 rw [run_eql_struct,show (10000 : Nat) = 9999 + 1 from rfl,run_equalIn_agg W 9999 204 _ _ sNums hNums]
 simp only [Program.fieldsOf,Tryz.underlying204]
 go_simp
 by_cases h0 : a0 = 0
 ·by_cases h1 : a1 = 0
  ·by_cases h2 : a2 = 0
   ·by_cases h3 : a3 = 0
    ·by_cases h4 : a4 = 0
     ·by_cases h5 : a5 = 0
      ·by_cases h6 : a6 = 0
       ·by_cases h7 : a7 = 0
        ·by_cases h8 : a8 = 0
         ·by_cases h9 : a9 = 0 <;> simp [h0,h1,h2,h3,h4,h5,h6,h7,h8,h9]
         ·simp [h0,h1,h2,h3,h4,h5,h6,h7,h8]
        ·simp [h0,h1,h2,h3,h4,h5,h6,h7]
       ·simp [h0,h1,h2,h3,h4,h5,h6]
      ·simp [h0,h1,h2,h3,h4,h5]
     ·simp [h0,h1,h2,h3,h4]
    ·simp [h0,h1,h2,h3]
   ·simp [h0,h1,h2]
  ·simp [h0,h1]
 ·simp [h0]
set_option maxRecDepth 100000 in
set_option maxHeartbeats 4000000 in
theorem saysNothing_ (e : Ev) (oa : Option Addr) (on oc : Nat) (w : World) : Calls Tryz.prog 158 #[evv e (.slice oa on oc)] w fun x w'=>x = .returned (.bool (nothingB e && decide (on = 0))) /\ Up w w' := by
 have hq := eqNums e.field e.card e.player e.other e.fr e.frAt e.to_ e.toAt e.was e.now
 unfold evv evc nothingB
 generalize (decide (e.field = 0) && decide (e.card = 0) && decide (e.player = 0) && decide (e.other = 0) && decide (e.fr = 0) && decide (e.frAt = 0) && decide (e.to_ = 0) && decide (e.toAt = 0) && decide (e.was = 0) && decide (e.now = 0)) = b at *
 cases b
 ·go_enter Tryz.func158,Tryz.ntmps158
  go_wp2
  go_ret
  exact ⟨by simp,((Up.refl _).alloc _).alloc _⟩
 ·go_enter Tryz.func158,Tryz.ntmps158
  go_wp2
  go_ret
  exact ⟨by by_cases h : on = 0 <;> simp [h],((Up.refl _).alloc _).alloc _⟩
end DE
end Go.Proofs.YtodhjjeagmjhdaaGreatDoor
