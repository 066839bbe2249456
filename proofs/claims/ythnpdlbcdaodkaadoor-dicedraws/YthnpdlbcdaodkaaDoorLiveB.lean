/-
  That dice live: the law's own small look at them.
-/
import Derived.Test.YthnpdlbcdaodkaaDoorEqlB
namespace Go.Proofs.YthnpdlbcdaodkaaDoor
open Go.RowKit

theorem drawn0 : mx (stp 0) = 16294208416658607535 := by unfold mx stp; decide +kernel
theorem below6 : hiP (mx (stp (stp 0))) 6 = 2 := by unfold hiP mx stp; decide +kernel
theorem order4 : ordL 4 0 = [2, 0, 1, 3] := by decide +kernel
theorem prod6 : hiP 9223372036854775808 6 = 3 ∧ loP 9223372036854775808 6 = 0 := by unfold hiP loP; decide +kernel
theorem up_fresh {w0 w : World} {b : Nat} (h : Up w0 w) (hb : w0.heap.size ≤ b) (k : Nat) (u : Value) : Up w0 (w.setCell ⟨b, k, none⟩ u) := Below.setCell h hb u
set_option maxHeartbeats 1000000 in
theorem lives (w : World) : Calls Tryd.prog 7 #[] w fun e w' => e = .returned (.bool true) ∧ Up w w' := by
  have HD : Hid (mx (stp 0) = 16294208416658607535) := drawn0
  have HP := prod6
  have e1 : ((16294208416658607535 : Int) == 16294208416658607535) = true := by decide
  go_enter Tryd.func7, Tryd.ntmps7
  go_wp2_with fail
  refine (new 0 w).mono ?_
  rintro e w1 ⟨rfl, rfl⟩
  have d1 := Die.new w 0
  have u1 := (Up.refl w).alloc (.cells #[.int .u64 ((0 : Nat) : Int), .bool true] 75)
  have hsz : w.heap.size ≤ w.heap.size := Nat.le_refl _
  unfold dieA
  go_wp2_with fail
  refine (next w.heap.size 0 _ d1).mono ?_
  rintro e w2 ⟨rfl, rfl⟩
  have d2 := d1.set (stp 0)
  have u2 := up_fresh u1 hsz 0 (.int .u64 (stp 0 : Nat))
  rw [drawn0]
  generalize hW2 : (w.alloc (.cells #[.int .u64 ((0 : Nat) : Int), .bool true] 75)).setCell ⟨w.heap.size, 0, none⟩ (.int .u64 (stp 0 : Nat)) = W2 at *
  clear hW2 d1 u1
  go_wp2_with fail
  refine (below w.heap.size (stp 0) 6 _ d2 (by decide) (by decide)).mono ?_
  rintro e w3 ⟨rfl, rfl⟩
  rw [below6]
  have u3 := up_fresh u2 hsz 0 (.int .u64 (stp (stp 0) : Nat))
  generalize hW3 : W2.setCell ⟨w.heap.size, 0, none⟩ (.int .u64 (stp (stp 0) : Nat)) = W3 at *
  clear hW3 d2 u2
  go_wp2_with fail
  refine (product 9223372036854775808 6 (by decide) (by decide) _).mono ?_
  rintro e w4 ⟨rfl, rfl⟩
  rw [HP.1, HP.2]
  go_wp2_with fail
  refine (new 0 w4).mono ?_
  rintro e w5 ⟨rfl, rfl⟩
  have d5 := Die.new w4 0
  have u5 := u3.alloc (.cells #[.int .u64 ((0 : Nat) : Int), .bool true] 75)
  unfold dieA
  go_wp2_with fail
  refine (order w4.heap.size 4 0 _ d5 (by decide)).mono ?_
  rintro e w6 ⟨g, hg, rfl, hr, _, ho⟩
  rw [order4] at hr
  have u6 : Up w w6 := u5.trans' ho u3.size
  have hl := hr.lies 4
  have hsz6 := hr.lt
  generalize w4.heap.size = n4 at *
  clear d5 u5 ho hr
  have hb : RowI (w6.alloc (.cells #[.int .i64 2, .int .i64 0, .int .i64 1, .int .i64 3] 3)) w6.heap.size [2, 0, 1, 3] := heap_alloc_last _ _
  have hl2 := hb.lies 4
  have hl1 := hl.up ((Up.refl w6).alloc (.cells #[.int .i64 2, .int .i64 0, .int .i64 1, .int .i64 3] 3))
  have u7 := u6.alloc (.cells #[.int .i64 2, .int .i64 0, .int .i64 1, .int .i64 3] 3)
  have HL : Hid (LiesI _ _ (intsOf [2, 0, 1, 3]) ∧ LiesI _ _ (intsOf [2, 0, 1, 3])) := ⟨hl1, hl2⟩
  clear hl hl1 hl2 hb u6
  go_wp2_with fail
  refine (eqInts _ _ _ _ _ HL.out.1 HL.out.2 (by decide)).mono ?_
  rintro e w8 ⟨rfl, u8⟩
  rw [show decide (intsOf [2, 0, 1, 3] = intsOf [2, 0, 1, 3]) = true from decide_eq_true rfl]
  go_wp2
  go_ret
  exact ⟨rfl, u7.trans u8⟩
end Go.Proofs.YthnpdlbcdaodkaaDoor
