
/-
  What a byte is to the cutter, and which texts are marks.
-/
import Derived.Test.YtjjikeehifndhaaDoorBy8
import Derived.Shelf.Abstract
namespace Go.Proofs.YtjjikeehifndhaaDoor
open Go.RowKit
attribute [local go_sem ↓] Go.wp_at_zero Go.wp_at_succ
namespace TK
def clsI (c : Int) : Int := if blk c then 1 else if sml c then 2 else if grt c then 3 else if dig c then 4 else if c == 95 then 5 else if c == 34 then 6 else if c == 47 then 7 else 0
set_option maxRecDepth 100000 in
set_option maxHeartbeats 4000000 in
theorem classOf_ (c : Int) (w : World) : Calls Tryd.prog 27 #[.int .u8 c] w fun e w' => e = .returned (.int .i64 (clsI c)) ∧ w' = w := by
  obtain ⟨k, hk⟩ : ∃ k, k = clsI c := ⟨_, rfl⟩
  rw [← hk]
  have HK : Hid (k = clsI c) := hk
  clear hk
  go_enter Tryd.func27, Tryd.ntmps27
  go_wp2
  all_goals go_ret
  all_goals refine ⟨ret_int ?_, rfl⟩
  all_goals rw [HK.out]
  all_goals unfold clsI blk sml grt dig
  all_goals simp_all
  all_goals omega
def mrkS (s : ByteArray) : Bool := decide (s.toList = [123]) || (decide (s.toList = [125]) || (decide (s.toList = [40]) || (decide (s.toList = [41]) || (decide (s.toList = [59]) || (decide (s.toList = [44]) || (decide (s.toList = [46]) || (decide (s.toList = [61]) || (decide (s.toList = [61, 61]) || (decide (s.toList = [33]) || (decide (s.toList = [33, 61]) || (decide (s.toList = [60]) || (decide (s.toList = [60, 61]) || (decide (s.toList = [62]) || (decide (s.toList = [62, 61]) || (decide (s.toList = [43]) || (decide (s.toList = [45]) || (decide (s.toList = [42]) || (decide (s.toList = [47]) || (decide (s.toList = [37]) || (decide (s.toList = [38, 38]) || (decide (s.toList = [124, 124]))))))))))))))))))))))
set_option maxRecDepth 100000 in
set_option maxHeartbeats 4000000 in
theorem isMark_ (s : ByteArray) (w : World) : Calls Tryd.prog 59 #[.string s] w fun e w' => e = .returned (.bool (mrkS s)) ∧ w' = w := by
  obtain ⟨k, hk⟩ : ∃ k, k = mrkS s := ⟨_, rfl⟩
  rw [← hk]
  have HK : Hid (k = mrkS s) := hk
  clear hk
  go_enter Tryd.func59, Tryd.ntmps59
  go_wp2
  all_goals go_ret
  all_goals refine ⟨?_, rfl⟩
  all_goals rw [HK.out]
  all_goals unfold mrkS
  all_goals simp_all
set_option maxRecDepth 100000 in
set_option maxHeartbeats 4000000 in
theorem isPlain_ (c : Int) (w : World) : Calls Tryd.prog 71 #[.int .u8 c] w fun e w' => e = .returned (.bool (pln c)) ∧ w' = w := by
  obtain ⟨k, hk⟩ : ∃ k, k = pln c := ⟨_, rfl⟩
  rw [← hk]
  have HK : Hid (k = pln c) := hk
  clear hk
  go_enter Tryd.func71, Tryd.ntmps71
  go_wp2
  all_goals go_ret
  all_goals refine ⟨?_, rfl⟩
  all_goals rw [HK.out]
  all_goals unfold pln
  all_goals simp_all
  all_goals omega
set_option maxRecDepth 100000 in
set_option maxHeartbeats 4000000 in
theorem isEscaped_ (c : Int) (w : World) : Calls Tryd.prog 70 #[.int .u8 c] w fun e w' => e = .returned (.bool (esc c)) ∧ w' = w := by
  obtain ⟨k, hk⟩ : ∃ k, k = esc c := ⟨_, rfl⟩
  rw [← hk]
  have HK : Hid (k = esc c) := hk
  clear hk
  go_enter Tryd.func70, Tryd.ntmps70
  go_wp2
  all_goals go_ret
  all_goals refine ⟨?_, rfl⟩
  all_goals rw [HK.out]
  all_goals unfold esc
  all_goals simp_all
set_option maxRecDepth 100000 in
set_option maxHeartbeats 4000000 in
theorem nnl_ (c : Int) (w : World) : Calls Tryd.prog 66 #[.int .u8 c] w fun e w' => e = .returned (.bool (nnl c)) ∧ w' = w := by
  go_enter Tryd.func66, Tryd.ntmps66
  go_wp2
  go_ret
  exact ⟨rfl, rfl⟩
end TK
end Go.Proofs.YtjjikeehifndhaaDoor
