/-
  The rule of an event's kind.
-/
import Derived.Test.YtodhjjeagmjhdaaGreatDoorFf6TvDbX
import Derived.Test.YtodhjjeagmjhdaaGreatDoorTb6VX
namespace Go.Proofs.YtodhjjeagmjhdaaGreatDoor
open Go.RowKit
attribute [local go_sem ↓] Go.wp_at_zero Go.wp_at_succ
namespace DE
open Go.Proofs.YtodhjjeagmjhdaaGreatDoor.ST
def kindB (k : Int) : Bool := decide (1 <= k) && decide (k <= 7)
set_option maxRecDepth 100000 in
set_option maxHeartbeats 4000000 in
theorem ruleOf_none (e : Ev) (oa : Option Addr) (on oc : Nat) (w : World) (hk : kindB e.kind = false) : Calls Tryz.prog 82 #[.agg tabV,evv e (.slice oa on oc)] w fun x w'=>x = .returned (.tuple #[.agg (row 0),.bool false]) /\ Up w w' := by
 have HK : Hid _ := isKind_ e.kind
 unfold kindB at hk
 rw [hk] at HK
 unfold evv evc
 generalize tabV = T at *
 go_enter Tryz.func82,Tryz.ntmps82
 go_wp2_with fail
 refine Calls.mono (HK.out _) ?_
 rintro r w1 ⟨rfl,rfl⟩
 go_wp2
 exact bodyPost_ret (v := .tuple #[.agg (row 0),.bool false]) (by simp [results,Tryz.results82,go_sem,row]) rfl ⟨rfl,(((Up.refl _).alloc _).alloc _).alloc _⟩
end DE
end Go.Proofs.YtodhjjeagmjhdaaGreatDoor
