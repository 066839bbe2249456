/-
  DeedApplies: the law's walk.
-/
import Derived.Test.YtodhjjeagmjhdaaGreatDoorLv6VX
import Derived.Test.YtodhjjeagmjhdaaGreatDoorBxVX
namespace Go.Proofs.YtodhjjeagmjhdaaGreatDoor
open Go.RowKit
attribute [local go_sem ↓] Go.wp_at_zero Go.wp_at_succ
namespace DE
open Go.Proofs.YtodhjjeagmjhdaaGreatDoor.ST
theorem WSA.row {base : Nat} {W : World} {v : Value} {s : Stt} (h : WSA base W v s) : ∃ C : Array Value,v = .agg C /\ C.size = 7 /\ C.all (·.oneCell') = true := by
 obtain ⟨vp,vc,vz,hv,⟨g1,-,rfl,-⟩,⟨g2,-,rfl,-⟩,g3,vs,-,rfl,-⟩ := h
 unfold sv at hv
 exact ⟨_,hv,rfl,by simp [Value.oneCell']⟩
theorem eqE_selfW (e : Ev) : eqE e e = true := by simp [eqE]
end DE
end Go.Proofs.YtodhjjeagmjhdaaGreatDoor
