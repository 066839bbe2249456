/-
  The document's list of things: each that is looked at, in their order.
-/
import Derived.Test.YtodhjjeagmjhdaaGreatDoorRbo6TvTmX
namespace Go.Proofs.YtodhjjeagmjhdaaGreatDoor
open Go.RowKit
attribute [local go_sem ↓] Go.wp_at_zero Go.wp_at_succ
namespace ST
def ThPost (w : World) (s : Stt) (e : Ending) (w' : World) : Prop := ∃ x l,e = .returned x /\ BL w' x l /\ l.findIdx? (fun b=>!b) = ff s /\ l.length <= 4294967296 /\ Up w w'
theorem th_post {w w' : World} {s : Stt} {x : Value} {l : List Bool} (h : LC w' x 1 l.length (bvs l)) (hl : l = thL s) (u : Up w w') : ThPost w s (.returned x) w' := by
 subst hl
 exact ⟨x,_,rfl,h,thL_ff s,by have := thL_len s; omega,u⟩
theorem TI.post {w W : World} {box : Array Value} {v : Value} {q : Nat} {l : List Bool} {s : Stt} (h : TI w W box v q l) (hl : l = thL s) : ThPost w s (.returned v) W := by
 obtain ⟨-,h2,h3,-,h5⟩ := h
 subst h5
 exact th_post (own_lc h2) hl h3
end ST
end Go.Proofs.YtodhjjeagmjhdaaGreatDoor
