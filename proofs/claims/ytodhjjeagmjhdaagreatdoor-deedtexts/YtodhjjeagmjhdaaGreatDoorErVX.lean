/-
  Events without what their kinds name; turned about; nothing beside.
-/
import Derived.Test.YtodhjjeagmjhdaaGreatDoorWsTvEvX
namespace Go.Proofs.YtodhjjeagmjhdaaGreatDoor
open Go.RowKit
attribute [local go_sem ↓] Go.wp_at_zero Go.wp_at_succ
namespace DE
open Go.Proofs.YtodhjjeagmjhdaaGreatDoor.ST
def moveR (e : Ev) : Ev := { e with card := 0,fr := 0,frAt := 0,to_ := 0,toAt := 0 }
set_option maxRecDepth 100000 in
set_option maxHeartbeats 2000000 in
theorem moveRest_ (e : Ev) (oa : Option Addr) (on oc : Nat) (w : World) : Calls Tryz.prog 117 #[evv e (.slice oa on oc)] w fun x w'=>x = .returned (evv (moveR e) (.slice oa on oc)) /\ Up w w' := by
 unfold evv evc moveR
 go_enter Tryz.func117,Tryz.ntmps117
 go_wp2
 exact bodyPost_ret (v := evv (moveR e) (.slice oa on oc)) (by simp [results,Tryz.results117,go_sem,evv,evc,moveR]) rfl ⟨rfl,((Up.refl _).alloc _).alloc _⟩
def cardR (e : Ev) : Ev := { e with field := 0,card := 0,was := 0,now := 0 }
set_option maxRecDepth 100000 in
set_option maxHeartbeats 2000000 in
theorem cardRest_ (e : Ev) (oa : Option Addr) (on oc : Nat) (w : World) : Calls Tryz.prog 123 #[evv e (.slice oa on oc)] w fun x w'=>x = .returned (evv (cardR e) (.slice oa on oc)) /\ Up w w' := by
 unfold evv evc cardR
 go_enter Tryz.func123,Tryz.ntmps123
 go_wp2
 exact bodyPost_ret (v := evv (cardR e) (.slice oa on oc)) (by simp [results,Tryz.results123,go_sem,evv,evc,cardR]) rfl ⟨rfl,((Up.refl _).alloc _).alloc _⟩
def playerR (e : Ev) : Ev := { e with field := 0,player := 0,was := 0,now := 0 }
set_option maxRecDepth 100000 in
set_option maxHeartbeats 2000000 in
theorem playerRest_ (e : Ev) (oa : Option Addr) (on oc : Nat) (w : World) : Calls Tryz.prog 129 #[evv e (.slice oa on oc)] w fun x w'=>x = .returned (evv (playerR e) (.slice oa on oc)) /\ Up w w' := by
 unfold evv evc playerR
 go_enter Tryz.func129,Tryz.ntmps129
 go_wp2
 exact bodyPost_ret (v := evv (playerR e) (.slice oa on oc)) (by simp [results,Tryz.results129,go_sem,evv,evc,playerR]) rfl ⟨rfl,((Up.refl _).alloc _).alloc _⟩
def shuffleR (e : Ev) : Ev := { e with fr := 0,ord := [] }
set_option maxRecDepth 100000 in
set_option maxHeartbeats 2000000 in
theorem shuffleRest_ (e : Ev) (oa : Option Addr) (on oc : Nat) (w : World) : Calls Tryz.prog 135 #[evv e (.slice oa on oc)] w fun x w'=>x = .returned (evv (shuffleR e) (.slice none 0 0)) /\ Up w w' := by
 unfold evv evc shuffleR
 go_enter Tryz.func135,Tryz.ntmps135
 go_wp2
 exact bodyPost_ret (v := evv (shuffleR e) (.slice none 0 0)) (by simp [results,Tryz.results135,go_sem,evv,evc,shuffleR]) rfl ⟨rfl,((Up.refl _).alloc _).alloc _⟩
def outR (e : Ev) : Ev := { e with player := 0 }
set_option maxRecDepth 100000 in
set_option maxHeartbeats 2000000 in
theorem outRest_ (e : Ev) (oa : Option Addr) (on oc : Nat) (w : World) : Calls Tryz.prog 140 #[evv e (.slice oa on oc)] w fun x w'=>x = .returned (evv (outR e) (.slice oa on oc)) /\ Up w w' := by
 unfold evv evc outR
 go_enter Tryz.func140,Tryz.ntmps140
 go_wp2
 exact bodyPost_ret (v := evv (outR e) (.slice oa on oc)) (by simp [results,Tryz.results140,go_sem,evv,evc,outR]) rfl ⟨rfl,((Up.refl _).alloc _).alloc _⟩
def turnR (e : Ev) : Ev := { e with player := 0,other := 0,was := 0,now := 0 }
set_option maxRecDepth 100000 in
set_option maxHeartbeats 2000000 in
theorem turnRest_ (e : Ev) (oa : Option Addr) (on oc : Nat) (w : World) : Calls Tryz.prog 146 #[evv e (.slice oa on oc)] w fun x w'=>x = .returned (evv (turnR e) (.slice oa on oc)) /\ Up w w' := by
 unfold evv evc turnR
 go_enter Tryz.func146,Tryz.ntmps146
 go_wp2
 exact bodyPost_ret (v := evv (turnR e) (.slice oa on oc)) (by simp [results,Tryz.results146,go_sem,evv,evc,turnR]) rfl ⟨rfl,((Up.refl _).alloc _).alloc _⟩
def endR (e : Ev) : Ev := { e with player := 0,now := 0 }
set_option maxRecDepth 100000 in
set_option maxHeartbeats 2000000 in
theorem endRest_ (e : Ev) (oa : Option Addr) (on oc : Nat) (w : World) : Calls Tryz.prog 152 #[evv e (.slice oa on oc)] w fun x w'=>x = .returned (evv (endR e) (.slice oa on oc)) /\ Up w w' := by
 unfold evv evc endR
 go_enter Tryz.func152,Tryz.ntmps152
 go_wp2
 exact bodyPost_ret (v := evv (endR e) (.slice oa on oc)) (by simp [results,Tryz.results152,go_sem,evv,evc,endR]) rfl ⟨rfl,((Up.refl _).alloc _).alloc _⟩
def turnedE (e : Ev) : Ev := { e with fr := e.to_,frAt := e.toAt,to_ := e.fr,toAt := e.frAt,was := e.now,now := e.was }
set_option maxRecDepth 100000 in
set_option maxHeartbeats 2000000 in
theorem turned_ (e : Ev) (oa : Option Addr) (on oc : Nat) (w : World) : Calls Tryz.prog 185 #[evv e (.slice oa on oc)] w fun x w'=>x = .returned (evv (turnedE e) (.slice oa on oc)) /\ Up w w' := by
 unfold evv evc turnedE
 go_enter Tryz.func185,Tryz.ntmps185
 go_wp2
 exact bodyPost_ret (v := evv (turnedE e) (.slice oa on oc)) (by simp [results,Tryz.results185,go_sem,evv,evc,turnedE]) rfl ⟨rfl,((Up.refl _).alloc _).alloc _⟩
end DE
end Go.Proofs.YtodhjjeagmjhdaaGreatDoor
