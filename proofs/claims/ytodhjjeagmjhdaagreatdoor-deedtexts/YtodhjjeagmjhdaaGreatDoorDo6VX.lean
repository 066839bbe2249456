/-
  A move taken back.
-/
import Derived.Test.YtodhjjeagmjhdaaGreatDoorDn6VX
namespace Go.Proofs.YtodhjjeagmjhdaaGreatDoor
open Go.RowKit
attribute [local go_sem ↓] Go.wp_at_zero Go.wp_at_succ
namespace DE
open Go.Proofs.YtodhjjeagmjhdaaGreatDoor.ST
set_option maxRecDepth 100000 in
set_option maxHeartbeats 4000000 in
theorem undoMove_ (B base b : Nat) (s : Stt) (e : Ev) (oa : Option Addr) (on oc : Nat) (w : World) (h : Own base w b s) (hB : B <= base) (hbs : base <= w.heap.size) (hb : B <= b) (i p j q : Nat) (hto : e.to_ = i) (hta : e.toAt = p) (hfr : e.fr = j) (hfa : e.frAt = q)
  (hi : i < s.zs.length) (hj : j < s.zs.length) (hp : p < (s.zs.getD i []).length) (hq : q <= ((s.zs.set i (cutL (s.zs.getD i []) p)).getD j []).length) (hz : (s.zs.getD i []).length <= 256) (hz2 : ((s.zs.set i (cutL (s.zs.getD i []) p)).getD j []).length <= 65536) :
  Calls Tryz.prog 121 #[.pointer (some ⟨b,0,none⟩),evv e (.slice oa on oc)] w fun x w'=>x = .returned (.tuple #[]) /\ Did B base b { s with zs := moveZ s.zs i p j q e.card } w w' := by
 have hsz : B <= w.heap.size := Nat.le_trans hb (Nat.le_of_lt h.lt)
 have HT : Hid _ := turned_ e oa on oc
 have HD : Hid (∀ W,Up w W -> _) := fun W u=>doMove_ B base b s (turnedE e) oa on oc W (h.up u) hB (Nat.le_trans hbs u.size) hb i p j q hto hta hfr hfa hi hj hp hq hz hz2
 have e1 : (turnedE e).card = e.card := rfl
 rw [e1] at HD
 generalize ({ s with zs := moveZ s.zs i p j q e.card } : Stt) = s' at *
 have HS : Hid (∀ W W',Up w W -> Did B base b s' W W' -> Did B base b s' w W') := fun W W' u hd=>did_from u hsz hd
 generalize evv (turnedE e) (.slice oa on oc) = te at *
 clear h hto hta hfr hfa hp hq hz hz2 e1
 unfold evv evc at *
 go_enter Tryz.func121,Tryz.ntmps121
 go_wp2_with fail
 refine Calls.mono (HT.out _) ?_
 rintro r W1 ⟨rfl,u1⟩
 have HU1 : Hid (Up w W1) := Up.trans ((Up.refl _).alloc _) u1
 clear u1
 go_wp2_with fail
 refine Calls.mono (HD.out _ HU1.out) ?_
 rintro r W2 ⟨rfl,d2⟩
 have HD2 : Hid _ := HS.out _ _ HU1.out d2
 clear d2
 go_wp2
 exact bodyPost_end (v := .tuple #[]) (by simp [results,go_sem]) rfl ⟨rfl,HD2.out⟩
end DE
end Go.Proofs.YtodhjjeagmjhdaaGreatDoor
