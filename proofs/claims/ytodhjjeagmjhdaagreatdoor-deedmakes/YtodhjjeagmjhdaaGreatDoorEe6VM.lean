/-
  Events: equal, copied, wide.
-/
import Derived.Test.YtodhjjeagmjhdaaGreatDoorWsTvEvM
import Derived.Test.YtodhjjeagmjhdaaGreatDoorPr6TvPw6M
import Derived.Test.YtodhjjeagmjhdaaGreatDoorUn6TvSpM
import Derived.Test.YtodhjjeagmjhdaaGreatDoorEl6TvDw6M
namespace Go.Proofs.YtodhjjeagmjhdaaGreatDoor
open Go.RowKit
attribute [local go_sem ↓] Go.wp_at_zero Go.wp_at_succ
namespace DE
open Go.Proofs.YtodhjjeagmjhdaaGreatDoor.ST
def eqE (a b : Ev) : Bool := decide (a.kind = b.kind) && decide (a.field = b.field) && decide (a.card = b.card) && decide (a.player = b.player) && decide (a.other = b.other) && decide (a.fr = b.fr) && decide (a.frAt = b.frAt) && decide (a.to_ = b.to_) && decide (a.toAt = b.toAt) && decide (a.was = b.was) && decide (a.now = b.now) && decide (a.ord = b.ord)
set_option maxRecDepth 100000 in
set_option maxHeartbeats 8000000 in
theorem eqEvent_ (a b : Ev) (va vb : Value) (w : World) (ha : IL w va a.ord) (hb : IL w vb b.ord) (hn : a.ord.length <= 4294967296) : Calls Tryz.prog 15 #[evv a va, evv b vb] w fun x w' => x = .returned (.bool (eqE a b)) /\ Up w w' := by
 have HI : Hid (∀ W, Up w W -> Calls Tryz.prog 33 #[va, vb] W fun e w' => e = .returned (.bool (decide (a.ord = b.ord))) /\ ∃ m, w' = W.drewN m) := fun W u => eqInts_ va vb a.ord b.ord W (ha.up u) (hb.up u) hn
 obtain ⟨oa, ka, rfl, -, -⟩ := il_at ha
 obtain ⟨ob, kb, rfl, -, -⟩ := il_at hb
 clear ha hb hn
 unfold evv evc eqE
 obtain ⟨a0, a1, a2, a3, a4, a5, a6, a7, a8, a9, a10, ao⟩ := a
 obtain ⟨b0, b1, b2, b3, b4, b5, b6, b7, b8, b9, b10, bo⟩ := b
 dsimp only at *
 generalize decide (ao = bo) = R at *
 generalize ao.length = na at *
 generalize bo.length = nb at *
 by_cases f0 : a0 = b0
 ·subst f0
  by_cases f1 : a1 = b1
  ·subst f1
   by_cases f2 : a2 = b2
   ·subst f2
    by_cases f3 : a3 = b3
    ·subst f3
     by_cases f4 : a4 = b4
     ·subst f4
      by_cases f5 : a5 = b5
      ·subst f5
       by_cases f6 : a6 = b6
       ·subst f6
        by_cases f7 : a7 = b7
        ·subst f7
         by_cases f8 : a8 = b8
         ·subst f8
          by_cases f9 : a9 = b9
          ·subst f9
           by_cases f10 : a10 = b10
           ·subst f10
            go_enter Tryz.func15, Tryz.ntmps15
            go_wp2_with fail
            refine Calls.mono (HI.out _ (((Up.refl _).alloc _).alloc _)) ?_
            rintro e w1 ⟨rfl, m, rfl⟩
            go_wp2
            go_ret
            exact ⟨by simp, (((Up.refl _).alloc _).alloc _).drewN _⟩
           ·have e9 : (a10 == b10) = false := beq_eq_false_iff_ne.2 f10
            clear HI
            go_enter Tryz.func15, Tryz.ntmps15
            go_wp2
            go_ret
            exact ⟨by simp [f10], ((Up.refl _).alloc _).alloc _⟩
          ·have e9 : (a9 == b9) = false := beq_eq_false_iff_ne.2 f9
           clear HI
           go_enter Tryz.func15, Tryz.ntmps15
           go_wp2
           go_ret
           exact ⟨by simp [f9], ((Up.refl _).alloc _).alloc _⟩
         ·have e9 : (a8 == b8) = false := beq_eq_false_iff_ne.2 f8
          clear HI
          go_enter Tryz.func15, Tryz.ntmps15
          go_wp2
          go_ret
          exact ⟨by simp [f8], ((Up.refl _).alloc _).alloc _⟩
        ·have e9 : (a7 == b7) = false := beq_eq_false_iff_ne.2 f7
         clear HI
         go_enter Tryz.func15, Tryz.ntmps15
         go_wp2
         go_ret
         exact ⟨by simp [f7], ((Up.refl _).alloc _).alloc _⟩
       ·have e9 : (a6 == b6) = false := beq_eq_false_iff_ne.2 f6
        clear HI
        go_enter Tryz.func15, Tryz.ntmps15
        go_wp2
        go_ret
        exact ⟨by simp [f6], ((Up.refl _).alloc _).alloc _⟩
      ·have e9 : (a5 == b5) = false := beq_eq_false_iff_ne.2 f5
       clear HI
       go_enter Tryz.func15, Tryz.ntmps15
       go_wp2
       go_ret
       exact ⟨by simp [f5], ((Up.refl _).alloc _).alloc _⟩
     ·have e9 : (a4 == b4) = false := beq_eq_false_iff_ne.2 f4
      clear HI
      go_enter Tryz.func15, Tryz.ntmps15
      go_wp2
      go_ret
      exact ⟨by simp [f4], ((Up.refl _).alloc _).alloc _⟩
    ·have e9 : (a3 == b3) = false := beq_eq_false_iff_ne.2 f3
     clear HI
     go_enter Tryz.func15, Tryz.ntmps15
     go_wp2
     go_ret
     exact ⟨by simp [f3], ((Up.refl _).alloc _).alloc _⟩
   ·have e9 : (a2 == b2) = false := beq_eq_false_iff_ne.2 f2
    clear HI
    go_enter Tryz.func15, Tryz.ntmps15
    go_wp2
    go_ret
    exact ⟨by simp [f2], ((Up.refl _).alloc _).alloc _⟩
  ·have e9 : (a1 == b1) = false := beq_eq_false_iff_ne.2 f1
   clear HI
   go_enter Tryz.func15, Tryz.ntmps15
   go_wp2
   go_ret
   exact ⟨by simp [f1], ((Up.refl _).alloc _).alloc _⟩
 ·have e9 : (a0 == b0) = false := beq_eq_false_iff_ne.2 f0
  clear HI
  go_enter Tryz.func15, Tryz.ntmps15
  go_wp2
  go_ret
  exact ⟨by simp [f0], ((Up.refl _).alloc _).alloc _⟩
end DE
end Go.Proofs.YtodhjjeagmjhdaaGreatDoor
