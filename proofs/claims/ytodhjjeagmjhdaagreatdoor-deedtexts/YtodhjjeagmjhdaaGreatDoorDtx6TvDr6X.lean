/- Dtx6, Kp6, Dr6 -/
import Derived.Test.YtodhjjeagmjhdaaGreatDoorBld6TvTxt6X
import Derived.Deep.RegionHeld
namespace Go.Proofs.YtodhjjeagmjhdaaGreatDoor
open Go.RowKit
attribute [local go_sem ↓] Go.wp_at_zero Go.wp_at_succ
namespace DE
open Go.Proofs.YtodhjjeagmjhdaaGreatDoor.ST
set_option maxRecDepth 100000 in
set_option maxHeartbeats 2000000 in
theorem rname_ (f : Int) (h : -128 <= f /\ f <= 127) (w : World) (hT : TabP w) : Calls Tryz.prog 96 #[.int .i8 f] w fun x w'=>x = .returned (.string ⟨(nmL f).toArray⟩) /\ Up w w' := by
 have HI : Hid _ := itoa_ f ⟨by omega,by omega⟩ w hT
 unfold nmL
 have h1 := h.1
 have h2 := h.2
 clear h hT
 by_cases c1 : f = 1
 ·subst c1
  clear HI
  go_enter Tryz.func96,Tryz.ntmps96
  go_wp2
  go_ret
  exact ⟨ret_str (by simp),Up.refl _⟩
 rw [if_neg c1]
 have b1 : (f == 1) = false := beq_eq_false_iff_ne.2 c1
 by_cases c2 : f = 2
 ·subst c2
  clear HI
  go_enter Tryz.func96,Tryz.ntmps96
  go_wp2
  go_ret
  exact ⟨ret_str (by simp),Up.refl _⟩
 rw [if_neg c2]
 have b2 : (f == 2) = false := beq_eq_false_iff_ne.2 c2
 by_cases c3 : f = 3
 ·subst c3
  clear HI
  go_enter Tryz.func96,Tryz.ntmps96
  go_wp2
  go_ret
  exact ⟨ret_str (by simp),Up.refl _⟩
 rw [if_neg c3]
 have b3 : (f == 3) = false := beq_eq_false_iff_ne.2 c3
 by_cases c4 : f = 4
 ·subst c4
  clear HI
  go_enter Tryz.func96,Tryz.ntmps96
  go_wp2
  go_ret
  exact ⟨ret_str (by simp),Up.refl _⟩
 rw [if_neg c4]
 have b4 : (f == 4) = false := beq_eq_false_iff_ne.2 c4
 by_cases c5 : f = 5
 ·subst c5
  clear HI
  go_enter Tryz.func96,Tryz.ntmps96
  go_wp2
  go_ret
  exact ⟨ret_str (by simp),Up.refl _⟩
 rw [if_neg c5]
 have b5 : (f == 5) = false := beq_eq_false_iff_ne.2 c5
 by_cases c6 : f = 6
 ·subst c6
  clear HI
  go_enter Tryz.func96,Tryz.ntmps96
  go_wp2
  go_ret
  exact ⟨ret_str (by simp),Up.refl _⟩
 rw [if_neg c6]
 have b6 : (f == 6) = false := beq_eq_false_iff_ne.2 c6
 generalize Lib.itoa f = l at *
 go_enter Tryz.func96,Tryz.ntmps96
 go_wp2_with fail
 refine Calls.mono HI.out ?_
 rintro r W1 ⟨rfl,u1⟩
 have HU : Hid _ := u1
 clear u1
 go_wp2
 go_ret
 exact ⟨rfl,HU.out⟩
set_option maxRecDepth 100000 in
set_option maxHeartbeats 4000000 in
theorem rtext_move (e : Ev) (oa : Option Addr) (oc : Nat) (w : World) (hT : TabP w) (hw : EvW e) (hk : e.kind = 1) : Calls Tryz.prog 38 #[.agg #[.int .i8 e.kind,.int .i8 e.field,.int .i64 e.card,.int .i64 e.player,.int .i64 e.other,.int .i64 e.fr,.int .i64 e.frAt,.int .i64 e.to_,.int .i64 e.toAt,.int .i32 e.was,.int .i32 e.now,.slice oa e.ord.length oc]] w fun x w'=>x = .returned (.string ⟨(moveL e).toArray⟩) /\ Up w w' := by
 obtain ⟨W0,hW0⟩ : ∃ W0,w.alloc (.cells #[.int .i8 e.kind,.int .i8 e.field,.int .i64 e.card,.int .i64 e.player,.int .i64 e.other,.int .i64 e.fr,.int .i64 e.frAt,.int .i64 e.to_,.int .i64 e.toAt,.int .i32 e.was,.int .i32 e.now,.slice oa e.ord.length oc] 30) = W0 := ⟨_,rfl⟩
 have g0 : W0.heap[w.heap.size]? = some (.cells #[.int .i8 e.kind,.int .i8 e.field,.int .i64 e.card,.int .i64 e.player,.int .i64 e.other,.int .i64 e.fr,.int .i64 e.frAt,.int .i64 e.to_,.int .i64 e.toAt,.int .i32 e.was,.int .i32 e.now,.slice oa e.ord.length oc] 30 (0,0)) := by rw [<- hW0]; exact heap_alloc_new _ _
 have u0 : Up w W0 := by rw [<- hW0]; exact (Up.refl _).alloc _
 have ne : Nonempty (UW W0) := ⟨⟨W0,Up.refl _⟩⟩
 have mk : ∀ {f : Nat} {args : Array Value} {Rv : Value} (U : UW W0),Calls Tryz.prog f args U.W (fun e w'=>e = .returned Rv /\ Up U.W w') -> Calls Tryz.prog f args U.W (fun e w'=>e = .returned Rv /\ ∃ V : UW W0,w' = V.W) := fun U h=>h.mono fun e w' ⟨h1,h2⟩=>⟨h1,⟨w',U.up.trans h2⟩,rfl⟩
 have HC0 : Hid (∀ U : UW W0,Calls Tryz.prog 95 #[.int .i64 e.card] U.W fun x w'=>x = .returned (.string ⟨(Lib.itoa e.card).toArray⟩) /\ ∃ V : UW W0,w' = V.W) := fun U=>mk U (itoa_ e.card ⟨by have := hw.card.1; omega,by have := hw.card.2; omega⟩ U.W (hT.up (u0.trans U.up)))
 have hl0 := Lib.itoa_length_le e.card (by have := hw.card.1; omega) (by have := hw.card.2; omega)
 have HC1 : Hid (∀ U : UW W0,Calls Tryz.prog 95 #[.int .i64 e.fr] U.W fun x w'=>x = .returned (.string ⟨(Lib.itoa e.fr).toArray⟩) /\ ∃ V : UW W0,w' = V.W) := fun U=>mk U (itoa_ e.fr ⟨by have := hw.fr.1; omega,by have := hw.fr.2; omega⟩ U.W (hT.up (u0.trans U.up)))
 have hl1 := Lib.itoa_length_le e.fr (by have := hw.fr.1; omega) (by have := hw.fr.2; omega)
 have HC2 : Hid (∀ U : UW W0,Calls Tryz.prog 95 #[.int .i64 e.frAt] U.W fun x w'=>x = .returned (.string ⟨(Lib.itoa e.frAt).toArray⟩) /\ ∃ V : UW W0,w' = V.W) := fun U=>mk U (itoa_ e.frAt ⟨by have := hw.frAt.1; omega,by have := hw.frAt.2; omega⟩ U.W (hT.up (u0.trans U.up)))
 have hl2 := Lib.itoa_length_le e.frAt (by have := hw.frAt.1; omega) (by have := hw.frAt.2; omega)
 have HC3 : Hid (∀ U : UW W0,Calls Tryz.prog 95 #[.int .i64 e.to_] U.W fun x w'=>x = .returned (.string ⟨(Lib.itoa e.to_).toArray⟩) /\ ∃ V : UW W0,w' = V.W) := fun U=>mk U (itoa_ e.to_ ⟨by have := hw.to_.1; omega,by have := hw.to_.2; omega⟩ U.W (hT.up (u0.trans U.up)))
 have hl3 := Lib.itoa_length_le e.to_ (by have := hw.to_.1; omega) (by have := hw.to_.2; omega)
 have HC4 : Hid (∀ U : UW W0,Calls Tryz.prog 95 #[.int .i64 e.toAt] U.W fun x w'=>x = .returned (.string ⟨(Lib.itoa e.toAt).toArray⟩) /\ ∃ V : UW W0,w' = V.W) := fun U=>mk U (itoa_ e.toAt ⟨by have := hw.toAt.1; omega,by have := hw.toAt.2; omega⟩ U.W (hT.up (u0.trans U.up)))
 have hl4 := Lib.itoa_length_le e.toAt (by have := hw.toAt.1; omega) (by have := hw.toAt.2; omega)
 have e0 : ∀ U : UW W0,U.W.cell? ⟨w.heap.size,0,none⟩ = some (.int .i8 e.kind) := fun U=>by rw [World.cell?,U.up.heap g0]; rfl
 have e1 : ∀ U : UW W0,U.W.cell? ⟨w.heap.size,1,none⟩ = some (.int .i8 e.field) := fun U=>by rw [World.cell?,U.up.heap g0]; rfl
 have e2 : ∀ U : UW W0,U.W.cell? ⟨w.heap.size,2,none⟩ = some (.int .i64 e.card) := fun U=>by rw [World.cell?,U.up.heap g0]; rfl
 have e3 : ∀ U : UW W0,U.W.cell? ⟨w.heap.size,3,none⟩ = some (.int .i64 e.player) := fun U=>by rw [World.cell?,U.up.heap g0]; rfl
 have e4 : ∀ U : UW W0,U.W.cell? ⟨w.heap.size,4,none⟩ = some (.int .i64 e.other) := fun U=>by rw [World.cell?,U.up.heap g0]; rfl
 have e5 : ∀ U : UW W0,U.W.cell? ⟨w.heap.size,5,none⟩ = some (.int .i64 e.fr) := fun U=>by rw [World.cell?,U.up.heap g0]; rfl
 have e6 : ∀ U : UW W0,U.W.cell? ⟨w.heap.size,6,none⟩ = some (.int .i64 e.frAt) := fun U=>by rw [World.cell?,U.up.heap g0]; rfl
 have e7 : ∀ U : UW W0,U.W.cell? ⟨w.heap.size,7,none⟩ = some (.int .i64 e.to_) := fun U=>by rw [World.cell?,U.up.heap g0]; rfl
 have e8 : ∀ U : UW W0,U.W.cell? ⟨w.heap.size,8,none⟩ = some (.int .i64 e.toAt) := fun U=>by rw [World.cell?,U.up.heap g0]; rfl
 have e9 : ∀ U : UW W0,U.W.cell? ⟨w.heap.size,9,none⟩ = some (.int .i32 e.was) := fun U=>by rw [World.cell?,U.up.heap g0]; rfl
 have e10 : ∀ U : UW W0,U.W.cell? ⟨w.heap.size,10,none⟩ = some (.int .i32 e.now) := fun U=>by rw [World.cell?,U.up.heap g0]; rfl
 have e11 : ∀ U : UW W0,U.W.cell? ⟨w.heap.size,11,none⟩ = some (.slice oa e.ord.length oc) := fun U=>by rw [World.cell?,U.up.heap g0]; rfl
 have HU0 : Hid _ := u0
 clear mk hT hw g0 u0
 unfold moveL
 generalize Lib.itoa e.card = l0 at *
 generalize Lib.itoa e.fr = l1 at *
 generalize Lib.itoa e.frAt = l2 at *
 generalize Lib.itoa e.to_ = l3 at *
 generalize Lib.itoa e.toAt = l4 at *
 rw [hk] at e0 hW0 ⊢
 clear hk
 have c0 : W0.cell? ⟨w.heap.size,0,none⟩ = some (.int .i8 1) := e0 ⟨W0,Up.refl _⟩
 go_enter Tryz.func38,Tryz.ntmps38
 go_wp2_with fail
 try rw [hW0]
 clear hW0 c0
 refine TailR.wp_region_seqC 24 (fun w'=>∃ U : UW W0,w' = U.W) ⟨⟨_,(Up.refl _).drewN 1⟩,rfl⟩ (by kernel_rfl) (by kernel_rfl) ?_
 simp only [List.take_succ_cons,List.take_zero,List.drop_succ_cons,List.drop_zero]
 repeat (go_big_quiet_step (first | with_reducible exact HC0.out _ | with_reducible exact HC1.out _ | with_reducible exact HC2.out _ | with_reducible exact HC3.out _ | with_reducible exact HC4.out _))
 refine wpQuiet_nil ?_
 intro _ hw'
 obtain ⟨U,hw''⟩ := hw'
 subst hw''
 have HUU : Hid (Up w U.W) := Up.trans HU0.out U.up
 clear e0 e1 e2 e3 e4 e5 e6 e7 e8 e9 e10 e11 HU0
 generalize U.W = V at *
 go_wp2
 go_ret
 exact ⟨ret_str (by simp),HUU.out⟩
set_option maxRecDepth 100000 in
set_option maxHeartbeats 4000000 in
theorem rtext_card (e : Ev) (oa : Option Addr) (oc : Nat) (w : World) (hT : TabP w) (hw : EvW e) (hk : e.kind = 2) : Calls Tryz.prog 38 #[.agg #[.int .i8 e.kind,.int .i8 e.field,.int .i64 e.card,.int .i64 e.player,.int .i64 e.other,.int .i64 e.fr,.int .i64 e.frAt,.int .i64 e.to_,.int .i64 e.toAt,.int .i32 e.was,.int .i32 e.now,.slice oa e.ord.length oc]] w fun x w'=>x = .returned (.string ⟨(cardL e).toArray⟩) /\ Up w w' := by
 obtain ⟨W0,hW0⟩ : ∃ W0,w.alloc (.cells #[.int .i8 e.kind,.int .i8 e.field,.int .i64 e.card,.int .i64 e.player,.int .i64 e.other,.int .i64 e.fr,.int .i64 e.frAt,.int .i64 e.to_,.int .i64 e.toAt,.int .i32 e.was,.int .i32 e.now,.slice oa e.ord.length oc] 30) = W0 := ⟨_,rfl⟩
 have g0 : W0.heap[w.heap.size]? = some (.cells #[.int .i8 e.kind,.int .i8 e.field,.int .i64 e.card,.int .i64 e.player,.int .i64 e.other,.int .i64 e.fr,.int .i64 e.frAt,.int .i64 e.to_,.int .i64 e.toAt,.int .i32 e.was,.int .i32 e.now,.slice oa e.ord.length oc] 30 (0,0)) := by rw [<- hW0]; exact heap_alloc_new _ _
 have u0 : Up w W0 := by rw [<- hW0]; exact (Up.refl _).alloc _
 have ne : Nonempty (UW W0) := ⟨⟨W0,Up.refl _⟩⟩
 have mk : ∀ {f : Nat} {args : Array Value} {Rv : Value} (U : UW W0),Calls Tryz.prog f args U.W (fun e w'=>e = .returned Rv /\ Up U.W w') -> Calls Tryz.prog f args U.W (fun e w'=>e = .returned Rv /\ ∃ V : UW W0,w' = V.W) := fun U h=>h.mono fun e w' ⟨h1,h2⟩=>⟨h1,⟨w',U.up.trans h2⟩,rfl⟩
 have HC0 : Hid (∀ U : UW W0,Calls Tryz.prog 95 #[.int .i64 e.card] U.W fun x w'=>x = .returned (.string ⟨(Lib.itoa e.card).toArray⟩) /\ ∃ V : UW W0,w' = V.W) := fun U=>mk U (itoa_ e.card ⟨by have := hw.card.1; omega,by have := hw.card.2; omega⟩ U.W (hT.up (u0.trans U.up)))
 have hl0 := Lib.itoa_length_le e.card (by have := hw.card.1; omega) (by have := hw.card.2; omega)
 have HC1 : Hid (∀ U : UW W0,Calls Tryz.prog 95 #[.int .i64 e.was] U.W fun x w'=>x = .returned (.string ⟨(Lib.itoa e.was).toArray⟩) /\ ∃ V : UW W0,w' = V.W) := fun U=>mk U (itoa_ e.was ⟨by have := hw.was.1; omega,by have := hw.was.2; omega⟩ U.W (hT.up (u0.trans U.up)))
 have hl1 := Lib.itoa_length_le e.was (by have := hw.was.1; omega) (by have := hw.was.2; omega)
 have HC2 : Hid (∀ U : UW W0,Calls Tryz.prog 95 #[.int .i64 e.now] U.W fun x w'=>x = .returned (.string ⟨(Lib.itoa e.now).toArray⟩) /\ ∃ V : UW W0,w' = V.W) := fun U=>mk U (itoa_ e.now ⟨by have := hw.now.1; omega,by have := hw.now.2; omega⟩ U.W (hT.up (u0.trans U.up)))
 have hl2 := Lib.itoa_length_le e.now (by have := hw.now.1; omega) (by have := hw.now.2; omega)
 have HC3 : Hid (∀ U : UW W0,Calls Tryz.prog 96 #[.int .i8 e.field] U.W fun x w'=>x = .returned (.string ⟨(nmL e.field).toArray⟩) /\ ∃ V : UW W0,w' = V.W) := fun U=>mk U (rname_ e.field hw.field U.W (hT.up (u0.trans U.up)))
 have hl3 := nmL_le hw.field
 have hb1 := hw.was.1
 have hc1 := hw.was.2
 have hb2 := hw.now.1
 have hc2 := hw.now.2
 have e0 : ∀ U : UW W0,U.W.cell? ⟨w.heap.size,0,none⟩ = some (.int .i8 e.kind) := fun U=>by rw [World.cell?,U.up.heap g0]; rfl
 have e1 : ∀ U : UW W0,U.W.cell? ⟨w.heap.size,1,none⟩ = some (.int .i8 e.field) := fun U=>by rw [World.cell?,U.up.heap g0]; rfl
 have e2 : ∀ U : UW W0,U.W.cell? ⟨w.heap.size,2,none⟩ = some (.int .i64 e.card) := fun U=>by rw [World.cell?,U.up.heap g0]; rfl
 have e3 : ∀ U : UW W0,U.W.cell? ⟨w.heap.size,3,none⟩ = some (.int .i64 e.player) := fun U=>by rw [World.cell?,U.up.heap g0]; rfl
 have e4 : ∀ U : UW W0,U.W.cell? ⟨w.heap.size,4,none⟩ = some (.int .i64 e.other) := fun U=>by rw [World.cell?,U.up.heap g0]; rfl
 have e5 : ∀ U : UW W0,U.W.cell? ⟨w.heap.size,5,none⟩ = some (.int .i64 e.fr) := fun U=>by rw [World.cell?,U.up.heap g0]; rfl
 have e6 : ∀ U : UW W0,U.W.cell? ⟨w.heap.size,6,none⟩ = some (.int .i64 e.frAt) := fun U=>by rw [World.cell?,U.up.heap g0]; rfl
 have e7 : ∀ U : UW W0,U.W.cell? ⟨w.heap.size,7,none⟩ = some (.int .i64 e.to_) := fun U=>by rw [World.cell?,U.up.heap g0]; rfl
 have e8 : ∀ U : UW W0,U.W.cell? ⟨w.heap.size,8,none⟩ = some (.int .i64 e.toAt) := fun U=>by rw [World.cell?,U.up.heap g0]; rfl
 have e9 : ∀ U : UW W0,U.W.cell? ⟨w.heap.size,9,none⟩ = some (.int .i32 e.was) := fun U=>by rw [World.cell?,U.up.heap g0]; rfl
 have e10 : ∀ U : UW W0,U.W.cell? ⟨w.heap.size,10,none⟩ = some (.int .i32 e.now) := fun U=>by rw [World.cell?,U.up.heap g0]; rfl
 have e11 : ∀ U : UW W0,U.W.cell? ⟨w.heap.size,11,none⟩ = some (.slice oa e.ord.length oc) := fun U=>by rw [World.cell?,U.up.heap g0]; rfl
 have HU0 : Hid _ := u0
 clear mk hT hw g0 u0
 unfold cardL changeL
 generalize Lib.itoa e.card = l0 at *
 generalize Lib.itoa e.was = l1 at *
 generalize Lib.itoa e.now = l2 at *
 generalize nmL e.field = l3 at *
 rw [hk] at e0 hW0 ⊢
 clear hk
 have c0 : W0.cell? ⟨w.heap.size,0,none⟩ = some (.int .i8 2) := e0 ⟨W0,Up.refl _⟩
 go_enter Tryz.func38,Tryz.ntmps38
 go_wp2_with fail
 try rw [hW0]
 clear hW0 c0
 refine TailR.wp_region_seqC 21 (fun w'=>∃ U : UW W0,w' = U.W) ⟨⟨_,(Up.refl _).drewN 1⟩,rfl⟩ (by kernel_rfl) (by kernel_rfl) ?_
 simp only [List.take_succ_cons,List.take_zero,List.drop_succ_cons,List.drop_zero]
 repeat (go_big_quiet_step (first | with_reducible exact HC0.out _ | with_reducible exact HC1.out _ | with_reducible exact HC2.out _ | with_reducible exact HC3.out _))
 refine wpQuiet_nil ?_
 intro _ hw'
 obtain ⟨U,hw''⟩ := hw'
 subst hw''
 have HUU : Hid (Up w U.W) := Up.trans HU0.out U.up
 clear e0 e1 e2 e3 e4 e5 e6 e7 e8 e9 e10 e11 HU0
 generalize U.W = V at *
 go_wp2
 go_ret
 exact ⟨ret_str (by simp),HUU.out⟩
set_option maxRecDepth 100000 in
set_option maxHeartbeats 4000000 in
theorem rtext_player (e : Ev) (oa : Option Addr) (oc : Nat) (w : World) (hT : TabP w) (hw : EvW e) (hk : e.kind = 3) : Calls Tryz.prog 38 #[.agg #[.int .i8 e.kind,.int .i8 e.field,.int .i64 e.card,.int .i64 e.player,.int .i64 e.other,.int .i64 e.fr,.int .i64 e.frAt,.int .i64 e.to_,.int .i64 e.toAt,.int .i32 e.was,.int .i32 e.now,.slice oa e.ord.length oc]] w fun x w'=>x = .returned (.string ⟨(playerL e).toArray⟩) /\ Up w w' := by
 obtain ⟨W0,hW0⟩ : ∃ W0,w.alloc (.cells #[.int .i8 e.kind,.int .i8 e.field,.int .i64 e.card,.int .i64 e.player,.int .i64 e.other,.int .i64 e.fr,.int .i64 e.frAt,.int .i64 e.to_,.int .i64 e.toAt,.int .i32 e.was,.int .i32 e.now,.slice oa e.ord.length oc] 30) = W0 := ⟨_,rfl⟩
 have g0 : W0.heap[w.heap.size]? = some (.cells #[.int .i8 e.kind,.int .i8 e.field,.int .i64 e.card,.int .i64 e.player,.int .i64 e.other,.int .i64 e.fr,.int .i64 e.frAt,.int .i64 e.to_,.int .i64 e.toAt,.int .i32 e.was,.int .i32 e.now,.slice oa e.ord.length oc] 30 (0,0)) := by rw [<- hW0]; exact heap_alloc_new _ _
 have u0 : Up w W0 := by rw [<- hW0]; exact (Up.refl _).alloc _
 have ne : Nonempty (UW W0) := ⟨⟨W0,Up.refl _⟩⟩
 have mk : ∀ {f : Nat} {args : Array Value} {Rv : Value} (U : UW W0),Calls Tryz.prog f args U.W (fun e w'=>e = .returned Rv /\ Up U.W w') -> Calls Tryz.prog f args U.W (fun e w'=>e = .returned Rv /\ ∃ V : UW W0,w' = V.W) := fun U h=>h.mono fun e w' ⟨h1,h2⟩=>⟨h1,⟨w',U.up.trans h2⟩,rfl⟩
 have HC0 : Hid (∀ U : UW W0,Calls Tryz.prog 95 #[.int .i64 e.player] U.W fun x w'=>x = .returned (.string ⟨(Lib.itoa e.player).toArray⟩) /\ ∃ V : UW W0,w' = V.W) := fun U=>mk U (itoa_ e.player ⟨by have := hw.player.1; omega,by have := hw.player.2; omega⟩ U.W (hT.up (u0.trans U.up)))
 have hl0 := Lib.itoa_length_le e.player (by have := hw.player.1; omega) (by have := hw.player.2; omega)
 have HC1 : Hid (∀ U : UW W0,Calls Tryz.prog 95 #[.int .i64 e.was] U.W fun x w'=>x = .returned (.string ⟨(Lib.itoa e.was).toArray⟩) /\ ∃ V : UW W0,w' = V.W) := fun U=>mk U (itoa_ e.was ⟨by have := hw.was.1; omega,by have := hw.was.2; omega⟩ U.W (hT.up (u0.trans U.up)))
 have hl1 := Lib.itoa_length_le e.was (by have := hw.was.1; omega) (by have := hw.was.2; omega)
 have HC2 : Hid (∀ U : UW W0,Calls Tryz.prog 95 #[.int .i64 e.now] U.W fun x w'=>x = .returned (.string ⟨(Lib.itoa e.now).toArray⟩) /\ ∃ V : UW W0,w' = V.W) := fun U=>mk U (itoa_ e.now ⟨by have := hw.now.1; omega,by have := hw.now.2; omega⟩ U.W (hT.up (u0.trans U.up)))
 have hl2 := Lib.itoa_length_le e.now (by have := hw.now.1; omega) (by have := hw.now.2; omega)
 have HC3 : Hid (∀ U : UW W0,Calls Tryz.prog 96 #[.int .i8 e.field] U.W fun x w'=>x = .returned (.string ⟨(nmL e.field).toArray⟩) /\ ∃ V : UW W0,w' = V.W) := fun U=>mk U (rname_ e.field hw.field U.W (hT.up (u0.trans U.up)))
 have hl3 := nmL_le hw.field
 have hb1 := hw.was.1
 have hc1 := hw.was.2
 have hb2 := hw.now.1
 have hc2 := hw.now.2
 have e0 : ∀ U : UW W0,U.W.cell? ⟨w.heap.size,0,none⟩ = some (.int .i8 e.kind) := fun U=>by rw [World.cell?,U.up.heap g0]; rfl
 have e1 : ∀ U : UW W0,U.W.cell? ⟨w.heap.size,1,none⟩ = some (.int .i8 e.field) := fun U=>by rw [World.cell?,U.up.heap g0]; rfl
 have e2 : ∀ U : UW W0,U.W.cell? ⟨w.heap.size,2,none⟩ = some (.int .i64 e.card) := fun U=>by rw [World.cell?,U.up.heap g0]; rfl
 have e3 : ∀ U : UW W0,U.W.cell? ⟨w.heap.size,3,none⟩ = some (.int .i64 e.player) := fun U=>by rw [World.cell?,U.up.heap g0]; rfl
 have e4 : ∀ U : UW W0,U.W.cell? ⟨w.heap.size,4,none⟩ = some (.int .i64 e.other) := fun U=>by rw [World.cell?,U.up.heap g0]; rfl
 have e5 : ∀ U : UW W0,U.W.cell? ⟨w.heap.size,5,none⟩ = some (.int .i64 e.fr) := fun U=>by rw [World.cell?,U.up.heap g0]; rfl
 have e6 : ∀ U : UW W0,U.W.cell? ⟨w.heap.size,6,none⟩ = some (.int .i64 e.frAt) := fun U=>by rw [World.cell?,U.up.heap g0]; rfl
 have e7 : ∀ U : UW W0,U.W.cell? ⟨w.heap.size,7,none⟩ = some (.int .i64 e.to_) := fun U=>by rw [World.cell?,U.up.heap g0]; rfl
 have e8 : ∀ U : UW W0,U.W.cell? ⟨w.heap.size,8,none⟩ = some (.int .i64 e.toAt) := fun U=>by rw [World.cell?,U.up.heap g0]; rfl
 have e9 : ∀ U : UW W0,U.W.cell? ⟨w.heap.size,9,none⟩ = some (.int .i32 e.was) := fun U=>by rw [World.cell?,U.up.heap g0]; rfl
 have e10 : ∀ U : UW W0,U.W.cell? ⟨w.heap.size,10,none⟩ = some (.int .i32 e.now) := fun U=>by rw [World.cell?,U.up.heap g0]; rfl
 have e11 : ∀ U : UW W0,U.W.cell? ⟨w.heap.size,11,none⟩ = some (.slice oa e.ord.length oc) := fun U=>by rw [World.cell?,U.up.heap g0]; rfl
 have HU0 : Hid _ := u0
 clear mk hT hw g0 u0
 unfold playerL changeL
 generalize Lib.itoa e.player = l0 at *
 generalize Lib.itoa e.was = l1 at *
 generalize Lib.itoa e.now = l2 at *
 generalize nmL e.field = l3 at *
 rw [hk] at e0 hW0 ⊢
 clear hk
 have c0 : W0.cell? ⟨w.heap.size,0,none⟩ = some (.int .i8 3) := e0 ⟨W0,Up.refl _⟩
 go_enter Tryz.func38,Tryz.ntmps38
 go_wp2_with fail
 try rw [hW0]
 clear hW0 c0
 refine TailR.wp_region_seqC 21 (fun w'=>∃ U : UW W0,w' = U.W) ⟨⟨_,(Up.refl _).drewN 1⟩,rfl⟩ (by kernel_rfl) (by kernel_rfl) ?_
 simp only [List.take_succ_cons,List.take_zero,List.drop_succ_cons,List.drop_zero]
 repeat (go_big_quiet_step (first | with_reducible exact HC0.out _ | with_reducible exact HC1.out _ | with_reducible exact HC2.out _ | with_reducible exact HC3.out _))
 refine wpQuiet_nil ?_
 intro _ hw'
 obtain ⟨U,hw''⟩ := hw'
 subst hw''
 have HUU : Hid (Up w U.W) := Up.trans HU0.out U.up
 clear e0 e1 e2 e3 e4 e5 e6 e7 e8 e9 e10 e11 HU0
 generalize U.W = V at *
 go_wp2
 go_ret
 exact ⟨ret_str (by simp),HUU.out⟩
set_option maxRecDepth 100000 in
set_option maxHeartbeats 4000000 in
theorem rtext_turn (e : Ev) (oa : Option Addr) (oc : Nat) (w : World) (hT : TabP w) (hw : EvW e) (hk : e.kind = 6) : Calls Tryz.prog 38 #[.agg #[.int .i8 e.kind,.int .i8 e.field,.int .i64 e.card,.int .i64 e.player,.int .i64 e.other,.int .i64 e.fr,.int .i64 e.frAt,.int .i64 e.to_,.int .i64 e.toAt,.int .i32 e.was,.int .i32 e.now,.slice oa e.ord.length oc]] w fun x w'=>x = .returned (.string ⟨(turnL e).toArray⟩) /\ Up w w' := by
 obtain ⟨W0,hW0⟩ : ∃ W0,w.alloc (.cells #[.int .i8 e.kind,.int .i8 e.field,.int .i64 e.card,.int .i64 e.player,.int .i64 e.other,.int .i64 e.fr,.int .i64 e.frAt,.int .i64 e.to_,.int .i64 e.toAt,.int .i32 e.was,.int .i32 e.now,.slice oa e.ord.length oc] 30) = W0 := ⟨_,rfl⟩
 have g0 : W0.heap[w.heap.size]? = some (.cells #[.int .i8 e.kind,.int .i8 e.field,.int .i64 e.card,.int .i64 e.player,.int .i64 e.other,.int .i64 e.fr,.int .i64 e.frAt,.int .i64 e.to_,.int .i64 e.toAt,.int .i32 e.was,.int .i32 e.now,.slice oa e.ord.length oc] 30 (0,0)) := by rw [<- hW0]; exact heap_alloc_new _ _
 have u0 : Up w W0 := by rw [<- hW0]; exact (Up.refl _).alloc _
 have ne : Nonempty (UW W0) := ⟨⟨W0,Up.refl _⟩⟩
 have mk : ∀ {f : Nat} {args : Array Value} {Rv : Value} (U : UW W0),Calls Tryz.prog f args U.W (fun e w'=>e = .returned Rv /\ Up U.W w') -> Calls Tryz.prog f args U.W (fun e w'=>e = .returned Rv /\ ∃ V : UW W0,w' = V.W) := fun U h=>h.mono fun e w' ⟨h1,h2⟩=>⟨h1,⟨w',U.up.trans h2⟩,rfl⟩
 have HC0 : Hid (∀ U : UW W0,Calls Tryz.prog 95 #[.int .i64 e.was] U.W fun x w'=>x = .returned (.string ⟨(Lib.itoa e.was).toArray⟩) /\ ∃ V : UW W0,w' = V.W) := fun U=>mk U (itoa_ e.was ⟨by have := hw.was.1; omega,by have := hw.was.2; omega⟩ U.W (hT.up (u0.trans U.up)))
 have hl0 := Lib.itoa_length_le e.was (by have := hw.was.1; omega) (by have := hw.was.2; omega)
 have HC1 : Hid (∀ U : UW W0,Calls Tryz.prog 95 #[.int .i64 e.player] U.W fun x w'=>x = .returned (.string ⟨(Lib.itoa e.player).toArray⟩) /\ ∃ V : UW W0,w' = V.W) := fun U=>mk U (itoa_ e.player ⟨by have := hw.player.1; omega,by have := hw.player.2; omega⟩ U.W (hT.up (u0.trans U.up)))
 have hl1 := Lib.itoa_length_le e.player (by have := hw.player.1; omega) (by have := hw.player.2; omega)
 have HC2 : Hid (∀ U : UW W0,Calls Tryz.prog 95 #[.int .i64 e.now] U.W fun x w'=>x = .returned (.string ⟨(Lib.itoa e.now).toArray⟩) /\ ∃ V : UW W0,w' = V.W) := fun U=>mk U (itoa_ e.now ⟨by have := hw.now.1; omega,by have := hw.now.2; omega⟩ U.W (hT.up (u0.trans U.up)))
 have hl2 := Lib.itoa_length_le e.now (by have := hw.now.1; omega) (by have := hw.now.2; omega)
 have HC3 : Hid (∀ U : UW W0,Calls Tryz.prog 95 #[.int .i64 e.other] U.W fun x w'=>x = .returned (.string ⟨(Lib.itoa e.other).toArray⟩) /\ ∃ V : UW W0,w' = V.W) := fun U=>mk U (itoa_ e.other ⟨by have := hw.other.1; omega,by have := hw.other.2; omega⟩ U.W (hT.up (u0.trans U.up)))
 have hl3 := Lib.itoa_length_le e.other (by have := hw.other.1; omega) (by have := hw.other.2; omega)
 have hb0 := hw.was.1
 have hc0 := hw.was.2
 have hb2 := hw.now.1
 have hc2 := hw.now.2
 have e0 : ∀ U : UW W0,U.W.cell? ⟨w.heap.size,0,none⟩ = some (.int .i8 e.kind) := fun U=>by rw [World.cell?,U.up.heap g0]; rfl
 have e1 : ∀ U : UW W0,U.W.cell? ⟨w.heap.size,1,none⟩ = some (.int .i8 e.field) := fun U=>by rw [World.cell?,U.up.heap g0]; rfl
 have e2 : ∀ U : UW W0,U.W.cell? ⟨w.heap.size,2,none⟩ = some (.int .i64 e.card) := fun U=>by rw [World.cell?,U.up.heap g0]; rfl
 have e3 : ∀ U : UW W0,U.W.cell? ⟨w.heap.size,3,none⟩ = some (.int .i64 e.player) := fun U=>by rw [World.cell?,U.up.heap g0]; rfl
 have e4 : ∀ U : UW W0,U.W.cell? ⟨w.heap.size,4,none⟩ = some (.int .i64 e.other) := fun U=>by rw [World.cell?,U.up.heap g0]; rfl
 have e5 : ∀ U : UW W0,U.W.cell? ⟨w.heap.size,5,none⟩ = some (.int .i64 e.fr) := fun U=>by rw [World.cell?,U.up.heap g0]; rfl
 have e6 : ∀ U : UW W0,U.W.cell? ⟨w.heap.size,6,none⟩ = some (.int .i64 e.frAt) := fun U=>by rw [World.cell?,U.up.heap g0]; rfl
 have e7 : ∀ U : UW W0,U.W.cell? ⟨w.heap.size,7,none⟩ = some (.int .i64 e.to_) := fun U=>by rw [World.cell?,U.up.heap g0]; rfl
 have e8 : ∀ U : UW W0,U.W.cell? ⟨w.heap.size,8,none⟩ = some (.int .i64 e.toAt) := fun U=>by rw [World.cell?,U.up.heap g0]; rfl
 have e9 : ∀ U : UW W0,U.W.cell? ⟨w.heap.size,9,none⟩ = some (.int .i32 e.was) := fun U=>by rw [World.cell?,U.up.heap g0]; rfl
 have e10 : ∀ U : UW W0,U.W.cell? ⟨w.heap.size,10,none⟩ = some (.int .i32 e.now) := fun U=>by rw [World.cell?,U.up.heap g0]; rfl
 have e11 : ∀ U : UW W0,U.W.cell? ⟨w.heap.size,11,none⟩ = some (.slice oa e.ord.length oc) := fun U=>by rw [World.cell?,U.up.heap g0]; rfl
 have HU0 : Hid _ := u0
 clear mk hT hw g0 u0
 unfold turnL
 generalize Lib.itoa e.was = l0 at *
 generalize Lib.itoa e.player = l1 at *
 generalize Lib.itoa e.now = l2 at *
 generalize Lib.itoa e.other = l3 at *
 rw [hk] at e0 hW0 ⊢
 clear hk
 have c0 : W0.cell? ⟨w.heap.size,0,none⟩ = some (.int .i8 6) := e0 ⟨W0,Up.refl _⟩
 go_enter Tryz.func38,Tryz.ntmps38
 go_wp2_with fail
 try rw [hW0]
 clear hW0 c0
 refine TailR.wp_region_seqC 21 (fun w'=>∃ U : UW W0,w' = U.W) ⟨⟨_,(Up.refl _).drewN 1⟩,rfl⟩ (by kernel_rfl) (by kernel_rfl) ?_
 simp only [List.take_succ_cons,List.take_zero,List.drop_succ_cons,List.drop_zero]
 repeat (go_big_quiet_step (first | with_reducible exact HC0.out _ | with_reducible exact HC1.out _ | with_reducible exact HC2.out _ | with_reducible exact HC3.out _))
 refine wpQuiet_nil ?_
 intro _ hw'
 obtain ⟨U,hw''⟩ := hw'
 subst hw''
 have HUU : Hid (Up w U.W) := Up.trans HU0.out U.up
 clear e0 e1 e2 e3 e4 e5 e6 e7 e8 e9 e10 e11 HU0
 generalize U.W = V at *
 go_wp2
 go_ret
 exact ⟨ret_str (by simp),HUU.out⟩
set_option maxRecDepth 100000 in
set_option maxHeartbeats 4000000 in
theorem rtext_end (e : Ev) (oa : Option Addr) (oc : Nat) (w : World) (hT : TabP w) (hw : EvW e) (hk : e.kind = 7) : Calls Tryz.prog 38 #[.agg #[.int .i8 e.kind,.int .i8 e.field,.int .i64 e.card,.int .i64 e.player,.int .i64 e.other,.int .i64 e.fr,.int .i64 e.frAt,.int .i64 e.to_,.int .i64 e.toAt,.int .i32 e.was,.int .i32 e.now,.slice oa e.ord.length oc]] w fun x w'=>x = .returned (.string ⟨(endL e).toArray⟩) /\ Up w w' := by
 obtain ⟨W0,hW0⟩ : ∃ W0,w.alloc (.cells #[.int .i8 e.kind,.int .i8 e.field,.int .i64 e.card,.int .i64 e.player,.int .i64 e.other,.int .i64 e.fr,.int .i64 e.frAt,.int .i64 e.to_,.int .i64 e.toAt,.int .i32 e.was,.int .i32 e.now,.slice oa e.ord.length oc] 30) = W0 := ⟨_,rfl⟩
 have g0 : W0.heap[w.heap.size]? = some (.cells #[.int .i8 e.kind,.int .i8 e.field,.int .i64 e.card,.int .i64 e.player,.int .i64 e.other,.int .i64 e.fr,.int .i64 e.frAt,.int .i64 e.to_,.int .i64 e.toAt,.int .i32 e.was,.int .i32 e.now,.slice oa e.ord.length oc] 30 (0,0)) := by rw [<- hW0]; exact heap_alloc_new _ _
 have u0 : Up w W0 := by rw [<- hW0]; exact (Up.refl _).alloc _
 have ne : Nonempty (UW W0) := ⟨⟨W0,Up.refl _⟩⟩
 have mk : ∀ {f : Nat} {args : Array Value} {Rv : Value} (U : UW W0),Calls Tryz.prog f args U.W (fun e w'=>e = .returned Rv /\ Up U.W w') -> Calls Tryz.prog f args U.W (fun e w'=>e = .returned Rv /\ ∃ V : UW W0,w' = V.W) := fun U h=>h.mono fun e w' ⟨h1,h2⟩=>⟨h1,⟨w',U.up.trans h2⟩,rfl⟩
 have HC0 : Hid (∀ U : UW W0,Calls Tryz.prog 95 #[.int .i64 e.now] U.W fun x w'=>x = .returned (.string ⟨(Lib.itoa e.now).toArray⟩) /\ ∃ V : UW W0,w' = V.W) := fun U=>mk U (itoa_ e.now ⟨by have := hw.now.1; omega,by have := hw.now.2; omega⟩ U.W (hT.up (u0.trans U.up)))
 have hl0 := Lib.itoa_length_le e.now (by have := hw.now.1; omega) (by have := hw.now.2; omega)
 have HC1 : Hid (∀ U : UW W0,Calls Tryz.prog 95 #[.int .i64 e.player] U.W fun x w'=>x = .returned (.string ⟨(Lib.itoa e.player).toArray⟩) /\ ∃ V : UW W0,w' = V.W) := fun U=>mk U (itoa_ e.player ⟨by have := hw.player.1; omega,by have := hw.player.2; omega⟩ U.W (hT.up (u0.trans U.up)))
 have hl1 := Lib.itoa_length_le e.player (by have := hw.player.1; omega) (by have := hw.player.2; omega)
 have hb0 := hw.now.1
 have hc0 := hw.now.2
 have e0 : ∀ U : UW W0,U.W.cell? ⟨w.heap.size,0,none⟩ = some (.int .i8 e.kind) := fun U=>by rw [World.cell?,U.up.heap g0]; rfl
 have e1 : ∀ U : UW W0,U.W.cell? ⟨w.heap.size,1,none⟩ = some (.int .i8 e.field) := fun U=>by rw [World.cell?,U.up.heap g0]; rfl
 have e2 : ∀ U : UW W0,U.W.cell? ⟨w.heap.size,2,none⟩ = some (.int .i64 e.card) := fun U=>by rw [World.cell?,U.up.heap g0]; rfl
 have e3 : ∀ U : UW W0,U.W.cell? ⟨w.heap.size,3,none⟩ = some (.int .i64 e.player) := fun U=>by rw [World.cell?,U.up.heap g0]; rfl
 have e4 : ∀ U : UW W0,U.W.cell? ⟨w.heap.size,4,none⟩ = some (.int .i64 e.other) := fun U=>by rw [World.cell?,U.up.heap g0]; rfl
 have e5 : ∀ U : UW W0,U.W.cell? ⟨w.heap.size,5,none⟩ = some (.int .i64 e.fr) := fun U=>by rw [World.cell?,U.up.heap g0]; rfl
 have e6 : ∀ U : UW W0,U.W.cell? ⟨w.heap.size,6,none⟩ = some (.int .i64 e.frAt) := fun U=>by rw [World.cell?,U.up.heap g0]; rfl
 have e7 : ∀ U : UW W0,U.W.cell? ⟨w.heap.size,7,none⟩ = some (.int .i64 e.to_) := fun U=>by rw [World.cell?,U.up.heap g0]; rfl
 have e8 : ∀ U : UW W0,U.W.cell? ⟨w.heap.size,8,none⟩ = some (.int .i64 e.toAt) := fun U=>by rw [World.cell?,U.up.heap g0]; rfl
 have e9 : ∀ U : UW W0,U.W.cell? ⟨w.heap.size,9,none⟩ = some (.int .i32 e.was) := fun U=>by rw [World.cell?,U.up.heap g0]; rfl
 have e10 : ∀ U : UW W0,U.W.cell? ⟨w.heap.size,10,none⟩ = some (.int .i32 e.now) := fun U=>by rw [World.cell?,U.up.heap g0]; rfl
 have e11 : ∀ U : UW W0,U.W.cell? ⟨w.heap.size,11,none⟩ = some (.slice oa e.ord.length oc) := fun U=>by rw [World.cell?,U.up.heap g0]; rfl
 have HU0 : Hid _ := u0
 clear mk hT hw g0 u0
 unfold endL
 generalize Lib.itoa e.now = l0 at *
 generalize Lib.itoa e.player = l1 at *
 rw [hk] at e0 hW0 ⊢
 clear hk
 have c0 : W0.cell? ⟨w.heap.size,0,none⟩ = some (.int .i8 7) := e0 ⟨W0,Up.refl _⟩
 go_enter Tryz.func38,Tryz.ntmps38
 go_wp2_with fail
 try rw [hW0]
 clear hW0 c0
 refine TailR.wp_region_seqC 10 (fun w'=>∃ U : UW W0,w' = U.W) ⟨⟨_,(Up.refl _).drewN 1⟩,rfl⟩ (by kernel_rfl) (by kernel_rfl) ?_
 simp only [List.take_succ_cons,List.take_zero,List.drop_succ_cons,List.drop_zero]
 repeat (go_big_quiet_step (first | with_reducible exact HC0.out _ | with_reducible exact HC1.out _))
 refine wpQuiet_nil ?_
 intro _ hw'
 obtain ⟨U,hw''⟩ := hw'
 subst hw''
 have HUU : Hid (Up w U.W) := Up.trans HU0.out U.up
 clear e0 e1 e2 e3 e4 e5 e6 e7 e8 e9 e10 e11 HU0
 generalize U.W = V at *
 go_wp2
 go_ret
 exact ⟨ret_str (by simp),HUU.out⟩
set_option maxRecDepth 100000 in
set_option maxHeartbeats 4000000 in
theorem rtext_out (e : Ev) (oa : Option Addr) (oc : Nat) (w : World) (hT : TabP w) (hw : EvW e) (hk : e.kind = 5) : Calls Tryz.prog 38 #[.agg #[.int .i8 e.kind,.int .i8 e.field,.int .i64 e.card,.int .i64 e.player,.int .i64 e.other,.int .i64 e.fr,.int .i64 e.frAt,.int .i64 e.to_,.int .i64 e.toAt,.int .i32 e.was,.int .i32 e.now,.slice oa e.ord.length oc]] w fun x w'=>x = .returned (.string ⟨(outL e).toArray⟩) /\ Up w w' := by
 obtain ⟨W0,hW0⟩ : ∃ W0,w.alloc (.cells #[.int .i8 e.kind,.int .i8 e.field,.int .i64 e.card,.int .i64 e.player,.int .i64 e.other,.int .i64 e.fr,.int .i64 e.frAt,.int .i64 e.to_,.int .i64 e.toAt,.int .i32 e.was,.int .i32 e.now,.slice oa e.ord.length oc] 30) = W0 := ⟨_,rfl⟩
 have g0 : W0.heap[w.heap.size]? = some (.cells #[.int .i8 e.kind,.int .i8 e.field,.int .i64 e.card,.int .i64 e.player,.int .i64 e.other,.int .i64 e.fr,.int .i64 e.frAt,.int .i64 e.to_,.int .i64 e.toAt,.int .i32 e.was,.int .i32 e.now,.slice oa e.ord.length oc] 30 (0,0)) := by rw [<- hW0]; exact heap_alloc_new _ _
 have u0 : Up w W0 := by rw [<- hW0]; exact (Up.refl _).alloc _
 have HI : Hid (∀ W,Up w W -> Calls Tryz.prog 95 #[.int .i64 e.player] W fun x w'=>x = .returned (.string ⟨(Lib.itoa e.player).toArray⟩) /\ Up W w') := fun W u=>itoa_ e.player ⟨by have := hw.player.1; omega,by have := hw.player.2; omega⟩ W (hT.up u)
 have hl := Lib.itoa_length_le e.player (by have := hw.player.1; omega) (by have := hw.player.2; omega)
 have hb := hw.player.1
 have hc := hw.player.2
 have c0 : W0.cell? ⟨w.heap.size,0,none⟩ = some (.int .i8 e.kind) := by simp [World.cell?,g0]
 have c1 : W0.cell? ⟨w.heap.size,3,none⟩ = some (.int .i64 e.player) := by simp [World.cell?,g0]
 have HU0 : Hid _ := u0
 unfold outL
 generalize Lib.itoa e.player = l at *
 rw [hk] at c0 hW0 ⊢
 clear hT hw hk g0 u0
 go_enter Tryz.func38,Tryz.ntmps38
 go_wp2_with fail
 try rw [hW0]
 clear hW0
 refine Calls.mono (HI.out _ HU0.out) ?_
 rintro r W2 ⟨rfl,u2⟩
 have HU : Hid (Up w W2) := Up.trans HU0.out u2
 clear u2 c0 c1
 go_wp2
 go_ret
 exact ⟨ret_str (by simp),HU.out⟩
set_option maxRecDepth 100000 in
set_option maxHeartbeats 4000000 in
theorem rtext_none (e : Ev) (oa : Option Addr) (oc : Nat) (w : World) (hT : TabP w) (hw : EvW e) (hk : kindB e.kind = false) : Calls Tryz.prog 38 #[.agg #[.int .i8 e.kind,.int .i8 e.field,.int .i64 e.card,.int .i64 e.player,.int .i64 e.other,.int .i64 e.fr,.int .i64 e.frAt,.int .i64 e.to_,.int .i64 e.toAt,.int .i32 e.was,.int .i32 e.now,.slice oa e.ord.length oc]] w fun x w'=>x = .returned (.string ⟨([101,118,101,110,116,32] ++ Lib.itoa e.kind).toArray⟩) /\ Up w w' := by
 obtain ⟨W0,hW0⟩ : ∃ W0,w.alloc (.cells #[.int .i8 e.kind,.int .i8 e.field,.int .i64 e.card,.int .i64 e.player,.int .i64 e.other,.int .i64 e.fr,.int .i64 e.frAt,.int .i64 e.to_,.int .i64 e.toAt,.int .i32 e.was,.int .i32 e.now,.slice oa e.ord.length oc] 30) = W0 := ⟨_,rfl⟩
 have g0 : W0.heap[w.heap.size]? = some (.cells #[.int .i8 e.kind,.int .i8 e.field,.int .i64 e.card,.int .i64 e.player,.int .i64 e.other,.int .i64 e.fr,.int .i64 e.frAt,.int .i64 e.to_,.int .i64 e.toAt,.int .i32 e.was,.int .i32 e.now,.slice oa e.ord.length oc] 30 (0,0)) := by rw [<- hW0]; exact heap_alloc_new _ _
 have u0 : Up w W0 := by rw [<- hW0]; exact (Up.refl _).alloc _
 have HI : Hid (∀ W,Up w W -> Calls Tryz.prog 95 #[.int .i64 e.kind] W fun x w'=>x = .returned (.string ⟨(Lib.itoa e.kind).toArray⟩) /\ Up W w') := fun W u=>itoa_ e.kind ⟨by have := hw.kind.1; omega,by have := hw.kind.2; omega⟩ W (hT.up u)
 have hl := Lib.itoa_length_le e.kind (by have := hw.kind.1; omega) (by have := hw.kind.2; omega)
 have hb := hw.kind.1
 have hc := hw.kind.2
 have b1 : (e.kind == 1) = false := beq_eq_false_iff_ne.2 (fun h=>by rw [h] at hk; revert hk; decide)
 have b2 : (e.kind == 2) = false := beq_eq_false_iff_ne.2 (fun h=>by rw [h] at hk; revert hk; decide)
 have b3 : (e.kind == 3) = false := beq_eq_false_iff_ne.2 (fun h=>by rw [h] at hk; revert hk; decide)
 have b4 : (e.kind == 4) = false := beq_eq_false_iff_ne.2 (fun h=>by rw [h] at hk; revert hk; decide)
 have b5 : (e.kind == 5) = false := beq_eq_false_iff_ne.2 (fun h=>by rw [h] at hk; revert hk; decide)
 have b6 : (e.kind == 6) = false := beq_eq_false_iff_ne.2 (fun h=>by rw [h] at hk; revert hk; decide)
 have b7 : (e.kind == 7) = false := beq_eq_false_iff_ne.2 (fun h=>by rw [h] at hk; revert hk; decide)
 have c0 : W0.cell? ⟨w.heap.size,0,none⟩ = some (.int .i8 e.kind) := by simp [World.cell?,g0]
 have HU0 : Hid _ := u0
 generalize Lib.itoa e.kind = l at *
 clear hT hw hk g0 u0
 go_enter Tryz.func38,Tryz.ntmps38
 go_wp2_with fail
 try rw [hW0]
 clear hW0
 refine Calls.mono (HI.out _ HU0.out) ?_
 rintro r W2 ⟨rfl,u2⟩
 have HU : Hid (Up w W2) := Up.trans HU0.out u2
 clear u2 c0
 go_wp2
 go_ret
 exact ⟨ret_str (by simp),HU.out⟩
set_option maxRecDepth 100000 in
set_option maxHeartbeats 4000000 in
theorem rtext_shuffle (e : Ev) (oa : Option Addr) (oc : Nat) (w : World) (hT : TabP w) (hw : EvW e) (ho : IL w (.slice oa e.ord.length oc) e.ord) (hn : e.ord.length <= 4294967296) (hk : e.kind = 4) : Calls Tryz.prog 38 #[.agg #[.int .i8 e.kind,.int .i8 e.field,.int .i64 e.card,.int .i64 e.player,.int .i64 e.other,.int .i64 e.fr,.int .i64 e.frAt,.int .i64 e.to_,.int .i64 e.toAt,.int .i32 e.was,.int .i32 e.now,.slice oa e.ord.length oc]] w fun x w'=>x = .returned (.string ⟨(shuffL e).toArray⟩) /\ Up w w' := by
 obtain ⟨_,_,hra,-,hcell⟩ := il_at ho
 cases hra
 have HCE : Hid _ := hcell
 obtain ⟨W0,hW0⟩ : ∃ W0,w.alloc (.cells #[.int .i8 e.kind,.int .i8 e.field,.int .i64 e.card,.int .i64 e.player,.int .i64 e.other,.int .i64 e.fr,.int .i64 e.frAt,.int .i64 e.to_,.int .i64 e.toAt,.int .i32 e.was,.int .i32 e.now,.slice oa e.ord.length oc] 30) = W0 := ⟨_,rfl⟩
 have g0 : W0.heap[w.heap.size]? = some (.cells #[.int .i8 e.kind,.int .i8 e.field,.int .i64 e.card,.int .i64 e.player,.int .i64 e.other,.int .i64 e.fr,.int .i64 e.frAt,.int .i64 e.to_,.int .i64 e.toAt,.int .i32 e.was,.int .i32 e.now,.slice oa e.ord.length oc] 30 (0,0)) := by rw [<- hW0]; exact heap_alloc_new _ _
 have u0 : Up w W0 := by rw [<- hW0]; exact (Up.refl _).alloc _
 have hl0 := Lib.itoa_length_le e.fr hw.fr.1 hw.fr.2
 have HT5 : Hid (∀ W,Up w W -> Calls Tryz.prog 95 #[.int .i64 e.fr] W fun x w'=>x = .returned (.string ⟨(Lib.itoa e.fr).toArray⟩) /\ Up W w') := fun W u=>itoa_ e.fr hw.fr W (hT.up u)
 have HTi : Hid (∀ W i,Up w W -> i < e.ord.length -> Calls Tryz.prog 95 #[.int .i64 (e.ord.getD i 0)] W fun x w'=>x = .returned (.string ⟨(Lib.itoa (e.ord.getD i 0)).toArray⟩) /\ Up W w') := fun W i u hi=>itoa_ _ (hw.ord i hi) W (hT.up u)
 have HLi : Hid (∀ i,i < e.ord.length -> (Lib.itoa (e.ord.getD i 0)).length <= 21) := fun i hi=>Lib.itoa_length_le _ (hw.ord i hi).1 (hw.ord i hi).2
 have HSL : Hid (∀ i,i <= e.ord.length -> (shL (e.ord.take i)).length <= 22 * i) := shL_le e.ord hw.ord
 have HSN : Hid (∀ i,i < e.ord.length -> shL (e.ord.take (i + 1)) = shL (e.ord.take i) ++ (32 :: Lib.itoa (e.ord.getD i 0))) := shL_snoc e.ord
 have HFI : Hid (shuffL e = preL e ++ shL (e.ord.take e.ord.length)) := by unfold Hid shuffL; rw [List.take_length]
 have HPR : Hid (preL e = [115,104,117,102,102,108,101,32] ++ Lib.itoa e.fr ++ [58]) := rfl
 have c0 : W0.cell? ⟨w.heap.size,0,none⟩ = some (.int .i8 e.kind) := by simp [World.cell?,g0]
 have c5 : W0.cell? ⟨w.heap.size,5,none⟩ = some (.int .i64 e.fr) := by simp [World.cell?,g0]
 have HG0 : Hid (∀ W,Up W0 W -> W.cell? ⟨w.heap.size,11,none⟩ = some (.slice oa e.ord.length oc)) := fun W u=>u.cell (by simp [World.cell?,g0])
 have HU0 : Hid _ := u0
 obtain ⟨n,hn0⟩ : ∃ n,n = e.ord.length := ⟨_,rfl⟩
 obtain ⟨ord,hord⟩ : ∃ l,l = e.ord := ⟨_,rfl⟩
 rw [<- hord] at hn0 HTi HLi HSL HSN HFI HCE hn HG0 hW0 ⊢
 rw [<- hn0] at hn HTi HLi HSL HSN HFI HCE HG0 hW0 ⊢
 generalize shuffL e = fin at *
 generalize preL e = pre at *
 generalize Lib.itoa e.fr = l0 at *
 rw [hk] at c0 hW0 ⊢
 clear g0 u0 hw hT ho hcell hord hn0 hk
 go_enter Tryz.func38,Tryz.ntmps38
 go_wp2_with fail
 try rw [hW0]
 refine Calls.mono (HT5.out _ HU0.out) ?_
 rintro r W1 ⟨rfl,u1⟩
 have HU1 : Hid (Up W0 W1) := u1
 clear u1 hW0 c5 c0 HT5
 have hcat : ((⟨#[115,104,117,102,102,108,101,32]⟩ ++ ⟨l0.toArray⟩ : ByteArray) ++ ⟨#[58]⟩ : ByteArray) = ⟨pre.toArray⟩ := by
  rw [HPR.out]
  apply ByteArray.ext
  simp
 have hpl : pre.length <= 30 := by rw [HPR.out]; simp; omega
 have HCT : Hid _ := hcat
 clear hcat HPR
 go_wp2_with fail
 rw [HCT.out]
 clear HCT
 go_loopw [3,4] (fun s3 s4 W=>∃ i : Nat,i <= n /\ s4 = .int .i64 i /\ s3 = .string ⟨(pre ++ shL (ord.take i)).toArray⟩ /\ Up W0 W) (fun _ s4 _=>n - (intOf s4).toNat)
 case atStart=>exact ⟨0,Nat.zero_le _,rfl,by simp [shL],HU1.out⟩
 case round =>
  clear HU1
  obtain ⟨i,hi,rfl,rfl,hu⟩ := hrel
  have HUW : Hid (Up W0 wr) := hu
  have HU : Hid (Up w wr) := Up.trans HU0.out hu
  have c11 := HG0.out wr hu
  by_cases hlt : i < n
  ·have hlt2 : (i : Int) < (n : Int) := by omega
   obtain ⟨b1,o1,rfl,hc1⟩ := HCE.out (by omega)
   have x1 := hc1 wr HU.out i hlt
   have HK : Hid _ := HTi.out wr i HU.out hlt
   have hli := HLi.out i hlt
   have hsl := HSL.out i (by omega)
   have HS1 : Hid _ := HSN.out i hlt
   have hsum : (pre ++ shL (ord.take i)).length <= 30 + 22 * i := by rw [List.length_append]; omega
   clear hc1 hu
   generalize ord.getD i 0 = z at *
   generalize Lib.itoa z = l at *
   obtain ⟨q,hq⟩ : ∃ q,q = pre ++ shL (ord.take i) := ⟨_,rfl⟩
   have HQ : Hid (pre ++ shL (ord.take (i + 1)) = q ++ (32 :: l)) := by unfold Hid; rw [HS1.out,hq,List.append_assoc]
   rw [<- hq] at hsum ⊢
   clear hq HS1 hsl
   go_wp2_with fail
   refine Calls.mono HK.out ?_
   rintro r W3 ⟨rfl,u3⟩
   have HU3 : Hid (Up W0 W3) := Up.trans HUW.out u3
   clear u3 HK x1 c11
   go_wp2_with fail
   go_roundw
   case rel =>
    refine ⟨i + 1,by omega,by go_num,?_,HU3.out⟩
    rw [HQ.out]
    congr 1
    apply ByteArray.ext
    simp
   case measure=>simp [intOf] <;> omega
  ·have hlt2 : ¬ (i : Int) < (n : Int) := by omega
   have hin : i = n := by omega
   have HFF : Hid (pre ++ shL (ord.take i) = fin) := by unfold Hid; rw [hin]; exact HFI.out.symm
   rw [HFF.out]
   clear hu hin HFF
   go_wp2
   go_ret
   exact ⟨rfl,HU.out⟩
theorem rtext_ (e : Ev) (oa : Option Addr) (oc : Nat) (w : World) (hT : TabP w) (hw : EvW e) (ho : IL w (.slice oa e.ord.length oc) e.ord) (hn : e.ord.length <= 4294967296) : Calls Tryz.prog 38 #[evv e (.slice oa e.ord.length oc)] w fun x w'=>x = .returned (.string ⟨(txtL e).toArray⟩) /\ Up w w' := by
 unfold txtL
 by_cases hk : kindB e.kind = true
 ·rcases kinds hk with h | h | h | h | h | h | h
  ·rw [if_pos h]; exact rtext_move e oa oc w hT hw h
  ·rw [if_neg (by omega),if_pos h]; exact rtext_card e oa oc w hT hw h
  ·rw [if_neg (by omega),if_neg (by omega),if_pos h]; exact rtext_player e oa oc w hT hw h
  ·rw [if_neg (by omega),if_neg (by omega),if_neg (by omega),if_pos h]; exact rtext_shuffle e oa oc w hT hw ho hn h
  ·rw [if_neg (by omega),if_neg (by omega),if_neg (by omega),if_neg (by omega),if_pos h]; exact rtext_out e oa oc w hT hw h
  ·rw [if_neg (by omega),if_neg (by omega),if_neg (by omega),if_neg (by omega),if_neg (by omega),if_pos h]; exact rtext_turn e oa oc w hT hw h
  ·rw [if_neg (by omega),if_neg (by omega),if_neg (by omega),if_neg (by omega),if_neg (by omega),if_neg (by omega),if_pos h]; exact rtext_end e oa oc w hT hw h
 ·have hk' : kindB e.kind = false := by simpa using hk
  have hz : ¬ (1 <= e.kind /\ e.kind <= 7) := by
   intro h
   unfold kindB at hk
   simp [h.1,h.2] at hk
  rw [if_neg (by omega),if_neg (by omega),if_neg (by omega),if_neg (by omega),if_neg (by omega),if_neg (by omega),if_neg (by omega)]
  exact rtext_none e oa oc w hT hw hk'
end DE
end Go.Proofs.YtodhjjeagmjhdaaGreatDoor
namespace Go.Proofs.YtodhjjeagmjhdaaGreatDoor
open Go.RowKit
namespace ST
def Kp (k : Nat) (W W' : World) : Prop := ∀ (g : Nat) (o : Obj),k <= g -> W.heap[g]? = some o -> W'.heap[g]? = some o
theorem Kp.refl (k : Nat) (W : World) : Kp k W W := fun _ _ _ h=>h
theorem Kp.trans {k : Nat} {a b c : World} (h : Kp k a b) (i : Kp k b c) : Kp k a c := fun g o hg ho=>i g o hg (h g o hg ho)
theorem Kp.up {k : Nat} {W W' : World} (u : Up W W') : Kp k W W' := fun _ _ _ h=>u.heap h
theorem Kp.more {k k' : Nat} {W W' : World} (h : Kp k W W') (hk : k <= k') : Kp k' W W' := fun g o hg ho=>h g o (by omega) ho
theorem Kp.set {k b j : Nat} {W : World} {u : Value} (hb : b < k) : Kp k W (W.setCell ⟨b,j,none⟩ u) := fun g _ hg h=>by
 rw [Below.heap_setCell _ _ _ _ (by show g ≠ b; omega)]; exact h
theorem Kp.row {k b : Nat} {W : World} {C : Array Value} (hb : b < k) : Kp k W (W.setRow b C) := fun g _ hg h=>by
 simp only [World.setRow,Array.getElem?_modify]
 rw [if_neg (by omega)]; exact h
theorem row_kp {W W' : World} {base e s n : Nat} {v : Value} {xs : List Value} (h : W.ownsRow base e s v n xs) (kp : Kp base W W') : W'.ownsRow base e s v n xs := by
 refine ⟨h.1,?_⟩
 rcases h.2 with h0 | ⟨g,cap,cur,e1,e2,e3,e4⟩
 ·exact .inl h0
 ·exact .inr ⟨g,cap,cur,e1,e2,kp _ _ e2 e3,e4⟩
theorem SOA.kp {base : Nat} {W W' : World} {v : Value} {s : Stt} (h : SOA base W v s) (kp : Kp base W W') : SOA base W' v s := by
 obtain ⟨vp,vc,vz,hv,h1,h2,vs,h3,h4,h5⟩ := h
 exact ⟨vp,vc,vz,hv,row_kp h1 kp,row_kp h2 kp,vs,row_kp h3 kp,fun i hi=>row_kp (h4 i hi) kp,h5⟩
theorem SOA.less {b b' : Nat} {W : World} {v : Value} {s : Stt} (h : SOA b W v s) (hb : b' <= b) : SOA b' W v s := by
 obtain ⟨vp,vc,vz,hv,h1,h2,vs,h3,h4,h5⟩ := h
 exact ⟨vp,vc,vz,hv,own_less h1 hb,own_less h2 hb,vs,own_less h3 hb,fun i hi=>own_less (h4 i hi) hb,h5⟩
theorem SO.kp {base : Nat} {W W' : World} {v : Value} {s : Stt} (h : SO base W v s) (kp : Kp base W W') : SO base W' v s := by
 obtain ⟨vp,vc,vz,hv,h1,h2,vs,h3,h4⟩ := h
 exact ⟨vp,vc,vz,hv,row_kp h1 kp,row_kp h2 kp,vs,row_kp h3 kp,fun i hi=>row_kp (h4 i hi) kp⟩
theorem WI.kp {base : Nat} {W W' : World} {v : Value} {l : List Int} (h : WI base W v l) (kp : Kp base W W') : WI base W' v l := by
 obtain ⟨g,h1,h2,h3⟩ := h
 exact ⟨g,h1,h2,kp _ _ h1 h3⟩
theorem WI.val {b : Nat} {W : World} {v : Value} {l : List Int} (h : WI b W v l) : ∃ a c,v = .slice a l.length c := by
 obtain ⟨g,h1,h2,h3⟩ := h
 exact ⟨_,_,h2⟩
theorem up_setRow {w W : World} {g : Nat} (h : Up w W) (hg : w.heap.size <= g) (C : Array Value) : Up w (W.setRow g C) := by
 refine ⟨h.os,h.tape,h.output,by have := h.size; simpa [World.setRow] using this,fun k hk=>?_⟩
 rw [<- h.block k hk]
 simp only [World.setRow,Array.getElem?_modify]
 rw [if_neg (by omega)]
end ST
end Go.Proofs.YtodhjjeagmjhdaaGreatDoor
namespace Go.Proofs.YtodhjjeagmjhdaaGreatDoor
open Go.RowKit
namespace DE
open Go.Proofs.YtodhjjeagmjhdaaGreatDoor.ST
theorem exec_load_row {P : Program} {o : Oper} {a : Act} (ty : TypeId) (x : Operand) (ho : o.op = .load ty x) (g : Nat) (hx : a.eval x = .pointer (some ⟨g,0,none⟩)) (t : TypeId) (cs : Array Value) (fr : Nat × Nat) (d : TypeDesc)
  (hu : P.underlying ty = some d) (hd : (match d with | .struct _ | .array _ _=>true | _=>false) = true) (hi : (P.info? ty).map (·.size) = some cs.size) (w : World) (hg : w.heap[g]? = some (.cells cs t fr)) : (execOp a.eval o).run P w = .ok (.value (.agg cs)) w := by
 unfold execOp
 simp only [ho,hx,Instr.loadAt,Instr.sureAddr,Sem.run_bind,Sem.run_pure,Result.andThen_ok,run_loadVar_row w g t ty cs fr d hg hu hd hi]
theorem wpAnyH_world {P : Program} {md : Region.Mode} {ops : Array Oper} {Q : Exit -> Act -> World -> Prop} {S : World -> Prop} {fuel : Nat} {listed : Array Bool} {a : Act} {w W : World} (h : w = W) (k : wpAnyH P md ops Q S fuel listed a W) : wpAnyH P md ops Q S fuel listed a w := by subst h; exact k
theorem stepH_store {P : Program} {o : Oper} {a : Act} {w : World} {K : Act -> World -> Prop} {Q : Exit -> Act -> World -> Prop} {c X : Prop} [Decidable c] (hw : c) (ty : TypeId) (x y : Operand) (ho : o.op = .store ty x y)
  (g : Nat) (cells : Array Value) (hx : a.eval x = .pointer (some ⟨g,0,none⟩)) (hy : a.eval y = .agg cells)
  (t : TypeId) (old : Array Value) (hg : w.heap[g]? = some (.cells old t (0,0))) (hi : (P.info? ty).map (·.size) = some cells.size)
  (hold : old.size = cells.size) (h1 : cells.all (·.oneCell') = true) (h : K (a.put o.dst undef) (w.setRow g cells)) :
  if c then Oper.wp P o a w K Q else X := by
 rw [if_pos hw]
 exact wp_store_row ty x y ho g cells hx hy t old hg hi hold h1 h
theorem row_setRow {w : World} {base e s n g : Nat} {v : Value} {xs : List Value} {old C : Array Value} {t : TypeId} {fr : Nat × Nat} (h : w.ownsRow base e s v n xs) (hg : w.heap[g]? = some (.cells old t fr)) (ht : e ≠ t) : (w.setRow g C).ownsRow base e s v n xs := by
 refine ⟨h.1,?_⟩
 rcases h.2 with h0 | ⟨g',cap,cur,e1,e2,e3,e4⟩
 ·exact .inl h0
 ·refine .inr ⟨g',cap,cur,e1,e2,?_,e4⟩
  rw [setRow_other]
  ·exact e3
  ·rintro rfl
   rw [e3] at hg
   simp only [Option.some.injEq,Obj.cells.injEq] at hg
   exact ht hg.2.1
theorem SOA.setRow {w : World} {base g : Nat} {v : Value} {s : Stt} {old C : Array Value} {fr : Nat × Nat} (h : SOA base w v s) (hg : w.heap[g]? = some (.cells old 27 fr)) : SOA base (w.setRow g C) v s := by
 obtain ⟨vp,vc,vz,hv,h1,h2,vs,h3,h4,h5⟩ := h
 exact ⟨vp,vc,vz,hv,row_setRow h1 hg (by decide),row_setRow h2 hg (by decide),vs,row_setRow h3 hg (by decide),fun i hi=>row_setRow (h4 i hi) hg (by decide),h5⟩
theorem results_c1 {P : Program} {fn : Func} {p q : Tmp} {ty : TypeId} (h : fn.results = #[.cell p ty,.tmp q]) (tmps : Array Value) (w : World) (g : Nat) (t : TypeId) (cs : Array Value) (fr : Nat × Nat) (d : TypeDesc) (x : Value)
  (hp : tmps.getD p undef = .pointer (some ⟨g,0,none⟩)) (hq : tmps.getD q undef = x) (hg : w.heap[g]? = some (.cells cs t fr))
  (hu : P.underlying ty = some d) (hd : (match d with | .struct _ | .array _ _=>true | _=>false) = true) (hi : (P.info? ty).map (·.size) = some cs.size) :
  (results fn tmps).run P w = .ok (.tuple #[.agg cs,x]) w := by
 have hp' : tmps[p]?.getD undef = .pointer (some ⟨g,0,none⟩) := by simpa using hp
 have hq' : tmps[q]?.getD undef = x := by simpa using hq
 simp [results,h,hp',hq',asAddr,run_loadVar_row w g t ty cs fr d hg hu hd hi]
theorem calls_world {P : Program} {f : FuncId} {args : Array Value} {w W : World} {Q : Ending -> World -> Prop} (h : w = W) (k : Calls P f args W Q) : Calls P f args w Q := by subst h; exact k
theorem SOA.row {base : Nat} {W : World} {v : Value} {s : Stt} (h : SOA base W v s) : ∃ C : Array Value,v = .agg C /\ C.size = 7 /\ C.all (·.oneCell') = true := by
 obtain ⟨vp,vc,vz,hv,h1,h2,vs,h3,-,-⟩ := h
 obtain ⟨a1,k1,rfl⟩ := row_val h1
 obtain ⟨a2,k2,rfl⟩ := row_val h2
 obtain ⟨a3,k3,rfl⟩ := row_val h3
 unfold sv at hv
 exact ⟨_,hv,rfl,by simp [Value.oneCell']⟩
theorem tk {P : Program} {ops : Array Oper} {Q : Exit -> Act -> World -> Prop} {md : Region.Mode} {S : World -> Prop} {i : Nat} {oi : Oper} {v : Value} {fuel : Nat} {listed : Array Bool} {a : Act} {w : World} (hi : ops[i]? = some oi) (hy : YieldsIf P ops S oi v a) (h : wpAnyH P md ops Q S fuel (listed.setIfInBounds i true) (a.put oi.dst v) w)
  (h1 : Region.noSelect ops = true := by kernel_rfl) (h2 : Region.free md ops listed i = true := by kernel_rfl) (h3 : (Region.ready md ops listed).contains i = true := by kernel_rfl) (h4 : ∀ c a w,Q (.panic c) (a.put oi.dst v) w -> Q (.panic c) a w := by exact fun _ _ _ h=>h) (hs : S w := by assumption) : wpAnyH P md ops Q S (fuel + 1) listed a w := wpAnyH_take hi h1 h2 h3 h4 hy hs h
end DE
end Go.Proofs.YtodhjjeagmjhdaaGreatDoor
