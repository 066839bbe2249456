/-
  Events: equal, copied, wide.
-/
import Derived.Test.YtodhjjeagmjhdaaGreatDoorUn6TvSpX
namespace Go.Proofs.YtodhjjeagmjhdaaGreatDoor
open Go.RowKit
attribute [local go_sem ↓] Go.wp_at_zero Go.wp_at_succ
namespace DE
open Go.Proofs.YtodhjjeagmjhdaaGreatDoor.ST
def eqE (a b : Ev) : Bool := decide (a.kind = b.kind) && decide (a.field = b.field) && decide (a.card = b.card) && decide (a.player = b.player) && decide (a.other = b.other) && decide (a.fr = b.fr) && decide (a.frAt = b.frAt) && decide (a.to_ = b.to_) && decide (a.toAt = b.toAt) && decide (a.was = b.was) && decide (a.now = b.now) && decide (a.ord = b.ord)
set_option maxRecDepth 100000 in
set_option maxHeartbeats 8000000 in
theorem eqEvent_ (a b : Ev) (va vb : Value) (w : World) (ha : IL w va a.ord) (hb : IL w vb b.ord) (hn : a.ord.length <= 4294967296) : Calls Tryz.prog 15 #[evv a va,evv b vb] w fun x w'=>x = .returned (.bool (eqE a b)) /\ Up w w' := by
 have HI : Hid (∀ W,Up w W -> Calls Tryz.prog 33 #[va,vb] W fun e w'=>e = .returned (.bool (decide (a.ord = b.ord))) /\ ∃ m,w' = W.drewN m) := fun W u=>eqInts_ va vb a.ord b.ord W (ha.up u) (hb.up u) hn
 obtain ⟨oa,ka,rfl,-,-⟩ := il_at ha
 obtain ⟨ob,kb,rfl,-,-⟩ := il_at hb
 clear ha hb hn
 unfold evv evc eqE
 obtain ⟨a0,a1,a2,a3,a4,a5,a6,a7,a8,a9,a10,ao⟩ := a
 obtain ⟨b0,b1,b2,b3,b4,b5,b6,b7,b8,b9,b10,bo⟩ := b
 dsimp only at *
 generalize decide (ao = bo) = R at *
 generalize ao.length = na at *
 generalize bo.length = nb at *
 by_cases f0 : a0 = b0
 ·subst f0
  by_cases f1 : a1 = b1
  ·subst f1
   by_cases f2 : a2 = b2
   ·subst f2
    by_cases f3 : a3 = b3
    ·subst f3
     by_cases f4 : a4 = b4
     ·subst f4
      by_cases f5 : a5 = b5
      ·subst f5
       by_cases f6 : a6 = b6
       ·subst f6
        by_cases f7 : a7 = b7
        ·subst f7
         by_cases f8 : a8 = b8
         ·subst f8
          by_cases f9 : a9 = b9
          ·subst f9
           by_cases f10 : a10 = b10
           ·subst f10
            go_enter Tryz.func15,Tryz.ntmps15
            go_wp2_with fail
            refine Calls.mono (HI.out _ (((Up.refl _).alloc _).alloc _)) ?_
            rintro e w1 ⟨rfl,m,rfl⟩
            go_wp2
            go_ret
            exact ⟨by simp,(((Up.refl _).alloc _).alloc _).drewN _⟩
           ·have e9 : (a10 == b10) = false := beq_eq_false_iff_ne.2 f10
            clear HI
            go_enter Tryz.func15,Tryz.ntmps15
            go_wp2
            go_ret
            exact ⟨by simp [f10],((Up.refl _).alloc _).alloc _⟩
          ·have e9 : (a9 == b9) = false := beq_eq_false_iff_ne.2 f9
           clear HI
           go_enter Tryz.func15,Tryz.ntmps15
           go_wp2
           go_ret
           exact ⟨by simp [f9],((Up.refl _).alloc _).alloc _⟩
         ·have e9 : (a8 == b8) = false := beq_eq_false_iff_ne.2 f8
          clear HI
          go_enter Tryz.func15,Tryz.ntmps15
          go_wp2
          go_ret
          exact ⟨by simp [f8],((Up.refl _).alloc _).alloc _⟩
        ·have e9 : (a7 == b7) = false := beq_eq_false_iff_ne.2 f7
         clear HI
         go_enter Tryz.func15,Tryz.ntmps15
         go_wp2
         go_ret
         exact ⟨by simp [f7],((Up.refl _).alloc _).alloc _⟩
       ·have e9 : (a6 == b6) = false := beq_eq_false_iff_ne.2 f6
        clear HI
        go_enter Tryz.func15,Tryz.ntmps15
        go_wp2
        go_ret
        exact ⟨by simp [f6],((Up.refl _).alloc _).alloc _⟩
      ·have e9 : (a5 == b5) = false := beq_eq_false_iff_ne.2 f5
       clear HI
       go_enter Tryz.func15,Tryz.ntmps15
       go_wp2
       go_ret
       exact ⟨by simp [f5],((Up.refl _).alloc _).alloc _⟩
     ·have e9 : (a4 == b4) = false := beq_eq_false_iff_ne.2 f4
      clear HI
      go_enter Tryz.func15,Tryz.ntmps15
      go_wp2
      go_ret
      exact ⟨by simp [f4],((Up.refl _).alloc _).alloc _⟩
    ·have e9 : (a3 == b3) = false := beq_eq_false_iff_ne.2 f3
     clear HI
     go_enter Tryz.func15,Tryz.ntmps15
     go_wp2
     go_ret
     exact ⟨by simp [f3],((Up.refl _).alloc _).alloc _⟩
   ·have e9 : (a2 == b2) = false := beq_eq_false_iff_ne.2 f2
    clear HI
    go_enter Tryz.func15,Tryz.ntmps15
    go_wp2
    go_ret
    exact ⟨by simp [f2],((Up.refl _).alloc _).alloc _⟩
  ·have e9 : (a1 == b1) = false := beq_eq_false_iff_ne.2 f1
   clear HI
   go_enter Tryz.func15,Tryz.ntmps15
   go_wp2
   go_ret
   exact ⟨by simp [f1],((Up.refl _).alloc _).alloc _⟩
 ·have e9 : (a0 == b0) = false := beq_eq_false_iff_ne.2 f0
  clear HI
  go_enter Tryz.func15,Tryz.ntmps15
  go_wp2
  go_ret
  exact ⟨by simp [f0],((Up.refl _).alloc _).alloc _⟩
theorem evc_cells {W : World} {a : Nat} {e : Ev} {vo : Value} {t : TypeId} (h : W.heap[a]? = some (.cells (evc e vo) t (0,0))) : ∀ j,W.cell? ⟨a,j,none⟩ = (evc e vo)[j]? := fun j=>by simp [World.cell?,h]
theorem evc_set {W : World} {a : Nat} {e : Ev} {vo vn : Value} {t : TypeId} (h : W.heap[a]? = some (.cells (evc e vo) t (0,0))) : (W.setCell ⟨a,11,none⟩ vn).heap[a]? = some (.cells (evc e vn) t (0,0)) := by
 rw [set_cells h]
 rfl
set_option maxRecDepth 100000 in
set_option maxHeartbeats 4000000 in
theorem wideEvent_ (e : Ev) (vo : Value) (w : World) (ho : IL w vo e.ord) (hn : e.ord.length <= 4294967296) : Calls Tryz.prog 10 #[evv e vo] w fun x w'=>∃ vn,x = .returned (evv e vn) /\ WI w.heap.size w' vn e.ord /\ Up w w' := by
 obtain ⟨Post,hPost⟩ : ∃ P : Ending -> World -> Prop,P = fun x w'=>∃ vn,x = .returned (evv e vn) /\ WI w.heap.size w' vn e.ord /\ Up w w' := ⟨_,rfl⟩
 rw [<- hPost]
 have HP : Hid _ := hPost
 have HI : Hid (∀ W,Up w W -> Calls Tryz.prog 30 #[vo] W (CpPost W fun W' v'=>WI W.heap.size W' v' e.ord)) := fun W u=>wideInts_ vo e.ord W (ho.up u) hn
 obtain ⟨oa,ka,rfl,-,-⟩ := il_at ho
 clear ho hn hPost
 obtain ⟨W0,hW0⟩ : ∃ W0,W0 = (w.alloc (.cells (evc e (.slice oa e.ord.length ka)) 30)).alloc (.cells (evc dE (.slice none 0 0)) 30) := ⟨_,rfl⟩
 have g0 : W0.heap[w.heap.size]? = some (.cells (evc e (.slice oa e.ord.length ka)) 30 (0,0)) := by rw [hW0]; exact heap_alloc2_old _ _ _
 have g1 : W0.heap[w.heap.size + 1]? = some (.cells (evc dE (.slice none 0 0)) 30 (0,0)) := by rw [hW0]; exact heap_alloc2_new _ _ _
 have gu : Up w W0 := by rw [hW0]; exact ((Up.refl _).alloc _).alloc _
 have gs : W0.heap.size = w.heap.size + 2 := by rw [hW0]; simp
 unfold evv
 unfold evc dE at hW0
 dsimp only at hW0
 unfold evc
 go_enter Tryz.func10,Tryz.ntmps10
 go_wp2_with fail
 rw [<- hW0]
 refine Calls.mono (HI.out _ gu) ?_
 rintro x W1 ⟨vn,rfl,hi,u1⟩
 have hi2 : WI (w.heap.size + 2) W1 vn e.ord := by rw [<- gs]; exact hi
 have hu : Up w W1 := gu.trans u1
 have h0 := u1.heap g0
 have h1 := u1.heap g1
 obtain ⟨na,nk,hvn⟩ := WI.val hi2
 have HE : Hid (∀ W,Kp (w.heap.size + 2) W1 W -> WI w.heap.size W vn e.ord) := fun W k=>WI.less (hi2.kp k) (by omega)
 subst hvn
 have c11 : W1.cell? ⟨w.heap.size,11,none⟩ = some (.slice oa e.ord.length ka) := evc_cells h0 11
 have cf := seven_f h0 11
 have k1 := evc_set (vn := .slice na e.ord.length nk) h0
 have k2 : (W1.setCell ⟨w.heap.size,11,none⟩ (.slice na e.ord.length nk)).heap[w.heap.size + 1]? = _ := set_other h1 (by omega)
 clear hi hi2 u1 h0 h1 g0 g1 hW0 HI
 go_wp2_with (first | (refine wpList_load_row rfl 30 (.tmp 1) rfl w.heap.size rfl 30 (evc e (.slice na e.ord.length nk)) (0,0) _ k1 Tryz.underlying30 rfl infoEv ?_) | (refine wpList_store_row rfl 30 (.tmp 2) (.tmp 7) rfl (w.heap.size + 1) (evc e (.slice na e.ord.length nk)) rfl rfl 30 (evc dE (.slice none 0 0)) k2 infoEv rfl (evc_one _ _ _ _) ?_))
 refine bodyPost_ret (v := evv e (.slice na e.ord.length nk)) (results_cell_row (p := 2) (ty := 30) rfl _ _ (w.heap.size + 1) 30 (evc e (.slice na e.ord.length nk)) (0,0) _ rfl (setRow_heap _ _ _ _ _ _ k2) Tryz.underlying30 rfl infoEv) rfl ?_
 rw [HP.out]
 exact ⟨_,rfl,HE.out _ ((Kp.set (by omega)).trans (Kp.row (by omega))),up_setRow (Up.set hu _ _ (Nat.le_refl _)) (by omega) _⟩
set_option maxRecDepth 100000 in
set_option maxHeartbeats 4000000 in
theorem spareEvent_ (base : Nat) (e : Ev) (vo : Value) (w : World) (ho : WI base w vo e.ord) (hn : e.ord.length <= 4294967296) : Calls Tryz.prog 16 #[evv e vo] w fun x w'=>x = .returned (.bool true) /\ Up w w' := by
 have HI : Hid (∀ W,Up w W -> _) := fun W u=>spareInts_ base vo e.ord W (ho.up u) hn
 obtain ⟨oa,ka,rfl⟩ := ho.val
 clear ho hn
 unfold evv evc
 generalize e.ord.length = n at *
 go_enter Tryz.func16,Tryz.ntmps16
 go_wp2_with fail
 refine Calls.mono (HI.out _ ((Up.refl _).alloc _)) ?_
 rintro x W1 ⟨rfl,rfl⟩
 go_wp2
 go_ret
 exact ⟨rfl,(Up.refl _).alloc _⟩
end DE
end Go.Proofs.YtodhjjeagmjhdaaGreatDoor
