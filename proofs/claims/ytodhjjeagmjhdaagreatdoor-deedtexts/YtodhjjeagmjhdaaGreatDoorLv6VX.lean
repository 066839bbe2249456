/-
  lives: a card is drawn, and goes back.
-/
import Derived.Test.YtodhjjeagmjhdaaGreatDoorAp6VX
import Derived.Test.YtodhjjeagmjhdaaGreatDoorEe6VX
namespace Go.Proofs.YtodhjjeagmjhdaaGreatDoor
open Go.RowKit
attribute [local go_sem ↓] Go.wp_at_zero Go.wp_at_succ
namespace DE
open Go.Proofs.YtodhjjeagmjhdaaGreatDoor.ST
def ev0 : Ev := ⟨1,0,0,0,0,0,0,1,0,0,0,[]⟩
def smS2 : Stt := { smS with zs := [[],[0],[],[],[],[],[1],[]] }
theorem sm2_ok : ff smS2 = none := by decide
theorem sm_small : Small smS := small_ok sm_ok
theorem sm2_small : Small smS2 := small_ok sm2_ok
theorem sm_draw : drawO smS 0 = (0,some ev0) := by
 unfold drawO
 rw [if_pos sm_ok]
 rfl
theorem sm_rep : repO smS [ev0] = some (.inr smS2) := by
 unfold repO
 rw [if_pos sm_ok]
 rfl
theorem sm_bck : bckO smS2 [ev0] = some (.inr smS) := by
 unfold bckO
 rw [if_pos sm2_ok]
 rfl
theorem eqE_self (e : Ev) : eqE e e = true := by simp [eqE]
def ApS (t : Stt) (w : World) (x : Ending) (w' : World) : Prop := ∃ C : Array Value,x = .returned (.tuple #[.agg C,.int .i64 0]) /\ C.size = 7 /\ C.all (·.oneCell') = true /\ SOA w.heap.size w' (.agg C) t /\ Up w w'
theorem aps_of {w : World} {t : Stt} {x : Ending} {w' : World} (h : AppV w (some (.inr t)) x w') : ApS t w x w' := by
 obtain ⟨v,h1,h2,h3⟩ := h
 obtain ⟨C,rfl,hC1,hC2⟩ := SOA.row h2
 exact ⟨C,h1,hC1,hC2,h2,h3⟩
set_option maxRecDepth 100000 in
set_option maxHeartbeats 8000000 in
theorem lives_ (w : World) : Calls Tryz.prog 20 #[] w fun x w'=>x = .returned (.bool true) /\ Up w w' := by
 have HSm : Hid (∀ W,Calls Tryz.prog 75 #[] W (CpPost W fun W' v=>SOA W.heap.size W' v smS)) := small_
 have HS : Hid (Small smS) := sm_small
 go_enter Tryz.func20,Tryz.ntmps20
 go_wp2_with fail
 refine Calls.mono (HSm.out _) ?_
 rintro r W1 ⟨v8,rfl,f8,u1⟩
 have HDr : Hid (Calls Tryz.prog 74 #[v8,.int .i64 0] W1 (DeV W1 (drawO smS 0))) := draw_ v8 smS 0 W1 (SO.sl (SOA.so f8)) HS.out
 rw [sm_draw] at HDr
 clear f8
 go_wp2_with fail
 refine Calls.mono HDr.out ?_
 rintro r W2 ⟨vl,rfl,⟨g,vo,rfl,hgb,hg,hvo⟩,u2⟩
 have HU2 : Hid (Up w W2) := u1.trans u2
 obtain ⟨oa,oc,hv⟩ := row_val hvo
 have HIL : Hid (IL W2 vo []) := IRow.il hvo
 clear HDr u1 u2 hgb hvo
 have HEq : Hid (∀ W,Up W2 W -> Calls Tryz.prog 15 #[.agg (evc ev0 vo),.agg #[.int .i8 1,.int .i8 0,.int .i64 0,.int .i64 0,.int .i64 0,.int .i64 0,.int .i64 0,.int .i64 1,.int .i64 0,.int .i32 0,.int .i32 0,.slice none 0 0]] W fun x w'=>x = .returned (.bool true) /\ Up W w') := fun W u=>by
  have h9 := eqEvent_ ev0 ev0 vo (.slice none 0 0) W (HIL.out.up u) ⟨rfl,none,0,rfl,Nat.le_refl _,fun h=>absurd rfl h⟩ (by decide)
  rw [eqE_self] at h9
  exact h9
 have HAp : Hid (∀ (W : World) (v : Value),Up W2 W -> StL W v smS -> Calls Tryz.prog 11 #[v,.agg (evc ev0 vo)] W (ApS smS2 W)) := fun W v u h=>by
  have h9 := apply_ v vo smS ev0 W h HS.out (HIL.out.up u) (by decide)
  rw [sm_rep] at h9
  exact h9.mono fun e w' h=>aps_of h
 have HUn : Hid (∀ (W : World) (v : Value),Up W2 W -> StL W v smS2 -> Calls Tryz.prog 21 #[v,.agg (evc ev0 vo)] W (ApS smS W)) := fun W v u h=>by
  have h9 := undo1_ v vo smS2 ev0 W h sm2_small (HIL.out.up u) (by decide)
  rw [sm_bck] at h9
  exact h9.mono fun e w' h=>aps_of h
 clear hv
 go_wp2_with (refine wpList_load_rowG (by rfl) 30 (.tmp 21) rfl g rfl 30 (evc ev0 vo) (0,0) _ hg Tryz.underlying30 rfl infoEv ?_)
 refine Calls.mono (HEq.out _ (Up.refl _)) ?_
 rintro r W3 ⟨rfl,u3⟩
 have hg := u3.heap hg
 have HU3 : Hid (Up w W3) := HU2.out.trans u3
 have HAp : Hid (∀ (W : World) (v : Value),Up W3 W -> StL W v smS -> Calls Tryz.prog 11 #[v,.agg (evc ev0 vo)] W (ApS smS2 W)) := fun W v u h=>HAp.out W v (u3.trans u) h
 have HUn : Hid (∀ (W : World) (v : Value),Up W3 W -> StL W v smS2 -> Calls Tryz.prog 21 #[v,.agg (evc ev0 vo)] W (ApS smS W)) := fun W v u h=>HUn.out W v (u3.trans u) h
 clear HEq u3 HIL HU2
 go_wp2_with fail
 refine (fun key4 : ∀ (W : World) (p : Nat) (C : Array Value) (v28 : Value),Up W3 W -> W.heap[p]? = some (.cells C 27 (0,0)) -> SOA W3.heap.size W (.agg C) smS2 -> C.size = 7 -> C.all (·.oneCell') = true -> (?G4 : World -> Nat -> Array Value -> Value -> Prop) W p C v28=>?main4) ?kp4
 case main4 =>
  refine wp_region_held_drew (S := fun W9=>Up W3 W9) (by kernel_rfl) (Up.drew (Up.refl _)) (fun hHeld=>?_)
  have Ua0 : Up W3 W3.drew := Up.drew (Up.refl _)
  refine tk (i := 1) (v := ?_) rfl (Or.inl ⟨by rfl,?_⟩) ?_
  rotate_left
  ·intro w9 hSw
   go_simp
   try with_reducible rfl
  simp only [Act.put,qa1,qa2,qa3,qa4,qa5,qa6]
  refine tk (i := 2) (v := ?_) rfl (Or.inl ⟨by rfl,?_⟩) ?_
  rotate_left
  ·intro w9 hSw
   go_simp
   try with_reducible rfl
  simp only [Act.put,qa1,qa2,qa3,qa4,qa5,qa6]
  refine tk (i := 3) (v := ?_) rfl (Or.inl ⟨by rfl,?_⟩) ?_
  rotate_left
  ·intro w9 hSw
   refine (exec_load_row 30 (.tmp 30) (by rfl) g (by rfl) 30 (evc ev0 vo) (0,0) _ Tryz.underlying30 (by rfl) infoEv w9 (hSw.heap hg)).trans ?_
   with_reducible rfl
  simp only [Act.put,qa1,qa2,qa3,qa4,qa5,qa6]
  refine wpAnyH_ready (rs := [0,8]) (by kernel_rfl) (by simp) ?_
  refine AllReadyH.cons rfl (fun K hK=>?_) (AllReadyH.cons rfl (fun K hK=>?_) AllReadyH.nil)
  ·simp only [qa4,qa5]
   go_simp
   refine Calls.mono (HSm.out _) ?_
   rintro r9 Wa1 ⟨v28,rfl,f28,ua1⟩
   go_simp
   have Ua1 := Ua0.trans ua1
   refine hK.out _ _ ?_ (fun hHeld=>?_)
   ·exact Ua1
   clear hK K
   try simp only [Act.put,qa1,qa2,qa3]
   have hSS := Ua1
   refine wpAnyH_ready (rs := [4,8]) (by kernel_rfl) (by simp) ?_
   refine AllReadyH.cons rfl (fun K hK=>?_) (AllReadyH.cons rfl (fun K hK=>?_) AllReadyH.nil)
   ·simp only [qa4,qa5,qa6]
    go_simp
    refine Calls.mono (HAp.out _ _ Ua1 (SO.sl (SOA.so f28))) ?_
    rintro r9 Wa2 ⟨C,rfl,hC1,hC2,f32,ua2⟩
    have f32 := f32.less Ua1.size
    go_simp
    have Ua2 := Ua1.trans ua2
    have f28 := f28.up ua2
    refine hK.out _ _ ?_ (fun hHeld=>?_)
    ·exact Ua2
    clear hK K
    try simp only [Act.put,qa1,qa2,qa3]
    have hSS := Ua2
    refine tk (i := 5) (v := ?_) rfl (Or.inl ⟨by rfl,?_⟩) ?_
    rotate_left
    ·intro w9 hSw
     go_simp
     try with_reducible rfl
    simp only [Act.put,qa1,qa2,qa3,qa4,qa5,qa6]
    refine tk (i := 6) (v := ?_) rfl (Or.inl ⟨by rfl,?_⟩) ?_
    rotate_left
    ·intro w9 hSw
     go_simp
     try with_reducible rfl
    simp only [Act.put,qa1,qa2,qa3,qa4,qa5,qa6]
    refine tk (i := 7) (v := ?_) rfl (Or.inl ⟨by rfl,?_⟩) ?_
    rotate_left
    ·intro w9 hSw
     go_simp
     try with_reducible rfl
    simp only [Act.put,qa1,qa2,qa3,qa4,qa5,qa6]
    refine wpAnyH_ready (rs := [8]) (by kernel_rfl) (by simp) ?_
    refine AllReadyH.cons rfl (fun K hK=>?_) AllReadyH.nil
    simp only [qa4,qa5,qa6]
    go_simp
    refine hK.out _ _ ?_ (fun hHeld=>?_)
    ·exact Ua2.alloc _
    clear hK K
    try simp only [Act.put,qa1,qa2,qa3]
    obtain ⟨p,hp⟩ : ∃ p,p = (Wa2).heap.size := ⟨_,rfl⟩
    obtain ⟨Wa3,hW1⟩ : ∃ W1,(Wa2).alloc (.cells zS 27) = W1 := ⟨_,rfl⟩
    refine wpAnyH_world hW1 ?_
    have h9 : Wa2.heap.size = p := hp.symm
    simp only [h9]
    clear h9
    have ua3 : Up (Wa2) Wa3 := by rw [<- hW1]; exact (Up.refl _).alloc _
    have ep : Wa3.heap[p]? = some (.cells zS 27 (0,0)) := by rw [hp,<- hW1]; exact heap_alloc_new _ _
    have lp : W3.heap.size <= p := by rw [hp]; exact Ua2.size
    have Ua3 := Ua2.trans ua3
    have f28 := f28.up ua3
    have f32 := f32.up ua3
    clear hHeld hW1 hp
    have hSS := Ua3
    refine wpAnyH_ready (rs := [9]) (by kernel_rfl) (by simp) ?_
    refine AllReadyH.cons rfl (fun K hK=>?_) AllReadyH.nil
    simp only [qa4,qa5,qa6]
    refine stepH_store (by rfl) 27 (.tmp 3) (.tmp 33) (by rfl) p C (by rfl) (by rfl) 27 zS ep (by rw [hC1]; exact infoSt) (by rw [hC1]; rfl) (hC2) ?_
    refine hK.out _ _ ?_ (fun hHeld=>?_)
    ·exact up_setRow Ua3 lp _
    clear hK K
    simp only [Act.put]
    obtain ⟨Wa4,hW1⟩ : ∃ W1,(Wa3).setRow p C = W1 := ⟨_,rfl⟩
    refine wpAnyH_world hW1 ?_
    have Ua4 : Up W3 Wa4 := by rw [<- hW1]; exact up_setRow Ua3 lp _
    have f32 := SOA.setRow (C := C) f32 ep
    rw [hW1] at f32
    have ep : Wa4.heap[p]? = some (.cells C 27 (0,0)) := by rw [<- hW1]; exact setRow_heap _ _ _ _ _ _ ep
    clear hHeld hW1
    have hSS := Ua4
    refine tk (i := 10) (v := ?_) rfl (Or.inl ⟨by rfl,?_⟩) ?_
    rotate_left
    ·intro w9 hSw
     go_simp
     try with_reducible rfl
    simp only [Act.put,qa1,qa2,qa3,qa4,qa5,qa6]
    refine wpAnyH_done (by kernel_rfl) ?_ _
    exact key4 Wa4 p C v28 Ua4 ep f32 hC1 hC2
   ·simp only [qa4,qa5,qa6]
    go_simp
    refine hK.out _ _ ?_ (fun hHeld=>?_)
    ·exact Ua1.alloc _
    clear hK K
    try simp only [Act.put,qa1,qa2,qa3]
    obtain ⟨p,hp⟩ : ∃ p,p = (Wa1).heap.size := ⟨_,rfl⟩
    obtain ⟨Wa2,hW1⟩ : ∃ W1,(Wa1).alloc (.cells zS 27) = W1 := ⟨_,rfl⟩
    refine wpAnyH_world hW1 ?_
    have h9 : Wa1.heap.size = p := hp.symm
    simp only [h9]
    clear h9
    have ua2 : Up (Wa1) Wa2 := by rw [<- hW1]; exact (Up.refl _).alloc _
    have ep : Wa2.heap[p]? = some (.cells zS 27 (0,0)) := by rw [hp,<- hW1]; exact heap_alloc_new _ _
    have lp : W3.heap.size <= p := by rw [hp]; exact Ua1.size
    have Ua2 := Ua1.trans ua2
    have f28 := f28.up ua2
    clear hHeld hW1 hp
    have hSS := Ua2
    refine wpAnyH_ready (rs := [4]) (by kernel_rfl) (by simp) ?_
    refine AllReadyH.cons rfl (fun K hK=>?_) AllReadyH.nil
    simp only [qa4,qa5,qa6]
    go_simp
    refine Calls.mono (HAp.out _ _ Ua2 (SO.sl (SOA.so f28))) ?_
    rintro r9 Wa3 ⟨C,rfl,hC1,hC2,f32,ua3⟩
    have f32 := f32.less Ua2.size
    go_simp
    have Ua3 := Ua2.trans ua3
    have f28 := f28.up ua3
    have ep := ua3.heap ep
    refine hK.out _ _ ?_ (fun hHeld=>?_)
    ·exact Ua3
    clear hK K
    try simp only [Act.put,qa1,qa2,qa3]
    have hSS := Ua3
    refine tk (i := 5) (v := ?_) rfl (Or.inl ⟨by rfl,?_⟩) ?_
    rotate_left
    ·intro w9 hSw
     go_simp
     try with_reducible rfl
    simp only [Act.put,qa1,qa2,qa3,qa4,qa5,qa6]
    refine tk (i := 6) (v := ?_) rfl (Or.inl ⟨by rfl,?_⟩) ?_
    rotate_left
    ·intro w9 hSw
     go_simp
     try with_reducible rfl
    simp only [Act.put,qa1,qa2,qa3,qa4,qa5,qa6]
    refine tk (i := 7) (v := ?_) rfl (Or.inl ⟨by rfl,?_⟩) ?_
    rotate_left
    ·intro w9 hSw
     go_simp
     try with_reducible rfl
    simp only [Act.put,qa1,qa2,qa3,qa4,qa5,qa6]
    refine wpAnyH_ready (rs := [9]) (by kernel_rfl) (by simp) ?_
    refine AllReadyH.cons rfl (fun K hK=>?_) AllReadyH.nil
    simp only [qa4,qa5,qa6]
    refine stepH_store (by rfl) 27 (.tmp 3) (.tmp 33) (by rfl) p C (by rfl) (by rfl) 27 zS ep (by rw [hC1]; exact infoSt) (by rw [hC1]; rfl) (hC2) ?_
    refine hK.out _ _ ?_ (fun hHeld=>?_)
    ·exact up_setRow Ua3 lp _
    clear hK K
    simp only [Act.put]
    obtain ⟨Wa4,hW1⟩ : ∃ W1,(Wa3).setRow p C = W1 := ⟨_,rfl⟩
    refine wpAnyH_world hW1 ?_
    have Ua4 : Up W3 Wa4 := by rw [<- hW1]; exact up_setRow Ua3 lp _
    have f32 := SOA.setRow (C := C) f32 ep
    rw [hW1] at f32
    have ep : Wa4.heap[p]? = some (.cells C 27 (0,0)) := by rw [<- hW1]; exact setRow_heap _ _ _ _ _ _ ep
    clear hHeld hW1
    have hSS := Ua4
    refine tk (i := 10) (v := ?_) rfl (Or.inl ⟨by rfl,?_⟩) ?_
    rotate_left
    ·intro w9 hSw
     go_simp
     try with_reducible rfl
    simp only [Act.put,qa1,qa2,qa3,qa4,qa5,qa6]
    refine wpAnyH_done (by kernel_rfl) ?_ _
    exact key4 Wa4 p C v28 Ua4 ep f32 hC1 hC2
  ·simp only [qa4,qa5,qa6]
   go_simp
   refine hK.out _ _ ?_ (fun hHeld=>?_)
   ·exact Ua0.alloc _
   clear hK K
   try simp only [Act.put,qa1,qa2,qa3]
   obtain ⟨p,hp⟩ : ∃ p,p = (W3.drew).heap.size := ⟨_,rfl⟩
   obtain ⟨Wa1,hW1⟩ : ∃ W1,(W3.drew).alloc (.cells zS 27) = W1 := ⟨_,rfl⟩
   refine wpAnyH_world hW1 ?_
   have h9 : W3.heap.size = p := hp.symm
   simp only [h9]
   clear h9
   have ua1 : Up (W3.drew) Wa1 := by rw [<- hW1]; exact (Up.refl _).alloc _
   have ep : Wa1.heap[p]? = some (.cells zS 27 (0,0)) := by rw [hp,<- hW1]; exact heap_alloc_new _ _
   have lp : W3.heap.size <= p := by rw [hp]; exact Ua0.size
   have Ua1 := Ua0.trans ua1
   clear hHeld hW1 hp
   have hSS := Ua1
   refine wpAnyH_ready (rs := [0]) (by kernel_rfl) (by simp) ?_
   refine AllReadyH.cons rfl (fun K hK=>?_) AllReadyH.nil
   simp only [qa4,qa5]
   go_simp
   refine Calls.mono (HSm.out _) ?_
   rintro r9 Wa2 ⟨v28,rfl,f28,ua2⟩
   go_simp
   have Ua2 := Ua1.trans ua2
   have ep := ua2.heap ep
   refine hK.out _ _ ?_ (fun hHeld=>?_)
   ·exact Ua2
   clear hK K
   try simp only [Act.put,qa1,qa2,qa3]
   have hSS := Ua2
   refine wpAnyH_ready (rs := [4]) (by kernel_rfl) (by simp) ?_
   refine AllReadyH.cons rfl (fun K hK=>?_) AllReadyH.nil
   simp only [qa4,qa5,qa6]
   go_simp
   refine Calls.mono (HAp.out _ _ Ua2 (SO.sl (SOA.so f28))) ?_
   rintro r9 Wa3 ⟨C,rfl,hC1,hC2,f32,ua3⟩
   have f32 := f32.less Ua2.size
   go_simp
   have Ua3 := Ua2.trans ua3
   have ep := ua3.heap ep
   have f28 := f28.up ua3
   refine hK.out _ _ ?_ (fun hHeld=>?_)
   ·exact Ua3
   clear hK K
   try simp only [Act.put,qa1,qa2,qa3]
   have hSS := Ua3
   refine tk (i := 5) (v := ?_) rfl (Or.inl ⟨by rfl,?_⟩) ?_
   rotate_left
   ·intro w9 hSw
    go_simp
    try with_reducible rfl
   simp only [Act.put,qa1,qa2,qa3,qa4,qa5,qa6]
   refine tk (i := 6) (v := ?_) rfl (Or.inl ⟨by rfl,?_⟩) ?_
   rotate_left
   ·intro w9 hSw
    go_simp
    try with_reducible rfl
   simp only [Act.put,qa1,qa2,qa3,qa4,qa5,qa6]
   refine tk (i := 7) (v := ?_) rfl (Or.inl ⟨by rfl,?_⟩) ?_
   rotate_left
   ·intro w9 hSw
    go_simp
    try with_reducible rfl
   simp only [Act.put,qa1,qa2,qa3,qa4,qa5,qa6]
   refine wpAnyH_ready (rs := [9]) (by kernel_rfl) (by simp) ?_
   refine AllReadyH.cons rfl (fun K hK=>?_) AllReadyH.nil
   simp only [qa4,qa5,qa6]
   refine stepH_store (by rfl) 27 (.tmp 3) (.tmp 33) (by rfl) p C (by rfl) (by rfl) 27 zS ep (by rw [hC1]; exact infoSt) (by rw [hC1]; rfl) (hC2) ?_
   refine hK.out _ _ ?_ (fun hHeld=>?_)
   ·exact up_setRow Ua3 lp _
   clear hK K
   simp only [Act.put]
   obtain ⟨Wa4,hW1⟩ : ∃ W1,(Wa3).setRow p C = W1 := ⟨_,rfl⟩
   refine wpAnyH_world hW1 ?_
   have Ua4 : Up W3 Wa4 := by rw [<- hW1]; exact up_setRow Ua3 lp _
   have f32 := SOA.setRow (C := C) f32 ep
   rw [hW1] at f32
   have ep : Wa4.heap[p]? = some (.cells C 27 (0,0)) := by rw [<- hW1]; exact setRow_heap _ _ _ _ _ _ ep
   clear hHeld hW1
   have hSS := Ua4
   refine tk (i := 10) (v := ?_) rfl (Or.inl ⟨by rfl,?_⟩) ?_
   rotate_left
   ·intro w9 hSw
    go_simp
    try with_reducible rfl
   simp only [Act.put,qa1,qa2,qa3,qa4,qa5,qa6]
   refine wpAnyH_done (by kernel_rfl) ?_ _
   exact key4 Wa4 p C v28 Ua4 ep f32 hC1 hC2
 case kp4 =>
  intro W4 p C v28 U4 hp f32 hC1 hC2
  have HCo : Hid (∀ W,Up W4 W -> Calls Tryz.prog 76 #[.agg C] W (CpPost W fun W' v=>SO W.heap.size W' v smS2)) := fun W u=>copyState_ (.agg C) smS2 W (SO.sl (SOA.so (f32.up u))) sm2_small
  go_wp2_with fail
  refine (fun key5 : ∀ (W : World) (q : Nat) (D : Array Value) (v37 : Value),Up W4 W -> W.heap[q]? = some (.cells D 27 (0,0)) -> SOA W4.heap.size W (.agg D) smS -> D.size = 7 -> D.all (·.oneCell') = true -> (?G5 : World -> Nat -> Array Value -> Value -> Prop) W q D v37=>?main5) ?kp5
  case main5 =>
   refine wp_region_held_drew (S := fun W9=>Up W4 W9) (by kernel_rfl) (Up.drew (Up.refl _)) (fun hHeld=>?_)
   have Ub0 : Up W4 W4.drew := Up.drew (Up.refl _)
   refine tk (i := 0) (v := ?_) rfl (Or.inl ⟨by rfl,?_⟩) ?_
   rotate_left
   ·intro w9 hSw
    refine (exec_load_row 27 (.tmp 3) (by rfl) p (by rfl) 27 C (0,0) _ Tryz.underlying27 (by rfl) (by rw [hC1]; exact infoSt) w9 (hSw.heap hp)).trans ?_
    with_reducible rfl
   simp only [Act.put,qa1,qa2,qa3,qa4,qa5]
   refine tk (i := 2) (v := ?_) rfl (Or.inl ⟨by rfl,?_⟩) ?_
   rotate_left
   ·intro w9 hSw
    go_simp
    try with_reducible rfl
   simp only [Act.put,qa1,qa2,qa3,qa4,qa5,qa6]
   refine tk (i := 3) (v := ?_) rfl (Or.inl ⟨by rfl,?_⟩) ?_
   rotate_left
   ·intro w9 hSw
    go_simp
    try with_reducible rfl
   simp only [Act.put,qa1,qa2,qa3,qa4,qa5,qa6]
   refine tk (i := 4) (v := ?_) rfl (Or.inl ⟨by rfl,?_⟩) ?_
   rotate_left
   ·intro w9 hSw
    refine (exec_load_row 30 (.tmp 39) (by rfl) g (by rfl) 30 (evc ev0 vo) (0,0) _ Tryz.underlying30 (by rfl) infoEv w9 ((U4.trans hSw).heap hg)).trans ?_
    with_reducible rfl
   simp only [Act.put,qa1,qa2,qa3,qa4,qa5,qa6]
   refine wpAnyH_ready (rs := [1,9]) (by kernel_rfl) (by simp) ?_
   refine AllReadyH.cons rfl (fun K hK=>?_) (AllReadyH.cons rfl (fun K hK=>?_) AllReadyH.nil)
   ·simp only [qa4,qa5,qa6]
    go_simp
    refine Calls.mono (HCo.out _ Ub0) ?_
    rintro r9 Wb1 ⟨v37,rfl,f37,ub1⟩
    go_simp
    have Ub1 := Ub0.trans ub1
    refine hK.out _ _ ?_ (fun hHeld=>?_)
    ·exact Ub1
    clear hK K
    try simp only [Act.put,qa1,qa2,qa3]
    have hSS := Ub1
    refine wpAnyH_ready (rs := [5,9]) (by kernel_rfl) (by simp) ?_
    refine AllReadyH.cons rfl (fun K hK=>?_) (AllReadyH.cons rfl (fun K hK=>?_) AllReadyH.nil)
    ·simp only [qa4,qa5,qa6]
     go_simp
     refine Calls.mono (HUn.out _ _ (U4.trans Ub1) (SO.sl f37)) ?_
     rintro r9 Wb2 ⟨D,rfl,hD1,hD2,f41,ub2⟩
     have f41 := f41.less Ub1.size
     go_simp
     have Ub2 := Ub1.trans ub2
     have f37 := f37.up ub2
     refine hK.out _ _ ?_ (fun hHeld=>?_)
     ·exact Ub2
     clear hK K
     try simp only [Act.put,qa1,qa2,qa3]
     have hSS := Ub2
     refine tk (i := 6) (v := ?_) rfl (Or.inl ⟨by rfl,?_⟩) ?_
     rotate_left
     ·intro w9 hSw
      go_simp
      try with_reducible rfl
     simp only [Act.put,qa1,qa2,qa3,qa4,qa5,qa6]
     refine tk (i := 7) (v := ?_) rfl (Or.inl ⟨by rfl,?_⟩) ?_
     rotate_left
     ·intro w9 hSw
      go_simp
      try with_reducible rfl
     simp only [Act.put,qa1,qa2,qa3,qa4,qa5,qa6]
     refine tk (i := 8) (v := ?_) rfl (Or.inl ⟨by rfl,?_⟩) ?_
     rotate_left
     ·intro w9 hSw
      go_simp
      try with_reducible rfl
     simp only [Act.put,qa1,qa2,qa3,qa4,qa5,qa6]
     refine wpAnyH_ready (rs := [9]) (by kernel_rfl) (by simp) ?_
     refine AllReadyH.cons rfl (fun K hK=>?_) AllReadyH.nil
     simp only [qa4,qa5,qa6]
     go_simp
     refine hK.out _ _ ?_ (fun hHeld=>?_)
     ·exact Ub2.alloc _
     clear hK K
     try simp only [Act.put,qa1,qa2,qa3]
     obtain ⟨q,hq⟩ : ∃ p,p = (Wb2).heap.size := ⟨_,rfl⟩
     obtain ⟨Wb3,hW1⟩ : ∃ W1,(Wb2).alloc (.cells zS 27) = W1 := ⟨_,rfl⟩
     refine wpAnyH_world hW1 ?_
     have h9 : Wb2.heap.size = q := hq.symm
     simp only [h9]
     clear h9
     have ub3 : Up (Wb2) Wb3 := by rw [<- hW1]; exact (Up.refl _).alloc _
     have eq : Wb3.heap[q]? = some (.cells zS 27 (0,0)) := by rw [hq,<- hW1]; exact heap_alloc_new _ _
     have lq : W4.heap.size <= q := by rw [hq]; exact Ub2.size
     have Ub3 := Ub2.trans ub3
     have f37 := f37.up ub3
     have f41 := f41.up ub3
     clear hHeld hW1 hq
     have hSS := Ub3
     refine wpAnyH_ready (rs := [10]) (by kernel_rfl) (by simp) ?_
     refine AllReadyH.cons rfl (fun K hK=>?_) AllReadyH.nil
     simp only [qa4,qa5,qa6]
     refine stepH_store (by rfl) 27 (.tmp 5) (.tmp 42) (by rfl) q D (by rfl) (by rfl) 27 zS eq (by rw [hD1]; exact infoSt) (by rw [hD1]; rfl) (hD2) ?_
     refine hK.out _ _ ?_ (fun hHeld=>?_)
     ·exact up_setRow Ub3 lq _
     clear hK K
     simp only [Act.put]
     obtain ⟨Wb4,hW1⟩ : ∃ W1,(Wb3).setRow q D = W1 := ⟨_,rfl⟩
     refine wpAnyH_world hW1 ?_
     have Ub4 : Up W4 Wb4 := by rw [<- hW1]; exact up_setRow Ub3 lq _
     have f41 := SOA.setRow (C := D) f41 eq
     rw [hW1] at f41
     have eq : Wb4.heap[q]? = some (.cells D 27 (0,0)) := by rw [<- hW1]; exact setRow_heap _ _ _ _ _ _ eq
     clear hHeld hW1
     have hSS := Ub4
     refine tk (i := 11) (v := ?_) rfl (Or.inl ⟨by rfl,?_⟩) ?_
     rotate_left
     ·intro w9 hSw
      go_simp
      try with_reducible rfl
     simp only [Act.put,qa1,qa2,qa3,qa4,qa5,qa6]
     refine wpAnyH_done (by kernel_rfl) ?_ _
     exact key5 Wb4 q D v37 Ub4 eq f41 hD1 hD2
    ·simp only [qa4,qa5,qa6]
     go_simp
     refine hK.out _ _ ?_ (fun hHeld=>?_)
     ·exact Ub1.alloc _
     clear hK K
     try simp only [Act.put,qa1,qa2,qa3]
     obtain ⟨q,hq⟩ : ∃ p,p = (Wb1).heap.size := ⟨_,rfl⟩
     obtain ⟨Wb2,hW1⟩ : ∃ W1,(Wb1).alloc (.cells zS 27) = W1 := ⟨_,rfl⟩
     refine wpAnyH_world hW1 ?_
     have h9 : Wb1.heap.size = q := hq.symm
     simp only [h9]
     clear h9
     have ub2 : Up (Wb1) Wb2 := by rw [<- hW1]; exact (Up.refl _).alloc _
     have eq : Wb2.heap[q]? = some (.cells zS 27 (0,0)) := by rw [hq,<- hW1]; exact heap_alloc_new _ _
     have lq : W4.heap.size <= q := by rw [hq]; exact Ub1.size
     have Ub2 := Ub1.trans ub2
     have f37 := f37.up ub2
     clear hHeld hW1 hq
     have hSS := Ub2
     refine wpAnyH_ready (rs := [5]) (by kernel_rfl) (by simp) ?_
     refine AllReadyH.cons rfl (fun K hK=>?_) AllReadyH.nil
     simp only [qa4,qa5,qa6]
     go_simp
     refine Calls.mono (HUn.out _ _ (U4.trans Ub2) (SO.sl f37)) ?_
     rintro r9 Wb3 ⟨D,rfl,hD1,hD2,f41,ub3⟩
     have f41 := f41.less Ub2.size
     go_simp
     have Ub3 := Ub2.trans ub3
     have f37 := f37.up ub3
     have eq := ub3.heap eq
     refine hK.out _ _ ?_ (fun hHeld=>?_)
     ·exact Ub3
     clear hK K
     try simp only [Act.put,qa1,qa2,qa3]
     have hSS := Ub3
     refine tk (i := 6) (v := ?_) rfl (Or.inl ⟨by rfl,?_⟩) ?_
     rotate_left
     ·intro w9 hSw
      go_simp
      try with_reducible rfl
     simp only [Act.put,qa1,qa2,qa3,qa4,qa5,qa6]
     refine tk (i := 7) (v := ?_) rfl (Or.inl ⟨by rfl,?_⟩) ?_
     rotate_left
     ·intro w9 hSw
      go_simp
      try with_reducible rfl
     simp only [Act.put,qa1,qa2,qa3,qa4,qa5,qa6]
     refine tk (i := 8) (v := ?_) rfl (Or.inl ⟨by rfl,?_⟩) ?_
     rotate_left
     ·intro w9 hSw
      go_simp
      try with_reducible rfl
     simp only [Act.put,qa1,qa2,qa3,qa4,qa5,qa6]
     refine wpAnyH_ready (rs := [10]) (by kernel_rfl) (by simp) ?_
     refine AllReadyH.cons rfl (fun K hK=>?_) AllReadyH.nil
     simp only [qa4,qa5,qa6]
     refine stepH_store (by rfl) 27 (.tmp 5) (.tmp 42) (by rfl) q D (by rfl) (by rfl) 27 zS eq (by rw [hD1]; exact infoSt) (by rw [hD1]; rfl) (hD2) ?_
     refine hK.out _ _ ?_ (fun hHeld=>?_)
     ·exact up_setRow Ub3 lq _
     clear hK K
     simp only [Act.put]
     obtain ⟨Wb4,hW1⟩ : ∃ W1,(Wb3).setRow q D = W1 := ⟨_,rfl⟩
     refine wpAnyH_world hW1 ?_
     have Ub4 : Up W4 Wb4 := by rw [<- hW1]; exact up_setRow Ub3 lq _
     have f41 := SOA.setRow (C := D) f41 eq
     rw [hW1] at f41
     have eq : Wb4.heap[q]? = some (.cells D 27 (0,0)) := by rw [<- hW1]; exact setRow_heap _ _ _ _ _ _ eq
     clear hHeld hW1
     have hSS := Ub4
     refine tk (i := 11) (v := ?_) rfl (Or.inl ⟨by rfl,?_⟩) ?_
     rotate_left
     ·intro w9 hSw
      go_simp
      try with_reducible rfl
     simp only [Act.put,qa1,qa2,qa3,qa4,qa5,qa6]
     refine wpAnyH_done (by kernel_rfl) ?_ _
     exact key5 Wb4 q D v37 Ub4 eq f41 hD1 hD2
   ·simp only [qa4,qa5,qa6]
    go_simp
    refine hK.out _ _ ?_ (fun hHeld=>?_)
    ·exact Ub0.alloc _
    clear hK K
    try simp only [Act.put,qa1,qa2,qa3]
    obtain ⟨q,hq⟩ : ∃ p,p = (W4.drew).heap.size := ⟨_,rfl⟩
    obtain ⟨Wb1,hW1⟩ : ∃ W1,(W4.drew).alloc (.cells zS 27) = W1 := ⟨_,rfl⟩
    refine wpAnyH_world hW1 ?_
    have h9 : W4.heap.size = q := hq.symm
    simp only [h9]
    clear h9
    have ub1 : Up (W4.drew) Wb1 := by rw [<- hW1]; exact (Up.refl _).alloc _
    have eq : Wb1.heap[q]? = some (.cells zS 27 (0,0)) := by rw [hq,<- hW1]; exact heap_alloc_new _ _
    have lq : W4.heap.size <= q := by rw [hq]; exact Ub0.size
    have Ub1 := Ub0.trans ub1
    clear hHeld hW1 hq
    have hSS := Ub1
    refine wpAnyH_ready (rs := [1]) (by kernel_rfl) (by simp) ?_
    refine AllReadyH.cons rfl (fun K hK=>?_) AllReadyH.nil
    simp only [qa4,qa5,qa6]
    go_simp
    refine Calls.mono (HCo.out _ Ub1) ?_
    rintro r9 Wb2 ⟨v37,rfl,f37,ub2⟩
    go_simp
    have Ub2 := Ub1.trans ub2
    have eq := ub2.heap eq
    refine hK.out _ _ ?_ (fun hHeld=>?_)
    ·exact Ub2
    clear hK K
    try simp only [Act.put,qa1,qa2,qa3]
    have hSS := Ub2
    refine wpAnyH_ready (rs := [5]) (by kernel_rfl) (by simp) ?_
    refine AllReadyH.cons rfl (fun K hK=>?_) AllReadyH.nil
    simp only [qa4,qa5,qa6]
    go_simp
    refine Calls.mono (HUn.out _ _ (U4.trans Ub2) (SO.sl f37)) ?_
    rintro r9 Wb3 ⟨D,rfl,hD1,hD2,f41,ub3⟩
    have f41 := f41.less Ub2.size
    go_simp
    have Ub3 := Ub2.trans ub3
    have eq := ub3.heap eq
    have f37 := f37.up ub3
    refine hK.out _ _ ?_ (fun hHeld=>?_)
    ·exact Ub3
    clear hK K
    try simp only [Act.put,qa1,qa2,qa3]
    have hSS := Ub3
    refine tk (i := 6) (v := ?_) rfl (Or.inl ⟨by rfl,?_⟩) ?_
    rotate_left
    ·intro w9 hSw
     go_simp
     try with_reducible rfl
    simp only [Act.put,qa1,qa2,qa3,qa4,qa5,qa6]
    refine tk (i := 7) (v := ?_) rfl (Or.inl ⟨by rfl,?_⟩) ?_
    rotate_left
    ·intro w9 hSw
     go_simp
     try with_reducible rfl
    simp only [Act.put,qa1,qa2,qa3,qa4,qa5,qa6]
    refine tk (i := 8) (v := ?_) rfl (Or.inl ⟨by rfl,?_⟩) ?_
    rotate_left
    ·intro w9 hSw
     go_simp
     try with_reducible rfl
    simp only [Act.put,qa1,qa2,qa3,qa4,qa5,qa6]
    refine wpAnyH_ready (rs := [10]) (by kernel_rfl) (by simp) ?_
    refine AllReadyH.cons rfl (fun K hK=>?_) AllReadyH.nil
    simp only [qa4,qa5,qa6]
    refine stepH_store (by rfl) 27 (.tmp 5) (.tmp 42) (by rfl) q D (by rfl) (by rfl) 27 zS eq (by rw [hD1]; exact infoSt) (by rw [hD1]; rfl) (hD2) ?_
    refine hK.out _ _ ?_ (fun hHeld=>?_)
    ·exact up_setRow Ub3 lq _
    clear hK K
    simp only [Act.put]
    obtain ⟨Wb4,hW1⟩ : ∃ W1,(Wb3).setRow q D = W1 := ⟨_,rfl⟩
    refine wpAnyH_world hW1 ?_
    have Ub4 : Up W4 Wb4 := by rw [<- hW1]; exact up_setRow Ub3 lq _
    have f41 := SOA.setRow (C := D) f41 eq
    rw [hW1] at f41
    have eq : Wb4.heap[q]? = some (.cells D 27 (0,0)) := by rw [<- hW1]; exact setRow_heap _ _ _ _ _ _ eq
    clear hHeld hW1
    have hSS := Ub4
    refine tk (i := 11) (v := ?_) rfl (Or.inl ⟨by rfl,?_⟩) ?_
    rotate_left
    ·intro w9 hSw
     go_simp
     try with_reducible rfl
    simp only [Act.put,qa1,qa2,qa3,qa4,qa5,qa6]
    refine wpAnyH_done (by kernel_rfl) ?_ _
    exact key5 Wb4 q D v37 Ub4 eq f41 hD1 hD2
  case kp5 =>
   intro W5 q D v37 U5 hq f41 hD1 hD2
   have hp := U5.heap hp
   have f32 := f32.up U5
   have HU5 : Hid (Up w W5) := (HU3.out.trans U4).trans U5
   clear hg HAp HUn HCo U4 U5 HU3
   obtain ⟨vp,vc,vz,hv,-,-,vs,h3,h4,-⟩ := f32
   have h3 : W5.ownsRow W3.heap.size 28 1 vz 8 vs := h3
   obtain ⟨gz,kz,-,-,rfl⟩ := row_some h3 (by decide)
   have l3 := h3.1
   have z2 : W5.cell? ⟨p,2,none⟩ = some (.slice (some ⟨gz,0,none⟩) 8 kz) := by
    have hv : C = #[vp,vc,.slice (some ⟨gz,0,none⟩) 8 kz,.int .i32 smS2.turn,.int .i64 smS2.whose,.int .i8 smS2.fin,.int .i64 smS2.winner] := by
     unfold sv at hv
     simpa using hv
    rw [World.cell?,hp,hv]
    rfl
   have y0 : ∃ a k,W5.cell? ⟨gz,0,none⟩ = some (.slice a 0 k) := by
    obtain ⟨a,k,h9⟩ := row_val (h4 0 (by decide))
    have h9 : vs.getD 0 nl = .slice a 0 k := h9
    refine ⟨a,k,?_⟩
    rw [World.ownsRow.cellAt h3 0 (by omega),<- h9,List.getD_eq_getElem?_getD,List.getElem?_eq_getElem (by omega)]
    rfl
   have y1 : ∃ a k,W5.cell? ⟨gz,1,none⟩ = some (.slice a 1 k) := by
    obtain ⟨a,k,h9⟩ := row_val (h4 1 (by decide))
    have h9 : vs.getD 1 nl = .slice a 1 k := h9
    refine ⟨a,k,?_⟩
    rw [World.ownsRow.cellAt h3 1 (by omega),<- h9,List.getD_eq_getElem?_getD,List.getElem?_eq_getElem (by omega)]
    rfl
   obtain ⟨ya,yk,y0⟩ := y0
   obtain ⟨yb,yl,y1⟩ := y1
   clear hv h3 h4 l3 hp hC1 hC2
   go_wp2_with fail
   refine (fun key6 : ∀ (W : World) (v74 : Value),Up W5 W -> (?G6 : World -> Value -> Prop) W v74=>?main6) ?kp6
   case main6 =>
    refine wp_region_held_drew (S := fun W9=>Up W5 W9) (by kernel_rfl) (Up.drew (Up.refl _)) (fun hHeld=>?_)
    have Uc0 : Up W5 W5.drew := Up.drew (Up.refl _)
    refine tk (i := 0) (v := ?_) rfl (Or.inl ⟨by rfl,?_⟩) ?_
    rotate_left
    ·intro w9 hSw
     go_simp
     try with_reducible rfl
    simp only [Act.put,qa1,qa2,qa3,qa4,qa5]
    refine tk (i := 1) (v := ?_) rfl (Or.inl ⟨by rfl,?_⟩) ?_
    rotate_left
    ·intro w9 hSw
     go_simp
     try with_reducible rfl
    simp only [Act.put,qa1,qa2,qa3,qa4,qa5,qa6]
    refine tk (i := 2) (v := ?_) rfl (Or.inl ⟨by rfl,?_⟩) ?_
    rotate_left
    ·intro w9 hSw
     go_simp
     try with_reducible rfl
    simp only [Act.put,qa1,qa2,qa3,qa4,qa5,qa6]
    refine tk (i := 3) (v := ?_) rfl (Or.inl ⟨by rfl,?_⟩) ?_
    rotate_left
    ·intro w9 hSw
     go_simp
     try with_reducible rfl
    simp only [Act.put,qa1,qa2,qa3,qa4,qa5,qa6]
    refine tk (i := 4) (v := ?_) rfl (Or.inl ⟨by rfl,?_⟩) ?_
    rotate_left
    ·intro w9 hSw
     go_simp
     try with_reducible rfl
    simp only [Act.put,qa1,qa2,qa3,qa4,qa5,qa6]
    refine tk (i := 5) (v := ?_) rfl (Or.inl ⟨by rfl,?_⟩) ?_
    rotate_left
    ·intro w9 hSw
     go_simp
     try with_reducible rfl
    simp only [Act.put,qa1,qa2,qa3,qa4,qa5,qa6]
    refine tk (i := 6) (v := ?_) rfl (Or.inl ⟨by rfl,?_⟩) ?_
    rotate_left
    ·intro w9 hSw
     go_simp
     try with_reducible rfl
    simp only [Act.put,qa1,qa2,qa3,qa4,qa5,qa6]
    refine tk (i := 7) (v := ?_) rfl (Or.inl ⟨by rfl,?_⟩) ?_
    rotate_left
    ·intro w9 hSw
     go_simp
     try with_reducible rfl
    simp only [Act.put,qa1,qa2,qa3,qa4,qa5,qa6]
    refine tk (i := 8) (v := ?_) rfl (Or.inl ⟨by rfl,?_⟩) ?_
    rotate_left
    ·intro w9 hSw
     have c2 := (hSw.cell z2)
     go_simp
     try with_reducible rfl
    simp only [Act.put,qa1,qa2,qa3,qa4,qa5,qa6]
    refine tk (i := 9) (v := ?_) rfl (Or.inl ⟨by rfl,?_⟩) ?_
    rotate_left
    ·intro w9 hSw
     go_simp
     try with_reducible rfl
    simp only [Act.put,qa1,qa2,qa3,qa4,qa5,qa6]
    refine tk (i := 10) (v := ?_) rfl (Or.inl ⟨by rfl,?_⟩) ?_
    rotate_left
    ·intro w9 hSw
     go_simp
     try with_reducible rfl
    simp only [Act.put,qa1,qa2,qa3,qa4,qa5,qa6]
    refine tk (i := 11) (v := ?_) rfl (Or.inl ⟨by rfl,?_⟩) ?_
    rotate_left
    ·intro w9 hSw
     go_simp
     try with_reducible rfl
    simp only [Act.put,qa1,qa2,qa3,qa4,qa5,qa6]
    refine tk (i := 12) (v := ?_) rfl (Or.inl ⟨by rfl,?_⟩) ?_
    rotate_left
    ·intro w9 hSw
     go_simp
     try with_reducible rfl
    simp only [Act.put,qa1,qa2,qa3,qa4,qa5,qa6]
    refine tk (i := 13) (v := ?_) rfl (Or.inl ⟨by rfl,?_⟩) ?_
    rotate_left
    ·intro w9 hSw
     go_simp
     try with_reducible rfl
    simp only [Act.put,qa1,qa2,qa3,qa4,qa5,qa6]
    refine tk (i := 14) (v := ?_) rfl (Or.inl ⟨by rfl,?_⟩) ?_
    rotate_left
    ·intro w9 hSw
     have c2 := (hSw.cell z2)
     go_simp
     try with_reducible rfl
    simp only [Act.put,qa1,qa2,qa3,qa4,qa5,qa6]
    refine tk (i := 15) (v := ?_) rfl (Or.inl ⟨by rfl,?_⟩) ?_
    rotate_left
    ·intro w9 hSw
     go_simp
     try with_reducible rfl
    simp only [Act.put,qa1,qa2,qa3,qa4,qa5,qa6]
    refine tk (i := 16) (v := ?_) rfl (Or.inl ⟨by rfl,?_⟩) ?_
    rotate_left
    ·intro w9 hSw
     have c2 := hSw.cell y0
     go_simp
     try with_reducible rfl
    simp only [Act.put,qa1,qa2,qa3,qa4,qa5,qa6]
    refine tk (i := 17) (v := ?_) rfl (Or.inl ⟨by rfl,?_⟩) ?_
    rotate_left
    ·intro w9 hSw
     go_simp
     try with_reducible rfl
    simp only [Act.put,qa1,qa2,qa3,qa4,qa5,qa6]
    refine tk (i := 18) (v := ?_) rfl (Or.inl ⟨by rfl,?_⟩) ?_
    rotate_left
    ·intro w9 hSw
     go_simp
     try with_reducible rfl
    simp only [Act.put,qa1,qa2,qa3,qa4,qa5,qa6]
    refine tk (i := 19) (v := ?_) rfl (Or.inl ⟨by rfl,?_⟩) ?_
    rotate_left
    ·intro w9 hSw
     go_simp
     try with_reducible rfl
    simp only [Act.put,qa1,qa2,qa3,qa4,qa5,qa6]
    refine tk (i := 20) (v := ?_) rfl (Or.inl ⟨by rfl,?_⟩) ?_
    rotate_left
    ·intro w9 hSw
     go_simp
     try with_reducible rfl
    simp only [Act.put,qa1,qa2,qa3,qa4,qa5,qa6]
    refine tk (i := 21) (v := ?_) rfl (Or.inl ⟨by rfl,?_⟩) ?_
    rotate_left
    ·intro w9 hSw
     go_simp
     try with_reducible rfl
    simp only [Act.put,qa1,qa2,qa3,qa4,qa5,qa6]
    refine tk (i := 22) (v := ?_) rfl (Or.inl ⟨by rfl,?_⟩) ?_
    rotate_left
    ·intro w9 hSw
     have c2 := (hSw.cell z2)
     go_simp
     try with_reducible rfl
    simp only [Act.put,qa1,qa2,qa3,qa4,qa5,qa6]
    refine tk (i := 23) (v := ?_) rfl (Or.inl ⟨by rfl,?_⟩) ?_
    rotate_left
    ·intro w9 hSw
     go_simp
     try with_reducible rfl
    simp only [Act.put,qa1,qa2,qa3,qa4,qa5,qa6]
    refine tk (i := 24) (v := ?_) rfl (Or.inl ⟨by rfl,?_⟩) ?_
    rotate_left
    ·intro w9 hSw
     have c2 := hSw.cell y1
     go_simp
     try with_reducible rfl
    simp only [Act.put,qa1,qa2,qa3,qa4,qa5,qa6]
    refine tk (i := 25) (v := ?_) rfl (Or.inl ⟨by rfl,?_⟩) ?_
    rotate_left
    ·intro w9 hSw
     go_simp
     try with_reducible rfl
    simp only [Act.put,qa1,qa2,qa3,qa4,qa5,qa6]
    refine tk (i := 26) (v := ?_) rfl (Or.inl ⟨by rfl,?_⟩) ?_
    rotate_left
    ·intro w9 hSw
     go_simp
     try with_reducible rfl
    simp only [Act.put,qa1,qa2,qa3,qa4,qa5,qa6]
    refine tk (i := 27) (v := ?_) rfl (Or.inl ⟨by rfl,?_⟩) ?_
    rotate_left
    ·intro w9 hSw
     go_simp
     try with_reducible rfl
    simp only [Act.put,qa1,qa2,qa3,qa4,qa5,qa6]
    refine tk (i := 28) (v := ?_) rfl (Or.inl ⟨by rfl,?_⟩) ?_
    rotate_left
    ·intro w9 hSw
     go_simp
     try with_reducible rfl
    simp only [Act.put,qa1,qa2,qa3,qa4,qa5,qa6]
    refine tk (i := 29) (v := ?_) rfl (Or.inl ⟨by rfl,?_⟩) ?_
    rotate_left
    ·intro w9 hSw
     refine (exec_load_row 27 (.tmp 5) (by rfl) q (by rfl) 27 D (0,0) _ Tryz.underlying27 (by rfl) (by rw [hD1]; exact infoSt) w9 (hSw.heap hq)).trans ?_
     with_reducible rfl
    simp only [Act.put,qa1,qa2,qa3,qa4,qa5,qa6]
    refine wpAnyH_ready (rs := [30]) (by kernel_rfl) (by simp) ?_
    refine AllReadyH.cons rfl (fun K hK=>?_) AllReadyH.nil
    simp only [qa4,qa5,qa6]
    go_simp
    refine Calls.mono (HSm.out _) ?_
    rintro r9 Wc1 ⟨v74,rfl,f74,uc1⟩
    go_simp
    have Uc1 := Uc0.trans uc1
    refine hK.out _ _ ?_ (fun hHeld=>?_)
    ·exact Uc1
    clear hK K
    try simp only [Act.put,qa1,qa2,qa3]
    have hSS := Uc1
    refine wpAnyH_ready (rs := [31]) (by kernel_rfl) (by simp) ?_
    refine AllReadyH.cons rfl (fun K hK=>?_) AllReadyH.nil
    simp only [qa4,qa5,qa6]
    go_simp
    refine Calls.mono (eqState_ (.agg D) v74 smS smS _ (SO.sl (SOA.so (f41.up Uc1))) (SO.sl (SOA.so f74)) HS.out (by decide)) ?_
    rintro r9 Wc2 ⟨rfl,uc2⟩
    go_simp
    have Uc2 := Uc1.trans uc2
    have f74 := f74.up uc2
    refine hK.out _ _ ?_ (fun hHeld=>?_)
    ·exact Uc2
    clear hK K
    try simp only [Act.put,qa1,qa2,qa3]
    have hSS := Uc2
    refine tk (i := 32) (v := ?_) rfl (Or.inl ⟨by rfl,?_⟩) ?_
    rotate_left
    ·intro w9 hSw
     go_simp
     try with_reducible rfl
    simp only [Act.put,qa1,qa2,qa3,qa4,qa5,qa6]
    refine tk (i := 33) (v := ?_) rfl (Or.inl ⟨by rfl,?_⟩) ?_
    rotate_left
    ·intro w9 hSw
     go_simp
     try with_reducible rfl
    simp only [Act.put,qa1,qa2,qa4,qa5,qa6]
    refine wpAnyH_done (by kernel_rfl) ?_ _
    exact key6 Wc2 v74 Uc2
   case kp6 =>
    intro W6 v74 U6
    go_wp2
    go_ret
    exact ⟨rfl,HU5.out.trans U6⟩
end DE
end Go.Proofs.YtodhjjeagmjhdaaGreatDoor
