/-
  Back: all events of a list taken back, the last one first.
-/
import Derived.Test.YtodhjjeagmjhdaaGreatDoorRp6VX
namespace Go.Proofs.YtodhjjeagmjhdaaGreatDoor
open Go.RowKit
attribute [local go_sem ↓] Go.wp_at_zero Go.wp_at_succ
namespace DE
open Go.Proofs.YtodhjjeagmjhdaaGreatDoor.ST
set_option maxRecDepth 100000 in
set_option maxHeartbeats 8000000 in
theorem back_ (v vl : Value) (s : Stt) (l : List Ev) (w : World) (hs : StL w v s) (hsm : Small s) (hl : EVS w vl l) (hlen : l.length <= 140737488355328) (hn : ∀ i,i < l.length -> (l.getD i dE).ord.length <= 140737488355328) :
  Calls Tryz.prog 26 #[v,vl] w (RepV w (bckO s l)) := by
 obtain ⟨Post,hPost⟩ : ∃ P : Ending -> World -> Prop,P = RepV w (bckO s l) := ⟨_,rfl⟩
 rw [<- hPost]
 have HP : Hid (Post = RepV w (bckO s l)) := hPost
 have HM : Hid (∀ W,Up w W -> Calls Tryz.prog 79 #[v] W fun r w'=>r = .returned (.bool (decide (ff s = none))) /\ Up W w') := fun W u=>mayBe_ v s W (hs.up u) hsm
 have HC : Hid (∀ W,Up w W -> Calls Tryz.prog 80 #[v] W (CpPost W fun W' v'=>SOA W.heap.size W' v' s)) := fun W u=>copyA_ v s W (hs.up u) hsm
 have HR : Hid (∀ W,Calls Tryz.prog 81 #[] W fun x w'=>x = .returned (.agg tabV) /\ Up W w') := rules_
 obtain ⟨la,lc,rfl,-,hlc⟩ := evs_at hl
 have HL : Hid _ := hlc
 have HN : Hid _ := hn
 obtain ⟨vp,vc,vz,hv,h1,h2,h3⟩ := hs
 obtain ⟨a1,k1,rfl,-,-⟩ := lc_at h1
 obtain ⟨a2,k2,rfl,-,-⟩ := lc_at h2
 obtain ⟨a3,k3,rfl,-,-⟩ := zl_at h3
 unfold sv at hv
 clear h1 h2 h3 hl hlc hsm hPost hn
 subst hv
 cases hf : ff s with
 | some k =>
  have HF : Hid (bckO s l = none) := by unfold Hid bckO; rw [hf]; simp
  simp only [hf,reduceCtorEq,decide_false] at HM
  clear HC HR HL hlen HN hf
  go_enter Tryz.func26,Tryz.ntmps26
  go_wp2_with fail
  refine Calls.mono (HM.out _ (((Up.refl _).alloc _).alloc _)) ?_
  rintro r W1 ⟨rfl,u1⟩
  have HU : Hid (Up w W1) := (((Up.refl _).alloc _).alloc _).trans u1
  have g1 : W1.heap[w.heap.size + 1]? = some (.cells zS 27 (0,0)) := u1.heap (heap_alloc2_new _ _ _)
  have HG : Hid _ := setRow_heap W1 (w.heap.size + 1) zS _ _ zS g1
  clear u1
  go_wp2_with (refine wpList_store_row rfl 27 (.tmp 4) (.tmp 15) rfl (w.heap.size + 1) zS rfl rfl 27 zS g1 infoSt rfl (seven_one _ _ _ _ _ _ _ _ _ _ _ _ _) ?_)
  obtain ⟨p0,p1,p2,p3,p4,p5,p6⟩ := seven_cells HG.out
  have HU5 : Hid (Up w (W1.setRow (w.heap.size + 1) zS)) := up_setRow HU.out (by omega) _
  clear HG
  generalize W1.setRow (w.heap.size + 1) zS = W5 at *
  refine bodyPost_ret (v := .tuple #[.agg #[.slice none 0 0,.slice none 0 0,.slice none 0 0,.int .i32 0,.int .i64 0,.int .i8 0,.int .i64 0],.int .i64 0,.int .i64 10]) (by simp [results,Tryz.results26,go_sem,p0,p1,p2,p3,p4,p5,p6]) rfl ?_
  rw [HP.out,HF.out]
  exact ⟨_,rfl,noS_soa _ _,HU5.out⟩
 | none =>
  have HF : Hid (bckO s l = some (bck l l.length s)) := by unfold Hid bckO; rw [hf]; simp
  have HO : Hid (ff s = none) := hf
  simp only [hf,decide_true] at HM
  clear hf
  go_enter Tryz.func26,Tryz.ntmps26
  go_wp2_with fail
  refine Calls.mono (HM.out _ (((Up.refl _).alloc _).alloc _)) ?_
  rintro r W1 ⟨rfl,u1⟩
  have HU : Hid (Up w W1) := (((Up.refl _).alloc _).alloc _).trans u1
  have g0 : W1.heap[w.heap.size]? = _ := u1.heap (heap_alloc2_old _ _ _)
  have g1 : W1.heap[w.heap.size + 1]? = some (.cells zS 27 (0,0)) := u1.heap (heap_alloc2_new _ _ _)
  obtain ⟨q0,q1,q2,q3,q4,q5,q6⟩ := seven_cells g0
  have HG1 : Hid _ := g1
  clear u1 g0 g1 HM
  go_wp2_with fail
  clear q0 q1 q2 q3 q4 q5 q6
  refine Calls.mono (HC.out _ HU.out) ?_
  rintro r W2 ⟨v',rfl,so,u2⟩
  clear HC
  go_wp2_with fail
  refine Calls.mono (HR.out _) ?_
  rintro r W3 ⟨rfl,u3⟩
  clear HR
  have so3 := so.up u3
  have HU3 : Hid (Up W1 W3) := u2.trans u3
  clear so u2 u3
  have HSz : Hid (W1.heap.size <= W3.heap.size) := HU3.out.size
  obtain ⟨vp,vc,vz,hv,o1,o2,vs,o3,o4,o5⟩ := id so3
  obtain ⟨xa1,xk1,rfl⟩ := row_val o1
  obtain ⟨xa2,xk2,rfl⟩ := row_val o2
  obtain ⟨xa3,xk3,rfl⟩ := row_val o3
  clear o1 o2 o3 o4 o5
  unfold sv at hv
  subst hv
  have hb0 : ((W3.alloc (.cells zS 27)).alloc (.cells nilV 107)).heap[W3.heap.size]? = some (.cells zS 27 (0,0)) := heap_alloc2_old _ _ _
  have hb1 : ((W3.alloc (.cells zS 27)).alloc (.cells nilV 107)).heap[W3.heap.size + 1]? = some (.cells nilV 107 (0,0)) := heap_alloc2_new _ _ _
  obtain ⟨A,hA⟩ : ∃ A : Array Value,A = #[.slice xa1 s.ps.length xk1,.slice xa2 s.cs.length xk2,.slice xa3 s.zs.length xk3,.int .i32 s.turn,.int .i64 s.whose,.int .i8 s.fin,.int .i64 s.winner] := ⟨_,rfl⟩
  have hb2 : (((W3.alloc (.cells zS 27)).alloc (.cells nilV 107)).setRow W3.heap.size A).heap[W3.heap.size + 1]? = some (.cells nilV 107 (0,0)) := by rw [setRow_other _ _ _ _ (by omega)]; exact hb1
  rw [<- hA]
  rw [<- hA] at so3
  have hA1 : A.size = 7 := by rw [hA]; rfl
  have hA2 : A.all (·.oneCell') = true := by rw [hA]; exact seven_one _ _ _ _ _ _ _ _ _ _ _ _ _
  have HA : Hid _ := hA
  clear hA
  obtain ⟨b,hb⟩ : ∃ b,b = W3.heap.size := ⟨_,rfl⟩
  obtain ⟨B,hB⟩ : ∃ B,B = W1.heap.size := ⟨_,rfl⟩
  obtain ⟨W4,hW4⟩ : ∃ W4,((((W3.alloc (.cells zS 27)).alloc (.cells nilV 107)).setRow W3.heap.size A).setRow (W3.heap.size + 1) tabV) = W4 := ⟨_,rfl⟩
  have HI : Hid (Own B W4 b s /\ W4.heap[b + 1]? = some (.cells tabV 107 (0,0)) /\ Up W1 W4) := by
   have hu : Up W3 W4 := by rw [<- hW4]; exact up_row (up_row (((Up.refl _).alloc _).alloc _) (Nat.le_refl _) _) (by omega) _
   refine ⟨⟨.slice xa1 s.ps.length xk1,.slice xa2 s.cs.length xk2,.slice xa3 s.zs.length xk3,?_,?_⟩,?_,HU3.out.trans hu⟩
   ·unfold OwnC
    rw [<- hW4,hb,setRow_other _ _ _ _ (by omega),setRow_heap _ _ _ _ _ _ hb0,HA.out]
   ·have h9 := so3.up hu
    rw [HA.out] at h9
    rw [hB]
    exact h9
   ·rw [<- hW4,hb]
    exact setRow_heap _ _ _ _ _ _ hb2
  go_wp2_with (first | (refine wpList_store_row rfl 27 (.tmp 7) (.tmp 17) rfl W3.heap.size A rfl rfl 27 zS hb0 (by rw [hA1]; exact infoSt) (by rw [hA1]; rfl) hA2 ?_) | (refine wpList_store_row rfl 107 (.tmp 8) (.tmp 18) rfl (W3.heap.size + 1) tabV rfl rfl 107 nilV hb2 infoTab (by rw [tabV_size]; rfl) tabV_one ?_; refine wpList_world hW4 ?_))
  rw [<- hb]
  have HB : Hid (w.heap.size + 1 < B /\ B <= b /\ B = W1.heap.size) := ⟨by rw [hB]; exact (Array.getElem?_eq_some_iff.1 HG1.out).1,by rw [hb,hB]; exact HSz.out,hB⟩
  clear hW4 hb0 hb1 hb2 hb hB so3 hA1 hA2 HA HSz HU3
  obtain ⟨n,hn⟩ : ∃ n,n = l.length := ⟨_,rfl⟩
  rw [<- hn] at hlen ⊢
  have HNn : Hid (n = l.length) := hn
  clear hn
  go_loopw [9] (fun s9 W=>∃ (k : Nat) (c : Stt),k <= n /\ s9 = .int .i64 ((k : Int) - 1) /\ Own B W b c /\ W.heap[b + 1]? = some (.cells tabV 107 (0,0)) /\ ff c = none /\ bck l l.length s = bck l k c /\ Up W1 W) (fun s9 _=>(intOf s9 + 1).toNat)
  case atStart =>
   obtain ⟨i1,i2,i3⟩ := HI.out
   exact ⟨n,s,Nat.le_refl _,rfl,i1,i2,HO.out,by rw [<- HNn.out],i3⟩
  case round =>
   clear HI HO
   obtain ⟨k,c,hk,rfl,hown,htab,hok,hrep,hu⟩ := hrel
   have hres := hu.heap HG1.out
   obtain ⟨ya1,yk1,ya2,yk2,ya3,yk3,hrow,hsoa⟩ := own_at hown
   obtain ⟨C,hC⟩ : ∃ C : Array Value,C = #[.slice ya1 c.ps.length yk1,.slice ya2 c.cs.length yk2,.slice ya3 c.zs.length yk3,.int .i32 c.turn,.int .i64 c.whose,.int .i8 c.fin,.int .i64 c.winner] := ⟨_,rfl⟩
   have hC1 : C.size = 7 := by rw [hC]; rfl
   have hC2 : C.all (·.oneCell') = true := by rw [hC]; exact seven_one _ _ _ _ _ _ _ _ _ _ _ _ _
   cases k with
   | succ k =>
    have hge : (((k + 1 : Nat) : Int) - 1) = (k : Int) := by omega
    rw [hge]
    have hlt : k < n := by omega
    have hlt2 : (k : Int) < (n : Int) := by omega
    obtain ⟨lb,lo,hla,hlb,hev⟩ := HL.out (by rw [<- HNn.out]; omega)
    subst hla
    obtain ⟨oa,oc,hc12,hil⟩ := hev k (by rw [<- HNn.out]; exact hlt)
    have hn1 := HN.out k (by rw [<- HNn.out]; exact hlt)
    rw [show bck l (k + 1) c = (if okB (l.getD k dE) && leadB c (l.getD k dE) then bck l k (aheadS c (l.getD k dE)) else .inl k) from rfl] at hrep
    clear hev hge
    generalize l.getD k dE = e at *
    have hupw : Up w wr := HU.out.trans hu
    have hR1 := rowOf_size e
    have hR2 := rowOf_one e
    have HRA : Hid (∀ W,Calls Tryz.prog 82 #[.agg tabV,.agg #[.int .i8 e.kind,.int .i8 e.field,.int .i64 e.card,.int .i64 e.player,.int .i64 e.other,.int .i64 e.fr,.int .i64 e.frAt,.int .i64 e.to_,.int .i64 e.toAt,.int .i32 e.was,.int .i32 e.now,.slice oa e.ord.length oc]] W fun x w'=>x = .returned (.tuple #[.agg (rowOf e),.bool (okB e)]) /\ Up W w') := fun W=>ruleAny_ e oa oc W
    obtain ⟨R,hR⟩ : ∃ R,R = rowOf e := ⟨_,rfl⟩
    rw [<- hR] at hR1 hR2 HRA
    rw [<- hC] at hrow hsoa
    have HT : Hid _ := And.intro hok (And.intro hrep (And.intro hil (And.intro hn1 (And.intro hR hC))))
    clear hR hC hok hrep hil hn1
    have hk0 : (0 : Int) <= (k : Int) := by omega
    go_wp2_with fail
    refine (fun key : ∀ (W : World) (p : Nat),Up wr W -> W.heap[p]? = some (.cells R 106 (0,0)) -> wr.heap.size <= p -> (?G7 : World -> Nat -> Prop) W p=>?main7) ?kp7
    case main7 =>
     refine wp_region_held_drew (S := fun W9=>Up wr W9) (by kernel_rfl) (Up.drew (Up.refl _)) (fun hHeld=>?_)
     have Ua0 : Up wr wr.drew := Up.drew (Up.refl _)
     refine tk (i := 0) (v := ?_) rfl (Or.inl ⟨by rfl,?_⟩) ?_
     rotate_left
     ·intro w9 hSw
      refine (exec_load_row 107 (.tmp 8) (by rfl) (b + 1) (by rfl) 107 tabV (0,0) _ Tryz.underlying107 (by rfl) infoTab w9 (hSw.heap htab)).trans ?_
      with_reducible rfl
     simp only [Act.put,qa1,qa2,qa3,qa4,qa5]
     refine tk (i := 1) (v := ?_) rfl (Or.inl ⟨by rfl,?_⟩) ?_
     rotate_left
     ·intro w9 hSw
      go_simp
      try with_reducible rfl
     simp only [Act.put,qa1,qa2,qa3,qa4,qa5,qa6]
     refine tk (i := 2) (v := ?_) rfl (Or.inl ⟨by rfl,?_⟩) ?_
     rotate_left
     ·intro w9 hSw
      go_simp
      try with_reducible rfl
     simp only [Act.put,qa1,qa2,qa3,qa4,qa5,qa6]
     refine tk (i := 3) (v := ?_) rfl (Or.inl ⟨by rfl,?_⟩) ?_
     rotate_left
     ·intro w9 hSw
      go_simp
      try with_reducible rfl
     simp only [Act.put,qa1,qa2,qa3,qa4,qa5,qa6]
     refine tk (i := 4) (v := ?_) rfl (Or.inl ⟨by rfl,?_⟩) ?_
     rotate_left
     ·intro w9 hSw
      obtain ⟨x0,x1,x2,x3,x4,x5,x6,x7,x8,x9,x10,x11⟩ := hc12 w9 (hupw.trans hSw)
      go_simp
      try with_reducible rfl
     simp only [Act.put,qa1,qa2,qa3,qa4,qa5,qa6]
     refine wpAnyH_ready (rs := [5,9]) (by kernel_rfl) (by simp) ?_
     refine AllReadyH.cons rfl (fun K hK=>?_) (AllReadyH.cons rfl (fun K hK=>?_) AllReadyH.nil)
     ·simp only [qa4,qa5,qa6]
      go_simp
      refine Calls.mono (HRA.out _) ?_
      rintro r9 Wa1 ⟨rfl,ua1⟩
      go_simp
      have Ua1 := Ua0.trans ua1
      refine hK.out _ _ ?_ (fun hHeld=>?_)
      ·exact Ua1
      clear hK K
      try simp only [Act.put,qa1,qa2,qa3]
      have hSS := Ua1
      refine tk (i := 6) (v := ?_) rfl (Or.inl ⟨by rfl,?_⟩) ?_
      rotate_left
      ·intro w9 hSw
       go_simp
       try with_reducible rfl
      simp only [Act.put,qa1,qa2,qa3,qa4,qa5,qa6]
      refine tk (i := 7) (v := ?_) rfl (Or.inl ⟨by rfl,?_⟩) ?_
      rotate_left
      ·intro w9 hSw
       go_simp
       try with_reducible rfl
      simp only [Act.put,qa1,qa2,qa3,qa4,qa5,qa6]
      refine tk (i := 8) (v := ?_) rfl (Or.inl ⟨by rfl,?_⟩) ?_
      rotate_left
      ·intro w9 hSw
       go_simp
       try with_reducible rfl
      simp only [Act.put,qa1,qa2,qa3,qa4,qa5,qa6]
      refine wpAnyH_ready (rs := [9]) (by kernel_rfl) (by simp) ?_
      refine AllReadyH.cons rfl (fun K hK=>?_) AllReadyH.nil
      simp only [qa4,qa5,qa6]
      go_simp
      refine hK.out _ _ ?_ (fun hHeld=>?_)
      ·exact Ua1.alloc _
      clear hK K
      try simp only [Act.put,qa1,qa2,qa3]
      obtain ⟨p,hp⟩ : ∃ p,p = (Wa1).heap.size := ⟨_,rfl⟩
      obtain ⟨Wa2,hW1⟩ : ∃ W1,(Wa1).alloc (.cells zR 106) = W1 := ⟨_,rfl⟩
      refine wpAnyH_world hW1 ?_
      have h9 : Wa1.heap.size = p := hp.symm
      simp only [h9]
      clear h9
      have ua2 : Up (Wa1) Wa2 := by rw [<- hW1]; exact (Up.refl _).alloc _
      have ep : Wa2.heap[p]? = some (.cells zR 106 (0,0)) := by rw [hp,<- hW1]; exact heap_alloc_new _ _
      have lp : wr.heap.size <= p := by rw [hp]; exact Ua1.size
      have Ua2 := Ua1.trans ua2
      clear hHeld hW1 hp
      have hSS := Ua2
      refine wpAnyH_ready (rs := [10]) (by kernel_rfl) (by simp) ?_
      refine AllReadyH.cons rfl (fun K hK=>?_) AllReadyH.nil
      simp only [qa4,qa5,qa6]
      refine stepH_store (by rfl) 106 (.tmp 10) (.tmp 33) (by rfl) p R (by rfl) (by rfl) 106 zR ep (by rw [hR1]; exact infoRule) (by rw [hR1]; rfl) (hR2) ?_
      refine hK.out _ _ ?_ (fun hHeld=>?_)
      ·exact up_setRow Ua2 lp _
      clear hK K
      simp only [Act.put]
      obtain ⟨Wa3,hW1⟩ : ∃ W1,(Wa2).setRow p R = W1 := ⟨_,rfl⟩
      refine wpAnyH_world hW1 ?_
      have Ua3 : Up wr Wa3 := by rw [<- hW1]; exact up_setRow Ua2 lp _
      have ep : Wa3.heap[p]? = some (.cells R 106 (0,0)) := by rw [<- hW1]; exact setRow_heap _ _ _ _ _ _ ep
      clear hHeld hW1
      have hSS := Ua3
      refine tk (i := 11) (v := ?_) rfl (Or.inl ⟨by rfl,?_⟩) ?_
      rotate_left
      ·intro w9 hSw
       go_simp
       try with_reducible rfl
      simp only [Act.put,qa1,qa2,qa3,qa4,qa5,qa6]
      refine wpAnyH_done (by kernel_rfl) ?_ _
      exact key Wa3 p Ua3 ep lp
     ·simp only [qa4,qa5,qa6]
      go_simp
      refine hK.out _ _ ?_ (fun hHeld=>?_)
      ·exact Ua0.alloc _
      clear hK K
      try simp only [Act.put,qa1,qa2,qa3]
      obtain ⟨p,hp⟩ : ∃ p,p = (wr.drew).heap.size := ⟨_,rfl⟩
      obtain ⟨Wa1,hW1⟩ : ∃ W1,(wr.drew).alloc (.cells zR 106) = W1 := ⟨_,rfl⟩
      refine wpAnyH_world hW1 ?_
      have h9 : wr.heap.size = p := hp.symm
      simp only [h9]
      clear h9
      have ua1 : Up (wr.drew) Wa1 := by rw [<- hW1]; exact (Up.refl _).alloc _
      have ep : Wa1.heap[p]? = some (.cells zR 106 (0,0)) := by rw [hp,<- hW1]; exact heap_alloc_new _ _
      have lp : wr.heap.size <= p := by rw [hp]; exact Ua0.size
      have Ua1 := Ua0.trans ua1
      clear hHeld hW1 hp
      have hSS := Ua1
      refine wpAnyH_ready (rs := [5]) (by kernel_rfl) (by simp) ?_
      refine AllReadyH.cons rfl (fun K hK=>?_) AllReadyH.nil
      simp only [qa4,qa5,qa6]
      go_simp
      refine Calls.mono (HRA.out _) ?_
      rintro r9 Wa2 ⟨rfl,ua2⟩
      go_simp
      have Ua2 := Ua1.trans ua2
      have ep := ua2.heap ep
      refine hK.out _ _ ?_ (fun hHeld=>?_)
      ·exact Ua2
      clear hK K
      try simp only [Act.put,qa1,qa2,qa3]
      have hSS := Ua2
      refine tk (i := 6) (v := ?_) rfl (Or.inl ⟨by rfl,?_⟩) ?_
      rotate_left
      ·intro w9 hSw
       go_simp
       try with_reducible rfl
      simp only [Act.put,qa1,qa2,qa3,qa4,qa5,qa6]
      refine tk (i := 7) (v := ?_) rfl (Or.inl ⟨by rfl,?_⟩) ?_
      rotate_left
      ·intro w9 hSw
       go_simp
       try with_reducible rfl
      simp only [Act.put,qa1,qa2,qa3,qa4,qa5,qa6]
      refine tk (i := 8) (v := ?_) rfl (Or.inl ⟨by rfl,?_⟩) ?_
      rotate_left
      ·intro w9 hSw
       go_simp
       try with_reducible rfl
      simp only [Act.put,qa1,qa2,qa3,qa4,qa5,qa6]
      refine wpAnyH_ready (rs := [10]) (by kernel_rfl) (by simp) ?_
      refine AllReadyH.cons rfl (fun K hK=>?_) AllReadyH.nil
      simp only [qa4,qa5,qa6]
      refine stepH_store (by rfl) 106 (.tmp 10) (.tmp 33) (by rfl) p R (by rfl) (by rfl) 106 zR ep (by rw [hR1]; exact infoRule) (by rw [hR1]; rfl) (hR2) ?_
      refine hK.out _ _ ?_ (fun hHeld=>?_)
      ·exact up_setRow Ua2 lp _
      clear hK K
      simp only [Act.put]
      obtain ⟨Wa3,hW1⟩ : ∃ W1,(Wa2).setRow p R = W1 := ⟨_,rfl⟩
      refine wpAnyH_world hW1 ?_
      have Ua3 : Up wr Wa3 := by rw [<- hW1]; exact up_setRow Ua2 lp _
      have ep : Wa3.heap[p]? = some (.cells R 106 (0,0)) := by rw [<- hW1]; exact setRow_heap _ _ _ _ _ _ ep
      clear hHeld hW1
      have hSS := Ua3
      refine tk (i := 11) (v := ?_) rfl (Or.inl ⟨by rfl,?_⟩) ?_
      rotate_left
      ·intro w9 hSw
       go_simp
       try with_reducible rfl
      simp only [Act.put,qa1,qa2,qa3,qa4,qa5,qa6]
      refine wpAnyH_done (by kernel_rfl) ?_ _
      exact key Wa3 p Ua3 ep lp
    case kp7 =>
     intro W7 p7 HU7 hp7 hlp7
     clear HRA hR1 hR2
     have hrow7 := HU7.heap hrow
     have hres7 := HU7.heap hres
     have hupw7 := hupw.trans HU7
     have HW : Hid _ := And.intro hown (And.intro hu (And.intro HU7 (And.intro htab hsoa)))
     clear hown hu HU7 htab hsoa hrow hres hupw
     cases hob : okB e with
     | false =>
      have HF2 : Hid (bckO s l = some (.inl k)) := by
       have h9 := HT.out.2.1
       rw [hob,Bool.false_and,if_neg (by decide)] at h9
       unfold Hid
       rw [HF.out,h9]
      go_wp2_with fail
      refine (fun key8 : ∀ W : World,Up W7 W -> (?G8 : World -> Prop) W=>?main8) ?kp8
      case main8 =>
       refine wp_region_held_drew (S := fun W9=>Up W7 W9) (by kernel_rfl) (Up.drew (Up.refl _)) (fun hHeld=>?_)
       have Ub0 : Up W7 W7.drew := Up.drew (Up.refl _)
       refine tk (i := 0) (v := ?_) rfl (Or.inl ⟨by rfl,?_⟩) ?_
       rotate_left
       ·intro w9 hSw
        go_simp
        try with_reducible rfl
       simp only [Act.put,qa1,qa2,qa3,qa4,qa5]
       refine tk (i := 1) (v := ?_) rfl (Or.inl ⟨by rfl,?_⟩) ?_
       rotate_left
       ·intro w9 hSw
        go_simp
        try with_reducible rfl
       simp only [Act.put,qa1,qa2,qa3,qa4,qa5,qa6]
       refine tk (i := 2) (v := ?_) rfl (Or.inl ⟨by rfl,?_⟩) ?_
       rotate_left
       ·intro w9 hSw
        go_simp
        try with_reducible rfl
       simp only [Act.put,qa1,qa2,qa3,qa4,qa5,qa6]
       refine tk (i := 3) (v := undef) rfl (Or.inr ⟨by rfl,rfl⟩) ?_
       simp only [Act.put,qa1,qa2,qa3,qa4,qa5,qa6]
       refine tk (i := 4) (v := undef) rfl (Or.inr ⟨by rfl,rfl⟩) ?_
       simp only [Act.put,qa1,qa2,qa3,qa4,qa5,qa6]
       refine tk (i := 5) (v := undef) rfl (Or.inr ⟨by rfl,rfl⟩) ?_
       simp only [Act.put,qa1,qa2,qa3,qa4,qa5,qa6]
       refine tk (i := 6) (v := undef) rfl (Or.inr ⟨by rfl,rfl⟩) ?_
       simp only [Act.put,qa1,qa2,qa3,qa4,qa5,qa6]
       refine tk (i := 7) (v := undef) rfl (Or.inr ⟨by rfl,rfl⟩) ?_
       simp only [Act.put,qa1,qa2,qa3,qa4,qa5,qa6]
       refine tk (i := 8) (v := undef) rfl (Or.inr ⟨by rfl,rfl⟩) ?_
       simp only [Act.put,qa1,qa2,qa3,qa4,qa5,qa6]
       refine tk (i := 9) (v := undef) rfl (Or.inr ⟨by rfl,rfl⟩) ?_
       simp only [Act.put,qa1,qa2,qa3,qa4,qa5,qa6]
       refine tk (i := 10) (v := undef) rfl (Or.inr ⟨by rfl,rfl⟩) ?_
       simp only [Act.put,qa1,qa2,qa3,qa4,qa5,qa6]
       refine tk (i := 11) (v := undef) rfl (Or.inr ⟨by rfl,rfl⟩) ?_
       simp only [Act.put,qa1,qa2,qa3,qa4,qa5,qa6]
       refine tk (i := 12) (v := ?_) rfl (Or.inl ⟨by rfl,?_⟩) ?_
       rotate_left
       ·intro w9 hSw
        go_simp
        try with_reducible rfl
       simp only [Act.put,qa1,qa2,qa3,qa4,qa5,qa6]
       refine wpAnyH_done (by kernel_rfl) ?_ _
       exact key8 W7.drew Ub0
      case kp8 =>
       intro W8 U8
       have hres8 := U8.heap hres7
       have hres2 : (W8.setRow (w.heap.size + 1) zS).heap[w.heap.size + 1]? = some (.cells #[.slice none 0 0,.slice none 0 0,.slice none 0 0,.int .i32 0,.int .i64 0,.int .i8 0,.int .i64 0] 27 (0,0)) := setRow_heap W8 (w.heap.size + 1) zS _ _ zS hres8
       have HU8 : Hid (Up w W8) := hupw7.trans U8
       clear hres7 U8
       go_wp2_with (first | (refine wpList_store_row rfl 27 (.tmp 4) (.tmp 48) rfl (w.heap.size + 1) zS rfl rfl 27 zS hres8 infoSt rfl (seven_one _ _ _ _ _ _ _ _ _ _ _ _ _) ?_))
       clear hres8
       obtain ⟨p0,p1,p2,p3,p4,p5,p6⟩ := seven_cells hres2
       have HU5 : Hid (Up w (W8.setRow (w.heap.size + 1) zS)) := up_setRow HU8.out (by omega) _
       clear hres2
       generalize W8.setRow (w.heap.size + 1) zS = W9 at *
       refine bodyPost_ret (v := .tuple #[.agg #[.slice none 0 0,.slice none 0 0,.slice none 0 0,.int .i32 0,.int .i64 0,.int .i8 0,.int .i64 0],.int .i64 k,.int .i64 11]) (by simp [results,Tryz.results26,go_sem,p0,p1,p2,p3,p4,p5,p6]) rfl ?_
       rw [HP.out,HF2.out]
       exact ⟨_,rfl,noS_soa _ _,HU5.out⟩
     | true =>
      have hkd : kindB e.kind = true := by
       have h9 := hob
       unfold okB at h9
       rw [Bool.and_eq_true] at h9
       exact h9.1
      have hrw := rowOf_at hkd
      rw [<- HT.out.2.2.2.2.1] at hrw
      have HRW : Hid _ := hrw
      have hen1 := leads_enters hkd
      have hen2 := undo_enters hkd
      have HLE : Hid (∀ W,Up W7 W -> Calls Tryz.prog (leadsN e.kind) #[.agg C,.agg #[.int .i8 e.kind,.int .i8 e.field,.int .i64 e.card,.int .i64 e.player,.int .i64 e.other,.int .i64 e.fr,.int .i64 e.frAt,.int .i64 e.to_,.int .i64 e.toAt,.int .i32 e.was,.int .i32 e.now,.slice oa e.ord.length oc]] W fun r w'=>r = .returned (.bool (leadB c e)) /\ Up W w') := fun W u =>
       leads_ (.agg C) c e oa oc W hkd (SO.sl (SOA.so (HW.out.2.2.2.2.up (HW.out.2.2.1.trans u)))) (IL.up HT.out.2.2.1 (hupw7.trans u)) HT.out.2.2.2.1 (zone_le HT.out.1)
      clear hrw
      cases hfb : leadB c e with
      | false =>
       have HF2 : Hid (bckO s l = some (.inl k)) := by
        have h9 := HT.out.2.1
        rw [hob,hfb,Bool.and_false,if_neg (by decide)] at h9
        unfold Hid
        rw [HF.out,h9]
       rw [hfb] at HLE
       go_wp2_with fail
       refine (fun key8 : ∀ W : World,Up W7 W -> (?G8n : World -> Prop) W=>?main8n) ?kp8n
       case main8n =>
        refine wp_region_held_drew (S := fun W9=>Up W7 W9) (by kernel_rfl) (Up.drew (Up.refl _)) (fun hHeld=>?_)
        have Ub0 : Up W7 W7.drew := Up.drew (Up.refl _)
        refine tk (i := 0) (v := ?_) rfl (Or.inl ⟨by rfl,?_⟩) ?_
        rotate_left
        ·intro w9 hSw
         go_simp
         try with_reducible rfl
        simp only [Act.put,qa1,qa2,qa3,qa4,qa5]
        refine tk (i := 1) (v := ?_) rfl (Or.inl ⟨by rfl,?_⟩) ?_
        rotate_left
        ·intro w9 hSw
         go_simp
         try with_reducible rfl
        simp only [Act.put,qa1,qa2,qa3,qa4,qa5,qa6]
        refine tk (i := 2) (v := ?_) rfl (Or.inl ⟨by rfl,?_⟩) ?_
        rotate_left
        ·intro w9 hSw
         go_simp
         try with_reducible rfl
        simp only [Act.put,qa1,qa2,qa3,qa4,qa5,qa6]
        refine tk (i := 3) (v := ?_) rfl (Or.inl ⟨by rfl,?_⟩) ?_
        rotate_left
        ·intro w9 hSw
         go_simp
         try with_reducible rfl
        simp only [Act.put,qa1,qa2,qa3,qa4,qa5,qa6]
        refine tk (i := 4) (v := ?_) rfl (Or.inl ⟨by rfl,?_⟩) ?_
        rotate_left
        ·intro w9 hSw
         have r2 : w9.cell? ⟨p7,2,none⟩ = some (.func (.func (leadsN e.kind)) #[] #[]) := by rw [World.cell?,hSw.heap hp7]; exact HRW.out.2.1
         go_simp
         try with_reducible rfl
        simp only [Act.put,qa1,qa2,qa3,qa4,qa5,qa6]
        refine tk (i := 5) (v := ?_) rfl (Or.inl ⟨by rfl,?_⟩) ?_
        rotate_left
        ·intro w9 hSw
         refine (exec_load_row 27 (.tmp 7) (by rfl) b (by rfl) 27 C (0,0) _ Tryz.underlying27 (by rfl) (by rw [hC1]; exact infoSt) w9 (hSw.heap hrow7)).trans ?_
         with_reducible rfl
        simp only [Act.put,qa1,qa2,qa3,qa4,qa5,qa6]
        refine tk (i := 6) (v := ?_) rfl (Or.inl ⟨by rfl,?_⟩) ?_
        rotate_left
        ·intro w9 hSw
         go_simp
         try with_reducible rfl
        simp only [Act.put,qa1,qa2,qa3,qa4,qa5,qa6]
        refine tk (i := 7) (v := ?_) rfl (Or.inl ⟨by rfl,?_⟩) ?_
        rotate_left
        ·intro w9 hSw
         go_simp
         try with_reducible rfl
        simp only [Act.put,qa1,qa2,qa3,qa4,qa5,qa6]
        refine tk (i := 8) (v := ?_) rfl (Or.inl ⟨by rfl,?_⟩) ?_
        rotate_left
        ·intro w9 hSw
         go_simp
         try with_reducible rfl
        simp only [Act.put,qa1,qa2,qa3,qa4,qa5,qa6]
        refine tk (i := 9) (v := ?_) rfl (Or.inl ⟨by rfl,?_⟩) ?_
        rotate_left
        ·intro w9 hSw
         obtain ⟨x0,x1,x2,x3,x4,x5,x6,x7,x8,x9,x10,x11⟩ := hc12 w9 (hupw7.trans hSw)
         go_simp
         try with_reducible rfl
        simp only [Act.put,qa1,qa2,qa3,qa4,qa5,qa6]
        refine wpAnyH_ready (rs := [10]) (by kernel_rfl) (by simp) ?_
        refine AllReadyH.cons rfl (fun K hK=>?_) AllReadyH.nil
        simp only [qa4,qa5,qa6]
        go_simp
        refine Calls.mono (HLE.out _ Ub0) ?_
        rintro r9 Wb1 ⟨rfl,ub1⟩
        go_simp
        have Ub1 := Ub0.trans ub1
        refine hK.out _ _ ?_ (fun hHeld=>?_)
        ·exact Ub1
        clear hK K
        try simp only [Act.put,qa1,qa2,qa3]
        have hSS := Ub1
        refine tk (i := 11) (v := ?_) rfl (Or.inl ⟨by rfl,?_⟩) ?_
        rotate_left
        ·intro w9 hSw
         go_simp
         try with_reducible rfl
        simp only [Act.put,qa1,qa2,qa3,qa4,qa5,qa6]
        refine tk (i := 12) (v := ?_) rfl (Or.inl ⟨by rfl,?_⟩) ?_
        rotate_left
        ·intro w9 hSw
         go_simp
         try with_reducible rfl
        simp only [Act.put,qa1,qa2,qa3,qa4,qa5,qa6]
        refine wpAnyH_done (by kernel_rfl) ?_ _
        exact key8 Wb1 Ub1
       case kp8n =>
        intro W8 U8
        have hres8 := U8.heap hres7
        have hres2 : (W8.setRow (w.heap.size + 1) zS).heap[w.heap.size + 1]? = some (.cells #[.slice none 0 0,.slice none 0 0,.slice none 0 0,.int .i32 0,.int .i64 0,.int .i8 0,.int .i64 0] 27 (0,0)) := setRow_heap W8 (w.heap.size + 1) zS _ _ zS hres8
        have HU8 : Hid (Up w W8) := hupw7.trans U8
        clear hres7 U8
        go_wp2_with (first | (refine wpList_store_row rfl 27 (.tmp 4) (.tmp 48) rfl (w.heap.size + 1) zS rfl rfl 27 zS hres8 infoSt rfl (seven_one _ _ _ _ _ _ _ _ _ _ _ _ _) ?_))
        clear hres8
        obtain ⟨p0,p1,p2,p3,p4,p5,p6⟩ := seven_cells hres2
        have HU5 : Hid (Up w (W8.setRow (w.heap.size + 1) zS)) := up_setRow HU8.out (by omega) _
        clear hres2
        generalize W8.setRow (w.heap.size + 1) zS = W9 at *
        refine bodyPost_ret (v := .tuple #[.agg #[.slice none 0 0,.slice none 0 0,.slice none 0 0,.int .i32 0,.int .i64 0,.int .i8 0,.int .i64 0],.int .i64 k,.int .i64 11]) (by simp [results,Tryz.results26,go_sem,p0,p1,p2,p3,p4,p5,p6]) rfl ?_
        rw [HP.out,HF2.out]
        exact ⟨_,rfl,noS_soa _ _,HU5.out⟩
      | true =>
       have HF2 : Hid (bck l l.length s = bck l k (aheadS c e)) := by
        have h9 := HT.out.2.1
        rw [hob,hfb,Bool.and_true,if_pos rfl] at h9
        exact h9
       rw [hfb] at HLE
       go_wp2_with fail
       refine (fun key8 : ∀ W : World,Up W7 W -> (?G8y : World -> Prop) W=>?main8y) ?kp8y
       case main8y =>
        refine wp_region_held_drew (S := fun W9=>Up W7 W9) (by kernel_rfl) (Up.drew (Up.refl _)) (fun hHeld=>?_)
        have Ub0 : Up W7 W7.drew := Up.drew (Up.refl _)
        refine tk (i := 0) (v := ?_) rfl (Or.inl ⟨by rfl,?_⟩) ?_
        rotate_left
        ·intro w9 hSw
         go_simp
         try with_reducible rfl
        simp only [Act.put,qa1,qa2,qa3,qa4,qa5]
        refine tk (i := 1) (v := ?_) rfl (Or.inl ⟨by rfl,?_⟩) ?_
        rotate_left
        ·intro w9 hSw
         go_simp
         try with_reducible rfl
        simp only [Act.put,qa1,qa2,qa3,qa4,qa5,qa6]
        refine tk (i := 2) (v := ?_) rfl (Or.inl ⟨by rfl,?_⟩) ?_
        rotate_left
        ·intro w9 hSw
         go_simp
         try with_reducible rfl
        simp only [Act.put,qa1,qa2,qa3,qa4,qa5,qa6]
        refine tk (i := 3) (v := ?_) rfl (Or.inl ⟨by rfl,?_⟩) ?_
        rotate_left
        ·intro w9 hSw
         go_simp
         try with_reducible rfl
        simp only [Act.put,qa1,qa2,qa3,qa4,qa5,qa6]
        refine tk (i := 4) (v := ?_) rfl (Or.inl ⟨by rfl,?_⟩) ?_
        rotate_left
        ·intro w9 hSw
         have r2 : w9.cell? ⟨p7,2,none⟩ = some (.func (.func (leadsN e.kind)) #[] #[]) := by rw [World.cell?,hSw.heap hp7]; exact HRW.out.2.1
         go_simp
         try with_reducible rfl
        simp only [Act.put,qa1,qa2,qa3,qa4,qa5,qa6]
        refine tk (i := 5) (v := ?_) rfl (Or.inl ⟨by rfl,?_⟩) ?_
        rotate_left
        ·intro w9 hSw
         refine (exec_load_row 27 (.tmp 7) (by rfl) b (by rfl) 27 C (0,0) _ Tryz.underlying27 (by rfl) (by rw [hC1]; exact infoSt) w9 (hSw.heap hrow7)).trans ?_
         with_reducible rfl
        simp only [Act.put,qa1,qa2,qa3,qa4,qa5,qa6]
        refine tk (i := 6) (v := ?_) rfl (Or.inl ⟨by rfl,?_⟩) ?_
        rotate_left
        ·intro w9 hSw
         go_simp
         try with_reducible rfl
        simp only [Act.put,qa1,qa2,qa3,qa4,qa5,qa6]
        refine tk (i := 7) (v := ?_) rfl (Or.inl ⟨by rfl,?_⟩) ?_
        rotate_left
        ·intro w9 hSw
         go_simp
         try with_reducible rfl
        simp only [Act.put,qa1,qa2,qa3,qa4,qa5,qa6]
        refine tk (i := 8) (v := ?_) rfl (Or.inl ⟨by rfl,?_⟩) ?_
        rotate_left
        ·intro w9 hSw
         go_simp
         try with_reducible rfl
        simp only [Act.put,qa1,qa2,qa3,qa4,qa5,qa6]
        refine tk (i := 9) (v := ?_) rfl (Or.inl ⟨by rfl,?_⟩) ?_
        rotate_left
        ·intro w9 hSw
         obtain ⟨x0,x1,x2,x3,x4,x5,x6,x7,x8,x9,x10,x11⟩ := hc12 w9 (hupw7.trans hSw)
         go_simp
         try with_reducible rfl
        simp only [Act.put,qa1,qa2,qa3,qa4,qa5,qa6]
        refine wpAnyH_ready (rs := [10]) (by kernel_rfl) (by simp) ?_
        refine AllReadyH.cons rfl (fun K hK=>?_) AllReadyH.nil
        simp only [qa4,qa5,qa6]
        go_simp
        refine Calls.mono (HLE.out _ Ub0) ?_
        rintro r9 Wb1 ⟨rfl,ub1⟩
        go_simp
        have Ub1 := Ub0.trans ub1
        refine hK.out _ _ ?_ (fun hHeld=>?_)
        ·exact Ub1
        clear hK K
        try simp only [Act.put,qa1,qa2,qa3]
        have hSS := Ub1
        refine tk (i := 11) (v := ?_) rfl (Or.inl ⟨by rfl,?_⟩) ?_
        rotate_left
        ·intro w9 hSw
         go_simp
         try with_reducible rfl
        simp only [Act.put,qa1,qa2,qa3,qa4,qa5,qa6]
        refine tk (i := 12) (v := ?_) rfl (Or.inl ⟨by rfl,?_⟩) ?_
        rotate_left
        ·intro w9 hSw
         go_simp
         try with_reducible rfl
        simp only [Act.put,qa1,qa2,qa3,qa4,qa5,qa6]
        refine wpAnyH_done (by kernel_rfl) ?_ _
        exact key8 Wb1 Ub1
       case kp8y =>
        intro W8 U8
        have r4 : W8.cell? ⟨p7,4,none⟩ = some (.func (.func (undoN e.kind)) #[] #[]) := by rw [World.cell?,U8.heap hp7]; exact HRW.out.2.2.2
        obtain ⟨x0,x1,x2,x3,x4,x5,x6,x7,x8,x9,x10,x11⟩ := hc12 W8 (hupw7.trans U8)
        have HU8 : Hid (Up wr W8) := HW.out.2.2.1.trans U8
        have HUw8 : Hid (Up w W8) := hupw7.trans U8
        have HDo : Hid (∀ n,Calls Tryz.prog (undoN e.kind) #[.pointer (some ⟨b,0,none⟩),.agg #[.int .i8 e.kind,.int .i8 e.field,.int .i64 e.card,.int .i64 e.player,.int .i64 e.other,.int .i64 e.fr,.int .i64 e.frAt,.int .i64 e.to_,.int .i64 e.toAt,.int .i32 e.was,.int .i32 e.now,.slice oa e.ord.length oc]] (W8.drewN n) fun x w'=>x = .returned (.tuple #[]) /\ Did B B b (aheadS c e) (W8.drewN n) w') := fun n =>
         undo_ B B b c e oa oc (W8.drewN n) hkd (HW.out.1.up (HU8.out.drewN n)) (Nat.le_refl _) (by rw [HB.out.2.2]; exact ((HW.out.2.1.trans HU8.out).drewN n).size) HB.out.2.1 (IL.up HT.out.2.2.1 (HUw8.out.drewN n)) (zone_le HT.out.1) hfb
        clear hrow7 hres7 U8 hp7 HLE
        go_wp2_with fail
        refine TailR.wp_region_seq 6 (by kernel_rfl) (by kernel_rfl) ?_
        simp only [List.take_succ_cons,List.take_zero,List.drop_succ_cons,List.drop_zero]
        repeat (go_big_quiet_step (fail))
        refine wpQuiet_nil ?_
        intro _ hw'
        obtain ⟨nq,hw''⟩ := hw'
        subst hw''
        clear x0 x1 x2 x3 x4 x5 x6 x7 x8 x9 x10 x11 r4
        go_wp2_with fail
        refine Calls.mono (HDo.out nq) ?_
        rintro r W10 ⟨rfl,hdid⟩
        have HD : Hid _ := hdid
        clear hdid
        go_wp2_with fail
        go_roundw
        case rel =>
         refine ⟨k,aheadS c e,by omega,by go_num,HD.out.1,?_,ok_ahead HT.out.1 (by rw [hob,hfb]; rfl),HF2.out,?_⟩
         ·exact HD.out.2.2 _ _ _ ((HU8.out.drewN nq).heap HW.out.2.2.2.1) (by decide) (by decide) (by decide) (by decide) (by decide)
         ·refine Below.trans (HW.out.2.1.trans (HU8.out.drewN nq)) ?_
          rw [<- HB.out.2.2]
          exact HD.out.2.1
        case measure=>simp [intOf] <;> omega
   | zero =>
    have hfin : bck l l.length s = .inr c := by rw [hrep]; rfl
    have HF2 : Hid (bckO s l = some (.inr c)) := by unfold Hid; rw [HF.out,hfin]
    rw [<- hC] at hrow hsoa
    have hres2 : (wr.setRow (w.heap.size + 1) C).heap[w.heap.size + 1]? = some (.cells #[.slice ya1 c.ps.length yk1,.slice ya2 c.cs.length yk2,.slice ya3 c.zs.length yk3,.int .i32 c.turn,.int .i64 c.whose,.int .i8 c.fin,.int .i64 c.winner] 27 (0,0)) := (setRow_heap wr (w.heap.size + 1) zS _ _ C hres).trans (by rw [hC])
    obtain ⟨p0,p1,p2,p3,p4,p5,p6⟩ := seven_cells hres2
    have HU5 : Hid (Up w (wr.setRow (w.heap.size + 1) C) /\ SOA w.heap.size (wr.setRow (w.heap.size + 1) C) (.agg C) c) := ⟨up_setRow (HU.out.trans hu) (by omega) _,SOA.less (hsoa.kp (Kp.row HB.out.1)) (by have := HB.out.1; omega)⟩
    have HC : Hid _ := hC
    have hz : (((0 : Nat) : Int) - 1) = -1 := by omega
    rw [hz]
    clear hfin hrep hown htab hok hu hres2 HF HL HN HNn hsoa HU hC hz
    go_wp2_with (first | (refine wpList_load_row rfl 27 (.tmp 7) rfl b rfl 27 C (0,0) _ hrow Tryz.underlying27 rfl (by rw [hC1]; exact infoSt) ?_) | (refine wpList_store_row rfl 27 (.tmp 4) (.tmp 57) rfl (w.heap.size + 1) C rfl rfl 27 zS hres (by rw [hC1]; exact infoSt) (by rw [hC1]; rfl) hC2 ?_))
    clear hrow hres
    generalize wr.setRow (w.heap.size + 1) C = W5 at *
    refine bodyPost_ret (v := .tuple #[.agg #[.slice ya1 c.ps.length yk1,.slice ya2 c.cs.length yk2,.slice ya3 c.zs.length yk3,.int .i32 c.turn,.int .i64 c.whose,.int .i8 c.fin,.int .i64 c.winner],.int .i64 0,.int .i64 0]) (by simp [results,Tryz.results26,go_sem,p0,p1,p2,p3,p4,p5,p6]) rfl ?_
    rw [HP.out,HF2.out]
    exact ⟨_,rfl,by rw [<- HC.out]; exact HU5.out.2,HU5.out.1⟩
end DE
end Go.Proofs.YtodhjjeagmjhdaaGreatDoor
