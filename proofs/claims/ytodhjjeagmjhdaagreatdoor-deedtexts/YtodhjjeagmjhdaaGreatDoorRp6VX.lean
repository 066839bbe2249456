/-
  Replay: all events of a list, one behind the other.
-/
import Derived.Test.YtodhjjeagmjhdaaGreatDoorRug6VX
namespace Go.Proofs.YtodhjjeagmjhdaaGreatDoor
open Go.RowKit
attribute [local go_sem ↓] Go.wp_at_zero Go.wp_at_succ
namespace DE
open Go.Proofs.YtodhjjeagmjhdaaGreatDoor.ST
theorem own_at {base b : Nat} {W : World} {s : Stt} (h : Own base W b s) : ∃ a1 k1 a2 k2 a3 k3,W.heap[b]? = some (.cells #[.slice a1 s.ps.length k1,.slice a2 s.cs.length k2,.slice a3 s.zs.length k3,.int .i32 s.turn,.int .i64 s.whose,.int .i8 s.fin,.int .i64 s.winner] 27 (0,0)) /\ SOA base W (.agg #[.slice a1 s.ps.length k1,.slice a2 s.cs.length k2,.slice a3 s.zs.length k3,.int .i32 s.turn,.int .i64 s.whose,.int .i8 s.fin,.int .i64 s.winner]) s := by
 obtain ⟨vp,vc,vz,h1,h2⟩ := h
 obtain ⟨vp',vc',vz',hv,o1,o2,vs,o3,o4,o5⟩ := id h2
 unfold sv at hv
 simp only [Value.agg.injEq,Array.mk.injEq,List.cons.injEq,and_true] at hv
 obtain ⟨rfl,rfl,rfl⟩ := hv
 obtain ⟨a1,k1,rfl⟩ := row_val o1
 obtain ⟨a2,k2,rfl⟩ := row_val o2
 obtain ⟨a3,k3,rfl⟩ := row_val o3
 exact ⟨a1,k1,a2,k2,a3,k3,h1,h2⟩
theorem seven_one (a1 a2 a3 : Option Addr) (n1 n2 n3 k1 k2 k3 : Nat) (x y z u : Int) : (#[.slice a1 n1 k1,.slice a2 n2 k2,.slice a3 n3 k3,.int .i32 x,.int .i64 y,.int .i8 z,.int .i64 u] : Array Value).all (·.oneCell') = true := by simp [Value.oneCell']
set_option maxRecDepth 100000 in
set_option maxHeartbeats 8000000 in
theorem replay_ (v vl : Value) (s : Stt) (l : List Ev) (w : World) (hs : StL w v s) (hsm : Small s) (hl : EVS w vl l) (hlen : l.length <= 140737488355328) (hn : ∀ i,i < l.length -> (l.getD i dE).ord.length <= 140737488355328) :
  Calls Tryz.prog 24 #[v,vl] w (RepV w (repO s l)) := by
 obtain ⟨Post,hPost⟩ : ∃ P : Ending -> World -> Prop,P = RepV w (repO s l) := ⟨_,rfl⟩
 rw [<- hPost]
 have HP : Hid (Post = RepV w (repO s l)) := hPost
 have HM : Hid (∀ W,Up w W -> Calls Tryz.prog 79 #[v] W fun r w'=>r = .returned (.bool (decide (ff s = none))) /\ Up W w') := fun W u=>mayBe_ v s W (hs.up u) hsm
 have HC : Hid (∀ W,Up w W -> Calls Tryz.prog 80 #[v] W (CpPost W fun W' v'=>SOA W.heap.size W' v' s)) := fun W u=>copyA_ v s W (hs.up u) hsm
 have HR : Hid (∀ W,Calls Tryz.prog 81 #[] W fun x w'=>x = .returned (.agg tabV) /\ Up W w') := rules_
 obtain ⟨la,lc,rfl,-,hlc⟩ := evs_at hl
 have HL : Hid _ := hlc
 have HN : Hid _ := hn
 obtain ⟨vp,vc,vz,hv,h1,h2,h3⟩ := hs
 obtain ⟨a1,k1,rfl,-,-⟩ := lc_at h1
 obtain ⟨a2,k2,rfl,-,-⟩ := lc_at h2
 obtain ⟨a3,k3,rfl,-,-⟩ := zl_at h3
 unfold sv at hv
 clear h1 h2 h3 hl hlc hsm hPost hn
 subst hv
 cases hf : ff s with
 | some k =>
  have HF : Hid (repO s l = none) := by unfold Hid repO; rw [hf]; simp
  simp only [hf,reduceCtorEq,decide_false] at HM
  clear HC HR HL hlen HN hf
  go_enter Tryz.func24,Tryz.ntmps24
  go_wp2_with fail
  refine Calls.mono (HM.out _ (((Up.refl _).alloc _).alloc _)) ?_
  rintro r W1 ⟨rfl,u1⟩
  have HU : Hid (Up w W1) := (((Up.refl _).alloc _).alloc _).trans u1
  have g1 : W1.heap[w.heap.size + 1]? = some (.cells zS 27 (0,0)) := u1.heap (heap_alloc2_new _ _ _)
  have HG : Hid _ := setRow_heap W1 (w.heap.size + 1) zS _ _ zS g1
  clear u1
  go_wp2_with (refine wpList_store_row rfl 27 (.tmp 4) (.tmp 16) rfl (w.heap.size + 1) zS rfl rfl 27 zS g1 infoSt rfl (seven_one _ _ _ _ _ _ _ _ _ _ _ _ _) ?_)
  obtain ⟨p0,p1,p2,p3,p4,p5,p6⟩ := seven_cells HG.out
  have HU5 : Hid (Up w (W1.setRow (w.heap.size + 1) zS)) := up_setRow HU.out (by omega) _
  clear HG
  generalize W1.setRow (w.heap.size + 1) zS = W5 at *
  refine bodyPost_ret (v := .tuple #[.agg #[.slice none 0 0,.slice none 0 0,.slice none 0 0,.int .i32 0,.int .i64 0,.int .i8 0,.int .i64 0],.int .i64 0,.int .i64 10]) (by simp [results,Tryz.results24,go_sem,p0,p1,p2,p3,p4,p5,p6]) rfl ?_
  rw [HP.out,HF.out]
  exact ⟨_,rfl,noS_soa _ _,HU5.out⟩
 | none =>
  have HF : Hid (repO s l = some (repl s l 0)) := by unfold Hid repO; rw [hf]; simp
  have HO : Hid (ff s = none) := hf
  simp only [hf,decide_true] at HM
  clear hf
  go_enter Tryz.func24,Tryz.ntmps24
  go_wp2_with fail
  refine Calls.mono (HM.out _ (((Up.refl _).alloc _).alloc _)) ?_
  rintro r W1 ⟨rfl,u1⟩
  have HU : Hid (Up w W1) := (((Up.refl _).alloc _).alloc _).trans u1
  have g0 : W1.heap[w.heap.size]? = _ := u1.heap (heap_alloc2_old _ _ _)
  have g1 : W1.heap[w.heap.size + 1]? = some (.cells zS 27 (0,0)) := u1.heap (heap_alloc2_new _ _ _)
  obtain ⟨q0,q1,q2,q3,q4,q5,q6⟩ := seven_cells g0
  have HG1 : Hid _ := g1
  clear u1 g0 g1 HM
  go_wp2_with fail
  clear q0 q1 q2 q3 q4 q5 q6
  refine Calls.mono (HC.out _ HU.out) ?_
  rintro r W2 ⟨v',rfl,so,u2⟩
  clear HC
  go_wp2_with fail
  refine Calls.mono (HR.out _) ?_
  rintro r W3 ⟨rfl,u3⟩
  clear HR
  have so3 := so.up u3
  have HU3 : Hid (Up W1 W3) := u2.trans u3
  clear so u2 u3
  have HSz : Hid (W1.heap.size <= W3.heap.size) := HU3.out.size
  obtain ⟨vp,vc,vz,hv,o1,o2,vs,o3,o4,o5⟩ := id so3
  obtain ⟨xa1,xk1,rfl⟩ := row_val o1
  obtain ⟨xa2,xk2,rfl⟩ := row_val o2
  obtain ⟨xa3,xk3,rfl⟩ := row_val o3
  clear o1 o2 o3 o4 o5
  unfold sv at hv
  subst hv
  have hb0 : ((W3.alloc (.cells zS 27)).alloc (.cells nilV 107)).heap[W3.heap.size]? = some (.cells zS 27 (0,0)) := heap_alloc2_old _ _ _
  have hb1 : ((W3.alloc (.cells zS 27)).alloc (.cells nilV 107)).heap[W3.heap.size + 1]? = some (.cells nilV 107 (0,0)) := heap_alloc2_new _ _ _
  obtain ⟨A,hA⟩ : ∃ A : Array Value,A = #[.slice xa1 s.ps.length xk1,.slice xa2 s.cs.length xk2,.slice xa3 s.zs.length xk3,.int .i32 s.turn,.int .i64 s.whose,.int .i8 s.fin,.int .i64 s.winner] := ⟨_,rfl⟩
  have hb2 : (((W3.alloc (.cells zS 27)).alloc (.cells nilV 107)).setRow W3.heap.size A).heap[W3.heap.size + 1]? = some (.cells nilV 107 (0,0)) := by rw [setRow_other _ _ _ _ (by omega)]; exact hb1
  rw [<- hA]
  rw [<- hA] at so3
  have hA1 : A.size = 7 := by rw [hA]; rfl
  have hA2 : A.all (·.oneCell') = true := by rw [hA]; exact seven_one _ _ _ _ _ _ _ _ _ _ _ _ _
  have HA : Hid _ := hA
  clear hA
  obtain ⟨b,hb⟩ : ∃ b,b = W3.heap.size := ⟨_,rfl⟩
  obtain ⟨B,hB⟩ : ∃ B,B = W1.heap.size := ⟨_,rfl⟩
  obtain ⟨W4,hW4⟩ : ∃ W4,((((W3.alloc (.cells zS 27)).alloc (.cells nilV 107)).setRow W3.heap.size A).setRow (W3.heap.size + 1) tabV) = W4 := ⟨_,rfl⟩
  have HI : Hid (Own B W4 b s /\ W4.heap[b + 1]? = some (.cells tabV 107 (0,0)) /\ Up W1 W4) := by
   have hu : Up W3 W4 := by rw [<- hW4]; exact up_row (up_row (((Up.refl _).alloc _).alloc _) (Nat.le_refl _) _) (by omega) _
   refine ⟨⟨.slice xa1 s.ps.length xk1,.slice xa2 s.cs.length xk2,.slice xa3 s.zs.length xk3,?_,?_⟩,?_,HU3.out.trans hu⟩
   ·unfold OwnC
    rw [<- hW4,hb,setRow_other _ _ _ _ (by omega),setRow_heap _ _ _ _ _ _ hb0,HA.out]
   ·have h9 := so3.up hu
    rw [HA.out] at h9
    rw [hB]
    exact h9
   ·rw [<- hW4,hb]
    exact setRow_heap _ _ _ _ _ _ hb2
  go_wp2_with (first | (refine wpList_store_row rfl 27 (.tmp 7) (.tmp 18) rfl W3.heap.size A rfl rfl 27 zS hb0 (by rw [hA1]; exact infoSt) (by rw [hA1]; rfl) hA2 ?_) | (refine wpList_store_row rfl 107 (.tmp 8) (.tmp 19) rfl (W3.heap.size + 1) tabV rfl rfl 107 nilV hb2 infoTab (by rw [tabV_size]; rfl) tabV_one ?_; refine wpList_world hW4 ?_))
  rw [<- hb]
  have HB : Hid (w.heap.size + 1 < B /\ B <= b /\ B = W1.heap.size) := ⟨by rw [hB]; exact (Array.getElem?_eq_some_iff.1 HG1.out).1,by rw [hb,hB]; exact HSz.out,hB⟩
  clear hW4 hb0 hb1 hb2 hb hB so3 hA1 hA2 HA HSz HU3
  obtain ⟨n,hn⟩ : ∃ n,n = l.length := ⟨_,rfl⟩
  rw [<- hn] at hlen ⊢
  have HNn : Hid (n = l.length) := hn
  clear hn
  go_loopw [22] (fun s22 W=>∃ (k : Nat) (c : Stt),k <= n /\ s22 = .int .i64 k /\ Own B W b c /\ W.heap[b + 1]? = some (.cells tabV 107 (0,0)) /\ ff c = none /\ repl s l 0 = repl c (l.drop k) k /\ Up W1 W) (fun s22 _=>n - (intOf s22).toNat)
  case atStart =>
   obtain ⟨i1,i2,i3⟩ := HI.out
   exact ⟨0,s,Nat.zero_le _,rfl,i1,i2,HO.out,by rw [List.drop_zero],i3⟩
  case round =>
   clear HI HO
   obtain ⟨k,c,hk,rfl,hown,htab,hok,hrep,hu⟩ := hrel
   have hres := hu.heap HG1.out
   obtain ⟨ya1,yk1,ya2,yk2,ya3,yk3,hrow,hsoa⟩ := own_at hown
   obtain ⟨C,hC⟩ : ∃ C : Array Value,C = #[.slice ya1 c.ps.length yk1,.slice ya2 c.cs.length yk2,.slice ya3 c.zs.length yk3,.int .i32 c.turn,.int .i64 c.whose,.int .i8 c.fin,.int .i64 c.winner] := ⟨_,rfl⟩
   have hC1 : C.size = 7 := by rw [hC]; rfl
   have hC2 : C.all (·.oneCell') = true := by rw [hC]; exact seven_one _ _ _ _ _ _ _ _ _ _ _ _ _
   by_cases hlt : k < n
   ·have hlt2 : (k : Int) < (n : Int) := by omega
    rw [<- hC] at hrow hsoa
    obtain ⟨lb,lo,hla,hlb,hev⟩ := HL.out (by rw [<- HNn.out]; omega)
    subst hla
    obtain ⟨oa,oc,hc12,hil⟩ := hev k (by rw [<- HNn.out]; exact hlt)
    have hn1 := HN.out k (by rw [<- HNn.out]; exact hlt)
    rw [repl_drop (by rw [<- HNn.out]; exact hlt)] at hrep
    clear hev
    generalize l.getD k dE = e at *
    have hupw : Up w wr := HU.out.trans hu
    obtain ⟨x0,x1,x2,x3,x4,x5,x6,x7,x8,x9,x10,x11⟩ := hc12 wr hupw
    obtain ⟨We,hWe⟩ : ∃ We,(wr.alloc (.cells zEv 30)).setRow wr.heap.size (evc e (.slice oa e.ord.length oc)) = We := ⟨_,rfl⟩
    obtain ⟨e1,e2,e3⟩ := filled wr zEv (evc e (.slice oa e.ord.length oc)) 30
    rw [hWe] at e1 e2 e3
    have hR1 := rowOf_size e
    have hR2 := rowOf_one e
    have HRA : Hid (∀ W,Calls Tryz.prog 82 #[.agg tabV,.agg (evc e (.slice oa e.ord.length oc))] W fun x w'=>x = .returned (.tuple #[.agg (rowOf e),.bool (okB e)]) /\ Up W w') := fun W=>ruleAny_ e oa oc W
    obtain ⟨R,hR⟩ : ∃ R,R = rowOf e := ⟨_,rfl⟩
    rw [<- hR] at hR1 hR2 HRA
    have tE := e2.heap htab
    have HT : Hid _ := And.intro hok (And.intro hrep (And.intro hil (And.intro hn1 (And.intro hR hC))))
    have HW : Hid (Own B wr b c /\ Up W1 wr /\ Up wr We /\ wr.heap[b]? = some (.cells C 27 (0,0)) /\ SOA B wr (.agg C) c /\ wr.heap[w.heap.size + 1]? = some (.cells zS 27 (0,0)) /\ We.heap[wr.heap.size]? = some (.cells (evc e (.slice oa e.ord.length oc)) 30 (0,0)) /\ We.heap[b + 1]? = some (.cells tabV 107 (0,0)) /\ wr.heap[b + 1]? = some (.cells tabV 107 (0,0))) := ⟨hown,hu,e2,hrow,hsoa,hres,e1,tE,htab⟩
    clear hown htab hok hrep hu hres hrow hsoa hc12 hil hn1 hC hR e2 e3
    cases hob : okB e with
    | false =>
     have HF2 : Hid (repO s l = some (.inl k)) := by
      have h9 := HT.out.2.1
      rw [hob,Bool.false_and,if_neg (by decide)] at h9
      unfold Hid
      rw [HF.out,h9]
     rw [hob] at HRA
     go_wp2_with (first | (refine wpList_store_row rfl 30 (.tmp 10) (.tmp 26) rfl wr.heap.size (evc e (.slice oa e.ord.length oc)) rfl rfl 30 zEv (heap_alloc_new wr _) infoEv rfl (evc_one _ _ _ _) ?_; refine wpList_world hWe ?_) | (refine wpList_load_row rfl 107 (.tmp 8) rfl (b + 1) rfl 107 tabV (0,0) _ tE Tryz.underlying107 rfl infoTab ?_) | (refine wpList_load_row rfl 30 (.tmp 10) rfl wr.heap.size rfl 30 (evc e (.slice oa e.ord.length oc)) (0,0) _ e1 Tryz.underlying30 rfl infoEv ?_))
     refine Calls.mono (HRA.out _) ?_
     rintro r W6 ⟨rfl,u6⟩
     clear HRA e1 tE x0 x1 x2 x3 x4 x5 x6 x7 x8 x9 x10 x11
     obtain ⟨W7,hW7⟩ : ∃ W7,(W6.alloc (.cells zR 106)).setRow W6.heap.size R = W7 := ⟨_,rfl⟩
     obtain ⟨f1,f2,-⟩ := filled W6 zR R 106
     rw [hW7] at f1 f2
     have HU7 : Hid (Up wr W7) := HW.out.2.2.1.trans (u6.trans f2)
     have hres : W7.heap[w.heap.size + 1]? = some (.cells zS 27 (0,0)) := HU7.out.heap HW.out.2.2.2.2.2.1
     have hres2 : (W7.setRow (w.heap.size + 1) zS).heap[w.heap.size + 1]? = some (.cells #[.slice none 0 0,.slice none 0 0,.slice none 0 0,.int .i32 0,.int .i64 0,.int .i8 0,.int .i64 0] 27 (0,0)) := setRow_heap W7 (w.heap.size + 1) zS _ _ zS hres
     clear u6 f1 f2
     go_wp2_with (first | (refine wpList_store_row rfl 106 (.tmp 11) (.tmp 31) rfl W6.heap.size R rfl rfl 106 zR (heap_alloc_new W6 _) (by rw [hR1]; exact infoRule) (by rw [hR1]; rfl) hR2 ?_; refine wpList_world hW7 ?_) | (refine wpList_store_row rfl 27 (.tmp 4) (.tmp 43) rfl (w.heap.size + 1) zS rfl rfl 27 zS hres infoSt rfl (seven_one _ _ _ _ _ _ _ _ _ _ _ _ _) ?_))
     clear hW7 hres
     obtain ⟨p0,p1,p2,p3,p4,p5,p6⟩ := seven_cells hres2
     have HU5 : Hid (Up w (W7.setRow (w.heap.size + 1) zS)) := up_setRow ((HU.out.trans HW.out.2.1).trans HU7.out) (by omega) _
     clear hres2
     generalize W7.setRow (w.heap.size + 1) zS = W9 at *
     refine bodyPost_ret (v := .tuple #[.agg #[.slice none 0 0,.slice none 0 0,.slice none 0 0,.int .i32 0,.int .i64 0,.int .i8 0,.int .i64 0],.int .i64 k,.int .i64 11]) (by simp [results,Tryz.results24,go_sem,p0,p1,p2,p3,p4,p5,p6]) rfl ?_
     rw [HP.out,HF2.out]
     exact ⟨_,rfl,noS_soa _ _,HU5.out⟩
    | true =>
     rw [hob] at HRA
     have hkd : kindB e.kind = true := by
      have h9 := hob
      unfold okB at h9
      rw [Bool.and_eq_true] at h9
      exact h9.1
     go_wp2_with (first | (refine wpList_store_row rfl 30 (.tmp 10) (.tmp 26) rfl wr.heap.size (evc e (.slice oa e.ord.length oc)) rfl rfl 30 zEv (heap_alloc_new wr _) infoEv rfl (evc_one _ _ _ _) ?_; refine wpList_world hWe ?_) | (refine wpList_load_row rfl 107 (.tmp 8) rfl (b + 1) rfl 107 tabV (0,0) _ tE Tryz.underlying107 rfl infoTab ?_) | (refine wpList_load_row rfl 30 (.tmp 10) rfl wr.heap.size rfl 30 (evc e (.slice oa e.ord.length oc)) (0,0) _ e1 Tryz.underlying30 rfl infoEv ?_))
     refine Calls.mono (HRA.out _) ?_
     rintro r W6 ⟨rfl,u6⟩
     clear HRA e1 tE x0 x1 x2 x3 x4 x5 x6 x7 x8 x9 x10 x11
     obtain ⟨W7,hW7⟩ : ∃ W7,(W6.alloc (.cells zR 106)).setRow W6.heap.size R = W7 := ⟨_,rfl⟩
     obtain ⟨f1,f2,-⟩ := filled W6 zR R 106
     rw [hW7] at f1 f2
     have HU7 : Hid (Up wr W7) := HW.out.2.2.1.trans (u6.trans f2)
     have hres : W7.heap[w.heap.size + 1]? = some (.cells zS 27 (0,0)) := HU7.out.heap HW.out.2.2.2.2.2.1
     have hres2 : (W7.setRow (w.heap.size + 1) zS).heap[w.heap.size + 1]? = some (.cells #[.slice none 0 0,.slice none 0 0,.slice none 0 0,.int .i32 0,.int .i64 0,.int .i8 0,.int .i64 0] 27 (0,0)) := setRow_heap W7 (w.heap.size + 1) zS _ _ zS hres
     have hown7 : W7.heap[b]? = some (.cells C 27 (0,0)) := HU7.out.heap HW.out.2.2.2.1
     have hev7 : W7.heap[wr.heap.size]? = some (.cells (evc e (.slice oa e.ord.length oc)) 30 (0,0)) := (u6.trans f2).heap HW.out.2.2.2.2.2.2.1
     have hrw := rowOf_at hkd
     rw [<- HT.out.2.2.2.2.1] at hrw
     have r1 : W7.cell? ⟨W6.heap.size,1,none⟩ = some (.func (.func (fitsN e.kind)) #[] #[]) := by rw [World.cell?,f1]; exact hrw.1
     have HFI : Hid (Calls Tryz.prog (fitsN e.kind) #[.agg C,.agg (evc e (.slice oa e.ord.length oc))] W7 fun r w'=>r = .returned (.bool (fitB c e)) /\ Up W7 w') :=
      fits_ (.agg C) c e oa oc W7 hkd (SO.sl (SOA.so (HW.out.2.2.2.2.1.up HU7.out))) (IL.up HT.out.2.2.1 ((HU.out.trans HW.out.2.1).trans HU7.out)) HT.out.2.2.2.1 (zone_le HT.out.1)
     have hen1 := fits_enters hkd
     have hen2 := do_enters hkd
     have HR3 : Hid (R[3]? = some (.func (.func (doN e.kind)) #[] #[])) := hrw.2.2.1
     have HU67 : Hid (Up W6 W7) := f2
     have HF1 : Hid _ := f1
     clear u6 f1 f2 hrw
     clear hres2
     cases hfb : fitB c e with
     | false =>
      have HF2 : Hid (repO s l = some (.inl k)) := by
       have h9 := HT.out.2.1
       rw [hob,hfb,Bool.and_false,if_neg (by decide)] at h9
       unfold Hid
       rw [HF.out,h9]
      rw [hfb] at HFI
      go_wp2_with (first | (refine wpList_store_row rfl 106 (.tmp 11) (.tmp 31) rfl W6.heap.size R rfl rfl 106 zR (heap_alloc_new W6 _) (by rw [hR1]; exact infoRule) (by rw [hR1]; rfl) hR2 ?_; refine wpList_world hW7 ?_) | (refine wpList_load_rowG (by rfl) 27 (.tmp 7) rfl b rfl 27 C (0,0) _ hown7 Tryz.underlying27 rfl (by rw [hC1]; exact infoSt) ?_) | (refine wpList_load_rowG (by rfl) 30 (.tmp 10) rfl wr.heap.size rfl 30 (evc e (.slice oa e.ord.length oc)) (0,0) _ hev7 Tryz.underlying30 rfl infoEv ?_))
      refine Calls.mono HFI.out ?_
      rintro r W8 ⟨rfl,u8⟩
      have hres8 := u8.heap hres
      have hres2 : (W8.setRow (w.heap.size + 1) zS).heap[w.heap.size + 1]? = some (.cells #[.slice none 0 0,.slice none 0 0,.slice none 0 0,.int .i32 0,.int .i64 0,.int .i8 0,.int .i64 0] 27 (0,0)) := setRow_heap W8 (w.heap.size + 1) zS _ _ zS hres8
      have HU8 : Hid (Up w W8) := (HU.out.trans HW.out.2.1).trans (HU7.out.trans u8)
      clear hres r1 hown7 hev7 u8
      go_wp2_with (first | (refine wpList_store_row rfl 27 (.tmp 4) (.tmp 43) rfl (w.heap.size + 1) zS rfl rfl 27 zS hres8 infoSt rfl (seven_one _ _ _ _ _ _ _ _ _ _ _ _ _) ?_))
      clear hres8
      obtain ⟨p0,p1,p2,p3,p4,p5,p6⟩ := seven_cells hres2
      have HU5 : Hid (Up w (W8.setRow (w.heap.size + 1) zS)) := up_setRow HU8.out (by omega) _
      clear hres2
      generalize W8.setRow (w.heap.size + 1) zS = W9 at *
      refine bodyPost_ret (v := .tuple #[.agg #[.slice none 0 0,.slice none 0 0,.slice none 0 0,.int .i32 0,.int .i64 0,.int .i8 0,.int .i64 0],.int .i64 k,.int .i64 11]) (by simp [results,Tryz.results24,go_sem,p0,p1,p2,p3,p4,p5,p6]) rfl ?_
      rw [HP.out,HF2.out]
      exact ⟨_,rfl,noS_soa _ _,HU5.out⟩
     | true =>
      have HF2 : Hid (repl s l 0 = repl (behindS c e) (l.drop (k + 1)) (k + 1)) := by
       have h9 := HT.out.2.1
       rw [hob,hfb,Bool.and_true,if_pos rfl] at h9
       exact h9
      rw [hfb] at HFI
      go_wp2_with (first | (refine wpList_store_row rfl 106 (.tmp 11) (.tmp 31) rfl W6.heap.size R rfl rfl 106 zR (heap_alloc_new W6 _) (by rw [hR1]; exact infoRule) (by rw [hR1]; rfl) hR2 ?_; refine wpList_world hW7 ?_) | (refine wpList_load_rowG (by rfl) 27 (.tmp 7) rfl b rfl 27 C (0,0) _ hown7 Tryz.underlying27 rfl (by rw [hC1]; exact infoSt) ?_) | (refine wpList_load_rowG (by rfl) 30 (.tmp 10) rfl wr.heap.size rfl 30 (evc e (.slice oa e.ord.length oc)) (0,0) _ hev7 Tryz.underlying30 rfl infoEv ?_))
      refine Calls.mono HFI.out ?_
      rintro r W8 ⟨rfl,u8⟩
      have hev8 := u8.heap hev7
      have r3 : W8.cell? ⟨W6.heap.size,3,none⟩ = some (.func (.func (doN e.kind)) #[] #[]) := by rw [World.cell?,u8.heap HF1.out]; exact HR3.out
      have HU8 : Hid (Up wr W8) := HU7.out.trans u8
      have HDo : Hid (Calls Tryz.prog (doN e.kind) #[.pointer (some ⟨b,0,none⟩),.agg (evc e (.slice oa e.ord.length oc))] W8 fun x w'=>x = .returned (.tuple #[]) /\ Did B B b (behindS c e) W8 w') :=
       do_ B B b c e oa oc W8 hkd (HW.out.1.up HU8.out) (Nat.le_refl _) (by rw [HB.out.2.2]; exact (HW.out.2.1.trans HU8.out).size) HB.out.2.1 (IL.up HT.out.2.2.1 ((HU.out.trans HW.out.2.1).trans HU8.out)) (zone_le HT.out.1) hfb
      clear hres r1 hown7 hev7 u8
      go_wp2_with (first | (refine wpList_load_row (by rfl) 30 (.tmp 10) rfl wr.heap.size rfl 30 (evc e (.slice oa e.ord.length oc)) (0,0) _ hev8 Tryz.underlying30 rfl infoEv ?_))
      refine Calls.mono HDo.out ?_
      rintro r W10 ⟨rfl,hdid⟩
      have HD : Hid _ := hdid
      clear hdid r3 hev8
      go_wp2_with fail
      go_roundw
      case rel =>
       refine ⟨k + 1,behindS c e,by omega,by go_num,HD.out.1,?_,ok_behind HT.out.1 (by rw [hob,hfb]; rfl),HF2.out,?_⟩
       ·exact HD.out.2.2 _ _ _ (HU8.out.heap HW.out.2.2.2.2.2.2.2.2) (by decide) (by decide) (by decide) (by decide) (by decide)
       ·have h8 := HW.out.2.1.trans HU8.out
        refine Below.trans h8 ?_
        rw [<- HB.out.2.2]
        exact HD.out.2.1
      case measure=>simp [intOf] <;> omega
   ·have hlt2 : ¬ (k : Int) < (n : Int) := by omega
    have hkn : k = n := by omega
    have hfin : repl s l 0 = .inr c := by rw [hrep,hkn,List.drop_of_length_le (by rw [HNn.out]; exact Nat.le_refl _)]; rfl
    have HF2 : Hid (repO s l = some (.inr c)) := by unfold Hid; rw [HF.out,hfin]
    rw [<- hC] at hrow hsoa
    have hres2 : (wr.setRow (w.heap.size + 1) C).heap[w.heap.size + 1]? = some (.cells #[.slice ya1 c.ps.length yk1,.slice ya2 c.cs.length yk2,.slice ya3 c.zs.length yk3,.int .i32 c.turn,.int .i64 c.whose,.int .i8 c.fin,.int .i64 c.winner] 27 (0,0)) := (setRow_heap wr (w.heap.size + 1) zS _ _ C hres).trans (by rw [hC])
    obtain ⟨p0,p1,p2,p3,p4,p5,p6⟩ := seven_cells hres2
    have HU5 : Hid (Up w (wr.setRow (w.heap.size + 1) C) /\ SOA w.heap.size (wr.setRow (w.heap.size + 1) C) (.agg C) c) := ⟨up_setRow (HU.out.trans hu) (by omega) _,SOA.less (hsoa.kp (Kp.row HB.out.1)) (by have := HB.out.1; omega)⟩
    have HC : Hid _ := hC
    clear hfin hrep hkn hown htab hok hu hres2 HF HL HN HNn hsoa HU hC
    go_wp2_with (first | (refine wpList_load_row rfl 27 (.tmp 7) rfl b rfl 27 C (0,0) _ hrow Tryz.underlying27 rfl (by rw [hC1]; exact infoSt) ?_) | (refine wpList_store_row rfl 27 (.tmp 4) (.tmp 50) rfl (w.heap.size + 1) C rfl rfl 27 zS hres (by rw [hC1]; exact infoSt) (by rw [hC1]; rfl) hC2 ?_))
    clear hrow hres
    generalize wr.setRow (w.heap.size + 1) C = W5 at *
    refine bodyPost_ret (v := .tuple #[.agg #[.slice ya1 c.ps.length yk1,.slice ya2 c.cs.length yk2,.slice ya3 c.zs.length yk3,.int .i32 c.turn,.int .i64 c.whose,.int .i8 c.fin,.int .i64 c.winner],.int .i64 0,.int .i64 0]) (by simp [results,Tryz.results24,go_sem,p0,p1,p2,p3,p4,p5,p6]) rfl ?_
    rw [HP.out,HF2.out]
    exact ⟨_,rfl,by rw [<- HC.out]; exact HU5.out.2,HU5.out.1⟩
end DE
end Go.Proofs.YtodhjjeagmjhdaaGreatDoor
