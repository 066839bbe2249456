/- Un6, Dw6, Sm6, Sp -/
import Derived.Test.YtodhjjeagmjhdaaGreatDoorBc6VX
namespace Go.Proofs.YtodhjjeagmjhdaaGreatDoor
open Go.RowKit
attribute [local go_sem ↓] Go.wp_at_zero Go.wp_at_succ
namespace DE
open Go.Proofs.YtodhjjeagmjhdaaGreatDoor.ST
set_option maxRecDepth 100000 in
set_option maxHeartbeats 4000000 in
theorem undo1_ (v vo : Value) (s : Stt) (e : Ev) (w : World) (hs : StL w v s) (hsm : Small s) (ho : IL w vo e.ord) (hn : e.ord.length <= 4294967296) :
  Calls Tryz.prog 21 #[v,evv e vo] w (AppV w (bckO s [e])) := by
 obtain ⟨Post,hPost⟩ : ∃ P : Ending -> World -> Prop,P = AppV w (bckO s [e]) := ⟨_,rfl⟩
 rw [<- hPost]
 have HP : Hid (Post = AppV w (bckO s [e])) := hPost
 obtain ⟨oa,oc,rfl,-,-⟩ := il_at ho
 have HR : Hid (∀ W g,Up w W -> W.heap[g]? = some (.cells (evc e (.slice oa e.ord.length oc)) 30 (0,0)) -> Calls Tryz.prog 26 #[v,.slice (some ⟨g,0,none⟩) 1 1] W (RepV W (bckO s [e]))) := fun W g u hg =>
  back_ v _ s [e] W (hs.up u) hsm (evs_one hg (IL.up ho u)) (by simp) (fun i hi=>by
   simp only [List.length_singleton] at hi
   obtain rfl : i = 0 := by omega
   show e.ord.length <= _
   omega)
 obtain ⟨vp,vc,vz,hv,h1,h2,h3⟩ := hs
 obtain ⟨a1,k1,rfl,-,-⟩ := lc_at h1
 obtain ⟨a2,k2,rfl,-,-⟩ := lc_at h2
 obtain ⟨a3,k3,rfl,-,-⟩ := zl_at h3
 unfold sv at hv
 clear h1 h2 h3 hsm hPost ho hn
 subst hv
 generalize bckO s [e] = o at *
 obtain ⟨W0,hW0⟩ : ∃ W0,(((w.alloc (.cells #[.slice a1 s.ps.length k1,.slice a2 s.cs.length k2,.slice a3 s.zs.length k3,.int .i32 s.turn,.int .i64 s.whose,.int .i8 s.fin,.int .i64 s.winner] 27)).alloc (.cells (evc e (.slice oa e.ord.length oc)) 30)).alloc (.cells zS 27)).alloc (.cells (evc e (.slice oa e.ord.length oc)) 30) = W0 := ⟨_,rfl⟩
 have h2 : W0.heap[w.heap.size + 2]? = some (.cells zS 27 (0,0)) := by
  rw [<- hW0,Below.heap_alloc _ _ _ (by simp)]
  have := heap_alloc_new ((w.alloc (.cells #[.slice a1 s.ps.length k1,.slice a2 s.cs.length k2,.slice a3 s.zs.length k3,.int .i32 s.turn,.int .i64 s.whose,.int .i8 s.fin,.int .i64 s.winner] 27)).alloc (.cells (evc e (.slice oa e.ord.length oc)) 30)) (.cells zS 27)
  simpa using this
 have h3 : W0.heap[w.heap.size + 3]? = some (.cells (evc e (.slice oa e.ord.length oc)) 30 (0,0)) := by
  rw [<- hW0]
  have := heap_alloc_new (((w.alloc (.cells #[.slice a1 s.ps.length k1,.slice a2 s.cs.length k2,.slice a3 s.zs.length k3,.int .i32 s.turn,.int .i64 s.whose,.int .i8 s.fin,.int .i64 s.winner] 27)).alloc (.cells (evc e (.slice oa e.ord.length oc)) 30)).alloc (.cells zS 27)) (.cells (evc e (.slice oa e.ord.length oc)) 30)
  simpa using this
 have hu : Up w W0 := by rw [<- hW0]; exact ((((Up.refl _).alloc _).alloc _).alloc _).alloc _
 have hsz : w.heap.size <= W0.heap.size := hu.size
 unfold evv evc
 go_enter Tryz.func21,Tryz.ntmps21
 go_wp2_with fail
 refine calls_world hW0 (Calls.mono (HR.out W0 (w.heap.size + 3) hu h3) ?_)
 rintro r W1 ⟨v',rfl,so,u1⟩
 obtain ⟨C,rfl,hC1,hC2⟩ := SOA.row so
 obtain ⟨W2,hW2⟩ : ∃ W2,(W1.alloc (.cells zS 27)).setRow W1.heap.size C = W2 := ⟨_,rfl⟩
 obtain ⟨f1,f2,-⟩ := filled W1 zS C 27
 rw [hW2] at f1 f2
 have g2 : W2.heap[w.heap.size + 2]? = some (.cells zS 27 (0,0)) := (u1.trans f2).heap h2
 have HE : Hid (AppV w o (.returned (.tuple #[.agg C,.int .i64 (errOf o)])) (W2.setRow (w.heap.size + 2) C)) :=
  ⟨_,rfl,SOA.setRow ((so.less hsz).up f2) g2,up_setRow (hu.trans (u1.trans f2)) (by omega) _⟩
 clear hW0 h2 h3 hu u1 f2 HR so
 go_wp2_with (first | (refine wpList_store_row rfl 27 (.tmp 6) (.tmp 14) rfl W1.heap.size C rfl rfl 27 zS (heap_alloc_new W1 _) (by rw [hC1]; exact infoSt) (by rw [hC1]; rfl) hC2 ?_; refine wpList_world hW2 ?_) | (refine wpList_load_row rfl 27 (.tmp 6) rfl W1.heap.size rfl 27 C (0,0) _ f1 Tryz.underlying27 rfl (by rw [hC1]; exact infoSt) ?_) | (refine wpList_store_row rfl 27 (.tmp 4) (.tmp 17) rfl (w.heap.size + 2) C rfl rfl 27 zS g2 (by rw [hC1]; exact infoSt) (by rw [hC1]; rfl) hC2 ?_))
 refine bodyPost_ret (v := .tuple #[.agg C,.int .i64 (errOf o)]) (results_c1 (p := 4) (q := 5) (ty := 27) rfl _ _ (w.heap.size + 2) 27 C (0,0) _ _ rfl rfl (setRow_heap _ _ _ _ _ _ g2) Tryz.underlying27 rfl (by rw [hC1]; exact infoSt)) rfl ?_
 rw [HP.out]
 exact HE.out
def DL (base : Nat) (W : World) (v : Value) : Option Ev -> Prop
 | none=>v = .slice none 0 0
 | some e=>∃ g vo,v = .slice (some ⟨g,0,none⟩) 1 1 /\ base <= g /\ W.heap[g]? = some (.cells (evc e vo) 30 (0,0)) /\ IRow base W vo e.ord
def DeV (w : World) (r : Int × Option Ev) (x : Ending) (w' : World) : Prop := ∃ v,x = .returned (.tuple #[v,.int .i64 r.1]) /\ DL w.heap.size w' v r.2 /\ Up w w'
theorem DL.up {base : Nat} {W W' : World} {v : Value} {o : Option Ev} (h : DL base W v o) (u : Up W W') : DL base W' v o := by
 cases o with
 | none=>exact h
 | some e =>
  obtain ⟨g,vo,h1,h2,h3,h4⟩ := h
  exact ⟨g,vo,h1,h2,u.heap h3,row_up h4 u⟩
def drawE (s : Stt) (p c : Int) : Ev := ⟨1,0,c,0,0,4 * p,0,4 * p + 1,(zn s (4 * p + 1)).length,0,0,[]⟩
def drawO (s : Stt) (p : Int) : Int × Option Ev := if ff s = none then (if numB p s.ps.length = true then (if (zn s (4 * p)).length = 0 then (0,none) else (0,some (drawE s p ((zn s (4 * p)).getD 0 0)))) else (1,none)) else (10,none)
set_option maxRecDepth 100000 in
set_option maxHeartbeats 4000000 in
theorem draw_ (v : Value) (s : Stt) (p : Int) (w : World) (hs : StL w v s) (hsm : Small s) : Calls Tryz.prog 74 #[v,.int .i64 p] w (DeV w (drawO s p)) := by
 have HM : Hid (∀ W,Up w W -> Calls Tryz.prog 79 #[v] W fun r w'=>r = .returned (.bool (decide (ff s = none))) /\ Up W w') := fun W u=>mayBe_ v s W (hs.up u) hsm
 have HI : Hid (∀ W,Up w W -> Calls Tryz.prog 109 #[v,.int .i64 p] W fun r w'=>r = .returned (.bool (numB p s.ps.length)) /\ Up W w') := fun W u=>isPlayer_ v s p W (hs.up u)
 have hs0 := hs
 obtain ⟨vp,vc,vz,hv,h1,h2,h3⟩ := hs
 obtain ⟨a1,k1,rfl,-,-⟩ := lc_at h1
 obtain ⟨a2,k2,rfl,-,-⟩ := lc_at h2
 obtain ⟨a3,k3,rfl,hk3,hz⟩ := zl_at h3
 unfold sv at hv
 clear h1 h2 h3 hs0
 subst hv
 by_cases hf : ff s = none
 ·by_cases hp : numB p s.ps.length = true
  ·obtain ⟨q,rfl,hq⟩ := num_nat hp
   have hzl : s.zs.length = 4 * s.ps.length := by
    have h0 := ((ff_none s).1 hf).1.1
    unfold sizesB at h0
    simp only [Bool.and_eq_true,decide_eq_true_eq] at h0
    exact h0.2
   have hnp : s.ps.length <= 4 := by
    have h0 := ((ff_none s).1 hf).1.1
    unfold sizesB npB at h0
    simp only [Bool.and_eq_true,decide_eq_true_eq] at h0
    exact h0.1.1.2
   have e1 : zn s (4 * (q : Int)) = s.zs.getD (4 * q) [] := by unfold zn; congr 1
   have e2 : zn s (4 * (q : Int) + 1) = s.zs.getD (4 * q + 1) [] := by unfold zn; congr 1
   obtain ⟨zb,zo,rfl,hr⟩ := hz (by omega)
   obtain ⟨ra,rc,d1,d2⟩ := hr (4 * q) (by omega)
   obtain ⟨ra2,rc2,d3,d4⟩ := hr (4 * q + 1) (by omega)
   obtain ⟨ra',rc',hx,-,hcell⟩ := il_at d2
   simp only [Value.slice.injEq,true_and] at hx
   obtain ⟨rfl,rfl⟩ := hx
   have HO : Hid (drawO s (q : Int) = if (s.zs.getD (4 * q) []).length = 0 then (0,none) else (0,some (drawE s (q : Int) ((s.zs.getD (4 * q) []).getD 0 0)))) := by
    unfold Hid drawO
    rw [if_pos hf,if_pos hp,e1]
   have HE : Hid (drawE s (q : Int) ((s.zs.getD (4 * q) []).getD 0 0) = ⟨1,0,(s.zs.getD (4 * q) []).getD 0 0,0,0,4 * (q : Int),0,4 * (q : Int) + 1,((s.zs.getD (4 * q + 1) []).length : Int),0,0,[]⟩) := by
    unfold Hid drawE
    rw [e2]
   rw [hp] at HI
   simp only [hf,decide_true] at HM
   generalize s.zs.getD (4 * q) [] = zd at *
   generalize (s.zs.getD (4 * q + 1) []).length = hl at *
   obtain ⟨dk,hdk⟩ : ∃ dk,dk = 4 * q := ⟨_,rfl⟩
   obtain ⟨hd,hhd⟩ : ∃ hd,hd = dk + 1 := ⟨_,rfl⟩
   have hq4 : (4 * (q : Int)) = (dk : Int) := by omega
   have hq5 : ((dk : Int) + 1) = (hd : Int) := by omega
   rw [<- hdk] at d1
   rw [<- hdk,<- hhd] at d3
   rw [hq4,hq5] at HE
   have b1 : (dk : Int) < (s.zs.length : Int) := by omega
   have b2 : (hd : Int) < (s.zs.length : Int) := by omega
   have b3 : dk <= 1000 := by omega
   have b4 : hd <= 1000 := by omega
   have b5 : q <= 4 := by omega
   have HQ : Hid _ := And.intro hdk hhd
   have HD1 : Hid _ := d1
   have HD3 : Hid _ := d3
   have HCE : Hid _ := hcell
   generalize s.zs.length = nz at *
   clear hf hp hr e1 e2 d4 hzl hq hsm d2 hnp hdk hhd d1 d3 hcell hz
   go_enter Tryz.func74,Tryz.ntmps74
   go_wp2_with fail
   refine Calls.mono (HM.out _ ((Up.refl _).alloc _)) ?_
   rintro r W1 ⟨rfl,u1⟩
   have HU : Hid (Up w W1) := ((Up.refl _).alloc _).trans u1
   have g0 : W1.heap[w.heap.size]? = some (.cells _ 27 (0,0)) := u1.heap (heap_alloc_new _ _)
   obtain ⟨q0,q1,q2,q3,q4,q5,q6⟩ := seven_cells g0
   have HG0 : Hid _ := g0
   clear u1 g0 HM
   go_wp2_with fail
   clear q0 q1 q2 q3 q4 q5 q6
   refine Calls.mono (HI.out _ HU.out) ?_
   rintro r W2 ⟨rfl,u2⟩
   have HU2 : Hid (Up w W2) := HU.out.trans u2
   have g0 := u2.heap HG0.out
   obtain ⟨q0,q1,q2,q3,q4,q5,q6⟩ := seven_cells g0
   have c1 := HD1.out W2 HU2.out
   have c3 := HD3.out W2 HU2.out
   clear u2 g0 HI HG0 HU q0 q1 q3 q4 q5 q6
   by_cases h0 : zd.length = 0
   ·have HF : Hid (drawO s (q : Int) = (0,none)) := by unfold Hid; rw [HO.out,if_pos h0]
    rw [h0] at c1
    clear HO HE HCE HD1 HD3
    go_wp2
    go_ret2
    rw [HF.out]
    exact ⟨_,rfl,rfl,HU2.out⟩
   ·have HF : Hid (drawO s (q : Int) = (0,some ⟨1,0,zd.getD 0 0,0,0,(dk : Int),0,(hd : Int),(hl : Int),0,0,[]⟩)) := by unfold Hid; rw [HO.out,if_neg h0,HE.out]
    obtain ⟨rb,ro,rfl,hce⟩ := HCE.out h0
    have c2 : W2.cell? ⟨rb,ro,none⟩ = some (.int .i64 (zd.getD 0 0)) := hce W2 HU2.out 0 (by omega)
    have h1 : ((zd.length : Int) == 0) = false := by rw [beq_eq_false_iff_ne]; omega
    have h2 : (0 : Int) < (zd.length : Int) := by omega
    clear HO HE HCE HD1 HD3 hce
    generalize zd.getD 0 0 = card at *
    generalize zd.length = zl at *
    go_wp2_with fail
    refine TailR.wp_region_seq 16 (by kernel_rfl) (by kernel_rfl) ?_
    simp only [List.take_succ_cons,List.take_zero,List.drop_succ_cons,List.drop_zero]
    repeat (go_big_quiet_step (fail))
    refine wpQuiet_nil ?_
    intro _ hw'
    obtain ⟨nq,hw''⟩ := hw'
    subst hw''
    go_wp2
    go_ret2
    rw [HF.out]
    refine ⟨_,rfl,⟨W2.heap.size,.slice none 0 0,rfl,HU2.out.size,heap_alloc_new (W2.drewN nq) _,World.ownsRow_nil _ _ _ _⟩,(HU2.out.drewN nq).alloc _⟩
  ·have HF : Hid (drawO s p = (1,none)) := by unfold Hid drawO; rw [if_pos hf,if_neg hp]
   have hp' : numB p s.ps.length = false := by simpa using hp
   rw [hp'] at HI
   simp only [hf,decide_true] at HM
   clear hz hf hp hp'
   go_enter Tryz.func74,Tryz.ntmps74
   go_wp2_with fail
   refine Calls.mono (HM.out _ ((Up.refl _).alloc _)) ?_
   rintro r W1 ⟨rfl,u1⟩
   have HU : Hid (Up w W1) := ((Up.refl _).alloc _).trans u1
   have g0 : W1.heap[w.heap.size]? = some (.cells _ 27 (0,0)) := u1.heap (heap_alloc_new _ _)
   obtain ⟨q0,q1,q2,q3,q4,q5,q6⟩ := seven_cells g0
   clear u1 g0
   go_wp2_with fail
   clear q0 q1 q2 q3 q4 q5 q6
   refine Calls.mono (HI.out _ HU.out) ?_
   rintro r W2 ⟨rfl,u2⟩
   have HU2 : Hid (Up w W2) := HU.out.trans u2
   clear u2
   go_wp2
   go_ret2
   rw [HF.out]
   exact ⟨_,rfl,rfl,HU2.out⟩
 ·have HF : Hid (drawO s p = (10,none)) := by unfold Hid drawO; rw [if_neg hf]
  simp only [hf,decide_false] at HM
  clear HI hz hf
  go_enter Tryz.func74,Tryz.ntmps74
  go_wp2_with fail
  refine Calls.mono (HM.out _ ((Up.refl _).alloc _)) ?_
  rintro r W1 ⟨rfl,u1⟩
  have HU : Hid (Up w W1) := ((Up.refl _).alloc _).trans u1
  clear u1
  go_wp2
  go_ret2
  rw [HF.out]
  exact ⟨_,rfl,rfl,HU.out⟩
def smS : Stt := ⟨[⟨20,0,false⟩,⟨20,0,false⟩],[⟨0,0,1,2,0,0⟩,⟨0,1,1,2,0,0⟩],[[0],[],[],[],[],[],[1],[]],1,0,0,0⟩
theorem sm_ok : ff smS = none := by decide
theorem six_blocks (w : World) (o0 o1 o2 o3 o4 o5 : Obj) : ∀ W,W = (((((w.alloc o0).alloc o1).alloc o2).alloc o3).alloc o4).alloc o5 -> W.heap[w.heap.size]? = some o0 /\ W.heap[w.heap.size + 1]? = some o1 /\ W.heap[w.heap.size + 1 + 1]? = some o2 /\ W.heap[w.heap.size + 1 + 1 + 1]? = some o3 /\ W.heap[w.heap.size + 1 + 1 + 1 + 1]? = some o4 /\ W.heap[w.heap.size + 1 + 1 + 1 + 1 + 1]? = some o5 /\ Up w W := by
 intro W h
 subst h
 have g0 := heap_alloc_new w o0
 have u0 : Up (w.alloc o0) ((((((w.alloc o0).alloc o1).alloc o2).alloc o3).alloc o4).alloc o5) := ((((((Up.refl _).alloc _).alloc _).alloc _).alloc _).alloc _)
 have s1 : (w.alloc o0).heap.size = w.heap.size + 1 := by simp
 have g1 := heap_alloc_new (w.alloc o0) o1
 rw [s1] at g1
 have u1 : Up ((w.alloc o0).alloc o1) ((((((w.alloc o0).alloc o1).alloc o2).alloc o3).alloc o4).alloc o5) := (((((Up.refl _).alloc _).alloc _).alloc _).alloc _)
 have s2 : ((w.alloc o0).alloc o1).heap.size = w.heap.size + 1 + 1 := by simp
 have g2 := heap_alloc_new ((w.alloc o0).alloc o1) o2
 rw [s2] at g2
 have u2 : Up (((w.alloc o0).alloc o1).alloc o2) ((((((w.alloc o0).alloc o1).alloc o2).alloc o3).alloc o4).alloc o5) := ((((Up.refl _).alloc _).alloc _).alloc _)
 have s3 : (((w.alloc o0).alloc o1).alloc o2).heap.size = w.heap.size + 1 + 1 + 1 := by simp
 have g3 := heap_alloc_new (((w.alloc o0).alloc o1).alloc o2) o3
 rw [s3] at g3
 have u3 : Up ((((w.alloc o0).alloc o1).alloc o2).alloc o3) ((((((w.alloc o0).alloc o1).alloc o2).alloc o3).alloc o4).alloc o5) := (((Up.refl _).alloc _).alloc _)
 have s4 : ((((w.alloc o0).alloc o1).alloc o2).alloc o3).heap.size = w.heap.size + 1 + 1 + 1 + 1 := by simp
 have g4 := heap_alloc_new ((((w.alloc o0).alloc o1).alloc o2).alloc o3) o4
 rw [s4] at g4
 have u4 : Up (((((w.alloc o0).alloc o1).alloc o2).alloc o3).alloc o4) ((((((w.alloc o0).alloc o1).alloc o2).alloc o3).alloc o4).alloc o5) := ((Up.refl _).alloc _)
 have s5 : (((((w.alloc o0).alloc o1).alloc o2).alloc o3).alloc o4).heap.size = w.heap.size + 1 + 1 + 1 + 1 + 1 := by simp
 have g5 := heap_alloc_new (((((w.alloc o0).alloc o1).alloc o2).alloc o3).alloc o4) o5
 rw [s5] at g5
 have u5 : Up ((((((w.alloc o0).alloc o1).alloc o2).alloc o3).alloc o4).alloc o5) ((((((w.alloc o0).alloc o1).alloc o2).alloc o3).alloc o4).alloc o5) := (Up.refl _)
 exact ⟨u0.heap g0,u1.heap g1,u2.heap g2,u3.heap g3,u4.heap g4,u5.heap g5,((((((Up.refl _).alloc _).alloc _).alloc _).alloc _).alloc _).alloc _⟩
set_option maxRecDepth 100000 in
set_option maxHeartbeats 4000000 in
theorem small_ (w : World) : Calls Tryz.prog 75 #[] w (CpPost w fun W v=>SOA w.heap.size W v smS) := by
 obtain ⟨Post,hPost⟩ : ∃ P : Ending -> World -> Prop,P = CpPost w fun W v=>SOA w.heap.size W v smS := ⟨_,rfl⟩
 rw [<- hPost]
 have HP : Hid _ := hPost
 clear hPost
 go_enter Tryz.func75,Tryz.ntmps75
 go_wp2
 obtain ⟨W6,hW6⟩ : ∃ W6,W6 = (((((w.alloc (.cells #[.slice (some ⟨w.heap.size + 1,0,none⟩) 2 2,.slice (some ⟨w.heap.size + 1 + 1,0,none⟩) 2 2,.slice (some ⟨w.heap.size + 1 + 1 + 1 + 1 + 1,0,none⟩) 8 8,.int .i32 1,.int .i64 0,.int .i8 0,.int .i64 0] 27)).alloc (.cells #[.int .i32 20,.int .i32 0,.bool false,.int .i32 20,.int .i32 0,.bool false] 97)).alloc (.cells #[.int .i64 0,.int .i64 0,.int .i32 1,.int .i32 2,.int .i32 0,.int .i32 0,.int .i64 0,.int .i64 1,.int .i32 1,.int .i32 2,.int .i32 0,.int .i32 0] 95)).alloc (.cells #[.int .i64 0] 3)).alloc (.cells #[.int .i64 1] 3)).alloc (.cells #[.slice (some ⟨w.heap.size + 1 + 1 + 1,0,none⟩) 1 1,.slice none 0 0,.slice none 0 0,.slice none 0 0,.slice none 0 0,.slice none 0 0,.slice (some ⟨w.heap.size + 1 + 1 + 1 + 1,0,none⟩) 1 1,.slice none 0 0] 28) := ⟨_,rfl⟩
 obtain ⟨g0,g1,g2,g3,g4,g5,gu⟩ := six_blocks w _ _ _ _ _ _ W6 hW6
 rw [<- hW6]
 refine bodyPost_ret (v := .agg #[.slice (some ⟨w.heap.size + 1,0,none⟩) 2 2,.slice (some ⟨w.heap.size + 1 + 1,0,none⟩) 2 2,.slice (some ⟨w.heap.size + 1 + 1 + 1 + 1 + 1,0,none⟩) 8 8,.int .i32 1,.int .i64 0,.int .i8 0,.int .i64 0]) (results_cell_row (p := 0) (ty := 27) rfl _ _ w.heap.size 27 _ (0,0) _ rfl g0 Tryz.underlying27 rfl infoSt) rfl ?_
 rw [HP.out]
 refine ⟨_,rfl,⟨_,_,_,rfl,own_made (xs := pvs smS.ps) g1 rfl (by omega) (by unfold maxLen; decide),own_made (xs := cvs smS.cs) g2 rfl (by omega) (by unfold maxLen; decide),_,own_made (xs := [.slice (some ⟨w.heap.size + 1 + 1 + 1,0,none⟩) 1 1,.slice none 0 0,.slice none 0 0,.slice none 0 0,.slice none 0 0,.slice none 0 0,.slice (some ⟨w.heap.size + 1 + 1 + 1 + 1,0,none⟩) 1 1,.slice none 0 0]) g5 rfl (by omega) (by unfold maxLen; decide),fun i hi=>?_,fun p q g hp hq hpq h1 h2=>?_⟩,gu⟩
 ·have o0 : IRow w.heap.size W6 (.slice (some ⟨w.heap.size + 1 + 1 + 1,0,none⟩) 1 1) [0] := own_made (xs := ivs [0]) g3 rfl (by omega) (by unfold maxLen; decide)
  have o1 : IRow w.heap.size W6 (.slice (some ⟨w.heap.size + 1 + 1 + 1 + 1,0,none⟩) 1 1) [1] := own_made (xs := ivs [1]) g4 rfl (by omega) (by unfold maxLen; decide)
  have on : IRow w.heap.size W6 (.slice none 0 0) [] := World.ownsRow_nil _ _ _ _
  have hi : i < 8 := hi
  match i,hi with
  | 0,_=>exact o0
  | 1,_=>exact on
  | 2,_=>exact on
  | 3,_=>exact on
  | 4,_=>exact on
  | 5,_=>exact on
  | 6,_=>exact o1
  | 7,_=>exact on
 ·have hp : p < 8 := hp
  have hq : q < 8 := hq
  have key : ∀ k,k < 8 -> ∀ g,(([.slice (some ⟨w.heap.size + 1 + 1 + 1,0,none⟩) 1 1,.slice none 0 0,.slice none 0 0,.slice none 0 0,.slice none 0 0,.slice none 0 0,.slice (some ⟨w.heap.size + 1 + 1 + 1 + 1,0,none⟩) 1 1,.slice none 0 0] : List Value).getD k nl).ownBlock = some g -> (k = 0 /\ g = w.heap.size + 1 + 1 + 1) ∨ (k = 6 /\ g = w.heap.size + 1 + 1 + 1 + 1) := by
   intro k hk g hg
   match k,hk with
   | 0,_=>simp [Value.ownBlock] at hg; omega
   | 1,_=>simp [Value.ownBlock] at hg
   | 2,_=>simp [Value.ownBlock] at hg
   | 3,_=>simp [Value.ownBlock] at hg
   | 4,_=>simp [Value.ownBlock] at hg
   | 5,_=>simp [Value.ownBlock] at hg
   | 6,_=>simp [Value.ownBlock] at hg; omega
   | 7,_=>simp [Value.ownBlock] at hg
  rcases key p hp g h1 with h | h <;> rcases key q hq g h2 with h' | h' <;> omega
end DE
namespace ST
set_option maxRecDepth 100000 in
set_option maxHeartbeats 4000000 in
theorem spareInts_ (base : Nat) (v : Value) (l : List Int) (w : World) (hv : WI base w v l) (hn : l.length <= 4294967296) :
  Calls Tryz.prog 34 #[v] w fun e w'=>e = .returned (.bool true) /\ w' = w := by
 obtain ⟨g,-,rfl,h3⟩ := hv
 obtain ⟨n,hn0⟩ : ∃ n,n = l.length := ⟨_,rfl⟩
 have HC : Hid (∀ i,n <= i -> i < n + 64 -> w.cell? ⟨g,i,none⟩ = some (.int .i64 (numI i))) := fun i h1 h2=>by
  have : w.cell? ⟨g,i,none⟩ = (wIs l)[i]? := by simp [World.cell?,h3]
  rw [this,wIs_get l i (by omega),wI,if_neg (by omega)]
 rw [<- hn0] at hn ⊢
 clear h3 hn0
 have e1 : (n : Int) + 64 <= (n : Int) + 64 := by omega
 have e2 : (0 : Int) <= (n : Int) + 64 := by omega
 have e3 : ((n : Int) + 64).toNat = n + 64 := by omega
 go_enter Tryz.func34,Tryz.ntmps34
 go_wp2_with fail
 go_loopw [2,4] (fun s2 s4 wr=>∃ i : Nat,n <= i /\ i <= n + 64 /\ s2 = .bool false /\ s4 = .int .i64 i /\ wr = w) (fun _ s4 _=>n + 64 - (intOf s4).toNat)
 case atStart=>exact ⟨n,Nat.le_refl _,by omega,rfl,rfl,rfl⟩
 case round =>
  obtain ⟨i,hi1,hi2,rfl,rfl,rfl⟩ := hrel
  by_cases hlt : i < n + 64
  ·have hlt2 : (i : Int) < (n : Int) + 64 := by omega
   have x1 := HC.out i hi1 hlt
   have HNm : Hid _ := num_ i (by omega)
   generalize numI i = z at x1 HNm
   go_wp2_with fail
   refine Calls.mono (HNm.out _) ?_
   rintro e w2 ⟨rfl,rfl⟩
   go_wp2
   go_roundw
   case rel=>exact ⟨i + 1,by omega,by omega,rfl,by go_num,by first | rfl | trivial⟩
   case measure=>simp [intOf]; omega
  ·have hlt2 : ¬ (i : Int) < (n : Int) + 64 := by omega
   go_wp2
   go_ret
   exact ⟨rfl,rfl⟩
end ST
end Go.Proofs.YtodhjjeagmjhdaaGreatDoor
