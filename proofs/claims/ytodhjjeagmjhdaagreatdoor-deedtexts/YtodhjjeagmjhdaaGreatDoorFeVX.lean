/-
  What fits a move.
-/
import Derived.Test.YtodhjjeagmjhdaaGreatDoorFaTvTcX
namespace Go.Proofs.YtodhjjeagmjhdaaGreatDoor
open Go.RowKit
attribute [local go_sem ↓] Go.wp_at_zero Go.wp_at_succ
namespace DE
open Go.Proofs.YtodhjjeagmjhdaaGreatDoor.ST
def zn (s : Stt) (z : Int) : List Int := s.zs.getD z.toNat []
def others (s : Stt) (z f : Int) : Int := if z = f then ((zn s z).length : Int) - 1 else ((zn s z).length : Int)
set_option maxRecDepth 100000 in
set_option maxHeartbeats 4000000 in
theorem othersIn_ (v : Value) (s : Stt) (z f : Int) (w : World) (hs : StL w v s) (hz : numB z s.zs.length = true) (hl : ∀ r ∈ s.zs,r.length <= 140737488355328) : Calls Tryz.prog 162 #[v,.int .i64 z,.int .i64 f] w fun r w'=>r = .returned (.int .i64 (others s z f)) /\ Up w w' := by
 obtain ⟨vp,vc,vz,rfl,h1,h2,h3⟩ := hs
 obtain ⟨a3,k3,rfl,-,hcl⟩ := zl_at h3
 obtain ⟨i,rfl,hi⟩ := num_nat hz
 obtain ⟨b,off,rfl,hc⟩ := hcl (by omega)
 obtain ⟨ra,rc,hcell,-⟩ := hc i hi
 have hq : (s.zs.getD i []).length <= 140737488355328 := by
  rw [List.getD_eq_getElem?_getD,List.getElem?_eq_getElem hi]
  exact hl _ (List.getElem_mem hi)
 unfold others zn
 rw [Int.toNat_natCast]
 have x0 := hcell (w.alloc (.cells #[vp,vc,.slice (some ⟨b,off,none⟩) s.zs.length k3,.int .i32 s.turn,.int .i64 s.whose,.int .i8 s.fin,.int .i64 s.winner] 27)) ((Up.refl _).alloc _)
 unfold sv
 generalize (s.zs.getD i []).length = q at *
 generalize s.zs.length = m at *
 have hi2 : (i : Int) < (m : Int) := by omega
 clear h1 h2 h3 hcl hc hcell hz hl
 by_cases h : (i : Int) = f
 ·have f0 : ((i : Int) == f) = true := by rw [h]; simp
  rw [if_pos h]
  clear h
  go_enter Tryz.func162,Tryz.ntmps162
  go_wp2
  go_ret
  exact ⟨rfl,(Up.refl _).alloc _⟩
 ·have f0 : ((i : Int) == f) = false := beq_eq_false_iff_ne.2 h
  rw [if_neg h]
  clear h
  go_enter Tryz.func162,Tryz.ntmps162
  go_wp2
  go_ret
  exact ⟨rfl,(Up.refl _).alloc _⟩
def moveFitsB (s : Stt) (e : Ev) : Bool := numB e.card s.cs.length && (numB e.fr s.zs.length && (numB e.to_ s.zs.length && (!noneB e && (numB e.frAt (zn s e.fr).length && (decide ((zn s e.fr).getD e.frAt.toNat 0 = e.card) && (decide (0 <= e.toAt) && decide (e.toAt <= others s e.to_ e.fr)))))))
set_option maxRecDepth 100000 in
set_option maxHeartbeats 16000000 in
theorem moveFits_ (v : Value) (s : Stt) (e : Ev) (oa : Option Addr) (on oc : Nat) (w : World) (hs : StL w v s) (hl : ∀ r ∈ s.zs,r.length <= 140737488355328) : Calls Tryz.prog 118 #[v,evv e (.slice oa on oc)] w fun r w'=>r = .returned (.bool (moveFitsB s e)) /\ Up w w' := by
 have HIC : Hid (∀ W,Up w W -> _) := fun W u=>isCard_ v s e.card W (hs.up u)
 have HIF : Hid (∀ W,Up w W -> _) := fun W u=>isZone_ v s e.fr W (hs.up u)
 have HIT : Hid (∀ W,Up w W -> _) := fun W u=>isZone_ v s e.to_ W (hs.up u)
 have HCN : Hid (∀ W,Up w W -> _) := fun W (_ : Up w W)=>changesNothing_ e (.slice oa on oc) W
 have HNU : Hid _ := isNumber_
 have HOT : Hid (numB e.to_ s.zs.length = true -> ∀ W,Up w W -> _) := fun hz W u=>othersIn_ v s e.to_ e.fr W (hs.up u) hz hl
 unfold moveFitsB
 obtain ⟨vp,vc,vz,rfl,h1,h2,h3⟩ := hs
 obtain ⟨a1,k1,rfl,-,-⟩ := pl_at h1
 obtain ⟨a2,k2,rfl,-,-⟩ := cl_at h2
 obtain ⟨a3,k3,rfl,-,hcl⟩ := zl_at h3
 generalize noneB e = nb at *
 unfold evv evc at *
 unfold sv at *
 obtain ⟨kind,field,card,player,other,fr,frAt,to_,toAt,was,now,ord⟩ := e
 dsimp only at *
 clear h1 h2 h3
 cases hn1 : numB card s.cs.length
 ·rw [hn1] at HIC
  rw [Bool.false_and]
  clear hcl HOT hn1
  go_enter Tryz.func118,Tryz.ntmps118
  go_wp2_with fail
  refine Calls.mono (HIC.out _ (((Up.refl _).alloc _).alloc _)) ?_
  rintro r W1 ⟨rfl,u1⟩
  have HU1 : Hid (Up w W1) := Up.trans (((Up.refl _).alloc _).alloc _) u1
  have HV1 : Hid _ := u1
  have s0 := par0 HV1.out 0 _ rfl
  have s1 := par0 HV1.out 1 _ rfl
  have s2 := par0 HV1.out 2 _ rfl
  have s3 := par0 HV1.out 3 _ rfl
  have s4 := par0 HV1.out 4 _ rfl
  have s5 := par0 HV1.out 5 _ rfl
  have s6 := par0 HV1.out 6 _ rfl
  have e0 := par1 HV1.out 0 _ rfl
  have e1 := par1 HV1.out 1 _ rfl
  have e2 := par1 HV1.out 2 _ rfl
  have e3 := par1 HV1.out 3 _ rfl
  have e4 := par1 HV1.out 4 _ rfl
  have e5 := par1 HV1.out 5 _ rfl
  have e6 := par1 HV1.out 6 _ rfl
  have e7 := par1 HV1.out 7 _ rfl
  have e8 := par1 HV1.out 8 _ rfl
  have e9 := par1 HV1.out 9 _ rfl
  have e10 := par1 HV1.out 10 _ rfl
  have e11 := par1 HV1.out 11 _ rfl
  clear u1
  go_wp2
  go_ret
  exact ⟨by simp,HU1.out⟩
 ·rw [hn1] at HIC
  rw [Bool.true_and]
  cases hn2 : numB fr s.zs.length
  ·rw [hn2] at HIF
   rw [Bool.false_and]
   clear hcl HOT hn1 hn2
   go_enter Tryz.func118,Tryz.ntmps118
   go_wp2_with fail
   refine Calls.mono (HIC.out _ (((Up.refl _).alloc _).alloc _)) ?_
   rintro r W1 ⟨rfl,u1⟩
   have HU1 : Hid (Up w W1) := Up.trans (((Up.refl _).alloc _).alloc _) u1
   have HV1 : Hid _ := u1
   have s0 := par0 HV1.out 0 _ rfl
   have s1 := par0 HV1.out 1 _ rfl
   have s2 := par0 HV1.out 2 _ rfl
   have s3 := par0 HV1.out 3 _ rfl
   have s4 := par0 HV1.out 4 _ rfl
   have s5 := par0 HV1.out 5 _ rfl
   have s6 := par0 HV1.out 6 _ rfl
   have e0 := par1 HV1.out 0 _ rfl
   have e1 := par1 HV1.out 1 _ rfl
   have e2 := par1 HV1.out 2 _ rfl
   have e3 := par1 HV1.out 3 _ rfl
   have e4 := par1 HV1.out 4 _ rfl
   have e5 := par1 HV1.out 5 _ rfl
   have e6 := par1 HV1.out 6 _ rfl
   have e7 := par1 HV1.out 7 _ rfl
   have e8 := par1 HV1.out 8 _ rfl
   have e9 := par1 HV1.out 9 _ rfl
   have e10 := par1 HV1.out 10 _ rfl
   have e11 := par1 HV1.out 11 _ rfl
   clear u1
   go_wp2_with fail
   refine Calls.mono (HIF.out _ HU1.out) ?_
   rintro r W2 ⟨rfl,u2⟩
   clear s0 s1 s2 s3 s4 s5 s6 e0 e1 e2 e3 e4 e5 e6 e7 e8 e9 e10 e11
   have HU2 : Hid (Up w W2) := HU1.out.trans u2
   have HV2 : Hid _ := Up.trans HV1.out u2
   have s0 := par0 HV2.out 0 _ rfl
   have s1 := par0 HV2.out 1 _ rfl
   have s2 := par0 HV2.out 2 _ rfl
   have s3 := par0 HV2.out 3 _ rfl
   have s4 := par0 HV2.out 4 _ rfl
   have s5 := par0 HV2.out 5 _ rfl
   have s6 := par0 HV2.out 6 _ rfl
   have e0 := par1 HV2.out 0 _ rfl
   have e1 := par1 HV2.out 1 _ rfl
   have e2 := par1 HV2.out 2 _ rfl
   have e3 := par1 HV2.out 3 _ rfl
   have e4 := par1 HV2.out 4 _ rfl
   have e5 := par1 HV2.out 5 _ rfl
   have e6 := par1 HV2.out 6 _ rfl
   have e7 := par1 HV2.out 7 _ rfl
   have e8 := par1 HV2.out 8 _ rfl
   have e9 := par1 HV2.out 9 _ rfl
   have e10 := par1 HV2.out 10 _ rfl
   have e11 := par1 HV2.out 11 _ rfl
   clear u2
   go_wp2
   go_ret
   exact ⟨by simp,HU2.out⟩
  ·rw [hn2] at HIF
   rw [Bool.true_and]
   cases hn3 : numB to_ s.zs.length
   ·rw [hn3] at HIT
    rw [Bool.false_and]
    clear hcl HOT hn1 hn2 hn3
    go_enter Tryz.func118,Tryz.ntmps118
    go_wp2_with fail
    refine Calls.mono (HIC.out _ (((Up.refl _).alloc _).alloc _)) ?_
    rintro r W1 ⟨rfl,u1⟩
    have HU1 : Hid (Up w W1) := Up.trans (((Up.refl _).alloc _).alloc _) u1
    have HV1 : Hid _ := u1
    have s0 := par0 HV1.out 0 _ rfl
    have s1 := par0 HV1.out 1 _ rfl
    have s2 := par0 HV1.out 2 _ rfl
    have s3 := par0 HV1.out 3 _ rfl
    have s4 := par0 HV1.out 4 _ rfl
    have s5 := par0 HV1.out 5 _ rfl
    have s6 := par0 HV1.out 6 _ rfl
    have e0 := par1 HV1.out 0 _ rfl
    have e1 := par1 HV1.out 1 _ rfl
    have e2 := par1 HV1.out 2 _ rfl
    have e3 := par1 HV1.out 3 _ rfl
    have e4 := par1 HV1.out 4 _ rfl
    have e5 := par1 HV1.out 5 _ rfl
    have e6 := par1 HV1.out 6 _ rfl
    have e7 := par1 HV1.out 7 _ rfl
    have e8 := par1 HV1.out 8 _ rfl
    have e9 := par1 HV1.out 9 _ rfl
    have e10 := par1 HV1.out 10 _ rfl
    have e11 := par1 HV1.out 11 _ rfl
    clear u1
    go_wp2_with fail
    refine Calls.mono (HIF.out _ HU1.out) ?_
    rintro r W2 ⟨rfl,u2⟩
    clear s0 s1 s2 s3 s4 s5 s6 e0 e1 e2 e3 e4 e5 e6 e7 e8 e9 e10 e11
    have HU2 : Hid (Up w W2) := HU1.out.trans u2
    have HV2 : Hid _ := Up.trans HV1.out u2
    have s0 := par0 HV2.out 0 _ rfl
    have s1 := par0 HV2.out 1 _ rfl
    have s2 := par0 HV2.out 2 _ rfl
    have s3 := par0 HV2.out 3 _ rfl
    have s4 := par0 HV2.out 4 _ rfl
    have s5 := par0 HV2.out 5 _ rfl
    have s6 := par0 HV2.out 6 _ rfl
    have e0 := par1 HV2.out 0 _ rfl
    have e1 := par1 HV2.out 1 _ rfl
    have e2 := par1 HV2.out 2 _ rfl
    have e3 := par1 HV2.out 3 _ rfl
    have e4 := par1 HV2.out 4 _ rfl
    have e5 := par1 HV2.out 5 _ rfl
    have e6 := par1 HV2.out 6 _ rfl
    have e7 := par1 HV2.out 7 _ rfl
    have e8 := par1 HV2.out 8 _ rfl
    have e9 := par1 HV2.out 9 _ rfl
    have e10 := par1 HV2.out 10 _ rfl
    have e11 := par1 HV2.out 11 _ rfl
    clear u2
    go_wp2_with fail
    refine Calls.mono (HIT.out _ HU2.out) ?_
    rintro r W3 ⟨rfl,u3⟩
    clear s0 s1 s2 s3 s4 s5 s6 e0 e1 e2 e3 e4 e5 e6 e7 e8 e9 e10 e11
    have HU3 : Hid (Up w W3) := HU2.out.trans u3
    have HV3 : Hid _ := Up.trans HV2.out u3
    have s0 := par0 HV3.out 0 _ rfl
    have s1 := par0 HV3.out 1 _ rfl
    have s2 := par0 HV3.out 2 _ rfl
    have s3 := par0 HV3.out 3 _ rfl
    have s4 := par0 HV3.out 4 _ rfl
    have s5 := par0 HV3.out 5 _ rfl
    have s6 := par0 HV3.out 6 _ rfl
    have e0 := par1 HV3.out 0 _ rfl
    have e1 := par1 HV3.out 1 _ rfl
    have e2 := par1 HV3.out 2 _ rfl
    have e3 := par1 HV3.out 3 _ rfl
    have e4 := par1 HV3.out 4 _ rfl
    have e5 := par1 HV3.out 5 _ rfl
    have e6 := par1 HV3.out 6 _ rfl
    have e7 := par1 HV3.out 7 _ rfl
    have e8 := par1 HV3.out 8 _ rfl
    have e9 := par1 HV3.out 9 _ rfl
    have e10 := par1 HV3.out 10 _ rfl
    have e11 := par1 HV3.out 11 _ rfl
    clear u3
    go_wp2
    go_ret
    exact ⟨by simp,HU3.out⟩
   ·rw [hn3] at HIT
    rw [Bool.true_and]
    cases nb
    ·have HO : Hid _ := HOT.out hn3
     rw [Bool.not_false,Bool.true_and]
     obtain ⟨i,rfl,hi⟩ := num_nat hn2
     obtain ⟨b,off,rfl,hc⟩ := hcl (by omega)
     obtain ⟨ra,rc,hcell,hil⟩ := hc i hi
     have HCell : Hid _ := hcell
     have hzn : zn s (i : Int) = s.zs.getD i [] := by unfold zn; rw [Int.toNat_natCast]
     rw [hzn]
     generalize others s to_ (i : Int) = ot at *
     obtain ⟨ra',rc',hrr,-,hilc⟩ := il_at hil
     simp only [Value.slice.injEq,true_and] at hrr
     obtain ⟨rfl,rfl⟩ := hrr
     generalize s.zs.getD i [] = zl at *
     have hi2 : (i : Int) < (s.zs.length : Int) := by omega
     generalize s.zs.length = m at *
     clear hcl HOT hn1 hn2 hn3 hc hcell hil hzn
     cases hn5 : numB frAt zl.length
     ·have HN5 : Hid _ := HNU.out frAt zl.length
      rw [hn5] at HN5
      rw [Bool.false_and]
      clear hn5 hilc HNU
      generalize zl.length = q at *
      go_enter Tryz.func118,Tryz.ntmps118
      go_wp2_with fail
      refine Calls.mono (HIC.out _ (((Up.refl _).alloc _).alloc _)) ?_
      rintro r W1 ⟨rfl,u1⟩
      have HU1 : Hid (Up w W1) := Up.trans (((Up.refl _).alloc _).alloc _) u1
      have HV1 : Hid _ := u1
      have s0 := par0 HV1.out 0 _ rfl
      have s1 := par0 HV1.out 1 _ rfl
      have s2 := par0 HV1.out 2 _ rfl
      have s3 := par0 HV1.out 3 _ rfl
      have s4 := par0 HV1.out 4 _ rfl
      have s5 := par0 HV1.out 5 _ rfl
      have s6 := par0 HV1.out 6 _ rfl
      have e0 := par1 HV1.out 0 _ rfl
      have e1 := par1 HV1.out 1 _ rfl
      have e2 := par1 HV1.out 2 _ rfl
      have e3 := par1 HV1.out 3 _ rfl
      have e4 := par1 HV1.out 4 _ rfl
      have e5 := par1 HV1.out 5 _ rfl
      have e6 := par1 HV1.out 6 _ rfl
      have e7 := par1 HV1.out 7 _ rfl
      have e8 := par1 HV1.out 8 _ rfl
      have e9 := par1 HV1.out 9 _ rfl
      have e10 := par1 HV1.out 10 _ rfl
      have e11 := par1 HV1.out 11 _ rfl
      clear u1
      go_wp2_with fail
      refine Calls.mono (HIF.out _ HU1.out) ?_
      rintro r W2 ⟨rfl,u2⟩
      clear s0 s1 s2 s3 s4 s5 s6 e0 e1 e2 e3 e4 e5 e6 e7 e8 e9 e10 e11
      have HU2 : Hid (Up w W2) := HU1.out.trans u2
      have HV2 : Hid _ := Up.trans HV1.out u2
      have s0 := par0 HV2.out 0 _ rfl
      have s1 := par0 HV2.out 1 _ rfl
      have s2 := par0 HV2.out 2 _ rfl
      have s3 := par0 HV2.out 3 _ rfl
      have s4 := par0 HV2.out 4 _ rfl
      have s5 := par0 HV2.out 5 _ rfl
      have s6 := par0 HV2.out 6 _ rfl
      have e0 := par1 HV2.out 0 _ rfl
      have e1 := par1 HV2.out 1 _ rfl
      have e2 := par1 HV2.out 2 _ rfl
      have e3 := par1 HV2.out 3 _ rfl
      have e4 := par1 HV2.out 4 _ rfl
      have e5 := par1 HV2.out 5 _ rfl
      have e6 := par1 HV2.out 6 _ rfl
      have e7 := par1 HV2.out 7 _ rfl
      have e8 := par1 HV2.out 8 _ rfl
      have e9 := par1 HV2.out 9 _ rfl
      have e10 := par1 HV2.out 10 _ rfl
      have e11 := par1 HV2.out 11 _ rfl
      clear u2
      go_wp2_with fail
      refine Calls.mono (HIT.out _ HU2.out) ?_
      rintro r W3 ⟨rfl,u3⟩
      clear s0 s1 s2 s3 s4 s5 s6 e0 e1 e2 e3 e4 e5 e6 e7 e8 e9 e10 e11
      have HU3 : Hid (Up w W3) := HU2.out.trans u3
      have HV3 : Hid _ := Up.trans HV2.out u3
      have s0 := par0 HV3.out 0 _ rfl
      have s1 := par0 HV3.out 1 _ rfl
      have s2 := par0 HV3.out 2 _ rfl
      have s3 := par0 HV3.out 3 _ rfl
      have s4 := par0 HV3.out 4 _ rfl
      have s5 := par0 HV3.out 5 _ rfl
      have s6 := par0 HV3.out 6 _ rfl
      have e0 := par1 HV3.out 0 _ rfl
      have e1 := par1 HV3.out 1 _ rfl
      have e2 := par1 HV3.out 2 _ rfl
      have e3 := par1 HV3.out 3 _ rfl
      have e4 := par1 HV3.out 4 _ rfl
      have e5 := par1 HV3.out 5 _ rfl
      have e6 := par1 HV3.out 6 _ rfl
      have e7 := par1 HV3.out 7 _ rfl
      have e8 := par1 HV3.out 8 _ rfl
      have e9 := par1 HV3.out 9 _ rfl
      have e10 := par1 HV3.out 10 _ rfl
      have e11 := par1 HV3.out 11 _ rfl
      clear u3
      go_wp2_with fail
      refine Calls.mono (HCN.out _ HU3.out) ?_
      rintro r W4 ⟨rfl,u4⟩
      clear s0 s1 s2 s3 s4 s5 s6 e0 e1 e2 e3 e4 e5 e6 e7 e8 e9 e10 e11
      have HU4 : Hid (Up w W4) := HU3.out.trans u4
      have HV4 : Hid _ := Up.trans HV3.out u4
      have s0 := par0 HV4.out 0 _ rfl
      have s1 := par0 HV4.out 1 _ rfl
      have s2 := par0 HV4.out 2 _ rfl
      have s3 := par0 HV4.out 3 _ rfl
      have s4 := par0 HV4.out 4 _ rfl
      have s5 := par0 HV4.out 5 _ rfl
      have s6 := par0 HV4.out 6 _ rfl
      have e0 := par1 HV4.out 0 _ rfl
      have e1 := par1 HV4.out 1 _ rfl
      have e2 := par1 HV4.out 2 _ rfl
      have e3 := par1 HV4.out 3 _ rfl
      have e4 := par1 HV4.out 4 _ rfl
      have e5 := par1 HV4.out 5 _ rfl
      have e6 := par1 HV4.out 6 _ rfl
      have e7 := par1 HV4.out 7 _ rfl
      have e8 := par1 HV4.out 8 _ rfl
      have e9 := par1 HV4.out 9 _ rfl
      have e10 := par1 HV4.out 10 _ rfl
      have e11 := par1 HV4.out 11 _ rfl
      clear u4
      have x0 := HCell.out W4 HU4.out
      go_wp2_with fail
      go_quiet (exact Calls.quiet_of_same (HN5.out _))
      go_wp2
      go_ret
      exact ⟨by simp,HU4.out.drewN _⟩
     ·have HN5 : Hid _ := HNU.out frAt zl.length
      rw [hn5] at HN5
      rw [Bool.true_and]
      obtain ⟨j,rfl,hj⟩ := num_nat hn5
      obtain ⟨rb,ro,rfl,hrc⟩ := hilc (by omega)
      have HRC : Hid (∀ W,Up w W -> _) := fun W u=>hrc W u j hj
      have hj2 : (j : Int) < (zl.length : Int) := by omega
      rw [Int.toNat_natCast]
      generalize zl.getD j 0 = y at *
      generalize zl.length = q at *
      clear hn5 hrc hilc HNU
      by_cases hy : y = card
      ·have f0 : (y == card) = true := by rw [hy]; simp
       have g0 : decide (y = card) = true := decide_eq_true hy
       rw [g0,Bool.true_and]
       clear hy g0
       by_cases ht : 0 <= toAt
       ·have f1 : decide (0 <= toAt) = true := decide_eq_true ht
        rw [f1,Bool.true_and]
        go_enter Tryz.func118,Tryz.ntmps118
        go_wp2_with fail
        refine Calls.mono (HIC.out _ (((Up.refl _).alloc _).alloc _)) ?_
        rintro r W1 ⟨rfl,u1⟩
        have HU1 : Hid (Up w W1) := Up.trans (((Up.refl _).alloc _).alloc _) u1
        have HV1 : Hid _ := u1
        have s0 := par0 HV1.out 0 _ rfl
        have s1 := par0 HV1.out 1 _ rfl
        have s2 := par0 HV1.out 2 _ rfl
        have s3 := par0 HV1.out 3 _ rfl
        have s4 := par0 HV1.out 4 _ rfl
        have s5 := par0 HV1.out 5 _ rfl
        have s6 := par0 HV1.out 6 _ rfl
        have e0 := par1 HV1.out 0 _ rfl
        have e1 := par1 HV1.out 1 _ rfl
        have e2 := par1 HV1.out 2 _ rfl
        have e3 := par1 HV1.out 3 _ rfl
        have e4 := par1 HV1.out 4 _ rfl
        have e5 := par1 HV1.out 5 _ rfl
        have e6 := par1 HV1.out 6 _ rfl
        have e7 := par1 HV1.out 7 _ rfl
        have e8 := par1 HV1.out 8 _ rfl
        have e9 := par1 HV1.out 9 _ rfl
        have e10 := par1 HV1.out 10 _ rfl
        have e11 := par1 HV1.out 11 _ rfl
        clear u1
        go_wp2_with fail
        refine Calls.mono (HIF.out _ HU1.out) ?_
        rintro r W2 ⟨rfl,u2⟩
        clear s0 s1 s2 s3 s4 s5 s6 e0 e1 e2 e3 e4 e5 e6 e7 e8 e9 e10 e11
        have HU2 : Hid (Up w W2) := HU1.out.trans u2
        have HV2 : Hid _ := Up.trans HV1.out u2
        have s0 := par0 HV2.out 0 _ rfl
        have s1 := par0 HV2.out 1 _ rfl
        have s2 := par0 HV2.out 2 _ rfl
        have s3 := par0 HV2.out 3 _ rfl
        have s4 := par0 HV2.out 4 _ rfl
        have s5 := par0 HV2.out 5 _ rfl
        have s6 := par0 HV2.out 6 _ rfl
        have e0 := par1 HV2.out 0 _ rfl
        have e1 := par1 HV2.out 1 _ rfl
        have e2 := par1 HV2.out 2 _ rfl
        have e3 := par1 HV2.out 3 _ rfl
        have e4 := par1 HV2.out 4 _ rfl
        have e5 := par1 HV2.out 5 _ rfl
        have e6 := par1 HV2.out 6 _ rfl
        have e7 := par1 HV2.out 7 _ rfl
        have e8 := par1 HV2.out 8 _ rfl
        have e9 := par1 HV2.out 9 _ rfl
        have e10 := par1 HV2.out 10 _ rfl
        have e11 := par1 HV2.out 11 _ rfl
        clear u2
        go_wp2_with fail
        refine Calls.mono (HIT.out _ HU2.out) ?_
        rintro r W3 ⟨rfl,u3⟩
        clear s0 s1 s2 s3 s4 s5 s6 e0 e1 e2 e3 e4 e5 e6 e7 e8 e9 e10 e11
        have HU3 : Hid (Up w W3) := HU2.out.trans u3
        have HV3 : Hid _ := Up.trans HV2.out u3
        have s0 := par0 HV3.out 0 _ rfl
        have s1 := par0 HV3.out 1 _ rfl
        have s2 := par0 HV3.out 2 _ rfl
        have s3 := par0 HV3.out 3 _ rfl
        have s4 := par0 HV3.out 4 _ rfl
        have s5 := par0 HV3.out 5 _ rfl
        have s6 := par0 HV3.out 6 _ rfl
        have e0 := par1 HV3.out 0 _ rfl
        have e1 := par1 HV3.out 1 _ rfl
        have e2 := par1 HV3.out 2 _ rfl
        have e3 := par1 HV3.out 3 _ rfl
        have e4 := par1 HV3.out 4 _ rfl
        have e5 := par1 HV3.out 5 _ rfl
        have e6 := par1 HV3.out 6 _ rfl
        have e7 := par1 HV3.out 7 _ rfl
        have e8 := par1 HV3.out 8 _ rfl
        have e9 := par1 HV3.out 9 _ rfl
        have e10 := par1 HV3.out 10 _ rfl
        have e11 := par1 HV3.out 11 _ rfl
        clear u3
        go_wp2_with fail
        refine Calls.mono (HCN.out _ HU3.out) ?_
        rintro r W4 ⟨rfl,u4⟩
        clear s0 s1 s2 s3 s4 s5 s6 e0 e1 e2 e3 e4 e5 e6 e7 e8 e9 e10 e11
        have HU4 : Hid (Up w W4) := HU3.out.trans u4
        have HV4 : Hid _ := Up.trans HV3.out u4
        have s0 := par0 HV4.out 0 _ rfl
        have s1 := par0 HV4.out 1 _ rfl
        have s2 := par0 HV4.out 2 _ rfl
        have s3 := par0 HV4.out 3 _ rfl
        have s4 := par0 HV4.out 4 _ rfl
        have s5 := par0 HV4.out 5 _ rfl
        have s6 := par0 HV4.out 6 _ rfl
        have e0 := par1 HV4.out 0 _ rfl
        have e1 := par1 HV4.out 1 _ rfl
        have e2 := par1 HV4.out 2 _ rfl
        have e3 := par1 HV4.out 3 _ rfl
        have e4 := par1 HV4.out 4 _ rfl
        have e5 := par1 HV4.out 5 _ rfl
        have e6 := par1 HV4.out 6 _ rfl
        have e7 := par1 HV4.out 7 _ rfl
        have e8 := par1 HV4.out 8 _ rfl
        have e9 := par1 HV4.out 9 _ rfl
        have e10 := par1 HV4.out 10 _ rfl
        have e11 := par1 HV4.out 11 _ rfl
        clear u4
        have x0 := HCell.out W4 HU4.out
        have x1 := HRC.out W4 HU4.out
        go_wp2_with fail
        go_quiet (exact Calls.quiet_of_same (HN5.out _))
        go_wp2_with fail
        obtain ⟨W5,hW5⟩ : ∃ W5,W5 = W4.drewN nq := ⟨_,rfl⟩
        have HU5 : Hid (Up w W5) := by unfold Hid; rw [hW5]; exact HU4.out.drewN nq
        have HV5 : Hid _ := Up.trans HV4.out (Up.drewN (Up.refl _) nq)
        rw [<- hW5] at HV5 ⊢
        clear s0 s1 s2 s3 s4 s5 s6 e0 e1 e2 e3 e4 e5 e6 e7 e8 e9 e10 e11 x0 x1 hW5
        have ne : Nonempty (UW W5) := ⟨⟨W5,Up.refl _⟩⟩
        have s0 : ∀ U : UW W5,_ := fun U=>par0 (Up.trans HV5.out U.up) 0 _ rfl
        have s1 : ∀ U : UW W5,_ := fun U=>par0 (Up.trans HV5.out U.up) 1 _ rfl
        have s2 : ∀ U : UW W5,_ := fun U=>par0 (Up.trans HV5.out U.up) 2 _ rfl
        have s3 : ∀ U : UW W5,_ := fun U=>par0 (Up.trans HV5.out U.up) 3 _ rfl
        have s4 : ∀ U : UW W5,_ := fun U=>par0 (Up.trans HV5.out U.up) 4 _ rfl
        have s5 : ∀ U : UW W5,_ := fun U=>par0 (Up.trans HV5.out U.up) 5 _ rfl
        have s6 : ∀ U : UW W5,_ := fun U=>par0 (Up.trans HV5.out U.up) 6 _ rfl
        have e5 : ∀ U : UW W5,_ := fun U=>par1 (Up.trans HV5.out U.up) 5 _ rfl
        have e7 : ∀ U : UW W5,_ := fun U=>par1 (Up.trans HV5.out U.up) 7 _ rfl
        have e8 : ∀ U : UW W5,_ := fun U=>par1 (Up.trans HV5.out U.up) 8 _ rfl
        have HQO : Hid (∀ U : UW W5,Calls Tryz.prog 162 #[.agg #[.slice a1 s.ps.length k1,.slice a2 s.cs.length k2,.slice (some ⟨b,off,none⟩) m k3,.int .i32 s.turn,.int .i64 s.whose,.int .i8 s.fin,.int .i64 s.winner],.int .i64 to_,.int .i64 (i : Int)] U.W (fun e w'=>e = .returned (.int .i64 ot) /\ ∃ V : UW W5,w' = V.W)) := fun U=>(HO.out U.W (HU5.out.trans U.up)).mono fun e w' h=>⟨h.1,⟨w',U.up.trans h.2⟩,rfl⟩
        refine TailR.wp_region_seqC 14 (fun w'=>∃ U : UW W5,w' = U.W) ⟨⟨_,(Up.refl _).drewN 1⟩,rfl⟩ (by kernel_rfl) (by kernel_rfl) ?_
        simp only [List.take_succ_cons,List.take_zero,List.drop_succ_cons,List.drop_zero]
        repeat (go_big_quiet_step (with_reducible exact HQO.out _))
        refine wpQuiet_nil ?_
        intro _ hw'
        obtain ⟨U,hw''⟩ := hw'
        subst hw''
        go_wp2
        go_ret
        exact ⟨by simp,HU5.out.trans U.up⟩
       ·have f1 : decide (0 <= toAt) = false := decide_eq_false ht
        rw [f1,Bool.false_and]
        go_enter Tryz.func118,Tryz.ntmps118
        go_wp2_with fail
        refine Calls.mono (HIC.out _ (((Up.refl _).alloc _).alloc _)) ?_
        rintro r W1 ⟨rfl,u1⟩
        have HU1 : Hid (Up w W1) := Up.trans (((Up.refl _).alloc _).alloc _) u1
        have HV1 : Hid _ := u1
        have s0 := par0 HV1.out 0 _ rfl
        have s1 := par0 HV1.out 1 _ rfl
        have s2 := par0 HV1.out 2 _ rfl
        have s3 := par0 HV1.out 3 _ rfl
        have s4 := par0 HV1.out 4 _ rfl
        have s5 := par0 HV1.out 5 _ rfl
        have s6 := par0 HV1.out 6 _ rfl
        have e0 := par1 HV1.out 0 _ rfl
        have e1 := par1 HV1.out 1 _ rfl
        have e2 := par1 HV1.out 2 _ rfl
        have e3 := par1 HV1.out 3 _ rfl
        have e4 := par1 HV1.out 4 _ rfl
        have e5 := par1 HV1.out 5 _ rfl
        have e6 := par1 HV1.out 6 _ rfl
        have e7 := par1 HV1.out 7 _ rfl
        have e8 := par1 HV1.out 8 _ rfl
        have e9 := par1 HV1.out 9 _ rfl
        have e10 := par1 HV1.out 10 _ rfl
        have e11 := par1 HV1.out 11 _ rfl
        clear u1
        go_wp2_with fail
        refine Calls.mono (HIF.out _ HU1.out) ?_
        rintro r W2 ⟨rfl,u2⟩
        clear s0 s1 s2 s3 s4 s5 s6 e0 e1 e2 e3 e4 e5 e6 e7 e8 e9 e10 e11
        have HU2 : Hid (Up w W2) := HU1.out.trans u2
        have HV2 : Hid _ := Up.trans HV1.out u2
        have s0 := par0 HV2.out 0 _ rfl
        have s1 := par0 HV2.out 1 _ rfl
        have s2 := par0 HV2.out 2 _ rfl
        have s3 := par0 HV2.out 3 _ rfl
        have s4 := par0 HV2.out 4 _ rfl
        have s5 := par0 HV2.out 5 _ rfl
        have s6 := par0 HV2.out 6 _ rfl
        have e0 := par1 HV2.out 0 _ rfl
        have e1 := par1 HV2.out 1 _ rfl
        have e2 := par1 HV2.out 2 _ rfl
        have e3 := par1 HV2.out 3 _ rfl
        have e4 := par1 HV2.out 4 _ rfl
        have e5 := par1 HV2.out 5 _ rfl
        have e6 := par1 HV2.out 6 _ rfl
        have e7 := par1 HV2.out 7 _ rfl
        have e8 := par1 HV2.out 8 _ rfl
        have e9 := par1 HV2.out 9 _ rfl
        have e10 := par1 HV2.out 10 _ rfl
        have e11 := par1 HV2.out 11 _ rfl
        clear u2
        go_wp2_with fail
        refine Calls.mono (HIT.out _ HU2.out) ?_
        rintro r W3 ⟨rfl,u3⟩
        clear s0 s1 s2 s3 s4 s5 s6 e0 e1 e2 e3 e4 e5 e6 e7 e8 e9 e10 e11
        have HU3 : Hid (Up w W3) := HU2.out.trans u3
        have HV3 : Hid _ := Up.trans HV2.out u3
        have s0 := par0 HV3.out 0 _ rfl
        have s1 := par0 HV3.out 1 _ rfl
        have s2 := par0 HV3.out 2 _ rfl
        have s3 := par0 HV3.out 3 _ rfl
        have s4 := par0 HV3.out 4 _ rfl
        have s5 := par0 HV3.out 5 _ rfl
        have s6 := par0 HV3.out 6 _ rfl
        have e0 := par1 HV3.out 0 _ rfl
        have e1 := par1 HV3.out 1 _ rfl
        have e2 := par1 HV3.out 2 _ rfl
        have e3 := par1 HV3.out 3 _ rfl
        have e4 := par1 HV3.out 4 _ rfl
        have e5 := par1 HV3.out 5 _ rfl
        have e6 := par1 HV3.out 6 _ rfl
        have e7 := par1 HV3.out 7 _ rfl
        have e8 := par1 HV3.out 8 _ rfl
        have e9 := par1 HV3.out 9 _ rfl
        have e10 := par1 HV3.out 10 _ rfl
        have e11 := par1 HV3.out 11 _ rfl
        clear u3
        go_wp2_with fail
        refine Calls.mono (HCN.out _ HU3.out) ?_
        rintro r W4 ⟨rfl,u4⟩
        clear s0 s1 s2 s3 s4 s5 s6 e0 e1 e2 e3 e4 e5 e6 e7 e8 e9 e10 e11
        have HU4 : Hid (Up w W4) := HU3.out.trans u4
        have HV4 : Hid _ := Up.trans HV3.out u4
        have s0 := par0 HV4.out 0 _ rfl
        have s1 := par0 HV4.out 1 _ rfl
        have s2 := par0 HV4.out 2 _ rfl
        have s3 := par0 HV4.out 3 _ rfl
        have s4 := par0 HV4.out 4 _ rfl
        have s5 := par0 HV4.out 5 _ rfl
        have s6 := par0 HV4.out 6 _ rfl
        have e0 := par1 HV4.out 0 _ rfl
        have e1 := par1 HV4.out 1 _ rfl
        have e2 := par1 HV4.out 2 _ rfl
        have e3 := par1 HV4.out 3 _ rfl
        have e4 := par1 HV4.out 4 _ rfl
        have e5 := par1 HV4.out 5 _ rfl
        have e6 := par1 HV4.out 6 _ rfl
        have e7 := par1 HV4.out 7 _ rfl
        have e8 := par1 HV4.out 8 _ rfl
        have e9 := par1 HV4.out 9 _ rfl
        have e10 := par1 HV4.out 10 _ rfl
        have e11 := par1 HV4.out 11 _ rfl
        clear u4
        have x0 := HCell.out W4 HU4.out
        have x1 := HRC.out W4 HU4.out
        go_wp2_with fail
        go_quiet (exact Calls.quiet_of_same (HN5.out _))
        go_wp2_with fail
        go_quiet (fail)
        go_wp2
        go_ret
        exact ⟨by simp,(HU4.out.drewN _).drewN _⟩
      ·have f0 : (y == card) = false := beq_eq_false_iff_ne.2 hy
       have g0 : decide (y = card) = false := decide_eq_false hy
       rw [g0,Bool.false_and]
       clear hy g0
       go_enter Tryz.func118,Tryz.ntmps118
       go_wp2_with fail
       refine Calls.mono (HIC.out _ (((Up.refl _).alloc _).alloc _)) ?_
       rintro r W1 ⟨rfl,u1⟩
       have HU1 : Hid (Up w W1) := Up.trans (((Up.refl _).alloc _).alloc _) u1
       have HV1 : Hid _ := u1
       have s0 := par0 HV1.out 0 _ rfl
       have s1 := par0 HV1.out 1 _ rfl
       have s2 := par0 HV1.out 2 _ rfl
       have s3 := par0 HV1.out 3 _ rfl
       have s4 := par0 HV1.out 4 _ rfl
       have s5 := par0 HV1.out 5 _ rfl
       have s6 := par0 HV1.out 6 _ rfl
       have e0 := par1 HV1.out 0 _ rfl
       have e1 := par1 HV1.out 1 _ rfl
       have e2 := par1 HV1.out 2 _ rfl
       have e3 := par1 HV1.out 3 _ rfl
       have e4 := par1 HV1.out 4 _ rfl
       have e5 := par1 HV1.out 5 _ rfl
       have e6 := par1 HV1.out 6 _ rfl
       have e7 := par1 HV1.out 7 _ rfl
       have e8 := par1 HV1.out 8 _ rfl
       have e9 := par1 HV1.out 9 _ rfl
       have e10 := par1 HV1.out 10 _ rfl
       have e11 := par1 HV1.out 11 _ rfl
       clear u1
       go_wp2_with fail
       refine Calls.mono (HIF.out _ HU1.out) ?_
       rintro r W2 ⟨rfl,u2⟩
       clear s0 s1 s2 s3 s4 s5 s6 e0 e1 e2 e3 e4 e5 e6 e7 e8 e9 e10 e11
       have HU2 : Hid (Up w W2) := HU1.out.trans u2
       have HV2 : Hid _ := Up.trans HV1.out u2
       have s0 := par0 HV2.out 0 _ rfl
       have s1 := par0 HV2.out 1 _ rfl
       have s2 := par0 HV2.out 2 _ rfl
       have s3 := par0 HV2.out 3 _ rfl
       have s4 := par0 HV2.out 4 _ rfl
       have s5 := par0 HV2.out 5 _ rfl
       have s6 := par0 HV2.out 6 _ rfl
       have e0 := par1 HV2.out 0 _ rfl
       have e1 := par1 HV2.out 1 _ rfl
       have e2 := par1 HV2.out 2 _ rfl
       have e3 := par1 HV2.out 3 _ rfl
       have e4 := par1 HV2.out 4 _ rfl
       have e5 := par1 HV2.out 5 _ rfl
       have e6 := par1 HV2.out 6 _ rfl
       have e7 := par1 HV2.out 7 _ rfl
       have e8 := par1 HV2.out 8 _ rfl
       have e9 := par1 HV2.out 9 _ rfl
       have e10 := par1 HV2.out 10 _ rfl
       have e11 := par1 HV2.out 11 _ rfl
       clear u2
       go_wp2_with fail
       refine Calls.mono (HIT.out _ HU2.out) ?_
       rintro r W3 ⟨rfl,u3⟩
       clear s0 s1 s2 s3 s4 s5 s6 e0 e1 e2 e3 e4 e5 e6 e7 e8 e9 e10 e11
       have HU3 : Hid (Up w W3) := HU2.out.trans u3
       have HV3 : Hid _ := Up.trans HV2.out u3
       have s0 := par0 HV3.out 0 _ rfl
       have s1 := par0 HV3.out 1 _ rfl
       have s2 := par0 HV3.out 2 _ rfl
       have s3 := par0 HV3.out 3 _ rfl
       have s4 := par0 HV3.out 4 _ rfl
       have s5 := par0 HV3.out 5 _ rfl
       have s6 := par0 HV3.out 6 _ rfl
       have e0 := par1 HV3.out 0 _ rfl
       have e1 := par1 HV3.out 1 _ rfl
       have e2 := par1 HV3.out 2 _ rfl
       have e3 := par1 HV3.out 3 _ rfl
       have e4 := par1 HV3.out 4 _ rfl
       have e5 := par1 HV3.out 5 _ rfl
       have e6 := par1 HV3.out 6 _ rfl
       have e7 := par1 HV3.out 7 _ rfl
       have e8 := par1 HV3.out 8 _ rfl
       have e9 := par1 HV3.out 9 _ rfl
       have e10 := par1 HV3.out 10 _ rfl
       have e11 := par1 HV3.out 11 _ rfl
       clear u3
       go_wp2_with fail
       refine Calls.mono (HCN.out _ HU3.out) ?_
       rintro r W4 ⟨rfl,u4⟩
       clear s0 s1 s2 s3 s4 s5 s6 e0 e1 e2 e3 e4 e5 e6 e7 e8 e9 e10 e11
       have HU4 : Hid (Up w W4) := HU3.out.trans u4
       have HV4 : Hid _ := Up.trans HV3.out u4
       have s0 := par0 HV4.out 0 _ rfl
       have s1 := par0 HV4.out 1 _ rfl
       have s2 := par0 HV4.out 2 _ rfl
       have s3 := par0 HV4.out 3 _ rfl
       have s4 := par0 HV4.out 4 _ rfl
       have s5 := par0 HV4.out 5 _ rfl
       have s6 := par0 HV4.out 6 _ rfl
       have e0 := par1 HV4.out 0 _ rfl
       have e1 := par1 HV4.out 1 _ rfl
       have e2 := par1 HV4.out 2 _ rfl
       have e3 := par1 HV4.out 3 _ rfl
       have e4 := par1 HV4.out 4 _ rfl
       have e5 := par1 HV4.out 5 _ rfl
       have e6 := par1 HV4.out 6 _ rfl
       have e7 := par1 HV4.out 7 _ rfl
       have e8 := par1 HV4.out 8 _ rfl
       have e9 := par1 HV4.out 9 _ rfl
       have e10 := par1 HV4.out 10 _ rfl
       have e11 := par1 HV4.out 11 _ rfl
       clear u4
       have x0 := HCell.out W4 HU4.out
       have x1 := HRC.out W4 HU4.out
       go_wp2_with fail
       go_quiet (exact Calls.quiet_of_same (HN5.out _))
       go_wp2
       go_ret
       exact ⟨by simp,HU4.out.drewN _⟩
    ·rw [Bool.not_true,Bool.false_and]
     clear hcl HOT hn1 hn2 hn3
     go_enter Tryz.func118,Tryz.ntmps118
     go_wp2_with fail
     refine Calls.mono (HIC.out _ (((Up.refl _).alloc _).alloc _)) ?_
     rintro r W1 ⟨rfl,u1⟩
     have HU1 : Hid (Up w W1) := Up.trans (((Up.refl _).alloc _).alloc _) u1
     have HV1 : Hid _ := u1
     have s0 := par0 HV1.out 0 _ rfl
     have s1 := par0 HV1.out 1 _ rfl
     have s2 := par0 HV1.out 2 _ rfl
     have s3 := par0 HV1.out 3 _ rfl
     have s4 := par0 HV1.out 4 _ rfl
     have s5 := par0 HV1.out 5 _ rfl
     have s6 := par0 HV1.out 6 _ rfl
     have e0 := par1 HV1.out 0 _ rfl
     have e1 := par1 HV1.out 1 _ rfl
     have e2 := par1 HV1.out 2 _ rfl
     have e3 := par1 HV1.out 3 _ rfl
     have e4 := par1 HV1.out 4 _ rfl
     have e5 := par1 HV1.out 5 _ rfl
     have e6 := par1 HV1.out 6 _ rfl
     have e7 := par1 HV1.out 7 _ rfl
     have e8 := par1 HV1.out 8 _ rfl
     have e9 := par1 HV1.out 9 _ rfl
     have e10 := par1 HV1.out 10 _ rfl
     have e11 := par1 HV1.out 11 _ rfl
     clear u1
     go_wp2_with fail
     refine Calls.mono (HIF.out _ HU1.out) ?_
     rintro r W2 ⟨rfl,u2⟩
     clear s0 s1 s2 s3 s4 s5 s6 e0 e1 e2 e3 e4 e5 e6 e7 e8 e9 e10 e11
     have HU2 : Hid (Up w W2) := HU1.out.trans u2
     have HV2 : Hid _ := Up.trans HV1.out u2
     have s0 := par0 HV2.out 0 _ rfl
     have s1 := par0 HV2.out 1 _ rfl
     have s2 := par0 HV2.out 2 _ rfl
     have s3 := par0 HV2.out 3 _ rfl
     have s4 := par0 HV2.out 4 _ rfl
     have s5 := par0 HV2.out 5 _ rfl
     have s6 := par0 HV2.out 6 _ rfl
     have e0 := par1 HV2.out 0 _ rfl
     have e1 := par1 HV2.out 1 _ rfl
     have e2 := par1 HV2.out 2 _ rfl
     have e3 := par1 HV2.out 3 _ rfl
     have e4 := par1 HV2.out 4 _ rfl
     have e5 := par1 HV2.out 5 _ rfl
     have e6 := par1 HV2.out 6 _ rfl
     have e7 := par1 HV2.out 7 _ rfl
     have e8 := par1 HV2.out 8 _ rfl
     have e9 := par1 HV2.out 9 _ rfl
     have e10 := par1 HV2.out 10 _ rfl
     have e11 := par1 HV2.out 11 _ rfl
     clear u2
     go_wp2_with fail
     refine Calls.mono (HIT.out _ HU2.out) ?_
     rintro r W3 ⟨rfl,u3⟩
     clear s0 s1 s2 s3 s4 s5 s6 e0 e1 e2 e3 e4 e5 e6 e7 e8 e9 e10 e11
     have HU3 : Hid (Up w W3) := HU2.out.trans u3
     have HV3 : Hid _ := Up.trans HV2.out u3
     have s0 := par0 HV3.out 0 _ rfl
     have s1 := par0 HV3.out 1 _ rfl
     have s2 := par0 HV3.out 2 _ rfl
     have s3 := par0 HV3.out 3 _ rfl
     have s4 := par0 HV3.out 4 _ rfl
     have s5 := par0 HV3.out 5 _ rfl
     have s6 := par0 HV3.out 6 _ rfl
     have e0 := par1 HV3.out 0 _ rfl
     have e1 := par1 HV3.out 1 _ rfl
     have e2 := par1 HV3.out 2 _ rfl
     have e3 := par1 HV3.out 3 _ rfl
     have e4 := par1 HV3.out 4 _ rfl
     have e5 := par1 HV3.out 5 _ rfl
     have e6 := par1 HV3.out 6 _ rfl
     have e7 := par1 HV3.out 7 _ rfl
     have e8 := par1 HV3.out 8 _ rfl
     have e9 := par1 HV3.out 9 _ rfl
     have e10 := par1 HV3.out 10 _ rfl
     have e11 := par1 HV3.out 11 _ rfl
     clear u3
     go_wp2_with fail
     refine Calls.mono (HCN.out _ HU3.out) ?_
     rintro r W4 ⟨rfl,u4⟩
     clear s0 s1 s2 s3 s4 s5 s6 e0 e1 e2 e3 e4 e5 e6 e7 e8 e9 e10 e11
     have HU4 : Hid (Up w W4) := HU3.out.trans u4
     have HV4 : Hid _ := Up.trans HV3.out u4
     have s0 := par0 HV4.out 0 _ rfl
     have s1 := par0 HV4.out 1 _ rfl
     have s2 := par0 HV4.out 2 _ rfl
     have s3 := par0 HV4.out 3 _ rfl
     have s4 := par0 HV4.out 4 _ rfl
     have s5 := par0 HV4.out 5 _ rfl
     have s6 := par0 HV4.out 6 _ rfl
     have e0 := par1 HV4.out 0 _ rfl
     have e1 := par1 HV4.out 1 _ rfl
     have e2 := par1 HV4.out 2 _ rfl
     have e3 := par1 HV4.out 3 _ rfl
     have e4 := par1 HV4.out 4 _ rfl
     have e5 := par1 HV4.out 5 _ rfl
     have e6 := par1 HV4.out 6 _ rfl
     have e7 := par1 HV4.out 7 _ rfl
     have e8 := par1 HV4.out 8 _ rfl
     have e9 := par1 HV4.out 9 _ rfl
     have e10 := par1 HV4.out 10 _ rfl
     have e11 := par1 HV4.out 11 _ rfl
     clear u4
     go_wp2
     go_ret
     exact ⟨by simp,HU4.out⟩
end DE
end Go.Proofs.YtodhjjeagmjhdaaGreatDoor
