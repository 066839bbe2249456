/-
  The document's field and set.
-/
import Derived.Test.YtodhjjeagmjhdaaGreatDoorSzTvRl6R
import Derived.Test.YtodhjjeagmjhdaaGreatDoorRp6VR
namespace Go.Proofs.YtodhjjeagmjhdaaGreatDoor
open Go.RowKit
attribute [local go_sem ↓] Go.wp_at_zero Go.wp_at_succ
namespace DE
open Go.Proofs.YtodhjjeagmjhdaaGreatDoor.ST
def fldO (s : Stt) (f k : Int) : Option Int := if 1 <= f /\ f <= 4 then (if numB k s.cs.length = true then cGet (s.cs.getD k.toNat dc) f else none) else if f = 5 ∨ f = 6 then (if numB k s.ps.length = true then pGet (s.ps.getD k.toNat dp) f else none) else none
def setD (s : Stt) (f k n : Int) : Stt := if f <= 4 then { s with cs := s.cs.set k.toNat (cSet (s.cs.getD k.toNat dc) f n) } else { s with ps := s.ps.set k.toNat (pSet (s.ps.getD k.toNat dp) f n) }
set_option maxRecDepth 100000 in
set_option maxHeartbeats 8000000 in
theorem rfield_ (v : Value) (s : Stt) (f k : Int) (w : World) (hs : StL w v s) : Calls Tryz.prog 170 #[v,.int .i8 f,.int .i64 k] w fun r w'=>r = .returned (.tuple #[.int .i32 ((fldO s f k).getD 0),.bool (fldO s f k).isSome]) /\ Up w w' := by
 obtain ⟨o,ho⟩ : ∃ o,o = fldO s f k := ⟨_,rfl⟩
 rw [<- ho]
 have HO : Hid (o = fldO s f k) := ho
 clear ho
 have HC : Hid (∀ W,Calls Tryz.prog 103 #[.int .i64 k,.int .i64 (s.cs.length : Nat)] W fun e w'=>e = .returned (.bool (numB k s.cs.length)) /\ w' = W) := fun W=>ris_ k s.cs.length W
 have HPp : Hid (∀ W,Calls Tryz.prog 103 #[.int .i64 k,.int .i64 (s.ps.length : Nat)] W fun e w'=>e = .returned (.bool (numB k s.ps.length)) /\ w' = W) := fun W=>ris_ k s.ps.length W
 obtain ⟨vp,vc,vz,rfl,h1,h2,h3⟩ := hs
 obtain ⟨a1,k1,rfl,-,hpl⟩ := pl_at h1
 obtain ⟨a2,k2,rfl,-,hcl⟩ := cl_at h2
 obtain ⟨a3,k3,rfl,-,-⟩ := zl_at h3
 unfold sv
 have HU : Hid (Up w (w.alloc (.cells #[.slice a1 s.ps.length k1,.slice a2 s.cs.length k2,.slice a3 s.zs.length k3,.int .i32 s.turn,.int .i64 s.whose,.int .i8 s.fin,.int .i64 s.winner] 27))) := (Up.refl _).alloc _
 have HCL : Hid _ := hcl
 have HPL : Hid _ := hpl
 clear h1 h2 h3 hcl hpl
 by_cases h1 : f = 1
 ·subst h1
  cases hb : numB k s.cs.length with
  | true =>
   rw [hb] at HC
   obtain ⟨i,rfl,hi⟩ := num_nat hb
   have hv : o = some (s.cs.getD i dc).power := by rw [HO.out]; simp [fldO,hb,cGet]
   obtain ⟨cb,co,rfl,hcc⟩ := HCL.out (by omega)
   obtain ⟨x0,x1,x2,x3,x4,x5⟩ := hcc _ HU.out i hi
   have hi2 : (i : Int) < (s.cs.length : Int) := by omega
   generalize s.cs.getD i dc = c at *
   generalize s.cs.length = m at *
   subst hv
   clear hb hcc HCL HPL HPp HO
   go_enter Tryz.func170,Tryz.ntmps170
   go_wp2_with fail
   refine Calls.mono (HC.out _) ?_
   rintro r W1 ⟨rfl,rfl⟩
   go_wp2
   exact bodyPost_ret (v := .tuple #[.int .i32 c.power,.bool true]) (by simp [results,Tryz.results170,go_sem]) rfl ⟨rfl,Up.alloc HU.out _⟩
  | false =>
   rw [hb] at HC
   have hv : o = none := by rw [HO.out]; simp [fldO,hb]
   subst hv
   clear hb HCL HPL HPp HO
   go_enter Tryz.func170,Tryz.ntmps170
   go_wp2_with fail
   refine Calls.mono (HC.out _) ?_
   rintro r W1 ⟨rfl,rfl⟩
   go_wp2
   exact bodyPost_ret (v := .tuple #[.int .i32 0,.bool false]) (by simp [results,Tryz.results170,go_sem]) rfl ⟨rfl,HU.out⟩
 ·have f1 : (f == 1) = false := beq_eq_false_iff_ne.2 h1
  by_cases h2 : f = 2
  ·subst h2
   cases hb : numB k s.cs.length with
   | true =>
    rw [hb] at HC
    obtain ⟨i,rfl,hi⟩ := num_nat hb
    have hv : o = some (s.cs.getD i dc).health := by rw [HO.out]; simp [fldO,hb,cGet]
    obtain ⟨cb,co,rfl,hcc⟩ := HCL.out (by omega)
    obtain ⟨x0,x1,x2,x3,x4,x5⟩ := hcc _ HU.out i hi
    have hi2 : (i : Int) < (s.cs.length : Int) := by omega
    generalize s.cs.getD i dc = c at *
    generalize s.cs.length = m at *
    subst hv
    clear hb hcc HCL HPL HPp HO
    go_enter Tryz.func170,Tryz.ntmps170
    go_wp2_with fail
    refine Calls.mono (HC.out _) ?_
    rintro r W1 ⟨rfl,rfl⟩
    go_wp2
    exact bodyPost_ret (v := .tuple #[.int .i32 c.health,.bool true]) (by simp [results,Tryz.results170,go_sem]) rfl ⟨rfl,Up.alloc HU.out _⟩
   | false =>
    rw [hb] at HC
    have hv : o = none := by rw [HO.out]; simp [fldO,hb]
    subst hv
    clear hb HCL HPL HPp HO
    go_enter Tryz.func170,Tryz.ntmps170
    go_wp2_with fail
    refine Calls.mono (HC.out _) ?_
    rintro r W1 ⟨rfl,rfl⟩
    go_wp2
    exact bodyPost_ret (v := .tuple #[.int .i32 0,.bool false]) (by simp [results,Tryz.results170,go_sem]) rfl ⟨rfl,HU.out⟩
  ·have f2 : (f == 2) = false := beq_eq_false_iff_ne.2 h2
   by_cases h3 : f = 3
   ·subst h3
    cases hb : numB k s.cs.length with
    | true =>
     rw [hb] at HC
     obtain ⟨i,rfl,hi⟩ := num_nat hb
     have hv : o = some (s.cs.getD i dc).damage := by rw [HO.out]; simp [fldO,hb,cGet]
     obtain ⟨cb,co,rfl,hcc⟩ := HCL.out (by omega)
     obtain ⟨x0,x1,x2,x3,x4,x5⟩ := hcc _ HU.out i hi
     have hi2 : (i : Int) < (s.cs.length : Int) := by omega
     generalize s.cs.getD i dc = c at *
     generalize s.cs.length = m at *
     subst hv
     clear hb hcc HCL HPL HPp HO
     go_enter Tryz.func170,Tryz.ntmps170
     go_wp2_with fail
     refine Calls.mono (HC.out _) ?_
     rintro r W1 ⟨rfl,rfl⟩
     go_wp2
     exact bodyPost_ret (v := .tuple #[.int .i32 c.damage,.bool true]) (by simp [results,Tryz.results170,go_sem]) rfl ⟨rfl,Up.alloc HU.out _⟩
    | false =>
     rw [hb] at HC
     have hv : o = none := by rw [HO.out]; simp [fldO,hb]
     subst hv
     clear hb HCL HPL HPp HO
     go_enter Tryz.func170,Tryz.ntmps170
     go_wp2_with fail
     refine Calls.mono (HC.out _) ?_
     rintro r W1 ⟨rfl,rfl⟩
     go_wp2
     exact bodyPost_ret (v := .tuple #[.int .i32 0,.bool false]) (by simp [results,Tryz.results170,go_sem]) rfl ⟨rfl,HU.out⟩
   ·have f3 : (f == 3) = false := beq_eq_false_iff_ne.2 h3
    by_cases h4 : f = 4
    ·subst h4
     cases hb : numB k s.cs.length with
     | true =>
      rw [hb] at HC
      obtain ⟨i,rfl,hi⟩ := num_nat hb
      have hv : o = some (s.cs.getD i dc).marks := by rw [HO.out]; simp [fldO,hb,cGet]
      obtain ⟨cb,co,rfl,hcc⟩ := HCL.out (by omega)
      obtain ⟨x0,x1,x2,x3,x4,x5⟩ := hcc _ HU.out i hi
      have hi2 : (i : Int) < (s.cs.length : Int) := by omega
      generalize s.cs.getD i dc = c at *
      generalize s.cs.length = m at *
      subst hv
      clear hb hcc HCL HPL HPp HO
      go_enter Tryz.func170,Tryz.ntmps170
      go_wp2_with fail
      refine Calls.mono (HC.out _) ?_
      rintro r W1 ⟨rfl,rfl⟩
      go_wp2
      exact bodyPost_ret (v := .tuple #[.int .i32 c.marks,.bool true]) (by simp [results,Tryz.results170,go_sem]) rfl ⟨rfl,Up.alloc HU.out _⟩
     | false =>
      rw [hb] at HC
      have hv : o = none := by rw [HO.out]; simp [fldO,hb]
      subst hv
      clear hb HCL HPL HPp HO
      go_enter Tryz.func170,Tryz.ntmps170
      go_wp2_with fail
      refine Calls.mono (HC.out _) ?_
      rintro r W1 ⟨rfl,rfl⟩
      go_wp2
      exact bodyPost_ret (v := .tuple #[.int .i32 0,.bool false]) (by simp [results,Tryz.results170,go_sem]) rfl ⟨rfl,HU.out⟩
    ·have f4 : (f == 4) = false := beq_eq_false_iff_ne.2 h4
     by_cases h5 : f = 5
     ·subst h5
      cases hb : numB k s.ps.length with
      | true =>
       rw [hb] at HPp
       obtain ⟨i,rfl,hi⟩ := num_nat hb
       have hv : o = some (s.ps.getD i dp).life := by rw [HO.out]; simp [fldO,hb,pGet]
       obtain ⟨cb,co,rfl,hcc⟩ := HPL.out (by omega)
       obtain ⟨x0,x1,x2⟩ := hcc _ HU.out i hi
       have hi2 : (i : Int) < (s.ps.length : Int) := by omega
       generalize s.ps.getD i dp = c at *
       generalize s.ps.length = m at *
       subst hv
       clear hb hcc HCL HPL HC HO
       go_enter Tryz.func170,Tryz.ntmps170
       go_wp2_with fail
       refine Calls.mono (HPp.out _) ?_
       rintro r W1 ⟨rfl,rfl⟩
       go_wp2
       exact bodyPost_ret (v := .tuple #[.int .i32 c.life,.bool true]) (by simp [results,Tryz.results170,go_sem]) rfl ⟨rfl,HU.out⟩
      | false =>
       rw [hb] at HPp
       have hv : o = none := by rw [HO.out]; simp [fldO,hb]
       subst hv
       clear hb HCL HPL HC HO
       go_enter Tryz.func170,Tryz.ntmps170
       go_wp2_with fail
       refine Calls.mono (HPp.out _) ?_
       rintro r W1 ⟨rfl,rfl⟩
       go_wp2
       exact bodyPost_ret (v := .tuple #[.int .i32 0,.bool false]) (by simp [results,Tryz.results170,go_sem]) rfl ⟨rfl,HU.out⟩
     ·have f5 : (f == 5) = false := beq_eq_false_iff_ne.2 h5
      by_cases h6 : f = 6
      ·subst h6
       cases hb : numB k s.ps.length with
       | true =>
        rw [hb] at HPp
        obtain ⟨i,rfl,hi⟩ := num_nat hb
        have hv : o = some (s.ps.getD i dp).energy := by rw [HO.out]; simp [fldO,hb,pGet]
        obtain ⟨cb,co,rfl,hcc⟩ := HPL.out (by omega)
        obtain ⟨x0,x1,x2⟩ := hcc _ HU.out i hi
        have hi2 : (i : Int) < (s.ps.length : Int) := by omega
        generalize s.ps.getD i dp = c at *
        generalize s.ps.length = m at *
        subst hv
        clear hb hcc HCL HPL HC HO
        go_enter Tryz.func170,Tryz.ntmps170
        go_wp2_with fail
        refine Calls.mono (HPp.out _) ?_
        rintro r W1 ⟨rfl,rfl⟩
        go_wp2
        exact bodyPost_ret (v := .tuple #[.int .i32 c.energy,.bool true]) (by simp [results,Tryz.results170,go_sem]) rfl ⟨rfl,HU.out⟩
       | false =>
        rw [hb] at HPp
        have hv : o = none := by rw [HO.out]; simp [fldO,hb]
        subst hv
        clear hb HCL HPL HC HO
        go_enter Tryz.func170,Tryz.ntmps170
        go_wp2_with fail
        refine Calls.mono (HPp.out _) ?_
        rintro r W1 ⟨rfl,rfl⟩
        go_wp2
        exact bodyPost_ret (v := .tuple #[.int .i32 0,.bool false]) (by simp [results,Tryz.results170,go_sem]) rfl ⟨rfl,HU.out⟩
      ·have f6 : (f == 6) = false := beq_eq_false_iff_ne.2 h6
       have hv : o = none := by
        rw [HO.out]
        unfold fldO
        rw [if_neg (by omega),if_neg (by omega)]
       subst hv
       clear HCL HPL HC HPp HO
       by_cases g1 : 1 <= f
       ·have g2 : decide ((1 : Int) <= f) = true := decide_eq_true g1
        have g3 : decide (f <= (4 : Int)) = false := decide_eq_false (by omega)
        clear h1 h2 h3 h4 h5 h6 g1
        go_enter Tryz.func170,Tryz.ntmps170
        go_wp2
        exact bodyPost_ret (v := .tuple #[.int .i32 0,.bool false]) (by simp [results,Tryz.results170,go_sem]) rfl ⟨rfl,HU.out⟩
       ·have g2 : decide ((1 : Int) <= f) = false := decide_eq_false g1
        clear h1 h2 h3 h4 h5 h6 g1
        go_enter Tryz.func170,Tryz.ntmps170
        go_wp2
        exact bodyPost_ret (v := .tuple #[.int .i32 0,.bool false]) (by simp [results,Tryz.results170,go_sem]) rfl ⟨rfl,HU.out⟩
theorem own_of {base b : Nat} {W : World} {C old : Array Value} {s : Stt} (so : SOA base W (.agg C) s) (hb : W.heap[b]? = some (.cells old 27 (0,0))) : Own base (W.setRow b C) b s := by
 have so2 := SOA.setRow (C := C) so hb
 obtain ⟨vp,vc,vz,hv,-⟩ := id so
 rw [hv] at so2
 have hC : C = #[vp,vc,vz,.int .i32 s.turn,.int .i64 s.whose,.int .i8 s.fin,.int .i64 s.winner] := by
  unfold sv at hv
  simpa using hv
 refine ⟨vp,vc,vz,?_,so2⟩
 unfold OwnC
 rw [<- hC]
 exact setRow_heap _ _ _ _ _ _ hb
theorem own_row {base b : Nat} {W : World} {s : Stt} (h : Own base W b s) : ∃ C : Array Value,W.heap[b]? = some (.cells C 27 (0,0)) /\ C.size = 7 /\ C.all (·.oneCell') = true /\ SOA base W (.agg C) s := by
 obtain ⟨vp,vc,vz,h1,h2⟩ := h
 obtain ⟨C,hC,hC1,hC2⟩ := SOA.row h2
 rw [hC] at h2
 refine ⟨C,?_,hC1,hC2,h2⟩
 unfold OwnC at h1
 unfold sv at hC
 rw [h1]
 simp only [Value.agg.injEq] at hC
 rw [hC]
theorem own_base {base b : Nat} {W : World} {s : Stt} {vp vc vz : Value} (h : Own base W b s) (h1 : OwnC W b vp vc vz s) : (∀ g,vp.ownBlock = some g -> base <= g) /\ (∀ g,vc.ownBlock = some g -> base <= g) /\ (∀ g,vz.ownBlock = some g -> base <= g) := by
 obtain ⟨vp',vc',vz',h2,so⟩ := h
 unfold OwnC at h1 h2
 rw [h1] at h2
 simp only [Option.some.injEq,Obj.cells.injEq,Array.mk.injEq,List.cons.injEq,and_true] at h2
 obtain ⟨rfl,rfl,rfl⟩ := h2
 obtain ⟨vp',vc',vz',hv,p1,p2,vs,p3,-,-⟩ := so
 unfold sv at hv
 simp only [Value.agg.injEq,Array.mk.injEq,List.cons.injEq,and_true] at hv
 obtain ⟨rfl,rfl,rfl⟩ := hv
 exact ⟨fun g hg=>(p1.lt g hg).1,fun g hg=>(p2.lt g hg).1,fun g hg=>(p3.lt g hg).1⟩
set_option maxRecDepth 100000 in
set_option maxHeartbeats 8000000 in
theorem rset_ (v : Value) (s : Stt) (f k n x : Int) (w : World) (hs : StL w v s) (hsm : Small s) (hx : fldO s f k = some x) : Calls Tryz.prog 181 #[v,.int .i8 f,.int .i64 k,.int .i32 n] w (CpPost w fun W v'=>SOA w.heap.size W v' (setD s f k n)) := by
 obtain ⟨Post,hPost⟩ : ∃ P : Ending -> World -> Prop,P = CpPost w fun W v'=>SOA w.heap.size W v' (setD s f k n) := ⟨_,rfl⟩
 rw [<- hPost]
 have HP : Hid (Post = CpPost w fun W v'=>SOA w.heap.size W v' (setD s f k n)) := hPost
 have HC : Hid (∀ W,Up w W -> Calls Tryz.prog 76 #[v] W (CpPost W fun W' v'=>SOA W.heap.size W' v' s)) := fun W u=>copyStateA_ v s W (hs.up u) hsm
 obtain ⟨vp,vc,vz,hvv,h1,h2,h3⟩ := hs
 obtain ⟨a1,k1,rfl,-,-⟩ := lc_at h1
 obtain ⟨a2,k2,rfl,-,-⟩ := lc_at h2
 obtain ⟨a3,k3,rfl,-,-⟩ := zl_at h3
 unfold sv at hvv
 clear h1 h2 h3 hPost hsm
 obtain ⟨A,hA0⟩ : ∃ A : Array Value,A = #[.slice a1 s.ps.length k1,.slice a2 s.cs.length k2,.slice a3 s.zs.length k3,.int .i32 s.turn,.int .i64 s.whose,.int .i8 s.fin,.int .i64 s.winner] := ⟨_,rfl⟩
 have hA1 : A.size = 7 := by rw [hA0]; rfl
 rw [<- hA0] at hvv
 subst hvv
 clear hA0
 obtain ⟨W0,hW0⟩ : ∃ W0,(w.alloc (.cells A 27)).alloc (.cells zS 27) = W0 := ⟨_,rfl⟩
 have g0 : W0.heap[w.heap.size]? = some (.cells A 27 (0,0)) := by rw [<- hW0]; exact heap_alloc2_old _ _ _
 have g1 : W0.heap[w.heap.size + 1]? = some (.cells zS 27 (0,0)) := by rw [<- hW0]; exact heap_alloc2_new _ _ _
 have gu : Up w W0 := by rw [<- hW0]; exact ((Up.refl _).alloc _).alloc _
 have gs : W0.heap.size = w.heap.size + 2 := by rw [<- hW0]; simp
 go_enter Tryz.func181,Tryz.ntmps181
 go_wp2_with (first | (refine wpList_world hW0 ?_; clear hW0; refine wpList_load_row (by rfl) 27 (.tmp 4) (by rfl) w.heap.size (by rfl) 27 A (0,0) _ g0 Tryz.underlying27 (by rfl) (by rw [hA1]; exact infoSt) ?_))
 refine Calls.mono (HC.out _ gu) ?_
 rintro r W2 ⟨v',rfl,so,u2⟩
 obtain ⟨C,rfl,h1C,h2C⟩ := SOA.row so
 have g0 := u2.heap g0
 have g1 := u2.heap g1
 have hown := own_of so g0
 obtain ⟨W3,hW3⟩ : ∃ W3,W2.setRow w.heap.size C = W3 := ⟨_,rfl⟩
 rw [hW3,gs] at hown
 have g1 : W3.heap[w.heap.size + 1]? = some (.cells zS 27 (0,0)) := by rw [<- hW3,setRow_other _ _ _ _ (by omega)]; exact g1
 have HU : Hid (Up w W3) := by rw [<- hW3]; exact up_setRow (gu.trans u2) (Nat.le_refl _) _
 clear u2 gu gs HC so
 by_cases h1 : f = 1
 ·subst h1
  have hb : numB k s.cs.length = true := by
   unfold fldO at hx
   rw [if_pos (by omega)] at hx
   split at hx
   ·assumption
   ·cases hx
  obtain ⟨i,rfl,hi⟩ := num_nat hb
  obtain ⟨g,cap,vp,vz,h1,h2,h3⟩ := own_card (B := w.heap.size) hown (by omega) (Nat.le_refl _) i hi
  have hgB := (own_base hown h1).2.1 g rfl
  obtain ⟨xx,xf,hgb⟩ := h2 W3 (Up.refl _)
  have hx2 : W3.cell? ⟨g,i * 6 + 2,none⟩ = some (.int .i32 (s.cs.getD i dc).power) := xx.1
  have hD := h3 2 (.int .i32 n) (cSet (s.cs.getD i dc) 1 n) (by decide) (by simp [cv,cSet]) W3 (Up.refl _)
  obtain ⟨c0,c1,c2,c3,c4,c5,c6⟩ := seven_cells h1
  have hi2 : (i : Int) < (s.cs.length : Int) := by omega
  have HS : Hid (setD s 1 (i : Int) n = { s with cs := s.cs.set i (cSet (s.cs.getD i dc) 1 n) }) := by unfold Hid setD; rw [if_pos (by omega),Int.toNat_natCast]
  obtain ⟨W4,hW4⟩ : ∃ W4,W3.setCell ⟨g,i * 6 + 2,none⟩ (.int .i32 n) = W4 := ⟨_,rfl⟩
  rw [hW4] at hD
  have g1 : W4.heap[w.heap.size + 1]? = some (.cells zS 27 (0,0)) := by rw [<- hW4]; exact set_other g1 (by omega)
  obtain ⟨C4,r4,h14,h24,so4⟩ := own_row hD.1
  have HU4 : Hid (Up w W4) := Below.trans HU.out hD.2.1
  have HSO : Hid (SOA w.heap.size W4 (.agg C4) (setD s 1 (i : Int) n)) := by rw [HS.out]; exact so4.less (by omega)
  have HR : Hid _ := setRow_heap W4 (w.heap.size + 1) _ _ _ C4 g1
  have hgl : g < W3.heap.size := World.block_lt_of_cell? W3 _ hx2
  have hf0 := xf (i * 6 + 2)
  clear hD so4 h2 h3 xx h1 hown hb hx HS xf
  generalize s.cs.length = m at *
  go_wp2_with (first | (refine wpList_store_row rfl 27 (.tmp 4) (.tmp 10) rfl w.heap.size C rfl rfl 27 A g0 (by rw [h1C]; exact infoSt) (by rw [h1C,hA1]) h2C ?_; refine wpList_world hW3 ?_) | (refine wpList_load_row (by rfl) 27 (.tmp 4) (by rfl) w.heap.size (by rfl) 27 C4 (0,0) _ r4 Tryz.underlying27 (by rfl) (by rw [h14]; exact infoSt) ?_) | (refine wpList_store_row rfl 27 (.tmp 8) (.tmp 60) rfl (w.heap.size + 1) C4 rfl rfl 27 zS g1 (by rw [h14]; exact infoSt) (by rw [h14]; rfl) h24 ?_))
  refine bodyPost_ret (v := .agg C4) (results_cell_row (p := 8) (ty := 27) rfl _ _ (w.heap.size + 1) 27 C4 (0,0) _ rfl HR.out Tryz.underlying27 rfl (by rw [h14]; exact infoSt)) rfl ?_
  rw [HP.out]
  exact ⟨_,rfl,SOA.setRow HSO.out g1,up_setRow HU4.out (by omega) _⟩
 ·have f1 : (f == 1) = false := beq_eq_false_iff_ne.2 h1
  by_cases h2 : f = 2
  ·subst h2
   have hb : numB k s.cs.length = true := by
    unfold fldO at hx
    rw [if_pos (by omega)] at hx
    split at hx
    ·assumption
    ·cases hx
   obtain ⟨i,rfl,hi⟩ := num_nat hb
   obtain ⟨g,cap,vp,vz,h1,h2,h3⟩ := own_card (B := w.heap.size) hown (by omega) (Nat.le_refl _) i hi
   have hgB := (own_base hown h1).2.1 g rfl
   obtain ⟨xx,xf,hgb⟩ := h2 W3 (Up.refl _)
   have hx2 : W3.cell? ⟨g,i * 6 + 3,none⟩ = some (.int .i32 (s.cs.getD i dc).health) := xx.2.1
   have hD := h3 3 (.int .i32 n) (cSet (s.cs.getD i dc) 2 n) (by decide) (by simp [cv,cSet]) W3 (Up.refl _)
   obtain ⟨c0,c1,c2,c3,c4,c5,c6⟩ := seven_cells h1
   have hi2 : (i : Int) < (s.cs.length : Int) := by omega
   have HS : Hid (setD s 2 (i : Int) n = { s with cs := s.cs.set i (cSet (s.cs.getD i dc) 2 n) }) := by unfold Hid setD; rw [if_pos (by omega),Int.toNat_natCast]
   obtain ⟨W4,hW4⟩ : ∃ W4,W3.setCell ⟨g,i * 6 + 3,none⟩ (.int .i32 n) = W4 := ⟨_,rfl⟩
   rw [hW4] at hD
   have g1 : W4.heap[w.heap.size + 1]? = some (.cells zS 27 (0,0)) := by rw [<- hW4]; exact set_other g1 (by omega)
   obtain ⟨C4,r4,h14,h24,so4⟩ := own_row hD.1
   have HU4 : Hid (Up w W4) := Below.trans HU.out hD.2.1
   have HSO : Hid (SOA w.heap.size W4 (.agg C4) (setD s 2 (i : Int) n)) := by rw [HS.out]; exact so4.less (by omega)
   have HR : Hid _ := setRow_heap W4 (w.heap.size + 1) _ _ _ C4 g1
   have hgl : g < W3.heap.size := World.block_lt_of_cell? W3 _ hx2
   have hf0 := xf (i * 6 + 3)
   clear hD so4 h2 h3 xx h1 hown hb hx HS xf
   generalize s.cs.length = m at *
   go_wp2_with (first | (refine wpList_store_row rfl 27 (.tmp 4) (.tmp 10) rfl w.heap.size C rfl rfl 27 A g0 (by rw [h1C]; exact infoSt) (by rw [h1C,hA1]) h2C ?_; refine wpList_world hW3 ?_) | (refine wpList_load_row (by rfl) 27 (.tmp 4) (by rfl) w.heap.size (by rfl) 27 C4 (0,0) _ r4 Tryz.underlying27 (by rfl) (by rw [h14]; exact infoSt) ?_) | (refine wpList_store_row rfl 27 (.tmp 8) (.tmp 60) rfl (w.heap.size + 1) C4 rfl rfl 27 zS g1 (by rw [h14]; exact infoSt) (by rw [h14]; rfl) h24 ?_))
   refine bodyPost_ret (v := .agg C4) (results_cell_row (p := 8) (ty := 27) rfl _ _ (w.heap.size + 1) 27 C4 (0,0) _ rfl HR.out Tryz.underlying27 rfl (by rw [h14]; exact infoSt)) rfl ?_
   rw [HP.out]
   exact ⟨_,rfl,SOA.setRow HSO.out g1,up_setRow HU4.out (by omega) _⟩
  ·have f2 : (f == 2) = false := beq_eq_false_iff_ne.2 h2
   by_cases h3 : f = 3
   ·subst h3
    have hb : numB k s.cs.length = true := by
     unfold fldO at hx
     rw [if_pos (by omega)] at hx
     split at hx
     ·assumption
     ·cases hx
    obtain ⟨i,rfl,hi⟩ := num_nat hb
    obtain ⟨g,cap,vp,vz,h1,h2,h3⟩ := own_card (B := w.heap.size) hown (by omega) (Nat.le_refl _) i hi
    have hgB := (own_base hown h1).2.1 g rfl
    obtain ⟨xx,xf,hgb⟩ := h2 W3 (Up.refl _)
    have hx2 : W3.cell? ⟨g,i * 6 + 4,none⟩ = some (.int .i32 (s.cs.getD i dc).damage) := xx.2.2.1
    have hD := h3 4 (.int .i32 n) (cSet (s.cs.getD i dc) 3 n) (by decide) (by simp [cv,cSet]) W3 (Up.refl _)
    obtain ⟨c0,c1,c2,c3,c4,c5,c6⟩ := seven_cells h1
    have hi2 : (i : Int) < (s.cs.length : Int) := by omega
    have HS : Hid (setD s 3 (i : Int) n = { s with cs := s.cs.set i (cSet (s.cs.getD i dc) 3 n) }) := by unfold Hid setD; rw [if_pos (by omega),Int.toNat_natCast]
    obtain ⟨W4,hW4⟩ : ∃ W4,W3.setCell ⟨g,i * 6 + 4,none⟩ (.int .i32 n) = W4 := ⟨_,rfl⟩
    rw [hW4] at hD
    have g1 : W4.heap[w.heap.size + 1]? = some (.cells zS 27 (0,0)) := by rw [<- hW4]; exact set_other g1 (by omega)
    obtain ⟨C4,r4,h14,h24,so4⟩ := own_row hD.1
    have HU4 : Hid (Up w W4) := Below.trans HU.out hD.2.1
    have HSO : Hid (SOA w.heap.size W4 (.agg C4) (setD s 3 (i : Int) n)) := by rw [HS.out]; exact so4.less (by omega)
    have HR : Hid _ := setRow_heap W4 (w.heap.size + 1) _ _ _ C4 g1
    have hgl : g < W3.heap.size := World.block_lt_of_cell? W3 _ hx2
    have hf0 := xf (i * 6 + 4)
    clear hD so4 h2 h3 xx h1 hown hb hx HS xf
    generalize s.cs.length = m at *
    go_wp2_with (first | (refine wpList_store_row rfl 27 (.tmp 4) (.tmp 10) rfl w.heap.size C rfl rfl 27 A g0 (by rw [h1C]; exact infoSt) (by rw [h1C,hA1]) h2C ?_; refine wpList_world hW3 ?_) | (refine wpList_load_row (by rfl) 27 (.tmp 4) (by rfl) w.heap.size (by rfl) 27 C4 (0,0) _ r4 Tryz.underlying27 (by rfl) (by rw [h14]; exact infoSt) ?_) | (refine wpList_store_row rfl 27 (.tmp 8) (.tmp 60) rfl (w.heap.size + 1) C4 rfl rfl 27 zS g1 (by rw [h14]; exact infoSt) (by rw [h14]; rfl) h24 ?_))
    refine bodyPost_ret (v := .agg C4) (results_cell_row (p := 8) (ty := 27) rfl _ _ (w.heap.size + 1) 27 C4 (0,0) _ rfl HR.out Tryz.underlying27 rfl (by rw [h14]; exact infoSt)) rfl ?_
    rw [HP.out]
    exact ⟨_,rfl,SOA.setRow HSO.out g1,up_setRow HU4.out (by omega) _⟩
   ·have f3 : (f == 3) = false := beq_eq_false_iff_ne.2 h3
    by_cases h4 : f = 4
    ·subst h4
     have hb : numB k s.cs.length = true := by
      unfold fldO at hx
      rw [if_pos (by omega)] at hx
      split at hx
      ·assumption
      ·cases hx
     obtain ⟨i,rfl,hi⟩ := num_nat hb
     obtain ⟨g,cap,vp,vz,h1,h2,h3⟩ := own_card (B := w.heap.size) hown (by omega) (Nat.le_refl _) i hi
     have hgB := (own_base hown h1).2.1 g rfl
     obtain ⟨xx,xf,hgb⟩ := h2 W3 (Up.refl _)
     have hx2 : W3.cell? ⟨g,i * 6 + 5,none⟩ = some (.int .i32 (s.cs.getD i dc).marks) := xx.2.2.2
     have hD := h3 5 (.int .i32 n) (cSet (s.cs.getD i dc) 4 n) (by decide) (by simp [cv,cSet]) W3 (Up.refl _)
     obtain ⟨c0,c1,c2,c3,c4,c5,c6⟩ := seven_cells h1
     have hi2 : (i : Int) < (s.cs.length : Int) := by omega
     have HS : Hid (setD s 4 (i : Int) n = { s with cs := s.cs.set i (cSet (s.cs.getD i dc) 4 n) }) := by unfold Hid setD; rw [if_pos (by omega),Int.toNat_natCast]
     obtain ⟨W4,hW4⟩ : ∃ W4,W3.setCell ⟨g,i * 6 + 5,none⟩ (.int .i32 n) = W4 := ⟨_,rfl⟩
     rw [hW4] at hD
     have g1 : W4.heap[w.heap.size + 1]? = some (.cells zS 27 (0,0)) := by rw [<- hW4]; exact set_other g1 (by omega)
     obtain ⟨C4,r4,h14,h24,so4⟩ := own_row hD.1
     have HU4 : Hid (Up w W4) := Below.trans HU.out hD.2.1
     have HSO : Hid (SOA w.heap.size W4 (.agg C4) (setD s 4 (i : Int) n)) := by rw [HS.out]; exact so4.less (by omega)
     have HR : Hid _ := setRow_heap W4 (w.heap.size + 1) _ _ _ C4 g1
     have hgl : g < W3.heap.size := World.block_lt_of_cell? W3 _ hx2
     have hf0 := xf (i * 6 + 5)
     clear hD so4 h2 h3 xx h1 hown hb hx HS xf
     generalize s.cs.length = m at *
     go_wp2_with (first | (refine wpList_store_row rfl 27 (.tmp 4) (.tmp 10) rfl w.heap.size C rfl rfl 27 A g0 (by rw [h1C]; exact infoSt) (by rw [h1C,hA1]) h2C ?_; refine wpList_world hW3 ?_) | (refine wpList_load_row (by rfl) 27 (.tmp 4) (by rfl) w.heap.size (by rfl) 27 C4 (0,0) _ r4 Tryz.underlying27 (by rfl) (by rw [h14]; exact infoSt) ?_) | (refine wpList_store_row rfl 27 (.tmp 8) (.tmp 60) rfl (w.heap.size + 1) C4 rfl rfl 27 zS g1 (by rw [h14]; exact infoSt) (by rw [h14]; rfl) h24 ?_))
     refine bodyPost_ret (v := .agg C4) (results_cell_row (p := 8) (ty := 27) rfl _ _ (w.heap.size + 1) 27 C4 (0,0) _ rfl HR.out Tryz.underlying27 rfl (by rw [h14]; exact infoSt)) rfl ?_
     rw [HP.out]
     exact ⟨_,rfl,SOA.setRow HSO.out g1,up_setRow HU4.out (by omega) _⟩
    ·have f4 : (f == 4) = false := beq_eq_false_iff_ne.2 h4
     by_cases h5 : f = 5
     ·subst h5
      have hb : numB k s.ps.length = true := by
       unfold fldO at hx
       rw [if_neg (by omega),if_pos (by omega)] at hx
       split at hx
       ·assumption
       ·cases hx
      obtain ⟨i,rfl,hi⟩ := num_nat hb
      obtain ⟨g,cap,vc,vz,h1,h2,h3⟩ := own_player (B := w.heap.size) hown (by omega) (Nat.le_refl _) i hi
      have hgB := (own_base hown h1).1 g rfl
      obtain ⟨xx,xf,hgb⟩ := h2 W3 (Up.refl _)
      have hx2 : W3.cell? ⟨g,i * 3,none⟩ = some (.int .i32 (s.ps.getD i dp).life) := xx.1
      have hD := h3 0 (.int .i32 n) (pSet (s.ps.getD i dp) 5 n) (by decide) (by simp [pv,pSet]) W3 (Up.refl _)
      obtain ⟨c0,c1,c2,c3,c4,c5,c6⟩ := seven_cells h1
      have hi2 : (i : Int) < (s.ps.length : Int) := by omega
      have HS : Hid (setD s 5 (i : Int) n = { s with ps := s.ps.set i (pSet (s.ps.getD i dp) 5 n) }) := by unfold Hid setD; rw [if_neg (by omega),Int.toNat_natCast]
      obtain ⟨W4,hW4⟩ : ∃ W4,W3.setCell ⟨g,i * 3,none⟩ (.int .i32 n) = W4 := ⟨_,rfl⟩
      rw [show i * 3 + 0 = i * 3 from rfl,hW4] at hD
      have g1 : W4.heap[w.heap.size + 1]? = some (.cells zS 27 (0,0)) := by rw [<- hW4]; exact set_other g1 (by omega)
      obtain ⟨C4,r4,h14,h24,so4⟩ := own_row hD.1
      have HU4 : Hid (Up w W4) := Below.trans HU.out hD.2.1
      have HSO : Hid (SOA w.heap.size W4 (.agg C4) (setD s 5 (i : Int) n)) := by rw [HS.out]; exact so4.less (by omega)
      have HR : Hid _ := setRow_heap W4 (w.heap.size + 1) _ _ _ C4 g1
      have hgl : g < W3.heap.size := World.block_lt_of_cell? W3 _ hx2
      have hf0 := xf (i * 3)
      clear hD so4 h2 h3 xx h1 hown hb hx HS xf
      generalize s.ps.length = m at *
      go_wp2_with (first | (refine wpList_store_row rfl 27 (.tmp 4) (.tmp 10) rfl w.heap.size C rfl rfl 27 A g0 (by rw [h1C]; exact infoSt) (by rw [h1C,hA1]) h2C ?_; refine wpList_world hW3 ?_) | (refine wpList_load_row (by rfl) 27 (.tmp 4) (by rfl) w.heap.size (by rfl) 27 C4 (0,0) _ r4 Tryz.underlying27 (by rfl) (by rw [h14]; exact infoSt) ?_) | (refine wpList_store_row rfl 27 (.tmp 8) (.tmp 60) rfl (w.heap.size + 1) C4 rfl rfl 27 zS g1 (by rw [h14]; exact infoSt) (by rw [h14]; rfl) h24 ?_))
      refine bodyPost_ret (v := .agg C4) (results_cell_row (p := 8) (ty := 27) rfl _ _ (w.heap.size + 1) 27 C4 (0,0) _ rfl HR.out Tryz.underlying27 rfl (by rw [h14]; exact infoSt)) rfl ?_
      rw [HP.out]
      exact ⟨_,rfl,SOA.setRow HSO.out g1,up_setRow HU4.out (by omega) _⟩
     ·have f5 : (f == 5) = false := beq_eq_false_iff_ne.2 h5
      by_cases h6 : f = 6
      ·subst h6
       have hb : numB k s.ps.length = true := by
        unfold fldO at hx
        rw [if_neg (by omega),if_pos (by omega)] at hx
        split at hx
        ·assumption
        ·cases hx
       obtain ⟨i,rfl,hi⟩ := num_nat hb
       obtain ⟨g,cap,vc,vz,h1,h2,h3⟩ := own_player (B := w.heap.size) hown (by omega) (Nat.le_refl _) i hi
       have hgB := (own_base hown h1).1 g rfl
       obtain ⟨xx,xf,hgb⟩ := h2 W3 (Up.refl _)
       have hx2 : W3.cell? ⟨g,i * 3 + 1,none⟩ = some (.int .i32 (s.ps.getD i dp).energy) := xx.2.1
       have hD := h3 1 (.int .i32 n) (pSet (s.ps.getD i dp) 6 n) (by decide) (by simp [pv,pSet]) W3 (Up.refl _)
       obtain ⟨c0,c1,c2,c3,c4,c5,c6⟩ := seven_cells h1
       have hi2 : (i : Int) < (s.ps.length : Int) := by omega
       have HS : Hid (setD s 6 (i : Int) n = { s with ps := s.ps.set i (pSet (s.ps.getD i dp) 6 n) }) := by unfold Hid setD; rw [if_neg (by omega),Int.toNat_natCast]
       obtain ⟨W4,hW4⟩ : ∃ W4,W3.setCell ⟨g,i * 3 + 1,none⟩ (.int .i32 n) = W4 := ⟨_,rfl⟩
       rw [hW4] at hD
       have g1 : W4.heap[w.heap.size + 1]? = some (.cells zS 27 (0,0)) := by rw [<- hW4]; exact set_other g1 (by omega)
       obtain ⟨C4,r4,h14,h24,so4⟩ := own_row hD.1
       have HU4 : Hid (Up w W4) := Below.trans HU.out hD.2.1
       have HSO : Hid (SOA w.heap.size W4 (.agg C4) (setD s 6 (i : Int) n)) := by rw [HS.out]; exact so4.less (by omega)
       have HR : Hid _ := setRow_heap W4 (w.heap.size + 1) _ _ _ C4 g1
       have hgl : g < W3.heap.size := World.block_lt_of_cell? W3 _ hx2
       have hf0 := xf (i * 3 + 1)
       clear hD so4 h2 h3 xx h1 hown hb hx HS xf
       generalize s.ps.length = m at *
       go_wp2_with (first | (refine wpList_store_row rfl 27 (.tmp 4) (.tmp 10) rfl w.heap.size C rfl rfl 27 A g0 (by rw [h1C]; exact infoSt) (by rw [h1C,hA1]) h2C ?_; refine wpList_world hW3 ?_) | (refine wpList_load_row (by rfl) 27 (.tmp 4) (by rfl) w.heap.size (by rfl) 27 C4 (0,0) _ r4 Tryz.underlying27 (by rfl) (by rw [h14]; exact infoSt) ?_) | (refine wpList_store_row rfl 27 (.tmp 8) (.tmp 60) rfl (w.heap.size + 1) C4 rfl rfl 27 zS g1 (by rw [h14]; exact infoSt) (by rw [h14]; rfl) h24 ?_))
       refine bodyPost_ret (v := .agg C4) (results_cell_row (p := 8) (ty := 27) rfl _ _ (w.heap.size + 1) 27 C4 (0,0) _ rfl HR.out Tryz.underlying27 rfl (by rw [h14]; exact infoSt)) rfl ?_
       rw [HP.out]
       exact ⟨_,rfl,SOA.setRow HSO.out g1,up_setRow HU4.out (by omega) _⟩
      ·have f6 : (f == 6) = false := beq_eq_false_iff_ne.2 h6
       exfalso
       unfold fldO at hx
       rw [if_neg (by omega),if_neg (by omega)] at hx
       cases hx
end DE
end Go.Proofs.YtodhjjeagmjhdaaGreatDoor
