/-
  The document's shuffled.
-/
import Derived.Test.YtodhjjeagmjhdaaGreatDoorSpo6TvRch6R
import Derived.Test.YtodhjjeagmjhdaaGreatDoorRfTvRor6R
namespace Go.Proofs.YtodhjjeagmjhdaaGreatDoor
open Go.RowKit
attribute [local go_sem ↓] Go.wp_at_zero Go.wp_at_succ
namespace DE
open Go.Proofs.YtodhjjeagmjhdaaGreatDoor.ST
def shC (s : Stt) (z : Int) (ord : List Int) : Bool := numB z s.zs.length && (ordB (zn s z).length ord && !risesB ord)
def shS (s : Stt) (z : Int) (ord : List Int) (back : Bool) : Stt := { s with zs := s.zs.set z.toNat (if back = true then unshL (zn s z) ord else shufL (zn s z) ord) }
def shO (s : Stt) (z : Int) (ord : List Int) (back : Bool) : Option Stt := if shC s z ord = true then some (shS s z ord back) else none
theorem irow_fin {B g k : Nat} {W : World} {cs : List Value} {L : List Int} (h : W.heap[g]? = some (.cells cs.toArray 3 (0,0))) (hB : B <= g) (hk : cs.length = k) (hm : k <= 256) (hL : L.length = k) (hc : cs = ivs L) : IRow B W (.slice (some ⟨g,0,none⟩) k k) L := by
 unfold IRow
 rw [hL]
 refine ⟨by rw [ivs_len,hL]; omega,.inr ⟨g,k,cs.toArray,rfl,hB,h,Nat.le_refl _,by unfold maxLen; omega,by simp [hk],?_⟩⟩
 rw [<- hc]
 simp only [Nat.mul_one]
 exact List.take_of_length_le (by omega)
set_option maxRecDepth 100000 in
set_option maxHeartbeats 2000000 in
theorem rshuffled_ (v : Value) (s : Stt) (z : Int) (ord : List Int) (oa : Option Addr) (oc : Nat) (back : Bool) (w : World) (hs : StL w v s) (hsm : Small s) (ho : IL w (.slice oa ord.length oc) ord) (hn : ord.length <= 140737488355328) (hl : ∀ r,r < s.zs.length -> (s.zs.getD r []).length <= 256) : Calls Tryz.prog 102 #[v,.int .i64 z,.slice oa ord.length oc,.bool back] w (BhV w (shO s z ord back)) := by
 obtain ⟨Post,hPost⟩ : ∃ P : Ending -> World -> Prop,P = BhV w (shO s z ord back) := ⟨_,rfl⟩
 rw [<- hPost]
 have HP : Hid (Post = BhV w (shO s z ord back)) := hPost
 have HI2 : Hid (∀ W,Calls Tryz.prog 103 #[.int .i64 z,.int .i64 (s.zs.length : Nat)] W fun e w'=>e = .returned (.bool (numB z s.zs.length)) /\ w' = W) := fun W=>ris_ z s.zs.length W
 have HRi : Hid (∀ W,Up w W -> Calls Tryz.prog 173 #[.slice oa ord.length oc] W fun r w'=>r = .returned (.bool (risesB ord)) /\ Up W w') := fun W u=>rrises_ _ ord W (ho.up u) hn
 have HOr : Hid (∀ (m : Nat) W,m <= 256 -> Up w W -> Calls Tryz.prog 172 #[.slice oa ord.length oc,.int .i64 m] W fun r w'=>r = .returned (.bool (ordB m ord)) /\ Up W w') := fun m W hm u=>rorder_ _ ord m W (ho.up u) hm
 have HCo : Hid (∀ W,Up w W -> Calls Tryz.prog 76 #[v] W (CpPost W fun W' v'=>SOA W.heap.size W' v' s)) := fun W u=>copyStateA_ v s W (hs.up u) hsm
 obtain ⟨oa',oc',hov,-,hoc⟩ := il_at ho
 simp only [Value.slice.injEq,true_and] at hov
 obtain ⟨rfl,rfl⟩ := hov
 have HOC : Hid _ := hoc
 obtain ⟨vp,vc,vz,hvv,h1,h2,h3⟩ := hs
 obtain ⟨a1,k1,rfl,-,-⟩ := lc_at h1
 obtain ⟨a2,k2,rfl,-,-⟩ := lc_at h2
 obtain ⟨a3,k3,rfl,-,hzl⟩ := zl_at h3
 unfold sv at hvv
 clear h1 h2 h3 hPost
 obtain ⟨A,hA0⟩ : ∃ A : Array Value,A = #[.slice a1 s.ps.length k1,.slice a2 s.cs.length k2,.slice a3 s.zs.length k3,.int .i32 s.turn,.int .i64 s.whose,.int .i8 s.fin,.int .i64 s.winner] := ⟨_,rfl⟩
 have hA1 : A.size = 7 := by rw [hA0]; rfl
 rw [<- hA0] at hvv
 subst hvv
 obtain ⟨W0,hW0⟩ : ∃ W0,(w.alloc (.cells A 27)).alloc (.cells zS 27) = W0 := ⟨_,rfl⟩
 have g0 : W0.heap[w.heap.size]? = some (.cells A 27 (0,0)) := by rw [<- hW0]; exact heap_alloc2_old _ _ _
 have g1 : W0.heap[w.heap.size + 1]? = some (.cells zS 27 (0,0)) := by rw [<- hW0]; exact heap_alloc2_new _ _ _
 have gu : Up w W0 := by rw [<- hW0]; exact ((Up.refl _).alloc _).alloc _
 have gs : W0.heap.size = w.heap.size + 2 := by rw [<- hW0]; simp
 have HA0 : Hid (A = _) := hA0
 have HZL : Hid _ := hzl
 have cA2 : ∀ h : 2 < A.size,A[2]'h = .slice a3 s.zs.length k3 := fun h=>by simp [HA0.out]
 clear hzl hsm hA0 hoc ho hn
 cases e1 : numB z s.zs.length with
 | false =>
  rw [e1] at HI2
  have HN : Hid (shO s z ord back = none) := by unfold Hid shO shC; rw [if_neg (by simp [e1])]
  clear e1 HRi HOr HCo HZL
  go_enter Tryz.func102,Tryz.ntmps102
  go_wp2_with fail
  first | (refine calls_world hW0 ?_; clear hW0) | skip
  refine Calls.mono (HI2.out _) ?_
  rintro r W1 ⟨rfl,hW1⟩
  have hW1' : W1 = W0 := by first | exact hW1 | (rw [hW1,hW0])
  first | clear hW0 | skip
  clear hW1
  subst hW1'
  go_wp2_with (refine wpList_store_row rfl 27 (.tmp 8) (.tmp 33) rfl (w.heap.size + 1) zS rfl rfl 27 zS g1 infoSt rfl zS_all ?_)
  have HR : Hid _ := setRow_heap _ (w.heap.size + 1) _ _ _ zS g1
  refine bodyPost_ret (v := .tuple #[.agg zS,.bool false]) (results_c1 rfl _ _ (w.heap.size + 1) 27 zS (0,0) _ (.bool false) rfl rfl HR.out Tryz.underlying27 rfl infoSt) rfl ?_
  rw [HP.out,HN.out]
  exact bh_none gu (by omega)
 | true =>
  rw [e1] at HI2
  obtain ⟨i,rfl,hi⟩ := num_nat e1
  obtain ⟨zb,zo,rfl,hzr⟩ := HZL.out (by omega)
  obtain ⟨ra,rc,hcz,hil⟩ := hzr i hi
  have hzi : zn s (i : Int) = s.zs.getD i [] := by unfold zn; rw [Int.toNat_natCast]
  have hq := hl i hi
  obtain ⟨zl,hzl0⟩ : ∃ zl,zl = s.zs.getD i [] := ⟨_,rfl⟩
  rw [<- hzl0] at hcz hil hq hzi
  have HZ0 : Hid (zl = s.zs.getD i []) := hzl0
  have HZI : Hid (zn s (i : Int) = zl) := hzi
  have HZC : Hid ((∀ W,Up w W -> W.cell? ⟨zb,zo + i,none⟩ = some (.slice ra zl.length rc)) /\ IL w (.slice ra zl.length rc) zl) := ⟨hcz,hil⟩
  have HOr1 : Hid (∀ W,Up w W -> Calls Tryz.prog 172 #[.slice oa ord.length oc,.int .i64 (zl.length : Nat)] W fun r w'=>r = .returned (.bool (ordB zl.length ord)) /\ Up W w') := fun W u=>HOr.out zl.length W hq u
  have hi2 : (i : Int) < (s.zs.length : Int) := by omega
  clear hzr hcz hil HZL HOr hzl0 hzi hl
  cases e2 : ordB zl.length ord with
  | false =>
   rw [e2] at HOr1
   have HN : Hid (shO s (i : Int) ord back = none) := by unfold Hid shO shC; rw [if_neg (by simp [HZI.out,e2])]
   clear e1 e2 HRi HCo
   go_enter Tryz.func102,Tryz.ntmps102
   go_wp2_with fail
   first | (refine calls_world hW0 ?_; clear hW0) | skip
   refine Calls.mono (HI2.out _) ?_
   rintro r W1 ⟨rfl,hW1⟩
   have hW1' : W1 = W0 := by first | exact hW1 | (rw [hW1,hW0])
   first | clear hW0 | skip
   clear hW1
   subst hW1'
   have c2 : W1.cell? ⟨w.heap.size,2,none⟩ = some (.slice (some ⟨zb,zo,none⟩) s.zs.length k3) := by rw [World.cell?,g0,HA0.out]; rfl
   have x0 := HZC.out.1 _ gu
   go_wp2_with fail
   refine Calls.mono (HOr1.out _ gu) ?_
   rintro r W2 ⟨rfl,u2⟩
   have g0 := u2.heap g0
   have g1 := u2.heap g1
   have gu := gu.trans u2
   clear u2 x0 c2 HOr1
   go_wp2_with (refine wpList_store_row rfl 27 (.tmp 8) (.tmp 33) rfl (w.heap.size + 1) zS rfl rfl 27 zS g1 infoSt rfl zS_all ?_)
   have HR : Hid _ := setRow_heap _ (w.heap.size + 1) _ _ _ zS g1
   refine bodyPost_ret (v := .tuple #[.agg zS,.bool false]) (results_c1 rfl _ _ (w.heap.size + 1) 27 zS (0,0) _ (.bool false) rfl rfl HR.out Tryz.underlying27 rfl infoSt) rfl ?_
   rw [HP.out,HN.out]
   exact bh_none gu (by omega)
  | true =>
   rw [e2] at HOr1
   cases e3 : risesB ord with
   | true =>
    rw [e3] at HRi
    have HN : Hid (shO s (i : Int) ord back = none) := by unfold Hid shO shC; rw [if_neg (by simp [e3])]
    clear e1 e2 e3 HCo
    go_enter Tryz.func102,Tryz.ntmps102
    go_wp2_with fail
    first | (refine calls_world hW0 ?_; clear hW0) | skip
    refine Calls.mono (HI2.out _) ?_
    rintro r W1 ⟨rfl,hW1⟩
    have hW1' : W1 = W0 := by first | exact hW1 | (rw [hW1,hW0])
    first | clear hW0 | skip
    clear hW1
    subst hW1'
    have c2 : W1.cell? ⟨w.heap.size,2,none⟩ = some (.slice (some ⟨zb,zo,none⟩) s.zs.length k3) := by rw [World.cell?,g0,HA0.out]; rfl
    have x0 := HZC.out.1 _ gu
    go_wp2_with fail
    refine Calls.mono (HOr1.out _ gu) ?_
    rintro r W2 ⟨rfl,u2⟩
    have g0 := u2.heap g0
    have g1 := u2.heap g1
    have gu := gu.trans u2
    clear u2 x0 c2 HOr1
    go_wp2_with fail
    refine Calls.mono (HRi.out _ gu) ?_
    rintro r W3 ⟨rfl,u3⟩
    have g0 := u3.heap g0
    have g1 := u3.heap g1
    have gu := gu.trans u3
    clear u3 HRi
    go_wp2_with (refine wpList_store_row rfl 27 (.tmp 8) (.tmp 33) rfl (w.heap.size + 1) zS rfl rfl 27 zS g1 infoSt rfl zS_all ?_)
    have HR : Hid _ := setRow_heap _ (w.heap.size + 1) _ _ _ zS g1
    refine bodyPost_ret (v := .tuple #[.agg zS,.bool false]) (results_c1 rfl _ _ (w.heap.size + 1) 27 zS (0,0) _ (.bool false) rfl rfl HR.out Tryz.underlying27 rfl infoSt) rfl ?_
    rw [HP.out,HN.out]
    exact bh_none gu (by omega)
   | false =>
    rw [e3] at HRi
    have HN : Hid (shO s (i : Int) ord back = some { s with zs := s.zs.set i (if back = true then unshL zl ord else shufL zl ord) }) := by
     unfold Hid shO shC
     rw [e1,HZI.out,e2,e3,if_pos (by rfl)]
     unfold shS
     rw [HZI.out,Int.toNat_natCast]
    obtain ⟨iT,hiT,z0,z1,z2⟩ := info_parts infoI
    have hol := (ord_at e2).1
    have HON : Hid _ := ord_num e2
    have HNE : Hid _ := ord_ne e2
    have HIX : Hid _ := ord_idx e2
    obtain ⟨ra',rc',hx,-,hrc⟩ := il_at HZC.out.2
    simp only [Value.slice.injEq,true_and] at hx
    obtain ⟨rfl,rfl⟩ := hx
    have HRC : Hid _ := hrc
    obtain ⟨q,hq0⟩ : ∃ q,q = zl.length := ⟨_,rfl⟩
    have HQ : Hid (q = zl.length /\ q = ord.length) := ⟨hq0,by rw [hq0,hol]⟩
    have hoq : ord.length = q := by rw [hol,hq0]
    rw [<- hq0] at hq HOr1 HZC
    rw [hoq] at HOr1 HRi
    rw [hoq] at HOC
    rw [hoq]
    clear e1 e2 e3 hol hrc hq0 hoq
    go_enter Tryz.func102,Tryz.ntmps102
    go_wp2_with fail
    first | (refine calls_world hW0 ?_; clear hW0) | skip
    refine Calls.mono (HI2.out _) ?_
    rintro r W1 ⟨rfl,hW1⟩
    have hW1' : W1 = W0 := by first | exact hW1 | (rw [hW1,hW0])
    first | clear hW0 | skip
    clear hW1
    subst hW1'
    have c2 : W1.cell? ⟨w.heap.size,2,none⟩ = some (.slice (some ⟨zb,zo,none⟩) s.zs.length k3) := by rw [World.cell?,g0,HA0.out]; rfl
    have x0 := HZC.out.1 _ gu
    go_wp2_with fail
    refine Calls.mono (HOr1.out _ gu) ?_
    rintro r W2 ⟨rfl,u2⟩
    have g0 := u2.heap g0
    have g1 := u2.heap g1
    have gu := gu.trans u2
    clear u2 x0 c2 HOr1
    go_wp2_with fail
    refine Calls.mono (HRi.out _ gu) ?_
    rintro r W3 ⟨rfl,u3⟩
    have g0 := u3.heap g0
    have g1 := u3.heap g1
    have gu := gu.trans u3
    clear u3 HRi
    have hb1 : w.heap.size + 1 < W3.heap.size := (Array.getElem?_eq_some_iff.1 g1).1
    go_wp2_with (at_make; refine wpList_make_full _ rfl _ _ 28 rfl W3.heap.size 3 iT (.int .i64 0) 1 Tryz.underlying28 hiT z0 z1 .i64 .i64 _ _ q rfl rfl rfl rfl (by rw [z2]; omega) (by unfold maxLen; omega) (by simp) ?_; intro w1 hin hg1; have uu := made_up hg1; have HM : Hid _ := And.intro uu hin; clear hin hg1 uu)
    obtain ⟨uu,hin⟩ := HM.out
    obtain ⟨gN,hgN⟩ : ∃ g,g = W3.heap.size := ⟨_,rfl⟩
    have HI : Hid (∃ cs : List Value,w1.heap[gN]? = some (.cells cs.toArray 3 (0,0)) /\ cs.length = q) := ⟨_,by rw [hgN]; exact row_made hin,by have := hin.1; omega⟩
    have HUU : Hid (Up W3 w1) := uu
    have HG : Hid (gN = W3.heap.size) := hgN
    have HG0 : Hid (W3.heap[w.heap.size]? = _) := g0
    have HG1 : Hid (W3.heap[w.heap.size + 1]? = _) := g1
    have HGU : Hid (Up w W3) := gu
    rw [<- hgN]
    clear hin uu HM hgN g0 g1 gu
    cases back
    ·go_loopw [11] (fun s11 W=>∃ (k : Nat) (cs : List Value),k <= q /\ s11 = .int .i64 k /\ W.heap[gN]? = some (.cells cs.toArray 3 (0,0)) /\ cs.length = q /\ (∀ p,p < k -> cs[p]? = some (.int .i64 ((shufL zl ord).getD p 0))) /\ Up W3 W) (fun s11 _=>q - (intOf s11).toNat)
     case atStart =>
      obtain ⟨cs,a1,a2⟩ := HI.out
      exact ⟨0,cs,Nat.zero_le _,rfl,a1,a2,fun p hp=>absurd hp (Nat.not_lt_zero p),HUU.out⟩
     case round =>
      clear HI HUU
      obtain ⟨k,cs,hk,rfl,hrow,hcl,hcs,hu⟩ := hrel
      have huw : Up w wr := Up.trans HGU.out hu
      have HUw : Hid (Up w wr) := huw
      have g0 := hu.heap HG0.out
      have b2 : wr.cell? ⟨w.heap.size,2,none⟩ = some (.slice (some ⟨zb,zo,none⟩) s.zs.length k3) := by rw [World.cell?,g0,HA0.out]; rfl
      have b3 := HZC.out.1 wr huw
      by_cases hlt : k < q
      ·have hlt2 : (k : Int) < (q : Int) := by omega
       have hko : k < ord.length := by rw [<- HQ.out.2]; exact hlt
       obtain ⟨ob,oo,rfl,hoc⟩ := HOC.out (by omega)
       have x0 := hoc wr huw k hlt
       obtain ⟨nn,hnn,hnq⟩ := num_nat (HON.out k hko)
       rw [hnn] at x0
       obtain ⟨rb,ro,rfl,hrc⟩ := HRC.out (by have := HQ.out.1; omega)
       have hkz : k < zl.length := by rw [<- HQ.out.1]; exact hlt
       have x1 := hrc wr huw nn hnq
       have hnq2 : (nn : Int) < (q : Int) := by have := HQ.out.1; omega
       have hnc : nn < cs.length := by have := HQ.out.1; omega
       have p1 : wr.cell? ⟨gN,k,none⟩ = some (cs[k]'(by omega)) := by simp [World.cell?,hrow]
       have pf : wr.frozen? ⟨gN,k,none⟩ = false := by simp [World.frozen?,hrow]
       generalize cs[k]'(by omega) = q1 at p1
       have hval : (shufL zl ord).getD k 0 = zl.getD nn 0 := by
        unfold shufL
        rw [List.getD_eq_getElem?_getD,List.getElem?_map,List.getElem?_eq_getElem hko]
        rw [List.getD_eq_getElem?_getD,List.getElem?_eq_getElem hko] at hnn
        have : ord[k] = (nn : Int) := hnn
        rw [this]
        simp
       have HR : Hid (∀ nq,∃ cs : List Value,((wr.drewN nq).setCell ⟨gN,k,none⟩ (.int .i64 (zl.getD nn 0))).heap[gN]? = some (.cells cs.toArray 3 (0,0)) /\ cs.length = q /\ (∀ p,p < k + 1 -> cs[p]? = some (.int .i64 ((shufL zl ord).getD p 0))) /\ Up W3 ((wr.drewN nq).setCell ⟨gN,k,none⟩ (.int .i64 (zl.getD nn 0)))) := fun nq=>by
        refine ⟨cs.set k (.int .i64 (zl.getD nn 0)),?_,by simpa using hcl,fun p hp=>?_,Up.set (hu.drewN nq) _ _ (by show W3.heap.size <= gN; rw [HG.out]; exact Nat.le_refl _)⟩
        ·have := set_cells (W := wr.drewN nq) (j := k) (x := .int .i64 (zl.getD nn 0)) (show (wr.drewN nq).heap[gN]? = _ from hrow)
         simpa using this
        ·by_cases e : p = k
         ·subst e
          rw [List.getElem?_set_self (by omega),hval]
         ·rw [List.getElem?_set_ne (by omega)]
          exact hcs p (by omega)
       generalize zl.getD nn 0 = y at *
       clear hrow hcl hcs hu huw hoc hrc hnc g0 hval
       go_wp2_with fail
       refine TailR.wp_region_seq 13 (by kernel_rfl) (by kernel_rfl) ?_
       simp only [List.take_succ_cons,List.take_zero,List.drop_succ_cons,List.drop_zero]
       repeat (go_big_quiet_step (fail))
       refine wpQuiet_nil ?_
       intro _ hw'
       obtain ⟨nq,hw''⟩ := hw'
       subst hw''
       go_wp2_with fail
       go_roundw
       case rel =>
        obtain ⟨cs',r1,r2,r3,r4⟩ := HR.out nq
        exact ⟨k + 1,cs',by omega,by go_num,r1,r2,r3,r4⟩
       case measure=>simp [intOf] <;> omega
      ·have hlt2 : ¬ (k : Int) < (q : Int) := by omega
       have hkq : k = q := by omega
       subst hkq
       have hlen : (shufL zl ord).length = k := by unfold shufL; rw [List.length_map]; exact HQ.out.2.symm
       have hrowN : IRow w.heap.size wr (.slice (some ⟨gN,0,none⟩) k k) (shufL zl ord) := by
        refine irow_fin hrow (by rw [HG.out]; omega) hcl hq hlen ?_
        apply List.ext_getElem?
        intro p
        by_cases hp : p < k
        ·rw [hcs p hp,ivs_get _ p (by omega)]
        ·rw [List.getElem?_eq_none (by omega),List.getElem?_eq_none (by rw [ivs_len]; omega)]
       have HRN : Hid _ := hrowN
       have g1 := hu.heap HG1.out
       have hgl : gN < wr.heap.size := (Array.getElem?_eq_some_iff.1 hrow).1
       clear hrow hcl hcs hlen hrowN b2 b3 hu huw HG0 HG1 HGU
       go_wp2_with (first | (refine wpList_load_row (by rfl) 27 (.tmp 4) (by rfl) w.heap.size (by rfl) 27 A (0,0) _ g0 Tryz.underlying27 (by rfl) (by rw [hA1]; exact infoSt) ?_))
       refine Calls.mono (HCo.out _ HUw.out) ?_
       rintro r W4 ⟨v',rfl,so,u4⟩
       obtain ⟨C,rfl,h1C,h2C⟩ := SOA.row so
       have g0 := u4.heap g0
       have g1 := u4.heap g1
       have hrn := row_up HRN.out u4
       have hown := own_of so g0
       have hsz5 : (W4.setRow w.heap.size C).heap.size = W4.heap.size := setRow_size _ _ _
       have hbs : wr.heap.size <= W4.heap.size := u4.size
       have hrn : IRow w.heap.size (W4.setRow w.heap.size C) (.slice (some ⟨gN,0,none⟩) k k) (shufL zl ord) := row_setRow hrn g0 (by decide)
       obtain ⟨W5,hW5⟩ : ∃ W5,W4.setRow w.heap.size C = W5 := ⟨_,rfl⟩
       rw [hW5] at hown hsz5 hrn
       have g1 : W5.heap[w.heap.size + 1]? = some (.cells zS 27 (0,0)) := by rw [<- hW5,setRow_other _ _ _ _ (by omega)]; exact g1
       have HU5 : Hid (Up w W5) := by rw [<- hW5]; exact up_setRow (HUw.out.trans u4) (Nat.le_refl _) _
       have hw1 : w.heap.size + 1 < gN := by rw [HG.out]; exact hb1
       obtain ⟨gz,cap,vp,vc,ra2,rc2,h1,hil,hgB,h2,h3⟩ := zone_put (B := w.heap.size) (B' := w.heap.size) hown (Nat.le_refl _) (by omega) (Nat.le_refl _) i hi
       obtain ⟨d0,d1,c2,-⟩ := seven_cells h1
       obtain ⟨z1,zf,hgb⟩ := h2 W5 (Up.refl _)
       have hgl2 : gz < W5.heap.size := World.block_lt_of_cell? W5 _ z1
       have hD := h3 W5 _ _ (Up.refl _) hrn (fun g hg=>by
        have e9 : gN = g := by simpa [Value.ownBlock] using hg
        omega)
       obtain ⟨W6,hW6⟩ : ∃ W6,W5.setCell ⟨gz,i,none⟩ (.slice (some ⟨gN,0,none⟩) k k) = W6 := ⟨_,rfl⟩
       rw [hW6] at hD
       have g1 : W6.heap[w.heap.size + 1]? = some (.cells zS 27 (0,0)) := by rw [<- hW6]; exact set_other g1 (by omega)
       obtain ⟨C6,r6,h16,h26,so6⟩ := own_row hD.1
       have HU6 : Hid (Up w W6) := Below.trans HU5.out hD.2.1
       have HSO : Hid (SOA w.heap.size W6 (.agg C6) { s with zs := s.zs.set i (shufL zl ord) }) := so6
       have HRr : Hid _ := setRow_heap W6 (w.heap.size + 1) _ _ _ C6 g1
       have zf0 := zf i
       clear so hown u4 h1 h2 h3 hil d0 d1 HCo hD so6 hrn HRN zf
       go_wp2_with (first | (refine wpList_store_row rfl 27 (.tmp 4) (.tmp 73) rfl w.heap.size C rfl rfl 27 A g0 (by rw [h1C]; exact infoSt) (by rw [h1C,hA1]) h2C ?_; refine wpList_world hW5 ?_) | (refine wpList_load_row (by rfl) 27 (.tmp 4) (by rfl) w.heap.size (by rfl) 27 C6 (0,0) _ r6 Tryz.underlying27 (by rfl) (by rw [h16]; exact infoSt) ?_) | (refine wpList_store_row rfl 27 (.tmp 8) (.tmp 79) rfl (w.heap.size + 1) C6 rfl rfl 27 zS g1 (by rw [h16]; exact infoSt) (by rw [h16]; rfl) h26 ?_))
       refine bodyPost_ret (v := .tuple #[.agg C6,.bool true]) (results_c1 rfl _ _ (w.heap.size + 1) 27 C6 (0,0) _ (.bool true) rfl rfl HRr.out Tryz.underlying27 rfl (by rw [h16]; exact infoSt)) rfl ?_
       rw [HP.out,HN.out]
       exact ⟨C6,rfl,h16,h26,SOA.setRow HSO.out g1,up_setRow HU6.out (by omega) _⟩
    ·go_loopw [11] (fun s11 W=>∃ (k : Nat) (cs : List Value),k <= q /\ s11 = .int .i64 k /\ W.heap[gN]? = some (.cells cs.toArray 3 (0,0)) /\ cs.length = q /\ (∀ p,p < k -> cs[(ord.getD p 0).toNat]? = some (.int .i64 (zl.getD p 0))) /\ Up W3 W) (fun s11 _=>q - (intOf s11).toNat)
     case atStart =>
      obtain ⟨cs,a1,a2⟩ := HI.out
      exact ⟨0,cs,Nat.zero_le _,rfl,a1,a2,fun p hp=>absurd hp (Nat.not_lt_zero p),HUU.out⟩
     case round =>
      clear HI HUU
      obtain ⟨k,cs,hk,rfl,hrow,hcl,hcs,hu⟩ := hrel
      have huw : Up w wr := Up.trans HGU.out hu
      have HUw : Hid (Up w wr) := huw
      have g0 := hu.heap HG0.out
      have b2 : wr.cell? ⟨w.heap.size,2,none⟩ = some (.slice (some ⟨zb,zo,none⟩) s.zs.length k3) := by rw [World.cell?,g0,HA0.out]; rfl
      have b3 := HZC.out.1 wr huw
      by_cases hlt : k < q
      ·have hlt2 : (k : Int) < (q : Int) := by omega
       have hko : k < ord.length := by rw [<- HQ.out.2]; exact hlt
       obtain ⟨ob,oo,rfl,hoc⟩ := HOC.out (by omega)
       have x0 := hoc wr huw k hlt
       obtain ⟨nn,hnn,hnq⟩ := num_nat (HON.out k hko)
       rw [hnn] at x0
       obtain ⟨rb,ro,rfl,hrc⟩ := HRC.out (by have := HQ.out.1; omega)
       have hkz : k < zl.length := by rw [<- HQ.out.1]; exact hlt
       have x1 := hrc wr huw k hkz
       have hnq2 : (nn : Int) < (q : Int) := by have := HQ.out.1; omega
       have hnc : nn < cs.length := by have := HQ.out.1; omega
       have p1 : wr.cell? ⟨gN,nn,none⟩ = some (cs[nn]'hnc) := by simp [World.cell?,hrow]
       have pf : wr.frozen? ⟨gN,nn,none⟩ = false := by simp [World.frozen?,hrow]
       generalize cs[nn]'hnc = q1 at p1
       have HR : Hid (∀ nq,∃ cs : List Value,((wr.drewN nq).setCell ⟨gN,nn,none⟩ (.int .i64 (zl.getD k 0))).heap[gN]? = some (.cells cs.toArray 3 (0,0)) /\ cs.length = q /\ (∀ p,p < k + 1 -> cs[(ord.getD p 0).toNat]? = some (.int .i64 (zl.getD p 0))) /\ Up W3 ((wr.drewN nq).setCell ⟨gN,nn,none⟩ (.int .i64 (zl.getD k 0)))) := fun nq=>by
        refine ⟨cs.set nn (.int .i64 (zl.getD k 0)),?_,by simpa using hcl,fun p hp=>?_,Up.set (hu.drewN nq) _ _ (by show W3.heap.size <= gN; rw [HG.out]; exact Nat.le_refl _)⟩
        ·have := set_cells (W := wr.drewN nq) (j := nn) (x := .int .i64 (zl.getD k 0)) (show (wr.drewN nq).heap[gN]? = _ from hrow)
         simpa using this
        ·by_cases e : p = k
         ·subst e
          rw [hnn,Int.toNat_natCast,List.getElem?_set_self hnc]
         ·have hne2 := HNE.out p k (by omega) hko
          rw [hnn] at hne2
          obtain ⟨pp,hpp,-⟩ := num_nat (HON.out p (by omega))
          rw [hpp] at hne2
          have h9 := hcs p (by omega)
          rw [hpp,Int.toNat_natCast] at h9 ⊢
          rw [List.getElem?_set_ne (by omega)]
          exact h9
       generalize zl.getD k 0 = y at *
       clear hrow hcl hcs hu huw hoc hrc hnc g0
       go_wp2_with fail
       refine TailR.wp_region_seq 13 (by kernel_rfl) (by kernel_rfl) ?_
       simp only [List.take_succ_cons,List.take_zero,List.drop_succ_cons,List.drop_zero]
       repeat (go_big_quiet_step (fail))
       refine wpQuiet_nil ?_
       intro _ hw'
       obtain ⟨nq,hw''⟩ := hw'
       subst hw''
       go_wp2_with fail
       go_roundw
       case rel =>
        obtain ⟨cs',r1,r2,r3,r4⟩ := HR.out nq
        exact ⟨k + 1,cs',by omega,by go_num,r1,r2,r3,r4⟩
       case measure=>simp [intOf] <;> omega
      ·have hlt2 : ¬ (k : Int) < (q : Int) := by omega
       have hkq : k = q := by omega
       subst hkq
       have hlen : (unshL zl ord).length = k := by unfold unshL; rw [List.length_map,List.length_range]; exact HQ.out.1.symm
       have hrowN : IRow w.heap.size wr (.slice (some ⟨gN,0,none⟩) k k) (unshL zl ord) := by
        refine irow_fin hrow (by rw [HG.out]; omega) hcl hq hlen ?_
        apply List.ext_getElem?
        intro p
        by_cases hp : p < k
        ·obtain ⟨d1,d2⟩ := HIX.out p (by rw [<- HQ.out.1]; exact hp)
         have h9 := hcs (ord.idxOf (p : Int)) (by rw [HQ.out.2]; exact d1)
         rw [d2,Int.toNat_natCast] at h9
         rw [h9,ivs_get _ p (by omega)]
         unfold unshL
         rw [List.getD_eq_getElem?_getD (l := List.map _ _),List.getElem?_map,List.getElem?_range (by rw [<- HQ.out.1]; exact hp)]
         rfl
        ·rw [List.getElem?_eq_none (by omega),List.getElem?_eq_none (by rw [ivs_len]; omega)]
       have HRN : Hid _ := hrowN
       have g1 := hu.heap HG1.out
       have hgl : gN < wr.heap.size := (Array.getElem?_eq_some_iff.1 hrow).1
       clear hrow hcl hcs hlen hrowN b2 b3 hu huw HG0 HG1 HGU
       go_wp2_with (first | (refine wpList_load_row (by rfl) 27 (.tmp 4) (by rfl) w.heap.size (by rfl) 27 A (0,0) _ g0 Tryz.underlying27 (by rfl) (by rw [hA1]; exact infoSt) ?_))
       refine Calls.mono (HCo.out _ HUw.out) ?_
       rintro r W4 ⟨v',rfl,so,u4⟩
       obtain ⟨C,rfl,h1C,h2C⟩ := SOA.row so
       have g0 := u4.heap g0
       have g1 := u4.heap g1
       have hrn := row_up HRN.out u4
       have hown := own_of so g0
       have hsz5 : (W4.setRow w.heap.size C).heap.size = W4.heap.size := setRow_size _ _ _
       have hbs : wr.heap.size <= W4.heap.size := u4.size
       have hrn : IRow w.heap.size (W4.setRow w.heap.size C) (.slice (some ⟨gN,0,none⟩) k k) (unshL zl ord) := row_setRow hrn g0 (by decide)
       obtain ⟨W5,hW5⟩ : ∃ W5,W4.setRow w.heap.size C = W5 := ⟨_,rfl⟩
       rw [hW5] at hown hsz5 hrn
       have g1 : W5.heap[w.heap.size + 1]? = some (.cells zS 27 (0,0)) := by rw [<- hW5,setRow_other _ _ _ _ (by omega)]; exact g1
       have HU5 : Hid (Up w W5) := by rw [<- hW5]; exact up_setRow (HUw.out.trans u4) (Nat.le_refl _) _
       have hw1 : w.heap.size + 1 < gN := by rw [HG.out]; exact hb1
       obtain ⟨gz,cap,vp,vc,ra2,rc2,h1,hil,hgB,h2,h3⟩ := zone_put (B := w.heap.size) (B' := w.heap.size) hown (Nat.le_refl _) (by omega) (Nat.le_refl _) i hi
       obtain ⟨d0,d1,c2,-⟩ := seven_cells h1
       obtain ⟨z1,zf,hgb⟩ := h2 W5 (Up.refl _)
       have hgl2 : gz < W5.heap.size := World.block_lt_of_cell? W5 _ z1
       have hD := h3 W5 _ _ (Up.refl _) hrn (fun g hg=>by
        have e9 : gN = g := by simpa [Value.ownBlock] using hg
        omega)
       obtain ⟨W6,hW6⟩ : ∃ W6,W5.setCell ⟨gz,i,none⟩ (.slice (some ⟨gN,0,none⟩) k k) = W6 := ⟨_,rfl⟩
       rw [hW6] at hD
       have g1 : W6.heap[w.heap.size + 1]? = some (.cells zS 27 (0,0)) := by rw [<- hW6]; exact set_other g1 (by omega)
       obtain ⟨C6,r6,h16,h26,so6⟩ := own_row hD.1
       have HU6 : Hid (Up w W6) := Below.trans HU5.out hD.2.1
       have HSO : Hid (SOA w.heap.size W6 (.agg C6) { s with zs := s.zs.set i (unshL zl ord) }) := so6
       have HRr : Hid _ := setRow_heap W6 (w.heap.size + 1) _ _ _ C6 g1
       have zf0 := zf i
       clear so hown u4 h1 h2 h3 hil d0 d1 HCo hD so6 hrn HRN zf
       go_wp2_with (first | (refine wpList_store_row rfl 27 (.tmp 4) (.tmp 73) rfl w.heap.size C rfl rfl 27 A g0 (by rw [h1C]; exact infoSt) (by rw [h1C,hA1]) h2C ?_; refine wpList_world hW5 ?_) | (refine wpList_load_row (by rfl) 27 (.tmp 4) (by rfl) w.heap.size (by rfl) 27 C6 (0,0) _ r6 Tryz.underlying27 (by rfl) (by rw [h16]; exact infoSt) ?_) | (refine wpList_store_row rfl 27 (.tmp 8) (.tmp 79) rfl (w.heap.size + 1) C6 rfl rfl 27 zS g1 (by rw [h16]; exact infoSt) (by rw [h16]; rfl) h26 ?_))
       refine bodyPost_ret (v := .tuple #[.agg C6,.bool true]) (results_c1 rfl _ _ (w.heap.size + 1) 27 C6 (0,0) _ (.bool true) rfl rfl HRr.out Tryz.underlying27 rfl (by rw [h16]; exact infoSt)) rfl ?_
       rw [HP.out,HN.out]
       exact ⟨C6,rfl,h16,h26,SOA.setRow HSO.out g1,up_setRow HU6.out (by omega) _⟩
end DE
end Go.Proofs.YtodhjjeagmjhdaaGreatDoor
