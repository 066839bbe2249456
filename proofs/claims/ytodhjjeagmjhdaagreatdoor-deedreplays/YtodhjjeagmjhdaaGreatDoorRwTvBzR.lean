/- Rw, Ti, Rap6, Wsa, Sq, Bz -/
import Derived.Test.YtodhjjeagmjhdaaGreatDoorThVR
namespace Go.Proofs.YtodhjjeagmjhdaaGreatDoor
open Go.RowKit
attribute [local go_sem ↓] Go.wp_at_zero Go.wp_at_succ
namespace ST
end ST
end Go.Proofs.YtodhjjeagmjhdaaGreatDoor
namespace Go.Proofs.YtodhjjeagmjhdaaGreatDoor
open Go.RowKit
namespace ST
theorem thingsOk (s : Stt) (hsm : Small s) (hfl : (flat s).length <= 4294967296) : ThingsOk s := by
 intro v w hs
 cases hb : sizesB s
 ·exact things_bad s hsm hb v w hs
 ·exact things_good s hsm hfl hb v w hs
end ST
end Go.Proofs.YtodhjjeagmjhdaaGreatDoor
namespace Go.Proofs.YtodhjjeagmjhdaaGreatDoor
open Go.RowKit
attribute [local go_sem ↓] Go.wp_at_zero Go.wp_at_succ
namespace DE
open Go.Proofs.YtodhjjeagmjhdaaGreatDoor.ST
set_option maxHeartbeats 2000000 in
theorem rmay6_ (v : Value) (s : Stt) (w : World) (hs : StL w v s) (ht : ThingsOk s) :
  Calls Tryz.prog 44 #[v] w fun e w'=>e = .returned (.bool (decide (ff s = none))) /\ Up w w' := by
 have hc := rcheck_ v s _ (hs.up ((Up.refl w).alloc (.cells v.cells 27))) ht
 obtain ⟨vp,vc,vz,rfl,-,-,-⟩ := hs
 cases hff : ff s with
 | none =>
  rw [hff] at hc
  unfold ckV sv at hc
  have HC : Hid _ := hc
  clear hc hff ht
  unfold sv
  go_enter Tryz.func44,Tryz.ntmps44
  go_wp2_with fail
  refine Calls.mono HC.out ?_
  rintro e w1 ⟨rfl,u1⟩
  clear HC
  have HU : Hid (Up w w1) := ((Up.refl w).alloc _).trans u1
  clear u1
  go_wp2
  go_ret
  exact ⟨rfl,HU.out⟩
 | some k =>
  rw [hff] at hc
  unfold ckV sv at hc
  have HC : Hid _ := hc
  clear hc hff ht
  unfold sv
  go_enter Tryz.func44,Tryz.ntmps44
  go_wp2_with fail
  refine Calls.mono HC.out ?_
  rintro e w1 ⟨rfl,u1⟩
  clear HC
  have HU : Hid (Up w w1) := ((Up.refl w).alloc _).trans u1
  clear u1
  go_wp2
  go_ret
  exact ⟨rfl,HU.out⟩
theorem rows_ok {s : Stt} (h : ff s = none) : ∀ r,r < s.zs.length -> (s.zs.getD r []).length <= 256 := fun r hr=>by
 obtain ⟨h1,h2,h3⟩ := (ff_none s).1 h
 have hc : s.cs.length <= 256 := by
  have h0 := h1.1
  unfold sizesB ncB at h0
  simp only [Bool.and_eq_true,decide_eq_true_eq] at h0
  exact h0.1.2.2
 have := row_flat s.zs r hr
 unfold flat at h3
 omega
end DE
end Go.Proofs.YtodhjjeagmjhdaaGreatDoor
namespace Go.Proofs.YtodhjjeagmjhdaaGreatDoor
open Go.RowKit
attribute [local go_sem ↓] Go.wp_at_zero Go.wp_at_succ
namespace ST
theorem wrow_lt {base : Nat} {W : World} {x : Value} {zs : List (List Int)} {i g : Nat} (h : WRow base W x zs i) (hg : x.ownBlock = some g) : g < W.heap.size := by
 unfold WRow at h
 split at h
 ·obtain ⟨g',-,rfl,h3⟩ := h
  have e : g' = g := by simpa [Value.ownBlock] using hg
  subst e
  exact (Array.getElem?_eq_some_iff.1 h3).1
 ·obtain ⟨g',-,rfl,h3⟩ := h
  have e : g' = g := by simpa [Value.ownBlock] using hg
  subst e
  exact (Array.getElem?_eq_some_iff.1 h3).1
def WRa (base : Nat) (w W : World) (g n : Nat) (zs : List (List Int)) (i : Nat) (cs : List Value) : Prop := W.heap[g]? = some (.cells cs.toArray 28 (0,0)) /\ cs.length = n + 64 /\ (∀ q,q < i -> WRow base W (cs.getD q nl) zs q) /\ Up w W /\ RA i cs
theorem WRa.put {base : Nat} {w W W1 : World} {g n : Nat} {zs : List (List Int)} {i : Nat} {cs : List Value} {x : Value} (h : WRa base w W g n zs i cs) (u : Up W W1) (hi : i < n + 64) (hx : WRow base W1 x zs i) (hxa : ∀ p g,p < i -> (cs.getD p nl).ownBlock = some g -> x.ownBlock ≠ some g) (hg : w.heap.size <= g) : WRa base w (W1.setCell ⟨g,i,none⟩ x) g n zs (i + 1) (cs.set i x) := by
 obtain ⟨h1,h2,h3,h4,h5⟩ := h
 have k1 := u.heap h1
 have kp : ∀ g' cs',base <= g' -> W1.heap[g']? = some (.cells cs' 3 (0,0)) -> (W1.setCell ⟨g,i,none⟩ x).heap[g']? = some (.cells cs' 3 (0,0)) := fun g' cs' _ h'=>set_other h' (heap_ne h' k1 (by decide))
 refine ⟨?_,by simpa using h2,fun q hq=>?_,Up.set (h4.trans u) _ _ hg,h5.put (by omega) hxa⟩
 ·have := set_cells (j := i) (x := x) k1
  simpa using this
 ·by_cases e : q = i
  ·subst e
   rw [List.getD_eq_getElem?_getD,List.getElem?_set_self (by omega)]
   exact hx.keep kp
  ·rw [List.getD_eq_getElem?_getD,List.getElem?_set_ne (fun h=>e h.symm),<- List.getD_eq_getElem?_getD]
   exact ((h3 q (by omega)).keep (fun g' cs' _ h'=>u.heap h')).keep kp
set_option maxRecDepth 100000 in
set_option maxHeartbeats 4000000 in
theorem wideRowsA_ (v : Value) (zs : List (List Int)) (w : World) (hv : ZL w v zs) (hn : zs.length <= 4294967296) (hl : ∀ r,r < zs.length -> (zs.getD r []).length <= 4294967296) :
  Calls Tryz.prog 43 #[v] w (CpPost w fun W v'=>WZA w.heap.size W v' zs) := by
 obtain ⟨iT,hiT,z0,z1,z2⟩ := info_parts infoR
 obtain ⟨Post,hPost⟩ : ∃ P : Ending -> World -> Prop,P = CpPost w fun W v'=>WZA w.heap.size W v' zs := ⟨_,rfl⟩
 rw [<- hPost]
 have HP : Hid (Post = CpPost w fun W v'=>WZA w.heap.size W v' zs) := hPost
 obtain ⟨a1,k1,rfl,-,h1⟩ := zl_at hv
 obtain ⟨n,hn0⟩ : ∃ n,n = zs.length := ⟨_,rfl⟩
 have HN : Hid (n = zs.length) := hn0
 rw [<- hn0] at hn h1 hl ⊢
 have H1 : Hid _ := h1
 have HL : Hid _ := hl
 obtain ⟨g,hg⟩ : ∃ g,g = w.heap.size := ⟨_,rfl⟩
 have HG : Hid (g = w.heap.size) := hg
 clear hPost hv h1 hn0 hl
 go_enter Tryz.func43,Tryz.ntmps43
 go_wp2_with (at_make; refine wpList_make_full _ rfl _ _ 24 rfl w.heap.size 28 iT _ 1 Tryz.underlying24 hiT z0 z1 .i64 .i64 _ _ (n + 64) rfl rfl rfl rfl (by rw [z2]; omega) (by unfold maxLen; omega) (Nat.le_refl _) ?_; intro w1 hin hg1)
 have HI : Hid (∃ cs,WRa g w w1 g n zs 0 cs) := ⟨_,by rw [hg]; exact row_made hin,by have := hin.1; omega,fun q hq=>by omega,made_up hg1,RA.nil _⟩
 rw [<- hg]
 clear hin hg1 hg
 go_wp2_with fail
 go_loopw [4] (fun s4 W=>∃ (i : Nat) (cs : List Value),i <= n + 64 /\ s4 = .int .i64 i /\ WRa g w W g n zs i cs) (fun s4 _=>n + 64 - (intOf s4).toNat)
 case atStart=>obtain ⟨cs,h⟩ := HI.out; exact ⟨0,cs,Nat.zero_le _,rfl,h⟩
 case round =>
  obtain ⟨i,cs,hi,rfl,hw⟩ := hrel
  clear HI
  have HW : Hid (WRa g w wr g n zs i cs) := hw
  have hgw : w.heap.size <= g := by rw [HG.out]; exact Nat.le_refl _
  have hgs : g <= wr.heap.size := by have := (Array.getElem?_eq_some_iff.1 hw.1).1; omega
  by_cases hlt : i < n + 64
  ·have hlt2 : (i : Int) < (n : Int) + 64 := by omega
   have HCe : Hid (∀ W,Up wr W -> (∃ z,W.cell? ⟨g,i,none⟩ = some z) /\ W.frozen? ⟨g,i,none⟩ = false) := fun W u=>by
    have h1 := u.heap hw.1
    have h2 := hw.2.1
    exact ⟨⟨cs[i]'(by omega),by simp [World.cell?,h1]⟩,seven_f h1 i⟩
   by_cases hin : i < n
   ·have hin2 : (i : Int) < (n : Int) := by omega
    obtain ⟨b1,o1,rfl,c1⟩ := H1.out (by omega)
    obtain ⟨ra,rc,hcell,hil⟩ := c1 i hin
    have x1 := hcell wr hw.2.2.2.1
    have HK : Hid _ := wideInts_ _ (zs.getD i []) wr (hil.up hw.2.2.2.1) (HL.out i hin)
    clear c1 hcell hil hw
    go_wp2_with fail
    refine Calls.mono HK.out ?_
    rintro e w2 ⟨x,rfl,hx,u2⟩
    have HX : Hid (WI g w2 x (zs.getD i [])) := hx.less hgs
    have HU2 : Hid (Up wr w2) := u2
    obtain ⟨xg,-,hxv,-⟩ := id hx
    obtain ⟨⟨zc,zcell⟩,zf⟩ := HCe.out w2 u2
    have HF : Hid (WRa g w (w2.setCell ⟨g,i,none⟩ x) g n zs (i + 1) (cs.set i x)) := WRa.put HW.out u2 hlt (by rw [WRow,if_pos (by rw [<- HN.out]; exact hin)]; exact HX.out) (fun p gg hp hg hg2=>by have h8 := wrow_lt (HW.out.2.2.1 p hp) hg; obtain ⟨g5,h5,h6,-⟩ := id hx; rw [h6] at hg2; simp [Value.ownBlock] at hg2; omega) hgw
    clear hx u2 HK HX
    subst hxv
    go_wp2
    go_roundw
    case rel=>exact ⟨i + 1,_,by omega,by go_num,HF.out⟩
    case measure=>simp [intOf]; omega
   ·have hin2 : ¬ (i : Int) < (n : Int) := by omega
    clear hw
    go_wp2_with fail
    refine Calls.mono (num_ i (by omega) _) ?_
    rintro e w2 ⟨rfl,rfl⟩
    have HF : Hid (WRa g w ((w2.alloc (.cells #[.int .i64 (numI i)] 3)).setCell ⟨g,i,none⟩ (.slice (some ⟨w2.heap.size,0,none⟩) 1 1)) g n zs (i + 1) (cs.set i (.slice (some ⟨w2.heap.size,0,none⟩) 1 1))) := WRa.put HW.out ((Up.refl _).alloc _) hlt (by rw [WRow,if_neg (by rw [<- HN.out]; exact hin)]; exact ⟨w2.heap.size,hgs,rfl,heap_alloc_new w2 _⟩) (fun p gg hp hg hg2=>by have h8 := wrow_lt (HW.out.2.2.1 p hp) hg; simp [Value.ownBlock] at hg2; omega) hgw
    have zc : ∀ o,(w2.alloc o).frozen? ⟨g,i,none⟩ = false := fun o=>(HCe.out _ ((Up.refl _).alloc o)).2
    obtain ⟨⟨z9,z8⟩,-⟩ := HCe.out w2 (Up.refl _)
    have zd : ∀ o,(w2.alloc o).cell? ⟨g,i,none⟩ = some z9 := fun o=>((Up.refl w2).alloc o).cell z8
    generalize numI i = z at HF ⊢
    go_wp2
    go_roundw
    case rel=>exact ⟨i + 1,_,by omega,by go_num,HF.out⟩
    case measure=>simp [intOf]; omega
  ·have hlt2 : ¬ (i : Int) < (n : Int) + 64 := by omega
   have hn64 : (n : Int) <= (n : Int) + 64 := by omega
   clear hw
   go_wp2
   rw [HP.out]
   have hnn := HN.out
   exact ⟨_,rfl,⟨g,cs,hgw,by rw [<- HN.out],HW.out.1,by rw [<- hnn]; exact HW.out.2.1,fun j hj=>by rw [<- HG.out]; exact HW.out.2.2.1 j (by omega),fun p q gg hp hq=>HW.out.2.2.2.2 p q gg (by omega) (by omega)⟩,HW.out.2.2.2.1⟩
set_option maxRecDepth 100000 in
set_option maxHeartbeats 4000000 in
theorem wideStateA_ (v : Value) (s : Stt) (w : World) (hs : StL w v s) (hsm : Small s) :
  Calls Tryz.prog 9 #[v] w (CpPost w fun W v'=>WSA w.heap.size W v' s) := by
 obtain ⟨Post,hPost⟩ : ∃ P : Ending -> World -> Prop,P = CpPost w fun W v'=>WSA w.heap.size W v' s := ⟨_,rfl⟩
 rw [<- hPost]
 have HP : Hid (Post = CpPost w fun W v'=>WSA w.heap.size W v' s) := hPost
 obtain ⟨vp,vc,vz,rfl,h1,h2,h3⟩ := hs
 have H1 : Hid _ := h1
 have H2 : Hid _ := h2
 have H3 : Hid _ := h3
 obtain ⟨a1,k1,rfl,-,-⟩ := lc_at h1
 obtain ⟨a2,k2,rfl,-,-⟩ := lc_at h2
 obtain ⟨a3,k3,rfl,-,-⟩ := zl_at h3
 have HM : Hid (Small s) := hsm
 clear hPost h1 h2 h3 hsm
 have HSV : Hid (∀ x y z,sv x y z s = .agg #[x,y,z,.int .i32 s.turn,.int .i64 s.whose,.int .i8 s.fin,.int .i64 s.winner]) := fun _ _ _=>rfl
 unfold sv
 generalize s.turn = tu at HSV ⊢
 generalize s.whose = wo at HSV ⊢
 generalize s.fin = fi at HSV ⊢
 generalize s.winner = wi at HSV ⊢
 go_enter Tryz.func9,Tryz.ntmps9
 go_wp2_with fail
 obtain ⟨W1,hW1⟩ : ∃ W,W = (w.alloc (.cells #[.slice a1 s.ps.length k1,.slice a2 s.cs.length k2,.slice a3 s.zs.length k3,.int .i32 tu,.int .i64 wo,.int .i8 fi,.int .i64 wi] 27)).alloc (.cells #[.slice none 0 0,.slice none 0 0,.slice none 0 0,.int .i32 0,.int .i64 0,.int .i8 0,.int .i64 0] 27) := ⟨_,rfl⟩
 rw [<- hW1]
 obtain ⟨b0,hb0⟩ : ∃ b,b = w.heap.size := ⟨_,rfl⟩
 rw [<- hb0]
 obtain ⟨g0,g1,gs,gu⟩ := two_blocks w #[.slice a1 s.ps.length k1,.slice a2 s.cs.length k2,.slice a3 s.zs.length k3,.int .i32 tu,.int .i64 wo,.int .i8 fi,.int .i64 wi] #[.slice none 0 0,.slice none 0 0,.slice none 0 0,.int .i32 0,.int .i64 0,.int .i8 0,.int .i64 0] 27
 rw [<- hW1] at g0 g1 gs gu
 rw [<- hb0] at g0 g1 gs
 have HB : Hid (b0 = w.heap.size) := hb0
 clear hW1 hb0
 refine Calls.mono (wideP_ _ s.ps W1 (PLs.up H1.out gu) HM.out.1) ?_
 rintro e w1 ⟨x1,rfl,d1,u1⟩
 have HG : Hid (w1.heap[b0]? = _ /\ w1.heap[b0 + 1]? = _ /\ b0 + 2 <= w1.heap.size /\ Up w w1 /\ WP (b0 + 2) w1 x1 s.ps) := ⟨u1.heap g0,u1.heap g1,by have := u1.size; omega,gu.trans u1,by rw [gs] at d1; exact d1⟩
 obtain ⟨xa,xc,hx1⟩ := WP.val d1
 subst hx1
 clear d1 u1 g0 g1 gs gu
 obtain ⟨y0,y1,y2,y3,y4,y5,y6⟩ := seven_cells HG.out.1
 have yf := seven_f HG.out.1
 have HG2 : Hid ((w1.setCell ⟨b0,0,none⟩ (.slice xa s.ps.length xc)).heap[b0]? = some (.cells #[.slice xa s.ps.length xc,.slice a2 s.cs.length k2,.slice a3 s.zs.length k3,.int .i32 tu,.int .i64 wo,.int .i8 fi,.int .i64 wi] 27 (0,0)) /\ (w1.setCell ⟨b0,0,none⟩ (.slice xa s.ps.length xc)).heap[b0 + 1]? = some (.cells #[.slice none 0 0,.slice none 0 0,.slice none 0 0,.int .i32 0,.int .i64 0,.int .i8 0,.int .i64 0] 27 (0,0)) /\ b0 + 2 <= (w1.setCell ⟨b0,0,none⟩ (.slice xa s.ps.length xc)).heap.size /\ Up w (w1.setCell ⟨b0,0,none⟩ (.slice xa s.ps.length xc)) /\ WP (b0 + 2) (w1.setCell ⟨b0,0,none⟩ (.slice xa s.ps.length xc)) (.slice xa s.ps.length xc) s.ps) :=
  ⟨set_cells HG.out.1,set_other HG.out.2.1 (by omega),by simpa using HG.out.2.2.1,Up.set HG.out.2.2.2.1 _ _ (by rw [<- HB.out]; exact Nat.le_refl _),(HG.out.2.2.2.2).set (by omega)⟩
 clear HG
 go_wp2_with fail
 obtain ⟨W3,hW3⟩ : ∃ W,W = w1.setCell ⟨b0,0,none⟩ (.slice xa s.ps.length xc) := ⟨_,rfl⟩
 rw [<- hW3] at HG2 ⊢
 clear hW3
 refine Calls.mono (wideC_ _ s.cs W3 (CLs.up H2.out HG2.out.2.2.2.1) HM.out.2.1) ?_
 rintro e w4 ⟨x2,rfl,d2,u2⟩
 have HG : Hid (w4.heap[b0]? = _ /\ w4.heap[b0 + 1]? = _ /\ b0 + 2 <= w4.heap.size /\ Up w w4 /\ WP (b0 + 2) w4 (.slice xa s.ps.length xc) s.ps /\ WC (b0 + 2) w4 x2 s.cs) := ⟨u2.heap HG2.out.1,u2.heap HG2.out.2.1,by have := u2.size; have := HG2.out.2.2.1; omega,HG2.out.2.2.2.1.trans u2,(HG2.out.2.2.2.2).up u2,d2.less HG2.out.2.2.1⟩
 obtain ⟨xa2,xc2,hx2⟩ := WC.val d2
 subst hx2
 clear d2 u2 HG2 y0 y1 y2 y3 y4 y5 y6 yf
 obtain ⟨y0,y1,y2,y3,y4,y5,y6⟩ := seven_cells HG.out.1
 have yf := seven_f HG.out.1
 have HG2 : Hid ((w4.setCell ⟨b0,1,none⟩ (.slice xa2 s.cs.length xc2)).heap[b0]? = some (.cells #[.slice xa s.ps.length xc,.slice xa2 s.cs.length xc2,.slice a3 s.zs.length k3,.int .i32 tu,.int .i64 wo,.int .i8 fi,.int .i64 wi] 27 (0,0)) /\ (w4.setCell ⟨b0,1,none⟩ (.slice xa2 s.cs.length xc2)).heap[b0 + 1]? = some (.cells #[.slice none 0 0,.slice none 0 0,.slice none 0 0,.int .i32 0,.int .i64 0,.int .i8 0,.int .i64 0] 27 (0,0)) /\ b0 + 2 <= (w4.setCell ⟨b0,1,none⟩ (.slice xa2 s.cs.length xc2)).heap.size /\ Up w (w4.setCell ⟨b0,1,none⟩ (.slice xa2 s.cs.length xc2)) /\ WP (b0 + 2) (w4.setCell ⟨b0,1,none⟩ (.slice xa2 s.cs.length xc2)) (.slice xa s.ps.length xc) s.ps /\ WC (b0 + 2) (w4.setCell ⟨b0,1,none⟩ (.slice xa2 s.cs.length xc2)) (.slice xa2 s.cs.length xc2) s.cs) :=
  ⟨set_cells HG.out.1,set_other HG.out.2.1 (by omega),by simpa using HG.out.2.2.1,Up.set HG.out.2.2.2.1 _ _ (by rw [<- HB.out]; exact Nat.le_refl _),(HG.out.2.2.2.2.1).set (by omega),(HG.out.2.2.2.2.2).set (by omega)⟩
 clear HG
 go_wp2_with fail
 obtain ⟨W5,hW5⟩ : ∃ W,W = w4.setCell ⟨b0,1,none⟩ (.slice xa2 s.cs.length xc2) := ⟨_,rfl⟩
 rw [<- hW5] at HG2 ⊢
 clear hW5
 refine Calls.mono (wideRowsA_ _ s.zs W5 (ZL.up H3.out HG2.out.2.2.2.1) HM.out.2.2.1 HM.out.2.2.2) ?_
 rintro e w6 ⟨x3,rfl,d3,u3⟩
 have HG : Hid (w6.heap[b0]? = _ /\ w6.heap[b0 + 1]? = _ /\ b0 + 2 <= w6.heap.size /\ Up w w6 /\ WP (b0 + 2) w6 (.slice xa s.ps.length xc) s.ps /\ WC (b0 + 2) w6 (.slice xa2 s.cs.length xc2) s.cs /\ WZA (b0 + 2) w6 x3 s.zs) := ⟨u3.heap HG2.out.1,u3.heap HG2.out.2.1,by have := u3.size; have := HG2.out.2.2.1; omega,HG2.out.2.2.2.1.trans u3,(HG2.out.2.2.2.2.1).up u3,(HG2.out.2.2.2.2.2).up u3,d3.less HG2.out.2.2.1⟩
 obtain ⟨xa3,xc3,hx3⟩ : ∃ p q,x3 = .slice p s.zs.length q := by
  exact WZ.val d3.wz
 subst hx3
 clear d3 u3 HG2 y0 y1 y2 y3 y4 y5 y6 yf
 obtain ⟨y0,y1,y2,y3,y4,y5,y6⟩ := seven_cells HG.out.1
 have yf := seven_f HG.out.1
 have HG2 : Hid ((w6.setCell ⟨b0,2,none⟩ (.slice xa3 s.zs.length xc3)).heap[b0]? = some (.cells #[.slice xa s.ps.length xc,.slice xa2 s.cs.length xc2,.slice xa3 s.zs.length xc3,.int .i32 tu,.int .i64 wo,.int .i8 fi,.int .i64 wi] 27 (0,0)) /\ (w6.setCell ⟨b0,2,none⟩ (.slice xa3 s.zs.length xc3)).heap[b0 + 1]? = some (.cells #[.slice none 0 0,.slice none 0 0,.slice none 0 0,.int .i32 0,.int .i64 0,.int .i8 0,.int .i64 0] 27 (0,0)) /\ Up w (w6.setCell ⟨b0,2,none⟩ (.slice xa3 s.zs.length xc3)) /\ WSA (b0 + 2) (w6.setCell ⟨b0,2,none⟩ (.slice xa3 s.zs.length xc3)) (.agg #[.slice xa s.ps.length xc,.slice xa2 s.cs.length xc2,.slice xa3 s.zs.length xc3,.int .i32 tu,.int .i64 wo,.int .i8 fi,.int .i64 wi]) s) :=
  ⟨set_cells HG.out.1,set_other HG.out.2.1 (by omega),Up.set HG.out.2.2.2.1 _ _ (by rw [<- HB.out]; exact Nat.le_refl _),_,_,_,(HSV.out _ _ _).symm,(HG.out.2.2.2.2.1).set (by omega),(HG.out.2.2.2.2.2.1).set (by omega),HG.out.2.2.2.2.2.2.set (by omega)⟩
 clear HG
 obtain ⟨W7,hW7⟩ : ∃ W,W = w6.setCell ⟨b0,2,none⟩ (.slice xa3 s.zs.length xc3) := ⟨_,rfl⟩
 rw [<- hW7] at HG2
 have HW7 : Hid (W7 = _) := hW7
 obtain ⟨q0,q1,q2,q3,q4,q5,q6⟩ := seven_cells HG2.out.1
 obtain ⟨r0,r1,r2,r3,r4,r5,r6⟩ := seven_cells HG2.out.2.1
 have rf := seven_f HG2.out.2.1
 rw [hW7] at q0 q1 q2 q3 q4 q5 q6 r0 r1 r2 r3 r4 r5 r6 rf
 clear hW7
 go_wp2_with fail
 rw [<- HW7.out]
 obtain ⟨p0,p1,p2,p3,p4,p5,p6⟩ := seven_cells (seven_set (x0 := .slice xa s.ps.length xc) (x1 := .slice xa2 s.cs.length xc2) (x2 := .slice xa3 s.zs.length xc3) (x3 := .int .i32 tu) (x4 := .int .i64 wo) (x5 := .int .i8 fi) (x6 := .int .i64 wi) HG2.out.2.1)
 have hs1 : b0 + 1 < b0 + 2 := by omega
 have hb1 : w.heap.size <= b0 + 1 := by rw [<- HB.out]; omega
 refine bodyPost_ret (v := .agg #[.slice xa s.ps.length xc,.slice xa2 s.cs.length xc2,.slice xa3 s.zs.length xc3,.int .i32 tu,.int .i64 wo,.int .i8 fi,.int .i64 wi]) (by simp [results,Tryz.results9,go_sem,p0,p1,p2,p3,p4,p5,p6]) rfl ?_
 rw [HP.out]
 refine ⟨_,rfl,?_,?_⟩
 ·exact ((((((((HG2.out.2.2.2.set hs1).set hs1).set hs1).set hs1).set hs1).set hs1).set hs1)).less (by rw [HB.out]; omega)
 ·exact ((((((((HG2.out.2.2.1.set _ _ hb1).set _ _ hb1).set _ _ hb1).set _ _ hb1).set _ _ hb1).set _ _ hb1).set _ _ hb1))
end ST
end Go.Proofs.YtodhjjeagmjhdaaGreatDoor
namespace Go.Proofs.YtodhjjeagmjhdaaGreatDoor
open Go.RowKit
attribute [local go_sem ↓] Go.wp_at_zero Go.wp_at_succ
theorem wrapEq32 (x : Int) : IntKind.i32.wrap x = wrap32 x := by rw [IntKind.wrap_i32,wrap32]
namespace ST
set_option maxRecDepth 100000 in
set_option maxHeartbeats 4000000 in
theorem spareP_ (base : Nat) (v : Value) (l : List Ply) (w : World) (hv : WP base w v l) (hn : l.length <= 4294967296) :
  Calls Tryz.prog 104 #[v] w fun e w'=>e = .returned (.bool true) /\ Up w w' := by
 obtain ⟨g,-,rfl,h3⟩ := hv
 obtain ⟨n,hn0⟩ : ∃ n,n = l.length := ⟨_,rfl⟩
 have HC : Hid (∀ i,n <= i -> i < n + 64 -> w.cell? ⟨g,i * 3,none⟩ = some (.int .i32 (wrap32 (numI i))) /\ w.cell? ⟨g,i * 3 + 1,none⟩ = some (.int .i32 0) /\ w.cell? ⟨g,i * 3 + 2,none⟩ = some (.bool false)) := fun i h1 h2=>by
  have c : ∀ j,j < 3 -> w.cell? ⟨g,i * 3 + j,none⟩ = (wP l i)[j]? := fun j hj=>by
   have : w.cell? ⟨g,i * 3 + j,none⟩ = (wPs l)[i * 3 + j]? := by simp [World.cell?,h3]
   rw [this,wPs_get l i j (by omega) hj]
  rw [wP,if_neg (by omega)] at c
  exact ⟨c 0 (by decide),c 1 (by decide),c 2 (by decide)⟩
 rw [<- hn0] at hn ⊢
 clear h3 hn0
 have e1 : (n : Int) + 64 <= (n : Int) + 64 := by omega
 have e2 : (0 : Int) <= (n : Int) + 64 := by omega
 have e3 : ((n : Int) + 64).toNat = n + 64 := by omega
 go_enter Tryz.func104,Tryz.ntmps104
 go_wp2_with fail
 go_loopw [2,4] (fun s2 s4 wr=>∃ i : Nat,n <= i /\ i <= n + 64 /\ s2 = .bool false /\ s4 = .int .i64 i /\ Up w wr) (fun _ s4 _=>n + 64 - (intOf s4).toNat)
 case atStart=>exact ⟨n,Nat.le_refl _,by omega,rfl,rfl,Up.refl _⟩
 case round =>
  obtain ⟨i,hi1,hi2,rfl,rfl,u9⟩ := hrel
  have HU : Hid (Up w wr) := u9
  by_cases hlt : i < n + 64
  ·have hlt2 : (i : Int) < (n : Int) + 64 := by omega
   obtain ⟨x0,x1,x2⟩ := HC.out i hi1 hlt
   obtain ⟨x0,x1,x2⟩ := (show wr.cell? ⟨g,i * 3,none⟩ = some (.int .i32 (wrap32 (numI i))) /\ wr.cell? ⟨g,i * 3 + 1,none⟩ = some (.int .i32 0) /\ wr.cell? ⟨g,i * 3 + 2,none⟩ = some (.bool false) from ⟨u9.cell x0,u9.cell x1,u9.cell x2⟩)
   clear u9
   obtain ⟨y,hy⟩ : ∃ y,y = wrap32 (numI i) := ⟨_,rfl⟩
   rw [<- hy] at x0
   have ew : IntKind.i32.wrap (numI i) = y := by rw [hy]; exact wrapEq32 _
   have HNm : Hid _ := num_ i (by omega)
   clear hy
   generalize numI i = z at ew HNm
   go_wp2_with fail
   go_quiet (exact Calls.quiet_of_same (HNm.out _))
   go_wp2
   go_roundw
   case rel =>
    refine ⟨i + 1,by omega,by omega,rfl,by go_num,HU.out.trans ?_⟩
    repeat (first | with_reducible exact Up.refl _ | with_reducible apply Up.alloc | with_reducible apply Up.drewN | with_reducible apply Up.drew | with_reducible refine Up.set ?_ _ _ (by first | exact Nat.le_refl _ | exact Nat.le_succ _ | (simp; omega)))
   case measure=>simp [intOf]; omega
  ·have hlt2 : ¬ (i : Int) < (n : Int) + 64 := by omega
   clear u9
   go_wp2
   go_ret
   exact ⟨rfl,HU.out⟩
set_option maxRecDepth 100000 in
set_option maxHeartbeats 4000000 in
theorem spareC_ (base : Nat) (v : Value) (l : List Crd) (w : World) (hv : WC base w v l) (hn : l.length <= 4294967296) :
  Calls Tryz.prog 105 #[v] w fun e w'=>e = .returned (.bool true) /\ Up w w' := by
 obtain ⟨g,-,rfl,h3⟩ := hv
 obtain ⟨n,hn0⟩ : ∃ n,n = l.length := ⟨_,rfl⟩
 have HC : Hid (∀ i,n <= i -> i < n + 64 -> w.cell? ⟨g,i * 6,none⟩ = some (.int .i64 (numI i)) /\ w.cell? ⟨g,i * 6 + 1,none⟩ = some (.int .i64 0) /\ w.cell? ⟨g,i * 6 + 2,none⟩ = some (.int .i32 0) /\ w.cell? ⟨g,i * 6 + 3,none⟩ = some (.int .i32 0) /\ w.cell? ⟨g,i * 6 + 4,none⟩ = some (.int .i32 0) /\ w.cell? ⟨g,i * 6 + 5,none⟩ = some (.int .i32 0)) := fun i h1 h2=>by
  have c : ∀ j,j < 6 -> w.cell? ⟨g,i * 6 + j,none⟩ = (wC l i)[j]? := fun j hj=>by
   have : w.cell? ⟨g,i * 6 + j,none⟩ = (wCs l)[i * 6 + j]? := by simp [World.cell?,h3]
   rw [this,wCs_get l i j (by omega) hj]
  rw [wC,if_neg (by omega)] at c
  exact ⟨c 0 (by decide),c 1 (by decide),c 2 (by decide),c 3 (by decide),c 4 (by decide),c 5 (by decide)⟩
 rw [<- hn0] at hn ⊢
 clear h3 hn0
 have e1 : (n : Int) + 64 <= (n : Int) + 64 := by omega
 have e2 : (0 : Int) <= (n : Int) + 64 := by omega
 have e3 : ((n : Int) + 64).toNat = n + 64 := by omega
 go_enter Tryz.func105,Tryz.ntmps105
 go_wp2_with fail
 go_loopw [2,4] (fun s2 s4 wr=>∃ i : Nat,n <= i /\ i <= n + 64 /\ s2 = .bool false /\ s4 = .int .i64 i /\ Up w wr) (fun _ s4 _=>n + 64 - (intOf s4).toNat)
 case atStart=>exact ⟨n,Nat.le_refl _,by omega,rfl,rfl,Up.refl _⟩
 case round =>
  obtain ⟨i,hi1,hi2,rfl,rfl,u9⟩ := hrel
  have HU : Hid (Up w wr) := u9
  by_cases hlt : i < n + 64
  ·have hlt2 : (i : Int) < (n : Int) + 64 := by omega
   obtain ⟨x0,x1,x2,x3,x4,x5⟩ := HC.out i hi1 hlt
   obtain ⟨x0,x1,x2,x3,x4,x5⟩ := (show wr.cell? ⟨g,i * 6,none⟩ = some (.int .i64 (numI i)) /\ wr.cell? ⟨g,i * 6 + 1,none⟩ = some (.int .i64 0) /\ wr.cell? ⟨g,i * 6 + 2,none⟩ = some (.int .i32 0) /\ wr.cell? ⟨g,i * 6 + 3,none⟩ = some (.int .i32 0) /\ wr.cell? ⟨g,i * 6 + 4,none⟩ = some (.int .i32 0) /\ wr.cell? ⟨g,i * 6 + 5,none⟩ = some (.int .i32 0) from ⟨u9.cell x0,u9.cell x1,u9.cell x2,u9.cell x3,u9.cell x4,u9.cell x5⟩)
   clear u9
   have HNm : Hid _ := num_ i (by omega)
   generalize numI i = z at x0 HNm
   go_wp2_with fail
   go_quiet (exact Calls.quiet_of_same (HNm.out _))
   go_wp2
   go_roundw
   case rel =>
    refine ⟨i + 1,by omega,by omega,rfl,by go_num,HU.out.trans ?_⟩
    repeat (first | with_reducible exact Up.refl _ | with_reducible apply Up.alloc | with_reducible apply Up.drewN | with_reducible apply Up.drew | with_reducible refine Up.set ?_ _ _ (by first | exact Nat.le_refl _ | exact Nat.le_succ _ | (simp; omega)))
   case measure=>simp [intOf]; omega
  ·have hlt2 : ¬ (i : Int) < (n : Int) + 64 := by omega
   clear u9
   go_wp2
   go_ret
   exact ⟨rfl,HU.out⟩
set_option maxRecDepth 100000 in
set_option maxHeartbeats 4000000 in
theorem spareRows_ (base : Nat) (v : Value) (zs : List (List Int)) (w : World) (hv : WZ base w v zs) (hn : zs.length <= 4294967296) (hl : ∀ r,r < zs.length -> (zs.getD r []).length <= 4294967296) :
  Calls Tryz.prog 106 #[v] w fun e w'=>e = .returned (.bool true) /\ Up w w' := by
 obtain ⟨g,vs,-,rfl,h3,h4,h5⟩ := hv
 obtain ⟨n,hn0⟩ : ∃ n,n = zs.length := ⟨_,rfl⟩
 have hcc : ∀ i,i < zs.length + 64 -> w.cell? ⟨g,i,none⟩ = some (vs.getD i nl) := fun i hi=>by
  have : w.cell? ⟨g,i,none⟩ = vs[i]? := by simp [World.cell?,h3]
  rw [this,List.getD_eq_getElem?_getD,List.getElem?_eq_getElem (by omega)]
  rfl
 have HC : Hid (∀ i,n <= i -> i < n + 64 -> ∃ gx,∀ W,Up w W -> W.cell? ⟨g,i,none⟩ = some (.slice (some ⟨gx,0,none⟩) 1 1) /\ W.cell? ⟨gx,0,none⟩ = some (.int .i64 (numI i))) := fun i h1 h2=>by
  have h6 := h5 i (by omega)
  rw [WRow,if_neg (by omega)] at h6
  obtain ⟨gx,-,h7,h8⟩ := h6
  have h9 := hcc i (by omega)
  rw [h7] at h9
  exact ⟨gx,fun W u=>⟨u.cell h9,u.cell (by simp [World.cell?,h8])⟩⟩
 have HR : Hid (∀ i,i < n -> ∃ x,(∃ a b c,x = .slice a b c) /\ ∀ W,Up w W -> W.cell? ⟨g,i,none⟩ = some x /\ Calls Tryz.prog 34 #[x] W fun e w'=>e = .returned (.bool true) /\ w' = W) := fun i h1=>by
  have h6 := h5 i (by omega)
  rw [WRow,if_pos (by omega)] at h6
  obtain ⟨g9,-,e9,-⟩ := id h6
  exact ⟨_,⟨_,_,_,e9⟩,fun W u=>⟨u.cell (hcc i (by omega)),spareInts_ base _ _ W (h6.up u) (hl i (by omega))⟩⟩
 rw [<- hn0] at hn ⊢
 clear h3 h4 h5 hcc hl hn0
 have e1 : (n : Int) + 64 <= (n : Int) + 64 := by omega
 have e2 : (0 : Int) <= (n : Int) + 64 := by omega
 have e3 : ((n : Int) + 64).toNat = n + 64 := by omega
 go_enter Tryz.func106,Tryz.ntmps106
 go_wp2_with fail
 go_loopw [2,4] (fun s2 s4 wr=>∃ i : Nat,n <= i /\ i <= n + 64 /\ s2 = .bool false /\ s4 = .int .i64 i /\ Up w wr) (fun _ s4 _=>n + 64 - (intOf s4).toNat)
 case atStart=>exact ⟨n,Nat.le_refl _,by omega,rfl,rfl,Up.refl _⟩
 case round =>
  obtain ⟨i,hi1,hi2,rfl,rfl,u9⟩ := hrel
  have HU : Hid (Up w wr) := u9
  by_cases hlt : i < n + 64
  ·have hlt2 : (i : Int) < (n : Int) + 64 := by omega
   obtain ⟨gx,hgx⟩ := HC.out i hi1 hlt
   obtain ⟨x0,x1⟩ := hgx wr u9
   have HNm : Hid _ := num_ i (by omega)
   clear u9 hgx
   generalize numI i = z at x1 HNm
   go_wp2_with fail
   go_quiet (exact Calls.quiet_of_same (HNm.out _))
   go_wp2
   go_roundw
   case rel=>exact ⟨i + 1,by omega,by omega,rfl,by go_num,HU.out.drewN _⟩
   case measure=>simp [intOf]; omega
  ·have hlt2 : ¬ (i : Int) < (n : Int) + 64 := by omega
   clear u9
   go_wp2_with fail
   go_loopw [2,6] (fun s2 s6 W=>∃ i : Nat,i <= n /\ s2 = .bool false /\ s6 = .int .i64 i /\ Up w W) (fun _ s6 _=>n - (intOf s6).toNat)
   case atStart=>exact ⟨0,Nat.zero_le _,rfl,rfl,HU.out⟩
   case round =>
    obtain ⟨i,hi,rfl,rfl,u9⟩ := hrel
    clear HU
    have HU : Hid (Up w wr) := u9
    by_cases hlt5 : i < n
    ·have hlt6 : (i : Int) < (n : Int) := by omega
     obtain ⟨x,⟨xa,xb,xc,rfl⟩,hx⟩ := HR.out i hlt5
     obtain ⟨x0,hcall⟩ := hx wr u9
     have HCa : Hid _ := hcall
     clear u9 hx hcall
     go_wp2_with fail
     refine Calls.mono HCa.out ?_
     rintro e w2 ⟨rfl,rfl⟩
     go_wp2
     go_roundw
     case rel=>exact ⟨i + 1,by omega,rfl,by go_num,HU.out⟩
     case measure=>simp [intOf]; omega
    ·have hlt6 : ¬ (i : Int) < (n : Int) := by omega
     clear u9
     go_wp2
     go_ret
     exact ⟨rfl,HU.out⟩
set_option maxHeartbeats 2000000 in
theorem spareState_ (base : Nat) (v : Value) (s : Stt) (w : World) (hv : WS base w v s) (hsm : Small s) :
  Calls Tryz.prog 49 #[v] w fun e w'=>e = .returned (.bool true) /\ Up w w' := by
 obtain ⟨vp,vc,vz,rfl,h1,h2,h3⟩ := hv
 have HP : Hid (∀ W,Up w W -> _) := fun W u=>spareP_ base vp s.ps W (h1.up u) hsm.1
 have HC : Hid (∀ W,Up w W -> _) := fun W u=>spareC_ base vc s.cs W (h2.up u) hsm.2.1
 have HZ : Hid (∀ W,Up w W -> _) := fun W u=>spareRows_ base vz s.zs W (h3.up u) hsm.2.2.1 hsm.2.2.2
 obtain ⟨a1,k1,rfl⟩ := WP.val h1
 obtain ⟨a2,k2,rfl⟩ := WC.val h2
 obtain ⟨a3,k3,rfl⟩ := WZ.val h3
 clear h1 h2 h3
 unfold sv
 obtain ⟨W0,hW0⟩ : ∃ W,W = w.alloc (.cells #[.slice a1 s.ps.length k1,.slice a2 s.cs.length k2,.slice a3 s.zs.length k3,.int .i32 s.turn,.int .i64 s.whose,.int .i8 s.fin,.int .i64 s.winner] 27) := ⟨_,rfl⟩
 have HW0 : Hid (Up w W0 /\ W0.heap[w.heap.size]? = some (.cells #[.slice a1 s.ps.length k1,.slice a2 s.cs.length k2,.slice a3 s.zs.length k3,.int .i32 s.turn,.int .i64 s.whose,.int .i8 s.fin,.int .i64 s.winner] 27 (0,0))) := ⟨by rw [hW0]; exact (Up.refl _).alloc _,by rw [hW0]; exact heap_alloc_new w _⟩
 go_enter Tryz.func49,Tryz.ntmps49
 go_wp2_with fail
 rw [<- hW0]
 clear hW0
 refine Calls.mono (HP.out _ HW0.out.1) ?_
 rintro e w1 ⟨rfl,u1⟩
 obtain ⟨y0,y1,y2,-,-,-,-⟩ := seven_cells (u1.heap HW0.out.2)
 have HU1 : Hid (Up W0 w1) := u1
 clear u1
 go_wp2_with fail
 refine Calls.mono (HC.out _ (HW0.out.1.trans HU1.out)) ?_
 rintro e w2 ⟨rfl,u2⟩
 have HU2 : Hid (Up W0 w2) := HU1.out.trans u2
 clear u2 y0 y1 y2
 obtain ⟨y0,y1,y2,-,-,-,-⟩ := seven_cells (HU2.out.heap HW0.out.2)
 go_wp2_with fail
 refine Calls.mono (HZ.out _ (HW0.out.1.trans HU2.out)) ?_
 rintro e w3 ⟨rfl,u3⟩
 have HU3 : Hid (Up w w3) := (HW0.out.1.trans HU2.out).trans u3
 clear u3
 go_wp2
 go_ret
 exact ⟨rfl,HU3.out⟩
end ST
end Go.Proofs.YtodhjjeagmjhdaaGreatDoor
namespace Go.Proofs.YtodhjjeagmjhdaaGreatDoor.BG
open Go.RowKit
theorem ret_int {k : IntKind} {a b : Int} (h : a = b) : Ending.returned (.int k a) = .returned (.int k b) := by rw [h]
def Up (w w' : World) : Prop := Below w.heap.size w w'
theorem Up.refl (w : World) : Up w w := Below.refl _ _
theorem Up.trans {a b c : World} (h : Up a b) (k : Up b c) : Up a c := Below.trans h (Below.mono k h.size)
theorem Up.alloc {a w : World} (h : Up a w) (o : Obj) : Up a (w.alloc o) := Below.alloc h h.size o
theorem Up.drew {a w : World} (h : Up a w) : Up a w.drew := Below.drew h
theorem Up.drewN {a w : World} (h : Up a w) (n : Nat) : Up a (w.drewN n) := ⟨h.os,h.tape,h.output,h.size,h.block⟩
theorem Up.cell {w w' : World} (h : Up w w') {p : Addr} {v : Value} (hc : w.cell? p = some v) : w'.cell? p = some v := by
 rw [Below.cell h (World.block_lt_of_cell? w p hc)]; exact hc
theorem Up.heap {w w' : World} (h : Up w w') {g : Nat} {o : Obj} (hg : w.heap[g]? = some o) : w'.heap[g]? = some o := by
 rw [h.block g (Array.getElem?_eq_some_iff.1 hg).1]; exact hg
theorem row_up {w w' : World} {b e s n : Nat} {v : Value} {xs : List Value} (h : w.ownsRow b e s v n xs) (u : Up w w') : w'.ownsRow b e s v n xs := by
 refine ⟨h.1,?_⟩
 rcases h.2 with h | ⟨g,cap,cur,e1,e2,e3,e4⟩
 ·exact .inl h
 ·exact .inr ⟨g,cap,cur,e1,e2,u.heap e3,e4⟩
theorem row_some {w : World} {b e s n : Nat} {v : Value} {xs : List Value} (h : w.ownsRow b e s v n xs) (hn : 0 < n) : ∃ g cap,b <= g /\ n <= cap /\ v = .slice (some ⟨g,0,none⟩) n cap := by
 rcases h.2 with ⟨rfl,h0⟩ | ⟨g,cap,cur,rfl,hb,_,hc,_⟩
 ·omega
 ·exact ⟨g,cap,hb,hc,rfl⟩
theorem row_val {w : World} {base e s n : Nat} {v : Value} {xs : List Value} (h : w.ownsRow base e s v n xs) : ∃ ad cap,v = .slice ad n cap := by
 rcases h.2 with ⟨rfl,hn⟩ | ⟨g,cap,cur,rfl,_⟩
 ·exact ⟨none,0,by rw [hn]⟩
 ·exact ⟨_,cap,rfl⟩
theorem flat_len {E : Type} (f : E -> List Value) (s : Nat) (hf : ∀ e,(f e).length = s) (l : List E) : (l.flatMap f).length = l.length * s := by
 induction l with
 | nil=>simp
 | cons x l ih=>rw [List.flatMap_cons,List.length_append,ih,hf,List.length_cons,Nat.succ_mul]; omega
theorem flat_get {E : Type} (f : E -> List Value) (s : Nat) (hf : ∀ e,(f e).length = s) (d : E) (l : List E) : ∀ i j,i < l.length -> j < s -> (l.flatMap f)[i * s + j]? = (f (l.getD i d))[j]? := by
 induction l with
 | nil=>intro i j h; simp at h
 | cons x l ih =>
  intro i j hi hj
  rw [List.flatMap_cons]
  cases i with
  | zero=>rw [Nat.zero_mul,Nat.zero_add,List.getElem?_append_left (by rw [hf]; exact hj)]; rfl
  | succ i =>
   rw [List.getElem?_append_right (by rw [hf,Nat.succ_mul]; omega),hf,show (i + 1) * s + j - s = i * s + j by rw [Nat.succ_mul]; omega,ih i j (by simpa using hi) hj]
   rfl
theorem seven_f {W : World} {a : Nat} {cs : Array Value} {t : TypeId} (h : W.heap[a]? = some (.cells cs t (0,0))) : ∀ j,W.frozen? ⟨a,j,none⟩ = false := fun j=>by simp [World.frozen?,h]
theorem set_cells {W : World} {a j : Nat} {cs : Array Value} {t : TypeId} {x : Value} (h : W.heap[a]? = some (.cells cs t (0,0))) : (W.setCell ⟨a,j,none⟩ x).heap[a]? = some (.cells (cs.setIfInBounds j x) t (0,0)) := by
 simp only [World.setCell,Array.getElem?_modify]; rw [h]; simp
end Go.Proofs.YtodhjjeagmjhdaaGreatDoor.BG
