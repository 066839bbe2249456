/- Nf, Nw, Cy, Wi, Wp, Wr -/
import Derived.Test.YtodhjjeagmjhdaaGreatDoorWhTvDeX
import Derived.Deep.RegionWith
namespace Go.Proofs.YtodhjjeagmjhdaaGreatDoor
open Go.RowKit
attribute [local go_sem ↓] Go.wp_at_zero Go.wp_at_succ
namespace ST
def stZ : Array Value := #[.slice none 0 0,.slice none 0 0,.slice none 0 0,.int .i32 0,.int .i64 0,.int .i8 0,.int .i64 0]
theorem heap_ne {W : World} {a b t1 t2 : Nat} {c1 c2 : Array Value} (h1 : W.heap[a]? = some (.cells c1 t1 (0,0))) (h2 : W.heap[b]? = some (.cells c2 t2 (0,0))) (ht : t1 ≠ t2) : a ≠ b := by
 rintro rfl
 rw [h1] at h2
 cases h2
 exact ht rfl
def NW (w W : World) (B b6 gs gp gz n : Nat) (li en : Int) (vc : Value) (cards : List Crd) (p : Nat) (zs : List (List Int)) : Prop :=
 W.heap[gs]? = some (.cells #[.slice (some ⟨gp,0,none⟩) n n,vc,.slice (some ⟨gz,0,none⟩) (4 * n) (4 * n),.int .i32 1,.int .i64 0,.int .i8 0,.int .i64 0] 27 (0,0)) /\
 (∃ pl : List Value,W.heap[gp]? = some (.cells pl.toArray 97 (0,0)) /\ pl.length = n * 3 /\ ∀ q,q < p * 3 -> pl[q]? = (pvs (List.replicate n ⟨li,en,false⟩))[q]?) /\
 (∃ zl : List Value,W.heap[gz]? = some (.cells zl.toArray 28 (0,0)) /\ zl.length = 4 * n /\ ∀ q,q < 4 * n -> IRow B W (zl.getD q nl) (zs.getD q [])) /\
 CO B W vc cards /\ W.heap[b6]? = some (.cells stZ 27 (0,0)) /\ Up w W /\ B <= W.heap.size
def Fix (w : World) (B b6 gs gp gz : Nat) : Prop := b6 = w.heap.size /\ b6 < gs /\ b6 < gp /\ b6 < gz /\ gs < B /\ gp < B /\ gz < B
theorem NW.up {w W W' : World} {B b6 gs gp gz n : Nat} {li en : Int} {vc : Value} {cards : List Crd} {p : Nat} {zs : List (List Int)} (h : NW w W B b6 gs gp gz n li en vc cards p zs) (u : Up W W') : NW w W' B b6 gs gp gz n li en vc cards p zs := by
 obtain ⟨h1,⟨pl,h2,h3⟩,⟨zl,h4,h5,h6⟩,h7,h8,h9,h10⟩ := h
 exact ⟨u.heap h1,⟨pl,u.heap h2,h3⟩,⟨zl,u.heap h4,h5,fun q hq=>row_up (h6 q hq) u⟩,row_up h7 u,u.heap h8,h9.trans u,Nat.le_trans h10 u.size⟩
theorem NW.card {w W W2 : World} {B b6 gs gp gz n : Nat} {li en : Int} {vc vc' : Value} {cards cards' : List Crd} {p : Nat} {zs : List (List Int)} (hf : Fix w B b6 gs gp gz) (h : NW w W B b6 gs gp gz n li en vc cards p zs) (hg : W.grownBy W2 vc.ownBlock) (hc : CO B W2 vc' cards') :
  NW w (W2.setCell ⟨gs,1,none⟩ vc') B b6 gs gp gz n li en vc' cards' p zs := by
 obtain ⟨h1,⟨pl,h2,h3⟩,⟨zl,h4,h5,h6⟩,h7,h8,h9,h10⟩ := h
 obtain ⟨f1,f2,f3,f4,f5,f6,f7⟩ := hf
 have keep : ∀ g o,g < B -> W.heap[g]? = some o -> W2.heap[g]? = some o := fun g o hgB hgo=>by
  rw [hg.block g (Array.getElem?_eq_some_iff.1 hgo).1 (fun e=>by have := h7.lt g e.symm; omega)]
  exact hgo
 have n1 : gp ≠ gs := heap_ne h2 h1 (by decide)
 have n2 : gz ≠ gs := heap_ne h4 h1 (by decide)
 refine ⟨set_cells (keep _ _ f5 h1),⟨pl,set_other (keep _ _ f6 h2) n1,h3⟩,⟨zl,set_other (keep _ _ f7 h4) n2,h5,fun q hq=>row_set (World.ownsRow.kept (h6 q hq) hg (row_apart (h6 q hq) h7 (by decide))) f5⟩,row_set hc f5,set_other (keep _ _ (by omega) h8) (by omega),Up.set (Below.grown h9 hg (by omega) (fun k hk=>by have := h7.lt k hk; omega)) _ _ (by show w.heap.size <= gs; omega),?_⟩
 have := hg.size
 simp; omega
end ST
theorem row_set_ty {W : World} {base e s n gz j t : Nat} {v u : Value} {xs : List Value} {c : Array Value} (h : W.ownsRow base e s v n xs) (hz : W.heap[gz]? = some (.cells c t (0,0))) (ht : e ≠ t) : (W.setCell ⟨gz,j,none⟩ u).ownsRow base e s v n xs := by
 refine ⟨h.1,?_⟩
 rcases h.2 with h | ⟨g,cap,cur,e1,e2,e3,e4⟩
 ·exact .inl h
 ·exact .inr ⟨g,cap,cur,e1,e2,by
   rw [Below.heap_setCell _ _ _ _ (by
    show g ≠ gz
    rintro rfl
    rw [e3] at hz
    cases hz
    exact ht rfl)]
   exact e3,e4⟩
theorem blocks_3 (w : World) (A B C : Array Value) (t : TypeId) : (((w.alloc (.cells A t)).alloc (.cells B t)).alloc (.cells C t)).heap[w.heap.size]? = some (.cells A t (0,0)) /\ (((w.alloc (.cells A t)).alloc (.cells B t)).alloc (.cells C t)).heap[w.heap.size + 1]? = some (.cells B t (0,0)) /\ (((w.alloc (.cells A t)).alloc (.cells B t)).alloc (.cells C t)).heap[w.heap.size + 1 + 1]? = some (.cells C t (0,0)) /\ (((w.alloc (.cells A t)).alloc (.cells B t)).alloc (.cells C t)).heap.size = w.heap.size + 3 /\ Up w (((w.alloc (.cells A t)).alloc (.cells B t)).alloc (.cells C t)) := by
 obtain ⟨h1,h2,h3,h4⟩ := two_blocks w A B t
 refine ⟨?_,?_,?_,by simp,h4.alloc _⟩
 ·rw [Below.heap_alloc _ _ _ (by rw [h3]; omega)]; exact h1
 ·rw [Below.heap_alloc _ _ _ (by rw [h3]; omega)]; exact h2
 ·have := heap_alloc_new ((w.alloc (.cells A t)).alloc (.cells B t)) (.cells C t)
  rw [h3] at this
  exact this
namespace ST
def zbox : Array Value := #[.slice none 0 0,.slice none 0 0,.slice none 0 0,.int .i32 0,.int .i64 0,.int .i8 0,.int .i64 0]
def CY (w W : World) (B : Nat) (box cbox : Array Value) (gz nz i : Nat) (vs : List Value) (x1 x2 : Value) (s : Stt) : Prop :=
 W.heap[B]? = some (.cells box 27 (0,0)) /\ W.heap[B + 1]? = some (.cells zbox 27 (0,0)) /\ W.heap[B + 1 + 1]? = some (.cells cbox 27 (0,0)) /\
 (W.heap[gz]? = some (.cells vs.toArray 28 (0,0)) /\ vs.length = nz /\ B + 3 <= gz) /\ (∀ j,j < i -> IRow (B + 3) W (vs.getD j nl) (s.zs.getD j [])) /\ PO (B + 3) W x1 s.ps /\ CO (B + 3) W x2 s.cs /\ Up w W /\ B = w.heap.size
theorem CY.up {w W W' : World} {B : Nat} {box cbox : Array Value} {gz nz i : Nat} {vs : List Value} {x1 x2 : Value} {s : Stt} (h : CY w W B box cbox gz nz i vs x1 x2 s) (u : Up W W') : CY w W' B box cbox gz nz i vs x1 x2 s := by
 obtain ⟨h1,h2,h3,⟨h4,h5,h6⟩,h7,h8,h9,h10,h11⟩ := h
 exact ⟨u.heap h1,u.heap h2,u.heap h3,⟨u.heap h4,h5,h6⟩,fun j hj=>row_up (h7 j hj) u,row_up h8 u,row_up h9 u,h10.trans u,h11⟩
theorem CY.put {w W : World} {B : Nat} {box cbox : Array Value} {gz nz i : Nat} {vs : List Value} {x1 x2 x : Value} {s : Stt} (h : CY w W B box cbox gz nz i vs x1 x2 s) (hi : i < nz) (hx : IRow (B + 3) W x (s.zs.getD i [])) : CY w (W.setCell ⟨gz,i,none⟩ x) B box cbox gz nz (i + 1) (vs.set i x) x1 x2 s := by
 obtain ⟨h1,h2,h3,⟨h4,h5,h6⟩,h7,h8,h9,h10,h11⟩ := h
 refine ⟨set_other h1 (heap_ne h1 h4 (by decide)),set_other h2 (heap_ne h2 h4 (by decide)),set_other h3 (heap_ne h3 h4 (by decide)),⟨?_,by simpa using h5,h6⟩,fun j hj=>?_,row_set_ty h8 h4 (by decide),row_set_ty h9 h4 (by decide),Up.set h10 _ _ (by show w.heap.size <= gz; omega),h11⟩
 ·have := set_cells (j := i) (x := x) h4
  simpa using this
 ·by_cases e : j = i
  ·subst e
   rw [List.getD_eq_getElem?_getD,List.getElem?_set_self (by omega)]
   exact row_set_ty hx h4 (by decide)
  ·rw [List.getD_eq_getElem?_getD,List.getElem?_set_ne (fun h=>e h.symm),<- List.getD_eq_getElem?_getD]
   exact row_set_ty (h7 j (by omega)) h4 (by decide)
set_option maxRecDepth 100000 in
set_option maxHeartbeats 8000000 in
theorem copy_ (v : Value) (s : Stt) (w : World) (hs : StL w v s) (hsm : Small s) :
  Calls Tryz.prog 80 #[v] w (CpPost w fun W v'=>SO w.heap.size W v' s) := by
 obtain ⟨iR,hiR,i0,i1,i2⟩ := info_parts infoR
 obtain ⟨Post,hPost⟩ : ∃ P : Ending -> World -> Prop,P = CpPost w fun W v'=>SO w.heap.size W v' s := ⟨_,rfl⟩
 rw [<- hPost]
 have HP : Hid (Post = CpPost w fun W v'=>SO w.heap.size W v' s) := hPost
 obtain ⟨vp,vc,vz,rfl,h1,h2,h3⟩ := hs
 obtain ⟨a1,k1,rfl,-,-⟩ := lc_at h1
 obtain ⟨a2,k2,rfl,-,-⟩ := lc_at h2
 obtain ⟨a3,k3,rfl,-,c3⟩ := zl_at h3
 have H3 : Hid _ := c3
 have HM : Hid (Small s) := hsm
 clear hPost h3 c3
 have HSV : Hid (∀ x y z,sv x y z s = .agg #[x,y,z,.int .i32 s.turn,.int .i64 s.whose,.int .i8 s.fin,.int .i64 s.winner]) := fun _ _ _=>rfl
 unfold sv
 generalize s.turn = tu at HSV ⊢
 generalize s.whose = wo at HSV ⊢
 generalize s.fin = fi at HSV ⊢
 generalize s.winner = wi at HSV ⊢
 obtain ⟨np,hnp⟩ : ∃ n,n = s.ps.length := ⟨_,rfl⟩
 obtain ⟨nc,hnc⟩ : ∃ n,n = s.cs.length := ⟨_,rfl⟩
 obtain ⟨nz,hnz⟩ : ∃ n,n = s.zs.length := ⟨_,rfl⟩
 have hz9 : nz <= 4294967296 := by rw [hnz]; exact hsm.2.2.1
 have H1 : Hid (∀ W,Up w W -> PLs W (.slice a1 np k1) s.ps) := fun W u=>by rw [hnp]; exact PLs.up h1 u
 have H2 : Hid (∀ W,Up w W -> CLs W (.slice a2 nc k2) s.cs) := fun W u=>by rw [hnc]; exact CLs.up h2 u
 rw [<- hnp,<- hnc,<- hnz]
 rw [<- hnz] at H3
 have HN : Hid (np = s.ps.length /\ nc = s.cs.length /\ nz = s.zs.length) := ⟨hnp,hnc,hnz⟩
 clear hnp hnc hnz hsm h1 h2
 go_enter Tryz.func80,Tryz.ntmps80
 go_wp2_with fail
 obtain ⟨W1,hW1⟩ : ∃ W,W = ((w.alloc (.cells #[.slice a1 np k1,.slice a2 nc k2,.slice a3 nz k3,.int .i32 tu,.int .i64 wo,.int .i8 fi,.int .i64 wi] 27)).alloc (.cells #[.slice none 0 0,.slice none 0 0,.slice none 0 0,.int .i32 0,.int .i64 0,.int .i8 0,.int .i64 0] 27)).alloc (.cells #[.slice a1 np k1,.slice a2 nc k2,.slice a3 nz k3,.int .i32 tu,.int .i64 wo,.int .i8 fi,.int .i64 wi] 27) := ⟨_,rfl⟩
 rw [<- hW1]
 obtain ⟨g1,g2,g3,gs,gu⟩ := blocks_3 w #[.slice a1 np k1,.slice a2 nc k2,.slice a3 nz k3,.int .i32 tu,.int .i64 wo,.int .i8 fi,.int .i64 wi] zbox #[.slice a1 np k1,.slice a2 nc k2,.slice a3 nz k3,.int .i32 tu,.int .i64 wo,.int .i8 fi,.int .i64 wi] 27
 rw [show (((w.alloc (.cells #[.slice a1 np k1,.slice a2 nc k2,.slice a3 nz k3,.int .i32 tu,.int .i64 wo,.int .i8 fi,.int .i64 wi] 27)).alloc (.cells zbox 27)).alloc (.cells #[.slice a1 np k1,.slice a2 nc k2,.slice a3 nz k3,.int .i32 tu,.int .i64 wo,.int .i8 fi,.int .i64 wi] 27)) = W1 from hW1.symm] at g1 g2 g3 gs gu
 obtain ⟨B,hB⟩ : ∃ b,b = w.heap.size := ⟨_,rfl⟩
 rw [<- hB] at g1 g2 g3 gs ⊢
 have HB : Hid (B = w.heap.size) := hB
 clear hW1 hB
 refine Calls.mono (copyLP_ _ s.ps W1 (H1.out _ gu) HM.out.1) ?_
 rintro e w1 ⟨x1,rfl,d1,u1⟩
 obtain ⟨xa1,xk1,hx1⟩ := row_val d1
 rw [<- HN.out.1] at hx1
 subst hx1
 have HG : Hid (w1.heap[B]? = some (.cells #[.slice a1 np k1,.slice a2 nc k2,.slice a3 nz k3,.int .i32 tu,.int .i64 wo,.int .i8 fi,.int .i64 wi] 27 (0,0)) /\ w1.heap[B + 1]? = some (.cells zbox 27 (0,0)) /\ w1.heap[B + 1 + 1]? = some (.cells #[.slice a1 np k1,.slice a2 nc k2,.slice a3 nz k3,.int .i32 tu,.int .i64 wo,.int .i8 fi,.int .i64 wi] 27 (0,0)) /\ B + 3 <= w1.heap.size /\ Up w w1 /\ PO (B + 3) w1 (.slice xa1 np xk1) s.ps) := ⟨u1.heap g1,u1.heap g2,u1.heap g3,by have := u1.size; omega,gu.trans u1,by rw [gs] at d1; exact d1⟩
 clear d1 u1 g1 g2 g3 gs gu
 obtain ⟨z0,z1,z2,z3,z4,z5,z6⟩ := seven_cells HG.out.2.2.1
 have zf := seven_f HG.out.2.2.1
 have HG2 : Hid ((w1.setCell ⟨B + 1 + 1,0,none⟩ (.slice xa1 np xk1)).heap[B]? = some (.cells #[.slice a1 np k1,.slice a2 nc k2,.slice a3 nz k3,.int .i32 tu,.int .i64 wo,.int .i8 fi,.int .i64 wi] 27 (0,0)) /\ (w1.setCell ⟨B + 1 + 1,0,none⟩ (.slice xa1 np xk1)).heap[B + 1]? = some (.cells zbox 27 (0,0)) /\ (w1.setCell ⟨B + 1 + 1,0,none⟩ (.slice xa1 np xk1)).heap[B + 1 + 1]? = some (.cells #[.slice xa1 np xk1,.slice a2 nc k2,.slice a3 nz k3,.int .i32 tu,.int .i64 wo,.int .i8 fi,.int .i64 wi] 27 (0,0)) /\ B + 3 <= (w1.setCell ⟨B + 1 + 1,0,none⟩ (.slice xa1 np xk1)).heap.size /\ Up w (w1.setCell ⟨B + 1 + 1,0,none⟩ (.slice xa1 np xk1)) /\ PO (B + 3) (w1.setCell ⟨B + 1 + 1,0,none⟩ (.slice xa1 np xk1)) (.slice xa1 np xk1) s.ps) :=
  ⟨set_other HG.out.1 (by omega),set_other HG.out.2.1 (by omega),set_cells HG.out.2.2.1,by simpa using HG.out.2.2.2.1,Up.set HG.out.2.2.2.2.1 _ _ (by show w.heap.size <= B + 1 + 1; rw [<- HB.out]; omega),row_set_ty HG.out.2.2.2.2.2 HG.out.2.2.1 (by decide)⟩
 obtain ⟨y0,y1,y2,y3,y4,y5,y6⟩ := seven_cells HG2.out.1
 clear HG
 go_wp2_with fail
 obtain ⟨W3,hW3⟩ : ∃ W,W = w1.setCell ⟨B + 1 + 1,0,none⟩ (.slice xa1 np xk1) := ⟨_,rfl⟩
 rw [<- hW3] at HG2 ⊢
 clear hW3 y0 y1 y2 y3 y4 y5 y6 z0 z1 z2 z3 z4 z5 z6 zf
 refine Calls.mono (copyLC_ _ s.cs W3 (H2.out _ HG2.out.2.2.2.2.1) HM.out.2.1) ?_
 rintro e w4 ⟨x2,rfl,d2,u2⟩
 obtain ⟨xa2,xk2,hx2⟩ := row_val d2
 rw [<- HN.out.2.1] at hx2
 subst hx2
 have HG : Hid (w4.heap[B]? = some (.cells #[.slice a1 np k1,.slice a2 nc k2,.slice a3 nz k3,.int .i32 tu,.int .i64 wo,.int .i8 fi,.int .i64 wi] 27 (0,0)) /\ w4.heap[B + 1]? = some (.cells zbox 27 (0,0)) /\ w4.heap[B + 1 + 1]? = some (.cells #[.slice xa1 np xk1,.slice a2 nc k2,.slice a3 nz k3,.int .i32 tu,.int .i64 wo,.int .i8 fi,.int .i64 wi] 27 (0,0)) /\ B + 3 <= w4.heap.size /\ Up w w4 /\ PO (B + 3) w4 (.slice xa1 np xk1) s.ps /\ CO (B + 3) w4 (.slice xa2 nc xk2) s.cs) := ⟨u2.heap HG2.out.1,u2.heap HG2.out.2.1,u2.heap HG2.out.2.2.1,by have := u2.size; have := HG2.out.2.2.2.1; omega,HG2.out.2.2.2.2.1.trans u2,row_up HG2.out.2.2.2.2.2 u2,own_less d2 HG2.out.2.2.2.1⟩
 clear d2 u2 HG2
 obtain ⟨z0,z1,z2,z3,z4,z5,z6⟩ := seven_cells HG.out.2.2.1
 have zf := seven_f HG.out.2.2.1
 have HG2 : Hid ((w4.setCell ⟨B + 1 + 1,1,none⟩ (.slice xa2 nc xk2)).heap[B]? = some (.cells #[.slice a1 np k1,.slice a2 nc k2,.slice a3 nz k3,.int .i32 tu,.int .i64 wo,.int .i8 fi,.int .i64 wi] 27 (0,0)) /\ (w4.setCell ⟨B + 1 + 1,1,none⟩ (.slice xa2 nc xk2)).heap[B + 1]? = some (.cells zbox 27 (0,0)) /\ (w4.setCell ⟨B + 1 + 1,1,none⟩ (.slice xa2 nc xk2)).heap[B + 1 + 1]? = some (.cells #[.slice xa1 np xk1,.slice xa2 nc xk2,.slice a3 nz k3,.int .i32 tu,.int .i64 wo,.int .i8 fi,.int .i64 wi] 27 (0,0)) /\ B + 3 <= (w4.setCell ⟨B + 1 + 1,1,none⟩ (.slice xa2 nc xk2)).heap.size /\ Up w (w4.setCell ⟨B + 1 + 1,1,none⟩ (.slice xa2 nc xk2)) /\ PO (B + 3) (w4.setCell ⟨B + 1 + 1,1,none⟩ (.slice xa2 nc xk2)) (.slice xa1 np xk1) s.ps /\ CO (B + 3) (w4.setCell ⟨B + 1 + 1,1,none⟩ (.slice xa2 nc xk2)) (.slice xa2 nc xk2) s.cs) :=
  ⟨set_other HG.out.1 (by omega),set_other HG.out.2.1 (by omega),set_cells HG.out.2.2.1,by simpa using HG.out.2.2.2.1,Up.set HG.out.2.2.2.2.1 _ _ (by show w.heap.size <= B + 1 + 1; rw [<- HB.out]; omega),row_set_ty HG.out.2.2.2.2.2.1 HG.out.2.2.1 (by decide),row_set_ty HG.out.2.2.2.2.2.2 HG.out.2.2.1 (by decide)⟩
 obtain ⟨y0,y1,y2,y3,y4,y5,y6⟩ := seven_cells HG2.out.1
 clear HG
 obtain ⟨gz,hgz⟩ : ∃ g,g = w4.heap.size := ⟨_,rfl⟩
 have HGZ : Hid ((w4.setCell ⟨B + 1 + 1,1,none⟩ (.slice xa2 nc xk2)).heap.size = gz) := by unfold Hid; rw [hgz]; simp
 have HGZ2 : Hid (gz = w4.heap.size) := hgz
 clear hgz
 have HMk : Hid (∀ w6,(w4.setCell ⟨B + 1 + 1,1,none⟩ (.slice xa2 nc xk2)).grownBy w6 none -> w6.heap[gz]? = some (.cells (madeCells (Value.slice none 0 0).cells (nz * 1)).toList.toArray 28 (0,0)) -> w6.heap[B + 1 + 1]? = some (.cells #[.slice xa1 np xk1,.slice xa2 nc xk2,.slice a3 nz k3,.int .i32 tu,.int .i64 wo,.int .i8 fi,.int .i64 wi] 27 (0,0)) /\ w6.heap[B]? = some (.cells #[.slice a1 np k1,.slice a2 nc k2,.slice a3 nz k3,.int .i32 tu,.int .i64 wo,.int .i8 fi,.int .i64 wi] 27 (0,0)) /\ ∃ vs,CY w (w6.setCell ⟨B + 1 + 1,2,none⟩ (.slice (some ⟨gz,0,none⟩) nz nz)) B #[.slice a1 np k1,.slice a2 nc k2,.slice a3 nz k3,.int .i32 tu,.int .i64 wo,.int .i8 fi,.int .i64 wi] #[.slice xa1 np xk1,.slice xa2 nc xk2,.slice (some ⟨gz,0,none⟩) nz nz,.int .i32 tu,.int .i64 wo,.int .i8 fi,.int .i64 wi] gz nz 0 vs (.slice xa1 np xk1) (.slice xa2 nc xk2) s) := fun w6 hg h6=>by
  have u := made_up hg
  have h3 := u.heap HG2.out.2.2.1
  refine ⟨h3,u.heap HG2.out.1,(madeCells (Value.slice none 0 0).cells (nz * 1)).toList,set_other (u.heap HG2.out.1) (by omega),set_other (u.heap HG2.out.2.1) (by omega),set_cells h3,⟨set_other h6 (by have := HG2.out.2.2.2.1; have := HGZ.out; omega),by simp [size_madeCells],by rw [<- HGZ.out]; exact HG2.out.2.2.2.1⟩,fun j hj=>by omega,row_set_ty (row_up HG2.out.2.2.2.2.2.1 u) h3 (by decide),row_set_ty (row_up HG2.out.2.2.2.2.2.2 u) h3 (by decide),Up.set (HG2.out.2.2.2.2.1.trans u) _ _ (by show w.heap.size <= B + 1 + 1; rw [<- HB.out]; omega),HB.out⟩
 go_wp2_with (at_make; (refine wpList_make_full _ rfl _ _ 24 rfl (w4.setCell ⟨B + 1 + 1,1,none⟩ (.slice xa2 nc xk2)).heap.size 28 iR _ 1 Tryz.underlying24 hiR i0 i1 .i64 .i64 _ _ nz rfl rfl rfl rfl (by rw [i2]; omega) (by unfold maxLen; omega) (Nat.le_refl _) ?_; intro w6 hin hg1; rw [HGZ.out] at hin ⊢; obtain ⟨hb6,hb7,vs,hcy⟩ := HMk.out w6 hg1 (row_made hin); have HCY : Hid _ := hcy; clear y0 y1 y2 y3 y4 y5 y6 z0 z1 z2 z3 z4 z5 z6 zf; obtain ⟨z0,z1,z2,z3,z4,z5,z6⟩ := seven_cells hb6; have zf := seven_f hb6; obtain ⟨y0,y1,y2,y3,y4,y5,y6⟩ := seven_cells hb7; clear hin hg1 hb6 hb7 hcy HMk HG2))
 have HCY2 : Hid (CY w (w6.setCell ⟨B + 1 + 1,2,none⟩ (.slice (some ⟨gz,0,none⟩) nz nz)) B #[.slice a1 np k1,.slice a2 nc k2,.slice a3 nz k3,.int .i32 tu,.int .i64 wo,.int .i8 fi,.int .i64 wi] #[.slice xa1 np xk1,.slice xa2 nc xk2,.slice (some ⟨gz,0,none⟩) nz nz,.int .i32 tu,.int .i64 wo,.int .i8 fi,.int .i64 wi] gz nz 0 vs (.slice xa1 np xk1) (.slice xa2 nc xk2) s) := HCY.out
 clear HCY y0 y1 y2 y3 y4 y5 y6 z0 z1 z2 z3 z4 z5 z6 zf HGZ HGZ2 H1 H2
 go_loopw [4,5,23] (fun s4 s5 s23 W=>∃ (i : Nat) (vs : List Value),i <= nz /\ s23 = .int .i64 i /\ CY w W B #[.slice a1 np k1,.slice a2 nc k2,.slice a3 nz k3,.int .i32 tu,.int .i64 wo,.int .i8 fi,.int .i64 wi] #[.slice xa1 np xk1,.slice xa2 nc xk2,.slice (some ⟨gz,0,none⟩) nz nz,.int .i32 tu,.int .i64 wo,.int .i8 fi,.int .i64 wi] gz nz i vs (.slice xa1 np xk1) (.slice xa2 nc xk2) s) (fun _ _ s23 _=>nz - (intOf s23).toNat)
 case atStart=>exact ⟨0,vs,Nat.zero_le _,rfl,HCY2.out⟩
 case round =>
  clear HCY2 vs
  obtain ⟨i,vs,hi,rfl,hk⟩ := hrel
  have HK : Hid (CY w wr B #[.slice a1 np k1,.slice a2 nc k2,.slice a3 nz k3,.int .i32 tu,.int .i64 wo,.int .i8 fi,.int .i64 wi] #[.slice xa1 np xk1,.slice xa2 nc xk2,.slice (some ⟨gz,0,none⟩) nz nz,.int .i32 tu,.int .i64 wo,.int .i8 fi,.int .i64 wi] gz nz i vs (.slice xa1 np xk1) (.slice xa2 nc xk2) s) := hk
  clear hk
  by_cases hlt : i < nz
  ·have hlt2 : (i : Int) < (nz : Int) := by omega
   have HLb : Hid ((s.zs.getD i []).length <= 4294967296) := HM.out.2.2.2 i (by rw [<- HN.out.2.2]; exact hlt)
   obtain ⟨b3,o3,rfl,hrow⟩ := H3.out (by omega)
   obtain ⟨ra,rc,hcell,hil⟩ := hrow i hlt
   have q1 := hcell wr HK.out.2.2.2.2.2.2.2.1
   have HIL : Hid (∀ W,Up wr W -> IL W (.slice ra (s.zs.getD i []).length rc) (s.zs.getD i [])) := fun W u=>hil.up (HK.out.2.2.2.2.2.2.2.1.trans u)
   have HZc : Hid (∀ W vs,CY w W B #[.slice a1 np k1,.slice a2 nc k2,.slice (some ⟨b3,o3,none⟩) nz k3,.int .i32 tu,.int .i64 wo,.int .i8 fi,.int .i64 wi] #[.slice xa1 np xk1,.slice xa2 nc xk2,.slice (some ⟨gz,0,none⟩) nz nz,.int .i32 tu,.int .i64 wo,.int .i8 fi,.int .i64 wi] gz nz i vs (.slice xa1 np xk1) (.slice xa2 nc xk2) s -> W.cell? ⟨B + 1 + 1,2,none⟩ = some (.slice (some ⟨gz,0,none⟩) nz nz) /\ (∃ z,W.cell? ⟨gz,i,none⟩ = some z) /\ W.frozen? ⟨gz,i,none⟩ = false /\ B + 3 <= W.heap.size) := fun W vs h=>by
    obtain ⟨-,-,h3,⟨h4,h5,h6⟩,-⟩ := h
    refine ⟨(seven_cells h3).2.2.1,⟨vs[i]'(by omega),by simp [World.cell?,h4]⟩,seven_f h4 i,?_⟩
    have := (Array.getElem?_eq_some_iff.1 h4).1
    omega
   obtain ⟨c1,⟨zc,c2⟩,c3,c4⟩ := HZc.out wr vs HK.out
   clear hcell hrow hil H3
   obtain ⟨r,hr⟩ : ∃ r,r = s.zs.getD i [] := ⟨_,rfl⟩
   have HR : Hid (r = s.zs.getD i []) := hr
   rw [<- hr] at q1 HIL HLb
   obtain ⟨q,hq⟩ : ∃ q,q = r.length := ⟨_,rfl⟩
   have HQ : Hid (q = r.length) := hq
   rw [<- hq] at q1 HIL HLb
   clear hr hq
   go_wp2_with fail
   refine (fun key : ∀ (xa : Option Addr) (xk : Nat) W3,(∃ vs',CY w W3 B #[.slice a1 np k1,.slice a2 nc k2,.slice (some ⟨b3,o3,none⟩) nz k3,.int .i32 tu,.int .i64 wo,.int .i8 fi,.int .i64 wi] #[.slice xa1 np xk1,.slice xa2 nc xk2,.slice (some ⟨gz,0,none⟩) nz nz,.int .i32 tu,.int .i64 wo,.int .i8 fi,.int .i64 wi] gz nz (i + 1) vs' (.slice xa1 np xk1) (.slice xa2 nc xk2) s) -> (?G : Option Addr -> Nat -> World -> Prop) xa xk W3=>?main) ?kp
   case main =>
    go_region_with (go_at_call 116; go_loud (refine Calls.mono (copyLI_ _ r _ (HIL.out _ (by first | exact (Up.refl _).drew | exact Up.refl _)) (by rw [<- HQ.out]; exact HLb.out)) ?_; rintro e W2 ⟨x,rfl,hx,u2⟩; have u3 : Up wr W2 := Up.trans (by first | exact (Up.refl _).drew | exact Up.refl _) u2; have hcy2 := CY.up HK.out u3; have hx2 : IRow (B + 3) W2 x (s.zs.getD i []) := (by rw [<- HR.out]; exact own_less hx (by first | exact c4 | (simpa using c4))); have hk3 : Hid _ := CY.put hcy2 hlt hx2; obtain ⟨xa,xk,hxa⟩ := row_val hx; rw [<- HQ.out] at hxa; obtain ⟨c1,⟨zc2,c2⟩,c3,-⟩ := HZc.out W2 vs hcy2; clear hx hx2 hcy2 u2 u3; subst hxa))
    all_goals (have hk := hk3.out; clear hk3; revert hk; generalize W2.setCell _ _ = W3; intro hk; exact key xa xk W3 ⟨_,hk⟩)
   case kp =>
    intro xa xk W3 hcy
    obtain ⟨vs',hcy⟩ := hcy
    have HW3 : Hid (CY w W3 B #[.slice a1 np k1,.slice a2 nc k2,.slice (some ⟨b3,o3,none⟩) nz k3,.int .i32 tu,.int .i64 wo,.int .i8 fi,.int .i64 wi] #[.slice xa1 np xk1,.slice xa2 nc xk2,.slice (some ⟨gz,0,none⟩) nz nz,.int .i32 tu,.int .i64 wo,.int .i8 fi,.int .i64 wi] gz nz (i + 1) vs' (.slice xa1 np xk1) (.slice xa2 nc xk2) s) := hcy
    clear hcy c1 c2 c3 c4 q1 HIL HZc HK
    go_wp2_with fail
    go_roundw
    case rel=>exact ⟨i + 1,vs',by omega,by go_num,HW3.out⟩
    case measure=>simp [intOf]; omega
  ·have hlt2 : ¬ (i : Int) < (nz : Int) := by omega
   have hb2 := HK.out.2.1
   have hb3 := HK.out.2.2.1
   rw [zbox] at hb2
   obtain ⟨y0,y1,y2,y3,y4,y5,y6⟩ := seven_cells hb3
   obtain ⟨z0,z1,z2,z3,z4,z5,z6⟩ := seven_cells hb2
   have zf := seven_f hb2
   have HB2 : Hid (wr.heap[B + 1]? = some (.cells #[.slice none 0 0,.slice none 0 0,.slice none 0 0,.int .i32 0,.int .i64 0,.int .i8 0,.int .i64 0] 27 (0,0))) := hb2
   clear hb2 hb3 H3
   go_wp2_with fail
   obtain ⟨p0,p1,p2,p3,p4,p5,p6⟩ := seven_cells (seven_set (x0 := .slice xa1 np xk1) (x1 := .slice xa2 nc xk2) (x2 := .slice (some ⟨gz,0,none⟩) nz nz) (x3 := .int .i32 tu) (x4 := .int .i64 wo) (x5 := .int .i8 fi) (x6 := .int .i64 wi) HB2.out)
   refine bodyPost_ret (v := .agg #[.slice xa1 np xk1,.slice xa2 nc xk2,.slice (some ⟨gz,0,none⟩) nz nz,.int .i32 tu,.int .i64 wo,.int .i8 fi,.int .i64 wi]) (by simp [results,Tryz.results80,go_sem,p0,p1,p2,p3,p4,p5,p6]) rfl ?_
   rw [HP.out]
   obtain ⟨h1,h2,h3,⟨h4,h5,h6⟩,h7,h8,h9,h10,h11⟩ := HK.out
   have hin : i = nz := by omega
   subst hin
   have kp : ∀ (e0 s0 n0 : Nat) (v0 : Value) (l0 : List Value) (W : World) (x : Value) (j : Nat) (c : Array Value),W.ownsRow (B + 3) e0 s0 v0 n0 l0 -> (W.setCell ⟨B + 1,j,none⟩ x).ownsRow (B + 3) e0 s0 v0 n0 l0 := fun e0 s0 n0 v0 l0 W x j _ h=>row_set h (by omega)
   have kp7 : ∀ (e0 s0 n0 : Nat) (v0 : Value) (l0 : List Value),wr.ownsRow (B + 3) e0 s0 v0 n0 l0 -> (((((((wr.setCell ⟨B + 1,0,none⟩ (.slice xa1 np xk1)).setCell ⟨B + 1,1,none⟩ (.slice xa2 nc xk2)).setCell ⟨B + 1,2,none⟩ (.slice (some ⟨gz,0,none⟩) i i)).setCell ⟨B + 1,3,none⟩ (.int .i32 tu)).setCell ⟨B + 1,4,none⟩ (.int .i64 wo)).setCell ⟨B + 1,5,none⟩ (.int .i8 fi)).setCell ⟨B + 1,6,none⟩ (.int .i64 wi)).ownsRow (B + 3) e0 s0 v0 n0 l0 := fun e0 s0 n0 v0 l0 h=>row_set (row_set (row_set (row_set (row_set (row_set (row_set h (by omega)) (by omega)) (by omega)) (by omega)) (by omega)) (by omega)) (by omega)
   refine ⟨_,rfl,⟨_,_,_,(HSV.out _ _ _).symm,own_less (kp7 _ _ _ _ _ h8) (by omega),own_less (kp7 _ _ _ _ _ h9) (by omega),vs,?_,fun j hj=>own_less (kp7 _ _ _ _ _ (h7 j (by rw [HN.out.2.2]; exact hj))) (by omega)⟩,?_⟩
   ·rw [<- HN.out.2.2]
    exact own_less (kp7 _ _ _ _ _ (own_made h4 (by rw [h5,Nat.mul_one]) h6 (by unfold maxLen; omega))) (by omega)
   ·have hb1 : w.heap.size <= B + 1 := by omega
    exact (((((((h10.set _ _ hb1).set _ _ hb1).set _ _ hb1).set _ _ hb1).set _ _ hb1).set _ _ hb1).set _ _ hb1)
def numI (i : Nat) : Int := 9437185 + (i : Int)
set_option maxHeartbeats 1000000 in
theorem num_ (i : Nat) (hi : i <= 8589934592) (w : World) : Calls Tryz.prog 78 #[.int .i64 9,.int .i64 i] w fun e w'=>e = .returned (.int .i64 (numI i)) /\ w' = w := by
 go_enter Tryz.func78,Tryz.ntmps78
 go_wp2
 go_ret
 exact ⟨ret_int (by unfold numI; omega),rfl⟩
def wI (l : List Int) (i : Nat) : Value := if i < l.length then .int .i64 (l.getD i 0) else .int .i64 (numI i)
def wIs (l : List Int) : List Value := (List.range (l.length + 64)).map (wI l)
theorem wIs_len (l : List Int) : (wIs l).length = l.length + 64 := by simp [wIs]
theorem wIs_get (l : List Int) (i : Nat) (hi : i < l.length + 64) : (wIs l)[i]? = some (wI l i) := by simp [wIs,hi]
def WI (base : Nat) (W : World) (v : Value) (l : List Int) : Prop := ∃ g,base <= g /\ v = .slice (some ⟨g,0,none⟩) l.length (l.length + 64) /\ W.heap[g]? = some (.cells (wIs l).toArray 3 (0,0))
theorem WI.up {base : Nat} {W W' : World} {v : Value} {l : List Int} (h : WI base W v l) (u : Up W W') : WI base W' v l := by
 obtain ⟨g,h1,h2,h3⟩ := h
 exact ⟨g,h1,h2,u.heap h3⟩
theorem WI.il {base : Nat} {W : World} {v : Value} {l : List Int} (h : WI base W v l) : IL W v l := by
 obtain ⟨g,h1,rfl,h3⟩ := h
 refine ⟨by rw [ivs_len,Nat.mul_one],some ⟨g,0,none⟩,l.length + 64,rfl,by omega,fun hn=>⟨g,0,rfl,fun j hj=>?_⟩⟩
 rw [Nat.mul_one] at hj
 rw [ivs_get l j hj,Nat.zero_add]
 have : W.cell? ⟨g,j,none⟩ = (wIs l)[j]? := by simp [World.cell?,h3]
 rw [this,wIs_get l j (by omega),wI,if_pos hj]
set_option maxRecDepth 100000 in
set_option maxHeartbeats 4000000 in
theorem wideInts_ (v : Value) (l : List Int) (w : World) (hv : IL w v l) (hn : l.length <= 4294967296) :
  Calls Tryz.prog 30 #[v] w (CpPost w fun W v'=>WI w.heap.size W v' l) := by
 obtain ⟨iT,hiT,z0,z1,z2⟩ := info_parts infoI
 obtain ⟨Post,hPost⟩ : ∃ P : Ending -> World -> Prop,P = CpPost w fun W v'=>WI w.heap.size W v' l := ⟨_,rfl⟩
 rw [<- hPost]
 have HP : Hid (Post = CpPost w fun W v'=>WI w.heap.size W v' l) := hPost
 obtain ⟨a1,k1,rfl,-,h1⟩ := il_at hv
 obtain ⟨n,hn0⟩ : ∃ n,n = l.length := ⟨_,rfl⟩
 have HN : Hid (n = l.length) := hn0
 rw [<- hn0] at hn h1 ⊢
 have H1 : Hid _ := h1
 obtain ⟨g,hg⟩ : ∃ g,g = w.heap.size := ⟨_,rfl⟩
 have HG : Hid (g = w.heap.size) := hg
 clear hPost hv h1 hn0
 go_enter Tryz.func30,Tryz.ntmps30
 go_wp2_with (at_make; refine wpList_make_full _ rfl _ _ 28 rfl w.heap.size 3 iT (.int .i64 0) 1 Tryz.underlying28 hiT z0 z1 .i64 .i64 _ _ (n + 64) rfl rfl rfl rfl (by rw [z2]; omega) (by unfold maxLen; omega) (Nat.le_refl _) ?_; intro w1 hin hg1)
 have HI : Hid (∃ cs : List Value,w1.heap[g]? = some (.cells cs.toArray 3 (0,0)) /\ cs.length = n + 64 /\ Up w w1) := ⟨_,by rw [hg]; exact row_made hin,by have := hin.1; omega,made_up hg1⟩
 rw [<- hg]
 clear hin hg1 hg
 go_wp2_with fail
 go_loopw [4] (fun s4 W=>∃ (i : Nat) (cs : List Value),i <= n + 64 /\ s4 = .int .i64 i /\ W.heap[g]? = some (.cells cs.toArray 3 (0,0)) /\ cs.length = n + 64 /\ (∀ q,q < i -> cs[q]? = some (wI l q)) /\ Up w W) (fun s4 _=>n + 64 - (intOf s4).toNat)
 case atStart=>obtain ⟨cs,x1,x2,x3⟩ := HI.out; exact ⟨0,cs,Nat.zero_le _,rfl,x1,x2,fun q hq=>by omega,x3⟩
 case round =>
  obtain ⟨i,cs,hi,rfl,hrow,hcl,hq,hu⟩ := hrel
  clear HI
  by_cases hlt : i < n + 64
  ·have hlt2 : (i : Int) < (n : Int) + 64 := by omega
   have p1 : wr.cell? ⟨g,i,none⟩ = some (cs[i]'(by omega)) := by simp [World.cell?,hrow]
   have pf : wr.frozen? ⟨g,i,none⟩ = false := by simp [World.frozen?,hrow]
   generalize cs[i]'(by omega) = q1 at p1
   have HR : Hid (∀ y,y = wI l i -> ∃ cs : List Value,(wr.setCell ⟨g,i,none⟩ y).heap[g]? = some (.cells cs.toArray 3 (0,0)) /\ cs.length = n + 64 /\ (∀ q,q < i + 1 -> cs[q]? = some (wI l q)) /\ Up w (wr.setCell ⟨g,i,none⟩ y)) := fun y hy=>by
    refine ⟨cs.set i y,?_,by simpa using hcl,fun q hq'=>?_,Up.set hu _ _ (by rw [HG.out]; exact Nat.le_refl _)⟩
    ·have := set_cells (j := i) (x := y) hrow
     simpa using this
    ·by_cases e : q = i
     ·subst e; rw [List.getElem?_set_self (by omega),hy]
     ·rw [List.getElem?_set_ne (by omega)]; exact hq q (by omega)
   have HUw : Hid (Up w wr) := hu
   clear hrow hcl hq hu
   by_cases hin : i < n
   ·have hin2 : (i : Int) < (n : Int) := by omega
    obtain ⟨b1,o1,rfl,c1⟩ := H1.out (by omega)
    have x1 := c1 _ HUw.out i hin
    have HR2 : Hid _ := HR.out (.int .i64 (l.getD i 0)) (by rw [wI,if_pos (by rw [<- HN.out]; exact hin)])
    clear c1 HR
    generalize l.getD i 0 = z at x1 HR2
    go_wp2
    go_roundw
    case rel=>obtain ⟨cs,x1,x2,x3,x4⟩ := HR2.out; exact ⟨i + 1,cs,by omega,by go_num,x1,x2,x3,x4⟩
    case measure=>simp [intOf]; omega
   ·have hin2 : ¬ (i : Int) < (n : Int) := by omega
    have HR2 : Hid _ := HR.out (.int .i64 (numI i)) (by rw [wI,if_neg (by rw [<- HN.out]; exact hin)])
    clear HR
    go_wp2_with fail
    refine Calls.mono (num_ i (by omega) _) ?_
    rintro e w2 ⟨rfl,rfl⟩
    generalize numI i = z at HR2 ⊢
    go_wp2
    go_roundw
    case rel=>obtain ⟨cs,x1,x2,x3,x4⟩ := HR2.out; exact ⟨i + 1,cs,by omega,by go_num,x1,x2,x3,x4⟩
    case measure=>simp [intOf]; omega
  ·have hlt2 : ¬ (i : Int) < (n : Int) + 64 := by omega
   have hn64 : (n : Int) <= (n : Int) + 64 := by omega
   have HF : Hid (wr.heap[g]? = some (.cells (wIs l).toArray 3 (0,0)) /\ Up w wr) := by
    have e : cs = wIs l := by
     apply List.ext_getElem?
     intro q
     have hnn := HN.out
     by_cases hq' : q < n + 64
     ·rw [hq q (by omega),wIs_get l q (by omega)]
     ·rw [List.getElem?_eq_none (by omega),List.getElem?_eq_none (by rw [wIs_len]; omega)]
    exact ⟨by rw [<- e]; exact hrow,hu⟩
   clear hrow hcl hq hu
   go_wp2
   rw [HP.out]
   refine ⟨_,rfl,⟨g,by rw [HG.out]; exact Nat.le_refl _,by rw [<- HN.out],HF.out.1⟩,HF.out.2⟩
def wP (l : List Ply) (i : Nat) : List Value := if i < l.length then pv (l.getD i dp) else [.int .i32 (wrap32 (numI i)),.int .i32 0,.bool false]
theorem wP_len (l : List Ply) (i : Nat) : (wP l i).length = 3 := by unfold wP; split <;> rfl
def wPs (l : List Ply) : List Value := (List.range (l.length + 64)).flatMap (wP l)
theorem wPs_get (l : List Ply) (i j : Nat) (hi : i < l.length + 64) (hj : j < 3) : (wPs l)[i * 3 + j]? = (wP l i)[j]? := by
 rw [wPs,flat_get (wP l) 3 (wP_len l) 0 _ i j (by simpa using hi) hj]
 congr 2
 simp [List.getD_eq_getElem?_getD,hi]
def WP (base : Nat) (W : World) (v : Value) (l : List Ply) : Prop := ∃ g,base <= g /\ v = .slice (some ⟨g,0,none⟩) l.length (l.length + 64) /\ W.heap[g]? = some (.cells (wPs l).toArray 97 (0,0))
theorem WP.up {base : Nat} {W W' : World} {v : Value} {l : List Ply} (h : WP base W v l) (u : Up W W') : WP base W' v l := by
 obtain ⟨g,h1,h2,h3⟩ := h
 exact ⟨g,h1,h2,u.heap h3⟩
theorem WP.il {base : Nat} {W : World} {v : Value} {l : List Ply} (h : WP base W v l) : PLs W v l := by
 obtain ⟨g,h1,rfl,h3⟩ := h
 refine ⟨by rw [pvs_len],some ⟨g,0,none⟩,l.length + 64,rfl,by omega,fun hn=>⟨g,0,rfl,fun j hj=>?_⟩⟩
 rw [Nat.zero_add]
 have : W.cell? ⟨g,j,none⟩ = (wPs l)[j]? := by simp [World.cell?,h3]
 have e : j / 3 * 3 + j % 3 = j := by rw [Nat.mul_comm]; exact Nat.div_add_mod j 3
 have h4 : j / 3 < l.length := by omega
 have h5 := wPs_get l (j / 3) (j % 3) (by omega) (by omega)
 have h6 := pvs_get l (j / 3) (j % 3) h4 (by omega)
 rw [e] at h5 h6
 rw [this,h5,h6,wP,if_pos h4]
def wC (l : List Crd) (i : Nat) : List Value := if i < l.length then cv (l.getD i dc) else [.int .i64 (numI i),.int .i64 0,.int .i32 0,.int .i32 0,.int .i32 0,.int .i32 0]
theorem wC_len (l : List Crd) (i : Nat) : (wC l i).length = 6 := by unfold wC; split <;> rfl
def wCs (l : List Crd) : List Value := (List.range (l.length + 64)).flatMap (wC l)
theorem wCs_get (l : List Crd) (i j : Nat) (hi : i < l.length + 64) (hj : j < 6) : (wCs l)[i * 6 + j]? = (wC l i)[j]? := by
 rw [wCs,flat_get (wC l) 6 (wC_len l) 0 _ i j (by simpa using hi) hj]
 congr 2
 simp [List.getD_eq_getElem?_getD,hi]
def WC (base : Nat) (W : World) (v : Value) (l : List Crd) : Prop := ∃ g,base <= g /\ v = .slice (some ⟨g,0,none⟩) l.length (l.length + 64) /\ W.heap[g]? = some (.cells (wCs l).toArray 95 (0,0))
theorem WC.up {base : Nat} {W W' : World} {v : Value} {l : List Crd} (h : WC base W v l) (u : Up W W') : WC base W' v l := by
 obtain ⟨g,h1,h2,h3⟩ := h
 exact ⟨g,h1,h2,u.heap h3⟩
theorem WC.il {base : Nat} {W : World} {v : Value} {l : List Crd} (h : WC base W v l) : CLs W v l := by
 obtain ⟨g,h1,rfl,h3⟩ := h
 refine ⟨by rw [cvs_len],some ⟨g,0,none⟩,l.length + 64,rfl,by omega,fun hn=>⟨g,0,rfl,fun j hj=>?_⟩⟩
 rw [Nat.zero_add]
 have : W.cell? ⟨g,j,none⟩ = (wCs l)[j]? := by simp [World.cell?,h3]
 have e : j / 6 * 6 + j % 6 = j := by rw [Nat.mul_comm]; exact Nat.div_add_mod j 6
 have h4 : j / 6 < l.length := by omega
 have h5 := wCs_get l (j / 6) (j % 6) (by omega) (by omega)
 have h6 := cvs_get l (j / 6) (j % 6) h4 (by omega)
 rw [e] at h5 h6
 rw [this,h5,h6,wC,if_pos h4]
def WRow (base : Nat) (W : World) (x : Value) (zs : List (List Int)) (i : Nat) : Prop := if i < zs.length then WI base W x (zs.getD i []) else ∃ g,base <= g /\ x = .slice (some ⟨g,0,none⟩) 1 1 /\ W.heap[g]? = some (.cells #[.int .i64 (numI i)] 3 (0,0))
theorem WRow.keep {base : Nat} {W W' : World} {x : Value} {zs : List (List Int)} {i : Nat} (h : WRow base W x zs i) (k : ∀ g cs,base <= g -> W.heap[g]? = some (.cells cs 3 (0,0)) -> W'.heap[g]? = some (.cells cs 3 (0,0))) : WRow base W' x zs i := by
 unfold WRow at h ⊢
 split
 ·rename_i hi
  rw [if_pos hi] at h
  obtain ⟨g,h1,h2,h3⟩ := h
  exact ⟨g,h1,h2,k g _ h1 h3⟩
 ·rename_i hi
  rw [if_neg hi] at h
  obtain ⟨g,h1,h2,h3⟩ := h
  exact ⟨g,h1,h2,k g _ h1 h3⟩
def WZ (base : Nat) (W : World) (v : Value) (zs : List (List Int)) : Prop := ∃ g vs,base <= g /\ v = .slice (some ⟨g,0,none⟩) zs.length (zs.length + 64) /\ W.heap[g]? = some (.cells (vs : List Value).toArray 28 (0,0)) /\ vs.length = zs.length + 64 /\ ∀ i,i < zs.length + 64 -> WRow base W (vs.getD i nl) zs i
theorem WZ.up {base : Nat} {W W' : World} {v : Value} {zs : List (List Int)} (h : WZ base W v zs) (u : Up W W') : WZ base W' v zs := by
 obtain ⟨g,vs,h1,h2,h3,h4,h5⟩ := h
 exact ⟨g,vs,h1,h2,u.heap h3,h4,fun i hi=>(h5 i hi).keep (fun g cs _ hg=>u.heap hg)⟩
theorem WZ.zl {base : Nat} {W : World} {v : Value} {zs : List (List Int)} (h : WZ base W v zs) : ZL W v zs := by
 obtain ⟨g,vs,h1,rfl,h3,h4,h5⟩ := h
 refine ⟨vs.take zs.length,⟨by rw [List.length_take]; omega,some ⟨g,0,none⟩,zs.length + 64,rfl,by omega,fun hn=>⟨g,0,rfl,fun j hj=>?_⟩⟩,fun i hi=>?_⟩
 ·rw [Nat.zero_add,List.getElem?_take,if_pos (by omega)]
  simp [World.cell?,h3]
 ·have h6 := h5 i (by omega)
  rw [WRow,if_pos hi] at h6
  have e : (vs.take zs.length).getD i nl = vs.getD i nl := by rw [List.getD_eq_getElem?_getD,List.getElem?_take,if_pos hi,<- List.getD_eq_getElem?_getD]
  rw [e]
  exact h6.il
def WS (base : Nat) (W : World) (v : Value) (s : Stt) : Prop := ∃ vp vc vz,v = sv vp vc vz s /\ WP base W vp s.ps /\ WC base W vc s.cs /\ WZ base W vz s.zs
theorem WS.sl {base : Nat} {W : World} {v : Value} {s : Stt} (h : WS base W v s) : StL W v s := by
 obtain ⟨vp,vc,vz,hv,h1,h2,h3⟩ := h
 exact ⟨vp,vc,vz,hv,h1.il,h2.il,h3.zl⟩
theorem WS.up {base : Nat} {W W' : World} {v : Value} {s : Stt} (h : WS base W v s) (u : Up W W') : WS base W' v s := by
 obtain ⟨vp,vc,vz,hv,h1,h2,h3⟩ := h
 exact ⟨vp,vc,vz,hv,h1.up u,h2.up u,h3.up u⟩
end ST
end Go.Proofs.YtodhjjeagmjhdaaGreatDoor
