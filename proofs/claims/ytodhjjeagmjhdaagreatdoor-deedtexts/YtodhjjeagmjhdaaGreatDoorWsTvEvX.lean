/- Ws, Wt, Ra, Cya, Ev -/
import Derived.Test.YtodhjjeagmjhdaaGreatDoorNfTvWrX
import Derived.Laws.StructEq
namespace Go.Proofs.YtodhjjeagmjhdaaGreatDoor
open Go.RowKit
attribute [local go_sem ↓] Go.wp_at_zero Go.wp_at_succ
namespace ST
theorem WI.less {b b' : Nat} {W : World} {v : Value} {l : List Int} (h : WI b W v l) (hb : b' <= b) : WI b' W v l := by
 obtain ⟨g,h1,h2⟩ := h
 exact ⟨g,by omega,h2⟩
def WRs (base : Nat) (w W : World) (g n : Nat) (zs : List (List Int)) (i : Nat) (cs : List Value) : Prop := W.heap[g]? = some (.cells cs.toArray 28 (0,0)) /\ cs.length = n + 64 /\ (∀ q,q < i -> WRow base W (cs.getD q nl) zs q) /\ Up w W
theorem WRs.put {base : Nat} {w W W1 : World} {g n : Nat} {zs : List (List Int)} {i : Nat} {cs : List Value} {x : Value} (h : WRs base w W g n zs i cs) (u : Up W W1) (hi : i < n + 64) (hx : WRow base W1 x zs i) (hg : w.heap.size <= g) : WRs base w (W1.setCell ⟨g,i,none⟩ x) g n zs (i + 1) (cs.set i x) := by
 obtain ⟨h1,h2,h3,h4⟩ := h
 have k1 := u.heap h1
 have kp : ∀ g' cs',base <= g' -> W1.heap[g']? = some (.cells cs' 3 (0,0)) -> (W1.setCell ⟨g,i,none⟩ x).heap[g']? = some (.cells cs' 3 (0,0)) := fun g' cs' _ h'=>set_other h' (heap_ne h' k1 (by decide))
 refine ⟨?_,by simpa using h2,fun q hq=>?_,Up.set (h4.trans u) _ _ hg⟩
 ·have := set_cells (j := i) (x := x) k1
  simpa using this
 ·by_cases e : q = i
  ·subst e
   rw [List.getD_eq_getElem?_getD,List.getElem?_set_self (by omega)]
   exact hx.keep kp
  ·rw [List.getD_eq_getElem?_getD,List.getElem?_set_ne (fun h=>e h.symm),<- List.getD_eq_getElem?_getD]
   exact ((h3 q (by omega)).keep (fun g' cs' _ h'=>u.heap h')).keep kp
end ST
end Go.Proofs.YtodhjjeagmjhdaaGreatDoor
namespace Go.Proofs.YtodhjjeagmjhdaaGreatDoor
open Go.RowKit
attribute [local go_sem ↓] Go.wp_at_zero Go.wp_at_succ
namespace ST
theorem WP.less {b b' : Nat} {W : World} {v : Value} {l : List Ply} (h : WP b W v l) (hb : b' <= b) : WP b' W v l := by
 obtain ⟨g,h1,h2⟩ := h
 exact ⟨g,by omega,h2⟩
theorem WP.val {b : Nat} {W : World} {v : Value} {l : List Ply} (h : WP b W v l) : ∃ a c,v = .slice a l.length c := by
 obtain ⟨g,h1,h2,-⟩ := h
 exact ⟨_,_,h2⟩
theorem WP.set {b k j : Nat} {W : World} {v u : Value} {l : List Ply} (h : WP b W v l) (hk : k < b) : WP b (W.setCell ⟨k,j,none⟩ u) v l := by
 obtain ⟨g,h1,h2,h3⟩ := h
 exact ⟨g,h1,h2,set_other h3 (by omega)⟩
theorem WC.less {b b' : Nat} {W : World} {v : Value} {l : List Crd} (h : WC b W v l) (hb : b' <= b) : WC b' W v l := by
 obtain ⟨g,h1,h2⟩ := h
 exact ⟨g,by omega,h2⟩
theorem WC.val {b : Nat} {W : World} {v : Value} {l : List Crd} (h : WC b W v l) : ∃ a c,v = .slice a l.length c := by
 obtain ⟨g,h1,h2,-⟩ := h
 exact ⟨_,_,h2⟩
theorem WC.set {b k j : Nat} {W : World} {v u : Value} {l : List Crd} (h : WC b W v l) (hk : k < b) : WC b (W.setCell ⟨k,j,none⟩ u) v l := by
 obtain ⟨g,h1,h2,h3⟩ := h
 exact ⟨g,h1,h2,set_other h3 (by omega)⟩
theorem WRow.less {b b' : Nat} {W : World} {x : Value} {zs : List (List Int)} {i : Nat} (h : WRow b W x zs i) (hb : b' <= b) : WRow b' W x zs i := by
 unfold WRow at h ⊢
 split
 ·rename_i hi
  rw [if_pos hi] at h
  exact h.less hb
 ·rename_i hi
  rw [if_neg hi] at h
  obtain ⟨g,h1,h2⟩ := h
  exact ⟨g,by omega,h2⟩
theorem WZ.less {b b' : Nat} {W : World} {v : Value} {l : List (List Int)} (h : WZ b W v l) (hb : b' <= b) : WZ b' W v l := by
 obtain ⟨g,vs,h1,h2,h3,h4,h5⟩ := h
 exact ⟨g,vs,by omega,h2,h3,h4,fun i hi=>(h5 i hi).less hb⟩
theorem WZ.val {b : Nat} {W : World} {v : Value} {l : List (List Int)} (h : WZ b W v l) : ∃ a c,v = .slice a l.length c := by
 obtain ⟨g,vs,h1,h2,-⟩ := h
 exact ⟨_,_,h2⟩
theorem WZ.set {b k j : Nat} {W : World} {v u : Value} {l : List (List Int)} (h : WZ b W v l) (hk : k < b) : WZ b (W.setCell ⟨k,j,none⟩ u) v l := by
 obtain ⟨g,vs,h1,h2,h3,h4,h5⟩ := h
 exact ⟨g,vs,h1,h2,set_other h3 (by omega),h4,fun i hi=>(h5 i hi).keep (fun g' cs' hb h'=>set_other h' (by omega))⟩
theorem WS.set {b k j : Nat} {W : World} {v u : Value} {s : Stt} (h : WS b W v s) (hk : k < b) : WS b (W.setCell ⟨k,j,none⟩ u) v s := by
 obtain ⟨vp,vc,vz,hv,h1,h2,h3⟩ := h
 exact ⟨vp,vc,vz,hv,h1.set hk,h2.set hk,h3.set hk⟩
theorem WS.less {b b' : Nat} {W : World} {v : Value} {s : Stt} (h : WS b W v s) (hb : b' <= b) : WS b' W v s := by
 obtain ⟨vp,vc,vz,hv,h1,h2,h3⟩ := h
 exact ⟨vp,vc,vz,hv,h1.less hb,h2.less hb,h3.less hb⟩
end ST
end Go.Proofs.YtodhjjeagmjhdaaGreatDoor
namespace Go.Proofs.YtodhjjeagmjhdaaGreatDoor
open Go.RowKit
namespace ST
def RA (n : Nat) (vs : List Value) : Prop := ∀ p q g,p < n -> q < n -> p ≠ q -> (vs.getD p nl).ownBlock = some g -> (vs.getD q nl).ownBlock ≠ some g
theorem RA.nil (vs : List Value) : RA 0 vs := fun p _ _ hp=>absurd hp (Nat.not_lt_zero p)
theorem RA.put {i : Nat} {vs : List Value} {x : Value} (h : RA i vs) (hi : i < vs.length) (hx : ∀ p g,p < i -> (vs.getD p nl).ownBlock = some g -> x.ownBlock ≠ some g) : RA (i + 1) (vs.set i x) := by
 have e1 : (vs.set i x).getD i nl = x := by rw [List.getD_eq_getElem?_getD,List.getElem?_set_self hi]; rfl
 have e2 : ∀ p,p ≠ i -> (vs.set i x).getD p nl = vs.getD p nl := fun p hp=>by rw [List.getD_eq_getElem?_getD,List.getElem?_set_ne (fun h=>hp h.symm),<- List.getD_eq_getElem?_getD]
 intro p q g hp hq hpq h1 h2
 by_cases ep : p = i
 ·subst ep
  rw [e1] at h1
  rw [e2 q (fun h=>hpq h.symm)] at h2
  exact hx q g (by omega) h2 h1
 ·rw [e2 p ep] at h1
  by_cases eq : q = i
  ·subst eq
   rw [e1] at h2
   exact hx p g (by omega) h1 h2
  ·rw [e2 q eq] at h2
   exact h p q g (by omega) (by omega) hpq h1 h2
def SOA (base : Nat) (W : World) (v : Value) (s : Stt) : Prop := ∃ vp vc vz,v = sv vp vc vz s /\ PO base W vp s.ps /\ CO base W vc s.cs /\ ∃ vs,W.ownsRow base 28 1 vz s.zs.length vs /\ (∀ i,i < s.zs.length -> IRow base W (vs.getD i nl) (s.zs.getD i [])) /\ RA s.zs.length vs
theorem SOA.so {base : Nat} {W : World} {v : Value} {s : Stt} (h : SOA base W v s) : SO base W v s := by
 obtain ⟨vp,vc,vz,hv,h1,h2,vs,h3,h4,-⟩ := h
 exact ⟨vp,vc,vz,hv,h1,h2,vs,h3,h4⟩
theorem SOA.up {base : Nat} {W W' : World} {v : Value} {s : Stt} (h : SOA base W v s) (u : Up W W') : SOA base W' v s := by
 obtain ⟨vp,vc,vz,hv,h1,h2,vs,h3,h4,h5⟩ := h
 exact ⟨vp,vc,vz,hv,row_up h1 u,row_up h2 u,vs,row_up h3 u,fun i hi=>row_up (h4 i hi) u,h5⟩
def WZA (base : Nat) (W : World) (v : Value) (zs : List (List Int)) : Prop := ∃ g vs,base <= g /\ v = .slice (some ⟨g,0,none⟩) zs.length (zs.length + 64) /\ W.heap[g]? = some (.cells (vs : List Value).toArray 28 (0,0)) /\ vs.length = zs.length + 64 /\ (∀ i,i < zs.length + 64 -> WRow base W (vs.getD i nl) zs i) /\ RA zs.length vs
theorem WZA.up {base : Nat} {W W' : World} {v : Value} {zs : List (List Int)} (h : WZA base W v zs) (u : Up W W') : WZA base W' v zs := by
 obtain ⟨g,vs,h1,h2,h3,h4,h5,h6⟩ := h
 exact ⟨g,vs,h1,h2,u.heap h3,h4,fun i hi=>(h5 i hi).keep (fun _ _ _ hg=>u.heap hg),h6⟩
theorem WZA.less {b b' : Nat} {W : World} {v : Value} {l : List (List Int)} (h : WZA b W v l) (hb : b' <= b) : WZA b' W v l := by
 obtain ⟨g,vs,h1,h2,h3,h4,h5,h6⟩ := h
 exact ⟨g,vs,Nat.le_trans hb h1,h2,h3,h4,fun i hi=>(h5 i hi).less hb,h6⟩
theorem WZA.set {b k j : Nat} {W : World} {v u : Value} {l : List (List Int)} (h : WZA b W v l) (hk : k < b) : WZA b (W.setCell ⟨k,j,none⟩ u) v l := by
 obtain ⟨g,vs,h1,h2,h3,h4,h5,h6⟩ := h
 exact ⟨g,vs,h1,h2,set_other h3 (by omega),h4,fun i hi=>(h5 i hi).keep (fun g' cs' hb h'=>set_other h' (by omega)),h6⟩
def WSA (base : Nat) (W : World) (v : Value) (s : Stt) : Prop := ∃ vp vc vz,v = sv vp vc vz s /\ WP base W vp s.ps /\ WC base W vc s.cs /\ WZA base W vz s.zs
theorem WSA.up {base : Nat} {W W' : World} {v : Value} {s : Stt} (h : WSA base W v s) (u : Up W W') : WSA base W' v s := by
 obtain ⟨vp,vc,vz,hv,h1,h2,h3⟩ := h
 exact ⟨vp,vc,vz,hv,h1.up u,h2.up u,h3.up u⟩
theorem WSA.set {b k j : Nat} {W : World} {v u : Value} {s : Stt} (h : WSA b W v s) (hk : k < b) : WSA b (W.setCell ⟨k,j,none⟩ u) v s := by
 obtain ⟨vp,vc,vz,hv,h1,h2,h3⟩ := h
 exact ⟨vp,vc,vz,hv,h1.set hk,h2.set hk,h3.set hk⟩
theorem WSA.less {b b' : Nat} {W : World} {v : Value} {s : Stt} (h : WSA b W v s) (hb : b' <= b) : WSA b' W v s := by
 obtain ⟨vp,vc,vz,hv,h1,h2,h3⟩ := h
 exact ⟨vp,vc,vz,hv,h1.less hb,h2.less hb,h3.less hb⟩
end ST
end Go.Proofs.YtodhjjeagmjhdaaGreatDoor
namespace Go.Proofs.YtodhjjeagmjhdaaGreatDoor
open Go.RowKit
attribute [local go_sem ↓] Go.wp_at_zero Go.wp_at_succ
namespace ST
def CYa (w W : World) (B : Nat) (box cbox : Array Value) (gz nz i : Nat) (vs : List Value) (x1 x2 : Value) (s : Stt) : Prop :=
 W.heap[B]? = some (.cells box 27 (0,0)) /\ W.heap[B + 1]? = some (.cells zbox 27 (0,0)) /\ W.heap[B + 1 + 1]? = some (.cells cbox 27 (0,0)) /\
 (W.heap[gz]? = some (.cells vs.toArray 28 (0,0)) /\ vs.length = nz /\ B + 3 <= gz) /\ (∀ j,j < i -> IRow (B + 3) W (vs.getD j nl) (s.zs.getD j [])) /\ PO (B + 3) W x1 s.ps /\ CO (B + 3) W x2 s.cs /\ Up w W /\ (B = w.heap.size /\ RA i vs)
theorem CYa.up {w W W' : World} {B : Nat} {box cbox : Array Value} {gz nz i : Nat} {vs : List Value} {x1 x2 : Value} {s : Stt} (h : CYa w W B box cbox gz nz i vs x1 x2 s) (u : Up W W') : CYa w W' B box cbox gz nz i vs x1 x2 s := by
 obtain ⟨h1,h2,h3,⟨h4,h5,h6⟩,h7,h8,h9,h10,h11⟩ := h
 exact ⟨u.heap h1,u.heap h2,u.heap h3,⟨u.heap h4,h5,h6⟩,fun j hj=>row_up (h7 j hj) u,row_up h8 u,row_up h9 u,h10.trans u,h11⟩
theorem CYa.put {w W : World} {B : Nat} {box cbox : Array Value} {gz nz i : Nat} {vs : List Value} {x1 x2 x : Value} {s : Stt} (h : CYa w W B box cbox gz nz i vs x1 x2 s) (hi : i < nz) (hx : IRow (B + 3) W x (s.zs.getD i [])) (hxa : ∀ p g,p < i -> (vs.getD p nl).ownBlock = some g -> x.ownBlock ≠ some g) : CYa w (W.setCell ⟨gz,i,none⟩ x) B box cbox gz nz (i + 1) (vs.set i x) x1 x2 s := by
 obtain ⟨h1,h2,h3,⟨h4,h5,h6⟩,h7,h8,h9,h10,h11⟩ := h
 refine ⟨set_other h1 (heap_ne h1 h4 (by decide)),set_other h2 (heap_ne h2 h4 (by decide)),set_other h3 (heap_ne h3 h4 (by decide)),⟨?_,by simpa using h5,h6⟩,fun j hj=>?_,row_set_ty h8 h4 (by decide),row_set_ty h9 h4 (by decide),Up.set h10 _ _ (by show w.heap.size <= gz; omega),⟨h11.1,h11.2.put (by omega) hxa⟩⟩
 ·have := set_cells (j := i) (x := x) h4
  simpa using this
 ·by_cases e : j = i
  ·subst e
   rw [List.getD_eq_getElem?_getD,List.getElem?_set_self (by omega)]
   exact row_set_ty hx h4 (by decide)
  ·rw [List.getD_eq_getElem?_getD,List.getElem?_set_ne (fun h=>e h.symm),<- List.getD_eq_getElem?_getD]
   exact row_set_ty (h7 j (by omega)) h4 (by decide)
set_option maxRecDepth 100000 in
set_option maxHeartbeats 8000000 in
theorem copyA_ (v : Value) (s : Stt) (w : World) (hs : StL w v s) (hsm : Small s) :
  Calls Tryz.prog 80 #[v] w (CpPost w fun W v'=>SOA w.heap.size W v' s) := by
 obtain ⟨iR,hiR,i0,i1,i2⟩ := info_parts infoR
 obtain ⟨Post,hPost⟩ : ∃ P : Ending -> World -> Prop,P = CpPost w fun W v'=>SOA w.heap.size W v' s := ⟨_,rfl⟩
 rw [<- hPost]
 have HP : Hid (Post = CpPost w fun W v'=>SOA w.heap.size W v' s) := hPost
 obtain ⟨vp,vc,vz,rfl,h1,h2,h3⟩ := hs
 obtain ⟨a1,k1,rfl,-,-⟩ := lc_at h1
 obtain ⟨a2,k2,rfl,-,-⟩ := lc_at h2
 obtain ⟨a3,k3,rfl,-,c3⟩ := zl_at h3
 have H3 : Hid _ := c3
 have HM : Hid (Small s) := hsm
 clear hPost h3 c3
 have HSV : Hid (∀ x y z,sv x y z s = .agg #[x,y,z,.int .i32 s.turn,.int .i64 s.whose,.int .i8 s.fin,.int .i64 s.winner]) := fun _ _ _=>rfl
 unfold sv
 generalize s.turn = tu at HSV ⊢
 generalize s.whose = wo at HSV ⊢
 generalize s.fin = fi at HSV ⊢
 generalize s.winner = wi at HSV ⊢
 obtain ⟨np,hnp⟩ : ∃ n,n = s.ps.length := ⟨_,rfl⟩
 obtain ⟨nc,hnc⟩ : ∃ n,n = s.cs.length := ⟨_,rfl⟩
 obtain ⟨nz,hnz⟩ : ∃ n,n = s.zs.length := ⟨_,rfl⟩
 have hz9 : nz <= 4294967296 := by rw [hnz]; exact hsm.2.2.1
 have H1 : Hid (∀ W,Up w W -> PLs W (.slice a1 np k1) s.ps) := fun W u=>by rw [hnp]; exact PLs.up h1 u
 have H2 : Hid (∀ W,Up w W -> CLs W (.slice a2 nc k2) s.cs) := fun W u=>by rw [hnc]; exact CLs.up h2 u
 rw [<- hnp,<- hnc,<- hnz]
 rw [<- hnz] at H3
 have HN : Hid (np = s.ps.length /\ nc = s.cs.length /\ nz = s.zs.length) := ⟨hnp,hnc,hnz⟩
 clear hnp hnc hnz hsm h1 h2
 go_enter Tryz.func80,Tryz.ntmps80
 go_wp2_with fail
 obtain ⟨W1,hW1⟩ : ∃ W,W = ((w.alloc (.cells #[.slice a1 np k1,.slice a2 nc k2,.slice a3 nz k3,.int .i32 tu,.int .i64 wo,.int .i8 fi,.int .i64 wi] 27)).alloc (.cells #[.slice none 0 0,.slice none 0 0,.slice none 0 0,.int .i32 0,.int .i64 0,.int .i8 0,.int .i64 0] 27)).alloc (.cells #[.slice a1 np k1,.slice a2 nc k2,.slice a3 nz k3,.int .i32 tu,.int .i64 wo,.int .i8 fi,.int .i64 wi] 27) := ⟨_,rfl⟩
 rw [<- hW1]
 obtain ⟨g1,g2,g3,gs,gu⟩ := blocks_3 w #[.slice a1 np k1,.slice a2 nc k2,.slice a3 nz k3,.int .i32 tu,.int .i64 wo,.int .i8 fi,.int .i64 wi] zbox #[.slice a1 np k1,.slice a2 nc k2,.slice a3 nz k3,.int .i32 tu,.int .i64 wo,.int .i8 fi,.int .i64 wi] 27
 rw [show (((w.alloc (.cells #[.slice a1 np k1,.slice a2 nc k2,.slice a3 nz k3,.int .i32 tu,.int .i64 wo,.int .i8 fi,.int .i64 wi] 27)).alloc (.cells zbox 27)).alloc (.cells #[.slice a1 np k1,.slice a2 nc k2,.slice a3 nz k3,.int .i32 tu,.int .i64 wo,.int .i8 fi,.int .i64 wi] 27)) = W1 from hW1.symm] at g1 g2 g3 gs gu
 obtain ⟨B,hB⟩ : ∃ b,b = w.heap.size := ⟨_,rfl⟩
 rw [<- hB] at g1 g2 g3 gs ⊢
 have HB : Hid (B = w.heap.size) := hB
 clear hW1 hB
 refine Calls.mono (copyLP_ _ s.ps W1 (H1.out _ gu) HM.out.1) ?_
 rintro e w1 ⟨x1,rfl,d1,u1⟩
 obtain ⟨xa1,xk1,hx1⟩ := row_val d1
 rw [<- HN.out.1] at hx1
 subst hx1
 have HG : Hid (w1.heap[B]? = some (.cells #[.slice a1 np k1,.slice a2 nc k2,.slice a3 nz k3,.int .i32 tu,.int .i64 wo,.int .i8 fi,.int .i64 wi] 27 (0,0)) /\ w1.heap[B + 1]? = some (.cells zbox 27 (0,0)) /\ w1.heap[B + 1 + 1]? = some (.cells #[.slice a1 np k1,.slice a2 nc k2,.slice a3 nz k3,.int .i32 tu,.int .i64 wo,.int .i8 fi,.int .i64 wi] 27 (0,0)) /\ B + 3 <= w1.heap.size /\ Up w w1 /\ PO (B + 3) w1 (.slice xa1 np xk1) s.ps) := ⟨u1.heap g1,u1.heap g2,u1.heap g3,by have := u1.size; omega,gu.trans u1,by rw [gs] at d1; exact d1⟩
 clear d1 u1 g1 g2 g3 gs gu
 obtain ⟨z0,z1,z2,z3,z4,z5,z6⟩ := seven_cells HG.out.2.2.1
 have zf := seven_f HG.out.2.2.1
 have HG2 : Hid ((w1.setCell ⟨B + 1 + 1,0,none⟩ (.slice xa1 np xk1)).heap[B]? = some (.cells #[.slice a1 np k1,.slice a2 nc k2,.slice a3 nz k3,.int .i32 tu,.int .i64 wo,.int .i8 fi,.int .i64 wi] 27 (0,0)) /\ (w1.setCell ⟨B + 1 + 1,0,none⟩ (.slice xa1 np xk1)).heap[B + 1]? = some (.cells zbox 27 (0,0)) /\ (w1.setCell ⟨B + 1 + 1,0,none⟩ (.slice xa1 np xk1)).heap[B + 1 + 1]? = some (.cells #[.slice xa1 np xk1,.slice a2 nc k2,.slice a3 nz k3,.int .i32 tu,.int .i64 wo,.int .i8 fi,.int .i64 wi] 27 (0,0)) /\ B + 3 <= (w1.setCell ⟨B + 1 + 1,0,none⟩ (.slice xa1 np xk1)).heap.size /\ Up w (w1.setCell ⟨B + 1 + 1,0,none⟩ (.slice xa1 np xk1)) /\ PO (B + 3) (w1.setCell ⟨B + 1 + 1,0,none⟩ (.slice xa1 np xk1)) (.slice xa1 np xk1) s.ps) :=
  ⟨set_other HG.out.1 (by omega),set_other HG.out.2.1 (by omega),set_cells HG.out.2.2.1,by simpa using HG.out.2.2.2.1,Up.set HG.out.2.2.2.2.1 _ _ (by show w.heap.size <= B + 1 + 1; rw [<- HB.out]; omega),row_set_ty HG.out.2.2.2.2.2 HG.out.2.2.1 (by decide)⟩
 obtain ⟨y0,y1,y2,y3,y4,y5,y6⟩ := seven_cells HG2.out.1
 clear HG
 go_wp2_with fail
 obtain ⟨W3,hW3⟩ : ∃ W,W = w1.setCell ⟨B + 1 + 1,0,none⟩ (.slice xa1 np xk1) := ⟨_,rfl⟩
 rw [<- hW3] at HG2 ⊢
 clear hW3 y0 y1 y2 y3 y4 y5 y6 z0 z1 z2 z3 z4 z5 z6 zf
 refine Calls.mono (copyLC_ _ s.cs W3 (H2.out _ HG2.out.2.2.2.2.1) HM.out.2.1) ?_
 rintro e w4 ⟨x2,rfl,d2,u2⟩
 obtain ⟨xa2,xk2,hx2⟩ := row_val d2
 rw [<- HN.out.2.1] at hx2
 subst hx2
 have HG : Hid (w4.heap[B]? = some (.cells #[.slice a1 np k1,.slice a2 nc k2,.slice a3 nz k3,.int .i32 tu,.int .i64 wo,.int .i8 fi,.int .i64 wi] 27 (0,0)) /\ w4.heap[B + 1]? = some (.cells zbox 27 (0,0)) /\ w4.heap[B + 1 + 1]? = some (.cells #[.slice xa1 np xk1,.slice a2 nc k2,.slice a3 nz k3,.int .i32 tu,.int .i64 wo,.int .i8 fi,.int .i64 wi] 27 (0,0)) /\ B + 3 <= w4.heap.size /\ Up w w4 /\ PO (B + 3) w4 (.slice xa1 np xk1) s.ps /\ CO (B + 3) w4 (.slice xa2 nc xk2) s.cs) := ⟨u2.heap HG2.out.1,u2.heap HG2.out.2.1,u2.heap HG2.out.2.2.1,by have := u2.size; have := HG2.out.2.2.2.1; omega,HG2.out.2.2.2.2.1.trans u2,row_up HG2.out.2.2.2.2.2 u2,own_less d2 HG2.out.2.2.2.1⟩
 clear d2 u2 HG2
 obtain ⟨z0,z1,z2,z3,z4,z5,z6⟩ := seven_cells HG.out.2.2.1
 have zf := seven_f HG.out.2.2.1
 have HG2 : Hid ((w4.setCell ⟨B + 1 + 1,1,none⟩ (.slice xa2 nc xk2)).heap[B]? = some (.cells #[.slice a1 np k1,.slice a2 nc k2,.slice a3 nz k3,.int .i32 tu,.int .i64 wo,.int .i8 fi,.int .i64 wi] 27 (0,0)) /\ (w4.setCell ⟨B + 1 + 1,1,none⟩ (.slice xa2 nc xk2)).heap[B + 1]? = some (.cells zbox 27 (0,0)) /\ (w4.setCell ⟨B + 1 + 1,1,none⟩ (.slice xa2 nc xk2)).heap[B + 1 + 1]? = some (.cells #[.slice xa1 np xk1,.slice xa2 nc xk2,.slice a3 nz k3,.int .i32 tu,.int .i64 wo,.int .i8 fi,.int .i64 wi] 27 (0,0)) /\ B + 3 <= (w4.setCell ⟨B + 1 + 1,1,none⟩ (.slice xa2 nc xk2)).heap.size /\ Up w (w4.setCell ⟨B + 1 + 1,1,none⟩ (.slice xa2 nc xk2)) /\ PO (B + 3) (w4.setCell ⟨B + 1 + 1,1,none⟩ (.slice xa2 nc xk2)) (.slice xa1 np xk1) s.ps /\ CO (B + 3) (w4.setCell ⟨B + 1 + 1,1,none⟩ (.slice xa2 nc xk2)) (.slice xa2 nc xk2) s.cs) :=
  ⟨set_other HG.out.1 (by omega),set_other HG.out.2.1 (by omega),set_cells HG.out.2.2.1,by simpa using HG.out.2.2.2.1,Up.set HG.out.2.2.2.2.1 _ _ (by show w.heap.size <= B + 1 + 1; rw [<- HB.out]; omega),row_set_ty HG.out.2.2.2.2.2.1 HG.out.2.2.1 (by decide),row_set_ty HG.out.2.2.2.2.2.2 HG.out.2.2.1 (by decide)⟩
 obtain ⟨y0,y1,y2,y3,y4,y5,y6⟩ := seven_cells HG2.out.1
 clear HG
 obtain ⟨gz,hgz⟩ : ∃ g,g = w4.heap.size := ⟨_,rfl⟩
 have HGZ : Hid ((w4.setCell ⟨B + 1 + 1,1,none⟩ (.slice xa2 nc xk2)).heap.size = gz) := by unfold Hid; rw [hgz]; simp
 have HGZ2 : Hid (gz = w4.heap.size) := hgz
 clear hgz
 have HMk : Hid (∀ w6,(w4.setCell ⟨B + 1 + 1,1,none⟩ (.slice xa2 nc xk2)).grownBy w6 none -> w6.heap[gz]? = some (.cells (madeCells (Value.slice none 0 0).cells (nz * 1)).toList.toArray 28 (0,0)) -> w6.heap[B + 1 + 1]? = some (.cells #[.slice xa1 np xk1,.slice xa2 nc xk2,.slice a3 nz k3,.int .i32 tu,.int .i64 wo,.int .i8 fi,.int .i64 wi] 27 (0,0)) /\ w6.heap[B]? = some (.cells #[.slice a1 np k1,.slice a2 nc k2,.slice a3 nz k3,.int .i32 tu,.int .i64 wo,.int .i8 fi,.int .i64 wi] 27 (0,0)) /\ ∃ vs,CYa w (w6.setCell ⟨B + 1 + 1,2,none⟩ (.slice (some ⟨gz,0,none⟩) nz nz)) B #[.slice a1 np k1,.slice a2 nc k2,.slice a3 nz k3,.int .i32 tu,.int .i64 wo,.int .i8 fi,.int .i64 wi] #[.slice xa1 np xk1,.slice xa2 nc xk2,.slice (some ⟨gz,0,none⟩) nz nz,.int .i32 tu,.int .i64 wo,.int .i8 fi,.int .i64 wi] gz nz 0 vs (.slice xa1 np xk1) (.slice xa2 nc xk2) s) := fun w6 hg h6=>by
  have u := made_up hg
  have h3 := u.heap HG2.out.2.2.1
  refine ⟨h3,u.heap HG2.out.1,(madeCells (Value.slice none 0 0).cells (nz * 1)).toList,set_other (u.heap HG2.out.1) (by omega),set_other (u.heap HG2.out.2.1) (by omega),set_cells h3,⟨set_other h6 (by have := HG2.out.2.2.2.1; have := HGZ.out; omega),by simp [size_madeCells],by rw [<- HGZ.out]; exact HG2.out.2.2.2.1⟩,fun j hj=>by omega,row_set_ty (row_up HG2.out.2.2.2.2.2.1 u) h3 (by decide),row_set_ty (row_up HG2.out.2.2.2.2.2.2 u) h3 (by decide),Up.set (HG2.out.2.2.2.2.1.trans u) _ _ (by show w.heap.size <= B + 1 + 1; rw [<- HB.out]; omega),⟨HB.out,RA.nil _⟩⟩
 go_wp2_with (at_make; (refine wpList_make_full _ rfl _ _ 24 rfl (w4.setCell ⟨B + 1 + 1,1,none⟩ (.slice xa2 nc xk2)).heap.size 28 iR _ 1 Tryz.underlying24 hiR i0 i1 .i64 .i64 _ _ nz rfl rfl rfl rfl (by rw [i2]; omega) (by unfold maxLen; omega) (Nat.le_refl _) ?_; intro w6 hin hg1; rw [HGZ.out] at hin ⊢; obtain ⟨hb6,hb7,vs,hcy⟩ := HMk.out w6 hg1 (row_made hin); have HCY : Hid _ := hcy; clear y0 y1 y2 y3 y4 y5 y6 z0 z1 z2 z3 z4 z5 z6 zf; obtain ⟨z0,z1,z2,z3,z4,z5,z6⟩ := seven_cells hb6; have zf := seven_f hb6; obtain ⟨y0,y1,y2,y3,y4,y5,y6⟩ := seven_cells hb7; clear hin hg1 hb6 hb7 hcy HMk HG2))
 have HCY2 : Hid (CYa w (w6.setCell ⟨B + 1 + 1,2,none⟩ (.slice (some ⟨gz,0,none⟩) nz nz)) B #[.slice a1 np k1,.slice a2 nc k2,.slice a3 nz k3,.int .i32 tu,.int .i64 wo,.int .i8 fi,.int .i64 wi] #[.slice xa1 np xk1,.slice xa2 nc xk2,.slice (some ⟨gz,0,none⟩) nz nz,.int .i32 tu,.int .i64 wo,.int .i8 fi,.int .i64 wi] gz nz 0 vs (.slice xa1 np xk1) (.slice xa2 nc xk2) s) := HCY.out
 clear HCY y0 y1 y2 y3 y4 y5 y6 z0 z1 z2 z3 z4 z5 z6 zf HGZ HGZ2 H1 H2
 go_loopw [4,5,23] (fun s4 s5 s23 W=>∃ (i : Nat) (vs : List Value),i <= nz /\ s23 = .int .i64 i /\ CYa w W B #[.slice a1 np k1,.slice a2 nc k2,.slice a3 nz k3,.int .i32 tu,.int .i64 wo,.int .i8 fi,.int .i64 wi] #[.slice xa1 np xk1,.slice xa2 nc xk2,.slice (some ⟨gz,0,none⟩) nz nz,.int .i32 tu,.int .i64 wo,.int .i8 fi,.int .i64 wi] gz nz i vs (.slice xa1 np xk1) (.slice xa2 nc xk2) s) (fun _ _ s23 _=>nz - (intOf s23).toNat)
 case atStart=>exact ⟨0,vs,Nat.zero_le _,rfl,HCY2.out⟩
 case round =>
  clear HCY2 vs
  obtain ⟨i,vs,hi,rfl,hk⟩ := hrel
  have HK : Hid (CYa w wr B #[.slice a1 np k1,.slice a2 nc k2,.slice a3 nz k3,.int .i32 tu,.int .i64 wo,.int .i8 fi,.int .i64 wi] #[.slice xa1 np xk1,.slice xa2 nc xk2,.slice (some ⟨gz,0,none⟩) nz nz,.int .i32 tu,.int .i64 wo,.int .i8 fi,.int .i64 wi] gz nz i vs (.slice xa1 np xk1) (.slice xa2 nc xk2) s) := hk
  clear hk
  by_cases hlt : i < nz
  ·have hlt2 : (i : Int) < (nz : Int) := by omega
   have HLb : Hid ((s.zs.getD i []).length <= 4294967296) := HM.out.2.2.2 i (by rw [<- HN.out.2.2]; exact hlt)
   obtain ⟨b3,o3,rfl,hrow⟩ := H3.out (by omega)
   obtain ⟨ra,rc,hcell,hil⟩ := hrow i hlt
   have q1 := hcell wr HK.out.2.2.2.2.2.2.2.1
   have HIL : Hid (∀ W,Up wr W -> IL W (.slice ra (s.zs.getD i []).length rc) (s.zs.getD i [])) := fun W u=>hil.up (HK.out.2.2.2.2.2.2.2.1.trans u)
   have HZc : Hid (∀ W vs,CYa w W B #[.slice a1 np k1,.slice a2 nc k2,.slice (some ⟨b3,o3,none⟩) nz k3,.int .i32 tu,.int .i64 wo,.int .i8 fi,.int .i64 wi] #[.slice xa1 np xk1,.slice xa2 nc xk2,.slice (some ⟨gz,0,none⟩) nz nz,.int .i32 tu,.int .i64 wo,.int .i8 fi,.int .i64 wi] gz nz i vs (.slice xa1 np xk1) (.slice xa2 nc xk2) s -> W.cell? ⟨B + 1 + 1,2,none⟩ = some (.slice (some ⟨gz,0,none⟩) nz nz) /\ (∃ z,W.cell? ⟨gz,i,none⟩ = some z) /\ W.frozen? ⟨gz,i,none⟩ = false /\ B + 3 <= W.heap.size) := fun W vs h=>by
    obtain ⟨-,-,h3,⟨h4,h5,h6⟩,-⟩ := h
    refine ⟨(seven_cells h3).2.2.1,⟨vs[i]'(by omega),by simp [World.cell?,h4]⟩,seven_f h4 i,?_⟩
    have := (Array.getElem?_eq_some_iff.1 h4).1
    omega
   obtain ⟨c1,⟨zc,c2⟩,c3,c4⟩ := HZc.out wr vs HK.out
   clear hcell hrow hil H3
   obtain ⟨r,hr⟩ : ∃ r,r = s.zs.getD i [] := ⟨_,rfl⟩
   have HR : Hid (r = s.zs.getD i []) := hr
   rw [<- hr] at q1 HIL HLb
   obtain ⟨q,hq⟩ : ∃ q,q = r.length := ⟨_,rfl⟩
   have HQ : Hid (q = r.length) := hq
   rw [<- hq] at q1 HIL HLb
   clear hr hq
   go_wp2_with fail
   refine (fun key : ∀ (xa : Option Addr) (xk : Nat) W3,(∃ vs',CYa w W3 B #[.slice a1 np k1,.slice a2 nc k2,.slice (some ⟨b3,o3,none⟩) nz k3,.int .i32 tu,.int .i64 wo,.int .i8 fi,.int .i64 wi] #[.slice xa1 np xk1,.slice xa2 nc xk2,.slice (some ⟨gz,0,none⟩) nz nz,.int .i32 tu,.int .i64 wo,.int .i8 fi,.int .i64 wi] gz nz (i + 1) vs' (.slice xa1 np xk1) (.slice xa2 nc xk2) s) -> (?G : Option Addr -> Nat -> World -> Prop) xa xk W3=>?main) ?kp
   case main =>
    go_region_with (go_at_call 116; go_loud (refine Calls.mono (copyLI_ _ r _ (HIL.out _ (by first | exact (Up.refl _).drew | exact Up.refl _)) (by rw [<- HQ.out]; exact HLb.out)) ?_; rintro e W2 ⟨x,rfl,hx,u2⟩; have u3 : Up wr W2 := Up.trans (by first | exact (Up.refl _).drew | exact Up.refl _) u2; have hcy2 := CYa.up HK.out u3; have hx2 : IRow (B + 3) W2 x (s.zs.getD i []) := (by rw [<- HR.out]; exact own_less hx (by first | exact c4 | (simpa using c4))); have hk3 : Hid _ := CYa.put hcy2 hlt hx2 (fun p g hp hg hg2=>by have h8 := (HK.out.2.2.2.2.1 p hp).lt g hg; have h9 := (World.ownsRow.lt hx g hg2).1; simp at h9; omega); obtain ⟨xa,xk,hxa⟩ := row_val hx; rw [<- HQ.out] at hxa; obtain ⟨c1,⟨zc2,c2⟩,c3,-⟩ := HZc.out W2 vs hcy2; clear hx hx2 hcy2 u2 u3; subst hxa))
    all_goals (have hk := hk3.out; clear hk3; revert hk; generalize W2.setCell _ _ = W3; intro hk; exact key xa xk W3 ⟨_,hk⟩)
   case kp =>
    intro xa xk W3 hcy
    obtain ⟨vs',hcy⟩ := hcy
    have HW3 : Hid (CYa w W3 B #[.slice a1 np k1,.slice a2 nc k2,.slice (some ⟨b3,o3,none⟩) nz k3,.int .i32 tu,.int .i64 wo,.int .i8 fi,.int .i64 wi] #[.slice xa1 np xk1,.slice xa2 nc xk2,.slice (some ⟨gz,0,none⟩) nz nz,.int .i32 tu,.int .i64 wo,.int .i8 fi,.int .i64 wi] gz nz (i + 1) vs' (.slice xa1 np xk1) (.slice xa2 nc xk2) s) := hcy
    clear hcy c1 c2 c3 c4 q1 HIL HZc HK
    go_wp2_with fail
    go_roundw
    case rel=>exact ⟨i + 1,vs',by omega,by go_num,HW3.out⟩
    case measure=>simp [intOf]; omega
  ·have hlt2 : ¬ (i : Int) < (nz : Int) := by omega
   have hb2 := HK.out.2.1
   have hb3 := HK.out.2.2.1
   rw [zbox] at hb2
   obtain ⟨y0,y1,y2,y3,y4,y5,y6⟩ := seven_cells hb3
   obtain ⟨z0,z1,z2,z3,z4,z5,z6⟩ := seven_cells hb2
   have zf := seven_f hb2
   have HB2 : Hid (wr.heap[B + 1]? = some (.cells #[.slice none 0 0,.slice none 0 0,.slice none 0 0,.int .i32 0,.int .i64 0,.int .i8 0,.int .i64 0] 27 (0,0))) := hb2
   clear hb2 hb3 H3
   go_wp2_with fail
   obtain ⟨p0,p1,p2,p3,p4,p5,p6⟩ := seven_cells (seven_set (x0 := .slice xa1 np xk1) (x1 := .slice xa2 nc xk2) (x2 := .slice (some ⟨gz,0,none⟩) nz nz) (x3 := .int .i32 tu) (x4 := .int .i64 wo) (x5 := .int .i8 fi) (x6 := .int .i64 wi) HB2.out)
   refine bodyPost_ret (v := .agg #[.slice xa1 np xk1,.slice xa2 nc xk2,.slice (some ⟨gz,0,none⟩) nz nz,.int .i32 tu,.int .i64 wo,.int .i8 fi,.int .i64 wi]) (by simp [results,Tryz.results80,go_sem,p0,p1,p2,p3,p4,p5,p6]) rfl ?_
   rw [HP.out]
   obtain ⟨h1,h2,h3,⟨h4,h5,h6⟩,h7,h8,h9,h10,h11⟩ := HK.out
   have hin : i = nz := by omega
   subst hin
   have kp : ∀ (e0 s0 n0 : Nat) (v0 : Value) (l0 : List Value) (W : World) (x : Value) (j : Nat) (c : Array Value),W.ownsRow (B + 3) e0 s0 v0 n0 l0 -> (W.setCell ⟨B + 1,j,none⟩ x).ownsRow (B + 3) e0 s0 v0 n0 l0 := fun e0 s0 n0 v0 l0 W x j _ h=>row_set h (by omega)
   have kp7 : ∀ (e0 s0 n0 : Nat) (v0 : Value) (l0 : List Value),wr.ownsRow (B + 3) e0 s0 v0 n0 l0 -> (((((((wr.setCell ⟨B + 1,0,none⟩ (.slice xa1 np xk1)).setCell ⟨B + 1,1,none⟩ (.slice xa2 nc xk2)).setCell ⟨B + 1,2,none⟩ (.slice (some ⟨gz,0,none⟩) i i)).setCell ⟨B + 1,3,none⟩ (.int .i32 tu)).setCell ⟨B + 1,4,none⟩ (.int .i64 wo)).setCell ⟨B + 1,5,none⟩ (.int .i8 fi)).setCell ⟨B + 1,6,none⟩ (.int .i64 wi)).ownsRow (B + 3) e0 s0 v0 n0 l0 := fun e0 s0 n0 v0 l0 h=>row_set (row_set (row_set (row_set (row_set (row_set (row_set h (by omega)) (by omega)) (by omega)) (by omega)) (by omega)) (by omega)) (by omega)
   refine ⟨_,rfl,⟨_,_,_,(HSV.out _ _ _).symm,own_less (kp7 _ _ _ _ _ h8) (by omega),own_less (kp7 _ _ _ _ _ h9) (by omega),vs,?_,fun j hj=>own_less (kp7 _ _ _ _ _ (h7 j (by rw [HN.out.2.2]; exact hj))) (by omega),by rw [<- HN.out.2.2]; exact h11.2⟩,?_⟩
   ·rw [<- HN.out.2.2]
    exact own_less (kp7 _ _ _ _ _ (own_made h4 (by rw [h5,Nat.mul_one]) h6 (by unfold maxLen; omega))) (by omega)
   ·have hb1 : w.heap.size <= B + 1 := by omega
    exact (((((((h10.set _ _ hb1).set _ _ hb1).set _ _ hb1).set _ _ hb1).set _ _ hb1).set _ _ hb1).set _ _ hb1)
end ST
end Go.Proofs.YtodhjjeagmjhdaaGreatDoor
namespace Go.Proofs.YtodhjjeagmjhdaaGreatDoor
open Go.RowKit
attribute [local go_sem ↓] Go.wp_at_zero Go.wp_at_succ
structure Ev where
 kind : Int
 field : Int
 card : Int
 player : Int
 other : Int
 fr : Int
 frAt : Int
 to_ : Int
 toAt : Int
 was : Int
 now : Int
 ord : List Int
namespace DE
open Go.Proofs.YtodhjjeagmjhdaaGreatDoor.ST
def evc (e : Ev) (vo : Value) : Array Value := #[.int .i8 e.kind,.int .i8 e.field,.int .i64 e.card,.int .i64 e.player,.int .i64 e.other,.int .i64 e.fr,.int .i64 e.frAt,.int .i64 e.to_,.int .i64 e.toAt,.int .i32 e.was,.int .i32 e.now,vo]
def evv (e : Ev) (vo : Value) : Value := .agg (evc e vo)
def EvL (W : World) (v : Value) (e : Ev) : Prop := ∃ vo,v = evv e vo /\ IL W vo e.ord
theorem EvL.up {W W' : World} {v : Value} {e : Ev} (h : EvL W v e) (u : Up W W') : EvL W' v e := by
 obtain ⟨vo,h1,h2⟩ := h
 exact ⟨vo,h1,LC.up h2 u⟩
theorem par {w w1 : World} {A : Array Value} {ta : TypeId} (u : Up (w.alloc (.cells A ta)) w1) (j : Nat) (x : Value) (h : A[j]? = some x) : w1.cell? ⟨w.heap.size,j,none⟩ = some x := by
 refine u.cell ?_
 unfold World.cell?
 rw [heap_alloc_new]
 exact h
theorem par0 {w w1 : World} {A B : Array Value} {ta tb : TypeId} (u : Up ((w.alloc (.cells A ta)).alloc (.cells B tb)) w1) (j : Nat) (x : Value) (h : A[j]? = some x) : w1.cell? ⟨w.heap.size,j,none⟩ = some x := by
 refine u.cell ?_
 unfold World.cell?
 rw [heap_alloc2_old]
 exact h
theorem par1 {w w1 : World} {A B : Array Value} {ta tb : TypeId} (u : Up ((w.alloc (.cells A ta)).alloc (.cells B tb)) w1) (j : Nat) (x : Value) (h : B[j]? = some x) : w1.cell? ⟨w.heap.size + 1,j,none⟩ = some x := by
 refine u.cell ?_
 unfold World.cell?
 rw [heap_alloc2_new]
 exact h
set_option maxHeartbeats 1000000 in
theorem isNumber_ (n : Int) (m : Nat) (w : World) : Calls Tryz.prog 182 #[.int .i64 n,.int .i64 m] w fun e w'=>e = .returned (.bool (numB n m)) /\ w' = w := by
 unfold numB
 by_cases h0 : 0 <= n
 ·have e0 : decide (0 <= n) = true := decide_eq_true h0
  go_enter Tryz.func182,Tryz.ntmps182
  go_wp2
  go_ret
  exact ⟨by simp [h0],rfl⟩
 ·have e0 : decide (0 <= n) = false := decide_eq_false h0
  go_enter Tryz.func182,Tryz.ntmps182
  go_wp2
  go_ret
  exact ⟨by simp,rfl⟩
set_option maxHeartbeats 1000000 in
theorem isKind_ (k : Int) (w : World) : Calls Tryz.prog 93 #[.int .i8 k] w fun e w'=>e = .returned (.bool (decide (1 <= k) && decide (k <= 7))) /\ w' = w := by
 by_cases h0 : 1 <= k
 ·have e0 : decide (1 <= k) = true := decide_eq_true h0
  go_enter Tryz.func93,Tryz.ntmps93
  go_wp2
  go_ret
  exact ⟨by simp [h0],rfl⟩
 ·have e0 : decide (1 <= k) = false := decide_eq_false h0
  go_enter Tryz.func93,Tryz.ntmps93
  go_wp2
  go_ret
  exact ⟨by simp,rfl⟩
set_option maxHeartbeats 1000000 in
theorem isStat_ (x : Int) (w : World) : Calls Tryz.prog 211 #[.int .i32 x] w fun e w'=>e = .returned (.bool (statB x)) /\ w' = w := by
 unfold statB
 by_cases h0 : -1000000000 <= x
 ·have e0 : decide (-1000000000 <= x) = true := decide_eq_true h0
  go_enter Tryz.func211,Tryz.ntmps211
  go_wp2
  go_ret
  exact ⟨by simp [h0],rfl⟩
 ·have e0 : decide (-1000000000 <= x) = false := decide_eq_false h0
  go_enter Tryz.func211,Tryz.ntmps211
  go_wp2
  go_ret
  exact ⟨by simp,rfl⟩
theorem sSide : Tryz.prog.underlying 216 = some (.struct (Tryz.prog.fieldsOf 216)) := by kernel_rfl
theorem hSide : Tryz.prog.stoodInHeld 216 = false := by kernel_rfl
theorem eqSide (a0 a1 a2 b0 b1 b2 : Int) (W : World) : (binOp .eql 216 (.agg #[.int .i64 a0,.int .i64 a1,.int .i32 a2]) (.agg #[.int .i64 b0,.int .i64 b1,.int .i32 b2])).run Tryz.prog W = .ok (.bool (decide (a0 = b0) && decide (a1 = b1) && decide (a2 = b2))) W := by
 have u3 := Tryz.underlying3
 have v3 := Tryz.isAgg3
 have z3 := Tryz.sizeOf3
 have u4 := Tryz.underlying21
 have v4 := Tryz.isAgg21
 have z4 := Tryz.sizeOf21
 rw [run_eql_struct,show (10000 : Nat) = 9999 + 1 from rfl,run_equalIn_agg W 9999 216 _ _ sSide hSide]
 simp only [Program.fieldsOf,Tryz.underlying216]
 go_simp
 by_cases h0 : a0 = b0 <;> by_cases h1 : a1 = b1 <;> by_cases h2 : a2 = b2 <;> simp [h0,h1,h2]
def noneB (e : Ev) : Bool := decide (e.fr = e.to_) && decide (e.frAt = e.toAt) && decide (e.was = e.now)
set_option maxRecDepth 100000 in
set_option maxHeartbeats 2000000 in
theorem changesNothing_ (e : Ev) (vo : Value) (w : World) : Calls Tryz.prog 184 #[evv e vo] w fun x w'=>x = .returned (.bool (noneB e)) /\ Up w w' := by
 have hq := eqSide e.fr e.frAt e.was e.to_ e.toAt e.now
 unfold evv evc noneB
 generalize hb : (decide (e.fr = e.to_) && decide (e.frAt = e.toAt) && decide (e.was = e.now)) = b at *
 clear hb
 go_enter Tryz.func184,Tryz.ntmps184
 go_wp2
 go_ret
 exact ⟨rfl,(((Up.refl _).alloc _).alloc _).alloc _⟩
set_option maxHeartbeats 1000000 in
theorem isPlayer_ (v : Value) (s : Stt) (n : Int) (w : World) (hs : StL w v s) : Calls Tryz.prog 109 #[v,.int .i64 n] w fun e w'=>e = .returned (.bool (numB n s.ps.length)) /\ Up w w' := by
 obtain ⟨vp,vc,vz,rfl,h1,-,-⟩ := hs
 obtain ⟨a1,k1,rfl,-,-⟩ := lc_at h1
 have HN : Hid _ := isNumber_ n s.ps.length
 clear h1
 unfold sv
 generalize s.ps.length = m at *
 go_enter Tryz.func109,Tryz.ntmps109
 go_wp2_with fail
 refine Calls.mono (HN.out _) ?_
 rintro e w1 ⟨rfl,rfl⟩
 go_wp2
 go_ret
 exact ⟨rfl,(Up.refl _).alloc _⟩
set_option maxHeartbeats 1000000 in
theorem isCard_ (v : Value) (s : Stt) (n : Int) (w : World) (hs : StL w v s) : Calls Tryz.prog 159 #[v,.int .i64 n] w fun e w'=>e = .returned (.bool (numB n s.cs.length)) /\ Up w w' := by
 obtain ⟨vp,vc,vz,rfl,-,h1,-⟩ := hs
 obtain ⟨a1,k1,rfl,-,-⟩ := lc_at h1
 have HN : Hid _ := isNumber_ n s.cs.length
 clear h1
 unfold sv
 generalize s.cs.length = m at *
 go_enter Tryz.func159,Tryz.ntmps159
 go_wp2_with fail
 refine Calls.mono (HN.out _) ?_
 rintro e w1 ⟨rfl,rfl⟩
 go_wp2
 go_ret
 exact ⟨rfl,(Up.refl _).alloc _⟩
set_option maxHeartbeats 1000000 in
theorem isZone_ (v : Value) (s : Stt) (n : Int) (w : World) (hs : StL w v s) : Calls Tryz.prog 160 #[v,.int .i64 n] w fun e w'=>e = .returned (.bool (numB n s.zs.length)) /\ Up w w' := by
 obtain ⟨vp,vc,vz,rfl,-,-,h1⟩ := hs
 obtain ⟨a1,k1,rfl,-,-⟩ := zl_at h1
 have HN : Hid _ := isNumber_ n s.zs.length
 clear h1
 unfold sv
 generalize s.zs.length = m at *
 go_enter Tryz.func160,Tryz.ntmps160
 go_wp2_with fail
 refine Calls.mono (HN.out _) ?_
 rintro e w1 ⟨rfl,rfl⟩
 go_wp2
 go_ret
 exact ⟨rfl,(Up.refl _).alloc _⟩
end DE
end Go.Proofs.YtodhjjeagmjhdaaGreatDoor
