/- Dc, Dd, Dz, Ds6, Dt6, Sh6 -/
import Derived.Test.YtodhjjeagmjhdaaGreatDoorFf6TvDbX
import Derived.Ground.Names2Prog
import Derived.Shelf.Slices.Delete
import Derived.Shelf.Spec.SlicesInsert
import Derived.Shelf.Spec.SlicesInsertGrow
import Derived.Lib.OwnBridge
namespace Go.Proofs.YtodhjjeagmjhdaaGreatDoor
open Go.RowKit
attribute [local go_sem ↓] Go.wp_at_zero Go.wp_at_succ
namespace DE
open Go.Proofs.YtodhjjeagmjhdaaGreatDoor.ST
def pSet (p : Ply) (f x : Int) : Ply := if f = 5 then { p with life := x } else { p with energy := x }
def cSet (c : Crd) (f x : Int) : Crd := if f = 1 then { c with power := x } else if f = 2 then { c with health := x } else if f = 3 then { c with damage := x } else { c with marks := x }
theorem p_set (f : Int) (p : Ply) (y x : Int) (h : pGet p f = some y) : ∃ k,pOff f = some k /\ k < 3 /\ (pv p).set k (.int .i32 x) = pv (pSet p f x) := by
 unfold pGet at h
 unfold pOff pSet
 by_cases h1 : f = 5
 ·rw [if_pos h1,if_pos h1]
  exact ⟨0,rfl,by decide,rfl⟩
 ·rw [if_neg h1] at h
  by_cases h2 : f = 6
  ·rw [if_neg h1,if_neg h1,if_pos h2]
   exact ⟨1,rfl,by decide,rfl⟩
  ·rw [if_neg h2] at h
   cases h
theorem c_set (f : Int) (p : Crd) (y x : Int) (h : cGet p f = some y) : ∃ k,cOff f = some k /\ k < 6 /\ (cv p).set k (.int .i32 x) = cv (cSet p f x) := by
 unfold cGet at h
 unfold cOff cSet
 by_cases h1 : f = 1
 ·rw [if_pos h1,if_pos h1]
  exact ⟨2,rfl,by decide,rfl⟩
 ·rw [if_neg h1] at h
  by_cases h2 : f = 2
  ·rw [if_neg h1,if_neg h1,if_pos h2,if_pos h2]
   exact ⟨3,rfl,by decide,rfl⟩
  ·rw [if_neg h2] at h
   by_cases h3 : f = 3
   ·rw [if_neg h1,if_neg h1,if_neg h2,if_neg h2,if_pos h3,if_pos h3]
    exact ⟨4,rfl,by decide,rfl⟩
   ·rw [if_neg h3] at h
    by_cases h4 : f = 4
    ·rw [if_neg h1,if_neg h1,if_neg h2,if_neg h2,if_neg h3,if_neg h3,if_pos h4]
     exact ⟨5,rfl,by decide,rfl⟩
    ·rw [if_neg h4] at h
     cases h
set_option maxRecDepth 100000 in
set_option maxHeartbeats 4000000 in
theorem doOut_ (B base b : Nat) (s : Stt) (e : Ev) (oa : Option Addr) (on oc : Nat) (w : World) (h : Own base w b s) (hB : B <= base) (hb : B <= b) (hn : numB e.player s.ps.length = true) : Calls Tryz.prog 143 #[.pointer (some ⟨b,0,none⟩),evv e (.slice oa on oc)] w fun x w'=>x = .returned (.tuple #[]) /\ Did B base b { s with ps := s.ps.set e.player.toNat { s.ps.getD e.player.toNat dp with out := true } } w w' := by
 have hlt := h.lt
 unfold evv evc
 obtain ⟨kind,field,card,player,other,fr,frAt,to_,toAt,was,now,ord⟩ := e
 dsimp only at *
 obtain ⟨i,rfl,hi⟩ := num_nat hn
 rw [Int.toNat_natCast]
 obtain ⟨g,cap,vc,vz,h1,h2,h3⟩ := own_player h hB hb i hi
 have HD : Hid _ := h3 2 (.bool true) { s.ps.getD i dp with out := true } (by decide) rfl
 have HC : Hid _ := h2
 obtain ⟨c0,c1,c2,c3,c4,c5,c6⟩ := seven_cells h1
 obtain ⟨⟨x0,x1,x2⟩,xf,hgb⟩ := h2 w (Up.refl _)
 have hgl : g < w.heap.size := World.block_lt_of_cell? w _ x2
 have hi2 : (i : Int) < (s.ps.length : Int) := by omega
 generalize s.ps.length = m at *
 clear h1 h2 h3 hn h
 go_enter Tryz.func143,Tryz.ntmps143
 go_wp2_with fail
 go_region
 go_wp2
 exact bodyPost_end (v := .tuple #[]) (by simp [results,go_sem]) rfl ⟨rfl,Did.up (HD.out w (Up.refl _)) (((Up.refl _).alloc _).drew) (Did.size (HD.out w (Up.refl _)) hb)⟩
set_option maxRecDepth 100000 in
set_option maxHeartbeats 4000000 in
theorem undoOut_ (B base b : Nat) (s : Stt) (e : Ev) (oa : Option Addr) (on oc : Nat) (w : World) (h : Own base w b s) (hB : B <= base) (hb : B <= b) (hn : numB e.player s.ps.length = true) : Calls Tryz.prog 144 #[.pointer (some ⟨b,0,none⟩),evv e (.slice oa on oc)] w fun x w'=>x = .returned (.tuple #[]) /\ Did B base b { s with ps := s.ps.set e.player.toNat { s.ps.getD e.player.toNat dp with out := false } } w w' := by
 have hlt := h.lt
 unfold evv evc
 obtain ⟨kind,field,card,player,other,fr,frAt,to_,toAt,was,now,ord⟩ := e
 dsimp only at *
 obtain ⟨i,rfl,hi⟩ := num_nat hn
 rw [Int.toNat_natCast]
 obtain ⟨g,cap,vc,vz,h1,h2,h3⟩ := own_player h hB hb i hi
 have HD : Hid _ := h3 2 (.bool false) { s.ps.getD i dp with out := false } (by decide) rfl
 have HC : Hid _ := h2
 obtain ⟨c0,c1,c2,c3,c4,c5,c6⟩ := seven_cells h1
 obtain ⟨⟨x0,x1,x2⟩,xf,hgb⟩ := h2 w (Up.refl _)
 have hgl : g < w.heap.size := World.block_lt_of_cell? w _ x2
 have hi2 : (i : Int) < (s.ps.length : Int) := by omega
 generalize s.ps.length = m at *
 clear h1 h2 h3 hn h
 go_enter Tryz.func144,Tryz.ntmps144
 go_wp2_with fail
 go_region
 go_wp2
 exact bodyPost_end (v := .tuple #[]) (by simp [results,go_sem]) rfl ⟨rfl,Did.up (HD.out w (Up.refl _)) (((Up.refl _).alloc _).drew) (Did.size (HD.out w (Up.refl _)) hb)⟩
set_option maxRecDepth 100000 in
set_option maxHeartbeats 4000000 in
theorem doPlayer_ (B base b : Nat) (s : Stt) (e : Ev) (oa : Option Addr) (on oc : Nat) (w : World) (h : Own base w b s) (hB : B <= base) (hb : B <= b) (hn : numB e.player s.ps.length = true) (y : Int) (hy : pGet (s.ps.getD e.player.toNat dp) e.field = some y) : Calls Tryz.prog 132 #[.pointer (some ⟨b,0,none⟩),evv e (.slice oa on oc)] w fun x w'=>x = .returned (.tuple #[]) /\ Did B base b { s with ps := s.ps.set e.player.toNat (pSet (s.ps.getD e.player.toNat dp) e.field e.now) } w w' := by
 have hlt := h.lt
 have HST : Hid _ := playerStat_
 unfold evv evc
 obtain ⟨kind,field,card,player,other,fr,frAt,to_,toAt,was,now,ord⟩ := e
 dsimp only at *
 obtain ⟨i,rfl,hi⟩ := num_nat hn
 rw [Int.toNat_natCast] at hy ⊢
 obtain ⟨g,cap,vc,vz,h1,h2,h3⟩ := own_player h hB hb i hi
 obtain ⟨kk,q1,q2,q3⟩ := p_set field _ y now hy
 have HD : Hid _ := h3 kk (.int .i32 now) _ q2 q3
 have HS1 : Hid _ := fun b o=>HST.out b o field
 simp only [q1,pAt,Option.map_some] at HS1
 obtain ⟨c0,c1,c2,c3,c4,c5,c6⟩ := seven_cells h1
 obtain ⟨xx,xf,hgb⟩ := h2 w (Up.refl _)
 have hx : w.cell? ⟨g,i * 3 + kk,none⟩ = some (.int .i32 y) := by
  rcases p_field field (s.ps.getD i dp) with ⟨z1,z2⟩ | ⟨k',x',z1,z2,z3⟩
  ·rw [z2] at hy; cases hy
  ·rw [z1] at q1
   rw [z2] at hy
   cases q1
   cases hy
   exact z3 w g (i * 3) ⟨xx.1,xx.2.1⟩
 have hgl : g < w.heap.size := World.block_lt_of_cell? w _ hx
 have hi2 : (i : Int) < (s.ps.length : Int) := by omega
 generalize s.ps.length = m at *
 clear h1 h2 h3 hn h xx HST q1 q2 q3 hy
 go_enter Tryz.func132,Tryz.ntmps132
 go_wp2_with fail
 refine TailR.wp_region_seq 13 (by kernel_rfl) (by kernel_rfl) ?_
 simp only [List.take_succ_cons,List.take_zero,List.drop_succ_cons,List.drop_zero]
 repeat (go_big_quiet_step (exact Calls.quiet_of_same (HS1.out _ _ _)))
 refine wpQuiet_nil ?_
 intro _ hw'
 obtain ⟨nq,hw''⟩ := hw'
 subst hw''
 go_wp2
 first
  | exact bodyPost_end (v := .tuple #[]) (by simp [results,go_sem]) rfl ⟨rfl,HD.out _ (((Up.refl _).alloc _).drewN nq)⟩
  | exact bodyPost_end (v := .tuple #[]) (by simp [results,go_sem]) rfl ⟨rfl,Did.up (HD.out w (Up.refl _)) (((Up.refl _).alloc _).drewN nq) (Did.size (HD.out w (Up.refl _)) hb)⟩
set_option maxRecDepth 100000 in
set_option maxHeartbeats 4000000 in
theorem doCard_ (B base b : Nat) (s : Stt) (e : Ev) (oa : Option Addr) (on oc : Nat) (w : World) (h : Own base w b s) (hB : B <= base) (hb : B <= b) (hn : numB e.card s.cs.length = true) (y : Int) (hy : cGet (s.cs.getD e.card.toNat dc) e.field = some y) : Calls Tryz.prog 126 #[.pointer (some ⟨b,0,none⟩),evv e (.slice oa on oc)] w fun x w'=>x = .returned (.tuple #[]) /\ Did B base b { s with cs := s.cs.set e.card.toNat (cSet (s.cs.getD e.card.toNat dc) e.field e.now) } w w' := by
 have hlt := h.lt
 have HST : Hid _ := cardStat_
 unfold evv evc
 obtain ⟨kind,field,card,player,other,fr,frAt,to_,toAt,was,now,ord⟩ := e
 dsimp only at *
 obtain ⟨i,rfl,hi⟩ := num_nat hn
 rw [Int.toNat_natCast] at hy ⊢
 obtain ⟨g,cap,vp,vz,h1,h2,h3⟩ := own_card h hB hb i hi
 obtain ⟨kk,q1,q2,q3⟩ := c_set field _ y now hy
 have HD : Hid _ := h3 kk (.int .i32 now) _ q2 q3
 have HS1 : Hid _ := fun b o=>HST.out b o field
 simp only [q1,pAt,Option.map_some] at HS1
 obtain ⟨c0,c1,c2,c3,c4,c5,c6⟩ := seven_cells h1
 obtain ⟨xx,xf,hgb⟩ := h2 w (Up.refl _)
 have hx : w.cell? ⟨g,i * 6 + kk,none⟩ = some (.int .i32 y) := by
  rcases c_field field (s.cs.getD i dc) with ⟨z1,z2⟩ | ⟨k',x',z1,z2,z3⟩
  ·rw [z2] at hy; cases hy
  ·rw [z1] at q1
   rw [z2] at hy
   cases q1
   cases hy
   exact z3 w g (i * 6) xx
 have hgl : g < w.heap.size := World.block_lt_of_cell? w _ hx
 have hi2 : (i : Int) < (s.cs.length : Int) := by omega
 generalize s.cs.length = m at *
 clear h1 h2 h3 hn h xx HST q1 q2 q3 hy
 go_enter Tryz.func126,Tryz.ntmps126
 go_wp2_with fail
 refine TailR.wp_region_seq 13 (by kernel_rfl) (by kernel_rfl) ?_
 simp only [List.take_succ_cons,List.take_zero,List.drop_succ_cons,List.drop_zero]
 repeat (go_big_quiet_step (exact Calls.quiet_of_same (HS1.out _ _ _)))
 refine wpQuiet_nil ?_
 intro _ hw'
 obtain ⟨nq,hw''⟩ := hw'
 subst hw''
 go_wp2
 first
  | exact bodyPost_end (v := .tuple #[]) (by simp [results,go_sem]) rfl ⟨rfl,HD.out _ (((Up.refl _).alloc _).drewN nq)⟩
  | exact bodyPost_end (v := .tuple #[]) (by simp [results,go_sem]) rfl ⟨rfl,Did.up (HD.out w (Up.refl _)) (((Up.refl _).alloc _).drewN nq) (Did.size (HD.out w (Up.refl _)) hb)⟩
end DE
end Go.Proofs.YtodhjjeagmjhdaaGreatDoor
namespace Go.Proofs.YtodhjjeagmjhdaaGreatDoor
open Go.RowKit
attribute [local go_sem ↓] Go.wp_at_zero Go.wp_at_succ
namespace DE
open Go.Proofs.YtodhjjeagmjhdaaGreatDoor.ST
theorem did_from {B base b : Nat} {s' : Stt} {w w1 W : World} (u : Up w w1) (hB : B <= w.heap.size) (h : Did B base b s' w1 W) : Did B base b s' w W := ⟨h.1,Below.trans (Below.mono u hB) h.2.1,(KT.up u).trans h.2.2⟩
set_option maxRecDepth 100000 in
set_option maxHeartbeats 4000000 in
theorem undoPlayer_ (B base b : Nat) (s : Stt) (e : Ev) (oa : Option Addr) (on oc : Nat) (w : World) (h : Own base w b s) (hB : B <= base) (hb : B <= b) (hn : numB e.player s.ps.length = true) (y : Int) (hy : pGet (s.ps.getD e.player.toNat dp) e.field = some y) : Calls Tryz.prog 133 #[.pointer (some ⟨b,0,none⟩),evv e (.slice oa on oc)] w fun x w'=>x = .returned (.tuple #[]) /\ Did B base b { s with ps := s.ps.set e.player.toNat (pSet (s.ps.getD e.player.toNat dp) e.field e.was) } w w' := by
 have hsz : B <= w.heap.size := Nat.le_trans hb (Nat.le_of_lt h.lt)
 have HT : Hid _ := turned_ e oa on oc
 have HD : Hid (∀ W,Up w W -> _) := fun W u=>doPlayer_ B base b s (turnedE e) oa on oc W (h.up u) hB hb hn y hy
 have HS : Hid (∀ W W',Up w W -> Did B base b { s with ps := s.ps.set e.player.toNat (pSet (s.ps.getD e.player.toNat dp) e.field e.was) } W W' -> Did B base b { s with ps := s.ps.set e.player.toNat (pSet (s.ps.getD e.player.toNat dp) e.field e.was) } w W') := fun W W' u hd=>did_from u hsz hd
 have e1 : (turnedE e).player = e.player := rfl
 have e2 : (turnedE e).field = e.field := rfl
 have e3 : (turnedE e).now = e.was := rfl
 rw [e1,e2,e3] at HD
 generalize ({ s with ps := s.ps.set e.player.toNat (pSet (s.ps.getD e.player.toNat dp) e.field e.was) } : Stt) = s' at *
 generalize evv (turnedE e) (.slice oa on oc) = te at *
 clear h hn hy e1 e2 e3
 unfold evv evc at *
 go_enter Tryz.func133,Tryz.ntmps133
 go_wp2_with fail
 refine Calls.mono (HT.out _) ?_
 rintro r W1 ⟨rfl,u1⟩
 have HU1 : Hid (Up w W1) := Up.trans ((Up.refl _).alloc _) u1
 clear u1
 go_wp2_with fail
 refine Calls.mono (HD.out _ HU1.out) ?_
 rintro r W2 ⟨rfl,d2⟩
 have HD2 : Hid _ := HS.out _ _ HU1.out d2
 clear d2
 go_wp2
 exact bodyPost_end (v := .tuple #[]) (by simp [results,go_sem]) rfl ⟨rfl,HD2.out⟩
set_option maxRecDepth 100000 in
set_option maxHeartbeats 4000000 in
theorem undoCard_ (B base b : Nat) (s : Stt) (e : Ev) (oa : Option Addr) (on oc : Nat) (w : World) (h : Own base w b s) (hB : B <= base) (hb : B <= b) (hn : numB e.card s.cs.length = true) (y : Int) (hy : cGet (s.cs.getD e.card.toNat dc) e.field = some y) : Calls Tryz.prog 127 #[.pointer (some ⟨b,0,none⟩),evv e (.slice oa on oc)] w fun x w'=>x = .returned (.tuple #[]) /\ Did B base b { s with cs := s.cs.set e.card.toNat (cSet (s.cs.getD e.card.toNat dc) e.field e.was) } w w' := by
 have hsz : B <= w.heap.size := Nat.le_trans hb (Nat.le_of_lt h.lt)
 have HT : Hid _ := turned_ e oa on oc
 have HD : Hid (∀ W,Up w W -> _) := fun W u=>doCard_ B base b s (turnedE e) oa on oc W (h.up u) hB hb hn y hy
 have HS : Hid (∀ W W',Up w W -> Did B base b { s with cs := s.cs.set e.card.toNat (cSet (s.cs.getD e.card.toNat dc) e.field e.was) } W W' -> Did B base b { s with cs := s.cs.set e.card.toNat (cSet (s.cs.getD e.card.toNat dc) e.field e.was) } w W') := fun W W' u hd=>did_from u hsz hd
 have e1 : (turnedE e).card = e.card := rfl
 have e2 : (turnedE e).field = e.field := rfl
 have e3 : (turnedE e).now = e.was := rfl
 rw [e1,e2,e3] at HD
 generalize ({ s with cs := s.cs.set e.card.toNat (cSet (s.cs.getD e.card.toNat dc) e.field e.was) } : Stt) = s' at *
 generalize evv (turnedE e) (.slice oa on oc) = te at *
 clear h hn hy e1 e2 e3
 unfold evv evc at *
 go_enter Tryz.func127,Tryz.ntmps127
 go_wp2_with fail
 refine Calls.mono (HT.out _) ?_
 rintro r W1 ⟨rfl,u1⟩
 have HU1 : Hid (Up w W1) := Up.trans ((Up.refl _).alloc _) u1
 clear u1
 go_wp2_with fail
 refine Calls.mono (HD.out _ HU1.out) ?_
 rintro r W2 ⟨rfl,d2⟩
 have HD2 : Hid _ := HS.out _ _ HU1.out d2
 clear d2
 go_wp2
 exact bodyPost_end (v := .tuple #[]) (by simp [results,go_sem]) rfl ⟨rfl,HD2.out⟩
end DE
end Go.Proofs.YtodhjjeagmjhdaaGreatDoor
namespace Go.Proofs.YtodhjjeagmjhdaaGreatDoor
open Go.RowKit
namespace DE
open Go.Proofs.YtodhjjeagmjhdaaGreatDoor.ST
theorem ra_set {n i : Nat} {vs : List Value} {x : Value} (h : RA n vs) (hi : i < vs.length) (hx : ∀ p g,p < n -> p ≠ i -> (vs.getD p nl).ownBlock = some g -> x.ownBlock ≠ some g) : RA n (vs.set i x) := by
 have e1 : (vs.set i x).getD i nl = x := by rw [List.getD_eq_getElem?_getD,List.getElem?_set_self hi]; rfl
 have e2 : ∀ p,p ≠ i -> (vs.set i x).getD p nl = vs.getD p nl := fun p hp=>by rw [List.getD_eq_getElem?_getD,List.getElem?_set_ne (fun h=>hp h.symm),<- List.getD_eq_getElem?_getD]
 intro p q g hp hq hpq h1 h2
 by_cases ep : p = i
 ·subst ep
  rw [e1] at h1
  rw [e2 q (fun h=>hpq h.symm)] at h2
  exact hx q g hq (fun h=>hpq h.symm) h2 h1
 ·rw [e2 p ep] at h1
  by_cases eq : q = i
  ·subst eq
   rw [e1] at h2
   exact hx p g hp ep h1 h2
  ·rw [e2 q eq] at h2
   exact h p q g hp hq hpq h1 h2
theorem own_zone {B base b : Nat} {s : Stt} {w : World} (h : Own base w b s) (hB : B <= base) (hb : B <= b) (i : Nat) (hi : i < s.zs.length) : ∃ gz cap vp vc,∃ vs : List Value,OwnC w b vp vc (.slice (some ⟨gz,0,none⟩) s.zs.length cap) s /\ IRow base w (vs.getD i nl) (s.zs.getD i []) /\
  (∀ w1,Up w w1 -> w1.cell? ⟨gz,i,none⟩ = some (vs.getD i nl) /\ (∀ j,w1.frozen? ⟨gz,j,none⟩ = false) /\ gz ≠ b) /\ (∀ p g,p < s.zs.length -> (vs.getD p nl).ownBlock = some g -> g < w.heap.size) /\
  ∀ w1 x l',Up w w1 -> IRow base w1 x l' -> (∀ g,x.ownBlock = some g -> ∀ p,p < s.zs.length -> p ≠ i -> (vs.getD p nl).ownBlock ≠ some g) -> Did B base b { s with zs := s.zs.set i l' } w (w1.setCell ⟨gz,i,none⟩ x) := by
 have hlt := h.lt
 obtain ⟨vp,vc,vz,h1,h2⟩ := h
 obtain ⟨vp',vc',vz',hv,p1,p2,vs,p3,p4,p5⟩ := h2
 unfold sv at hv
 simp only [Value.agg.injEq,Array.mk.injEq,List.cons.injEq,and_true] at hv
 obtain ⟨rfl,rfl,rfl⟩ := hv
 obtain ⟨g,cap,cur,rfl,hg,hgc⟩ := own_list p3 (by omega)
 have hvl : vs.length = s.zs.length := by have := p3.1; omega
 have hgb : g ≠ b := fun e=>by
  subst e
  unfold OwnC at h1
  rw [h1] at hgc
  simp at hgc
 refine ⟨g,cap,vp,vc,vs,h1,p4 i hi,fun w1 u=>⟨?_,fun j=>by simp [World.frozen?,u.heap hgc],hgb⟩,fun p q hp e=>((p4 p hp).lt q e).2,fun w1 x l' u hx hne=>⟨⟨vp,vc,_,heap_set_ty (u.heap hgc) (u.heap h1) (by decide),?_⟩,?_,(KT.up u).trans (kt_set (u.heap hgc) (.inr (.inr (.inl rfl))))⟩⟩
 ·have r := row_up p3 u
  rw [r.cellAt _ (by omega),List.getD_eq_getElem?_getD,List.getElem?_eq_getElem (by omega)]
  rfl
 ·have r := own_setS (z := i) (x := x) (row_up p3 u)
  refine ⟨vp,vc,_,rfl,row_set_ty (row_up p1 u) (u.heap hgc) (by decide),row_set_ty (row_up p2 u) (u.heap hgc) (by decide),vs.set i x,?_,fun q hq=>?_,?_⟩
  ·rw [List.length_set]
   exact r
  ·rw [List.length_set] at hq
   by_cases e : q = i
   ·subst e
    have e1 : (vs.set q x).getD q nl = x := by rw [List.getD_eq_getElem?_getD,List.getElem?_set_self (by omega)]; rfl
    have e2 : (s.zs.set q l').getD q [] = l' := by rw [List.getD_eq_getElem?_getD,List.getElem?_set_self hq]; rfl
    rw [e1,e2]
    exact row_set_ty hx (u.heap hgc) (by decide)
   ·have e1 : (vs.set i x).getD q nl = vs.getD q nl := by rw [List.getD_eq_getElem?_getD,List.getElem?_set_ne (fun h=>e h.symm),<- List.getD_eq_getElem?_getD]
    have e2 : (s.zs.set i l').getD q [] = s.zs.getD q [] := by rw [List.getD_eq_getElem?_getD,List.getElem?_set_ne (fun h=>e h.symm),<- List.getD_eq_getElem?_getD]
    rw [e1,e2]
    exact row_set_ty (row_up (p4 q hq) u) (u.heap hgc) (by decide)
  ·rw [List.length_set]
   exact ra_set p5 (by omega) (fun p q hp hpi e1 e2=>hne q e2 p hp hpi e1)
 ·exact Below.setCell (Below.mono u (by omega)) (by show B <= g; omega) _
end DE
end Go.Proofs.YtodhjjeagmjhdaaGreatDoor
namespace Go.Proofs.YtodhjjeagmjhdaaGreatDoor
open Go.RowKit
attribute [local go_sem ↓] Go.wp_at_zero Go.wp_at_succ
namespace DE
open Go.Proofs.YtodhjjeagmjhdaaGreatDoor.ST
def shufL (zl ord : List Int) : List Int := ord.map fun n=>zl.getD n.toNat 0
theorem ord_at {m : Nat} {l : List Int} (h : ordB m l = true) : l.length = m /\ ∀ i,i < l.length -> okAt m l i = true := by
 unfold ordB at h
 simp only [Bool.and_eq_true,decide_eq_true_eq,List.all_eq_true,List.mem_range] at h
 exact h
theorem ord_num {m : Nat} {l : List Int} (h : ordB m l = true) (i : Nat) (hi : i < l.length) : numB (l.getD i 0) m = true := by
 have := (ord_at h).2 i hi
 rw [ok_next hi rfl] at this
 simp only [Bool.and_eq_true] at this
 exact this.1
set_option maxRecDepth 100000 in
set_option maxHeartbeats 4000000 in
theorem doShuffle_ (B base b : Nat) (s : Stt) (e : Ev) (oa : Option Addr) (oc : Nat) (w : World) (h : Own base w b s) (hB : B <= base) (hbs : base <= w.heap.size) (hb : B <= b) (hn : numB e.fr s.zs.length = true) (ho : IL w (.slice oa e.ord.length oc) e.ord) (hord : ordB (zn s e.fr).length e.ord = true) (hq : (zn s e.fr).length <= 256) : Calls Tryz.prog 137 #[.pointer (some ⟨b,0,none⟩),evv e (.slice oa e.ord.length oc)] w fun x w'=>x = .returned (.tuple #[]) /\ Did B base b { s with zs := s.zs.set e.fr.toNat (shufL (zn s e.fr) e.ord) } w w' := by
 obtain ⟨iT,hiT,z0,z1,z2⟩ := info_parts infoI
 have hlt := h.lt
 have hol := (ord_at hord).1
 have hon := ord_num hord
 unfold evv evc
 obtain ⟨kind,field,card,player,other,fr,frAt,to_,toAt,was,now,ord⟩ := e
 dsimp only at *
 obtain ⟨i,rfl,hi⟩ := num_nat hn
 have hzn : zn s (i : Int) = s.zs.getD i [] := by unfold zn; rw [Int.toNat_natCast]
 rw [hzn] at hord hq hol hon ⊢
 rw [Int.toNat_natCast]
 clear hzn
 obtain ⟨gz,cap,vp,vc,vs,h1,h2,h3,h4,h5⟩ := own_zone h hB hb i hi
 generalize s.zs.getD i [] = zl at *
 obtain ⟨ra,rc,hrv,-,hrc⟩ := il_at (IRow.il h2)
 obtain ⟨oa',oc',hov,-,hoc⟩ := il_at ho
 simp only [Value.slice.injEq,true_and] at hov
 obtain ⟨rfl,rfl⟩ := hov
 rw [hrv] at h3
 obtain ⟨c0,c1,c2,c3,c4,c5,c6⟩ := seven_cells h1
 have HZ : Hid _ := h3
 have HL : Hid (∀ p g,p < s.zs.length -> (vs.getD p nl).ownBlock = some g -> g < w.heap.size) := h4
 have HD : Hid _ := h5
 have HRC : Hid _ := hrc
 have HOC : Hid _ := hoc
 have HON : Hid _ := hon
 obtain ⟨q,hq0⟩ : ∃ q,q = zl.length := ⟨_,rfl⟩
 have HQ : Hid (q = zl.length /\ q = ord.length) := ⟨hq0,by rw [hq0,hol]⟩
 rw [hol,<- hq0]
 rw [<- hq0] at hq
 have hi2 : (i : Int) < (s.zs.length : Int) := by omega
 have HS : Hid (∀ (W : World),Up w W -> _) := fun W u=>And.intro (u.cell c2) (h3 W u)
 obtain ⟨gN,hgN⟩ : ∃ g,g = w.heap.size + 1 := ⟨_,rfl⟩
 have HG : Hid (gN = w.heap.size + 1) := hgN
 clear h1 h2 h3 h4 h5 hrc hoc hon hrv h hord ho hn hol hq0
 go_enter Tryz.func137,Tryz.ntmps137
 go_wp2_with (at_make; refine wpList_make_full _ rfl _ _ 28 rfl (w.heap.size + 1) 3 iT (.int .i64 0) 1 Tryz.underlying28 hiT z0 z1 .i64 .i64 _ _ q rfl rfl rfl rfl (by rw [z2]; omega) (by unfold maxLen; omega) (by simp) ?_; intro w1 hin hg1; have uu := made_up hg1; have y11 := par uu 11 _ rfl; have y5 := par uu 5 _ rfl; have HM : Hid _ := And.intro uu hin; clear hin hg1 uu)
 obtain ⟨uu,hin⟩ := HM.out
 have hsz : (w.alloc (.cells #[.int .i8 kind,.int .i8 field,.int .i64 card,.int .i64 player,.int .i64 other,.int .i64 (i : Int),.int .i64 frAt,.int .i64 to_,.int .i64 toAt,.int .i32 was,.int .i32 now,.slice oa q oc] 30)).heap.size = w.heap.size + 1 := by simp
 rw [hsz] at hin
 have HI : Hid (∃ cs : List Value,w1.heap[gN]? = some (.cells cs.toArray 3 (0,0)) /\ cs.length = q) := ⟨_,by rw [hgN]; exact row_made hin,by have := hin.1; omega⟩
 have HUU : Hid _ := uu
 rw [<- hgN]
 clear hin uu hsz HM hgN
 go_wp2_with fail
 obtain ⟨WE,hWE⟩ : ∃ WE,WE = w.alloc (.cells #[.int .i8 kind,.int .i8 field,.int .i64 card,.int .i64 player,.int .i64 other,.int .i64 (i : Int),.int .i64 frAt,.int .i64 to_,.int .i64 toAt,.int .i32 was,.int .i32 now,.slice oa q oc] 30) := ⟨_,rfl⟩
 rw [<- hWE] at HUU
 have HWE : Hid (Up w WE /\ WE.heap.size = w.heap.size + 1) := ⟨by rw [hWE]; exact (Up.refl _).alloc _,by rw [hWE]; simp⟩
 have HPE : Hid (∀ W,Up WE W -> W.cell? ⟨w.heap.size,5,none⟩ = some (.int .i64 (i : Int))) := fun W u=>by
  rw [hWE] at u
  exact par u 5 _ rfl
 clear hWE
 go_loopw [14] (fun s14 W=>∃ (k : Nat) (cs : List Value),k <= q /\ s14 = .int .i64 k /\ W.heap[gN]? = some (.cells cs.toArray 3 (0,0)) /\ cs.length = q /\ (∀ p,p < k -> cs[p]? = some (.int .i64 ((shufL zl ord).getD p 0))) /\ Up WE W) (fun s14 _=>q - (intOf s14).toNat)
 case atStart =>
  obtain ⟨cs,a1,a2⟩ := HI.out
  exact ⟨0,cs,Nat.zero_le _,rfl,a1,a2,fun p hp=>absurd hp (Nat.not_lt_zero p),HUU.out⟩
 case round =>
  clear HI HUU y11 y5
  obtain ⟨k,cs,hk,rfl,hrow,hcl,hcs,hu⟩ := hrel
  have huw : Up w wr := Up.trans HWE.out.1 hu
  have HUw : Hid (Up w wr) := huw
  have y5 := HPE.out wr hu
  obtain ⟨b2,b3,b4,b5⟩ := HS.out wr huw
  by_cases hlt : k < q
  ·have hlt2 : (k : Int) < (q : Int) := by omega
   have hko : k < ord.length := by rw [<- HQ.out.2]; exact hlt
   obtain ⟨ob,oo,rfl,hoc⟩ := HOC.out (by omega)
   have x0 := hoc wr huw k hko
   obtain ⟨nn,hnn,hnq⟩ := num_nat (HON.out k hko)
   rw [hnn] at x0
   obtain ⟨rb,ro,rfl,hrc⟩ := HRC.out (by omega)
   have x1 := hrc wr huw nn hnq
   have hnq2 : (nn : Int) < (zl.length : Int) := by omega
   have p1 : wr.cell? ⟨gN,k,none⟩ = some (cs[k]'(by omega)) := by simp [World.cell?,hrow]
   have pf : wr.frozen? ⟨gN,k,none⟩ = false := by simp [World.frozen?,hrow]
   generalize cs[k]'(by omega) = q1 at p1
   have hval : (shufL zl ord).getD k 0 = zl.getD nn 0 := by
    unfold shufL
    rw [List.getD_eq_getElem?_getD,List.getElem?_map,List.getElem?_eq_getElem hko]
    rw [List.getD_eq_getElem?_getD,List.getElem?_eq_getElem hko] at hnn
    have : ord[k] = (nn : Int) := hnn
    rw [this]
    simp
   have HR : Hid (∀ nq,∃ cs : List Value,((wr.drewN nq).setCell ⟨gN,k,none⟩ (.int .i64 (zl.getD nn 0))).heap[gN]? = some (.cells cs.toArray 3 (0,0)) /\ cs.length = q /\ (∀ p,p < k + 1 -> cs[p]? = some (.int .i64 ((shufL zl ord).getD p 0))) /\ Up WE ((wr.drewN nq).setCell ⟨gN,k,none⟩ (.int .i64 (zl.getD nn 0)))) := fun nq=>by
    refine ⟨cs.set k (.int .i64 (zl.getD nn 0)),?_,by simpa using hcl,fun p hp=>?_,Up.set (hu.drewN nq) _ _ (by show WE.heap.size <= gN; rw [HWE.out.2,HG.out]; exact Nat.le_refl _)⟩
    ·have := set_cells (W := wr.drewN nq) (j := k) (x := .int .i64 (zl.getD nn 0)) (show (wr.drewN nq).heap[gN]? = _ from hrow)
     simpa using this
    ·by_cases e : p = k
     ·subst e
      rw [List.getElem?_set_self (by omega),hval]
     ·rw [List.getElem?_set_ne (by omega)]
      exact hcs p (by omega)
   generalize zl.getD nn 0 = y at *
   generalize zl.length = zq at *
   clear hrow hcl hcs hu huw hoc hrc hval
   go_wp2_with fail
   refine TailR.wp_region_seq 14 (by kernel_rfl) (by kernel_rfl) ?_
   simp only [List.take_succ_cons,List.take_zero,List.drop_succ_cons,List.drop_zero]
   repeat (go_big_quiet_step (fail))
   refine wpQuiet_nil ?_
   intro _ hw'
   obtain ⟨nq,hw''⟩ := hw'
   subst hw''
   go_wp2_with fail
   go_roundw
   case rel =>
    obtain ⟨cs',r1,r2,r3,r4⟩ := HR.out nq
    exact ⟨k + 1,cs',by omega,by go_num,r1,r2,r3,r4⟩
   case measure=>simp [intOf] <;> omega
  ·have hlt2 : ¬ (k : Int) < (q : Int) := by omega
   have hkq : k = q := by omega
   subst hkq
   have hlen : (shufL zl ord).length = k := by unfold shufL; rw [List.length_map]; exact HQ.out.2.symm
   have hrowN : IRow base wr (.slice (some ⟨gN,0,none⟩) k k) (shufL zl ord) := by
    have hce : cs = ivs (shufL zl ord) := by
     apply List.ext_getElem?
     intro p
     by_cases hp : p < k
     ·rw [hcs p hp,ivs_get _ p (by omega)]
     ·rw [List.getElem?_eq_none (by omega),List.getElem?_eq_none (by rw [ivs_len]; omega)]
    rw [hce] at hrow
    unfold IRow
    rw [hlen]
    exact own_made hrow (by rw [ivs_len,hlen]; omega) (by rw [HG.out]; omega) (by unfold maxLen; omega)
   have HFIN : Hid (∀ nq,Did B base b { s with zs := s.zs.set i (shufL zl ord) } w ((wr.drewN nq).setCell ⟨gz,i,none⟩ (.slice (some ⟨gN,0,none⟩) k k))) := fun nq=>HD.out (wr.drewN nq) _ _ (huw.drewN nq) (row_up hrowN ((Up.refl _).drewN nq)) (fun g hg p hp _ e=>by
    have e1 : gN = g := by simpa [Value.ownBlock] using hg
    have := HL.out p g hp e
    rw [<- e1,HG.out] at this
    omega)
   clear hrow hcl hcs hu huw hrowN
   go_wp2_with fail
   refine TailR.wp_region_seq 8 (by kernel_rfl) (by kernel_rfl) ?_
   simp only [List.take_succ_cons,List.take_zero,List.drop_succ_cons,List.drop_zero]
   repeat (go_big_quiet_step (fail))
   refine wpQuiet_nil ?_
   intro _ hw'
   obtain ⟨nq,hw''⟩ := hw'
   subst hw''
   go_wp2
   exact bodyPost_end (v := .tuple #[]) (by simp [results,go_sem]) rfl ⟨rfl,HFIN.out nq⟩
end DE
end Go.Proofs.YtodhjjeagmjhdaaGreatDoor
namespace Go.Proofs.YtodhjjeagmjhdaaGreatDoor
open Go.RowKit
attribute [local go_sem ↓] Go.wp_at_zero Go.wp_at_succ
namespace DE
open Go.Proofs.YtodhjjeagmjhdaaGreatDoor.ST
def unshL (zl ord : List Int) : List Int := (List.range zl.length).map fun p : Nat=>zl.getD (ord.idxOf (p : Int)) 0
theorem ord_ent {m : Nat} {l : List Int} (h : ordB m l = true) : Ent m l := by
 have := good_ent m l l.length (Nat.le_refl _) (ord_at h).2
 rwa [List.take_length] at this
theorem ord_ne {m : Nat} {l : List Int} (h : ordB m l = true) (p k : Nat) (hp : p < k) (hk : k < l.length) : l.getD p 0 ≠ l.getD k 0 := by
 have hn := (ord_ent h).1
 rw [List.getD_eq_getElem?_getD,List.getD_eq_getElem?_getD,List.getElem?_eq_getElem (by omega),List.getElem?_eq_getElem hk]
 intro e
 exact List.pairwise_iff_getElem.1 hn p k (by omega) hk hp e
theorem ord_idx {m : Nat} {l : List Int} (h : ordB m l = true) (p : Nat) (hp : p < m) : l.idxOf (p : Int) < l.length /\ l.getD (l.idxOf (p : Int)) 0 = (p : Int) := by
 have hm : (p : Int) ∈ l := ent_all (ord_ent h) (ord_at h).1 _ (by simp [numB]; omega)
 have hi := List.idxOf_lt_length_of_mem hm
 refine ⟨hi,?_⟩
 rw [List.getD_eq_getElem?_getD,List.getElem?_eq_getElem hi]
 exact List.getElem_idxOf hi
set_option maxRecDepth 100000 in
set_option maxHeartbeats 4000000 in
theorem undoShuffle_ (B base b : Nat) (s : Stt) (e : Ev) (oa : Option Addr) (oc : Nat) (w : World) (h : Own base w b s) (hB : B <= base) (hbs : base <= w.heap.size) (hb : B <= b) (hn : numB e.fr s.zs.length = true) (ho : IL w (.slice oa e.ord.length oc) e.ord) (hord : ordB (zn s e.fr).length e.ord = true) (hq : (zn s e.fr).length <= 256) : Calls Tryz.prog 138 #[.pointer (some ⟨b,0,none⟩),evv e (.slice oa e.ord.length oc)] w fun x w'=>x = .returned (.tuple #[]) /\ Did B base b { s with zs := s.zs.set e.fr.toNat (unshL (zn s e.fr) e.ord) } w w' := by
 obtain ⟨iT,hiT,z0,z1,z2⟩ := info_parts infoI
 have hlt := h.lt
 have hol := (ord_at hord).1
 have hon := ord_num hord
 have hne := ord_ne hord
 have hix := ord_idx hord
 unfold evv evc
 obtain ⟨kind,field,card,player,other,fr,frAt,to_,toAt,was,now,ord⟩ := e
 dsimp only at *
 obtain ⟨i,rfl,hi⟩ := num_nat hn
 have hzn : zn s (i : Int) = s.zs.getD i [] := by unfold zn; rw [Int.toNat_natCast]
 rw [hzn] at hord hq hol hon hix ⊢
 rw [Int.toNat_natCast]
 clear hzn
 obtain ⟨gz,cap,vp,vc,vs,h1,h2,h3,h4,h5⟩ := own_zone h hB hb i hi
 generalize s.zs.getD i [] = zl at *
 obtain ⟨ra,rc,hrv,-,hrc⟩ := il_at (IRow.il h2)
 obtain ⟨oa',oc',hov,-,hoc⟩ := il_at ho
 simp only [Value.slice.injEq,true_and] at hov
 obtain ⟨rfl,rfl⟩ := hov
 rw [hrv] at h3
 obtain ⟨c0,c1,c2,c3,c4,c5,c6⟩ := seven_cells h1
 have HZ : Hid _ := h3
 have HL : Hid (∀ p g,p < s.zs.length -> (vs.getD p nl).ownBlock = some g -> g < w.heap.size) := h4
 have HD : Hid _ := h5
 have HRC : Hid _ := hrc
 have HOC : Hid _ := hoc
 have HON : Hid _ := hon
 have HNE : Hid _ := hne
 have HIX : Hid _ := hix
 obtain ⟨q,hq0⟩ : ∃ q,q = zl.length := ⟨_,rfl⟩
 have HQ : Hid (q = zl.length /\ q = ord.length) := ⟨hq0,by rw [hq0,hol]⟩
 rw [hol,<- hq0]
 rw [<- hq0] at hq
 have hi2 : (i : Int) < (s.zs.length : Int) := by omega
 have HS : Hid (∀ (W : World),Up w W -> _) := fun W u=>And.intro (u.cell c2) (h3 W u)
 obtain ⟨gN,hgN⟩ : ∃ g,g = w.heap.size + 1 := ⟨_,rfl⟩
 have HG : Hid (gN = w.heap.size + 1) := hgN
 clear h1 h2 h3 h4 h5 hrc hoc hon hne hix hrv h hord ho hn hol hq0
 go_enter Tryz.func138,Tryz.ntmps138
 go_wp2_with (at_make; refine wpList_make_full _ rfl _ _ 28 rfl (w.heap.size + 1) 3 iT (.int .i64 0) 1 Tryz.underlying28 hiT z0 z1 .i64 .i64 _ _ q rfl rfl rfl rfl (by rw [z2]; omega) (by unfold maxLen; omega) (by simp) ?_; intro w1 hin hg1; have uu := made_up hg1; have y11 := par uu 11 _ rfl; have y5 := par uu 5 _ rfl; have HM : Hid _ := And.intro uu hin; clear hin hg1 uu)
 obtain ⟨uu,hin⟩ := HM.out
 have hsz : (w.alloc (.cells #[.int .i8 kind,.int .i8 field,.int .i64 card,.int .i64 player,.int .i64 other,.int .i64 (i : Int),.int .i64 frAt,.int .i64 to_,.int .i64 toAt,.int .i32 was,.int .i32 now,.slice oa q oc] 30)).heap.size = w.heap.size + 1 := by simp
 rw [hsz] at hin
 have HI : Hid (∃ cs : List Value,w1.heap[gN]? = some (.cells cs.toArray 3 (0,0)) /\ cs.length = q) := ⟨_,by rw [hgN]; exact row_made hin,by have := hin.1; omega⟩
 have HUU : Hid _ := uu
 rw [<- hgN]
 clear hin uu hsz HM hgN
 go_wp2_with fail
 obtain ⟨WE,hWE⟩ : ∃ WE,WE = w.alloc (.cells #[.int .i8 kind,.int .i8 field,.int .i64 card,.int .i64 player,.int .i64 other,.int .i64 (i : Int),.int .i64 frAt,.int .i64 to_,.int .i64 toAt,.int .i32 was,.int .i32 now,.slice oa q oc] 30) := ⟨_,rfl⟩
 rw [<- hWE] at HUU
 have HWE : Hid (Up w WE /\ WE.heap.size = w.heap.size + 1) := ⟨by rw [hWE]; exact (Up.refl _).alloc _,by rw [hWE]; simp⟩
 have HPE : Hid (∀ W,Up WE W -> W.cell? ⟨w.heap.size,5,none⟩ = some (.int .i64 (i : Int))) := fun W u=>by
  rw [hWE] at u
  exact par u 5 _ rfl
 clear hWE
 go_loopw [14] (fun s14 W=>∃ (k : Nat) (cs : List Value),k <= q /\ s14 = .int .i64 k /\ W.heap[gN]? = some (.cells cs.toArray 3 (0,0)) /\ cs.length = q /\ (∀ p,p < k -> cs[(ord.getD p 0).toNat]? = some (.int .i64 (zl.getD p 0))) /\ Up WE W) (fun s14 _=>q - (intOf s14).toNat)
 case atStart =>
  obtain ⟨cs,a1,a2⟩ := HI.out
  exact ⟨0,cs,Nat.zero_le _,rfl,a1,a2,fun p hp=>absurd hp (Nat.not_lt_zero p),HUU.out⟩
 case round =>
  clear HI HUU y11 y5
  obtain ⟨k,cs,hk,rfl,hrow,hcl,hcs,hu⟩ := hrel
  have huw : Up w wr := Up.trans HWE.out.1 hu
  have HUw : Hid (Up w wr) := huw
  have y5 := HPE.out wr hu
  obtain ⟨b2,b3,b4,b5⟩ := HS.out wr huw
  by_cases hlt : k < q
  ·have hlt2 : (k : Int) < (q : Int) := by omega
   have hko : k < ord.length := by rw [<- HQ.out.2]; exact hlt
   obtain ⟨ob,oo,rfl,hoc⟩ := HOC.out (by omega)
   have x0 := hoc wr huw k hko
   obtain ⟨nn,hnn,hnq⟩ := num_nat (HON.out k hko)
   rw [hnn] at x0
   obtain ⟨rb,ro,rfl,hrc⟩ := HRC.out (by omega)
   have hkz : k < zl.length := by rw [<- HQ.out.1]; exact hlt
   have x1 := hrc wr huw k hkz
   have hnq2 : (nn : Int) < (q : Int) := by have := HQ.out.1; omega
   have hkz2 : (k : Int) < (zl.length : Int) := by omega
   have hnc : nn < cs.length := by have := HQ.out.1; omega
   have p1 : wr.cell? ⟨gN,nn,none⟩ = some (cs[nn]'hnc) := by simp [World.cell?,hrow]
   have pf : wr.frozen? ⟨gN,nn,none⟩ = false := by simp [World.frozen?,hrow]
   generalize cs[nn]'hnc = q1 at p1
   have HR : Hid (∀ nq,∃ cs : List Value,((wr.drewN nq).setCell ⟨gN,nn,none⟩ (.int .i64 (zl.getD k 0))).heap[gN]? = some (.cells cs.toArray 3 (0,0)) /\ cs.length = q /\ (∀ p,p < k + 1 -> cs[(ord.getD p 0).toNat]? = some (.int .i64 (zl.getD p 0))) /\ Up WE ((wr.drewN nq).setCell ⟨gN,nn,none⟩ (.int .i64 (zl.getD k 0)))) := fun nq=>by
    refine ⟨cs.set nn (.int .i64 (zl.getD k 0)),?_,by simpa using hcl,fun p hp=>?_,Up.set (hu.drewN nq) _ _ (by show WE.heap.size <= gN; rw [HWE.out.2,HG.out]; exact Nat.le_refl _)⟩
    ·have := set_cells (W := wr.drewN nq) (j := nn) (x := .int .i64 (zl.getD k 0)) (show (wr.drewN nq).heap[gN]? = _ from hrow)
     simpa using this
    ·by_cases e : p = k
     ·subst e
      rw [hnn,Int.toNat_natCast,List.getElem?_set_self hnc]
     ·have hne2 := HNE.out p k (by omega) hko
      rw [hnn] at hne2
      obtain ⟨pp,hpp,-⟩ := num_nat (HON.out p (by omega))
      rw [hpp] at hne2
      have h9 := hcs p (by omega)
      rw [hpp,Int.toNat_natCast] at h9 ⊢
      rw [List.getElem?_set_ne (by omega)]
      exact h9
   generalize zl.getD k 0 = y at *
   generalize zl.length = zq at *
   clear hrow hcl hcs hu huw hoc hrc hnc
   go_wp2_with fail
   refine TailR.wp_region_seq 14 (by kernel_rfl) (by kernel_rfl) ?_
   simp only [List.take_succ_cons,List.take_zero,List.drop_succ_cons,List.drop_zero]
   repeat (go_big_quiet_step (fail))
   refine wpQuiet_nil ?_
   intro _ hw'
   obtain ⟨nq,hw''⟩ := hw'
   subst hw''
   go_wp2_with fail
   go_roundw
   case rel =>
    obtain ⟨cs',r1,r2,r3,r4⟩ := HR.out nq
    exact ⟨k + 1,cs',by omega,by go_num,r1,r2,r3,r4⟩
   case measure=>simp [intOf] <;> omega
  ·have hlt2 : ¬ (k : Int) < (q : Int) := by omega
   have hkq : k = q := by omega
   subst hkq
   have hlen : (unshL zl ord).length = k := by unfold unshL; rw [List.length_map,List.length_range]; exact HQ.out.1.symm
   have hrowN : IRow base wr (.slice (some ⟨gN,0,none⟩) k k) (unshL zl ord) := by
    have hce : cs = ivs (unshL zl ord) := by
     apply List.ext_getElem?
     intro p
     by_cases hp : p < k
     ·obtain ⟨d1,d2⟩ := HIX.out p (by rw [<- HQ.out.1]; exact hp)
      have h9 := hcs (ord.idxOf (p : Int)) (by rw [HQ.out.2]; exact d1)
      rw [d2,Int.toNat_natCast] at h9
      rw [h9,ivs_get _ p (by omega)]
      unfold unshL
      rw [List.getD_eq_getElem?_getD (l := List.map _ _),List.getElem?_map,List.getElem?_range (by rw [<- HQ.out.1]; exact hp)]
      rfl
     ·rw [List.getElem?_eq_none (by omega),List.getElem?_eq_none (by rw [ivs_len]; omega)]
    rw [hce] at hrow
    unfold IRow
    rw [hlen]
    exact own_made hrow (by rw [ivs_len,hlen]; omega) (by rw [HG.out]; omega) (by unfold maxLen; omega)
   have HFIN : Hid (∀ nq,Did B base b { s with zs := s.zs.set i (unshL zl ord) } w ((wr.drewN nq).setCell ⟨gz,i,none⟩ (.slice (some ⟨gN,0,none⟩) k k))) := fun nq=>HD.out (wr.drewN nq) _ _ (huw.drewN nq) (row_up hrowN ((Up.refl _).drewN nq)) (fun g hg p hp _ e=>by
    have e1 : gN = g := by simpa [Value.ownBlock] using hg
    have := HL.out p g hp e
    rw [<- e1,HG.out] at this
    omega)
   clear hrow hcl hcs hu huw hrowN
   go_wp2_with fail
   refine TailR.wp_region_seq 8 (by kernel_rfl) (by kernel_rfl) ?_
   simp only [List.take_succ_cons,List.take_zero,List.drop_succ_cons,List.drop_zero]
   repeat (go_big_quiet_step (fail))
   refine wpQuiet_nil ?_
   intro _ hw'
   obtain ⟨nq,hw''⟩ := hw'
   subst hw''
   go_wp2
   exact bodyPost_end (v := .tuple #[]) (by simp [results,go_sem]) rfl ⟨rfl,HFIN.out nq⟩
end DE
end Go.Proofs.YtodhjjeagmjhdaaGreatDoor
namespace Go.Proofs
open Go.Shelf
def Tryz.lays23_ren : Go.Shelf.Ren := ⟨fun | 23=>186 | n=>n,fun | 22=>28 | 3=>3 | 4=>4 | 0=>0 | n=>n,fun | n=>n⟩
theorem Tryz.lays23 : Go.Proofs.Lays2.n23 Tryz.prog Tryz.lays23_ren := {
 mixed := by kernel_rfl
 f23 := Tryz.func186.trans (congrArg some (by kernel_rfl))
 t0 := Tryz.underlying0
 a0 := Tryz.isAgg0
 z0 := Tryz.sizeOf0
 v0 := Tryz.zeroValue0
 t3 := Tryz.underlying3
 a3 := Tryz.isAgg3
 z3 := Tryz.sizeOf3
 v3 := Tryz.zeroValue3
 t4 := Tryz.underlying4
 a4 := Tryz.isAgg4
 z4 := Tryz.sizeOf4
 v4 := Tryz.zeroValue4
 t22 := Tryz.underlying28
 a22 := Tryz.isAgg28
 z22 := Tryz.sizeOf28
 v22 := Tryz.zeroValue28
 i3 := by kernel_rfl }
def Tryz.lays21_ren : Go.Shelf.Ren := ⟨fun | 21=>187 | 27=>209 | 28=>210 | 35=>220 | 39=>227 | n=>n,fun | 22=>28 | 3=>3 | 4=>4 | 0=>0 | n=>n,fun | n=>n⟩
theorem Tryz.lays21 : Go.Proofs.Lays2.n21 Tryz.prog Tryz.lays21_ren := {
 mixed := by kernel_rfl
 f21 := Tryz.func187.trans (congrArg some (by kernel_rfl))
 f27 := Tryz.func209.trans (congrArg some (by kernel_rfl))
 f28 := Tryz.func210.trans (congrArg some (by kernel_rfl))
 f35 := Tryz.func220.trans (congrArg some (by kernel_rfl))
 f39 := Tryz.func227.trans (congrArg some (by kernel_rfl))
 t0 := Tryz.underlying0
 a0 := Tryz.isAgg0
 z0 := Tryz.sizeOf0
 v0 := Tryz.zeroValue0
 t3 := Tryz.underlying3
 a3 := Tryz.isAgg3
 z3 := Tryz.sizeOf3
 v3 := Tryz.zeroValue3
 t4 := Tryz.underlying4
 a4 := Tryz.isAgg4
 z4 := Tryz.sizeOf4
 v4 := Tryz.zeroValue4
 t22 := Tryz.underlying28
 a22 := Tryz.isAgg28
 z22 := Tryz.sizeOf28
 v22 := Tryz.zeroValue28
 i3 := by kernel_rfl }
theorem Tryz.del (blk off cap i j : Nat) (zs : List Int) (w : World) (hH : Go.Sort.Holds (Value.int .i64) w blk off zs.toArray) (hcap : zs.length <= cap) (hm : cap <= 9223372036854775807) (hij : i <= j) (hj : j <= zs.length) :
  Calls Tryz.prog 186 #[.slice (some ⟨blk,off,none⟩) zs.length cap,.int .i64 i,.int .i64 j] w fun e w'=>e = .returned (.slice (some ⟨blk,off,none⟩) (zs.length - (j - i)) cap) /\ ∃ q,w' = Go.Sort.putRow (Value.int .i64) (Sort.ahead w q) blk off (zs.take i ++ zs.drop j ++ List.replicate (j - i) 0).toArray := Any.slices_Delete_int Tryz.lays23 blk off cap i j zs w hH hcap hm hij hj
theorem Tryz.insShift (b n c i vb : Nat) (cs : List Value) (x : Value) (w : World) (hi : i < n) (hroom : n + 1 <= c) (hc63 : c <= 9223372036854775807) (hvb : vb ≠ b) (hcl : cs.length = n)
  (hcs : ∀ j v,cs[j]? = some v -> w.cell? ⟨b,0 + j,none⟩ = some v) (hsp : ∀ j,j < n + 1 -> (w.cell? ⟨b,0 + j,none⟩).isSome = true) (hfz : ∀ j,j < n + 1 -> w.frozen? ⟨b,0 + j,none⟩ = false)
  (hvs : ∀ j v,[x][j]? = some v -> w.cell? ⟨vb,0 + j,none⟩ = some v) (h1c : ∀ v ∈ cs,v.oneCell' = true) (h1v : ∀ v ∈ [x],v.oneCell' = true)
  (tA tB : TypeId) (kA kB : Nat) (hsa : w.shape? vb = some (tA,kA)) (hsb : w.shape? b = some (tB,kB)) (hkB : kB ≠ 0) (hfa : w.frozen? ⟨vb,0,none⟩ = false) (hfe : w.frozen? ⟨vb,kA,none⟩ = false) :
  Calls Tryz.prog 187 #[.slice (some ⟨b,0,none⟩) n c,.int .i64 i,.slice (some ⟨vb,0,none⟩) 1 1] w fun e w' =>
   e = .returned (.slice (some ⟨b,0,none⟩) (n + 1) c) /\ w' = (w.drew.setCells b (0 + (i + 1)) (cs.drop i)).setCells b (0 + i) [x] :=
 Any2.slices_Insert_int_shift Tryz.lays21 b 0 n c i vb 0 1 1 cs [x] w hi (by omega) hroom hc63 hvb hcl rfl hcs hsp hfz hvs h1c h1v tA tB kA kB hsa hsb hkB hfa hfe
theorem Tryz.insRoom (b n c vb : Nat) (x : Value) (w : World) (hroom : n + 1 <= c) (hc63 : c <= 9223372036854775807)
  (hsp : ∀ j,j < 1 -> (w.cell? ⟨b,0 + n + j,none⟩).isSome = true) (hfz : ∀ j,j < 1 -> w.frozen? ⟨b,0 + n + j,none⟩ = false)
  (hvs : ∀ j v,[x][j]? = some v -> w.cell? ⟨vb,0 + j,none⟩ = some v) (h1v : ∀ v ∈ [x],v.oneCell' = true) :
  Calls Tryz.prog 187 #[.slice (some ⟨b,0,none⟩) n c,.int .i64 n,.slice (some ⟨vb,0,none⟩) 1 1] w fun e w' =>
   e = .returned (.slice (some ⟨b,0,none⟩) (n + 1) c) /\ w' = w.setCells b (0 + n) [x] :=
 Any2.slices_Insert_int_end_room Tryz.lays21 b 0 n c vb 0 1 1 [x] w (by omega) hroom hc63 rfl hsp hfz hvs h1v
theorem Tryz.insGrowEnd (base : Option Addr) (n c vb : Nat) (cs : List Value) (x : Value) (w : World) (hnc : n <= c) (hroom : c < n + 1) (hbig : (n + 1) * 8 <= 140737488355328)
  (hcl : cs.length = n) (hnil : base = none -> n = 0) (hcs : ∀ a,base = some a -> ∀ j v,cs[j]? = some v -> w.cell? (a.add j) = some v)
  (hvs : ∀ j v,[x][j]? = some v -> w.cell? ⟨vb,0 + j,none⟩ = some v) (h1v : ∀ v ∈ [x],v.oneCell' = true) :
  Calls Tryz.prog 187 #[.slice base n c,.int .i64 n,.slice (some ⟨vb,0,none⟩) 1 1] w fun e w' =>
   e = .returned (.slice (some ⟨w.heap.size,0,none⟩) (n + 1) (grownCap w (n + 1) c 3)) /\
   w' = w.drew.alloc (.cells ((cs ++ [x]).toArray ++ Builtin.zeroCells (Value.int .i64 0).cells (grownCap w (n + 1) c 3 - (n + 1))) 3) :=
 Any2.slices_Insert_int_end_grow Tryz.lays21 base n c vb 0 1 1 cs [x] w (by omega) hnc hroom hbig hcl rfl hnil hcs hvs h1v
theorem Tryz.insGrow (b n c i vb : Nat) (cs : List Value) (x : Value) (w : World) (hi : i < n) (hnc : n <= c) (hroom : c < n + 1) (hbig : (n + 1) * 8 <= 140737488355328)
  (hcl : cs.length = n) (hcs : ∀ j v,cs[j]? = some v -> w.cell? ⟨b,0 + j,none⟩ = some v)
  (hvs : ∀ j v,[x][j]? = some v -> w.cell? ⟨vb,0 + j,none⟩ = some v) (h1c : ∀ v ∈ cs,v.oneCell' = true) (h1v : ∀ v ∈ [x],v.oneCell' = true) :
  Calls Tryz.prog 187 #[.slice (some ⟨b,0,none⟩) n c,.int .i64 i,.slice (some ⟨vb,0,none⟩) 1 1] w fun e w' =>
   e = .returned (.slice (some ⟨w.heap.size,0,none⟩) (n + 1) (grownCap w (n + 1) c 3)) /\
   w' = (((w.alloc (.cells ((cs.take i).toArray ++ Builtin.zeroCells (Value.int .i64 0).cells (n + 1 - i) ++ Builtin.zeroCells (Value.int .i64 0).cells (grownCap w (n + 1) c 3 - (n + 1))) 3)).drew.setCells w.heap.size i [x]).drew).setCells w.heap.size (i + 1) (cs.drop i) :=
 Any2.slices_Insert_int_grow Tryz.lays21 b 0 n c i vb 0 1 1 cs [x] w hi (by omega) hnc hroom hbig hcl rfl hcs hvs h1c h1v
end Go.Proofs
