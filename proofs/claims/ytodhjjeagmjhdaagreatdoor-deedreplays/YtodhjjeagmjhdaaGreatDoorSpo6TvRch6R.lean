/- Spo6, Rm6, Rn6, Rch6 -/
import Derived.Test.YtodhjjeagmjhdaaGreatDoorRfl6VR
namespace Go.Proofs.YtodhjjeagmjhdaaGreatDoor
open Go.RowKit
attribute [local go_sem ↓] Go.wp_at_zero Go.wp_at_succ
namespace DE
open Go.Proofs.YtodhjjeagmjhdaaGreatDoor.ST
structure SpI (base K b : Nat) (w W : World) (box : Array Value) (gP gC gZ : Nat) (vs : List Value) (s : Stt) : Prop where
 box : W.heap[b]? = some (.cells box 27 (0,0))
 cards : ∃ cc : Array Value,W.heap[gC]? = some (.cells cc 95 (0,0)) /\ ∀ i,i < s.cs.length -> ∃ y : Int,cc[i * 6]? = some (.int .i64 y)
 plys : ∃ pc : Array Value,W.heap[gP]? = some (.cells pc 97 (0,0)) /\ ∀ i,i < s.ps.length -> ∃ y : Value,pc[i * 3]? = some y
 zones : W.heap[gZ]? = some (.cells vs.toArray 28 (0,0))
 rows : ∀ i,i < s.zs.length -> ∃ g,base <= g /\ g < K /\ vs[i]? = some (.slice (some ⟨g,0,none⟩) (s.zs.getD i []).length ((s.zs.getD i []).length + 64)) /\ AI W g (s.zs.getD i []).length
 below : Below base w W
 kp : Kp K w W
 hC : base <= gC /\ gC < K
 hP : base <= gP /\ gP < K
 hb : base <= w.heap.size
theorem SpI.up {base K b : Nat} {w W W' : World} {box : Array Value} {gP gC gZ : Nat} {vs : List Value} {s : Stt} (h : SpI base K b w W box gP gC gZ vs s) (u : Up W W') : SpI base K b w W' box gP gC gZ vs s := by
 obtain ⟨h1,⟨cc,h2,h2'⟩,⟨pc,h3,h3'⟩,h4,h5,h6,h7,h8,h9,h10⟩ := h
 refine ⟨u.heap h1,⟨cc,u.heap h2,h2'⟩,⟨pc,u.heap h3,h3'⟩,u.heap h4,fun i hi=>?_,Below.trans h6 (Below.mono u (Nat.le_trans h10 h6.size)),h7.trans (Kp.up u),h8,h9,h10⟩
 obtain ⟨g,a,b',c,d⟩ := h5 i hi
 exact ⟨g,a,b',c,d.keep (fun _ h=>u.heap h)⟩
theorem SpI.card {base K b : Nat} {w W : World} {box : Array Value} {gP gC gZ : Nat} {vs : List Value} {s : Stt} (h : SpI base K b w W box gP gC gZ vs s) (i : Nat) (y : Int) : SpI base K b w (W.setCell ⟨gC,i * 6,none⟩ (.int .i64 y)) box gP gC gZ vs s := by
 obtain ⟨h1,⟨cc,h2,h2'⟩,⟨pc,h3,h3'⟩,h4,h5,h6,h7,h8,h9,h10⟩ := h
 refine ⟨set_other h1 (heap_ne h1 h2 (by decide)),⟨_,set_cells h2,fun j hj=>?_⟩,⟨pc,set_other h3 (heap_ne h3 h2 (by decide)),h3'⟩,set_other h4 (heap_ne h4 h2 (by decide)),fun j hj=>?_,Below.setCell h6 h8.1 _,h7.trans (Kp.set h8.2),h8,h9,h10⟩
 ·rw [Array.getElem?_setIfInBounds]
  obtain ⟨z,hz⟩ := h2' j hj
  by_cases e : i * 6 = j * 6
  ·rw [if_pos e,e,if_pos (Array.getElem?_eq_some_iff.1 hz).1]
   exact ⟨y,rfl⟩
  ·rw [if_neg e]
   exact ⟨z,hz⟩
 ·obtain ⟨g,a,b',c,d⟩ := h5 j hj
  exact ⟨g,a,b',c,d.keep (fun _ h=>set_other h (heap_ne h h2 (by decide)))⟩
theorem SpI.ply {base K b : Nat} {w W : World} {box : Array Value} {gP gC gZ : Nat} {vs : List Value} {s : Stt} (h : SpI base K b w W box gP gC gZ vs s) (i : Nat) (y : Value) : SpI base K b w (W.setCell ⟨gP,i * 3,none⟩ y) box gP gC gZ vs s := by
 obtain ⟨h1,⟨cc,h2,h2'⟩,⟨pc,h3,h3'⟩,h4,h5,h6,h7,h8,h9,h10⟩ := h
 refine ⟨set_other h1 (heap_ne h1 h3 (by decide)),⟨cc,set_other h2 (heap_ne h2 h3 (by decide)),h2'⟩,⟨_,set_cells h3,fun j hj=>?_⟩,set_other h4 (heap_ne h4 h3 (by decide)),fun j hj=>?_,Below.setCell h6 h9.1 _,h7.trans (Kp.set h9.2),h8,h9,h10⟩
 ·rw [Array.getElem?_setIfInBounds]
  obtain ⟨z,hz⟩ := h3' j hj
  by_cases e : i * 3 = j * 3
  ·rw [if_pos e,e,if_pos (Array.getElem?_eq_some_iff.1 hz).1]
   exact ⟨y,rfl⟩
  ·rw [if_neg e]
   exact ⟨z,hz⟩
 ·obtain ⟨g,a,b',c,d⟩ := h5 j hj
  exact ⟨g,a,b',c,d.keep (fun _ h=>set_other h (heap_ne h h3 (by decide)))⟩
theorem SpI.row {base K b : Nat} {w W : World} {box : Array Value} {gP gC gZ g q k : Nat} {vs : List Value} {s : Stt} (h : SpI base K b w W box gP gC gZ vs s) (hg : AI W g q) (h1b : base <= g) (h2b : g < K) (y : Int) : SpI base K b w (W.setCell ⟨g,k,none⟩ (.int .i64 y)) box gP gC gZ vs s := by
 obtain ⟨h1,⟨cc,h2,h2'⟩,⟨pc,h3,h3'⟩,h4,h5,h6,h7,h8,h9,h10⟩ := h
 obtain ⟨rc,hr,-⟩ := id hg
 refine ⟨set_other h1 (heap_ne h1 hr (by decide)),⟨cc,set_other h2 (heap_ne h2 hr (by decide)),h2'⟩,⟨pc,set_other h3 (heap_ne h3 hr (by decide)),h3'⟩,set_other h4 (heap_ne h4 hr (by decide)),fun j hj=>?_,Below.setCell h6 h1b _,h7.trans (Kp.set h2b),h8,h9,h10⟩
 obtain ⟨g',a,b',c,d⟩ := h5 j hj
 exact ⟨g',a,b',c,d.put hg⟩
set_option maxRecDepth 100000 in
set_option maxHeartbeats 4000000 in
theorem spoil_ (base : Nat) (v : Value) (s : Stt) (W1 w : World) (h : WSA base W1 v s) (hB : base <= W1.heap.size) (u : Up W1 w) (hsm : Small s) : Calls Tryz.prog 17 #[v] w fun r w'=>r = .returned (.tuple #[]) /\ Below base w w' /\ Kp W1.heap.size w w' := by
 obtain ⟨Post,hPost⟩ : ∃ P : Ending -> World -> Prop,P = fun r w'=>r = .returned (.tuple #[]) /\ Below base w w' /\ Kp W1.heap.size w w' := ⟨_,rfl⟩
 rw [<- hPost]
 have HP : Hid _ := hPost
 obtain ⟨vp,vc,vz,rfl,⟨gP,p1,rfl,p3⟩,⟨gC,c1,rfl,c3⟩,gZ,vs,z1,rfl,z3,z4,z5,z6⟩ := h
 unfold sv
 obtain ⟨np,hnp⟩ : ∃ n,n = s.ps.length := ⟨_,rfl⟩
 obtain ⟨nc,hnc⟩ : ∃ n,n = s.cs.length := ⟨_,rfl⟩
 obtain ⟨nz,hnz⟩ : ∃ n,n = s.zs.length := ⟨_,rfl⟩
 have hm1 : np <= 4294967296 := by rw [hnp]; exact hsm.1
 have hm2 : nc <= 4294967296 := by rw [hnc]; exact hsm.2.1
 have hm3 : nz <= 4294967296 := by rw [hnz]; exact hsm.2.2.1
 have HM : Hid (∀ r,r < s.zs.length -> (s.zs.getD r []).length <= 4294967296) := hsm.2.2.2
 obtain ⟨box,hbox⟩ : ∃ x : Array Value,x = #[.slice (some ⟨gP,0,none⟩) s.ps.length (s.ps.length + 64),.slice (some ⟨gC,0,none⟩) s.cs.length (s.cs.length + 64),.slice (some ⟨gZ,0,none⟩) s.zs.length (s.zs.length + 64),.int .i32 s.turn,.int .i64 s.whose,.int .i8 s.fin,.int .i64 s.winner] := ⟨_,rfl⟩
 have HI : Hid (SpI base W1.heap.size w.heap.size w (w.alloc (.cells box 27)) box gP gC gZ vs s) := by
  have u2 : Up W1 (w.alloc (.cells box 27)) := u.alloc _
  refine ⟨heap_alloc_new _ _,⟨_,u2.heap c3,fun i hi=>?_⟩,⟨_,u2.heap p3,fun i hi=>?_⟩,u2.heap z3,fun i hi=>?_,?_,Kp.up ((Up.refl _).alloc _),⟨c1,(Array.getElem?_eq_some_iff.1 c3).1⟩,⟨p1,(Array.getElem?_eq_some_iff.1 p3).1⟩,Nat.le_trans hB u.size⟩
  ·have h9 := wCs_get s.cs i 0 (by omega) (by decide)
   rw [Nat.add_zero] at h9
   unfold wC at h9
   rw [if_pos hi] at h9
   exact ⟨_,by rw [List.getElem?_toArray]; exact h9⟩
  ·have h9 := wPs_get s.ps i 0 (by omega) (by decide)
   rw [Nat.add_zero] at h9
   unfold wP at h9
   rw [if_pos hi] at h9
   exact ⟨_,by rw [List.getElem?_toArray]; exact h9⟩
  ·have hr := z5 i (by omega)
   unfold WRow at hr
   rw [if_pos hi] at hr
   obtain ⟨g,a,b,c⟩ := hr
   refine ⟨g,a,(Array.getElem?_eq_some_iff.1 c).1,?_,_,u2.heap c,fun j hj=>?_⟩
   ·rw [<- b,List.getD_eq_getElem?_getD,List.getElem?_eq_getElem (by omega)]
    rfl
   ·have h9 := wIs_get (s.zs.getD i []) j (by omega)
    unfold wI at h9
    rw [if_pos hj] at h9
    exact ⟨_,by rw [List.getElem?_toArray]; exact h9⟩
  ·exact Below.mono ((Up.refl _).alloc _) (Nat.le_trans hB u.size)
 rw [<- hbox]
 have HX : Hid (box = _) := hbox
 rw [<- hnp,<- hnc,<- hnz] at HX
 have HNs : Hid (np = s.ps.length /\ nc = s.cs.length /\ nz = s.zs.length) := ⟨hnp,hnc,hnz⟩
 clear hbox p1 p3 c1 c3 z1 z3 z4 z5 z6 hPost u hB hnp hnc hnz hsm
 go_enter Tryz.func17,Tryz.ntmps17
 go_wp2_with fail
 go_loopw [2] (fun s2 W=>∃ i : Nat,i <= nc /\ s2 = .int .i64 i /\ SpI base W1.heap.size w.heap.size w W box gP gC gZ vs s) (fun s2 _=>nc - (intOf s2).toNat)
 case atStart=>exact ⟨0,Nat.zero_le _,rfl,HI.out⟩
 case round =>
  clear HI
  obtain ⟨i,hi,rfl,hsp⟩ := hrel
  have HS : Hid _ := hsp
  have hb := hsp.box
  rw [HX.out] at hb
  obtain ⟨q0,q1,q2,-⟩ := seven_cells hb
  by_cases hlt : i < nc
  ·have hlt2 : (i : Int) < (nc : Int) := by omega
   obtain ⟨cc,k1,k2⟩ := hsp.cards
   obtain ⟨y,hy⟩ := k2 i (by rw [<- HNs.out.2.1]; exact hlt)
   have x0 : wr.cell? ⟨gC,i * 6,none⟩ = some (.int .i64 y) := by simp only [World.cell?,k1]; exact hy
   have xf := seven_f k1 (i * 6)
   clear hsp hb k1 k2 hy
   go_wp2_with fail
   refine TailR.wp_region_seq 12 (by kernel_rfl) (by kernel_rfl) ?_
   simp only [List.take_succ_cons,List.take_zero,List.drop_succ_cons,List.drop_zero]
   repeat (go_big_quiet_step (fail))
   refine wpQuiet_nil ?_
   intro _ hw'
   obtain ⟨nq,hw''⟩ := hw'
   subst hw''
   go_wp2_with fail
   go_roundw
   case rel=>exact ⟨i + 1,by omega,by go_num,SpI.card (HS.out.up ((Up.refl _).drewN nq)) i _⟩
   case measure=>simp [intOf] <;> omega
  ·have hlt2 : ¬ (i : Int) < (nc : Int) := by omega
   clear hsp hb
   go_wp2_with fail
   clear q0 q1 q2
   go_loopw [3] (fun s3 W=>∃ i : Nat,i <= np /\ s3 = .int .i64 i /\ SpI base W1.heap.size w.heap.size w W box gP gC gZ vs s) (fun s3 _=>np - (intOf s3).toNat)
   case atStart=>exact ⟨0,Nat.zero_le _,rfl,HS.out⟩
   case round =>
    clear HS hlt hlt2
    obtain ⟨i,hi,rfl,hsp⟩ := hrel
    have HS : Hid _ := hsp
    have hb := hsp.box
    rw [HX.out] at hb
    obtain ⟨q0,q1,q2,-⟩ := seven_cells hb
    by_cases hlt : i < np
    ·have hlt2 : (i : Int) < (np : Int) := by omega
     obtain ⟨cc,k1,k2⟩ := hsp.plys
     obtain ⟨y,hy⟩ := k2 i (by rw [<- HNs.out.1]; exact hlt)
     have x0 : wr.cell? ⟨gP,i * 3,none⟩ = some y := by simp only [World.cell?,k1]; exact hy
     have xf := seven_f k1 (i * 3)
     clear hsp hb k1 k2 hy
     go_wp2_with fail
     go_roundw
     case rel=>exact ⟨i + 1,by omega,by go_num,SpI.ply HS.out i _⟩
     case measure=>simp [intOf] <;> omega
    ·have hlt2 : ¬ (i : Int) < (np : Int) := by omega
     clear hsp hb
     go_wp2_with fail
     clear q0 q1 q2
     go_loopw [4] (fun s4 W=>∃ i : Nat,i <= nz /\ s4 = .int .i64 i /\ SpI base W1.heap.size w.heap.size w W box gP gC gZ vs s) (fun s4 _=>nz - (intOf s4).toNat)
     case atStart=>exact ⟨0,Nat.zero_le _,rfl,HS.out⟩
     case round =>
      clear HS hlt hlt2
      obtain ⟨i,hi,rfl,hsp⟩ := hrel
      have HS : Hid _ := hsp
      have hb := hsp.box
      rw [HX.out] at hb
      obtain ⟨q0,q1,q2,-⟩ := seven_cells hb
      by_cases hlt : i < nz
      ·have hlt2 : (i : Int) < (nz : Int) := by omega
       obtain ⟨g,k1,k2,k3,-⟩ := hsp.rows i (by rw [<- HNs.out.2.2]; exact hlt)
       have hl := HM.out i (by rw [<- HNs.out.2.2]; exact hlt)
       have HRW : Hid (∀ W,SpI base W1.heap.size w.heap.size w W box gP gC gZ vs s -> W.cell? ⟨gZ,i,none⟩ = some (.slice (some ⟨g,0,none⟩) (s.zs.getD i []).length ((s.zs.getD i []).length + 64)) /\ W.cell? ⟨w.heap.size,2,none⟩ = some (.slice (some ⟨gZ,0,none⟩) nz (nz + 64)) /\ AI W g (s.zs.getD i []).length) := fun W hW=>by
        obtain ⟨g',l1,l2,l3,l4⟩ := hW.rows i (by rw [<- HNs.out.2.2]; exact hlt)
        rw [k3] at l3
        simp only [Option.some.injEq,Value.slice.injEq,Addr.mk.injEq,and_true] at l3
        subst l3
        have hb9 := hW.box
        rw [HX.out] at hb9
        refine ⟨by simp only [World.cell?,hW.zones]; simpa using k3,(seven_cells hb9).2.2.1,l4⟩
       have HKK : Hid (base <= g /\ g < W1.heap.size) := ⟨k1,k2⟩
       generalize (s.zs.getD i []).length = q at *
       clear hsp hb k1 k2 k3
       go_wp2_with fail
       clear q0 q1 q2
       go_loopw [5] (fun s5 W=>∃ k : Nat,k <= q /\ s5 = .int .i64 k /\ SpI base W1.heap.size w.heap.size w W box gP gC gZ vs s) (fun s5 _=>q - (intOf s5).toNat)
       case atStart=>exact ⟨0,Nat.zero_le _,rfl,HS.out⟩
       case round =>
        clear HS
        obtain ⟨k,hk,rfl,hsp⟩ := hrel
        have HS : Hid _ := hsp
        obtain ⟨x1,x2,x3⟩ := HRW.out _ hsp
        have HA : Hid _ := x3
        by_cases hkq : k < q
        ·have hkq2 : (k : Int) < (q : Int) := by omega
         obtain ⟨⟨y,x4⟩,x5⟩ := x3.at k hkq
         clear hsp x3
         go_wp2_with fail
         refine TailR.wp_region_seq 16 (by kernel_rfl) (by kernel_rfl) ?_
         simp only [List.take_succ_cons,List.take_zero,List.drop_succ_cons,List.drop_zero]
         repeat (go_big_quiet_step (fail))
         refine wpQuiet_nil ?_
         intro _ hw'
         obtain ⟨nq,hw''⟩ := hw'
         subst hw''
         go_wp2_with fail
         go_roundw
         case rel=>exact ⟨k + 1,by omega,by go_num,SpI.row (HS.out.up ((Up.refl _).drewN nq)) (AI.keep HA.out (fun _ h=>h)) HKK.out.1 HKK.out.2 _⟩
         case measure=>simp [intOf] <;> omega
        ·have hkq2 : ¬ (k : Int) < (q : Int) := by omega
         clear hsp x3
         go_wp2_with fail
         go_roundw
         case rel=>exact ⟨i + 1,by omega,by go_num,HS.out⟩
         case measure=>simp [intOf] <;> omega
      ·have hlt2 : ¬ (i : Int) < (nz : Int) := by omega
       clear hsp hb
       go_wp2
       refine bodyPost_end (v := .tuple #[]) (by simp [results,go_sem]) rfl ?_
       rw [HP.out]
       exact ⟨rfl,HS.out.below,HS.out.kp⟩
theorem cut_one (l : List Int) (p i : Nat) (hi : i < l.length) : cutL (l.take (i + 1)) p = cutL (l.take i) p ++ (if i = p then [] else [l.getD i 0]) := by
 have ht : l.take (i + 1) = l.take i ++ [l.getD i 0] := by rw [List.take_add_one,List.getElem?_eq_getElem hi,List.getD_eq_getElem?_getD,List.getElem?_eq_getElem hi]; rfl
 have hl : (l.take i).length = i := by rw [List.length_take]; omega
 rw [ht]
 generalize l.take i = A at *
 generalize l.getD i 0 = x at *
 unfold cutL
 subst hl
 by_cases h1 : A.length < p
 ·rw [if_neg (by omega),List.take_of_length_le (by simp; omega),List.take_of_length_le (by omega),List.drop_of_length_le (by simp; omega),List.drop_of_length_le (by omega)]
  simp
 ·by_cases h2 : A.length = p
  ·subst h2
   rw [if_pos rfl,List.take_append_of_le_length (Nat.le_refl _),List.drop_of_length_le (by simp),List.drop_of_length_le (by omega)]
   simp
  ·rw [if_neg h2,List.take_append_of_le_length (by omega),List.drop_append_of_le_length (by omega),List.append_assoc]
set_option maxRecDepth 100000 in
set_option maxHeartbeats 2000000 in
theorem without_ (v : Value) (l : List Int) (p : Nat) (w : World) (hv : IL w v l) (hn : l.length <= 4294967296) :
  Calls Tryz.prog 179 #[v,.int .i64 p] w (CpPost w fun W v'=>IRow w.heap.size W v' (cutL l p)) := by
 obtain ⟨iT,hiT,z0,z1,z2⟩ := info_parts infoI
 obtain ⟨Post,hPost⟩ : ∃ P : Ending -> World -> Prop,P = CpPost w fun W v'=>IRow w.heap.size W v' (cutL l p) := ⟨_,rfl⟩
 rw [<- hPost]
 have HP : Hid (Post = CpPost w fun W v'=>IRow w.heap.size W v' (cutL l p)) := hPost
 obtain ⟨a,c,rfl,-,hc⟩ := il_at hv
 have HC : Hid _ := hc
 obtain ⟨n,hn0⟩ : ∃ n,n = l.length := ⟨_,rfl⟩
 have HN : Hid (n = l.length) := hn0
 rw [<- hn0] at hn HC ⊢
 obtain ⟨B,hB⟩ : ∃ B,B = w.heap.size := ⟨_,rfl⟩
 have HB : Hid (B = w.heap.size) := hB
 clear hPost hv hc hn0 hB
 go_enter Tryz.func179,Tryz.ntmps179
 go_wp2_with fail
 go_loopw [5,6] (fun s3 s4 W=>∃ (i : Nat) (va : Option Addr) (vc : Nat),i <= n /\ s4 = .int .i64 i /\ s3 = .slice va (cutL (l.take i) p).length vc /\ IRow B W (.slice va (cutL (l.take i) p).length vc) (cutL (l.take i) p) /\ Up w W) (fun _ s4 _=>n - (intOf s4).toNat)
 case atStart=>exact ⟨0,none,0,Nat.zero_le _,rfl,by simp [cutL],by simp [cutL]; exact World.ownsRow_nil _ _ _ _,Up.refl _⟩
 case round =>
  obtain ⟨i,va,vc,hi,rfl,rfl,hz,hu⟩ := hrel
  have HZ : Hid _ := hz
  have HU : Hid (Up w wr) := hu
  clear hz hu
  by_cases hlt : i < n
  ·have hlt2 : (i : Int) < (n : Int) := by omega
   obtain ⟨b3,o3,rfl,hrow⟩ := HC.out (by omega)
   have x1 := hrow wr HU.out i hlt
   have hcut := cut_one l p i (by rw [<- HN.out]; exact hlt)
   clear hrow
   generalize l.getD i 0 = x at *
   by_cases hp : i = p
   ·rw [if_pos hp,List.append_nil] at hcut
    have hp2 : (i : Int) = (p : Int) := by omega
    have HF : Hid (IRow B wr (.slice va (cutL (l.take i) p).length vc) (cutL (l.take (i + 1)) p) /\ (cutL (l.take (i + 1)) p).length = (cutL (l.take i) p).length) := ⟨by rw [hcut]; exact HZ.out,by rw [hcut]⟩
    clear hcut x1 HZ
    go_wp2
    go_roundw
    case rel=>exact ⟨i + 1,va,vc,by omega,by go_num,by rw [HF.out.2],by rw [HF.out.2]; exact HF.out.1,HU.out⟩
    case measure=>simp [intOf]; omega
   ·rw [if_neg hp] at hcut
    have hp2 : ¬ (i : Int) = (p : Int) := by omega
    have hz := HZ.out
    obtain ⟨k,hk⟩ : ∃ k,k = (cutL (l.take i) p).length := ⟨_,rfl⟩
    have hkn : k <= i := by rw [hk]; unfold cutL; simp; omega
    have HV : Hid ((wr.alloc (.cells #[.int .i64 x] 3)).ownsRow B 3 1 (.slice va k vc) k (ivs (cutL (l.take i) p))) := by rw [hk]; exact row_up hz ((Up.refl _).alloc _)
    have HM : Hid (∀ j u,[Value.int .i64 x][j]? = some u -> (wr.alloc (.cells #[.int .i64 x] 3)).cell? ((⟨wr.heap.size,0,none⟩ : Addr).add j) = some u) := by
     intro j u hj
     cases j with
     | zero=>simp at hj; subst hj; simp [Addr.add]
     | succ j=>simp at hj
    have HO : Hid (∀ u ∈ [Value.int .i64 x],u.oneCell' = true) := by intro u hu; simp at hu; subst hu; rfl
    have HS : Hid (B <= (wr.alloc (.cells #[.int .i64 x] 3)).heap.size) := by have h1 := HU.out.size; have h3 := HB.out; unfold Hid; simp; omega
    have HZ2 : Hid (∀ v' w2,w2.ownsRow B 3 1 v' (k + 1) (ivs (cutL (l.take i) p) ++ [.int .i64 x]) -> (wr.alloc (.cells #[.int .i64 x] 3)).grownBy w2 (Value.slice va k vc).ownBlock -> IRow B w2 v' (cutL (l.take (i + 1)) p) /\ (cutL (l.take (i + 1)) p).length = k + 1 /\ Up w w2) := by
     intro v' w2 h1 h2
     have hl9 : (cutL (l.take (i + 1)) p).length = k + 1 := by rw [hcut,List.length_append,<- hk]; rfl
     refine ⟨?_,hl9,?_⟩
     ·unfold IRow
      rw [hl9,hcut]
      have : ivs (cutL (l.take i) p ++ [x]) = ivs (cutL (l.take i) p) ++ [.int .i64 x] := by simp [ivs]
      rw [this]
      exact h1
     ·refine Below.grown (HU.out.trans ((Up.refl _).alloc _)) h2 ?_ ?_
      ·have := HS.out; have h3 := HB.out; omega
      ·intro g hg
       have := HV.out.lt g hg
       have h3 := HB.out; omega
    rw [<- hk]
    clear hz hcut HZ hk
    go_wp2_with (at_builtin; go_loud (refine wpList_append_own _ (by rfl) (.tmp 16) (.tmp 21) 28 (by rfl) B 3 iT (.int .i64 0) 1 8 Tryz.underlying28 hiT z0 z1 z2 (by rfl) (by decide) (.slice va k vc) k _ (by rfl) HV.out ⟨wr.heap.size,0,none⟩ 1 1 [.int .i64 x] (by rfl) (by rfl) HM.out HO.out (by unfold maxLen; omega) (by omega) HS.out ?_); intro v' w2 hin hg1 _)
    obtain ⟨va',vc',hva⟩ := row_val hin
    have HF : Hid (IRow B w2 v' (cutL (l.take (i + 1)) p) /\ (cutL (l.take (i + 1)) p).length = k + 1 /\ Up w w2) := HZ2.out v' w2 hin hg1
    clear hin hg1 HZ2 HV HM HO HS
    subst hva
    go_wp2
    go_roundw
    case rel=>exact ⟨i + 1,va',vc',by omega,by go_num,by rw [HF.out.2.1],by rw [HF.out.2.1]; exact HF.out.1,HF.out.2.2⟩
    case measure=>simp [intOf]; omega
  ·have hlt2 : ¬ (i : Int) < (n : Int) := by omega
   have hin : i = n := by omega
   subst hin
   go_wp2
   rw [HP.out]
   have h9 := HZ.out
   rw [HB.out] at h9
   have e9 : l.take i = l := by rw [HN.out,List.take_length]
   rw [e9] at h9 ⊢
   exact ⟨_,rfl,h9,HU.out⟩
theorem push_facts {B : Nat} {w W : World} {va : Option Addr} {vc : Nat} {L : List Int} (x : Int) (hz : IRow B W (.slice va L.length vc) L) (hu : Up w W) (hB : B = w.heap.size) :
  (W.alloc (.cells #[.int .i64 x] 3)).ownsRow B 3 1 (.slice va L.length vc) L.length (ivs L) /\
  (∀ j u,[Value.int .i64 x][j]? = some u -> (W.alloc (.cells #[.int .i64 x] 3)).cell? ((⟨W.heap.size,0,none⟩ : Addr).add j) = some u) /\
  (∀ u ∈ [Value.int .i64 x],u.oneCell' = true) /\ B <= (W.alloc (.cells #[.int .i64 x] 3)).heap.size /\
  (∀ v' w2,w2.ownsRow B 3 1 v' (L.length + 1) (ivs L ++ [.int .i64 x]) -> (W.alloc (.cells #[.int .i64 x] 3)).grownBy w2 (Value.slice va L.length vc).ownBlock -> IRow B w2 v' (L ++ [x]) /\ Up w w2) := by
 have HV := row_up hz ((Up.refl _).alloc (.cells #[.int .i64 x] 3))
 have HS : B <= (W.alloc (.cells #[.int .i64 x] 3)).heap.size := by have h1 := hu.size; simp; omega
 refine ⟨HV,?_,?_,HS,?_⟩
 ·intro j u hj
  cases j with
  | zero=>simp at hj; subst hj; simp [Addr.add]
  | succ j=>simp at hj
 ·intro u hu; simp at hu; subst hu; rfl
 ·intro v' w2 h1 h2
  refine ⟨?_,?_⟩
  ·unfold IRow
   have : ivs (L ++ [x]) = ivs L ++ [.int .i64 x] := by simp [ivs]
   rw [this,List.length_append,List.length_singleton]
   exact h1
  ·refine Below.grown (hu.trans ((Up.refl _).alloc _)) h2 ?_ ?_
   ·omega
   ·intro g hg
    have := HV.lt g hg
    omega
def wth (l : List Int) (p i : Nat) (x : Int) : List Int := if i <= p then l.take i else insL (l.take i) p x
theorem wth_one (l : List Int) (p i : Nat) (x : Int) (hi : i < l.length) : wth l p (i + 1) x = (if i = p then wth l p i x ++ [x] else wth l p i x) ++ [l.getD i 0] := by
 have ht : l.take (i + 1) = l.take i ++ [l.getD i 0] := by rw [List.take_add_one,List.getElem?_eq_getElem hi,List.getD_eq_getElem?_getD,List.getElem?_eq_getElem hi]; rfl
 have hl : (l.take i).length = i := by rw [List.length_take]; omega
 unfold wth
 rw [ht]
 generalize l.take i = A at *
 generalize l.getD i 0 = y at *
 subst hl
 unfold insL
 by_cases h1 : A.length < p
 ·rw [if_pos (by omega),if_neg (by omega),if_pos (by omega)]
 ·by_cases h2 : A.length = p
  ·subst h2
   rw [if_neg (by omega),if_pos rfl,if_pos (Nat.le_refl _),List.take_append_of_le_length (Nat.le_refl _),List.drop_append_of_le_length (Nat.le_refl _)]
   simp
  ·rw [if_neg (by omega),if_neg h2,if_neg (by omega),List.take_append_of_le_length (by omega),List.drop_append_of_le_length (by omega)]
   simp
theorem wth_end (l : List Int) (p : Nat) (x : Int) (hp : p <= l.length) : insL l p x = if p = l.length then wth l p l.length x ++ [x] else wth l p l.length x := by
 unfold wth
 rw [List.take_length]
 by_cases h : p = l.length
 ·subst h
  rw [if_pos rfl,if_pos (Nat.le_refl _)]
  unfold insL
  rw [List.take_length,List.drop_length]
 ·rw [if_neg h,if_neg (by omega)]
theorem wth_len (l : List Int) (p i : Nat) (x : Int) : (wth l p i x).length <= i + 1 := by
 unfold wth
 split
 ·simp; omega
 ·unfold insL
  simp
  omega
set_option maxRecDepth 100000 in
set_option maxHeartbeats 4000000 in
theorem with_ (v : Value) (l : List Int) (p : Nat) (x : Int) (w : World) (hv : IL w v l) (hn : l.length <= 4294967296) (hp : p <= l.length) :
  Calls Tryz.prog 180 #[v,.int .i64 p,.int .i64 x] w (CpPost w fun W v'=>IRow w.heap.size W v' (insL l p x)) := by
 obtain ⟨iT,hiT,z0,z1,z2⟩ := info_parts infoI
 obtain ⟨Post,hPost⟩ : ∃ P : Ending -> World -> Prop,P = CpPost w fun W v'=>IRow w.heap.size W v' (insL l p x) := ⟨_,rfl⟩
 rw [<- hPost]
 have HP : Hid (Post = CpPost w fun W v'=>IRow w.heap.size W v' (insL l p x)) := hPost
 have HE : Hid _ := wth_end l p x hp
 obtain ⟨a,c,rfl,-,hc⟩ := il_at hv
 have HC : Hid _ := hc
 obtain ⟨n,hn0⟩ : ∃ n,n = l.length := ⟨_,rfl⟩
 have HN : Hid (n = l.length) := hn0
 rw [<- hn0] at hn HC HE ⊢
 obtain ⟨B,hB⟩ : ∃ B,B = w.heap.size := ⟨_,rfl⟩
 have HB : Hid (B = w.heap.size) := hB
 clear hPost hv hc hn0 hB hp
 go_enter Tryz.func180,Tryz.ntmps180
 go_wp2_with fail
 go_loopw [7,8] (fun s3 s4 W=>∃ (i : Nat) (va : Option Addr) (vc : Nat) (L : List Int),i <= n /\ s4 = .int .i64 i /\ s3 = .slice va L.length vc /\ L = wth l p i x /\ IRow B W (.slice va L.length vc) L /\ Up w W) (fun _ s4 _=>n - (intOf s4).toNat)
 case atStart=>exact ⟨0,none,0,[],Nat.zero_le _,rfl,rfl,by simp [wth],World.ownsRow_nil _ _ _ _,Up.refl _⟩
 case round =>
  obtain ⟨i,va,vc,L,hi,rfl,rfl,hL,hz,hu⟩ := hrel
  have HZ : Hid _ := hz
  have HU : Hid (Up w wr) := hu
  clear hz hu
  by_cases hlt : i < n
  ·have hlt2 : (i : Int) < (n : Int) := by omega
   obtain ⟨b3,o3,rfl,hrow⟩ := HC.out (by omega)
   have hw := wth_one l p i x (by rw [<- HN.out]; exact hlt)
   rw [<- hL] at hw
   have hlen : L.length <= i + 1 := by rw [hL]; exact wth_len l p i x
   by_cases hp : i = p
   ·subst hp
    rw [if_pos rfl] at hw
    have HG : Hid _ := push_facts x HZ.out HU.out HB.out
    have HR : Hid _ := hrow
    have HW : Hid _ := hw
    clear hrow hw HZ hL
    have hlen3 : (L ++ [x]).length = L.length + 1 := by simp
    obtain ⟨K,hK⟩ : ∃ K,K = L ++ [x] := ⟨_,rfl⟩
    have hKl : K.length = L.length + 1 := by rw [hK,hlen3]
    have HH : Hid (∀ v' w2,w2.ownsRow B 3 1 v' (L.length + 1) (ivs L ++ [.int .i64 x]) -> (wr.alloc (.cells #[.int .i64 x] 3)).grownBy w2 (Value.slice va L.length vc).ownBlock -> ∃ va' vc',v' = .slice va' K.length vc' /\ IRow B w2 (.slice va' K.length vc') K /\ Up w w2) := by
     intro v' w2 h1 h2
     have h3 := HG.out.2.2.2.2 v' w2 h1 h2
     obtain ⟨va',vc',hva⟩ := row_val h1
     rw [hva,<- hKl,<- hK] at h3
     exact ⟨va',vc',by rw [hva,hKl],h3⟩
    rw [<- hK] at HW
    have hKn : K.length <= i + 2 := by omega
    clear hlen3 hK hKl
    generalize hy : l.getD i 0 = y at *
    have HY : Hid _ := hy
    clear hy
    go_wp2_with (first | (at_builtin; (refine wpList_append_own _ (by rfl) (.tmp 18) (.tmp 20) 28 (by rfl) B 3 iT (.int .i64 0) 1 8 Tryz.underlying28 hiT z0 z1 z2 (by rfl) (by decide) (.slice va L.length vc) L.length _ (by rfl) HG.out.1 ⟨wr.heap.size,0,none⟩ 1 1 [.int .i64 x] (by rfl) (by rfl) HG.out.2.1 HG.out.2.2.1 (by unfold maxLen; omega) (by omega) HG.out.2.2.2.1 ?_); intro v' w2 hin hg1 _; obtain ⟨va',vc',rfl,hq1,hq2⟩ := HH.out v' w2 hin hg1; have HG2 : Hid _ := push_facts y hq1 hq2 HB.out; have x1 := HR.out w2 hq2 i hlt; rw [HY.out] at x1; clear hin hg1 HG HH hq1 hq2) | (at_builtin; go_loud (refine wpList_append_own _ (by rfl) (.tmp 22) (.tmp 27) 28 (by rfl) B 3 iT (.int .i64 0) 1 8 Tryz.underlying28 hiT z0 z1 z2 (by rfl) (by decide) (.slice va' K.length vc') K.length _ (by rfl) HG2.out.1 ⟨w2.heap.size,0,none⟩ 1 1 [.int .i64 y] (by rfl) (by rfl) HG2.out.2.1 HG2.out.2.2.1 (by unfold maxLen; omega) (by omega) HG2.out.2.2.2.1 ?_); intro v3 w3 hin hg1 _))
    have hpair := HG2.out.2.2.2.2 v3 w3 hin hg1
    obtain ⟨va3,vc3,hva⟩ := row_val hin
    clear hin hg1 HG2 x1
    subst hva
    have hlen4 : (K ++ [y]).length = K.length + 1 := by simp
    have HF : Hid (K.length + 1 = (wth l i (i + 1) x).length /\ IRow B w3 (.slice va3 (wth l i (i + 1) x).length vc3) (wth l i (i + 1) x) /\ Up w w3) := by
     rw [HW.out,hlen4]
     exact ⟨rfl,by rw [<- hlen4] at hpair ⊢; exact hpair⟩
    clear hpair hlen4
    go_wp2
    go_roundw
    case rel=>exact ⟨i + 1,va3,vc3,wth l i (i + 1) x,by omega,by go_num,by rw [<- HF.out.1],rfl,HF.out.2.1,HF.out.2.2⟩
    case measure=>simp [intOf]; omega
   ·have hp2 : ¬ (i : Int) = (p : Int) := by omega
    rw [if_neg hp] at hw
    have HG : Hid _ := push_facts (l.getD i 0) HZ.out HU.out HB.out
    have x1 := hrow wr HU.out i hlt
    have HW : Hid _ := hw
    clear hrow hw HZ hL
    generalize l.getD i 0 = y at *
    go_wp2_with (at_builtin; go_loud (refine wpList_append_own _ (by rfl) (.tmp 22) (.tmp 27) 28 (by rfl) B 3 iT (.int .i64 0) 1 8 Tryz.underlying28 hiT z0 z1 z2 (by rfl) (by decide) (.slice va L.length vc) L.length _ (by rfl) HG.out.1 ⟨wr.heap.size,0,none⟩ 1 1 [.int .i64 y] (by rfl) (by rfl) HG.out.2.1 HG.out.2.2.1 (by unfold maxLen; omega) (by omega) HG.out.2.2.2.1 ?_); intro v3 w3 hin hg1 _)
    have hpair := HG.out.2.2.2.2 v3 w3 hin hg1
    obtain ⟨va3,vc3,hva⟩ := row_val hin
    clear hin hg1 HG x1
    subst hva
    have hlen4 : (L ++ [y]).length = L.length + 1 := by simp
    have HF : Hid (L.length + 1 = (wth l p (i + 1) x).length /\ IRow B w3 (.slice va3 (wth l p (i + 1) x).length vc3) (wth l p (i + 1) x) /\ Up w w3) := by
     rw [HW.out,hlen4]
     exact ⟨rfl,by rw [<- hlen4] at hpair ⊢; exact hpair⟩
    clear hpair hlen4
    go_wp2
    go_roundw
    case rel=>exact ⟨i + 1,va3,vc3,wth l p (i + 1) x,by omega,by go_num,by rw [<- HF.out.1],rfl,HF.out.2.1,HF.out.2.2⟩
    case measure=>simp [intOf]; omega
  ·have hlt2 : ¬ (i : Int) < (n : Int) := by omega
   have hin : i = n := by omega
   subst hin
   have he := HE.out
   rw [<- hL] at he
   by_cases hp : p = i
   ·have hp2 : (p : Int) = (i : Int) := by omega
    rw [if_pos hp] at he
    have hlen : L.length <= i + 1 := by rw [hL]; exact wth_len l p i x
    have HG : Hid _ := push_facts x HZ.out HU.out HB.out
    have HW : Hid _ := he
    clear he HZ hL
    go_wp2_with (at_builtin; go_loud (refine wpList_append_own _ (by rfl) (.tmp 33) (.tmp 35) 28 (by rfl) B 3 iT (.int .i64 0) 1 8 Tryz.underlying28 hiT z0 z1 z2 (by rfl) (by decide) (.slice va L.length vc) L.length _ (by rfl) HG.out.1 ⟨wr.heap.size,0,none⟩ 1 1 [.int .i64 x] (by rfl) (by rfl) HG.out.2.1 HG.out.2.2.1 (by unfold maxLen; omega) (by omega) HG.out.2.2.2.1 ?_); intro v3 w3 hin hg1 _)
    have HF : Hid _ := HG.out.2.2.2.2 v3 w3 hin hg1
    clear hin hg1 HG
    go_wp2
    rw [HP.out,<- HB.out,HW.out]
    exact ⟨_,rfl,HF.out.1,HF.out.2⟩
   ·have hp2 : ¬ (p : Int) = (i : Int) := by omega
    rw [if_neg hp] at he
    have HW : Hid _ := he
    clear he hL
    go_wp2
    rw [HP.out]
    refine ⟨_,rfl,?_,HU.out⟩
    show IRow w.heap.size _ _ (insL l p x)
    rw [<- HB.out,HW.out]
    exact HZ.out
def BhV (w : World) (o : Option Stt) (x : Ending) (w' : World) : Prop := ∃ C : Array Value,x = .returned (.tuple #[.agg C,.bool o.isSome]) /\ C.size = 7 /\ C.all (·.oneCell') = true /\ SOA w.heap.size w' (.agg C) (o.getD noS) /\ Up w w'
theorem zS_all : zS.all (·.oneCell') = true := by simp [zS,Value.oneCell']
theorem bh_none {w W : World} {g : Nat} (u : Up w W) (hg : w.heap.size <= g) : BhV w none (.returned (.tuple #[.agg zS,.bool false])) (W.setRow g zS) := ⟨zS,rfl,rfl,zS_all,noS_soa _ _,up_setRow u hg _⟩
theorem zone_put {B B' base b : Nat} {s : Stt} {w : World} (h : Own base w b s) (hB : B <= B') (hB' : B' <= base) (hb : B <= b) (i : Nat) (hi : i < s.zs.length) : ∃ gz cap vp vc ra rc,OwnC w b vp vc (.slice (some ⟨gz,0,none⟩) s.zs.length cap) s /\ IL w (.slice ra (s.zs.getD i []).length rc) (s.zs.getD i []) /\ base <= gz /\
  (∀ w1,Up w w1 -> w1.cell? ⟨gz,i,none⟩ = some (.slice ra (s.zs.getD i []).length rc) /\ (∀ j,w1.frozen? ⟨gz,j,none⟩ = false) /\ gz ≠ b) /\
  ∀ w1 x l',Up w w1 -> IRow B' w1 x l' -> (∀ g,x.ownBlock = some g -> g < base ∨ w.heap.size <= g) -> Did B B' b { s with zs := s.zs.set i l' } w (w1.setCell ⟨gz,i,none⟩ x) := by
 have hlt := h.lt
 obtain ⟨vp,vc,vz,h1,h2⟩ := h
 obtain ⟨vp',vc',vz',hv,p1,p2,vs,p3,p4,p5⟩ := h2
 unfold sv at hv
 simp only [Value.agg.injEq,Array.mk.injEq,List.cons.injEq,and_true] at hv
 obtain ⟨rfl,rfl,rfl⟩ := hv
 obtain ⟨g,cap,cur,rfl,hg,hgc⟩ := own_list p3 (by omega)
 have hvl : vs.length = s.zs.length := by have := p3.1; omega
 have hgb : g ≠ b := fun e=>by
  subst e
  unfold OwnC at h1
  rw [h1] at hgc
  simp at hgc
 have hri := p4 i hi
 obtain ⟨ra,rc,hra⟩ := row_val hri
 rw [hra] at hri
 refine ⟨g,cap,vp,vc,ra,rc,h1,hri.il,hg,fun w1 u=>⟨?_,fun j=>by simp [World.frozen?,u.heap hgc],hgb⟩,fun w1 x l' u hx hne=>⟨⟨vp,vc,_,heap_set_ty (u.heap hgc) (u.heap h1) (by decide),?_⟩,?_,(KT.up u).trans (kt_set (u.heap hgc) (.inr (.inr (.inl rfl))))⟩⟩
 ·have r := row_up p3 u
  rw [r.cellAt _ (by omega),<- hra,List.getD_eq_getElem?_getD,List.getElem?_eq_getElem (by omega)]
  rfl
 ·have r := own_less (own_setS (z := i) (x := x) (row_up p3 u)) hB'
  refine ⟨vp,vc,_,rfl,own_less (row_set_ty (row_up p1 u) (u.heap hgc) (by decide)) hB',own_less (row_set_ty (row_up p2 u) (u.heap hgc) (by decide)) hB',vs.set i x,?_,fun q hq=>?_,?_⟩
  ·rw [List.length_set]
   exact r
  ·rw [List.length_set] at hq
   by_cases e : q = i
   ·subst e
    have e1 : (vs.set q x).getD q nl = x := by rw [List.getD_eq_getElem?_getD,List.getElem?_set_self (by omega)]; rfl
    have e2 : (s.zs.set q l').getD q [] = l' := by rw [List.getD_eq_getElem?_getD,List.getElem?_set_self hq]; rfl
    rw [e1,e2]
    exact row_set_ty hx (u.heap hgc) (by decide)
   ·have e1 : (vs.set i x).getD q nl = vs.getD q nl := by rw [List.getD_eq_getElem?_getD,List.getElem?_set_ne (fun h=>e h.symm),<- List.getD_eq_getElem?_getD]
    have e2 : (s.zs.set i l').getD q [] = s.zs.getD q [] := by rw [List.getD_eq_getElem?_getD,List.getElem?_set_ne (fun h=>e h.symm),<- List.getD_eq_getElem?_getD]
    rw [e1,e2]
    exact own_less (row_set_ty (row_up (p4 q hq) u) (u.heap hgc) (by decide)) hB'
  ·rw [List.length_set]
   refine ra_set p5 (by omega) (fun p q hp hpi e1 e2=>?_)
   have h8 := (p4 p hp).lt q e1
   rcases hne q e2 with h9 | h9 <;> omega
 ·exact Below.setCell (Below.mono u (by omega)) (by show B <= g; omega) _
def chgO (s : Stt) (f k was now : Int) : Option Stt := match fldO s f k with
 | none=>none
 | some x=>if x = was /\ now ≠ was /\ -1000000000 <= now /\ now <= 1000000000 then some (setD s f k now) else none
set_option maxRecDepth 100000 in
set_option maxHeartbeats 8000000 in
theorem rchanged_ (v : Value) (s : Stt) (f k was now : Int) (w : World) (hs : StL w v s) (hsm : Small s) : Calls Tryz.prog 101 #[v,.int .i8 f,.int .i64 k,.int .i32 was,.int .i32 now] w (BhV w (chgO s f k was now)) := by
 obtain ⟨Post,hPost⟩ : ∃ P : Ending -> World -> Prop,P = BhV w (chgO s f k was now) := ⟨_,rfl⟩
 rw [<- hPost]
 have HP : Hid (Post = BhV w (chgO s f k was now)) := hPost
 have HF : Hid (∀ W,Up w W -> Calls Tryz.prog 170 #[v,.int .i8 f,.int .i64 k] W fun r w'=>r = .returned (.tuple #[.int .i32 ((fldO s f k).getD 0),.bool (fldO s f k).isSome]) /\ Up W w') := fun W u=>rfield_ v s f k W (hs.up u)
 have HS : Hid (∀ x,fldO s f k = some x -> ∀ W,Up w W -> Calls Tryz.prog 181 #[v,.int .i8 f,.int .i64 k,.int .i32 now] W (CpPost W fun W' v'=>SOA W.heap.size W' v' (setD s f k now))) := fun x hx W u=>rset_ v s f k now x W (hs.up u) hsm hx
 obtain ⟨vp,vc,vz,hvv,h1,h2,h3⟩ := hs
 obtain ⟨a1,k1,rfl,-,-⟩ := lc_at h1
 obtain ⟨a2,k2,rfl,-,-⟩ := lc_at h2
 obtain ⟨a3,k3,rfl,-,hzl⟩ := zl_at h3
 unfold sv at hvv
 clear h1 h2 h3 hPost
 obtain ⟨A,hA0⟩ : ∃ A : Array Value,A = #[.slice a1 s.ps.length k1,.slice a2 s.cs.length k2,.slice a3 s.zs.length k3,.int .i32 s.turn,.int .i64 s.whose,.int .i8 s.fin,.int .i64 s.winner] := ⟨_,rfl⟩
 have hA1 : A.size = 7 := by rw [hA0]; rfl
 rw [<- hA0] at hvv
 subst hvv
 obtain ⟨W0,hW0⟩ : ∃ W0,(w.alloc (.cells A 27)).alloc (.cells zS 27) = W0 := ⟨_,rfl⟩
 have g0 : W0.heap[w.heap.size]? = some (.cells A 27 (0,0)) := by rw [<- hW0]; exact heap_alloc2_old _ _ _
 have g1 : W0.heap[w.heap.size + 1]? = some (.cells zS 27 (0,0)) := by rw [<- hW0]; exact heap_alloc2_new _ _ _
 have gu : Up w W0 := by rw [<- hW0]; exact ((Up.refl _).alloc _).alloc _
 have gs : W0.heap.size = w.heap.size + 2 := by rw [<- hW0]; simp
 clear hA0 hsm hzl
 cases hq : fldO s f k with
 | none =>
  have HN : Hid (chgO s f k was now = none) := by unfold Hid chgO; rw [hq]
  rw [hq] at HF
  clear HS hq
  go_enter Tryz.func101,Tryz.ntmps101
  go_wp2_with (first | (refine wpList_world hW0 ?_; clear hW0; refine wpList_load_row (by rfl) 27 (.tmp 5) (by rfl) w.heap.size (by rfl) 27 A (0,0) _ g0 Tryz.underlying27 (by rfl) (by rw [hA1]; exact infoSt) ?_))
  refine Calls.mono (HF.out _ gu) ?_
  rintro r W2 ⟨rfl,u2⟩
  have g0 := u2.heap g0
  have g1 := u2.heap g1
  have HU : Hid (Up w W2) := gu.trans u2
  clear u2 gu gs HF
  go_wp2_with (refine wpList_store_row rfl 27 (.tmp 10) (.tmp 41) rfl (w.heap.size + 1) zS rfl rfl 27 zS g1 infoSt rfl zS_all ?_)
  have HR : Hid _ := setRow_heap W2 (w.heap.size + 1) _ _ _ zS g1
  refine bodyPost_ret (v := .tuple #[.agg zS,.bool false]) (results_c1 rfl _ _ (w.heap.size + 1) 27 zS (0,0) _ (.bool false) rfl rfl HR.out Tryz.underlying27 rfl infoSt) rfl ?_
  rw [HP.out,HN.out]
  exact bh_none HU.out (by omega)
 | some x =>
  rw [hq] at HF
  have HS1 : Hid _ := HS.out x hq
  have HQ : Hid (chgO s f k was now = if x = was /\ now ≠ was /\ -1000000000 <= now /\ now <= 1000000000 then some (setD s f k now) else none) := by unfold Hid chgO; rw [hq]
  clear HS hq
  by_cases e1 : x = was
  ·by_cases e2 : now = was
   ·have HN : Hid (chgO s f k was now = none) := by unfold Hid; rw [HQ.out,if_neg (by omega)]
    clear HS1 HQ
    subst e1
    subst e2
    go_enter Tryz.func101,Tryz.ntmps101
    go_wp2_with (first | (refine wpList_world hW0 ?_; clear hW0; refine wpList_load_row (by rfl) 27 (.tmp 5) (by rfl) w.heap.size (by rfl) 27 A (0,0) _ g0 Tryz.underlying27 (by rfl) (by rw [hA1]; exact infoSt) ?_))
    refine Calls.mono (HF.out _ gu) ?_
    rintro r W2 ⟨rfl,u2⟩
    have g0 := u2.heap g0
    have g1 := u2.heap g1
    have HU : Hid (Up w W2) := gu.trans u2
    clear u2 gu gs HF
    go_wp2_with (refine wpList_store_row rfl 27 (.tmp 10) (.tmp 41) rfl (w.heap.size + 1) zS rfl rfl 27 zS g1 infoSt rfl zS_all ?_)
    have HR : Hid _ := setRow_heap W2 (w.heap.size + 1) _ _ _ zS g1
    refine bodyPost_ret (v := .tuple #[.agg zS,.bool false]) (results_c1 rfl _ _ (w.heap.size + 1) 27 zS (0,0) _ (.bool false) rfl rfl HR.out Tryz.underlying27 rfl infoSt) rfl ?_
    rw [HP.out,HN.out]
    exact bh_none HU.out (by omega)
   ·have f2 : (now == was) = false := beq_eq_false_iff_ne.2 e2
    by_cases e3 : -1000000000 <= now
    ·by_cases e4 : now <= 1000000000
     ·have HN : Hid (chgO s f k was now = some (setD s f k now)) := by unfold Hid; rw [HQ.out,if_pos ⟨e1,e2,e3,e4⟩]
      have f3 : ¬ now < -1000000000 := by omega
      have f4 : ¬ 1000000000 < now := by omega
      clear HQ
      subst e1
      go_enter Tryz.func101,Tryz.ntmps101
      go_wp2_with (first | (refine wpList_world hW0 ?_; clear hW0; refine wpList_load_row (by rfl) 27 (.tmp 5) (by rfl) w.heap.size (by rfl) 27 A (0,0) _ g0 Tryz.underlying27 (by rfl) (by rw [hA1]; exact infoSt) ?_))
      refine Calls.mono (HF.out _ gu) ?_
      rintro r W2 ⟨rfl,u2⟩
      have g0 := u2.heap g0
      have g1 := u2.heap g1
      have HU : Hid (Up w W2) := gu.trans u2
      clear u2 gu gs HF
      go_wp2_with (first | (refine wpList_load_row (by rfl) 27 (.tmp 5) (by rfl) w.heap.size (by rfl) 27 A (0,0) _ g0 Tryz.underlying27 (by rfl) (by rw [hA1]; exact infoSt) ?_))
      refine Calls.mono (HS1.out _ HU.out) ?_
      rintro r W3 ⟨v',rfl,so,u3⟩
      obtain ⟨C,rfl,h1C,h2C⟩ := SOA.row so
      have g1 := u3.heap g1
      have HU3 : Hid (Up w W3) := HU.out.trans u3
      have HSO : Hid (SOA w.heap.size W3 (.agg C) (setD s f k now)) := so.less HU.out.size
      clear so u3 HS1
      go_wp2_with (refine wpList_store_row rfl 27 (.tmp 10) (.tmp 46) rfl (w.heap.size + 1) C rfl rfl 27 zS g1 (by rw [h1C]; exact infoSt) (by rw [h1C]; rfl) h2C ?_)
      have HR : Hid _ := setRow_heap W3 (w.heap.size + 1) _ _ _ C g1
      refine bodyPost_ret (v := .tuple #[.agg C,.bool true]) (results_c1 rfl _ _ (w.heap.size + 1) 27 C (0,0) _ (.bool true) rfl rfl HR.out Tryz.underlying27 rfl (by rw [h1C]; exact infoSt)) rfl ?_
      rw [HP.out,HN.out]
      exact ⟨C,rfl,h1C,h2C,SOA.setRow HSO.out g1,up_setRow HU3.out (by omega) _⟩
     ·have HN : Hid (chgO s f k was now = none) := by unfold Hid; rw [HQ.out,if_neg (by omega)]
      have f3 : ¬ now < -1000000000 := by omega
      have f4 : 1000000000 < now := by omega
      clear HS1 HQ
      subst e1
      go_enter Tryz.func101,Tryz.ntmps101
      go_wp2_with (first | (refine wpList_world hW0 ?_; clear hW0; refine wpList_load_row (by rfl) 27 (.tmp 5) (by rfl) w.heap.size (by rfl) 27 A (0,0) _ g0 Tryz.underlying27 (by rfl) (by rw [hA1]; exact infoSt) ?_))
      refine Calls.mono (HF.out _ gu) ?_
      rintro r W2 ⟨rfl,u2⟩
      have g0 := u2.heap g0
      have g1 := u2.heap g1
      have HU : Hid (Up w W2) := gu.trans u2
      clear u2 gu gs HF
      go_wp2_with (refine wpList_store_row rfl 27 (.tmp 10) (.tmp 41) rfl (w.heap.size + 1) zS rfl rfl 27 zS g1 infoSt rfl zS_all ?_)
      have HR : Hid _ := setRow_heap W2 (w.heap.size + 1) _ _ _ zS g1
      refine bodyPost_ret (v := .tuple #[.agg zS,.bool false]) (results_c1 rfl _ _ (w.heap.size + 1) 27 zS (0,0) _ (.bool false) rfl rfl HR.out Tryz.underlying27 rfl infoSt) rfl ?_
      rw [HP.out,HN.out]
      exact bh_none HU.out (by omega)
    ·have HN : Hid (chgO s f k was now = none) := by unfold Hid; rw [HQ.out,if_neg (by omega)]
     have f3 : now < -1000000000 := by omega
     clear HS1 HQ
     subst e1
     go_enter Tryz.func101,Tryz.ntmps101
     go_wp2_with (first | (refine wpList_world hW0 ?_; clear hW0; refine wpList_load_row (by rfl) 27 (.tmp 5) (by rfl) w.heap.size (by rfl) 27 A (0,0) _ g0 Tryz.underlying27 (by rfl) (by rw [hA1]; exact infoSt) ?_))
     refine Calls.mono (HF.out _ gu) ?_
     rintro r W2 ⟨rfl,u2⟩
     have g0 := u2.heap g0
     have g1 := u2.heap g1
     have HU : Hid (Up w W2) := gu.trans u2
     clear u2 gu gs HF
     go_wp2_with (refine wpList_store_row rfl 27 (.tmp 10) (.tmp 41) rfl (w.heap.size + 1) zS rfl rfl 27 zS g1 infoSt rfl zS_all ?_)
     have HR : Hid _ := setRow_heap W2 (w.heap.size + 1) _ _ _ zS g1
     refine bodyPost_ret (v := .tuple #[.agg zS,.bool false]) (results_c1 rfl _ _ (w.heap.size + 1) 27 zS (0,0) _ (.bool false) rfl rfl HR.out Tryz.underlying27 rfl infoSt) rfl ?_
     rw [HP.out,HN.out]
     exact bh_none HU.out (by omega)
  ·have HN : Hid (chgO s f k was now = none) := by unfold Hid; rw [HQ.out,if_neg (fun h=>e1 h.1)]
   have f1 : (x == was) = false := beq_eq_false_iff_ne.2 e1
   clear HS1 HQ
   go_enter Tryz.func101,Tryz.ntmps101
   go_wp2_with (first | (refine wpList_world hW0 ?_; clear hW0; refine wpList_load_row (by rfl) 27 (.tmp 5) (by rfl) w.heap.size (by rfl) 27 A (0,0) _ g0 Tryz.underlying27 (by rfl) (by rw [hA1]; exact infoSt) ?_))
   refine Calls.mono (HF.out _ gu) ?_
   rintro r W2 ⟨rfl,u2⟩
   have g0 := u2.heap g0
   have g1 := u2.heap g1
   have HU : Hid (Up w W2) := gu.trans u2
   clear u2 gu gs HF
   go_wp2_with (refine wpList_store_row rfl 27 (.tmp 10) (.tmp 41) rfl (w.heap.size + 1) zS rfl rfl 27 zS g1 infoSt rfl zS_all ?_)
   have HR : Hid _ := setRow_heap W2 (w.heap.size + 1) _ _ _ zS g1
   refine bodyPost_ret (v := .tuple #[.agg zS,.bool false]) (results_c1 rfl _ _ (w.heap.size + 1) 27 zS (0,0) _ (.bool false) rfl rfl HR.out Tryz.underlying27 rfl infoSt) rfl ?_
   rw [HP.out,HN.out]
   exact bh_none HU.out (by omega)
end DE
end Go.Proofs.YtodhjjeagmjhdaaGreatDoor
