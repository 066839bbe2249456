/-
  The document's moved.
-/
import Derived.Test.YtodhjjeagmjhdaaGreatDoorSpo6TvRch6R
namespace Go.Proofs.YtodhjjeagmjhdaaGreatDoor
open Go.RowKit
attribute [local go_sem ↓] Go.wp_at_zero Go.wp_at_succ
namespace DE
open Go.Proofs.YtodhjjeagmjhdaaGreatDoor.ST
def mvC (s : Stt) (c fr fa to_ ta : Int) : Bool := numB c s.cs.length && (standB s c fr fa && (numB to_ s.zs.length && !(decide (fr = to_) && decide (fa = ta))))
def cutS (s : Stt) (fr fa : Int) : Stt := { s with zs := s.zs.set fr.toNat (cutL (zn s fr) fa.toNat) }
def mvO (s : Stt) (c fr fa to_ ta : Int) : Option Stt := if mvC s c fr fa to_ ta = true then (if 0 <= ta /\ ta <= ((zn (cutS s fr fa) to_).length : Int) then some { s with zs := moveZ s.zs fr.toNat fa.toNat to_.toNat ta.toNat c } else none) else none
set_option maxRecDepth 100000 in
set_option maxHeartbeats 8000000 in
theorem rmoved_ (v : Value) (s : Stt) (c fr fa to_ ta : Int) (w : World) (hs : StL w v s) (hsm : Small s) : Calls Tryz.prog 100 #[v,.int .i64 c,.int .i64 fr,.int .i64 fa,.int .i64 to_,.int .i64 ta] w (BhV w (mvO s c fr fa to_ ta)) := by
 obtain ⟨Post,hPost⟩ : ∃ P : Ending -> World -> Prop,P = BhV w (mvO s c fr fa to_ ta) := ⟨_,rfl⟩
 rw [<- hPost]
 have HP : Hid (Post = BhV w (mvO s c fr fa to_ ta)) := hPost
 have HI1 : Hid (∀ W,Calls Tryz.prog 103 #[.int .i64 c,.int .i64 (s.cs.length : Nat)] W fun e w'=>e = .returned (.bool (numB c s.cs.length)) /\ w' = W) := fun W=>ris_ c s.cs.length W
 have HI2 : Hid (∀ W,Calls Tryz.prog 103 #[.int .i64 to_,.int .i64 (s.zs.length : Nat)] W fun e w'=>e = .returned (.bool (numB to_ s.zs.length)) /\ w' = W) := fun W=>ris_ to_ s.zs.length W
 have HSt : Hid (∀ W,Up w W -> Calls Tryz.prog 178 #[v,.int .i64 c,.int .i64 fr,.int .i64 fa] W fun r w'=>r = .returned (.bool (standB s c fr fa)) /\ Up W w') := fun W u=>rstands_ v s c fr fa W (hs.up u)
 have HCo : Hid (∀ W,Up w W -> Calls Tryz.prog 76 #[v] W (CpPost W fun W' v'=>SOA W.heap.size W' v' s)) := fun W u=>copyStateA_ v s W (hs.up u) hsm
 obtain ⟨vp,vc,vz,hvv,h1,h2,h3⟩ := hs
 obtain ⟨a1,k1,rfl,-,-⟩ := lc_at h1
 obtain ⟨a2,k2,rfl,-,-⟩ := lc_at h2
 obtain ⟨a3,k3,rfl,-,hzl⟩ := zl_at h3
 unfold sv at hvv
 clear h1 h2 h3 hPost
 obtain ⟨A,hA0⟩ : ∃ A : Array Value,A = #[.slice a1 s.ps.length k1,.slice a2 s.cs.length k2,.slice a3 s.zs.length k3,.int .i32 s.turn,.int .i64 s.whose,.int .i8 s.fin,.int .i64 s.winner] := ⟨_,rfl⟩
 have hA1 : A.size = 7 := by rw [hA0]; rfl
 rw [<- hA0] at hvv
 subst hvv
 obtain ⟨W0,hW0⟩ : ∃ W0,(w.alloc (.cells A 27)).alloc (.cells zS 27) = W0 := ⟨_,rfl⟩
 have g0 : W0.heap[w.heap.size]? = some (.cells A 27 (0,0)) := by rw [<- hW0]; exact heap_alloc2_old _ _ _
 have g1 : W0.heap[w.heap.size + 1]? = some (.cells zS 27 (0,0)) := by rw [<- hW0]; exact heap_alloc2_new _ _ _
 have gu : Up w W0 := by rw [<- hW0]; exact ((Up.refl _).alloc _).alloc _
 have gs : W0.heap.size = w.heap.size + 2 := by rw [<- hW0]; simp
 have HSM : Hid (Small s) := hsm
 have HA0 : Hid (A = _) := hA0
 clear hzl hsm hA0
 have cA1 : ∀ h : 1 < A.size,A[1]'h = .slice a2 s.cs.length k2 := fun h=>by simp [HA0.out]
 have cA2 : ∀ h : 2 < A.size,A[2]'h = .slice a3 s.zs.length k3 := fun h=>by simp [HA0.out]
 have c1 : W0.cell? ⟨w.heap.size,1,none⟩ = some (.slice a2 s.cs.length k2) := by rw [World.cell?,g0,HA0.out]; rfl
 have c2 : W0.cell? ⟨w.heap.size,2,none⟩ = some (.slice a3 s.zs.length k3) := by rw [World.cell?,g0,HA0.out]; rfl
 cases e1 : numB c s.cs.length with
 | false =>
  rw [e1] at HI1
  have HN : Hid (mvO s c fr fa to_ ta = none) := by unfold Hid mvO mvC; rw [if_neg (by simp [e1])]
  clear e1 HI2 HSt HCo
  go_enter Tryz.func100,Tryz.ntmps100
  go_wp2_with fail
  first | (refine calls_world hW0 ?_; clear hW0) | skip
  refine Calls.mono (HI1.out _) ?_
  rintro r W1 ⟨rfl,rfl⟩
  go_wp2_with (refine wpList_store_row rfl 27 (.tmp 12) (.tmp 46) rfl (w.heap.size + 1) zS rfl rfl 27 zS g1 infoSt rfl zS_all ?_)
  have HR : Hid _ := setRow_heap _ (w.heap.size + 1) _ _ _ zS g1
  refine bodyPost_ret (v := .tuple #[.agg zS,.bool false]) (results_c1 rfl _ _ (w.heap.size + 1) 27 zS (0,0) _ (.bool false) rfl rfl HR.out Tryz.underlying27 rfl infoSt) rfl ?_
  rw [HP.out,HN.out]
  exact bh_none gu (by omega)
 | true =>
  rw [e1] at HI1
  cases e2 : standB s c fr fa with
  | false =>
   rw [e2] at HSt
   have HN : Hid (mvO s c fr fa to_ ta = none) := by unfold Hid mvO mvC; rw [if_neg (by simp [e2])]
   clear e1 e2 HI2 HCo
   go_enter Tryz.func100,Tryz.ntmps100
   go_wp2_with fail
   first | (refine calls_world hW0 ?_; clear hW0) | skip
   refine Calls.mono (HI1.out _) ?_
   rintro r W1 ⟨rfl,rfl⟩
   go_wp2_with (first | (refine wpList_load_rowG (by rfl) 27 (.tmp 6) (by rfl) w.heap.size (by rfl) 27 A (0,0) _ g0 Tryz.underlying27 (by rfl) (by rw [hA1]; exact infoSt) ?_))
   refine Calls.mono (HSt.out _ gu) ?_
   rintro r W2 ⟨rfl,u2⟩
   have g0 := u2.heap g0
   have g1 := u2.heap g1
   have gu := gu.trans u2
   clear u2
   go_wp2_with (refine wpList_store_row rfl 27 (.tmp 12) (.tmp 46) rfl (w.heap.size + 1) zS rfl rfl 27 zS g1 infoSt rfl zS_all ?_)
   have HR : Hid _ := setRow_heap _ (w.heap.size + 1) _ _ _ zS g1
   refine bodyPost_ret (v := .tuple #[.agg zS,.bool false]) (results_c1 rfl _ _ (w.heap.size + 1) 27 zS (0,0) _ (.bool false) rfl rfl HR.out Tryz.underlying27 rfl infoSt) rfl ?_
   rw [HP.out,HN.out]
   exact bh_none gu (by omega)
  | true =>
   rw [e2] at HSt
   cases e3 : numB to_ s.zs.length with
   | false =>
    rw [e3] at HI2
    have HN : Hid (mvO s c fr fa to_ ta = none) := by unfold Hid mvO mvC; rw [if_neg (by simp [e3])]
    clear e1 e2 e3 HCo
    go_enter Tryz.func100,Tryz.ntmps100
    go_wp2_with fail
    first | (refine calls_world hW0 ?_; clear hW0) | skip
    refine Calls.mono (HI1.out _) ?_
    rintro r W1 ⟨rfl,rfl⟩
    go_wp2_with (first | (refine wpList_load_rowG (by rfl) 27 (.tmp 6) (by rfl) w.heap.size (by rfl) 27 A (0,0) _ g0 Tryz.underlying27 (by rfl) (by rw [hA1]; exact infoSt) ?_))
    refine Calls.mono (HSt.out _ gu) ?_
    rintro r W2 ⟨rfl,u2⟩
    have g0 := u2.heap g0
    have g1 := u2.heap g1
    have gu := gu.trans u2
    clear u2
    have c2 : W2.cell? ⟨w.heap.size,2,none⟩ = some (.slice a3 s.zs.length k3) := by rw [World.cell?,g0,HA0.out]; rfl
    go_wp2_with fail
    refine Calls.mono (HI2.out _) ?_
    rintro r W3 ⟨rfl,rfl⟩
    go_wp2_with (refine wpList_store_row rfl 27 (.tmp 12) (.tmp 46) rfl (w.heap.size + 1) zS rfl rfl 27 zS g1 infoSt rfl zS_all ?_)
    have HR : Hid _ := setRow_heap _ (w.heap.size + 1) _ _ _ zS g1
    refine bodyPost_ret (v := .tuple #[.agg zS,.bool false]) (results_c1 rfl _ _ (w.heap.size + 1) 27 zS (0,0) _ (.bool false) rfl rfl HR.out Tryz.underlying27 rfl infoSt) rfl ?_
    rw [HP.out,HN.out]
    exact bh_none gu (by omega)
   | true =>
    rw [e3] at HI2
    by_cases e4 : fr = to_ /\ fa = ta
    ·have HN : Hid (mvO s c fr fa to_ ta = none) := by unfold Hid mvO mvC; rw [if_neg (by simp [e4.1,e4.2])]
     obtain ⟨rfl,rfl⟩ := e4
     clear e1 e2 e3 HCo
     go_enter Tryz.func100,Tryz.ntmps100
     go_wp2_with fail
     first | (refine calls_world hW0 ?_; clear hW0) | skip
     refine Calls.mono (HI1.out _) ?_
     rintro r W1 ⟨rfl,rfl⟩
     go_wp2_with (first | (refine wpList_load_rowG (by rfl) 27 (.tmp 6) (by rfl) w.heap.size (by rfl) 27 A (0,0) _ g0 Tryz.underlying27 (by rfl) (by rw [hA1]; exact infoSt) ?_))
     refine Calls.mono (HSt.out _ gu) ?_
     rintro r W2 ⟨rfl,u2⟩
     have g0 := u2.heap g0
     have g1 := u2.heap g1
     have gu := gu.trans u2
     clear u2
     have c2 : W2.cell? ⟨w.heap.size,2,none⟩ = some (.slice a3 s.zs.length k3) := by rw [World.cell?,g0,HA0.out]; rfl
     go_wp2_with fail
     refine Calls.mono (HI2.out _) ?_
     rintro r W3 ⟨rfl,rfl⟩
     go_wp2_with (refine wpList_store_row rfl 27 (.tmp 12) (.tmp 46) rfl (w.heap.size + 1) zS rfl rfl 27 zS g1 infoSt rfl zS_all ?_)
     have HR : Hid _ := setRow_heap _ (w.heap.size + 1) _ _ _ zS g1
     refine bodyPost_ret (v := .tuple #[.agg zS,.bool false]) (results_c1 rfl _ _ (w.heap.size + 1) 27 zS (0,0) _ (.bool false) rfl rfl HR.out Tryz.underlying27 rfl infoSt) rfl ?_
     rw [HP.out,HN.out]
     exact bh_none gu (by omega)
    ·have HC0 : Hid (mvC s c fr fa to_ ta = true) := by
      unfold Hid mvC
      rw [e1,e2,e3]
      by_cases h9 : fr = to_
      ·have h8 : ¬ fa = ta := fun h=>e4 ⟨h9,h⟩
       simp [h8]
      ·simp [h9]
     have e2' := e2
     unfold standB at e2'
     simp only [Bool.and_eq_true] at e2'
     obtain ⟨i,rfl,hi⟩ := num_nat e2'.1
     obtain ⟨p,rfl,hp⟩ := num_nat e2'.2.1
     obtain ⟨j,rfl,hj⟩ := num_nat e3
     have e4' : (decide ((i : Int) = (j : Int)) && decide ((p : Int) = ta)) = false := by
      by_cases h9 : (i : Int) = (j : Int)
      ·have h8 : ¬ (p : Int) = ta := fun h=>e4 ⟨h9,h⟩
       simp [h8]
      ·simp [h9]
     have hzi : zn s (i : Int) = s.zs.getD i [] := by unfold zn; rw [Int.toNat_natCast]
     rw [hzi] at hp
     have HLi : Hid ((s.zs.getD i []).length <= 4294967296) := HSM.out.2.2.2 i hi
     have HMV : Hid (mvO s c (i : Int) (p : Int) (j : Int) ta = if 0 <= ta /\ ta <= (((s.zs.set i (cutL (s.zs.getD i []) p)).getD j []).length : Int) then some { s with zs := moveZ s.zs i p j ta.toNat c } else none) := by
      unfold Hid mvO
      rw [if_pos HC0.out]
      unfold cutS
      rw [hzi]
      unfold zn
      simp only [Int.toNat_natCast]
     have HLj : Hid (((s.zs.set i (cutL (s.zs.getD i []) p)).getD j []).length <= 4294967296) := by
      unfold Hid
      by_cases h9 : j = i
      ·subst h9
       rw [List.getD_eq_getElem?_getD,List.getElem?_set_self hi]
       have := HLi.out
       show (cutL (s.zs.getD j []) p).length <= _
       unfold cutL
       rw [List.length_append,List.length_take,List.length_drop]
       omega
      ·rw [List.getD_eq_getElem?_getD,List.getElem?_set_ne (fun h=>h9 h.symm),<- List.getD_eq_getElem?_getD]
       exact HSM.out.2.2.2 j hj
     clear e1 e2 e2' e3 HC0 hzi
     by_cases e5 : (i : Int) = (j : Int)
     ·have e6 : ¬ (p : Int) = ta := fun h=>e4 ⟨e5,h⟩
      have e5' : i = j := by omega
      subst e5'
      have e7 : ((p : Int) == ta) = false := beq_eq_false_iff_ne.2 e6
      clear e4 e4' e5
      go_enter Tryz.func100,Tryz.ntmps100
      go_wp2_with fail
      first | (refine calls_world hW0 ?_; clear hW0) | skip
      refine Calls.mono (HI1.out _) ?_
      rintro r W1 ⟨rfl,rfl⟩
      go_wp2_with (first | (refine wpList_load_rowG (by rfl) 27 (.tmp 6) (by rfl) w.heap.size (by rfl) 27 A (0,0) _ g0 Tryz.underlying27 (by rfl) (by rw [hA1]; exact infoSt) ?_))
      refine Calls.mono (HSt.out _ gu) ?_
      rintro r W2 ⟨rfl,u2⟩
      have g0 := u2.heap g0
      have g1 := u2.heap g1
      have gu := gu.trans u2
      clear u2
      have c2 : W2.cell? ⟨w.heap.size,2,none⟩ = some (.slice a3 s.zs.length k3) := by rw [World.cell?,g0,HA0.out]; rfl
      go_wp2_with fail
      refine Calls.mono (HI2.out _) ?_
      rintro r W3 ⟨rfl,rfl⟩
      clear HI1 HI2 HSt
      go_wp2_with (first | (refine wpList_load_row (by rfl) 27 (.tmp 6) (by rfl) w.heap.size (by rfl) 27 A (0,0) _ g0 Tryz.underlying27 (by rfl) (by rw [hA1]; exact infoSt) ?_))
      refine Calls.mono (HCo.out _ gu) ?_
      rintro r W4 ⟨v',rfl,so,u4⟩
      obtain ⟨C,rfl,h1C,h2C⟩ := SOA.row so
      have hbase : w.heap.size + 1 < W3.heap.size := (Array.getElem?_eq_some_iff.1 g1).1
      have hbs : W3.heap.size <= W4.heap.size := u4.size
      have g0 := u4.heap g0
      have g1 := u4.heap g1
      have hown := own_of so g0
      have hsz5 : (W4.setRow w.heap.size C).heap.size = W4.heap.size := setRow_size _ _ _
      obtain ⟨W5,hW5⟩ : ∃ W5,W4.setRow w.heap.size C = W5 := ⟨_,rfl⟩
      rw [hW5] at hown hsz5
      have g1 : W5.heap[w.heap.size + 1]? = some (.cells zS 27 (0,0)) := by rw [<- hW5,setRow_other _ _ _ _ (by omega)]; exact g1
      have HU5 : Hid (Up w W5) := by rw [<- hW5]; exact up_setRow (gu.trans u4) (Nat.le_refl _) _
      obtain ⟨gz,cap,vp,vc,ra,rc,h1,hil,hgB,h2,h3⟩ := zone_put (B := w.heap.size) (B' := W3.heap.size) hown (by omega) (Nat.le_refl _) (Nat.le_refl _) i hi
      obtain ⟨l1,hl1⟩ : ∃ l1,l1 = s.zs.getD i [] := ⟨_,rfl⟩
      have HL1 : Hid (l1 = s.zs.getD i []) := hl1
      rw [<- hl1] at hil h2
      have HLi1 : Hid (l1.length <= 4294967296) := by rw [hl1]; exact HLi.out
      obtain ⟨d0,d1,c2,-⟩ := seven_cells h1
      obtain ⟨z1,zf,hgb⟩ := h2 W5 (Up.refl _)
      have hgl : gz < W5.heap.size := World.block_lt_of_cell? W5 _ z1
      have hi2 : (i : Int) < (s.zs.length : Int) := by omega
      have HWo : Hid (Calls Tryz.prog 179 #[.slice ra l1.length rc,.int .i64 (p : Int)] W5.drew fun r W9=>∃ xa xk m9,r = .returned (.slice xa m9 xk) /\ W9.cell? ⟨w.heap.size,2,none⟩ = some (.slice (some ⟨gz,0,none⟩) s.zs.length cap) /\ W9.cell? ⟨gz,i,none⟩ = some (.slice ra l1.length rc) /\ (∀ j,W9.frozen? ⟨gz,j,none⟩ = false) /\ Hid (Did w.heap.size W3.heap.size w.heap.size { s with zs := s.zs.set i (cutL l1 p) } W5 (W9.setCell ⟨gz,i,none⟩ (.slice xa m9 xk)) /\ (W9.setCell ⟨gz,i,none⟩ (.slice xa m9 xk)).heap[w.heap.size + 1]? = some (.cells zS 27 (0,0)))) := by
       have ud : Up W5 W5.drew := (Up.refl _).drew
       refine Calls.mono (without_ _ _ p W5.drew (hil.up ud) HLi1.out) ?_
       rintro r W9 ⟨x,rfl,hx,u9⟩
       have u9' := ud.trans u9
       obtain ⟨xa,xk,hxa⟩ := row_val hx
       have hk := h3 W9 x _ u9' (own_less hx (by have := ud.size; omega)) (fun g hg=>.inr (Nat.le_trans ud.size (World.ownsRow.lt hx g hg).1))
       obtain ⟨y1,y2,-⟩ := h2 W9 u9'
       subst hxa
       exact ⟨xa,xk,_,rfl,u9'.cell c2,y1,y2,hk,set_other (u9'.heap g1) (by omega)⟩
      have c2s : W5.drew.cell? ⟨w.heap.size,2,none⟩ = some (.slice (some ⟨gz,0,none⟩) s.zs.length cap) := c2
      have z1s : W5.drew.cell? ⟨gz,i,none⟩ = some (.slice ra l1.length rc) := z1
      clear so hown u4 h1 h2 h3 hil d0 d1 HCo hl1
      go_wp2_with (first | (refine wpList_store_row rfl 27 (.tmp 6) (.tmp 48) rfl w.heap.size C rfl rfl 27 A g0 (by rw [h1C]; exact infoSt) (by rw [h1C,hA1]) h2C ?_; refine wpList_world hW5 ?_))
      refine wp_region_held_drew (S := fun W'=>W'.cell? ⟨w.heap.size,2,none⟩ = some (.slice (some ⟨gz,0,none⟩) s.zs.length cap) /\ True) (by kernel_rfl) ⟨c2s,trivial⟩ (fun hHeld=>?_)
      refine tk (i := 0) (v := ?_) rfl (Or.inl ⟨by rfl,?_⟩) ?_
      rotate_left
      ·intro w9 hSw
       obtain ⟨hSw1,hSw2⟩ := hSw
       go_simp
       try with_reducible rfl
      simp only [Act.put,qa1,qa2,qa3,qa4,qa5]
      refine tk (i := 1) (v := ?_) rfl (Or.inl ⟨by rfl,?_⟩) ?_
      rotate_left
      ·intro w9 hSw
       obtain ⟨hSw1,hSw2⟩ := hSw
       go_simp
       try with_reducible rfl
      simp only [Act.put,qa1,qa2,qa3,qa4,qa5,qa6]
      refine tk (i := 2) (v := ?_) rfl (Or.inl ⟨by rfl,?_⟩) ?_
      rotate_left
      ·intro w9 hSw
       obtain ⟨hSw1,hSw2⟩ := hSw
       go_simp
       try with_reducible rfl
      simp only [Act.put,qa1,qa2,qa3,qa4,qa5,qa6]
      refine tk (i := 3) (v := ?_) rfl (Or.inl ⟨by rfl,?_⟩) ?_
      rotate_left
      ·intro w9 hSw
       obtain ⟨hSw1,hSw2⟩ := hSw
       go_simp
       try with_reducible rfl
      simp only [Act.put,qa1,qa2,qa3,qa4,qa5,qa6]
      refine tk (i := 4) (v := ?_) rfl (Or.inl ⟨by rfl,?_⟩) ?_
      rotate_left
      ·intro w9 hSw
       obtain ⟨hSw1,hSw2⟩ := hSw
       go_simp
       try with_reducible rfl
      simp only [Act.put,qa1,qa2,qa3,qa4,qa5,qa6]
      refine tk (i := 5) (v := ?_) rfl (Or.inl ⟨by rfl,?_⟩) ?_
      rotate_left
      ·intro w9 hSw
       obtain ⟨hSw1,hSw2⟩ := hSw
       go_simp
       try with_reducible rfl
      simp only [Act.put,qa1,qa2,qa3,qa4,qa5,qa6]
      refine tk (i := 6) (v := ?_) rfl (Or.inl ⟨by rfl,?_⟩) ?_
      rotate_left
      ·intro w9 hSw
       obtain ⟨hSw1,hSw2⟩ := hSw
       go_simp
       try with_reducible rfl
      simp only [Act.put,qa1,qa2,qa3,qa4,qa5,qa6]
      refine tk (i := 8) (v := ?_) rfl (Or.inl ⟨by rfl,?_⟩) ?_
      rotate_left
      ·intro w9 hSw
       obtain ⟨hSw1,hSw2⟩ := hSw
       go_simp
       try with_reducible rfl
      simp only [Act.put,qa1,qa2,qa3,qa4,qa5,qa6]
      refine wpAnyH_ready (rs := [7]) (by kernel_rfl) (by simp) ?_
      refine AllReadyH.cons rfl (fun K hK=>?_) AllReadyH.nil
      simp only [qa4,qa5,qa6]
      go_simp
      refine hK.out _ _ ?_ (fun hHeld=>?_)
      ·exact ⟨c2s,trivial⟩
      clear hK K
      try simp only [Act.put,qa1,qa2,qa3]
      refine wpAnyH_ready (rs := [9]) (by kernel_rfl) (by simp) ?_
      refine AllReadyH.cons rfl (fun K hK=>?_) AllReadyH.nil
      simp only [qa4,qa5,qa6]
      go_simp
      refine Calls.mono HWo.out ?_
      rintro r W9 ⟨xa,xk,m9,rfl,y1,y2,y3,hk4⟩
      go_simp
      refine hK.out _ _ ?_ (fun hHeld=>?_)
      ·exact ⟨y1,trivial⟩
      clear hK K
      try simp only [Act.put,qa1,qa2,qa3]
      refine tk (i := 10) (v := ?_) rfl (Or.inl ⟨by rfl,?_⟩) ?_
      rotate_left
      ·intro w9 hSw
       obtain ⟨hSw1,hSw2⟩ := hSw
       go_simp
       try with_reducible rfl
      simp only [Act.put,qa1,qa2,qa3,qa4,qa5,qa6]
      refine wpAnyH_ready (rs := [11]) (by kernel_rfl) (by simp) ?_
      refine AllReadyH.cons rfl (fun K hK=>?_) AllReadyH.nil
      simp only [qa4,qa5,qa6]
      go_simp
      refine hK.out _ _ ?_ (fun hHeld=>?_)
      ·exact ⟨cell_set_ne y1 (fun h=>hgb h.symm),trivial⟩
      clear hK K
      refine wpAnyH_done (by kernel_rfl) ?_ _
      have hk := hk4.out
      clear hk4 hHeld y1 y2 y3 z1 z1s zf c2 c2s HWo g1
      revert hk
      generalize W9.setCell _ _ = W6
      intro hk
      rw [HL1.out] at hk
      obtain ⟨hD,g1⟩ := hk
      have hown := hD.1
      have gu : Up w W6 := Below.trans HU5.out hD.2.1
      have hbs6 : W3.heap.size <= W6.heap.size := by have := hD.2.1.size; omega
      obtain ⟨gz,cap,vp,vc,ra,rc,h1,hil,hgB,h2,h3⟩ := zone_put (B := w.heap.size) (B' := W3.heap.size) hown (by omega) (Nat.le_refl _) (Nat.le_refl _) i (by simpa using hi)
      dsimp only at h1 hil h2 h3
      rw [List.length_set] at h1
      obtain ⟨d0,d1,c2,-⟩ := seven_cells h1
      obtain ⟨z1,zf,hgb⟩ := h2 W6 (Up.refl _)
      have hgl : gz < W6.heap.size := World.block_lt_of_cell? W6 _ z1
      have hj2 : (i : Int) < (s.zs.length : Int) := by omega
      have HLN : Hid _ := HLj.out
      obtain ⟨l2,hl2⟩ : ∃ l2,l2 = (s.zs.set i (cutL (s.zs.getD i []) p)).getD i [] := ⟨_,rfl⟩
      have HL2 : Hid _ := hl2
      rw [<- hl2] at hil h2 z1 HMV HLN
      by_cases e8 : 0 <= ta
      ·obtain ⟨q,rfl⟩ : ∃ q : Nat,ta = (q : Int) := ⟨ta.toNat,by omega⟩
       have e8' : ¬ (q : Int) < 0 := by omega
       have e8d : decide ((q : Int) < 0) = false := decide_eq_false e8'
       by_cases e9 : q <= l2.length
       ·have e9' : ¬ (l2.length : Int) < (q : Int) := by omega
        have HN : Hid (mvO s c (i : Int) (p : Int) (i : Int) (q : Int) = some { s with zs := moveZ s.zs i p i q c }) := by unfold Hid; rw [HMV.out,if_pos ⟨by omega,by omega⟩,Int.toNat_natCast]
        have HWi : Hid (Calls Tryz.prog 180 #[.slice ra l2.length rc,.int .i64 (q : Int),.int .i64 c] W6.drew fun r W9=>∃ xa xk m9,r = .returned (.slice xa m9 xk) /\ W9.cell? ⟨w.heap.size,2,none⟩ = some (.slice (some ⟨gz,0,none⟩) s.zs.length cap) /\ W9.cell? ⟨gz,i,none⟩ = some (.slice ra l2.length rc) /\ (∀ j,W9.frozen? ⟨gz,j,none⟩ = false) /\ Hid (Did w.heap.size W3.heap.size w.heap.size { s with zs := moveZ s.zs i p i q c } W6 (W9.setCell ⟨gz,i,none⟩ (.slice xa m9 xk)) /\ (W9.setCell ⟨gz,i,none⟩ (.slice xa m9 xk)).heap[w.heap.size + 1]? = some (.cells zS 27 (0,0)))) := by
         have ud : Up W6 W6.drew := (Up.refl _).drew
         refine Calls.mono (with_ _ _ q c W6.drew (hil.up ud) HLN.out e9) ?_
         rintro r W9 ⟨x,rfl,hx,u9⟩
         have u9' := ud.trans u9
         obtain ⟨xa,xk,hxa⟩ := row_val hx
         have hk := h3 W9 x _ u9' (own_less hx (by have := ud.size; omega)) (fun g hg=>.inr (Nat.le_trans ud.size (World.ownsRow.lt hx g hg).1))
         obtain ⟨y1,y2,-⟩ := h2 W9 u9'
         subst hxa
         refine ⟨xa,xk,_,rfl,u9'.cell c2,y1,y2,?_,set_other (u9'.heap g1) (by omega)⟩
         unfold moveZ
         rw [<- HL2.out]
         exact hk
        have c2s : W6.drew.cell? ⟨w.heap.size,2,none⟩ = some (.slice (some ⟨gz,0,none⟩) s.zs.length cap) := c2
        have z1s : W6.drew.cell? ⟨gz,i,none⟩ = some (.slice ra l2.length rc) := z1
        clear hown h1 h2 h3 hil d0 d1 hl2 hD HLi HLj HMV
        go_wp2_with fail
        refine wp_region_held_drew (S := fun W'=>W'.cell? ⟨w.heap.size,2,none⟩ = some (.slice (some ⟨gz,0,none⟩) s.zs.length cap) /\ True) (by kernel_rfl) ⟨c2s,trivial⟩ (fun hHeld=>?_)
        refine tk (i := 0) (v := ?_) rfl (Or.inl ⟨by rfl,?_⟩) ?_
        rotate_left
        ·intro w9 hSw
         obtain ⟨hSw1,hSw2⟩ := hSw
         go_simp
         try with_reducible rfl
        simp only [Act.put,qa1,qa2,qa3,qa4,qa5]
        refine tk (i := 1) (v := ?_) rfl (Or.inl ⟨by rfl,?_⟩) ?_
        rotate_left
        ·intro w9 hSw
         obtain ⟨hSw1,hSw2⟩ := hSw
         go_simp
         try with_reducible rfl
        simp only [Act.put,qa1,qa2,qa3,qa4,qa5,qa6]
        refine tk (i := 2) (v := ?_) rfl (Or.inl ⟨by rfl,?_⟩) ?_
        rotate_left
        ·intro w9 hSw
         obtain ⟨hSw1,hSw2⟩ := hSw
         go_simp
         try with_reducible rfl
        simp only [Act.put,qa1,qa2,qa3,qa4,qa5,qa6]
        refine tk (i := 3) (v := ?_) rfl (Or.inl ⟨by rfl,?_⟩) ?_
        rotate_left
        ·intro w9 hSw
         obtain ⟨hSw1,hSw2⟩ := hSw
         go_simp
         try with_reducible rfl
        simp only [Act.put,qa1,qa2,qa3,qa4,qa5,qa6]
        refine tk (i := 4) (v := ?_) rfl (Or.inl ⟨by rfl,?_⟩) ?_
        rotate_left
        ·intro w9 hSw
         obtain ⟨hSw1,hSw2⟩ := hSw
         go_simp
         try with_reducible rfl
        simp only [Act.put,qa1,qa2,qa3,qa4,qa5,qa6]
        refine tk (i := 5) (v := ?_) rfl (Or.inl ⟨by rfl,?_⟩) ?_
        rotate_left
        ·intro w9 hSw
         obtain ⟨hSw1,hSw2⟩ := hSw
         go_simp
         try with_reducible rfl
        simp only [Act.put,qa1,qa2,qa3,qa4,qa5,qa6]
        refine tk (i := 6) (v := ?_) rfl (Or.inl ⟨by rfl,?_⟩) ?_
        rotate_left
        ·intro w9 hSw
         obtain ⟨hSw1,hSw2⟩ := hSw
         go_simp
         try with_reducible rfl
        simp only [Act.put,qa1,qa2,qa3,qa4,qa5,qa6]
        refine tk (i := 8) (v := ?_) rfl (Or.inl ⟨by rfl,?_⟩) ?_
        rotate_left
        ·intro w9 hSw
         obtain ⟨hSw1,hSw2⟩ := hSw
         go_simp
         try with_reducible rfl
        simp only [Act.put,qa1,qa2,qa3,qa4,qa5,qa6]
        refine tk (i := 9) (v := ?_) rfl (Or.inl ⟨by rfl,?_⟩) ?_
        rotate_left
        ·intro w9 hSw
         obtain ⟨hSw1,hSw2⟩ := hSw
         go_simp
         try with_reducible rfl
        simp only [Act.put,qa1,qa2,qa3,qa4,qa5,qa6]
        refine wpAnyH_ready (rs := [7]) (by kernel_rfl) (by simp) ?_
        refine AllReadyH.cons rfl (fun K hK=>?_) AllReadyH.nil
        simp only [qa4,qa5,qa6]
        go_simp
        refine hK.out _ _ ?_ (fun hHeld=>?_)
        ·exact ⟨c2s,trivial⟩
        clear hK K
        try simp only [Act.put,qa1,qa2,qa3]
        refine wpAnyH_ready (rs := [10]) (by kernel_rfl) (by simp) ?_
        refine AllReadyH.cons rfl (fun K hK=>?_) AllReadyH.nil
        simp only [qa4,qa5,qa6]
        go_simp
        refine Calls.mono HWi.out ?_
        rintro r W9 ⟨xa,xk,m9,rfl,y1,y2,y3,hk4⟩
        go_simp
        refine hK.out _ _ ?_ (fun hHeld=>?_)
        ·exact ⟨y1,trivial⟩
        clear hK K
        try simp only [Act.put,qa1,qa2,qa3]
        refine tk (i := 11) (v := ?_) rfl (Or.inl ⟨by rfl,?_⟩) ?_
        rotate_left
        ·intro w9 hSw
         obtain ⟨hSw1,hSw2⟩ := hSw
         go_simp
         try with_reducible rfl
        simp only [Act.put,qa1,qa2,qa3,qa4,qa5,qa6]
        refine wpAnyH_ready (rs := [12]) (by kernel_rfl) (by simp) ?_
        refine AllReadyH.cons rfl (fun K hK=>?_) AllReadyH.nil
        simp only [qa4,qa5,qa6]
        go_simp
        refine hK.out _ _ ?_ (fun hHeld=>?_)
        ·exact ⟨cell_set_ne y1 (fun h=>hgb h.symm),trivial⟩
        clear hK K
        refine wpAnyH_done (by kernel_rfl) ?_ _
        have hk := hk4.out
        clear hk4 hHeld y1 y2 y3 z1 z1s zf c2 c2s HWi g1
        revert hk
        generalize W9.setCell _ _ = W7
        intro hk
        obtain ⟨hD,g1⟩ := hk
        obtain ⟨C7,r7,h17,h27,so7⟩ := own_row hD.1
        have HU7 : Hid (Up w W7) := Below.trans gu hD.2.1
        have HSO : Hid (SOA w.heap.size W7 (.agg C7) { s with zs := moveZ s.zs i p i q c }) := so7.less (by omega)
        have HR : Hid _ := setRow_heap W7 (w.heap.size + 1) _ _ _ C7 g1
        clear hD so7
        go_wp2_with (first | (refine wpList_load_row (by rfl) 27 (.tmp 6) (by rfl) w.heap.size (by rfl) 27 C7 (0,0) _ r7 Tryz.underlying27 (by rfl) (by rw [h17]; exact infoSt) ?_) | (refine wpList_store_row rfl 27 (.tmp 12) (.tmp 85) rfl (w.heap.size + 1) C7 rfl rfl 27 zS g1 (by rw [h17]; exact infoSt) (by rw [h17]; rfl) h27 ?_))
        refine bodyPost_ret (v := .tuple #[.agg C7,.bool true]) (results_c1 rfl _ _ (w.heap.size + 1) 27 C7 (0,0) _ (.bool true) rfl rfl HR.out Tryz.underlying27 rfl (by rw [h17]; exact infoSt)) rfl ?_
        rw [HP.out,HN.out]
        exact ⟨C7,rfl,h17,h27,SOA.setRow HSO.out g1,up_setRow HU7.out (by omega) _⟩
       ·have e9' : (l2.length : Int) < (q : Int) := by omega
        have HN : Hid (mvO s c (i : Int) (p : Int) (i : Int) (q : Int) = none) := by unfold Hid; rw [HMV.out,if_neg (by omega)]
        clear hown h1 h2 h3 hil d0 d1 hl2 hD HLi HLj HMV
        go_wp2_with (refine wpList_store_row rfl 27 (.tmp 12) (.tmp 72) rfl (w.heap.size + 1) zS rfl rfl 27 zS g1 infoSt rfl zS_all ?_)
        have HR : Hid _ := setRow_heap _ (w.heap.size + 1) _ _ _ zS g1
        refine bodyPost_ret (v := .tuple #[.agg zS,.bool false]) (results_c1 rfl _ _ (w.heap.size + 1) 27 zS (0,0) _ (.bool false) rfl rfl HR.out Tryz.underlying27 rfl infoSt) rfl ?_
        rw [HP.out,HN.out]
        exact bh_none gu (by omega)
      ·have e8' : ta < 0 := by omega
       have e8d : decide (ta < 0) = true := decide_eq_true e8'
       have HN : Hid (mvO s c (i : Int) (p : Int) (i : Int) ta = none) := by unfold Hid; rw [HMV.out,if_neg (by omega)]
       clear hown h1 h2 h3 hil d0 d1 hl2 hD HLi HLj HMV
       go_wp2_with (refine wpList_store_row rfl 27 (.tmp 12) (.tmp 72) rfl (w.heap.size + 1) zS rfl rfl 27 zS g1 infoSt rfl zS_all ?_)
       have HR : Hid _ := setRow_heap _ (w.heap.size + 1) _ _ _ zS g1
       refine bodyPost_ret (v := .tuple #[.agg zS,.bool false]) (results_c1 rfl _ _ (w.heap.size + 1) 27 zS (0,0) _ (.bool false) rfl rfl HR.out Tryz.underlying27 rfl infoSt) rfl ?_
       rw [HP.out,HN.out]
       exact bh_none gu (by omega)
     ·have e7 : ((i : Int) == (j : Int)) = false := beq_eq_false_iff_ne.2 e5
      have e5' : i ≠ j := by omega
      clear e4 e4'
      go_enter Tryz.func100,Tryz.ntmps100
      go_wp2_with fail
      first | (refine calls_world hW0 ?_; clear hW0) | skip
      refine Calls.mono (HI1.out _) ?_
      rintro r W1 ⟨rfl,rfl⟩
      go_wp2_with (first | (refine wpList_load_rowG (by rfl) 27 (.tmp 6) (by rfl) w.heap.size (by rfl) 27 A (0,0) _ g0 Tryz.underlying27 (by rfl) (by rw [hA1]; exact infoSt) ?_))
      refine Calls.mono (HSt.out _ gu) ?_
      rintro r W2 ⟨rfl,u2⟩
      have g0 := u2.heap g0
      have g1 := u2.heap g1
      have gu := gu.trans u2
      clear u2
      have c2 : W2.cell? ⟨w.heap.size,2,none⟩ = some (.slice a3 s.zs.length k3) := by rw [World.cell?,g0,HA0.out]; rfl
      go_wp2_with fail
      refine Calls.mono (HI2.out _) ?_
      rintro r W3 ⟨rfl,rfl⟩
      clear HI1 HI2 HSt
      go_wp2_with (first | (refine wpList_load_row (by rfl) 27 (.tmp 6) (by rfl) w.heap.size (by rfl) 27 A (0,0) _ g0 Tryz.underlying27 (by rfl) (by rw [hA1]; exact infoSt) ?_))
      refine Calls.mono (HCo.out _ gu) ?_
      rintro r W4 ⟨v',rfl,so,u4⟩
      obtain ⟨C,rfl,h1C,h2C⟩ := SOA.row so
      have hbase : w.heap.size + 1 < W3.heap.size := (Array.getElem?_eq_some_iff.1 g1).1
      have hbs : W3.heap.size <= W4.heap.size := u4.size
      have g0 := u4.heap g0
      have g1 := u4.heap g1
      have hown := own_of so g0
      have hsz5 : (W4.setRow w.heap.size C).heap.size = W4.heap.size := setRow_size _ _ _
      obtain ⟨W5,hW5⟩ : ∃ W5,W4.setRow w.heap.size C = W5 := ⟨_,rfl⟩
      rw [hW5] at hown hsz5
      have g1 : W5.heap[w.heap.size + 1]? = some (.cells zS 27 (0,0)) := by rw [<- hW5,setRow_other _ _ _ _ (by omega)]; exact g1
      have HU5 : Hid (Up w W5) := by rw [<- hW5]; exact up_setRow (gu.trans u4) (Nat.le_refl _) _
      obtain ⟨gz,cap,vp,vc,ra,rc,h1,hil,hgB,h2,h3⟩ := zone_put (B := w.heap.size) (B' := W3.heap.size) hown (by omega) (Nat.le_refl _) (Nat.le_refl _) i hi
      obtain ⟨l1,hl1⟩ : ∃ l1,l1 = s.zs.getD i [] := ⟨_,rfl⟩
      have HL1 : Hid (l1 = s.zs.getD i []) := hl1
      rw [<- hl1] at hil h2
      have HLi1 : Hid (l1.length <= 4294967296) := by rw [hl1]; exact HLi.out
      obtain ⟨d0,d1,c2,-⟩ := seven_cells h1
      obtain ⟨z1,zf,hgb⟩ := h2 W5 (Up.refl _)
      have hgl : gz < W5.heap.size := World.block_lt_of_cell? W5 _ z1
      have hi2 : (i : Int) < (s.zs.length : Int) := by omega
      have HWo : Hid (Calls Tryz.prog 179 #[.slice ra l1.length rc,.int .i64 (p : Int)] W5.drew fun r W9=>∃ xa xk m9,r = .returned (.slice xa m9 xk) /\ W9.cell? ⟨w.heap.size,2,none⟩ = some (.slice (some ⟨gz,0,none⟩) s.zs.length cap) /\ W9.cell? ⟨gz,i,none⟩ = some (.slice ra l1.length rc) /\ (∀ j,W9.frozen? ⟨gz,j,none⟩ = false) /\ Hid (Did w.heap.size W3.heap.size w.heap.size { s with zs := s.zs.set i (cutL l1 p) } W5 (W9.setCell ⟨gz,i,none⟩ (.slice xa m9 xk)) /\ (W9.setCell ⟨gz,i,none⟩ (.slice xa m9 xk)).heap[w.heap.size + 1]? = some (.cells zS 27 (0,0)))) := by
       have ud : Up W5 W5.drew := (Up.refl _).drew
       refine Calls.mono (without_ _ _ p W5.drew (hil.up ud) HLi1.out) ?_
       rintro r W9 ⟨x,rfl,hx,u9⟩
       have u9' := ud.trans u9
       obtain ⟨xa,xk,hxa⟩ := row_val hx
       have hk := h3 W9 x _ u9' (own_less hx (by have := ud.size; omega)) (fun g hg=>.inr (Nat.le_trans ud.size (World.ownsRow.lt hx g hg).1))
       obtain ⟨y1,y2,-⟩ := h2 W9 u9'
       subst hxa
       exact ⟨xa,xk,_,rfl,u9'.cell c2,y1,y2,hk,set_other (u9'.heap g1) (by omega)⟩
      have c2s : W5.drew.cell? ⟨w.heap.size,2,none⟩ = some (.slice (some ⟨gz,0,none⟩) s.zs.length cap) := c2
      have z1s : W5.drew.cell? ⟨gz,i,none⟩ = some (.slice ra l1.length rc) := z1
      clear so hown u4 h1 h2 h3 hil d0 d1 HCo hl1
      go_wp2_with (first | (refine wpList_store_row rfl 27 (.tmp 6) (.tmp 48) rfl w.heap.size C rfl rfl 27 A g0 (by rw [h1C]; exact infoSt) (by rw [h1C,hA1]) h2C ?_; refine wpList_world hW5 ?_))
      refine wp_region_held_drew (S := fun W'=>W'.cell? ⟨w.heap.size,2,none⟩ = some (.slice (some ⟨gz,0,none⟩) s.zs.length cap) /\ True) (by kernel_rfl) ⟨c2s,trivial⟩ (fun hHeld=>?_)
      refine tk (i := 0) (v := ?_) rfl (Or.inl ⟨by rfl,?_⟩) ?_
      rotate_left
      ·intro w9 hSw
       obtain ⟨hSw1,hSw2⟩ := hSw
       go_simp
       try with_reducible rfl
      simp only [Act.put,qa1,qa2,qa3,qa4,qa5]
      refine tk (i := 1) (v := ?_) rfl (Or.inl ⟨by rfl,?_⟩) ?_
      rotate_left
      ·intro w9 hSw
       obtain ⟨hSw1,hSw2⟩ := hSw
       go_simp
       try with_reducible rfl
      simp only [Act.put,qa1,qa2,qa3,qa4,qa5,qa6]
      refine tk (i := 2) (v := ?_) rfl (Or.inl ⟨by rfl,?_⟩) ?_
      rotate_left
      ·intro w9 hSw
       obtain ⟨hSw1,hSw2⟩ := hSw
       go_simp
       try with_reducible rfl
      simp only [Act.put,qa1,qa2,qa3,qa4,qa5,qa6]
      refine tk (i := 3) (v := ?_) rfl (Or.inl ⟨by rfl,?_⟩) ?_
      rotate_left
      ·intro w9 hSw
       obtain ⟨hSw1,hSw2⟩ := hSw
       go_simp
       try with_reducible rfl
      simp only [Act.put,qa1,qa2,qa3,qa4,qa5,qa6]
      refine tk (i := 4) (v := ?_) rfl (Or.inl ⟨by rfl,?_⟩) ?_
      rotate_left
      ·intro w9 hSw
       obtain ⟨hSw1,hSw2⟩ := hSw
       go_simp
       try with_reducible rfl
      simp only [Act.put,qa1,qa2,qa3,qa4,qa5,qa6]
      refine tk (i := 5) (v := ?_) rfl (Or.inl ⟨by rfl,?_⟩) ?_
      rotate_left
      ·intro w9 hSw
       obtain ⟨hSw1,hSw2⟩ := hSw
       go_simp
       try with_reducible rfl
      simp only [Act.put,qa1,qa2,qa3,qa4,qa5,qa6]
      refine tk (i := 6) (v := ?_) rfl (Or.inl ⟨by rfl,?_⟩) ?_
      rotate_left
      ·intro w9 hSw
       obtain ⟨hSw1,hSw2⟩ := hSw
       go_simp
       try with_reducible rfl
      simp only [Act.put,qa1,qa2,qa3,qa4,qa5,qa6]
      refine tk (i := 8) (v := ?_) rfl (Or.inl ⟨by rfl,?_⟩) ?_
      rotate_left
      ·intro w9 hSw
       obtain ⟨hSw1,hSw2⟩ := hSw
       go_simp
       try with_reducible rfl
      simp only [Act.put,qa1,qa2,qa3,qa4,qa5,qa6]
      refine wpAnyH_ready (rs := [7]) (by kernel_rfl) (by simp) ?_
      refine AllReadyH.cons rfl (fun K hK=>?_) AllReadyH.nil
      simp only [qa4,qa5,qa6]
      go_simp
      refine hK.out _ _ ?_ (fun hHeld=>?_)
      ·exact ⟨c2s,trivial⟩
      clear hK K
      try simp only [Act.put,qa1,qa2,qa3]
      refine wpAnyH_ready (rs := [9]) (by kernel_rfl) (by simp) ?_
      refine AllReadyH.cons rfl (fun K hK=>?_) AllReadyH.nil
      simp only [qa4,qa5,qa6]
      go_simp
      refine Calls.mono HWo.out ?_
      rintro r W9 ⟨xa,xk,m9,rfl,y1,y2,y3,hk4⟩
      go_simp
      refine hK.out _ _ ?_ (fun hHeld=>?_)
      ·exact ⟨y1,trivial⟩
      clear hK K
      try simp only [Act.put,qa1,qa2,qa3]
      refine tk (i := 10) (v := ?_) rfl (Or.inl ⟨by rfl,?_⟩) ?_
      rotate_left
      ·intro w9 hSw
       obtain ⟨hSw1,hSw2⟩ := hSw
       go_simp
       try with_reducible rfl
      simp only [Act.put,qa1,qa2,qa3,qa4,qa5,qa6]
      refine wpAnyH_ready (rs := [11]) (by kernel_rfl) (by simp) ?_
      refine AllReadyH.cons rfl (fun K hK=>?_) AllReadyH.nil
      simp only [qa4,qa5,qa6]
      go_simp
      refine hK.out _ _ ?_ (fun hHeld=>?_)
      ·exact ⟨cell_set_ne y1 (fun h=>hgb h.symm),trivial⟩
      clear hK K
      refine wpAnyH_done (by kernel_rfl) ?_ _
      have hk := hk4.out
      clear hk4 hHeld y1 y2 y3 z1 z1s zf c2 c2s HWo g1
      revert hk
      generalize W9.setCell _ _ = W6
      intro hk
      rw [HL1.out] at hk
      obtain ⟨hD,g1⟩ := hk
      have hown := hD.1
      have gu : Up w W6 := Below.trans HU5.out hD.2.1
      have hbs6 : W3.heap.size <= W6.heap.size := by have := hD.2.1.size; omega
      obtain ⟨gz,cap,vp,vc,ra,rc,h1,hil,hgB,h2,h3⟩ := zone_put (B := w.heap.size) (B' := W3.heap.size) hown (by omega) (Nat.le_refl _) (Nat.le_refl _) j (by simpa using hj)
      dsimp only at h1 hil h2 h3
      rw [List.length_set] at h1
      obtain ⟨d0,d1,c2,-⟩ := seven_cells h1
      obtain ⟨z1,zf,hgb⟩ := h2 W6 (Up.refl _)
      have hgl : gz < W6.heap.size := World.block_lt_of_cell? W6 _ z1
      have hj2 : (j : Int) < (s.zs.length : Int) := by omega
      have HLN : Hid _ := HLj.out
      obtain ⟨l2,hl2⟩ : ∃ l2,l2 = (s.zs.set i (cutL (s.zs.getD i []) p)).getD j [] := ⟨_,rfl⟩
      have HL2 : Hid _ := hl2
      rw [<- hl2] at hil h2 z1 HMV HLN
      by_cases e8 : 0 <= ta
      ·obtain ⟨q,rfl⟩ : ∃ q : Nat,ta = (q : Int) := ⟨ta.toNat,by omega⟩
       have e8' : ¬ (q : Int) < 0 := by omega
       have e8d : decide ((q : Int) < 0) = false := decide_eq_false e8'
       by_cases e9 : q <= l2.length
       ·have e9' : ¬ (l2.length : Int) < (q : Int) := by omega
        have HN : Hid (mvO s c (i : Int) (p : Int) (j : Int) (q : Int) = some { s with zs := moveZ s.zs i p j q c }) := by unfold Hid; rw [HMV.out,if_pos ⟨by omega,by omega⟩,Int.toNat_natCast]
        have HWi : Hid (Calls Tryz.prog 180 #[.slice ra l2.length rc,.int .i64 (q : Int),.int .i64 c] W6.drew fun r W9=>∃ xa xk m9,r = .returned (.slice xa m9 xk) /\ W9.cell? ⟨w.heap.size,2,none⟩ = some (.slice (some ⟨gz,0,none⟩) s.zs.length cap) /\ W9.cell? ⟨gz,j,none⟩ = some (.slice ra l2.length rc) /\ (∀ j,W9.frozen? ⟨gz,j,none⟩ = false) /\ Hid (Did w.heap.size W3.heap.size w.heap.size { s with zs := moveZ s.zs i p j q c } W6 (W9.setCell ⟨gz,j,none⟩ (.slice xa m9 xk)) /\ (W9.setCell ⟨gz,j,none⟩ (.slice xa m9 xk)).heap[w.heap.size + 1]? = some (.cells zS 27 (0,0)))) := by
         have ud : Up W6 W6.drew := (Up.refl _).drew
         refine Calls.mono (with_ _ _ q c W6.drew (hil.up ud) HLN.out e9) ?_
         rintro r W9 ⟨x,rfl,hx,u9⟩
         have u9' := ud.trans u9
         obtain ⟨xa,xk,hxa⟩ := row_val hx
         have hk := h3 W9 x _ u9' (own_less hx (by have := ud.size; omega)) (fun g hg=>.inr (Nat.le_trans ud.size (World.ownsRow.lt hx g hg).1))
         obtain ⟨y1,y2,-⟩ := h2 W9 u9'
         subst hxa
         refine ⟨xa,xk,_,rfl,u9'.cell c2,y1,y2,?_,set_other (u9'.heap g1) (by omega)⟩
         unfold moveZ
         rw [<- HL2.out]
         exact hk
        have c2s : W6.drew.cell? ⟨w.heap.size,2,none⟩ = some (.slice (some ⟨gz,0,none⟩) s.zs.length cap) := c2
        have z1s : W6.drew.cell? ⟨gz,j,none⟩ = some (.slice ra l2.length rc) := z1
        clear hown h1 h2 h3 hil d0 d1 hl2 hD HLi HLj HMV
        go_wp2_with fail
        refine wp_region_held_drew (S := fun W'=>W'.cell? ⟨w.heap.size,2,none⟩ = some (.slice (some ⟨gz,0,none⟩) s.zs.length cap) /\ True) (by kernel_rfl) ⟨c2s,trivial⟩ (fun hHeld=>?_)
        refine tk (i := 0) (v := ?_) rfl (Or.inl ⟨by rfl,?_⟩) ?_
        rotate_left
        ·intro w9 hSw
         obtain ⟨hSw1,hSw2⟩ := hSw
         go_simp
         try with_reducible rfl
        simp only [Act.put,qa1,qa2,qa3,qa4,qa5]
        refine tk (i := 1) (v := ?_) rfl (Or.inl ⟨by rfl,?_⟩) ?_
        rotate_left
        ·intro w9 hSw
         obtain ⟨hSw1,hSw2⟩ := hSw
         go_simp
         try with_reducible rfl
        simp only [Act.put,qa1,qa2,qa3,qa4,qa5,qa6]
        refine tk (i := 2) (v := ?_) rfl (Or.inl ⟨by rfl,?_⟩) ?_
        rotate_left
        ·intro w9 hSw
         obtain ⟨hSw1,hSw2⟩ := hSw
         go_simp
         try with_reducible rfl
        simp only [Act.put,qa1,qa2,qa3,qa4,qa5,qa6]
        refine tk (i := 3) (v := ?_) rfl (Or.inl ⟨by rfl,?_⟩) ?_
        rotate_left
        ·intro w9 hSw
         obtain ⟨hSw1,hSw2⟩ := hSw
         go_simp
         try with_reducible rfl
        simp only [Act.put,qa1,qa2,qa3,qa4,qa5,qa6]
        refine tk (i := 4) (v := ?_) rfl (Or.inl ⟨by rfl,?_⟩) ?_
        rotate_left
        ·intro w9 hSw
         obtain ⟨hSw1,hSw2⟩ := hSw
         go_simp
         try with_reducible rfl
        simp only [Act.put,qa1,qa2,qa3,qa4,qa5,qa6]
        refine tk (i := 5) (v := ?_) rfl (Or.inl ⟨by rfl,?_⟩) ?_
        rotate_left
        ·intro w9 hSw
         obtain ⟨hSw1,hSw2⟩ := hSw
         go_simp
         try with_reducible rfl
        simp only [Act.put,qa1,qa2,qa3,qa4,qa5,qa6]
        refine tk (i := 6) (v := ?_) rfl (Or.inl ⟨by rfl,?_⟩) ?_
        rotate_left
        ·intro w9 hSw
         obtain ⟨hSw1,hSw2⟩ := hSw
         go_simp
         try with_reducible rfl
        simp only [Act.put,qa1,qa2,qa3,qa4,qa5,qa6]
        refine tk (i := 8) (v := ?_) rfl (Or.inl ⟨by rfl,?_⟩) ?_
        rotate_left
        ·intro w9 hSw
         obtain ⟨hSw1,hSw2⟩ := hSw
         go_simp
         try with_reducible rfl
        simp only [Act.put,qa1,qa2,qa3,qa4,qa5,qa6]
        refine tk (i := 9) (v := ?_) rfl (Or.inl ⟨by rfl,?_⟩) ?_
        rotate_left
        ·intro w9 hSw
         obtain ⟨hSw1,hSw2⟩ := hSw
         go_simp
         try with_reducible rfl
        simp only [Act.put,qa1,qa2,qa3,qa4,qa5,qa6]
        refine wpAnyH_ready (rs := [7]) (by kernel_rfl) (by simp) ?_
        refine AllReadyH.cons rfl (fun K hK=>?_) AllReadyH.nil
        simp only [qa4,qa5,qa6]
        go_simp
        refine hK.out _ _ ?_ (fun hHeld=>?_)
        ·exact ⟨c2s,trivial⟩
        clear hK K
        try simp only [Act.put,qa1,qa2,qa3]
        refine wpAnyH_ready (rs := [10]) (by kernel_rfl) (by simp) ?_
        refine AllReadyH.cons rfl (fun K hK=>?_) AllReadyH.nil
        simp only [qa4,qa5,qa6]
        go_simp
        refine Calls.mono HWi.out ?_
        rintro r W9 ⟨xa,xk,m9,rfl,y1,y2,y3,hk4⟩
        go_simp
        refine hK.out _ _ ?_ (fun hHeld=>?_)
        ·exact ⟨y1,trivial⟩
        clear hK K
        try simp only [Act.put,qa1,qa2,qa3]
        refine tk (i := 11) (v := ?_) rfl (Or.inl ⟨by rfl,?_⟩) ?_
        rotate_left
        ·intro w9 hSw
         obtain ⟨hSw1,hSw2⟩ := hSw
         go_simp
         try with_reducible rfl
        simp only [Act.put,qa1,qa2,qa3,qa4,qa5,qa6]
        refine wpAnyH_ready (rs := [12]) (by kernel_rfl) (by simp) ?_
        refine AllReadyH.cons rfl (fun K hK=>?_) AllReadyH.nil
        simp only [qa4,qa5,qa6]
        go_simp
        refine hK.out _ _ ?_ (fun hHeld=>?_)
        ·exact ⟨cell_set_ne y1 (fun h=>hgb h.symm),trivial⟩
        clear hK K
        refine wpAnyH_done (by kernel_rfl) ?_ _
        have hk := hk4.out
        clear hk4 hHeld y1 y2 y3 z1 z1s zf c2 c2s HWi g1
        revert hk
        generalize W9.setCell _ _ = W7
        intro hk
        obtain ⟨hD,g1⟩ := hk
        obtain ⟨C7,r7,h17,h27,so7⟩ := own_row hD.1
        have HU7 : Hid (Up w W7) := Below.trans gu hD.2.1
        have HSO : Hid (SOA w.heap.size W7 (.agg C7) { s with zs := moveZ s.zs i p j q c }) := so7.less (by omega)
        have HR : Hid _ := setRow_heap W7 (w.heap.size + 1) _ _ _ C7 g1
        clear hD so7
        go_wp2_with (first | (refine wpList_load_row (by rfl) 27 (.tmp 6) (by rfl) w.heap.size (by rfl) 27 C7 (0,0) _ r7 Tryz.underlying27 (by rfl) (by rw [h17]; exact infoSt) ?_) | (refine wpList_store_row rfl 27 (.tmp 12) (.tmp 85) rfl (w.heap.size + 1) C7 rfl rfl 27 zS g1 (by rw [h17]; exact infoSt) (by rw [h17]; rfl) h27 ?_))
        refine bodyPost_ret (v := .tuple #[.agg C7,.bool true]) (results_c1 rfl _ _ (w.heap.size + 1) 27 C7 (0,0) _ (.bool true) rfl rfl HR.out Tryz.underlying27 rfl (by rw [h17]; exact infoSt)) rfl ?_
        rw [HP.out,HN.out]
        exact ⟨C7,rfl,h17,h27,SOA.setRow HSO.out g1,up_setRow HU7.out (by omega) _⟩
       ·have e9' : (l2.length : Int) < (q : Int) := by omega
        have HN : Hid (mvO s c (i : Int) (p : Int) (j : Int) (q : Int) = none) := by unfold Hid; rw [HMV.out,if_neg (by omega)]
        clear hown h1 h2 h3 hil d0 d1 hl2 hD HLi HLj HMV
        go_wp2_with (refine wpList_store_row rfl 27 (.tmp 12) (.tmp 72) rfl (w.heap.size + 1) zS rfl rfl 27 zS g1 infoSt rfl zS_all ?_)
        have HR : Hid _ := setRow_heap _ (w.heap.size + 1) _ _ _ zS g1
        refine bodyPost_ret (v := .tuple #[.agg zS,.bool false]) (results_c1 rfl _ _ (w.heap.size + 1) 27 zS (0,0) _ (.bool false) rfl rfl HR.out Tryz.underlying27 rfl infoSt) rfl ?_
        rw [HP.out,HN.out]
        exact bh_none gu (by omega)
      ·have e8' : ta < 0 := by omega
       have e8d : decide (ta < 0) = true := decide_eq_true e8'
       have HN : Hid (mvO s c (i : Int) (p : Int) (j : Int) ta = none) := by unfold Hid; rw [HMV.out,if_neg (by omega)]
       clear hown h1 h2 h3 hil d0 d1 hl2 hD HLi HLj HMV
       go_wp2_with (refine wpList_store_row rfl 27 (.tmp 12) (.tmp 72) rfl (w.heap.size + 1) zS rfl rfl 27 zS g1 infoSt rfl zS_all ?_)
       have HR : Hid _ := setRow_heap _ (w.heap.size + 1) _ _ _ zS g1
       refine bodyPost_ret (v := .tuple #[.agg zS,.bool false]) (results_c1 rfl _ _ (w.heap.size + 1) 27 zS (0,0) _ (.bool false) rfl rfl HR.out Tryz.underlying27 rfl infoSt) rfl ?_
       rw [HP.out,HN.out]
       exact bh_none gu (by omega)
end DE
end Go.Proofs.YtodhjjeagmjhdaaGreatDoor
