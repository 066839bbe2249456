/-
  The document's Replay.
-/
import Derived.Test.YtodhjjeagmjhdaaGreatDoorRwTvBzR
namespace Go.Proofs.YtodhjjeagmjhdaaGreatDoor
open Go.RowKit
attribute [local go_sem ↓] Go.wp_at_zero Go.wp_at_succ
namespace DE
open Go.Proofs.YtodhjjeagmjhdaaGreatDoor.ST
set_option maxRecDepth 100000 in
set_option maxHeartbeats 8000000 in
theorem rreplay_ (v vl : Value) (s : Stt) (l : List Ev) (w : World) (hs : StL w v s) (hsm : Small s) (hfl : (flat s).length <= 4294967296) (hl : EVS w vl l) (hlen : l.length <= 4294967296) (hn : ∀ i,i < l.length -> (l.getD i dE).ord.length <= 4294967296) :
  Calls Tryz.prog 25 #[v,vl] w (RepV w (repO s l)) := by
 obtain ⟨Post,hPost⟩ : ∃ P : Ending -> World -> Prop,P = RepV w (repO s l) := ⟨_,rfl⟩
 rw [<- hPost]
 have HP : Hid (Post = RepV w (repO s l)) := hPost
 have HMa : Hid (∀ W,Up w W -> Calls Tryz.prog 44 #[v] W fun r w'=>r = .returned (.bool (decide (ff s = none))) /\ Up W w') := fun W u=>rmay6_ v s W (hs.up u) (thingsOk s hsm hfl)
 have HCo : Hid (∀ W,Up w W -> Calls Tryz.prog 76 #[v] W (CpPost W fun W' v'=>SOA W.heap.size W' v' s)) := fun W u=>copyStateA_ v s W (hs.up u) hsm
 obtain ⟨la,lc,rfl,-,hlc⟩ := evs_at hl
 have HL : Hid _ := hlc
 have HN : Hid _ := hn
 obtain ⟨vp,vc,vz,hvv,h1,h2,h3⟩ := hs
 obtain ⟨a1,k1,rfl,-,-⟩ := lc_at h1
 obtain ⟨a2,k2,rfl,-,-⟩ := lc_at h2
 obtain ⟨a3,k3,rfl,-,-⟩ := zl_at h3
 unfold sv at hvv
 clear h1 h2 h3 hPost hsm hl hlc hn hfl
 obtain ⟨A,hA0⟩ : ∃ A : Array Value,A = #[.slice a1 s.ps.length k1,.slice a2 s.cs.length k2,.slice a3 s.zs.length k3,.int .i32 s.turn,.int .i64 s.whose,.int .i8 s.fin,.int .i64 s.winner] := ⟨_,rfl⟩
 have hA1 : A.size = 7 := by rw [hA0]; rfl
 rw [<- hA0] at hvv
 subst hvv
 clear hA0
 obtain ⟨W0,hW0⟩ : ∃ W0,(w.alloc (.cells A 27)).alloc (.cells zS 27) = W0 := ⟨_,rfl⟩
 have g0 : W0.heap[w.heap.size]? = some (.cells A 27 (0,0)) := by rw [<- hW0]; exact heap_alloc2_old _ _ _
 have g2 : W0.heap[w.heap.size + 1]? = some (.cells zS 27 (0,0)) := by rw [<- hW0]; exact heap_alloc2_new _ _ _
 have gu : Up w W0 := by rw [<- hW0]; exact ((Up.refl _).alloc _).alloc _
 obtain ⟨n,hn⟩ : ∃ n,n = l.length := ⟨_,rfl⟩
 have HNn : Hid (n = l.length) := hn
 rw [<- hn] at hlen ⊢
 clear hn
 by_cases hok : ff s = none
 ·have HF : Hid (repO s l = some (repl s l 0)) := by unfold Hid repO; rw [if_pos hok]
  have HOK : Hid (ff s = none) := hok
  rw [decide_eq_true hok] at HMa
  clear hok
  go_enter Tryz.func25,Tryz.ntmps25
  go_wp2_with (first | (refine wpList_world hW0 ?_; clear hW0; refine wpList_load_row (by rfl) 27 (.tmp 2) (by rfl) w.heap.size (by rfl) 27 A (0,0) _ g0 Tryz.underlying27 (by rfl) (by rw [hA1]; exact infoSt) ?_))
  refine Calls.mono (HMa.out _ gu) ?_
  rintro r W1 ⟨rfl,u1⟩
  have g0 := u1.heap g0
  have g2 := u1.heap g2
  have gu := gu.trans u1
  clear u1 HMa
  go_wp2_with (first | (refine wpList_load_row (by rfl) 27 (.tmp 2) (by rfl) w.heap.size (by rfl) 27 A (0,0) _ g0 Tryz.underlying27 (by rfl) (by rw [hA1]; exact infoSt) ?_))
  refine Calls.mono (HCo.out _ gu) ?_
  rintro r W2 ⟨vC,rfl,soC,u2⟩
  obtain ⟨C,rfl,h1C,h2C⟩ := SOA.row soC
  have g0 := u2.heap g0
  have g2 := u2.heap g2
  have soC := SOA.setRow (C := C) (soC.less gu.size) g0
  have gu := up_setRow (gu.trans u2) (Nat.le_refl _) C
  have g2' : (W2.setRow w.heap.size C).heap[w.heap.size + 1]? = some (.cells zS 27 (0,0)) := by rw [setRow_other _ _ _ _ (by omega)]; exact g2
  have g0' := setRow_heap _ _ _ _ _ C g0
  obtain ⟨W3,hW3⟩ : ∃ W3,W2.setRow w.heap.size C = W3 := ⟨_,rfl⟩
  rw [hW3] at soC gu g2' g0'
  have HI : Hid (W3.heap[w.heap.size]? = some (.cells C 27 (0,0)) /\ W3.heap[w.heap.size + 1]? = some (.cells zS 27 (0,0)) /\ SOA w.heap.size W3 (.agg C) s /\ C.size = 7 /\ C.all (·.oneCell') = true /\ Up w W3) := ⟨g0',g2',soC,h1C,h2C,gu⟩
  clear g2 g2' g0' soC gu u2 HCo
  go_wp2_with (first | (refine wpList_store_row rfl 27 (.tmp 2) (.tmp 15) rfl w.heap.size C rfl rfl 27 A g0 (by rw [h1C]; exact infoSt) (by rw [h1C,hA1]) h2C ?_; refine wpList_world hW3 ?_))
  clear g0 hW3 h1C h2C hA1
  go_loopw [7] (fun s7 W=>∃ (k : Nat) (c : Stt) (C : Array Value),k <= n /\ s7 = .int .i64 k /\ repl s l 0 = repl c (l.drop k) k /\ C.size = 7 /\ C.all (·.oneCell') = true /\ W.heap[w.heap.size]? = some (.cells C 27 (0,0)) /\ W.heap[w.heap.size + 1]? = some (.cells zS 27 (0,0)) /\ SOA w.heap.size W (.agg C) c /\ ff c = none /\ Up w W) (fun s7 _=>n - (intOf s7).toNat)
  case atStart =>
   obtain ⟨i1,i2,i3,i4,i5,i6⟩ := HI.out
   exact ⟨0,s,C,Nat.zero_le _,rfl,by rw [List.drop_zero],i4,i5,i1,i2,i3,HOK.out,i6⟩
  case round =>
   clear HI HOK
   obtain ⟨k,c,C,hk,rfl,hrep,h1C,h2C,hg0,hg2,hsoa,hok,hu⟩ := hrel
   by_cases hlt : k < n
   ·have hlt2 : (k : Int) < (n : Int) := by omega
    obtain ⟨lb,lo,hla,hlb,hev⟩ := HL.out (by rw [<- HNn.out]; omega)
    subst hla
    obtain ⟨oa,oc,hc12,hil⟩ := hev k (by rw [<- HNn.out]; exact hlt)
    have hn1 := HN.out k (by rw [<- HNn.out]; exact hlt)
    rw [repl_drop (by rw [<- HNn.out]; exact hlt)] at hrep
    clear hev
    generalize l.getD k dE = e at *
    obtain ⟨q,hq⟩ : ∃ q,q = (okB e && fitB c e) := ⟨_,rfl⟩
    obtain ⟨t,ht⟩ : ∃ t,t = (if q then behindS c e else noS) := ⟨_,rfl⟩
    have HB : Hid (∀ W,Up wr W -> Calls Tryz.prog 45 #[.agg C,.agg #[.int .i8 e.kind,.int .i8 e.field,.int .i64 e.card,.int .i64 e.player,.int .i64 e.other,.int .i64 e.fr,.int .i64 e.frAt,.int .i64 e.to_,.int .i64 e.toAt,.int .i32 e.was,.int .i32 e.now,.slice oa e.ord.length oc]] W fun x w'=>∃ X : Array Value,x = .returned (.tuple #[.agg X,.bool q]) /\ X.size = 7 /\ X.all (·.oneCell') = true /\ SOA W.heap.size w' (.agg X) t /\ Up W w') := fun W u=>by
     have h9 := rbehind_ (.agg C) c e oa oc W (SO.sl (SOA.so (hsoa.up u))) (small_ok hok) (hil.up (hu.trans u)) hn1 (rows_ok hok)
     rw [beh_ok c e,<- hq] at h9
     unfold BhV at h9
     rw [ht]
     cases q with
     | false=>exact h9
     | true=>exact h9
    have HT : Hid _ := And.intro hok (And.intro hrep (And.intro hq (And.intro ht hsoa)))
    clear hok hrep hq ht hil hn1 hsoa
    go_wp2_with fail
    refine (fun key : ∀ (W : World) (p : Nat) (X : Array Value),Up wr W -> W.heap[p]? = some (.cells X 27 (0,0)) -> SOA wr.heap.size W (.agg X) t -> X.size = 7 -> X.all (·.oneCell') = true -> (?G7 : World -> Nat -> Array Value -> Prop) W p X=>?main7) ?kp7
    case main7 =>
     refine wp_region_held_drew (S := fun W9=>Up wr W9) (by kernel_rfl) (Up.drew (Up.refl _)) (fun hHeld=>?_)
     have Ua0 : Up wr wr.drew := Up.drew (Up.refl _)
     refine tk (i := 0) (v := ?_) rfl (Or.inl ⟨by rfl,?_⟩) ?_
     rotate_left
     ·intro w9 hSw
      refine (exec_load_row 27 (.tmp 2) (by rfl) w.heap.size (by rfl) 27 C (0,0) _ Tryz.underlying27 (by rfl) (by rw [h1C]; exact infoSt) w9 (hSw.heap hg0)).trans ?_
      with_reducible rfl
     simp only [Act.put,qa1,qa2,qa3,qa4,qa5]
     refine tk (i := 1) (v := ?_) rfl (Or.inl ⟨by rfl,?_⟩) ?_
     rotate_left
     ·intro w9 hSw
      go_simp
      try with_reducible rfl
     simp only [Act.put,qa1,qa2,qa3,qa4,qa5,qa6]
     refine tk (i := 2) (v := ?_) rfl (Or.inl ⟨by rfl,?_⟩) ?_
     rotate_left
     ·intro w9 hSw
      go_simp
      try with_reducible rfl
     simp only [Act.put,qa1,qa2,qa3,qa4,qa5,qa6]
     refine tk (i := 3) (v := ?_) rfl (Or.inl ⟨by rfl,?_⟩) ?_
     rotate_left
     ·intro w9 hSw
      go_simp
      try with_reducible rfl
     simp only [Act.put,qa1,qa2,qa3,qa4,qa5,qa6]
     refine tk (i := 4) (v := ?_) rfl (Or.inl ⟨by rfl,?_⟩) ?_
     rotate_left
     ·intro w9 hSw
      obtain ⟨x0,x1,x2,x3,x4,x5,x6,x7,x8,x9,x10,x11⟩ := hc12 w9 (hu.trans hSw)
      go_simp
      try with_reducible rfl
     simp only [Act.put,qa1,qa2,qa3,qa4,qa5,qa6]
     refine wpAnyH_ready (rs := [5,9]) (by kernel_rfl) (by simp) ?_
     refine AllReadyH.cons rfl (fun K hK=>?_) (AllReadyH.cons rfl (fun K hK=>?_) AllReadyH.nil)
     ·simp only [qa4,qa5,qa6]
      go_simp
      refine Calls.mono (HB.out _ Ua0) ?_
      rintro r9 Wa1 ⟨X,rfl,h1X,h2X,soX,ua1⟩
      have soX := soX.less Ua0.size
      go_simp
      have Ua1 := Ua0.trans ua1
      refine hK.out _ _ ?_ (fun hHeld=>?_)
      ·exact Ua1
      clear hK K
      try simp only [Act.put,qa1,qa2,qa3]
      have hSS := Ua1
      refine tk (i := 6) (v := ?_) rfl (Or.inl ⟨by rfl,?_⟩) ?_
      rotate_left
      ·intro w9 hSw
       go_simp
       try with_reducible rfl
      simp only [Act.put,qa1,qa2,qa3,qa4,qa5,qa6]
      refine tk (i := 7) (v := ?_) rfl (Or.inl ⟨by rfl,?_⟩) ?_
      rotate_left
      ·intro w9 hSw
       go_simp
       try with_reducible rfl
      simp only [Act.put,qa1,qa2,qa3,qa4,qa5,qa6]
      refine tk (i := 8) (v := ?_) rfl (Or.inl ⟨by rfl,?_⟩) ?_
      rotate_left
      ·intro w9 hSw
       go_simp
       try with_reducible rfl
      simp only [Act.put,qa1,qa2,qa3,qa4,qa5,qa6]
      refine wpAnyH_ready (rs := [9]) (by kernel_rfl) (by simp) ?_
      refine AllReadyH.cons rfl (fun K hK=>?_) AllReadyH.nil
      simp only [qa4,qa5,qa6]
      go_simp
      refine hK.out _ _ ?_ (fun hHeld=>?_)
      ·exact Ua1.alloc _
      clear hK K
      try simp only [Act.put,qa1,qa2,qa3]
      obtain ⟨p,hp⟩ : ∃ p,p = (Wa1).heap.size := ⟨_,rfl⟩
      obtain ⟨Wa2,hW1⟩ : ∃ W1,(Wa1).alloc (.cells zS 27) = W1 := ⟨_,rfl⟩
      refine wpAnyH_world hW1 ?_
      have h9 : Wa1.heap.size = p := hp.symm
      simp only [h9]
      clear h9
      have ua2 : Up (Wa1) Wa2 := by rw [<- hW1]; exact (Up.refl _).alloc _
      have ep : Wa2.heap[p]? = some (.cells zS 27 (0,0)) := by rw [hp,<- hW1]; exact heap_alloc_new _ _
      have lp : wr.heap.size <= p := by rw [hp]; exact Ua1.size
      have Ua2 := Ua1.trans ua2
      have soX := soX.up ua2
      clear hHeld hW1 hp
      have hSS := Ua2
      refine wpAnyH_ready (rs := [10]) (by kernel_rfl) (by simp) ?_
      refine AllReadyH.cons rfl (fun K hK=>?_) AllReadyH.nil
      simp only [qa4,qa5,qa6]
      refine stepH_store (by rfl) 27 (.tmp 8) (.tmp 29) (by rfl) p X (by rfl) (by rfl) 27 zS ep (by rw [h1X]; exact infoSt) (by rw [h1X]; rfl) (h2X) ?_
      refine hK.out _ _ ?_ (fun hHeld=>?_)
      ·exact up_setRow Ua2 lp _
      clear hK K
      simp only [Act.put]
      obtain ⟨Wa3,hW1⟩ : ∃ W1,(Wa2).setRow p X = W1 := ⟨_,rfl⟩
      refine wpAnyH_world hW1 ?_
      have Ua3 : Up wr Wa3 := by rw [<- hW1]; exact up_setRow Ua2 lp _
      have soX := SOA.setRow (C := X) soX ep
      rw [hW1] at soX
      have ep : Wa3.heap[p]? = some (.cells X 27 (0,0)) := by rw [<- hW1]; exact setRow_heap _ _ _ _ _ _ ep
      clear hHeld hW1
      have hSS := Ua3
      refine tk (i := 11) (v := ?_) rfl (Or.inl ⟨by rfl,?_⟩) ?_
      rotate_left
      ·intro w9 hSw
       go_simp
       try with_reducible rfl
      simp only [Act.put,qa1,qa2,qa3,qa4,qa5,qa6]
      refine wpAnyH_done (by kernel_rfl) ?_ _
      exact key Wa3 p X Ua3 ep soX h1X h2X
     ·simp only [qa4,qa5,qa6]
      go_simp
      refine hK.out _ _ ?_ (fun hHeld=>?_)
      ·exact Ua0.alloc _
      clear hK K
      try simp only [Act.put,qa1,qa2,qa3]
      obtain ⟨p,hp⟩ : ∃ p,p = (wr.drew).heap.size := ⟨_,rfl⟩
      obtain ⟨Wa1,hW1⟩ : ∃ W1,(wr.drew).alloc (.cells zS 27) = W1 := ⟨_,rfl⟩
      refine wpAnyH_world hW1 ?_
      have h9 : wr.heap.size = p := hp.symm
      simp only [h9]
      clear h9
      have ua1 : Up (wr.drew) Wa1 := by rw [<- hW1]; exact (Up.refl _).alloc _
      have ep : Wa1.heap[p]? = some (.cells zS 27 (0,0)) := by rw [hp,<- hW1]; exact heap_alloc_new _ _
      have lp : wr.heap.size <= p := by rw [hp]; exact Ua0.size
      have Ua1 := Ua0.trans ua1
      clear hHeld hW1 hp
      have hSS := Ua1
      refine wpAnyH_ready (rs := [5]) (by kernel_rfl) (by simp) ?_
      refine AllReadyH.cons rfl (fun K hK=>?_) AllReadyH.nil
      simp only [qa4,qa5,qa6]
      go_simp
      refine Calls.mono (HB.out _ Ua1) ?_
      rintro r9 Wa2 ⟨X,rfl,h1X,h2X,soX,ua2⟩
      have soX := soX.less Ua1.size
      go_simp
      have Ua2 := Ua1.trans ua2
      have ep := ua2.heap ep
      refine hK.out _ _ ?_ (fun hHeld=>?_)
      ·exact Ua2
      clear hK K
      try simp only [Act.put,qa1,qa2,qa3]
      have hSS := Ua2
      refine tk (i := 6) (v := ?_) rfl (Or.inl ⟨by rfl,?_⟩) ?_
      rotate_left
      ·intro w9 hSw
       go_simp
       try with_reducible rfl
      simp only [Act.put,qa1,qa2,qa3,qa4,qa5,qa6]
      refine tk (i := 7) (v := ?_) rfl (Or.inl ⟨by rfl,?_⟩) ?_
      rotate_left
      ·intro w9 hSw
       go_simp
       try with_reducible rfl
      simp only [Act.put,qa1,qa2,qa3,qa4,qa5,qa6]
      refine tk (i := 8) (v := ?_) rfl (Or.inl ⟨by rfl,?_⟩) ?_
      rotate_left
      ·intro w9 hSw
       go_simp
       try with_reducible rfl
      simp only [Act.put,qa1,qa2,qa3,qa4,qa5,qa6]
      refine wpAnyH_ready (rs := [10]) (by kernel_rfl) (by simp) ?_
      refine AllReadyH.cons rfl (fun K hK=>?_) AllReadyH.nil
      simp only [qa4,qa5,qa6]
      refine stepH_store (by rfl) 27 (.tmp 8) (.tmp 29) (by rfl) p X (by rfl) (by rfl) 27 zS ep (by rw [h1X]; exact infoSt) (by rw [h1X]; rfl) (h2X) ?_
      refine hK.out _ _ ?_ (fun hHeld=>?_)
      ·exact up_setRow Ua2 lp _
      clear hK K
      simp only [Act.put]
      obtain ⟨Wa3,hW1⟩ : ∃ W1,(Wa2).setRow p X = W1 := ⟨_,rfl⟩
      refine wpAnyH_world hW1 ?_
      have Ua3 : Up wr Wa3 := by rw [<- hW1]; exact up_setRow Ua2 lp _
      have soX := SOA.setRow (C := X) soX ep
      rw [hW1] at soX
      have ep : Wa3.heap[p]? = some (.cells X 27 (0,0)) := by rw [<- hW1]; exact setRow_heap _ _ _ _ _ _ ep
      clear hHeld hW1
      have hSS := Ua3
      refine tk (i := 11) (v := ?_) rfl (Or.inl ⟨by rfl,?_⟩) ?_
      rotate_left
      ·intro w9 hSw
       go_simp
       try with_reducible rfl
      simp only [Act.put,qa1,qa2,qa3,qa4,qa5,qa6]
      refine wpAnyH_done (by kernel_rfl) ?_ _
      exact key Wa3 p X Ua3 ep soX h1X h2X
    case kp7 =>
     intro W7 p X HU7 hp soX h1X h2X
     have g0 := HU7.heap hg0
     have g2 := HU7.heap hg2
     have soX := soX.less hu.size
     have gu := hu.trans HU7
     clear HB hc12 HU7 hg0 hg2
     cases q with
     | false =>
      have HF2 : Hid (repO s l = some (.inl k)) := by
       have h9 := HT.out.2.1
       rw [<- HT.out.2.2.1,if_neg (by decide)] at h9
       unfold Hid
       rw [HF.out,h9]
      clear soX hp
      go_upto_region 9 with fail
      go_wp2_with (refine wpList_store_row rfl 27 (.tmp 4) (.tmp 33) rfl (w.heap.size + 1) zS rfl rfl 27 zS g2 infoSt rfl zS_all ?_)
      have HR : Hid _ := setRow_heap _ (w.heap.size + 1) _ _ _ zS g2
      refine bodyPost_ret (v := .tuple #[.agg zS,.int .i64 k,.int .i64 11]) (results_c2 (p := 4) (q := 5) (r := 6) (ty := 27) rfl _ _ (w.heap.size + 1) 27 zS (0,0) _ _ _ rfl rfl rfl HR.out Tryz.underlying27 rfl infoSt) rfl ?_
      rw [HP.out,HF2.out]
      exact ⟨_,rfl,noS_soa _ _,up_setRow gu (by omega) _⟩
     | true =>
      have hte : t = behindS c e := HT.out.2.2.2.1
      subst hte
      have HF2 : Hid (repl s l 0 = repl (behindS c e) (l.drop (k + 1)) (k + 1)) := by
       have h9 := HT.out.2.1
       rw [<- HT.out.2.2.1,if_pos rfl] at h9
       exact h9
      have HOK2 : Hid (ff (behindS c e) = none) := ok_behind HT.out.1 HT.out.2.2.1.symm
      have so8 := SOA.setRow (C := X) soX g0
      have gu8 := up_setRow gu (Nat.le_refl _) X
      have g2' : (W7.setRow w.heap.size X).heap[w.heap.size + 1]? = some (.cells zS 27 (0,0)) := by rw [setRow_other _ _ _ _ (by omega)]; exact g2
      have g0' := setRow_heap _ _ _ _ _ X g0
      obtain ⟨W8,hW8⟩ : ∃ W8,W7.setRow w.heap.size X = W8 := ⟨_,rfl⟩
      rw [hW8] at so8 gu8 g2' g0'
      have HI : Hid _ := And.intro h1X (And.intro h2X (And.intro g0' (And.intro g2' (And.intro so8 (And.intro HOK2.out gu8)))))
      clear so8 gu8 g2' g0' soX gu g2
      go_upto_region 10 with fail
      go_wp2_with (first | (refine wpList_load_row (by rfl) 27 (.tmp 8) (by rfl) p (by rfl) 27 X (0,0) _ hp Tryz.underlying27 (by rfl) (by rw [h1X]; exact infoSt) ?_) | (refine wpList_store_row rfl 27 (.tmp 2) (.tmp 35) rfl w.heap.size X rfl rfl 27 C g0 (by rw [h1X]; exact infoSt) (by rw [h1X,h1C]) h2X ?_; refine wpList_world hW8 ?_))
      go_roundw
      case rel=>exact ⟨k + 1,behindS c e,X,by omega,by go_num,HF2.out,HI.out⟩
      case measure=>simp [intOf] <;> omega
   ·have hlt2 : ¬ (k : Int) < (n : Int) := by omega
    have hkn : k = n := by omega
    have hfin : repl s l 0 = .inr c := by rw [hrep,hkn,List.drop_of_length_le (by rw [HNn.out]; exact Nat.le_refl _)]; rfl
    have HF2 : Hid (repO s l = some (.inr c)) := by unfold Hid; rw [HF.out,hfin]
    clear hfin hkn
    have hres2 := setRow_heap wr (w.heap.size + 1) _ _ _ C hg2
    have HU5 : Hid (Up w (wr.setRow (w.heap.size + 1) C) /\ SOA w.heap.size (wr.setRow (w.heap.size + 1) C) (.agg C) c) := ⟨up_setRow hu (by omega) _,SOA.setRow hsoa hg2⟩
    clear hrep hok hu hsoa HF HL HN HNn
    go_wp2_with (first | (refine wpList_load_row (by rfl) 27 (.tmp 2) (by rfl) w.heap.size (by rfl) 27 C (0,0) _ hg0 Tryz.underlying27 (by rfl) (by rw [h1C]; exact infoSt) ?_) | (refine wpList_store_row rfl 27 (.tmp 4) (.tmp 36) rfl (w.heap.size + 1) C rfl rfl 27 zS hg2 (by rw [h1C]; exact infoSt) (by rw [h1C]; rfl) h2C ?_))
    refine bodyPost_ret (v := .tuple #[.agg C,.int .i64 0,.int .i64 0]) (results_c2 (p := 4) (q := 5) (r := 6) (ty := 27) rfl _ _ (w.heap.size + 1) 27 C (0,0) _ _ _ rfl rfl rfl hres2 Tryz.underlying27 rfl (by rw [h1C]; exact infoSt)) rfl ?_
    rw [HP.out,HF2.out]
    exact ⟨_,rfl,HU5.out.2,HU5.out.1⟩
 ·have HF : Hid (repO s l = none) := by unfold Hid repO; rw [if_neg hok]
  rw [decide_eq_false hok] at HMa
  clear hok HCo HL HN HNn
  go_enter Tryz.func25,Tryz.ntmps25
  go_wp2_with (first | (refine wpList_world hW0 ?_; clear hW0; refine wpList_load_row (by rfl) 27 (.tmp 2) (by rfl) w.heap.size (by rfl) 27 A (0,0) _ g0 Tryz.underlying27 (by rfl) (by rw [hA1]; exact infoSt) ?_))
  refine Calls.mono (HMa.out _ gu) ?_
  rintro r W1 ⟨rfl,u1⟩
  have g2 := u1.heap g2
  have gu := gu.trans u1
  clear u1 HMa g0
  go_upto_region 2 with fail
  go_wp2_with (refine wpList_store_row rfl 27 (.tmp 4) (.tmp 13) rfl (w.heap.size + 1) zS rfl rfl 27 zS g2 infoSt rfl zS_all ?_)
  have HR : Hid _ := setRow_heap _ (w.heap.size + 1) _ _ _ zS g2
  refine bodyPost_ret (v := .tuple #[.agg zS,.int .i64 0,.int .i64 10]) (results_c2 (p := 4) (q := 5) (r := 6) (ty := 27) rfl _ _ (w.heap.size + 1) 27 zS (0,0) _ _ _ rfl rfl rfl HR.out Tryz.underlying27 rfl infoSt) rfl ?_
  rw [HP.out,HF.out]
  exact ⟨_,rfl,noS_soa _ _,up_setRow gu (by omega) _⟩
end DE
end Go.Proofs.YtodhjjeagmjhdaaGreatDoor
