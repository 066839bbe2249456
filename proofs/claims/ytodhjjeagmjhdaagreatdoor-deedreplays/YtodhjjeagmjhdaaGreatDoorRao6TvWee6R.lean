/- Rao6, Rbk6, Wee6 -/
import Derived.Test.YtodhjjeagmjhdaaGreatDoorRah6VR
import Derived.Test.YtodhjjeagmjhdaaGreatDoorRwTvBzR
namespace Go.Proofs.YtodhjjeagmjhdaaGreatDoor
open Go.RowKit
namespace DE
open Go.Proofs.YtodhjjeagmjhdaaGreatDoor.ST
theorem tl_ok {s : Stt} (h : ff s = none) (e : Ev) (hw : e.was <= 2147483647) : tlD s e = turnLeadsB s e := by
 have ht : 1 <= s.turn := ((ff_none s).1 h).1.2.2.2.1
 unfold tlD turnLeadsB behindB
 by_cases h1 : e.now = s.turn
 ·by_cases h3 : e.was < 2147483647
  ·rw [decide_eq_true h3,Bool.true_and,Bool.and_comm (decide (1 <= e.was))]
  ·have h5 : e.was = 2147483647 := by omega
   have h2 : ¬ e.now = wrap32 (e.was + 1) := by
    rw [h5]
    have : wrap32 (2147483647 + 1) = -2147483648 := by unfold wrap32; omega
    omega
   rw [decide_eq_false h2]
   simp
 ·rw [decide_eq_false h1,Bool.false_and,Bool.false_and]
theorem ahd_ok {s : Stt} (hok : ff s = none) (e : Ev) (hw : e.was <= 2147483647) : ahdD s e = if (okB e && leadB s e) = true then some (aheadS s e) else none := by
 unfold okB
 cases hk : kindB e.kind with
 | false =>
  have hk' : ¬ (1 <= e.kind /\ e.kind <= 7) := by
   unfold kindB at hk
   simp at hk
   omega
  unfold ahdD
  simp only [Bool.false_and,Bool.false_eq_true,if_false]
  split
  ·rw [if_neg (by omega),if_neg (by omega),if_neg (by omega),if_neg (by omega),if_neg (by omega),if_neg (by omega),if_neg (by omega)]
  ·rfl
 | true =>
  have hp := plain_ok hk
  unfold ahdD
  rw [hp,Bool.true_and]
  cases hr : restB e with
  | false=>simp
  | true =>
   rw [if_pos rfl,Bool.true_and]
   unfold restB at hr
   unfold leadB aheadS
   rcases kinds hk with h | h | h | h | h | h | h
   ·simp only [h,if_true] at hr ⊢
    have := mv_okD s (turnedE e) (rest_moveD (by rw [Bool.and_eq_true] at hr; exact hr.1)).symm
    exact this
   ·simp [h] at hr ⊢
    have hn : noneB (turnedE e) = decide ((turnedE e).was = (turnedE e).now) := by
     have h9 := hr.1
     unfold nothingB cardR at h9
     simp at h9
     unfold noneB turnedE
     have h1 : e.to_ = e.fr := by omega
     have h2 : e.toAt = e.frAt := by omega
     simp [h1,h2]
    exact card_okD s (turnedE e) hn
   ·simp [h] at hr ⊢
    have hn : noneB (turnedE e) = decide ((turnedE e).was = (turnedE e).now) := by
     have h9 := hr.1
     unfold nothingB playerR at h9
     simp at h9
     unfold noneB turnedE
     have h1 : e.to_ = e.fr := by omega
     have h2 : e.toAt = e.frAt := by omega
     simp [h1,h2]
    exact player_okD s (turnedE e) hn
   ·simp [h]
    unfold shO shC shS shuffleFitsB
    simp
   ·simp [h]
   ·simp [h,tl_ok hok e hw]
   ·simp [h]
end DE
end Go.Proofs.YtodhjjeagmjhdaaGreatDoor
namespace Go.Proofs.YtodhjjeagmjhdaaGreatDoor
open Go.RowKit
attribute [local go_sem ↓] Go.wp_at_zero Go.wp_at_succ
namespace DE
open Go.Proofs.YtodhjjeagmjhdaaGreatDoor.ST
set_option maxRecDepth 100000 in
set_option maxHeartbeats 8000000 in
theorem rback_ (v vl : Value) (s : Stt) (l : List Ev) (w : World) (hs : StL w v s) (hsm : Small s) (hfl : (flat s).length <= 4294967296) (hl : EVS w vl l) (hlen : l.length <= 4294967296) (hn : ∀ i,i < l.length -> (l.getD i dE).ord.length <= 4294967296) (hw : ∀ i,i < l.length -> (l.getD i dE).was <= 2147483647) :
  Calls Tryz.prog 27 #[v,vl] w (RepV w (bckO s l)) := by
 obtain ⟨Post,hPost⟩ : ∃ P : Ending -> World -> Prop,P = RepV w (bckO s l) := ⟨_,rfl⟩
 rw [<- hPost]
 have HP : Hid (Post = RepV w (bckO s l)) := hPost
 have HMa : Hid (∀ W,Up w W -> Calls Tryz.prog 44 #[v] W fun r w'=>r = .returned (.bool (decide (ff s = none))) /\ Up W w') := fun W u=>rmay6_ v s W (hs.up u) (thingsOk s hsm hfl)
 have HCo : Hid (∀ W,Up w W -> Calls Tryz.prog 76 #[v] W (CpPost W fun W' v'=>SOA W.heap.size W' v' s)) := fun W u=>copyStateA_ v s W (hs.up u) hsm
 obtain ⟨la,lc,rfl,-,hlc⟩ := evs_at hl
 have HL : Hid _ := hlc
 have HN : Hid _ := hn
 have HWs : Hid _ := hw
 obtain ⟨vp,vc,vz,hvv,h1,h2,h3⟩ := hs
 obtain ⟨a1,k1,rfl,-,-⟩ := lc_at h1
 obtain ⟨a2,k2,rfl,-,-⟩ := lc_at h2
 obtain ⟨a3,k3,rfl,-,-⟩ := zl_at h3
 unfold sv at hvv
 clear h1 h2 h3 hPost hsm hl hlc hn hfl hw
 obtain ⟨A,hA0⟩ : ∃ A : Array Value,A = #[.slice a1 s.ps.length k1,.slice a2 s.cs.length k2,.slice a3 s.zs.length k3,.int .i32 s.turn,.int .i64 s.whose,.int .i8 s.fin,.int .i64 s.winner] := ⟨_,rfl⟩
 have hA1 : A.size = 7 := by rw [hA0]; rfl
 rw [<- hA0] at hvv
 subst hvv
 clear hA0
 obtain ⟨W0,hW0⟩ : ∃ W0,(w.alloc (.cells A 27)).alloc (.cells zS 27) = W0 := ⟨_,rfl⟩
 have g0 : W0.heap[w.heap.size]? = some (.cells A 27 (0,0)) := by rw [<- hW0]; exact heap_alloc2_old _ _ _
 have g2 : W0.heap[w.heap.size + 1]? = some (.cells zS 27 (0,0)) := by rw [<- hW0]; exact heap_alloc2_new _ _ _
 have gu : Up w W0 := by rw [<- hW0]; exact ((Up.refl _).alloc _).alloc _
 obtain ⟨n,hn⟩ : ∃ n,n = l.length := ⟨_,rfl⟩
 have HNn : Hid (n = l.length) := hn
 rw [<- hn] at hlen ⊢
 clear hn
 by_cases hok : ff s = none
 ·have HF : Hid (bckO s l = some (bck l l.length s)) := by unfold Hid bckO; rw [if_pos hok]
  have HOK : Hid (ff s = none) := hok
  rw [decide_eq_true hok] at HMa
  clear hok
  go_enter Tryz.func27,Tryz.ntmps27
  go_wp2_with (first | (refine wpList_world hW0 ?_; clear hW0; refine wpList_load_row (by rfl) 27 (.tmp 2) (by rfl) w.heap.size (by rfl) 27 A (0,0) _ g0 Tryz.underlying27 (by rfl) (by rw [hA1]; exact infoSt) ?_))
  refine Calls.mono (HMa.out _ gu) ?_
  rintro r W1 ⟨rfl,u1⟩
  have g0 := u1.heap g0
  have g2 := u1.heap g2
  have gu := gu.trans u1
  clear u1 HMa
  go_wp2_with (first | (refine wpList_load_row (by rfl) 27 (.tmp 2) (by rfl) w.heap.size (by rfl) 27 A (0,0) _ g0 Tryz.underlying27 (by rfl) (by rw [hA1]; exact infoSt) ?_))
  refine Calls.mono (HCo.out _ gu) ?_
  rintro r W2 ⟨vC,rfl,soC,u2⟩
  obtain ⟨C,rfl,h1C,h2C⟩ := SOA.row soC
  have g0 := u2.heap g0
  have g2 := u2.heap g2
  have soC := SOA.setRow (C := C) (soC.less gu.size) g0
  have gu := up_setRow (gu.trans u2) (Nat.le_refl _) C
  have g2' : (W2.setRow w.heap.size C).heap[w.heap.size + 1]? = some (.cells zS 27 (0,0)) := by rw [setRow_other _ _ _ _ (by omega)]; exact g2
  have g0' := setRow_heap _ _ _ _ _ C g0
  obtain ⟨W3,hW3⟩ : ∃ W3,W2.setRow w.heap.size C = W3 := ⟨_,rfl⟩
  rw [hW3] at soC gu g2' g0'
  have HI : Hid (W3.heap[w.heap.size]? = some (.cells C 27 (0,0)) /\ W3.heap[w.heap.size + 1]? = some (.cells zS 27 (0,0)) /\ SOA w.heap.size W3 (.agg C) s /\ C.size = 7 /\ C.all (·.oneCell') = true /\ Up w W3) := ⟨g0',g2',soC,h1C,h2C,gu⟩
  clear g2 g2' g0' soC gu u2 HCo
  go_wp2_with (first | (refine wpList_store_row rfl 27 (.tmp 2) (.tmp 15) rfl w.heap.size C rfl rfl 27 A g0 (by rw [h1C]; exact infoSt) (by rw [h1C,hA1]) h2C ?_; refine wpList_world hW3 ?_))
  clear g0 hW3 h1C h2C hA1
  go_loopw [7] (fun s7 W=>∃ (k : Nat) (c : Stt) (C : Array Value),k <= n /\ s7 = .int .i64 ((k : Int) - 1) /\ bck l l.length s = bck l k c /\ C.size = 7 /\ C.all (·.oneCell') = true /\ W.heap[w.heap.size]? = some (.cells C 27 (0,0)) /\ W.heap[w.heap.size + 1]? = some (.cells zS 27 (0,0)) /\ SOA w.heap.size W (.agg C) c /\ ff c = none /\ Up w W) (fun s7 _=>(intOf s7 + 1).toNat)
  case atStart =>
   obtain ⟨i1,i2,i3,i4,i5,i6⟩ := HI.out
   exact ⟨n,s,C,Nat.le_refl _,rfl,by rw [<- HNn.out],i4,i5,i1,i2,i3,HOK.out,i6⟩
  case round =>
   clear HI HOK
   obtain ⟨k,c,C,hk,rfl,hrep,h1C,h2C,hg0,hg2,hsoa,hok,hu⟩ := hrel
   cases k with
   | succ k =>
    have hge : (((k + 1 : Nat) : Int) - 1) = (k : Int) := by omega
    rw [hge]
    have hlt : k < n := by omega
    have hlt2 : (k : Int) < (n : Int) := by omega
    have hk0 : (0 : Int) <= (k : Int) := by omega
    clear hge
    obtain ⟨lb,lo,hla,hlb,hev⟩ := HL.out (by rw [<- HNn.out]; omega)
    subst hla
    obtain ⟨oa,oc,hc12,hil⟩ := hev k (by rw [<- HNn.out]; exact hlt)
    have hn1 := HN.out k (by rw [<- HNn.out]; exact hlt)
    have hw1 := HWs.out k (by rw [<- HNn.out]; exact hlt)
    rw [show bck l (k + 1) c = (if okB (l.getD k dE) && leadB c (l.getD k dE) then bck l k (aheadS c (l.getD k dE)) else .inl k) from rfl] at hrep
    clear hev
    generalize l.getD k dE = e at *
    obtain ⟨q,hq⟩ : ∃ q,q = (okB e && leadB c e) := ⟨_,rfl⟩
    obtain ⟨t,ht⟩ : ∃ t,t = (if q then aheadS c e else noS) := ⟨_,rfl⟩
    have HB : Hid (∀ W,Up wr W -> Calls Tryz.prog 77 #[.agg C,.agg #[.int .i8 e.kind,.int .i8 e.field,.int .i64 e.card,.int .i64 e.player,.int .i64 e.other,.int .i64 e.fr,.int .i64 e.frAt,.int .i64 e.to_,.int .i64 e.toAt,.int .i32 e.was,.int .i32 e.now,.slice oa e.ord.length oc]] W fun x w'=>∃ X : Array Value,x = .returned (.tuple #[.agg X,.bool q]) /\ X.size = 7 /\ X.all (·.oneCell') = true /\ SOA W.heap.size w' (.agg X) t /\ Up W w') := fun W u=>by
     have h9 := rahead_ (.agg C) c e oa oc W (SO.sl (SOA.so (hsoa.up u))) (small_ok hok) (hil.up (hu.trans u)) hn1 (rows_ok hok)
     rw [ahd_ok hok e hw1,<- hq] at h9
     unfold BhV at h9
     rw [ht]
     cases q with
     | false=>exact h9
     | true=>exact h9
    have HT : Hid _ := And.intro hok (And.intro hrep (And.intro hq (And.intro ht hsoa)))
    clear hok hrep hq ht hil hn1 hsoa hw1
    go_wp2_with fail
    refine (fun key : ∀ (W : World) (p : Nat) (X : Array Value),Up wr W -> W.heap[p]? = some (.cells X 27 (0,0)) -> SOA wr.heap.size W (.agg X) t -> X.size = 7 -> X.all (·.oneCell') = true -> (?G7 : World -> Nat -> Array Value -> Prop) W p X=>?main7) ?kp7
    case main7 =>
     refine wp_region_held_drew (S := fun W9=>Up wr W9) (by kernel_rfl) (Up.drew (Up.refl _)) (fun hHeld=>?_)
     have Ua0 : Up wr wr.drew := Up.drew (Up.refl _)
     refine tk (i := 0) (v := ?_) rfl (Or.inl ⟨by rfl,?_⟩) ?_
     rotate_left
     ·intro w9 hSw
      refine (exec_load_row 27 (.tmp 2) (by rfl) w.heap.size (by rfl) 27 C (0,0) _ Tryz.underlying27 (by rfl) (by rw [h1C]; exact infoSt) w9 (hSw.heap hg0)).trans ?_
      with_reducible rfl
     simp only [Act.put,qa1,qa2,qa3,qa4,qa5]
     refine tk (i := 1) (v := ?_) rfl (Or.inl ⟨by rfl,?_⟩) ?_
     rotate_left
     ·intro w9 hSw
      go_simp
      try with_reducible rfl
     simp only [Act.put,qa1,qa2,qa3,qa4,qa5,qa6]
     refine tk (i := 2) (v := ?_) rfl (Or.inl ⟨by rfl,?_⟩) ?_
     rotate_left
     ·intro w9 hSw
      go_simp
      try with_reducible rfl
     simp only [Act.put,qa1,qa2,qa3,qa4,qa5,qa6]
     refine tk (i := 3) (v := ?_) rfl (Or.inl ⟨by rfl,?_⟩) ?_
     rotate_left
     ·intro w9 hSw
      go_simp
      try with_reducible rfl
     simp only [Act.put,qa1,qa2,qa3,qa4,qa5,qa6]
     refine tk (i := 4) (v := ?_) rfl (Or.inl ⟨by rfl,?_⟩) ?_
     rotate_left
     ·intro w9 hSw
      obtain ⟨x0,x1,x2,x3,x4,x5,x6,x7,x8,x9,x10,x11⟩ := hc12 w9 (hu.trans hSw)
      go_simp
      try with_reducible rfl
     simp only [Act.put,qa1,qa2,qa3,qa4,qa5,qa6]
     refine wpAnyH_ready (rs := [5,9]) (by kernel_rfl) (by simp) ?_
     refine AllReadyH.cons rfl (fun K hK=>?_) (AllReadyH.cons rfl (fun K hK=>?_) AllReadyH.nil)
     ·simp only [qa4,qa5,qa6]
      go_simp
      refine Calls.mono (HB.out _ Ua0) ?_
      rintro r9 Wa1 ⟨X,rfl,h1X,h2X,soX,ua1⟩
      have soX := soX.less Ua0.size
      go_simp
      have Ua1 := Ua0.trans ua1
      refine hK.out _ _ ?_ (fun hHeld=>?_)
      ·exact Ua1
      clear hK K
      try simp only [Act.put,qa1,qa2,qa3]
      have hSS := Ua1
      refine tk (i := 6) (v := ?_) rfl (Or.inl ⟨by rfl,?_⟩) ?_
      rotate_left
      ·intro w9 hSw
       go_simp
       try with_reducible rfl
      simp only [Act.put,qa1,qa2,qa3,qa4,qa5,qa6]
      refine tk (i := 7) (v := ?_) rfl (Or.inl ⟨by rfl,?_⟩) ?_
      rotate_left
      ·intro w9 hSw
       go_simp
       try with_reducible rfl
      simp only [Act.put,qa1,qa2,qa3,qa4,qa5,qa6]
      refine tk (i := 8) (v := ?_) rfl (Or.inl ⟨by rfl,?_⟩) ?_
      rotate_left
      ·intro w9 hSw
       go_simp
       try with_reducible rfl
      simp only [Act.put,qa1,qa2,qa3,qa4,qa5,qa6]
      refine wpAnyH_ready (rs := [9]) (by kernel_rfl) (by simp) ?_
      refine AllReadyH.cons rfl (fun K hK=>?_) AllReadyH.nil
      simp only [qa4,qa5,qa6]
      go_simp
      refine hK.out _ _ ?_ (fun hHeld=>?_)
      ·exact Ua1.alloc _
      clear hK K
      try simp only [Act.put,qa1,qa2,qa3]
      obtain ⟨p,hp⟩ : ∃ p,p = (Wa1).heap.size := ⟨_,rfl⟩
      obtain ⟨Wa2,hW1⟩ : ∃ W1,(Wa1).alloc (.cells zS 27) = W1 := ⟨_,rfl⟩
      refine wpAnyH_world hW1 ?_
      have h9 : Wa1.heap.size = p := hp.symm
      simp only [h9]
      clear h9
      have ua2 : Up (Wa1) Wa2 := by rw [<- hW1]; exact (Up.refl _).alloc _
      have ep : Wa2.heap[p]? = some (.cells zS 27 (0,0)) := by rw [hp,<- hW1]; exact heap_alloc_new _ _
      have lp : wr.heap.size <= p := by rw [hp]; exact Ua1.size
      have Ua2 := Ua1.trans ua2
      have soX := soX.up ua2
      clear hHeld hW1 hp
      have hSS := Ua2
      refine wpAnyH_ready (rs := [10]) (by kernel_rfl) (by simp) ?_
      refine AllReadyH.cons rfl (fun K hK=>?_) AllReadyH.nil
      simp only [qa4,qa5,qa6]
      refine stepH_store (by rfl) 27 (.tmp 8) (.tmp 30) (by rfl) p X (by rfl) (by rfl) 27 zS ep (by rw [h1X]; exact infoSt) (by rw [h1X]; rfl) (h2X) ?_
      refine hK.out _ _ ?_ (fun hHeld=>?_)
      ·exact up_setRow Ua2 lp _
      clear hK K
      simp only [Act.put]
      obtain ⟨Wa3,hW1⟩ : ∃ W1,(Wa2).setRow p X = W1 := ⟨_,rfl⟩
      refine wpAnyH_world hW1 ?_
      have Ua3 : Up wr Wa3 := by rw [<- hW1]; exact up_setRow Ua2 lp _
      have soX := SOA.setRow (C := X) soX ep
      rw [hW1] at soX
      have ep : Wa3.heap[p]? = some (.cells X 27 (0,0)) := by rw [<- hW1]; exact setRow_heap _ _ _ _ _ _ ep
      clear hHeld hW1
      have hSS := Ua3
      refine tk (i := 11) (v := ?_) rfl (Or.inl ⟨by rfl,?_⟩) ?_
      rotate_left
      ·intro w9 hSw
       go_simp
       try with_reducible rfl
      simp only [Act.put,qa1,qa2,qa3,qa4,qa5,qa6]
      refine wpAnyH_done (by kernel_rfl) ?_ _
      exact key Wa3 p X Ua3 ep soX h1X h2X
     ·simp only [qa4,qa5,qa6]
      go_simp
      refine hK.out _ _ ?_ (fun hHeld=>?_)
      ·exact Ua0.alloc _
      clear hK K
      try simp only [Act.put,qa1,qa2,qa3]
      obtain ⟨p,hp⟩ : ∃ p,p = (wr.drew).heap.size := ⟨_,rfl⟩
      obtain ⟨Wa1,hW1⟩ : ∃ W1,(wr.drew).alloc (.cells zS 27) = W1 := ⟨_,rfl⟩
      refine wpAnyH_world hW1 ?_
      have h9 : wr.heap.size = p := hp.symm
      simp only [h9]
      clear h9
      have ua1 : Up (wr.drew) Wa1 := by rw [<- hW1]; exact (Up.refl _).alloc _
      have ep : Wa1.heap[p]? = some (.cells zS 27 (0,0)) := by rw [hp,<- hW1]; exact heap_alloc_new _ _
      have lp : wr.heap.size <= p := by rw [hp]; exact Ua0.size
      have Ua1 := Ua0.trans ua1
      clear hHeld hW1 hp
      have hSS := Ua1
      refine wpAnyH_ready (rs := [5]) (by kernel_rfl) (by simp) ?_
      refine AllReadyH.cons rfl (fun K hK=>?_) AllReadyH.nil
      simp only [qa4,qa5,qa6]
      go_simp
      refine Calls.mono (HB.out _ Ua1) ?_
      rintro r9 Wa2 ⟨X,rfl,h1X,h2X,soX,ua2⟩
      have soX := soX.less Ua1.size
      go_simp
      have Ua2 := Ua1.trans ua2
      have ep := ua2.heap ep
      refine hK.out _ _ ?_ (fun hHeld=>?_)
      ·exact Ua2
      clear hK K
      try simp only [Act.put,qa1,qa2,qa3]
      have hSS := Ua2
      refine tk (i := 6) (v := ?_) rfl (Or.inl ⟨by rfl,?_⟩) ?_
      rotate_left
      ·intro w9 hSw
       go_simp
       try with_reducible rfl
      simp only [Act.put,qa1,qa2,qa3,qa4,qa5,qa6]
      refine tk (i := 7) (v := ?_) rfl (Or.inl ⟨by rfl,?_⟩) ?_
      rotate_left
      ·intro w9 hSw
       go_simp
       try with_reducible rfl
      simp only [Act.put,qa1,qa2,qa3,qa4,qa5,qa6]
      refine tk (i := 8) (v := ?_) rfl (Or.inl ⟨by rfl,?_⟩) ?_
      rotate_left
      ·intro w9 hSw
       go_simp
       try with_reducible rfl
      simp only [Act.put,qa1,qa2,qa3,qa4,qa5,qa6]
      refine wpAnyH_ready (rs := [10]) (by kernel_rfl) (by simp) ?_
      refine AllReadyH.cons rfl (fun K hK=>?_) AllReadyH.nil
      simp only [qa4,qa5,qa6]
      refine stepH_store (by rfl) 27 (.tmp 8) (.tmp 30) (by rfl) p X (by rfl) (by rfl) 27 zS ep (by rw [h1X]; exact infoSt) (by rw [h1X]; rfl) (h2X) ?_
      refine hK.out _ _ ?_ (fun hHeld=>?_)
      ·exact up_setRow Ua2 lp _
      clear hK K
      simp only [Act.put]
      obtain ⟨Wa3,hW1⟩ : ∃ W1,(Wa2).setRow p X = W1 := ⟨_,rfl⟩
      refine wpAnyH_world hW1 ?_
      have Ua3 : Up wr Wa3 := by rw [<- hW1]; exact up_setRow Ua2 lp _
      have soX := SOA.setRow (C := X) soX ep
      rw [hW1] at soX
      have ep : Wa3.heap[p]? = some (.cells X 27 (0,0)) := by rw [<- hW1]; exact setRow_heap _ _ _ _ _ _ ep
      clear hHeld hW1
      have hSS := Ua3
      refine tk (i := 11) (v := ?_) rfl (Or.inl ⟨by rfl,?_⟩) ?_
      rotate_left
      ·intro w9 hSw
       go_simp
       try with_reducible rfl
      simp only [Act.put,qa1,qa2,qa3,qa4,qa5,qa6]
      refine wpAnyH_done (by kernel_rfl) ?_ _
      exact key Wa3 p X Ua3 ep soX h1X h2X
    case kp7 =>
     intro W7 p X HU7 hp soX h1X h2X
     have g0 := HU7.heap hg0
     have g2 := HU7.heap hg2
     have soX := soX.less hu.size
     have gu := hu.trans HU7
     clear HB hc12 HU7 hg0 hg2
     cases q with
     | false =>
      have HF2 : Hid (bckO s l = some (.inl k)) := by
       have h9 := HT.out.2.1
       rw [<- HT.out.2.2.1,if_neg (by decide)] at h9
       unfold Hid
       rw [HF.out,h9]
      clear soX hp
      go_upto_region 9 with fail
      go_wp2_with (refine wpList_store_row rfl 27 (.tmp 4) (.tmp 39) rfl (w.heap.size + 1) zS rfl rfl 27 zS g2 infoSt rfl zS_all ?_)
      have HR : Hid _ := setRow_heap _ (w.heap.size + 1) _ _ _ zS g2
      refine bodyPost_ret (v := .tuple #[.agg zS,.int .i64 k,.int .i64 11]) (results_c2 (p := 4) (q := 5) (r := 6) (ty := 27) rfl _ _ (w.heap.size + 1) 27 zS (0,0) _ _ _ rfl rfl rfl HR.out Tryz.underlying27 rfl infoSt) rfl ?_
      rw [HP.out,HF2.out]
      exact ⟨_,rfl,noS_soa _ _,up_setRow gu (by omega) _⟩
     | true =>
      have hte : t = aheadS c e := HT.out.2.2.2.1
      subst hte
      have HF2 : Hid (bck l l.length s = bck l k (aheadS c e)) := by
       have h9 := HT.out.2.1
       rw [<- HT.out.2.2.1,if_pos rfl] at h9
       exact h9
      have HOK2 : Hid (ff (aheadS c e) = none) := ok_ahead HT.out.1 HT.out.2.2.1.symm
      have HMo : Hid (∀ W,StL W (.agg X) (aheadS c e) -> Calls Tryz.prog 44 #[.agg X] W fun r w'=>r = .returned (.bool true) /\ Up W w') := fun W h=>by
       have hk := HOK2.out
       have h9 := rmay6_ (.agg X) (aheadS c e) W h (thingsOk _ (small_ok hk) (by have := ((ff_none _).1 hk).2.2; have h8 := small_ok hk; rw [this]; exact h8.2.1))
       rw [decide_eq_true hk] at h9
       exact h9
      go_wp2_with (first | (refine wpList_load_rowG (by rfl) 27 (.tmp 8) (by rfl) p (by rfl) 27 X (0,0) _ hp Tryz.underlying27 (by rfl) (by rw [h1X]; exact infoSt) ?_))
      refine Calls.mono (HMo.out _ (SO.sl (SOA.so soX))) ?_
      rintro r W7' ⟨rfl,u4⟩
      have g0 := u4.heap g0
      have g2 := u4.heap g2
      have hp := u4.heap hp
      have soX := soX.up u4
      have gu := gu.trans u4
      clear u4 HMo
      generalize W7' = W7 at *
      have so8 := SOA.setRow (C := X) soX g0
      have gu8 := up_setRow gu (Nat.le_refl _) X
      have g2' : (W7.setRow w.heap.size X).heap[w.heap.size + 1]? = some (.cells zS 27 (0,0)) := by rw [setRow_other _ _ _ _ (by omega)]; exact g2
      have g0' := setRow_heap _ _ _ _ _ X g0
      obtain ⟨W8,hW8⟩ : ∃ W8,W7.setRow w.heap.size X = W8 := ⟨_,rfl⟩
      rw [hW8] at so8 gu8 g2' g0'
      have HI : Hid _ := And.intro h1X (And.intro h2X (And.intro g0' (And.intro g2' (And.intro so8 (And.intro HOK2.out gu8)))))
      clear so8 gu8 g2' g0' soX gu g2
      go_upto_region 10 with fail
      go_wp2_with (first | (refine wpList_load_row (by rfl) 27 (.tmp 8) (by rfl) p (by rfl) 27 X (0,0) _ hp Tryz.underlying27 (by rfl) (by rw [h1X]; exact infoSt) ?_) | (refine wpList_store_row rfl 27 (.tmp 2) (.tmp 41) rfl w.heap.size X rfl rfl 27 C g0 (by rw [h1X]; exact infoSt) (by rw [h1X,h1C]) h2X ?_; refine wpList_world hW8 ?_))
      go_roundw
      case rel=>exact ⟨k,aheadS c e,X,by omega,by go_num,HF2.out,HI.out⟩
      case measure=>simp [intOf] <;> omega
   | zero =>
    have hge : (((0 : Nat) : Int) - 1) = -1 := by omega
    rw [hge]
    clear hge
    have HF2 : Hid (bckO s l = some (.inr c)) := by unfold Hid; rw [HF.out,hrep]; rfl
    have hres2 := setRow_heap wr (w.heap.size + 1) _ _ _ C hg2
    have HU5 : Hid (Up w (wr.setRow (w.heap.size + 1) C) /\ SOA w.heap.size (wr.setRow (w.heap.size + 1) C) (.agg C) c) := ⟨up_setRow hu (by omega) _,SOA.setRow hsoa hg2⟩
    clear hrep hok hu hsoa HF HL HN HNn
    go_wp2_with (first | (refine wpList_load_row (by rfl) 27 (.tmp 2) (by rfl) w.heap.size (by rfl) 27 C (0,0) _ hg0 Tryz.underlying27 (by rfl) (by rw [h1C]; exact infoSt) ?_) | (refine wpList_store_row rfl 27 (.tmp 4) (.tmp 42) rfl (w.heap.size + 1) C rfl rfl 27 zS hg2 (by rw [h1C]; exact infoSt) (by rw [h1C]; rfl) h2C ?_))
    refine bodyPost_ret (v := .tuple #[.agg C,.int .i64 0,.int .i64 0]) (results_c2 (p := 4) (q := 5) (r := 6) (ty := 27) rfl _ _ (w.heap.size + 1) 27 C (0,0) _ _ _ rfl rfl rfl hres2 Tryz.underlying27 rfl (by rw [h1C]; exact infoSt)) rfl ?_
    rw [HP.out,HF2.out]
    exact ⟨_,rfl,HU5.out.2,HU5.out.1⟩
 ·have HF : Hid (bckO s l = none) := by unfold Hid bckO; rw [if_neg hok]
  rw [decide_eq_false hok] at HMa
  clear hok HCo HL HN HNn
  go_enter Tryz.func27,Tryz.ntmps27
  go_wp2_with (first | (refine wpList_world hW0 ?_; clear hW0; refine wpList_load_row (by rfl) 27 (.tmp 2) (by rfl) w.heap.size (by rfl) 27 A (0,0) _ g0 Tryz.underlying27 (by rfl) (by rw [hA1]; exact infoSt) ?_))
  refine Calls.mono (HMa.out _ gu) ?_
  rintro r W1 ⟨rfl,u1⟩
  have g2 := u1.heap g2
  have gu := gu.trans u1
  clear u1 HMa g0
  go_upto_region 2 with fail
  go_wp2_with (refine wpList_store_row rfl 27 (.tmp 4) (.tmp 13) rfl (w.heap.size + 1) zS rfl rfl 27 zS g2 infoSt rfl zS_all ?_)
  have HR : Hid _ := setRow_heap _ (w.heap.size + 1) _ _ _ zS g2
  refine bodyPost_ret (v := .tuple #[.agg zS,.int .i64 0,.int .i64 10]) (results_c2 (p := 4) (q := 5) (r := 6) (ty := 27) rfl _ _ (w.heap.size + 1) 27 zS (0,0) _ _ _ rfl rfl rfl HR.out Tryz.underlying27 rfl infoSt) rfl ?_
  rw [HP.out,HF.out]
  exact ⟨_,rfl,noS_soa _ _,up_setRow gu (by omega) _⟩
end DE
end Go.Proofs.YtodhjjeagmjhdaaGreatDoor
namespace Go.Proofs.YtodhjjeagmjhdaaGreatDoor
open Go.RowKit
attribute [local go_sem ↓] Go.wp_at_zero Go.wp_at_succ
namespace DE
open Go.Proofs.YtodhjjeagmjhdaaGreatDoor.ST
theorem setCells_heap {g : Nat} {t : Nat} : ∀ (ys : List Value) (a : Nat) {W : World} {cur : Array Value},W.heap[g]? = some (.cells cur t (0,0)) -> a + ys.length <= cur.size -> (W.setCells g a ys).heap[g]? = some (.cells (cur.toList.take a ++ ys ++ cur.toList.drop (a + ys.length)).toArray t (0,0))
 | [],a,W,cur,h,_=>by
  rw [World.setCells,h]
  simp
 | y :: ys,a,W,cur,h,hl=>by
  have hl' : a + 1 + ys.length <= cur.size := by simp at hl; omega
  rw [World.setCells,setCells_heap ys (a + 1) (set_cells h) (by simpa using hl')]
  congr 3
  rw [Array.toList_setIfInBounds,List.set_eq_take_append_cons_drop,if_pos (by simp; omega)]
  have e1 : (cur.toList.take a ++ y :: cur.toList.drop (a + 1)).take (a + 1) = cur.toList.take a ++ [y] := by
   rw [List.take_append]
   have : (cur.toList.take a).length = a := by simp; omega
   rw [this,List.take_of_length_le (by omega),show a + 1 - a = 1 by omega]
   rfl
  have e2 : (cur.toList.take a ++ y :: cur.toList.drop (a + 1)).drop (a + 1 + ys.length) = cur.toList.drop (a + (ys.length + 1)) := by
   rw [List.drop_append]
   have : (cur.toList.take a).length = a := by simp; omega
   rw [this,List.drop_of_length_le (by omega),show a + 1 + ys.length - a = ys.length + 1 by omega,List.drop_succ_cons,List.drop_drop,List.nil_append]
   congr 1
   omega
  rw [e1,e2]
  simp
theorem setCells_other {g b : Nat} : ∀ (ys : List Value) (a : Nat) {W : World},b ≠ g -> (W.setCells g a ys).heap[b]? = W.heap[b]?
 | [],_,_,_=>rfl
 | y :: ys,a,W,h=>by rw [World.setCells,setCells_other ys (a + 1) h]; exact Below.heap_setCell _ _ _ _ h
theorem setCells_up {w : World} {g : Nat} : ∀ (ys : List Value) (a : Nat) {W : World},Up w W -> w.heap.size <= g -> Up w (W.setCells g a ys)
 | [],_,_,h,_=>h
 | y :: ys,a,W,h,hg=>by rw [World.setCells]; exact setCells_up ys (a + 1) (Up.set h _ _ hg) hg
def wEv (l : List Ev) (i : Nat) : Ev := if i < l.length then l.getD i dE else { dE with card := numI i }
def WOrd (base : Nat) (W : World) (x : Value) (l : List Ev) (i : Nat) : Prop := if i < l.length then WI base W x (l.getD i dE).ord else x = .slice none 0 0
theorem WOrd.keep {base : Nat} {W W' : World} {x : Value} {l : List Ev} {i : Nat} (h : WOrd base W x l i) (k : ∀ g cs,base <= g -> W.heap[g]? = some (.cells cs 3 (0,0)) -> W'.heap[g]? = some (.cells cs 3 (0,0))) : WOrd base W' x l i := by
 unfold WOrd at h ⊢
 split
 ·rename_i hi
  rw [if_pos hi] at h
  obtain ⟨g,h1,h2,h3⟩ := h
  exact ⟨g,h1,h2,k g _ h1 h3⟩
 ·rename_i hi
  rw [if_neg hi] at h
  exact h
def WE (base : Nat) (W : World) (v : Value) (l : List Ev) : Prop := ∃ (g : Nat) (cs : List Value) (f : Nat -> Value),base <= g /\ v = .slice (some ⟨g,0,none⟩) l.length (l.length + 64) /\ W.heap[g]? = some (.cells cs.toArray 30 (0,0)) /\ cs.length = (l.length + 64) * 12 /\ ∀ i,i < l.length + 64 -> (∀ j,j < 12 -> cs[i * 12 + j]? = (evc (wEv l i) (f i))[j]?) /\ WOrd base W (f i) l i
theorem WE.up {base : Nat} {W W' : World} {v : Value} {l : List Ev} (h : WE base W v l) (u : Up W W') : WE base W' v l := by
 obtain ⟨g,cs,f,h1,h2,h3,h4,h5⟩ := h
 exact ⟨g,cs,f,h1,h2,u.heap h3,h4,fun i hi=>⟨(h5 i hi).1,(h5 i hi).2.keep (fun g cs _ hg=>u.heap hg)⟩⟩
theorem WE.val {base : Nat} {W : World} {v : Value} {l : List Ev} (h : WE base W v l) : ∃ a c,v = .slice a l.length c := by
 obtain ⟨g,cs,f,h1,h2,h3⟩ := h
 exact ⟨_,_,h2⟩
theorem WE.evs {base : Nat} {W : World} {v : Value} {l : List Ev} (h : WE base W v l) : EVS W v l := by
 obtain ⟨g,cs,f,h1,rfl,h3,h4,h5⟩ := h
 have hf : ∀ i,i < l.length -> ((List.range l.length).map f).getD i nl = f i := fun i hi=>by simp [List.getD,hi]
 refine ⟨(List.range l.length).map f,⟨by rw [evsC_len],some ⟨g,0,none⟩,l.length + 64,rfl,by omega,fun hn=>⟨g,0,rfl,fun j hj=>?_⟩⟩,fun i hi=>?_⟩
 ·rw [Nat.zero_add]
  have : W.cell? ⟨g,j,none⟩ = cs[j]? := by simp [World.cell?,h3]
  have e : j / 12 * 12 + j % 12 = j := by rw [Nat.mul_comm]; exact Nat.div_add_mod j 12
  have h6 : j / 12 < l.length := by omega
  have h7 := (h5 (j / 12) (by omega)).1 (j % 12) (by omega)
  have h8 := evsC_get l ((List.range l.length).map f) (j / 12) (j % 12) h6 (by omega)
  rw [e] at h7 h8
  rw [this,h7,h8,hf _ h6,wEv,if_pos h6]
 ·rw [hf i hi]
  have h6 := (h5 i (by omega)).2
  rw [WOrd,if_pos hi] at h6
  exact h6.il
def WEs (base : Nat) (w W : World) (g n : Nat) (l : List Ev) (i : Nat) (cs : List Value) (f : Nat -> Value) : Prop := W.heap[g]? = some (.cells cs.toArray 30 (0,0)) /\ cs.length = (n + 64) * 12 /\ (∀ q,q < i -> (∀ j,j < 12 -> cs[q * 12 + j]? = (evc (wEv l q) (f q))[j]?) /\ WOrd base W (f q) l q) /\ Up w W
theorem WEs.put {base : Nat} {w W W1 : World} {g n : Nat} {l : List Ev} {i : Nat} {cs : List Value} {f : Nat -> Value} {x : Value} {e : Ev} (h : WEs base w W g n l i cs f) (u : Up W W1) (hi : i < n + 64) (he : e = wEv l i) (hx : WOrd base W1 x l i) (hg : w.heap.size <= g) : ∃ cs' f',WEs base w (W1.setCells g (i * 12) (evc e x).toList) g n l (i + 1) cs' f' := by
 obtain ⟨h1,h2,h3,h4⟩ := h
 have k1 := u.heap h1
 have kp : ∀ g' cs',base <= g' -> W1.heap[g']? = some (.cells cs' 3 (0,0)) -> (W1.setCells g (i * 12) (evc e x).toList).heap[g']? = some (.cells cs' 3 (0,0)) := fun g' cs' _ h'=>by rw [setCells_other _ _ (heap_ne h' k1 (by decide))]; exact h'
 have k2 := setCells_heap (evc e x).toList (i * 12) k1 (by rw [List.size_toArray,h2]; show i * 12 + 12 <= _; omega)
 have hl12 : (evc e x).toList.length = 12 := rfl
 refine ⟨_,fun q=>if q = i then x else f q,k2,?_,fun q hq=>?_,setCells_up _ _ (h4.trans u) hg⟩
 ·rw [List.length_append,List.length_append,List.length_take,List.length_drop,hl12]
  dsimp only
  omega
 ·have htl : (cs.take (i * 12)).length = i * 12 := by rw [List.length_take]; omega
  by_cases e9 : q = i
  ·subst e9
   refine ⟨fun j hj=>?_,?_⟩
   ·dsimp only
    rw [if_pos rfl,<- he,List.append_assoc,List.getElem?_append_right (by omega),htl,show q * 12 + j - q * 12 = j by omega,List.getElem?_append_left (by omega),Array.getElem?_toList]
   ·dsimp only
    rw [if_pos rfl]
    exact hx.keep kp
  ·have h5 := h3 q (by omega)
   refine ⟨fun j hj=>?_,?_⟩
   ·dsimp only
    rw [if_neg e9,List.append_assoc,List.getElem?_append_left (by omega),List.getElem?_take,if_pos (by omega)]
    exact h5.1 j hj
   ·dsimp only
    rw [if_neg e9]
    exact (h5.2.keep (fun g' cs' _ h'=>u.heap h')).keep kp
theorem evc_oneW {e : Ev} {x : Value} (h : x.oneCell' = true) : (evc e x).all (·.oneCell') = true := by
 rw [Array.all_eq_true']
 intro u hu
 unfold evc at hu
 simp only [List.mem_toArray,List.mem_cons,List.not_mem_nil,or_false] at hu
 rcases hu with rfl | rfl | rfl | rfl | rfl | rfl | rfl | rfl | rfl | rfl | rfl | rfl <;> first | rfl | exact h
theorem infoEvW : (Tryz.prog.info? 30).map (fun i=>(i.zero,i.size,i.bytes)) = some (some (.agg #[.int .i8 0,.int .i8 0,.int .i64 0,.int .i64 0,.int .i64 0,.int .i64 0,.int .i64 0,.int .i64 0,.int .i64 0,.int .i32 0,.int .i32 0,.slice none 0 0]),12,96) := by kernel_rfl
set_option maxRecDepth 100000 in
set_option maxHeartbeats 4000000 in
theorem wideEvents_ (v : Value) (l : List Ev) (w : World) (hv : EVS w v l) (hn : l.length <= 4294967296) (hl : ∀ r,r < l.length -> (l.getD r dE).ord.length <= 4294967296) :
  Calls Tryz.prog 23 #[v] w (CpPost w fun W v'=>WE w.heap.size W v' l) := by
 obtain ⟨iT,hiT,z0,z1,z2⟩ := info_parts infoEvW
 obtain ⟨Post,hPost⟩ : ∃ P : Ending -> World -> Prop,P = CpPost w fun W v'=>WE w.heap.size W v' l := ⟨_,rfl⟩
 rw [<- hPost]
 have HP : Hid (Post = CpPost w fun W v'=>WE w.heap.size W v' l) := hPost
 obtain ⟨a1,k1,rfl,-,h1⟩ := evs_at hv
 obtain ⟨n,hn0⟩ : ∃ n,n = l.length := ⟨_,rfl⟩
 have HN : Hid (n = l.length) := hn0
 rw [<- hn0] at hn h1 hl ⊢
 have H1 : Hid _ := h1
 have HL : Hid _ := hl
 obtain ⟨g,hg⟩ : ∃ g,g = w.heap.size := ⟨_,rfl⟩
 have HG : Hid (g = w.heap.size) := hg
 clear hPost hv h1 hn0 hl
 go_enter Tryz.func23,Tryz.ntmps23
 go_wp2_with (at_make; refine wpList_make_full _ rfl _ _ 32 rfl w.heap.size 30 iT _ 12 Tryz.underlying32 hiT z0 z1 .i64 .i64 _ _ (n + 64) rfl rfl rfl rfl (by rw [z2]; omega) (by unfold maxLen; omega) (Nat.le_refl _) ?_; intro w1 hin hg1)
 have HI : Hid (∃ cs f,WEs g w w1 g n l 0 cs f) := ⟨_,fun _=>nl,by rw [hg]; exact row_made hin,by have := hin.1; omega,fun q hq=>by omega,made_up hg1⟩
 rw [<- hg]
 clear hin hg1 hg
 go_wp2_with fail
 go_loopw [4] (fun s4 W=>∃ (i : Nat) (cs : List Value) (f : Nat -> Value),i <= n + 64 /\ s4 = .int .i64 i /\ WEs g w W g n l i cs f) (fun s4 _=>n + 64 - (intOf s4).toNat)
 case atStart=>obtain ⟨cs,f,h⟩ := HI.out; exact ⟨0,cs,f,Nat.zero_le _,rfl,h⟩
 case round =>
  obtain ⟨i,cs,f,hi,rfl,hw⟩ := hrel
  clear HI
  have HW : Hid (WEs g w wr g n l i cs f) := hw
  have hgw : w.heap.size <= g := by rw [HG.out]; exact Nat.le_refl _
  have hgs : g <= wr.heap.size := by have := (Array.getElem?_eq_some_iff.1 hw.1).1; omega
  by_cases hlt : i < n + 64
  ·have hlt2 : (i : Int) < (n : Int) + 64 := by omega
   have HCe : Hid (∀ W,Up wr W -> W.there g (i * 12) 12) := fun W u j hj=>by
    have h1 := u.heap hw.1
    have h2 := hw.2.1
    have : W.cell? ⟨g,i * 12 + j,none⟩ = cs[i * 12 + j]? := by simp [World.cell?,h1]
    exact ⟨by rw [this,List.getElem?_eq_getElem (by omega)]; rfl,seven_f h1 _⟩
   by_cases hin : i < n
   ·have hin2 : (i : Int) < (n : Int) := by omega
    obtain ⟨b1,o1,rfl,-,c1⟩ := H1.out (by omega)
    obtain ⟨ra,rc,hcell,hil⟩ := c1 i hin
    obtain ⟨x0,x1,x2,x3,x4,x5,x6,x7,x8,x9,x10,x11⟩ := hcell wr hw.2.2.2
    have HE : Hid (wEv l i = l.getD i dE) := by unfold Hid wEv; rw [if_pos (by rw [<- HN.out]; exact hin)]
    have HWO : Hid (∀ W x,WI g W x (l.getD i dE).ord -> WOrd g W x l i) := fun W x h=>by rw [WOrd,if_pos (by rw [<- HN.out]; exact hin)]; exact h
    have HK : Hid _ := wideEvent_ (l.getD i dE) _ wr (hil.up hw.2.2.2) (HL.out i hin)
    clear c1 hcell hil hw
    generalize l.getD i dE = e at *
    unfold evv evc at HK
    go_wp2_with fail
    refine Calls.mono HK.out ?_
    rintro r w2 ⟨x,rfl,hx,u2⟩
    have HX : Hid (WI g w2 x e.ord) := hx.less hgs
    have HU2 : Hid (Up wr w2) := u2
    obtain ⟨xa,xc,hxv⟩ := WI.val hx
    have ht := HCe.out w2 u2
    have HF : Hid (∃ cs' f',WEs g w (w2.setCells g (i * 12) (evc e x).toList) g n l (i + 1) cs' f') := WEs.put HW.out u2 hlt HE.out.symm (HWO.out _ _ HX.out) hgw
    have hone : (evc e x).all (·.oneCell') = true := evc_oneW (by rw [hxv]; rfl)
    clear hx u2 HK HX x0 x1 x2 x3 x4 x5 x6 x7 x8 x9 x10 x11
    subst hxv
    obtain ⟨W9,hW9⟩ : ∃ W9,w2.setCells g (i * 12) (evc e (.slice xa e.ord.length xc)).toList = W9 := ⟨_,rfl⟩
    rw [hW9] at HF
    go_wp2_with (first | (refine wpList_store_mid rfl 30 (.tmp 26) (.tmp 25) rfl g (i * 12) (evc e (.slice xa e.ord.length xc)) rfl rfl ht infoEv hone ?_; refine wpList_world hW9 ?_))
    go_roundw
    case rel=>obtain ⟨cs',f',h9⟩ := HF.out; exact ⟨i + 1,cs',f',by omega,by go_num,h9⟩
    case measure=>simp [intOf]; omega
   ·have hin2 : ¬ (i : Int) < (n : Int) := by omega
    clear hw
    go_wp2_with fail
    refine Calls.mono (num_ i (by omega) _) ?_
    rintro e w2 ⟨rfl,rfl⟩
    have ht := HCe.out w2 (Up.refl _)
    have HF : Hid (∃ cs' f',WEs g w (w2.setCells g (i * 12) (evc { dE with card := numI i } (.slice none 0 0)).toList) g n l (i + 1) cs' f') := WEs.put HW.out (Up.refl _) hlt (by unfold wEv; rw [if_neg (by rw [<- HN.out]; exact hin)]) (by rw [WOrd,if_neg (by rw [<- HN.out]; exact hin)]) hgw
    generalize numI i = z at HF ⊢
    have hone : (evc { dE with card := z } (.slice none 0 0)).all (·.oneCell') = true := evc_oneW rfl
    obtain ⟨W9,hW9⟩ : ∃ W9,w2.setCells g (i * 12) (evc { dE with card := z } (.slice none 0 0)).toList = W9 := ⟨_,rfl⟩
    rw [hW9] at HF
    go_wp2_with (first | (refine wpList_store_mid rfl 30 (.tmp 32) (.tmp 31) rfl g (i * 12) (evc { dE with card := z } (.slice none 0 0)) rfl rfl ht infoEv hone ?_; refine wpList_world hW9 ?_))
    go_roundw
    case rel=>obtain ⟨cs',f',h9⟩ := HF.out; exact ⟨i + 1,cs',f',by omega,by go_num,h9⟩
    case measure=>simp [intOf]; omega
  ·have hlt2 : ¬ (i : Int) < (n : Int) + 64 := by omega
   have hn64 : (n : Int) <= (n : Int) + 64 := by omega
   clear hw
   go_wp2
   rw [HP.out]
   have hnn := HN.out
   exact ⟨_,rfl,⟨g,cs,f,hgw,by rw [<- HN.out],HW.out.1,by rw [<- hnn]; exact HW.out.2.1,fun j hj=>by rw [<- HG.out]; exact HW.out.2.2.1 j (by omega)⟩,HW.out.2.2.2⟩
theorem we_cells {w : World} {g : Nat} {cs : List Value} {t : TypeId} {o : Nat} {e : Ev} {x : Value} (h3 : w.heap[g]? = some (.cells cs.toArray t (0,0))) (h : ∀ j,j < 12 -> cs[o + j]? = (evc e x)[j]?) : ∀ W,Up w W -> Ev12 W g o e x := fun W u=>by
 have h4 := u.heap h3
 have c : ∀ j,j < 12 -> W.cell? ⟨g,o + j,none⟩ = (evc e x)[j]? := fun j hj=>by
  have : W.cell? ⟨g,o + j,none⟩ = cs[o + j]? := by simp [World.cell?,h4]
  rw [this,h j hj]
 exact ⟨c 0 (by decide),c 1 (by decide),c 2 (by decide),c 3 (by decide),c 4 (by decide),c 5 (by decide),c 6 (by decide),c 7 (by decide),c 8 (by decide),c 9 (by decide),c 10 (by decide),c 11 (by decide)⟩
set_option maxRecDepth 100000 in
set_option maxHeartbeats 4000000 in
theorem spareEvents_ (base : Nat) (v : Value) (l : List Ev) (w : World) (hv : WE base w v l) (hn : l.length <= 4294967296) (hl : ∀ r,r < l.length -> (l.getD r dE).ord.length <= 4294967296) :
  Calls Tryz.prog 29 #[v] w fun e w'=>e = .returned (.bool true) /\ Up w w' := by
 obtain ⟨g,cs,f,-,rfl,h3,h4,h5⟩ := hv
 obtain ⟨n,hn0⟩ : ∃ n,n = l.length := ⟨_,rfl⟩
 have HC : Hid (∀ i,n <= i -> i < n + 64 -> ∀ W,Up w W -> Ev12 W g (i * 12) { dE with card := numI i } (.slice none 0 0)) := fun i h1 h2=>by
  have h6 := h5 i (by omega)
  have h7 := h6.2
  rw [WOrd,if_neg (by omega)] at h7
  have h8 := h6.1
  rw [h7,wEv,if_neg (by omega)] at h8
  exact we_cells h3 h8
 have HR : Hid (∀ i,i < n -> ∃ xa xc,(∀ W,Up w W -> Ev12 W g (i * 12) (l.getD i dE) (.slice xa (l.getD i dE).ord.length xc)) /\ WI base w (.slice xa (l.getD i dE).ord.length xc) (l.getD i dE).ord) := fun i h1=>by
  have h6 := h5 i (by omega)
  have h7 := h6.2
  rw [WOrd,if_pos (by omega)] at h7
  obtain ⟨xa,xc,hx⟩ := WI.val h7
  have h8 := h6.1
  rw [hx,wEv,if_pos (by omega)] at h8
  rw [hx] at h7
  exact ⟨xa,xc,we_cells h3 h8,h7⟩
 have HL : Hid _ := hl
 rw [<- hn0] at hn HL ⊢
 clear h3 h4 h5 hl hn0
 have e1 : (n : Int) + 64 <= (n : Int) + 64 := by omega
 have e2 : (0 : Int) <= (n : Int) + 64 := by omega
 have e3 : ((n : Int) + 64).toNat = n + 64 := by omega
 go_enter Tryz.func29,Tryz.ntmps29
 go_wp2_with fail
 go_loopw [2,4] (fun s2 s4 wr=>∃ i : Nat,n <= i /\ i <= n + 64 /\ s2 = .bool false /\ s4 = .int .i64 i /\ Up w wr) (fun _ s4 _=>n + 64 - (intOf s4).toNat)
 case atStart=>exact ⟨n,Nat.le_refl _,by omega,rfl,rfl,Up.refl _⟩
 case round =>
  obtain ⟨i,hi1,hi2,rfl,rfl,u9⟩ := hrel
  have HU : Hid (Up w wr) := u9
  by_cases hlt : i < n + 64
  ·have hlt2 : (i : Int) < (n : Int) + 64 := by omega
   obtain ⟨x0,x1,x2,x3,x4,x5,x6,x7,x8,x9,x10,x11⟩ := HC.out i hi1 hlt wr u9
   have HNm : Hid _ := num_ i (by omega)
   clear u9
   generalize numI i = z at *
   obtain ⟨W9,hW9⟩ : ∃ W9,(wr.alloc (.cells zEv 30)).setRow wr.heap.size (evc { dE with card := z } (.slice none 0 0)) = W9 := ⟨_,rfl⟩
   obtain ⟨r9,u9,-⟩ := filled wr zEv (evc { dE with card := z } (.slice none 0 0)) 30
   rw [hW9] at r9 u9
   have c2 : W9.cell? ⟨wr.heap.size,2,none⟩ = some (.int .i64 z) := by simp [World.cell?,r9]; rfl
   have c11 : W9.cell? ⟨wr.heap.size,11,none⟩ = some (.slice none 0 0) := by simp [World.cell?,r9]; rfl
   have HU9 : Hid (Up w W9) := HU.out.trans u9
   have hone : (evc { dE with card := z } (.slice none 0 0)).all (·.oneCell') = true := evc_oneW rfl
   clear u9 r9
   go_wp2_with (first | (refine wpList_store_row rfl 30 (.tmp 5) (.tmp 23) rfl wr.heap.size (evc { dE with card := z } (.slice none 0 0)) rfl rfl 30 zEv (heap_alloc_new wr _) infoEv rfl hone ?_; refine wpList_world hW9 ?_))
   clear hW9
   go_quiet (exact Calls.quiet_of_same (HNm.out _))
   go_wp2
   go_roundw
   case rel =>
    refine ⟨i + 1,by omega,by omega,rfl,by go_num,HU9.out.trans ?_⟩
    repeat (first | with_reducible exact Up.refl _ | with_reducible apply Up.alloc | with_reducible apply Up.drewN | with_reducible apply Up.drew)
   case measure=>simp [intOf]; omega
  ·have hlt2 : ¬ (i : Int) < (n : Int) + 64 := by omega
   clear u9
   go_wp2_with fail
   go_loopw [2,6] (fun s2 s6 W=>∃ i : Nat,i <= n /\ s2 = .bool false /\ s6 = .int .i64 i /\ Up w W) (fun _ s6 _=>n - (intOf s6).toNat)
   case atStart=>exact ⟨0,Nat.zero_le _,rfl,rfl,HU.out⟩
   case round =>
    obtain ⟨i,hi,rfl,rfl,u9⟩ := hrel
    clear HU
    have HU : Hid (Up w wr) := u9
    by_cases hlt5 : i < n
    ·have hlt6 : (i : Int) < (n : Int) := by omega
     obtain ⟨xa,xc,hx,hwi⟩ := HR.out i hlt5
     obtain ⟨x0,x1,x2,x3,x4,x5,x6,x7,x8,x9,x10,x11⟩ := hx wr u9
     have HCa : Hid _ := spareEvent_ base (l.getD i dE) _ wr (hwi.up u9) (HL.out i hlt5)
     clear u9 hx hwi
     generalize l.getD i dE = e at *
     unfold evv evc at HCa
     go_wp2_with fail
     refine Calls.mono HCa.out ?_
     rintro r w2 ⟨rfl,u2⟩
     have HU2 : Hid (Up w w2) := HU.out.trans u2
     clear u2 HCa x0 x1 x2 x3 x4 x5 x6 x7 x8 x9 x10 x11
     go_wp2
     go_roundw
     case rel=>exact ⟨i + 1,by omega,rfl,by go_num,HU2.out⟩
     case measure=>simp [intOf]; omega
    ·have hlt6 : ¬ (i : Int) < (n : Int) := by omega
     clear u9
     go_wp2
     go_ret
     exact ⟨rfl,HU.out⟩
set_option maxRecDepth 100000 in
set_option maxHeartbeats 4000000 in
theorem eqEvents_ (va vb : Value) (l : List Ev) (w : World) (ha : EVS w va l) (hb : EVS w vb l) (hn : l.length <= 4294967296) (hl : ∀ r,r < l.length -> (l.getD r dE).ord.length <= 4294967296) :
  Calls Tryz.prog 28 #[va,vb] w fun e w'=>e = .returned (.bool true) /\ Up w w' := by
 obtain ⟨aa,ac,rfl,-,h1⟩ := evs_at ha
 obtain ⟨ba,bc,rfl,-,h2⟩ := evs_at hb
 obtain ⟨n,hn0⟩ : ∃ n,n = l.length := ⟨_,rfl⟩
 have HA : Hid _ := h1
 have HB : Hid _ := h2
 have HL : Hid _ := hl
 rw [<- hn0] at hn HA HB HL ⊢
 clear ha hb h1 h2 hl hn0
 go_enter Tryz.func28,Tryz.ntmps28
 go_wp2_with fail
 go_loopw [4,5] (fun s4 s5 W=>∃ i : Nat,i <= n /\ s4 = .bool false /\ s5 = .int .i64 i /\ Up w W) (fun _ s5 _=>n - (intOf s5).toNat)
 case atStart=>exact ⟨0,Nat.zero_le _,rfl,rfl,Up.refl _⟩
 case round =>
  obtain ⟨i,hi,rfl,rfl,hu⟩ := hrel
  by_cases hlt : i < n
  ·have hlt2 : (i : Int) < (n : Int) := by omega
   obtain ⟨b1,o1,rfl,-,c1⟩ := HA.out (by omega)
   obtain ⟨b2,o2,rfl,-,c2⟩ := HB.out (by omega)
   obtain ⟨xa,xc,hca,hia⟩ := c1 i hlt
   obtain ⟨ya,yc,hcb,hib⟩ := c2 i hlt
   have hl1 := HL.out i hlt
   clear c1 c2
   generalize l.getD i dE = e at *
   have HE : Hid (∀ W,Up wr W -> Calls Tryz.prog 15 #[.agg #[.int .i8 e.kind,.int .i8 e.field,.int .i64 e.card,.int .i64 e.player,.int .i64 e.other,.int .i64 e.fr,.int .i64 e.frAt,.int .i64 e.to_,.int .i64 e.toAt,.int .i32 e.was,.int .i32 e.now,.slice xa e.ord.length xc],.agg #[.int .i8 e.kind,.int .i8 e.field,.int .i64 e.card,.int .i64 e.player,.int .i64 e.other,.int .i64 e.fr,.int .i64 e.frAt,.int .i64 e.to_,.int .i64 e.toAt,.int .i32 e.was,.int .i32 e.now,.slice ya e.ord.length yc]] W fun x w'=>x = .returned (.bool true) /\ Up W w') := fun W u=>by
    have h9 := eqEvent_ e e _ _ W (hia.up (hu.trans u)) (hib.up (hu.trans u)) hl1
    rw [show eqE e e = true by simp [eqE]] at h9
    exact h9
   clear hia hib hl1
   go_wp2_with fail
   refine (fun key : ∀ W : World,Up wr W -> (?G6 : World -> Prop) W=>?main6) ?kp6
   case main6 =>
    refine wp_region_held_drew (S := fun W9=>Up wr W9) (by kernel_rfl) (Up.drew (Up.refl _)) (fun hHeld=>?_)
    have Ua0 : Up wr wr.drew := Up.drew (Up.refl _)
    refine wpAnyH_take (i := 0) (v := ?_) rfl (by kernel_rfl) (by kernel_rfl) (by kernel_rfl) (fun _ _ _ h=>h) (Or.inl ⟨by rfl,?_⟩) (by assumption) ?_
    rotate_left
    ·intro w9 hSw
     go_simp
     try with_reducible rfl
    simp only [Act.put,qa1,qa2,qa3,qa4,qa5]
    refine wpAnyH_take (i := 1) (v := ?_) rfl (by kernel_rfl) (by kernel_rfl) (by kernel_rfl) (fun _ _ _ h=>h) (Or.inl ⟨by rfl,?_⟩) (by assumption) ?_
    rotate_left
    ·intro w9 hSw
     go_simp
     try with_reducible rfl
    simp only [Act.put,qa1,qa2,qa3,qa4,qa5,qa6]
    refine wpAnyH_take (i := 2) (v := ?_) rfl (by kernel_rfl) (by kernel_rfl) (by kernel_rfl) (fun _ _ _ h=>h) (Or.inl ⟨by rfl,?_⟩) (by assumption) ?_
    rotate_left
    ·intro w9 hSw
     go_simp
     try with_reducible rfl
    simp only [Act.put,qa1,qa2,qa3,qa4,qa5,qa6]
    refine wpAnyH_take (i := 3) (v := ?_) rfl (by kernel_rfl) (by kernel_rfl) (by kernel_rfl) (fun _ _ _ h=>h) (Or.inl ⟨by rfl,?_⟩) (by assumption) ?_
    rotate_left
    ·intro w9 hSw
     obtain ⟨x0,x1,x2,x3,x4,x5,x6,x7,x8,x9,x10,x11⟩ := hca w9 (hu.trans hSw)
     go_simp
     try with_reducible rfl
    simp only [Act.put,qa1,qa2,qa3,qa4,qa5,qa6]
    refine wpAnyH_take (i := 4) (v := ?_) rfl (by kernel_rfl) (by kernel_rfl) (by kernel_rfl) (fun _ _ _ h=>h) (Or.inl ⟨by rfl,?_⟩) (by assumption) ?_
    rotate_left
    ·intro w9 hSw
     go_simp
     try with_reducible rfl
    simp only [Act.put,qa1,qa2,qa3,qa4,qa5,qa6]
    refine wpAnyH_take (i := 5) (v := ?_) rfl (by kernel_rfl) (by kernel_rfl) (by kernel_rfl) (fun _ _ _ h=>h) (Or.inl ⟨by rfl,?_⟩) (by assumption) ?_
    rotate_left
    ·intro w9 hSw
     go_simp
     try with_reducible rfl
    simp only [Act.put,qa1,qa2,qa3,qa4,qa5,qa6]
    refine wpAnyH_take (i := 6) (v := ?_) rfl (by kernel_rfl) (by kernel_rfl) (by kernel_rfl) (fun _ _ _ h=>h) (Or.inl ⟨by rfl,?_⟩) (by assumption) ?_
    rotate_left
    ·intro w9 hSw
     go_simp
     try with_reducible rfl
    simp only [Act.put,qa1,qa2,qa3,qa4,qa5,qa6]
    refine wpAnyH_take (i := 7) (v := ?_) rfl (by kernel_rfl) (by kernel_rfl) (by kernel_rfl) (fun _ _ _ h=>h) (Or.inl ⟨by rfl,?_⟩) (by assumption) ?_
    rotate_left
    ·intro w9 hSw
     obtain ⟨x0,x1,x2,x3,x4,x5,x6,x7,x8,x9,x10,x11⟩ := hcb w9 (hu.trans hSw)
     go_simp
     try with_reducible rfl
    simp only [Act.put,qa1,qa2,qa3,qa4,qa5,qa6]
    refine wpAnyH_ready (rs := [8]) (by kernel_rfl) (by simp) ?_
    refine AllReadyH.cons rfl (fun K hK=>?_) AllReadyH.nil
    simp only [qa4,qa5,qa6]
    go_simp
    refine Calls.mono (HE.out _ Ua0) ?_
    rintro r9 Wa1 ⟨rfl,ua1⟩
    go_simp
    have Ua1 := Ua0.trans ua1
    refine hK.out _ _ ?_ (fun hHeld=>?_)
    ·exact Ua1
    clear hK K
    try simp only [Act.put,qa1,qa2,qa3]
    have hSS := Ua1
    refine wpAnyH_take (i := 9) (v := ?_) rfl (by kernel_rfl) (by kernel_rfl) (by kernel_rfl) (fun _ _ _ h=>h) (Or.inl ⟨by rfl,?_⟩) (by assumption) ?_
    rotate_left
    ·intro w9 hSw
     go_simp
     try with_reducible rfl
    simp only [Act.put,qa1,qa2,qa3,qa4,qa5,qa6]
    refine wpAnyH_done (by kernel_rfl) ?_ _
    exact key Wa1 Ua1
   case kp6 =>
    intro W7 U7
    have HU7 : Hid (Up w W7) := hu.trans U7
    clear hu U7 HE hca hcb
    go_wp2
    go_roundw
    case rel=>exact ⟨i + 1,by omega,rfl,by go_num,HU7.out⟩
    case measure=>simp [intOf]; omega
  ·have hlt2 : ¬ (i : Int) < (n : Int) := by omega
   have HU7 : Hid (Up w wr) := hu
   clear hu
   go_wp2
   go_ret
   exact ⟨rfl,HU7.out⟩
end DE
end Go.Proofs.YtodhjjeagmjhdaaGreatDoor
