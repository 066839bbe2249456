/- Dpr6, OpenS2, Num, Sat, Ch6, Oo6 -/
import Derived.Test.YtodhjjeagmjhdaaGreatDoorDpa6VR
import Derived.Test.YtodhjjeagmjhdaaGreatDoorRrp6VR
import Derived.Test.YtodhjjeagmjhdaaGreatDoorRao6TvWee6R
import Derived.WalkKit
import Derived.ProofKit
import Derived.OpenShut
import Derived.ChangeOld
import Derived.SizedLaws
import Derived.Deep.Slices
import Derived.Deep.Strs
namespace Go.Proofs.YtodhjjeagmjhdaaGreatDoor
open Go.RowKit
attribute [local go_sem ↓] Go.wp_at_zero Go.wp_at_succ
namespace DE
open Go.Proofs.YtodhjjeagmjhdaaGreatDoor.ST
def RpW (o : Option (Sum Nat Stt)) (w : World) (x : Ending) (w' : World) : Prop := ∃ C : Array Value,x = .returned (.tuple #[.agg C,.int .i64 (placeOf o : Nat),.int .i64 (errOf o)]) /\ C.size = 7 /\ C.all (·.oneCell') = true /\ SOA w.heap.size w' (.agg C) (stOf o) /\ Up w w'
theorem rpw_of {w : World} {o : Option (Sum Nat Stt)} {x : Ending} {w' : World} (h : RepV w o x w') : RpW o w x w' := by
 obtain ⟨v,h1,h2,h3⟩ := h
 obtain ⟨C,rfl,hC1,hC2⟩ := SOA.row h2
 exact ⟨C,h1,hC1,hC2,h2,h3⟩
def blkOf : Value -> Nat
 | .slice (some a) _ _=>a.block
 | _=>0
def XI (lo hi : Nat) (w W : World) (g : Nat) (l : List Ev) (f : Nat -> Nat) : Prop := (∀ i,i < l.length -> W.cell? ⟨g,i * 12 + 11,none⟩ = some (.slice (some ⟨f i,0,none⟩) (l.getD i dE).ord.length ((l.getD i dE).ord.length + 64)) /\ lo <= f i /\ f i < hi /\ f i ≠ g /\ ∃ A : Array Value,W.heap[f i]? = some (.cells A 3 (0,0)) /\ A.size = (l.getD i dE).ord.length + 64) /\ Below lo w W /\ Kp hi w W
theorem XI.set {lo hi : Nat} {w W : World} {g : Nat} {l : List Ev} {f : Nat -> Nat} (h : XI lo hi w W g l f) {i : Nat} (hi' : i < l.length) (k : Nat) (x : Value) : XI lo hi w (W.setCell ⟨f i,k,none⟩ x) g l f := by
 obtain ⟨h1,h2,h3⟩ := h
 obtain ⟨a1,a2,a3,a4,A,a5,a6⟩ := h1 i hi'
 refine ⟨fun j hj=>?_,Below.setCell h2 a2 x,h3.trans (Kp.set a3)⟩
 obtain ⟨b1,b2,b3,b4,B,b5,b6⟩ := h1 j hj
 refine ⟨?_,b2,b3,b4,?_⟩
 ·rw [World.cell?_setCell_other _ _ _ _ (fun e=>a4 (by injection e))]
  exact b1
 ·by_cases e : f j = f i
  ·rw [e] at b5 ⊢
   exact ⟨_,set_cells b5,by rw [Array.size_setIfInBounds]; exact b6⟩
  ·exact ⟨B,set_other b5 e,b6⟩
theorem we_xi {base : Nat} {W5 W : World} {v : Value} {l : List Ev} (h : WE base W5 v l) (hk : Kp base W5 W) : ∃ g f,v = .slice (some ⟨g,0,none⟩) l.length (l.length + 64) /\ XI base W5.heap.size W W g l f := by
 obtain ⟨g,cs,F,h1,h2,h3,h4,h5⟩ := h
 have k3 := hk _ _ h1 h3
 refine ⟨g,fun i=>blkOf (F i),h2,fun i hi=>?_,Below.refl _ _,Kp.refl _ _⟩
 obtain ⟨c1,c2⟩ := h5 i (by omega)
 rw [WOrd,if_pos hi] at c2
 obtain ⟨gi,d1,d2,d3⟩ := c2
 have c3 := c1 11 (by decide)
 have e1 : W.cell? ⟨g,i * 12 + 11,none⟩ = cs[i * 12 + 11]? := by simp [World.cell?,k3]
 dsimp only
 rw [d2]
 refine ⟨?_,d1,(Array.getElem?_eq_some_iff.1 d3).1,heap_ne d3 h3 (by decide),_,hk _ _ d1 d3,by rw [List.size_toArray,wIs_len]⟩
 rw [e1,c3,d2]
 rfl
theorem ord_le {l : List Ev} {i : Nat} (hi : i < l.length) : (l.getD i dE).ord.length <= lenE l := by
 have := row_flat (ords l) i (by unfold ords; simpa using hi)
 rw [ords_get hi] at this
 unfold lenE
 omega
set_option maxRecDepth 100000 in
set_option maxHeartbeats 8000000 in
theorem replaysW (v vl : Value) (s : Stt) (l : List Ev) (w : World) (hv : StL w v s) (hf : Far s) (hl : EVS w vl l) (hm : NearE l) (hw : ∀ i,i < l.length -> (l.getD i dE).was <= 2147483647) :
  Calls Tryz.prog 5 #[v,vl] w fun x w'=>x = .returned (.bool true) /\ Up w w' := by
 have HLV : Hid (∀ W,Calls Tryz.prog 20 #[] W fun x w'=>x = .returned (.bool true) /\ Up W w') := lives_
 have HBY : Hid (∀ W,Up w W -> Calls Tryz.prog 8 #[v,vl] W fun x w'=>x = .returned (.bool (decide (2147483647 < lenS s + lenE l))) /\ Up W w') := fun W u=>beyond_ v vl s l W (hv.up u) hf (hl.up u) hm
 have HST : Hid (StL w v s) := hv
 have HEL : Hid (EVS w vl l) := hl
 obtain ⟨la,lc,hvl,-,-⟩ := evs_at hl
 obtain ⟨vp,vc,vz,hvv,h1,h2,h3⟩ := hv
 obtain ⟨a1,k1,rfl,-,-⟩ := lc_at h1
 obtain ⟨a2,k2,rfl,-,-⟩ := lc_at h2
 obtain ⟨a3,k3,rfl,-,-⟩ := zl_at h3
 unfold sv at hvv
 clear h1 h2 h3 hl
 obtain ⟨A,hA0⟩ : ∃ A : Array Value,A = #[.slice a1 s.ps.length k1,.slice a2 s.cs.length k2,.slice a3 s.zs.length k3,.int .i32 s.turn,.int .i64 s.whose,.int .i8 s.fin,.int .i64 s.winner] := ⟨_,rfl⟩
 have hA1 : A.size = 7 := by rw [hA0]; rfl
 rw [<- hA0] at hvv
 subst hvv
 clear hA0
 subst hvl
 obtain ⟨W1,hW1⟩ : ∃ W1,w.alloc (.cells A 27) = W1 := ⟨_,rfl⟩
 have hA : W1.heap[w.heap.size]? = some (.cells A 27 (0,0)) := by rw [<- hW1]; exact heap_alloc_new _ _
 have HU : Up w W1 := by rw [<- hW1]; exact (Up.refl _).alloc _
 by_cases hlong : 2147483647 < lenS s + lenE l
 ·rw [decide_eq_true hlong] at HBY
  clear hlong hw hm hf
  go_enter Tryz.func5,Tryz.ntmps5
  go_wp2_with (first | (refine wpList_world hW1 ?_; refine wpList_load_row (by rfl) 27 (.tmp 2) (by rfl) w.heap.size (by rfl) 27 A (0,0) _ hA Tryz.underlying27 (by rfl) (by rw [hA1]; exact infoSt) ?_) | (refine wpList_load_row (by rfl) 27 (.tmp 2) (by rfl) w.heap.size (by rfl) 27 A (0,0) _ hA Tryz.underlying27 (by rfl) (by rw [hA1]; exact infoSt) ?_))
  clear hW1
  refine Calls.mono (HBY.out _ HU) ?_
  rintro r W2 ⟨rfl,u2⟩
  have HZ : Hid (Up w W2) := HU.trans u2
  clear u2 HU hA
  go_wp2
  go_ret
  exact ⟨rfl,HZ.out⟩
 ·rw [decide_eq_false hlong] at HBY
  have hsml : lenS s <= 2147483647 := by omega
  have HSM : Hid (Small s) := small_of hsml
  have hlE : lenE l <= 2147483647 := by omega
  have hlen : l.length <= 2147483647 := by unfold lenE at hlE; omega
  have hn : ∀ i,i < l.length -> (l.getD i dE).ord.length <= 4294967296 := fun i hi=>by have := ord_le hi; omega
  have hfl : (flat s).length <= 4294967296 := by unfold lenS at hsml; omega
  obtain ⟨o1,ho1⟩ : ∃ o,o = repO s l := ⟨_,rfl⟩
  obtain ⟨o2,ho2⟩ : ∃ o,o = bckO s l := ⟨_,rfl⟩
  have HS1 : Hid (Small (stOf o1)) := by
   rw [ho1]
   unfold Hid repO
   split
   ·rename_i hok
    show Small (stOf (some (repl s l 0)))
    cases hq : repl s l 0 with
    | inl k=>exact small_noSW
    | inr t=>exact small_ok (repl_ok l s t 0 hok hq)
   ·exact small_noSW
  have HS2 : Hid (Small (stOf o2)) := by
   rw [ho2]
   unfold Hid bckO
   split
   ·rename_i hok
    show Small (stOf (some (bck l l.length s)))
    cases hq : bck l l.length s with
    | inl k=>exact small_noSW
    | inr t=>exact small_ok (bck_ok l l.length s t hok hq)
   ·exact small_noSW
  have HRep : Hid (∀ (W : World) (v vx : Value),StL W v s -> EVS W vx l -> Calls Tryz.prog 24 #[v,vx] W (RpW o1 W)) := fun W v vx h1 h2=>by
   rw [ho1]
   exact (replay_ v vx s l W h1 HSM.out h2 (by omega) (fun i hi=>by have := hn i hi; omega)).mono fun e w' h=>rpw_of h
  have HBck : Hid (∀ (W : World) (v vx : Value),StL W v s -> EVS W vx l -> Calls Tryz.prog 26 #[v,vx] W (RpW o2 W)) := fun W v vx h1 h2=>by
   rw [ho2]
   exact (back_ v vx s l W h1 HSM.out h2 (by omega) (fun i hi=>by have := hn i hi; omega)).mono fun e w' h=>rpw_of h
  have HRr : Hid (∀ W,Up w W -> Calls Tryz.prog 25 #[.agg A,.slice la l.length lc] W (RpW o1 W)) := fun W u=>by
   rw [ho1]
   exact (rreplay_ (.agg A) _ s l W (HST.out.up u) HSM.out hfl (HEL.out.up u) (by omega) hn).mono fun e w' h=>rpw_of h
  have HRb : Hid (∀ W,Up w W -> Calls Tryz.prog 27 #[.agg A,.slice la l.length lc] W (RpW o2 W)) := fun W u=>by
   rw [ho2]
   exact (rback_ (.agg A) _ s l W (HST.out.up u) HSM.out hfl (HEL.out.up u) (by omega) hn hw).mono fun e w' h=>rpw_of h
  have HWS : Hid (∀ W,Up w W -> Calls Tryz.prog 9 #[.agg A] W (CpPost W fun W' v=>WSA W.heap.size W' v s)) := fun W u=>wideStateA_ (.agg A) s W (HST.out.up u) HSM.out
  have HWE : Hid (∀ W,Up w W -> Calls Tryz.prog 23 #[.slice la l.length lc] W (CpPost W fun W' v=>WE W.heap.size W' v l)) := fun W u=>wideEvents_ _ l W (HEL.out.up u) (by omega) hn
  have HEE : Hid (∀ (W : World) (vx : Value),Up w W -> EVS W vx l -> Calls Tryz.prog 28 #[vx,.slice la l.length lc] W fun x w'=>x = .returned (.bool true) /\ Up W w') := fun W vx u h=>eqEvents_ vx _ l W h (HEL.out.up u) (by omega) hn
  have HSE : Hid (∀ (W : World) (b : Nat) (vx : Value),WE b W vx l -> Calls Tryz.prog 29 #[vx] W fun x w'=>x = .returned (.bool true) /\ Up W w') := fun W b vx h=>spareEvents_ b vx l W h (by omega) hn
  unfold RpW at HRep HBck HRr HRb
  have HLN : Hid (∀ i,i < l.length -> (l.getD i dE).ord.length <= 4294967296) := hn
  generalize errOf o1 = g1 at *
  generalize stOf o1 = st1 at *
  generalize ((placeOf o1 : Nat) : Int) = p1 at *
  generalize errOf o2 = g2 at *
  generalize stOf o2 = st2 at *
  generalize ((placeOf o2 : Nat) : Int) = p2 at *
  clear hlong hsml hlE ho1 ho2 hfl hw hn hm hf
  obtain ⟨n,hn0⟩ : ∃ n,n = l.length := ⟨_,rfl⟩
  have HNn : Hid (n = l.length) := hn0
  rw [<- hn0] at hlen HRr HRb HWE HEE ⊢
  rw [<- hn0] at HBY
  clear hn0
  go_enter Tryz.func5,Tryz.ntmps5
  go_wp2_with (first | (refine wpList_world hW1 ?_; refine wpList_load_row (by rfl) 27 (.tmp 2) (by rfl) w.heap.size (by rfl) 27 A (0,0) _ hA Tryz.underlying27 (by rfl) (by rw [hA1]; exact infoSt) ?_) | (refine wpList_load_row (by rfl) 27 (.tmp 2) (by rfl) w.heap.size (by rfl) 27 A (0,0) _ hA Tryz.underlying27 (by rfl) (by rw [hA1]; exact infoSt) ?_))
  clear hW1
  refine Calls.mono (HBY.out _ HU) ?_
  rintro r W2 ⟨rfl,u2⟩
  have hA := u2.heap hA
  have HU := HU.trans u2
  clear u2 HBY
  have hl2 : w.heap.size < W2.heap.size := (Array.getElem?_eq_some_iff.1 hA).1
  go_wp2_with (first | (refine wpList_load_row (by rfl) 27 (.tmp 2) (by rfl) w.heap.size (by rfl) 27 A (0,0) _ hA Tryz.underlying27 (by rfl) (by rw [hA1]; exact infoSt) ?_))
  refine Calls.mono (HWS.out _ HU) ?_
  rintro r W3 ⟨vI,rfl,fI,u⟩
  have hA := u.heap hA
  have HU := HU.trans u
  have HS3 : Hid (W2.heap.size <= W3.heap.size) := u.size
  clear u
  obtain ⟨I,rfl,h1I,h2I⟩ := WSA.row fI
  have HFI : Hid (WSA W2.heap.size W3 (.agg I) s) := fI
  have U3 : Up W3 W3 := Up.refl _
  obtain ⟨W4,hwI⟩ : ∃ Wq,(W3.alloc (.cells zS 27)).setRow W3.heap.size I = Wq := ⟨_,rfl⟩
  obtain ⟨rI,u,-⟩ := filled W3 zS I 27
  rw [hwI] at rI u
  have hA := u.heap hA
  have HU := HU.trans u
  have fI := fI.up u
  have U3 := U3.trans u
  have HS4 : Hid (W3.heap.size <= W4.heap.size) := u.size
  clear u
  go_wp2_with (first | (refine wpList_store_row rfl 27 (.tmp 5) (.tmp 26) rfl W3.heap.size I rfl rfl 27 zS (heap_alloc_new W3 _) (by rw [h1I]; exact infoSt) (by rw [h1I]; rfl) h2I ?_; refine wpList_world hwI ?_))
  refine Calls.mono (HWE.out _ HU) ?_
  rintro r W5 ⟨vx,rfl,fE,u⟩
  have hA := u.heap hA
  have HU := HU.trans u
  have fI := fI.up u
  have U3 := U3.trans u
  have rI := u.heap rI
  have HS5 : Hid (W4.heap.size <= W5.heap.size) := u.size
  clear u
  have HFE : Hid (WE W4.heap.size W5 vx l) := fE
  have U5 : Up W5 W5 := Up.refl _
  obtain ⟨xa,xc,hxv⟩ := WE.val fE
  rw [<- HNn.out] at hxv
  subst hxv
  go_wp2_with (first | (refine wpList_load_row (by rfl) 27 (.tmp 5) (by rfl) W3.heap.size (by rfl) 27 I (0,0) _ rI Tryz.underlying27 (by rfl) (by rw [h1I]; exact infoSt) ?_))
  refine Calls.mono (HRep.out _ _ _ (WS.sl (WSA.ws fI)) (WE.evs fE)) ?_
  rintro r W6 ⟨X,rfl,h1X,h2X,fX,u⟩
  have hA := u.heap hA
  have HU := HU.trans u
  have fI := fI.up u
  have U3 := U3.trans u
  have rI := u.heap rI
  have fE := fE.up u
  have U5 := U5.trans u
  have HS6 : Hid (W5.heap.size <= W6.heap.size) := u.size
  clear u
  have HX : Hid (BG.StIn W6 W5.heap.size W6.heap.size (.agg X)) := SOA.stIn fX HS1.out
  have U6 : Up W6 W6 := Up.refl _
  obtain ⟨W7,hwX⟩ : ∃ Wq,(W6.alloc (.cells zS 27)).setRow W6.heap.size X = Wq := ⟨_,rfl⟩
  obtain ⟨rX,u,-⟩ := filled W6 zS X 27
  rw [hwX] at rX u
  have hA := u.heap hA
  have HU := HU.trans u
  have fI := fI.up u
  have U3 := U3.trans u
  have rI := u.heap rI
  have fE := fE.up u
  have U5 := U5.trans u
  have fX := fX.up u
  have U6 := U6.trans u
  have HS7 : Hid (W6.heap.size <= W7.heap.size) := u.size
  clear u
  go_wp2_with (first | (refine wpList_store_row rfl 27 (.tmp 7) (.tmp 33) rfl W6.heap.size X rfl rfl 27 zS (heap_alloc_new W6 _) (by rw [h1X]; exact infoSt) (by rw [h1X]; rfl) h2X ?_; refine wpList_world hwX ?_) | (refine wpList_load_row (by rfl) 27 (.tmp 2) (by rfl) w.heap.size (by rfl) 27 A (0,0) _ hA Tryz.underlying27 (by rfl) (by rw [hA1]; exact infoSt) ?_))
  refine Calls.mono (HRr.out _ HU) ?_
  rintro r W8 ⟨Z,rfl,h1Z,h2Z,fZ,u⟩
  have hA := u.heap hA
  have HU := HU.trans u
  have fI := fI.up u
  have U3 := U3.trans u
  have rI := u.heap rI
  have fE := fE.up u
  have U5 := U5.trans u
  have fX := fX.up u
  have U6 := U6.trans u
  have rX := u.heap rX
  have HS8 : Hid (W7.heap.size <= W8.heap.size) := u.size
  clear u
  obtain ⟨W9,hwZ⟩ : ∃ Wq,(W8.alloc (.cells zS 27)).setRow W8.heap.size Z = Wq := ⟨_,rfl⟩
  obtain ⟨rZ,u,-⟩ := filled W8 zS Z 27
  rw [hwZ] at rZ u
  have hA := u.heap hA
  have HU := HU.trans u
  have fI := fI.up u
  have U3 := U3.trans u
  have rI := u.heap rI
  have fE := fE.up u
  have U5 := U5.trans u
  have fX := fX.up u
  have U6 := U6.trans u
  have rX := u.heap rX
  have fZ := fZ.up u
  have HS9 : Hid (W8.heap.size <= W9.heap.size) := u.size
  clear u
  go_wp2_with (first | (refine wpList_store_row rfl 27 (.tmp 10) (.tmp 40) rfl W8.heap.size Z rfl rfl 27 zS (heap_alloc_new W8 _) (by rw [h1Z]; exact infoSt) (by rw [h1Z]; rfl) h2Z ?_; refine wpList_world hwZ ?_) | (refine wpList_load_row (by rfl) 27 (.tmp 5) (by rfl) W3.heap.size (by rfl) 27 I (0,0) _ rI Tryz.underlying27 (by rfl) (by rw [h1I]; exact infoSt) ?_))
  refine Calls.mono (HBck.out _ _ _ (WS.sl (WSA.ws fI)) (WE.evs fE)) ?_
  rintro r W10 ⟨Y,rfl,h1Y,h2Y,fY,u⟩
  have hA := u.heap hA
  have HU := HU.trans u
  have fI := fI.up u
  have U3 := U3.trans u
  have rI := u.heap rI
  have fE := fE.up u
  have U5 := U5.trans u
  have fX := fX.up u
  have U6 := U6.trans u
  have rX := u.heap rX
  have fZ := fZ.up u
  have rZ := u.heap rZ
  have HS10 : Hid (W9.heap.size <= W10.heap.size) := u.size
  clear u
  have HY : Hid (BG.StIn W10 W9.heap.size W10.heap.size (.agg Y)) := SOA.stIn fY HS2.out
  have U10 : Up W10 W10 := Up.refl _
  obtain ⟨W11,hwY⟩ : ∃ Wq,(W10.alloc (.cells zS 27)).setRow W10.heap.size Y = Wq := ⟨_,rfl⟩
  obtain ⟨rY,u,-⟩ := filled W10 zS Y 27
  rw [hwY] at rY u
  have hA := u.heap hA
  have HU := HU.trans u
  have fI := fI.up u
  have U3 := U3.trans u
  have rI := u.heap rI
  have fE := fE.up u
  have U5 := U5.trans u
  have fX := fX.up u
  have U6 := U6.trans u
  have rX := u.heap rX
  have fZ := fZ.up u
  have rZ := u.heap rZ
  have fY := fY.up u
  have U10 := U10.trans u
  have HS11 : Hid (W10.heap.size <= W11.heap.size) := u.size
  clear u
  go_wp2_with (first | (refine wpList_store_row rfl 27 (.tmp 13) (.tmp 47) rfl W10.heap.size Y rfl rfl 27 zS (heap_alloc_new W10 _) (by rw [h1Y]; exact infoSt) (by rw [h1Y]; rfl) h2Y ?_; refine wpList_world hwY ?_) | (refine wpList_load_row (by rfl) 27 (.tmp 2) (by rfl) w.heap.size (by rfl) 27 A (0,0) _ hA Tryz.underlying27 (by rfl) (by rw [hA1]; exact infoSt) ?_))
  refine Calls.mono (HRb.out _ HU) ?_
  rintro r W12 ⟨Q,rfl,h1Q,h2Q,fQ,u⟩
  have hA := u.heap hA
  have HU := HU.trans u
  have fI := fI.up u
  have U3 := U3.trans u
  have rI := u.heap rI
  have fE := fE.up u
  have U5 := U5.trans u
  have fX := fX.up u
  have U6 := U6.trans u
  have rX := u.heap rX
  have fZ := fZ.up u
  have rZ := u.heap rZ
  have fY := fY.up u
  have U10 := U10.trans u
  have rY := u.heap rY
  have HS12 : Hid (W11.heap.size <= W12.heap.size) := u.size
  clear u
  obtain ⟨W13,hwQ⟩ : ∃ Wq,(W12.alloc (.cells zS 27)).setRow W12.heap.size Q = Wq := ⟨_,rfl⟩
  obtain ⟨rQ,u,-⟩ := filled W12 zS Q 27
  rw [hwQ] at rQ u
  have hA := u.heap hA
  have HU := HU.trans u
  have fI := fI.up u
  have U3 := U3.trans u
  have rI := u.heap rI
  have fE := fE.up u
  have U5 := U5.trans u
  have fX := fX.up u
  have U6 := U6.trans u
  have rX := u.heap rX
  have fZ := fZ.up u
  have rZ := u.heap rZ
  have fY := fY.up u
  have U10 := U10.trans u
  have rY := u.heap rY
  have fQ := fQ.up u
  have HS13 : Hid (W12.heap.size <= W13.heap.size) := u.size
  clear u
  have HSZ : Hid (w.heap.size < W2.heap.size /\ W2.heap.size <= W3.heap.size /\ W3.heap.size <= W4.heap.size /\ W4.heap.size <= W5.heap.size /\ W5.heap.size <= W6.heap.size /\ W6.heap.size <= W7.heap.size /\ W7.heap.size <= W8.heap.size /\ W8.heap.size <= W9.heap.size /\ W9.heap.size <= W10.heap.size /\ W10.heap.size <= W11.heap.size /\ W11.heap.size <= W12.heap.size /\ W12.heap.size <= W13.heap.size) := ⟨hl2,HS3.out,HS4.out,HS5.out,HS6.out,HS7.out,HS8.out,HS9.out,HS10.out,HS11.out,HS12.out,HS13.out⟩
  clear hl2
  go_wp2_with (first | (refine wpList_store_row rfl 27 (.tmp 16) (.tmp 54) rfl W12.heap.size Q rfl rfl 27 zS (heap_alloc_new W12 _) (by rw [h1Q]; exact infoSt) (by rw [h1Q]; rfl) h2Q ?_; refine wpList_world hwQ ?_) | (refine wpList_load_rowG (by rfl) 27 (.tmp 7) (by rfl) W6.heap.size (by rfl) 27 X (0,0) _ rX Tryz.underlying27 (by rfl) (by rw [h1X]; exact infoSt) ?_) | (refine wpList_load_rowG (by rfl) 27 (.tmp 10) (by rfl) W8.heap.size (by rfl) 27 Z (0,0) _ rZ Tryz.underlying27 (by rfl) (by rw [h1Z]; exact infoSt) ?_))
  refine Calls.mono (eqState_ (.agg X) (.agg Z) st1 st1 _ (SO.sl (SOA.so fX)) (SO.sl (SOA.so fZ)) HS1.out (eqS_selfW st1)) ?_
  rintro r W14 ⟨rfl,u⟩
  have hA := u.heap hA
  have HU := HU.trans u
  have fI := fI.up u
  have U3 := U3.trans u
  have rI := u.heap rI
  have fE := fE.up u
  have U5 := U5.trans u
  have fX := fX.up u
  have U6 := U6.trans u
  have rX := u.heap rX
  have fZ := fZ.up u
  have rZ := u.heap rZ
  have fY := fY.up u
  have U10 := U10.trans u
  have rY := u.heap rY
  have fQ := fQ.up u
  have rQ := u.heap rQ
  have HS14 : Hid (W13.heap.size <= W14.heap.size) := u.size
  clear u
  go_wp2_with (first | (refine wpList_load_rowG (by rfl) 27 (.tmp 13) (by rfl) W10.heap.size (by rfl) 27 Y (0,0) _ rY Tryz.underlying27 (by rfl) (by rw [h1Y]; exact infoSt) ?_) | (refine wpList_load_rowG (by rfl) 27 (.tmp 16) (by rfl) W12.heap.size (by rfl) 27 Q (0,0) _ rQ Tryz.underlying27 (by rfl) (by rw [h1Q]; exact infoSt) ?_))
  refine Calls.mono (eqState_ (.agg Y) (.agg Q) st2 st2 _ (SO.sl (SOA.so fY)) (SO.sl (SOA.so fQ)) HS2.out (eqS_selfW st2)) ?_
  rintro r W15 ⟨rfl,u⟩
  have hA := u.heap hA
  have HU := HU.trans u
  have fI := fI.up u
  have U3 := U3.trans u
  have rI := u.heap rI
  have fE := fE.up u
  have U5 := U5.trans u
  have fX := fX.up u
  have U6 := U6.trans u
  have rX := u.heap rX
  have fZ := fZ.up u
  have rZ := u.heap rZ
  have fY := fY.up u
  have U10 := U10.trans u
  have rY := u.heap rY
  have fQ := fQ.up u
  have rQ := u.heap rQ
  have HS15 : Hid (W14.heap.size <= W15.heap.size) := u.size
  clear u
  go_wp2_with (first | (refine wpList_load_row (by rfl) 27 (.tmp 5) (by rfl) W3.heap.size (by rfl) 27 I (0,0) _ rI Tryz.underlying27 (by rfl) (by rw [h1I]; exact infoSt) ?_) | (refine wpList_load_row (by rfl) 27 (.tmp 2) (by rfl) w.heap.size (by rfl) 27 A (0,0) _ hA Tryz.underlying27 (by rfl) (by rw [hA1]; exact infoSt) ?_))
  refine Calls.mono (stays_ _ (.agg I) (.agg A) s _ fI (HST.out.up HU) HSM.out) ?_
  rintro r W16 ⟨rfl,u⟩
  have hA := u.heap hA
  have HU := HU.trans u
  have fI := fI.up u
  have U3 := U3.trans u
  have rI := u.heap rI
  have fE := fE.up u
  have U5 := U5.trans u
  have fX := fX.up u
  have U6 := U6.trans u
  have rX := u.heap rX
  have fZ := fZ.up u
  have rZ := u.heap rZ
  have fY := fY.up u
  have U10 := U10.trans u
  have rY := u.heap rY
  have fQ := fQ.up u
  have rQ := u.heap rQ
  have HS16 : Hid (W15.heap.size <= W16.heap.size) := u.size
  clear u
  go_wp2_with (fail)
  refine Calls.mono (HEE.out _ _ HU (WE.evs fE)) ?_
  rintro r W17 ⟨rfl,u⟩
  have hA := u.heap hA
  have HU := HU.trans u
  have fI := fI.up u
  have U3 := U3.trans u
  have rI := u.heap rI
  have fE := fE.up u
  have U5 := U5.trans u
  have fX := fX.up u
  have U6 := U6.trans u
  have rX := u.heap rX
  have fZ := fZ.up u
  have rZ := u.heap rZ
  have fY := fY.up u
  have U10 := U10.trans u
  have rY := u.heap rY
  have fQ := fQ.up u
  have rQ := u.heap rQ
  have HS17 : Hid (W16.heap.size <= W17.heap.size) := u.size
  clear u
  go_wp2_with (fail)
  refine Calls.mono (HSE.out _ _ _ fE) ?_
  rintro r W18 ⟨rfl,u⟩
  have hA := u.heap hA
  have HU := HU.trans u
  have fI := fI.up u
  have U3 := U3.trans u
  have rI := u.heap rI
  have fE := fE.up u
  have U5 := U5.trans u
  have fX := fX.up u
  have U6 := U6.trans u
  have rX := u.heap rX
  have fZ := fZ.up u
  have rZ := u.heap rZ
  have fY := fY.up u
  have U10 := U10.trans u
  have rY := u.heap rY
  have fQ := fQ.up u
  have rQ := u.heap rQ
  have HS18 : Hid (W17.heap.size <= W18.heap.size) := u.size
  clear u
  go_wp2_with (first | (refine wpList_load_row (by rfl) 27 (.tmp 5) (by rfl) W3.heap.size (by rfl) 27 I (0,0) _ rI Tryz.underlying27 (by rfl) (by rw [h1I]; exact infoSt) ?_))
  refine Calls.mono (spoil_ W2.heap.size (.agg I) s W3 _ HFI.out HS3.out U3 HSM.out) ?_
  rintro r W19 ⟨rfl,hbel,hkp⟩
  have hsz := HSZ.out
  have rX := hkp _ _ (by omega) rX
  have rY := hkp _ _ (by omega) rY
  have rZ := hkp _ _ (by omega) rZ
  have rQ := hkp _ _ (by omega) rQ
  have fX := fX.kp (hkp.more (by omega))
  have fZ := fZ.kp (hkp.more (by omega))
  have fY := fY.kp (hkp.more (by omega))
  have fQ := fQ.kp (hkp.more (by omega))
  have HX : Hid (BG.StIn W19 W5.heap.size W6.heap.size (.agg X)) := stIn_kp (HX.out.below (gb := W6.heap.size) (Below.mono U6 (Nat.le_refl _)) (Nat.le_refl _)) (hkp.more (by omega))
  have HY : Hid (BG.StIn W19 W9.heap.size W10.heap.size (.agg Y)) := stIn_kp (HY.out.below (gb := W10.heap.size) (Below.mono U10 (Nat.le_refl _)) (Nat.le_refl _)) (hkp.more (by omega))
  have HU : Up w W19 := Below.trans HU (Below.mono hbel (by omega))
  have HLT : Hid (W13.heap.size <= W19.heap.size) := by have h1 := HS14.out; have h2 := HS15.out; have h3 := HS16.out; have h4 := HS17.out; have h5 := HS18.out; have h6 := hbel.size; unfold Hid; omega
  have hk5 : Kp W4.heap.size W5 W19 := (Kp.up U5).trans (hkp.more (by omega))
  obtain ⟨gx,fx,hxv,hxi⟩ := we_xi HFE.out hk5
  rw [<- HNn.out] at hxv
  injection hxv with hx1 _ hx3
  subst hx1
  subst hx3
  have HXI : Hid (XI W4.heap.size W5.heap.size W19 W19 gx l fx) := hxi
  have HKX : Hid _ := And.intro rX (And.intro rY (And.intro rZ (And.intro rQ (And.intro fX (And.intro fZ (And.intro fY (And.intro fQ HU)))))))
  clear hbel hkp hA rI fI fE U3 U5 U6 U10 hsz hk5 hxi rX rY rZ rQ fX fZ fY fQ HU HFI HFE
  go_wp2_with fail
  go_loopw [19] (fun s19 W=>∃ i : Nat,i <= n /\ s19 = .int .i64 i /\ XI W4.heap.size W5.heap.size W19 W gx l fx) (fun s19 _=>n - (intOf s19).toNat)
  case atStart=>exact ⟨0,Nat.zero_le _,rfl,HXI.out⟩
  case round =>
   clear HXI
   obtain ⟨i,hi,rfl,hxi⟩ := hrel
   have HXI : Hid _ := hxi
   by_cases hlt : i < n
   ·have hlt2 : (i : Int) < (n : Int) := by omega
    have hil : i < l.length := by rw [<- HNn.out]; exact hlt
    have HLi : Hid (i < l.length) := hil
    have hq9 := HLN.out i hil
    have HRW : Hid (∀ W,XI W4.heap.size W5.heap.size W19 W gx l fx -> W.cell? ⟨gx,i * 12 + 11,none⟩ = some (.slice (some ⟨fx i,0,none⟩) (l.getD i dE).ord.length ((l.getD i dE).ord.length + 64)) /\ ∃ A : Array Value,W.heap[fx i]? = some (.cells A 3 (0,0)) /\ A.size = (l.getD i dE).ord.length + 64) := fun W hW=>by
     obtain ⟨b1,-,-,-,b2⟩ := hW.1 i HLi.out
     exact ⟨b1,b2⟩
    generalize (l.getD i dE).ord.length = q at *
    clear hxi hil
    go_wp2_with fail
    go_loopw [20] (fun s20 W=>∃ k : Nat,k <= q /\ s20 = .int .i64 k /\ XI W4.heap.size W5.heap.size W19 W gx l fx) (fun s20 _=>q - (intOf s20).toNat)
    case atStart=>exact ⟨0,Nat.zero_le _,rfl,HXI.out⟩
    case round =>
     clear HXI
     obtain ⟨k,hk,rfl,hxi⟩ := hrel
     have HXI : Hid _ := hxi
     obtain ⟨x1,B,x2,x3⟩ := HRW.out _ hxi
     by_cases hkq : k < q
     ·have hkq2 : (k : Int) < (q : Int) := by omega
      have x4 : wr.cell? ⟨fx i,k,none⟩ = some (B[k]'(by omega)) := by simp [World.cell?,x2]
      have x5 := seven_f x2 k
      generalize B[k]'(by omega) = y at x4
      clear hxi x2 x3
      go_wp2_with fail
      go_roundw
      case rel=>exact ⟨k + 1,by omega,by go_num,XI.set HXI.out HLi.out k _⟩
      case measure=>simp [intOf] <;> omega
     ·have hkq2 : ¬ (k : Int) < (q : Int) := by omega
      clear hxi x2 x3
      go_wp2_with fail
      go_roundw
      case rel=>exact ⟨i + 1,by omega,by go_num,HXI.out⟩
      case measure=>simp [intOf] <;> omega
   ·have hlt2 : ¬ (i : Int) < (n : Int) := by omega
    clear hxi hlt
    obtain ⟨-,hbel,hkp⟩ := HXI.out
    obtain ⟨rX,rY,rZ,rQ,fX,fZ,fY,fQ,HU⟩ := HKX.out
    have hsz := HSZ.out
    have rX := hkp _ _ (by omega) rX
    have rY := hkp _ _ (by omega) rY
    have rZ := hkp _ _ (by omega) rZ
    have rQ := hkp _ _ (by omega) rQ
    have fX := fX.kp (hkp.more (by omega))
    have fZ := fZ.kp (hkp.more (by omega))
    have fY := fY.kp (hkp.more (by omega))
    have fQ := fQ.kp (hkp.more (by omega))
    have HX : Hid (BG.StIn wr W5.heap.size W6.heap.size (.agg X)) := stIn_kp HX.out (hkp.more (by omega))
    have HY : Hid (BG.StIn wr W9.heap.size W10.heap.size (.agg Y)) := stIn_kp HY.out (hkp.more (by omega))
    have HU : Up w wr := Below.trans HU (Below.mono hbel (by omega))
    have HLT : Hid (W13.heap.size <= wr.heap.size) := by have h1 := HLT.out; have h2 := hbel.size; unfold Hid; omega
    clear hbel hkp hsz HKX HXI
    obtain ⟨W20,hW20⟩ : ∃ W20,wr = W20 := ⟨_,rfl⟩
    rw [hW20] at rX rY rZ rQ fX fZ fY fQ HX HY HU HLT ⊢
    clear hW20
    go_wp2_with (first | (refine wpList_load_row (by rfl) 27 (.tmp 7) (by rfl) W6.heap.size (by rfl) 27 X (0,0) _ rX Tryz.underlying27 (by rfl) (by rw [h1X]; exact infoSt) ?_) | (refine wpList_load_row (by rfl) 27 (.tmp 10) (by rfl) W8.heap.size (by rfl) 27 Z (0,0) _ rZ Tryz.underlying27 (by rfl) (by rw [h1Z]; exact infoSt) ?_))
    refine Calls.mono (eqState_ (.agg X) (.agg Z) st1 st1 _ (SO.sl (SOA.so fX)) (SO.sl (SOA.so fZ)) HS1.out (eqS_selfW st1)) ?_
    rintro r W21 ⟨rfl,u⟩
    have HX : Hid (BG.StIn W21 W5.heap.size W6.heap.size (.agg X)) := HX.out.below (gb := W20.heap.size) u (by have := HLT.out; have := HSZ.out; omega)
    have HY : Hid (BG.StIn W21 W9.heap.size W10.heap.size (.agg Y)) := HY.out.below (gb := W20.heap.size) u (by have := HLT.out; have := HSZ.out; omega)
    have HLT : Hid (W13.heap.size <= W21.heap.size) := Nat.le_trans HLT.out u.size
    have HU := HU.trans u
    have rX := u.heap rX
    have rY := u.heap rY
    have rZ := u.heap rZ
    have rQ := u.heap rQ
    have fX := fX.up u
    have fY := fY.up u
    have fZ := fZ.up u
    have fQ := fQ.up u
    clear u
    go_wp2_with (first | (refine wpList_load_rowG (by rfl) 27 (.tmp 13) (by rfl) W10.heap.size (by rfl) 27 Y (0,0) _ rY Tryz.underlying27 (by rfl) (by rw [h1Y]; exact infoSt) ?_) | (refine wpList_load_rowG (by rfl) 27 (.tmp 16) (by rfl) W12.heap.size (by rfl) 27 Q (0,0) _ rQ Tryz.underlying27 (by rfl) (by rw [h1Q]; exact infoSt) ?_))
    refine Calls.mono (eqState_ (.agg Y) (.agg Q) st2 st2 _ (SO.sl (SOA.so fY)) (SO.sl (SOA.so fQ)) HS2.out (eqS_selfW st2)) ?_
    rintro r W22 ⟨rfl,u⟩
    have HX : Hid (BG.StIn W22 W5.heap.size W6.heap.size (.agg X)) := HX.out.below (gb := W21.heap.size) u (by have := HLT.out; have := HSZ.out; omega)
    have HY : Hid (BG.StIn W22 W9.heap.size W10.heap.size (.agg Y)) := HY.out.below (gb := W21.heap.size) u (by have := HLT.out; have := HSZ.out; omega)
    have HLT : Hid (W13.heap.size <= W22.heap.size) := Nat.le_trans HLT.out u.size
    have HU := HU.trans u
    have rX := u.heap rX
    have rY := u.heap rY
    have rZ := u.heap rZ
    have rQ := u.heap rQ
    have fX := fX.up u
    have fY := fY.up u
    have fZ := fZ.up u
    have fQ := fQ.up u
    clear u
    clear fX fY fZ fQ rZ rQ
    obtain ⟨gb,hgb⟩ : ∃ g,g = W22.heap.size := ⟨_,rfl⟩
    obtain ⟨W23,hW23⟩ : ∃ W,W = W22.alloc (.cells #[.slice none 0 0,.slice none 0 0,.slice none 0 0,.slice none 0 0,.slice none 0 0,.slice none 0 0,.slice none 0 0,.slice none 0 0,.slice none 0 0,.slice none 0 0,.slice none 0 0,.slice none 0 0,.slice none 0 0,.slice none 0 0,.slice none 0 0,.slice none 0 0,.slice none 0 0,.slice none 0 0,.slice none 0 0,.slice none 0 0,.slice none 0 0] 64) := ⟨_,rfl⟩
    have HB0 : Hid (BG.BagG W23 w.heap.size gb (gb + 1) (fun _=>.slice none 0 0) (fun _=>[])) := by
     unfold Hid
     rw [hgb,hW23]
     exact BG.bagG_start _ _
    have u : Up W22 W23 := by rw [hW23]; exact (Up.refl _).alloc _
    have HLT2 : Hid (w.heap.size <= W5.heap.size /\ W5.heap.size <= W6.heap.size /\ W6.heap.size <= W9.heap.size /\ W9.heap.size <= W10.heap.size /\ W10.heap.size <= gb /\ w.heap.size <= gb /\ W6.heap.size < gb /\ W10.heap.size < gb) := by
     have l1 := (Array.getElem?_eq_some_iff.1 rX).1
     have l2 := (Array.getElem?_eq_some_iff.1 rY).1
     have l3 := HLT.out
     have l4 := HSZ.out
     rw [hgb]
     exact ⟨by omega,by omega,by omega,by omega,by omega,by omega,by omega,by omega⟩
    have HX : Hid (BG.StIn W23 W5.heap.size W6.heap.size (.agg X)) := HX.out.below (gb := W22.heap.size) u (by have := HLT2.out; omega)
    have HY : Hid (BG.StIn W23 W9.heap.size W10.heap.size (.agg Y)) := HY.out.below (gb := W22.heap.size) u (by have := HLT2.out; omega)
    have HU := HU.trans u
    have rX := u.heap rX
    have rY := u.heap rY
    clear u
    have rX' := rX
    rw [hW23] at rX'
    go_wp2_with (first | (refine wpList_load_row (by rfl) 27 (.tmp 7) (by rfl) W6.heap.size (by rfl) 27 X (0,0) _ rX' Tryz.underlying27 (by rfl) (by rw [h1X]; exact infoSt) ?_))
    rw [<- hW23,<- hgb]
    clear hW23 hgb rX'
    refine Calls.mono (BG.addState_ gb (gb + 1) w.heap.size W5.heap.size W6.heap.size _ _ _ W23 HB0.out HX.out (by have := HLT2.out; omega) (by have := HLT2.out; omega) (fun j g hg=>by obtain ⟨p,hp,-⟩ := hg; exact absurd hp (Nat.not_lt_zero _))) ?_
    rintro r W24 ⟨rfl,f7,L7,d1,d2,d3,-,d5⟩
    have HB7 : Hid (BG.BagG W24 w.heap.size gb (gb + 1) f7 L7) := d1
    have HD7 : Hid (Below gb W23 W24) := d2
    have HK7 : Hid (∀ j g,BG.Blks (L7 j) g -> W5.heap.size <= g /\ g < W6.heap.size) := fun j g hg=>by
     rcases d3 j g hg with h | h
     ·obtain ⟨p,hp,-⟩ := h; exact absurd hp (Nat.not_lt_zero _)
     ·exact h
    have HJ7 : Hid (∀ j,j ∉ [7,8,12,1] -> L7 j = []) := d5
    have rY : W24.heap[W10.heap.size]? = some (.cells Y 27 (0,0)) := (d2.block _ HLT2.out.2.2.2.2.2.2.2).trans rY
    clear d1 d2 d3 d5 HB0 rX HX
    go_wp2_with (first | (refine wpList_load_row (by rfl) 27 (.tmp 13) (by rfl) W10.heap.size (by rfl) 27 Y (0,0) _ rY Tryz.underlying27 (by rfl) (by rw [h1Y]; exact infoSt) ?_))
    refine Calls.mono (BG.addState_ gb (gb + 1) w.heap.size W9.heap.size W10.heap.size _ _ _ W24 HB7.out (HY.out.below HD7.out (by have := HLT2.out; omega)) (by have := HLT2.out; omega) (by have := HLT2.out; omega) (fun j g hg=>by have := HK7.out j g hg; have := HLT2.out; omega)) ?_
    rintro r W25 ⟨rfl,f8,L8,d1,d2,-,-,d5⟩
    have HB8 : Hid (BG.BagG W25 w.heap.size gb (gb + 1) f8 L8) := d1
    have HD8 : Hid (Below w.heap.size w W25) := Below.trans HU ((Below.trans HD7.out d2).mono (by have := HLT2.out; omega))
    have HJ8 : Hid (∀ k,k < 21 -> k ≠ 1 -> k ≠ 7 -> k ≠ 8 -> k ≠ 12 -> L8 k = []) := fun j _ h1 h7 h8 h12=>(d5 j (by simp; omega)).trans (HJ7.out j (by simp; omega))
    clear d1 d2 d5 HB7 HD7 HK7 HJ7 rY HY
    go_wp2_with fail
    refine Calls.mono (BG.apartS_ W25 w.heap.size gb (gb + 1) f8 L8 HB8.out HLT2.out.2.2.2.2.2.1 HJ8.out) ?_
    rintro r W26 ⟨rfl,d1⟩
    have HD9 : Hid (Below w.heap.size w W26) := Below.trans HD8.out d1
    clear d1 HD8 HB8 HJ8
    go_wp2_with fail
    refine Calls.mono (HLV.out _) ?_
    rintro r W27 ⟨rfl,d1⟩
    have HF : Hid (Up w W27) := Below.trans HD9.out (d1.mono HD9.out.size)
    clear d1 HD9
    go_wp2
    go_ret
    exact ⟨rfl,HF.out⟩
end DE
end Go.Proofs.YtodhjjeagmjhdaaGreatDoor
namespace Go.Proofs.YtodhjjeagmjhdaaGreatDoor
open Go.ChangeShapes Go.WideShapes Go.ChangeAt Go.RowKit
theorem weightsAll_mem {H : Type} {P : Program} {e : TypeId} {d : DataW H} {n : Nat} (hn : n ∈ d.weights P e) : ∀ (l : List (DataW H)),d ∈ l -> n ∈ DataW.weightsAll P e l
 | [],h=>(List.not_mem_nil h).elim
 | c :: r,h=>by
  simp only [DataW.weightsAll,List.mem_append]
  rcases List.mem_cons.1 h with rfl | h
  ·exact .inl hn
  ·exact .inr (weightsAll_mem hn r h)
namespace ST
section
variable {H : Type} {enc : TypeId × Value -> H} {W : World}
theorem open_flat {E : Type} (t e s bytes fuel : Nat) (ht : Tryz.prog.underlying t = some (.slice e)) (ce : Tryz.prog.cellsOf e = s) (hs : 0 < s) (hby : Tryz.prog.bytesOf e = bytes) (hb2 : 2 <= bytes) (f : E -> List Value) (dx : E) (hf : ∀ x,(f x).length = s)
  (he : ∀ cs n y,DataW.trod enc Tryz.prog W 0 (fun _=>true) true n e cs = some y -> ∃ x : E,cs = f x) {v : Value} {d : DataW H} {p : List MemPlace}
  (h : DataW.trod enc Tryz.prog W 0 (fun _=>true) true fuel t [v] = some (d,p)) (hz : ∀ n,n ∈ DataW.weights Tryz.prog t d -> n <= reachBytes) :
  ∃ xs : List E,LC W v s xs.length (xs.flatMap f) /\ xs.length <= 140737488355328 := by
 rcases Deep.open_slice ht h with ⟨hcs,_⟩ | ⟨a,len,cap,m,n,D,Pl,hcs,_,hl,hm,hmm,hx,hel⟩
 ·obtain rfl : v = .slice none 0 0 := by simpa using hcs
  exact ⟨[],⟨by simp,none,0,rfl,Nat.le_refl _,fun h=>absurd rfl h⟩,Nat.zero_le _⟩
 ·obtain rfl : v = .slice (some a) len cap := by simpa using hcs
  have hmm : m = cap := by simpa using hmm
  subst hmm
  have hd : d = _ := congrArg Prod.fst hx
  have hb := hz ((len + (m - len)) * bytes) (by rw [hd]; simp [DataW.weights,ht,hby])
  have hr : reachBytes <= 281474976710656 := by decide
  have hlen2 : len * 2 <= 281474976710656 := by
   have h1 : len * 2 <= (len + (m - len)) * bytes := Nat.mul_le_mul (by omega) hb2
   omega
  have each : ∀ i,∃ x : E,i < len -> W.cells? 0 (a.add (i * s)) s = some (f x) := by
   intro i
   by_cases hi : i < len
   ·obtain ⟨cs',h1,h2⟩ := hel i (by omega)
    obtain ⟨x,hx'⟩ := he cs' n _ h2
    rw [ce] at h1
    exact ⟨x,fun _=>by rw [h1,hx']⟩
   ·exact ⟨dx,fun h=>absurd h hi⟩
  obtain ⟨X,hX⟩ := Classical.axiomOfChoice each
  have hlen : ((List.range len).map X).length = len := by simp
  refine ⟨(List.range len).map X,⟨by rw [flat_len f s hf],some a,m,by rw [hlen],by rw [hlen]; exact hl,fun hn=>?_⟩,by rw [hlen]; omega⟩
  rw [hlen] at hn
  have hspot : a.spot = none := by
   obtain ⟨_,hl0,hc0⟩ := World.cells?_some (hX 0 (by omega))
   have := hc0 0 (by omega)
   rw [List.getElem?_eq_getElem (by omega)] at this
   simpa [Addr.add] using World.cell?_spot this
  obtain ⟨b,off,spot⟩ := a
  simp only at hspot
  subst hspot
  refine ⟨b,off,rfl,fun j hj=>?_⟩
  rw [hlen] at hj
  have hi : j / s < len := (Nat.div_lt_iff_lt_mul hs).2 hj
  have hmod : j % s < s := Nat.mod_lt _ hs
  obtain ⟨_,hl0,hc0⟩ := World.cells?_some (hX (j / s) hi)
  have h1 := hc0 (j % s) hmod
  rw [Addr.add_mid,Addr.add_mid] at h1
  have e1 : j / s * s + j % s = j := by rw [Nat.mul_comm]; exact Nat.div_add_mod j s
  rw [Nat.add_assoc,e1] at h1
  rw [h1]
  have h2 := flat_get f s hf dx ((List.range len).map X) (j / s) (j % s) (by rw [hlen]; exact hi) hmod
  rw [e1] at h2
  rw [h2]
  simp [List.getD,hi]
theorem c21 : Tryz.prog.cellsOf 21 = 1 := by kernel_rfl
theorem c3 : Tryz.prog.cellsOf 3 = 1 := by kernel_rfl
theorem c4 : Tryz.prog.cellsOf 4 = 1 := by kernel_rfl
set_option maxRecDepth 100000 in
theorem ply_of (cs : List Value) (n : Nat) (y : DataW H × List MemPlace) (h : DataW.trod enc Tryz.prog W 0 (fun _=>true) true n 97 cs = some y) : ∃ p : Ply,cs = pv p := by
 obtain ⟨y0,y1,y2,k,-,hl,h0,h1,h2⟩ := Deep.trod_struct3 Tryz.underlying97 h
 have hl : cs.length = 3 := by rw [hl]; kernel_rfl
 match cs,hl with
 | [a,b,c],_ =>
  simp only [c21,c4] at h0 h1 h2
  obtain ⟨z0,e0,-,-⟩ := DataW.trod_int Tryz.underlying21 h0
  obtain ⟨z1,e1,-,-⟩ := DataW.trod_int Tryz.underlying21 h1
  obtain ⟨z2,e2,-⟩ := DataW.trod_bool Tryz.underlying4 h2
  simp at e0 e1 e2
  exact ⟨⟨z0,z1,z2⟩,by rw [e0,e1,e2]; rfl⟩
set_option maxRecDepth 100000 in
theorem crd_of (cs : List Value) (n : Nat) (y : DataW H × List MemPlace) (h : DataW.trod enc Tryz.prog W 0 (fun _=>true) true n 95 cs = some y) : ∃ p : Crd,cs = cv p := by
 obtain ⟨xs,k,-,-,hl,hlen,hf⟩ := DataW.trod_struct Tryz.underlying95 h
 have hl : cs.length = 6 := by rw [hl]; kernel_rfl
 have hlen : xs.length = 6 := hlen
 match cs,hl with
 | [a,b,c,d,e,g],_ =>
  have f0 : DataW.trod enc Tryz.prog W 0 (fun _=>true) true k 3 (([a,b,c,d,e,g].drop 0).take (Tryz.prog.cellsOf 3)) = xs[0]? := hf 0 _ rfl
  rw [c3,List.getElem?_eq_getElem (by omega)] at f0
  have f1 : DataW.trod enc Tryz.prog W 0 (fun _=>true) true k 3 (([a,b,c,d,e,g].drop 1).take (Tryz.prog.cellsOf 3)) = xs[1]? := hf 1 _ rfl
  rw [c3,List.getElem?_eq_getElem (by omega)] at f1
  have f2 : DataW.trod enc Tryz.prog W 0 (fun _=>true) true k 21 (([a,b,c,d,e,g].drop 2).take (Tryz.prog.cellsOf 21)) = xs[2]? := hf 2 _ rfl
  rw [c21,List.getElem?_eq_getElem (by omega)] at f2
  have f3 : DataW.trod enc Tryz.prog W 0 (fun _=>true) true k 21 (([a,b,c,d,e,g].drop 3).take (Tryz.prog.cellsOf 21)) = xs[3]? := hf 3 _ rfl
  rw [c21,List.getElem?_eq_getElem (by omega)] at f3
  have f4 : DataW.trod enc Tryz.prog W 0 (fun _=>true) true k 21 (([a,b,c,d,e,g].drop 4).take (Tryz.prog.cellsOf 21)) = xs[4]? := hf 4 _ rfl
  rw [c21,List.getElem?_eq_getElem (by omega)] at f4
  have f5 : DataW.trod enc Tryz.prog W 0 (fun _=>true) true k 21 (([a,b,c,d,e,g].drop 5).take (Tryz.prog.cellsOf 21)) = xs[5]? := hf 5 _ rfl
  rw [c21,List.getElem?_eq_getElem (by omega)] at f5
  obtain ⟨z0,e0,-,-⟩ := DataW.trod_int Tryz.underlying3 f0
  obtain ⟨z1,e1,-,-⟩ := DataW.trod_int Tryz.underlying3 f1
  obtain ⟨z2,e2,-,-⟩ := DataW.trod_int Tryz.underlying21 f2
  obtain ⟨z3,e3,-,-⟩ := DataW.trod_int Tryz.underlying21 f3
  obtain ⟨z4,e4,-,-⟩ := DataW.trod_int Tryz.underlying21 f4
  obtain ⟨z5,e5,-,-⟩ := DataW.trod_int Tryz.underlying21 f5
  simp at e0 e1 e2 e3 e4 e5
  exact ⟨⟨z0,z1,z2,z3,z4,z5⟩,by rw [e0,e1,e2,e3,e4,e5]; rfl⟩
theorem int_of (cs : List Value) (n : Nat) (y : DataW H × List MemPlace) (h : DataW.trod enc Tryz.prog W 0 (fun _=>true) true n 3 cs = some y) : ∃ z : Int,cs = [.int .i64 z] := by
 obtain ⟨z0,e0,-,-⟩ := DataW.trod_int Tryz.underlying3 h
 exact ⟨z0,e0⟩
theorem fl_ivs : ∀ l : List Int,l.flatMap (fun z : Int=>[Value.int .i64 z]) = ivs l
 | []=>rfl
 | a :: l=>by rw [List.flatMap_cons,fl_ivs l]; rfl
theorem c27 : Tryz.prog.cellsOf 27 = 7 := by kernel_rfl
theorem c22 : Tryz.prog.cellsOf 22 = 1 := by kernel_rfl
theorem c23 : Tryz.prog.cellsOf 23 = 1 := by kernel_rfl
theorem c24 : Tryz.prog.cellsOf 24 = 1 := by kernel_rfl
theorem c25 : Tryz.prog.cellsOf 25 = 1 := by kernel_rfl
theorem open_row {fuel : Nat} {v : Value} {d : DataW H} {p : List MemPlace} (h : DataW.trod enc Tryz.prog W 0 (fun _=>true) true fuel 28 [v] = some (d,p)) (hz : ∀ n,n ∈ DataW.weights Tryz.prog 28 d -> n <= reachBytes) : ∃ l : List Int,IL W v l /\ l.length <= 140737488355328 := by
 obtain ⟨l,h1,h2⟩ := open_flat 28 3 1 8 fuel Tryz.underlying28 c3 (by decide) (by kernel_rfl) (by decide) (fun z : Int=>[.int .i64 z]) 0 (fun _=>rfl) int_of h hz
 refine ⟨l,?_,h2⟩
 rw [fl_ivs l] at h1
 exact h1
theorem open_rows {fuel : Nat} {v : Value} {d : DataW H} {p : List MemPlace} (h : DataW.trod enc Tryz.prog W 0 (fun _=>true) true fuel 24 [v] = some (d,p)) (hz : ∀ n,n ∈ DataW.weights Tryz.prog 24 d -> n <= reachBytes) : ∃ zs : List (List Int),ZL W v zs /\ Near zs := by
 rcases Deep.open_slice1 Tryz.underlying24 (by kernel_rfl) h with ⟨hcs,_⟩ | ⟨a,len,cap,m,n,V,D,Pl,hcs,_,hl,hm,hmm,hx,hel⟩
 ·obtain rfl : v = .slice none 0 0 := by simpa using hcs
  exact ⟨[],⟨[],⟨rfl,none,0,rfl,Nat.le_refl _,fun h=>absurd rfl h⟩,fun i hi=>by simp at hi⟩,Nat.zero_le _,fun r hr=>by simp at hr⟩
 ·obtain rfl : v = .slice (some a) len cap := by simpa using hcs
  have hmm : m = cap := by simpa using hmm
  subst hmm
  have hd : d = _ := congrArg Prod.fst hx
  have hb := hz ((len + (m - len)) * 24) (by rw [hd]; simp [DataW.weights,Tryz.underlying24,show Tryz.prog.bytesOf 28 = 24 by kernel_rfl])
  have hr : reachBytes <= 281474976710656 := by decide
  have each : ∀ i,∃ l : List Int,i < len -> IL W (V i) l /\ l.length <= 140737488355328 := by
   intro i
   by_cases hi : i < len
   ·obtain ⟨_,h2⟩ := hel i (by omega)
    obtain ⟨l,h3,h4⟩ := open_row h2 (fun n hn=>by
     refine hz n ?_
     rw [hd]
     simp only [DataW.weights,Tryz.underlying24]
     exact List.mem_cons_of_mem _ (List.mem_append_left _ (weightsAll_mem hn _ (List.mem_map.2 ⟨i,List.mem_range.2 hi,rfl⟩))))
    exact ⟨l,fun _=>⟨h3,h4⟩⟩
   ·exact ⟨[],fun h=>absurd h hi⟩
  obtain ⟨X,hX⟩ := Classical.axiomOfChoice each
  have hlen : ((List.range len).map X).length = len := by simp
  have hg : ∀ i,i < len -> ((List.range len).map X).getD i [] = X i := fun i hi=>by simp [List.getD,hi]
  refine ⟨(List.range len).map X,⟨(List.range len).map V,⟨by simp,some a,m,by rw [hlen],by rw [hlen]; exact hl,fun hn=>?_⟩,fun i hi=>?_⟩,by rw [hlen]; omega,fun r hr'=>?_⟩
  ·rw [hlen] at hn
   have hspot : a.spot = none := by
    have := (hel 0 (by omega)).1
    simpa [Addr.add] using World.cell?_spot this
   obtain ⟨b,off,spot⟩ := a
   simp only at hspot
   subst hspot
   refine ⟨b,off,rfl,fun j hj=>?_⟩
   rw [hlen,Nat.mul_one] at hj
   have := (hel j (by omega)).1
   rw [Addr.add_mid] at this
   rw [this]
   simp [hj]
  ·rw [hlen] at hi
   rw [hg i hi]
   have e : ((List.range len).map V).getD i nl = V i := by simp [List.getD,hi]
   rw [e]
   exact (hX i hi).1
  ·rw [hlen] at hr'
   rw [hg r hr']
   exact (hX r hr').2
set_option maxRecDepth 100000 in
theorem open_state {base : Nat} {v : Value} {d : DataW H} {p : List MemPlace} (hv : Value.okWide Tryz.prog W .any base 27 v) (h : DataW.Trod enc Tryz.prog W 0 (fun _=>true) true 27 v d p) (hz : ∀ n,n ∈ DataW.weights Tryz.prog 27 d -> n <= reachBytes) :
  ∃ s,StL W v s /\ Far s := by
 obtain ⟨cs,rfl,hsz⟩ := okWide_struct Tryz.underlying27 hv
 obtain ⟨fuel,hf⟩ := h
 obtain ⟨xs,k,-,hx,hl,hlen,hfd⟩ := DataW.trod_struct Tryz.underlying27 hf
 have hlen : xs.length = 7 := hlen
 have hd : d = .agg (xs.map (·.1)) := congrArg Prod.fst hx
 obtain ⟨l⟩ := cs
 have hl7 : l.length = 7 := by
  rw [c27] at hsz
  simpa using hsz
 match l,hl7 with
 | [a,b,c,d1,e,g,i],_ =>
  have f0 : DataW.trod enc Tryz.prog W 0 (fun _=>true) true k 22 (([a,b,c,d1,e,g,i].drop 0).take (Tryz.prog.cellsOf 22)) = xs[0]? := hfd 0 _ rfl
  rw [c22,List.getElem?_eq_getElem (by omega)] at f0
  have f1 : DataW.trod enc Tryz.prog W 0 (fun _=>true) true k 23 (([a,b,c,d1,e,g,i].drop 1).take (Tryz.prog.cellsOf 23)) = xs[1]? := hfd 1 _ rfl
  rw [c23,List.getElem?_eq_getElem (by omega)] at f1
  have f2 : DataW.trod enc Tryz.prog W 0 (fun _=>true) true k 24 (([a,b,c,d1,e,g,i].drop 2).take (Tryz.prog.cellsOf 24)) = xs[2]? := hfd 2 _ rfl
  rw [c24,List.getElem?_eq_getElem (by omega)] at f2
  have f3 : DataW.trod enc Tryz.prog W 0 (fun _=>true) true k 21 (([a,b,c,d1,e,g,i].drop 3).take (Tryz.prog.cellsOf 21)) = xs[3]? := hfd 3 _ rfl
  rw [c21,List.getElem?_eq_getElem (by omega)] at f3
  have f4 : DataW.trod enc Tryz.prog W 0 (fun _=>true) true k 3 (([a,b,c,d1,e,g,i].drop 4).take (Tryz.prog.cellsOf 3)) = xs[4]? := hfd 4 _ rfl
  rw [c3,List.getElem?_eq_getElem (by omega)] at f4
  have f5 : DataW.trod enc Tryz.prog W 0 (fun _=>true) true k 25 (([a,b,c,d1,e,g,i].drop 5).take (Tryz.prog.cellsOf 25)) = xs[5]? := hfd 5 _ rfl
  rw [c25,List.getElem?_eq_getElem (by omega)] at f5
  have f6 : DataW.trod enc Tryz.prog W 0 (fun _=>true) true k 3 (([a,b,c,d1,e,g,i].drop 6).take (Tryz.prog.cellsOf 3)) = xs[6]? := hfd 6 _ rfl
  rw [c3,List.getElem?_eq_getElem (by omega)] at f6
  obtain ⟨z3,e3,-,-⟩ := DataW.trod_int Tryz.underlying21 f3
  obtain ⟨z4,e4,-,-⟩ := DataW.trod_int Tryz.underlying3 f4
  obtain ⟨z5,e5,-,-⟩ := DataW.trod_int Tryz.underlying25 f5
  obtain ⟨z6,e6,-,-⟩ := DataW.trod_int Tryz.underlying3 f6
  simp at e3 e4 e5 e6
  obtain ⟨ps,p1,p2⟩ := open_flat 22 97 3 12 k Tryz.underlying22 (by kernel_rfl) (by decide) (by kernel_rfl) (by decide) pv dp (fun _=>rfl) ply_of (v := a) (d := (xs[0]'(by omega)).1) (p := (xs[0]'(by omega)).2) f0 (fun n hn=>hz n (by
   rw [hd]; simp only [DataW.weights,Tryz.underlying27]; exact DataW.weights_mem_each (j := 0) (t := 22) rfl (by simp [List.getElem?_eq_getElem (show 0 < xs.length by omega)]) n hn))
  obtain ⟨cs,q1,q2⟩ := open_flat 23 95 6 32 k Tryz.underlying23 (by kernel_rfl) (by decide) (by kernel_rfl) (by decide) cv dc (fun _=>rfl) crd_of (v := b) (d := (xs[1]'(by omega)).1) (p := (xs[1]'(by omega)).2) f1 (fun n hn=>hz n (by
   rw [hd]; simp only [DataW.weights,Tryz.underlying27]; exact DataW.weights_mem_each (j := 1) (t := 23) rfl (by simp [List.getElem?_eq_getElem (show 1 < xs.length by omega)]) n hn))
  obtain ⟨zs,r1,r2⟩ := open_rows (v := c) (d := (xs[2]'(by omega)).1) (p := (xs[2]'(by omega)).2) f2 (fun n hn=>hz n (by
   rw [hd]; simp only [DataW.weights,Tryz.underlying27]; exact DataW.weights_mem_each (j := 2) (t := 24) rfl (by simp [List.getElem?_eq_getElem (show 2 < xs.length by omega)]) n hn))
  exact ⟨⟨ps,cs,zs,z3,z4,z5,z6⟩,⟨a,b,c,by rw [e3,e4,e5,e6]; rfl,p1,q1,r1⟩,p2,q2,r2⟩
end
end ST
end Go.Proofs.YtodhjjeagmjhdaaGreatDoor
namespace Go.Proofs.YtodhjjeagmjhdaaGreatDoor
open Go.RowKit
def nz (b : Int) : Bool := !(b == 0)
theorem wrap_i32 (n : Int) : wrap32 n = (n + 2147483648) % 4294967296 - 2147483648 := by unfold wrap32; rfl
theorem wrap_i64 (n : Int) : wrap64 n = (n + 9223372036854775808) % 18446744073709551616 - 9223372036854775808 := by unfold wrap64; rfl
end Go.Proofs.YtodhjjeagmjhdaaGreatDoor
namespace Go.Proofs.YtodhjjeagmjhdaaGreatDoor
open Go.RowKit
end Go.Proofs.YtodhjjeagmjhdaaGreatDoor
namespace Go.Proofs.YtodhjjeagmjhdaaGreatDoor
open Go.RowKit
attribute [local go_sem ↓] Go.wp_at_zero Go.wp_at_succ
namespace DE
open Go.Proofs.YtodhjjeagmjhdaaGreatDoor.ST
end DE
end Go.Proofs.YtodhjjeagmjhdaaGreatDoor
namespace Go.Proofs.YtodhjjeagmjhdaaGreatDoor
open Go.RowKit
attribute [local go_sem ↓] Go.wp_at_zero Go.wp_at_succ
namespace DE
open Go.Proofs.YtodhjjeagmjhdaaGreatDoor.ST
def one (e : Ev) : Option Ev := if noneB e = true then none else some e
end DE
end Go.Proofs.YtodhjjeagmjhdaaGreatDoor
