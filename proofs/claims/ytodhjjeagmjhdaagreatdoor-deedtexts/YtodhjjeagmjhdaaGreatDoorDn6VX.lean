/-
  A move done.
-/
import Derived.Test.YtodhjjeagmjhdaaGreatDoorIv6TvDm6X
namespace Go.Proofs.YtodhjjeagmjhdaaGreatDoor
open Go.RowKit
attribute [local go_sem ↓] Go.wp_at_zero Go.wp_at_succ
namespace DE
open Go.Proofs.YtodhjjeagmjhdaaGreatDoor.ST
def cutL (l : List Int) (i : Nat) : List Int := l.take i ++ l.drop (i + 1)
def insL (l : List Int) (i : Nat) (x : Int) : List Int := l.take i ++ x :: l.drop i
def moveZ (zs : List (List Int)) (i p j q : Nat) (c : Int) : List (List Int) := (zs.set i (cutL (zs.getD i []) p)).set j (insL ((zs.set i (cutL (zs.getD i []) p)).getD j []) q c)
theorem cell_set_ne {W : World} {g j a k : Nat} {u x : Value} (h : W.cell? ⟨a,k,none⟩ = some x) (hn : a ≠ g) : (W.setCell ⟨g,j,none⟩ u).cell? ⟨a,k,none⟩ = some x := by
 unfold World.cell? at h ⊢
 rw [Below.heap_setCell _ _ _ _ hn]
 exact h
theorem irow_val {base : Nat} {W : World} {v : Value} {l : List Int} (h : IRow base W v l) : ∃ xa xk,v = .slice xa l.length xk := by
 rcases h.2 with ⟨rfl,h0⟩ | ⟨g,cap,cur,rfl,-⟩
 ·exact ⟨none,0,by rw [h0]⟩
 ·exact ⟨_,_,rfl⟩
set_option maxRecDepth 100000 in
set_option maxHeartbeats 4000000 in
theorem doMove_ (B base b : Nat) (s : Stt) (e : Ev) (oa : Option Addr) (on oc : Nat) (w : World) (h : Own base w b s) (hB : B <= base) (hbs : base <= w.heap.size) (hb : B <= b) (i p j q : Nat) (hfr : e.fr = i) (hfa : e.frAt = p) (hto : e.to_ = j) (hta : e.toAt = q)
  (hi : i < s.zs.length) (hj : j < s.zs.length) (hp : p < (s.zs.getD i []).length) (hq : q <= ((s.zs.set i (cutL (s.zs.getD i []) p)).getD j []).length) (hz : (s.zs.getD i []).length <= 256) (hz2 : ((s.zs.set i (cutL (s.zs.getD i []) p)).getD j []).length <= 65536) :
  Calls Tryz.prog 120 #[.pointer (some ⟨b,0,none⟩),evv e (.slice oa on oc)] w fun x w'=>x = .returned (.tuple #[]) /\ Did B base b { s with zs := moveZ s.zs i p j q e.card } w w' := by
 unfold evv evc
 obtain ⟨kind,field,card,player,other,fr,frAt,to_,toAt,was,now,ord⟩ := e
 dsimp only at *
 subst hfr hfa hto hta
 have hlt := h.lt
 obtain ⟨WE,hWE⟩ : ∃ WE,WE = w.alloc (.cells #[.int .i8 kind,.int .i8 field,.int .i64 card,.int .i64 player,.int .i64 other,.int .i64 (i : Int),.int .i64 (p : Int),.int .i64 (j : Int),.int .i64 (q : Int),.int .i32 was,.int .i32 now,.slice oa on oc] 30) := ⟨_,rfl⟩
 have hev : WE.heap[w.heap.size]? = some (.cells #[.int .i8 kind,.int .i8 field,.int .i64 card,.int .i64 player,.int .i64 other,.int .i64 (i : Int),.int .i64 (p : Int),.int .i64 (j : Int),.int .i64 (q : Int),.int .i32 was,.int .i32 now,.slice oa on oc] 30 (0,0)) := by
  rw [hWE]
  show (w.heap.push _)[w.heap.size]? = _
  simp
 have hUE : Up w WE := by rw [hWE]; exact (Up.refl _).alloc _
 have HWB : Hid (Below B w WE /\ KT w WE /\ base <= WE.heap.size) := ⟨Below.mono hUE (by omega),KT.up hUE,Nat.le_trans hbs hUE.size⟩
 have HEV : Hid _ := hev
 obtain ⟨gz,cap,vp,vc,v,h1,h2,-,h4,⟨curz,h4'⟩,h5,h6⟩ := own_zone2 (h.up hUE) hB hb i hi
 have hge : gz ≠ w.heap.size := fun e=>by
  rw [e] at h4'
  exact absurd (types_apart hev h4') (by decide)
 have H2 : Hid _ := h2
 have H6 : Hid _ := h6
 have HF1 : Hid (∀ W,OnlyB v.ownBlock WE W -> W.cell? ⟨b,2,none⟩ = some (.slice (some ⟨gz,0,none⟩) s.zs.length cap) /\ W.cell? ⟨w.heap.size,2,none⟩ = some (.int .i64 card) /\ W.cell? ⟨w.heap.size,5,none⟩ = some (.int .i64 (i : Int)) /\ W.cell? ⟨w.heap.size,6,none⟩ = some (.int .i64 (p : Int)) /\ W.cell? ⟨gz,i,none⟩ = some v /\ (∀ j,W.frozen? ⟨gz,j,none⟩ = false)) := fun W u=>by
  obtain ⟨z1,z2,z3⟩ := h5 W u
  have he := u.heap hev (fun ho=>by
   obtain ⟨cur',hc'⟩ := row_type h2 ho
   exact absurd (types_apart hev hc') (by decide))
  exact ⟨(seven_cells z3).2.2.1,by simp [World.cell?,he],by simp [World.cell?,he],by simp [World.cell?,he],z1,z2⟩
 obtain ⟨ra,rc,rfl⟩ := irow_val h2
 obtain ⟨l,hl⟩ : ∃ l,l = s.zs.getD i [] := ⟨_,rfl⟩
 have HL : Hid (l = s.zs.getD i []) := hl
 rw [<- hl] at H2 HF1 hp hz hq hz2
 obtain ⟨m,hm⟩ : ∃ m,m = l.length := ⟨_,rfl⟩
 have HM : Hid (m = l.length) := hm
 rw [<- hl,<- hm] at H6
 rw [<- hm] at H2 HF1 hp hz
 have hi2 : (i : Int) < (s.zs.length : Int) := by omega
 have hj2 : (j : Int) < (s.zs.length : Int) := by omega
 have hwr : IntKind.i64.wrap ((p : Int) + 1) = (p : Int) + 1 := by rw [IntKind.wrap_i64]; omega
 have HP : Hid (p < m) := hp
 have HQ : Hid (q <= ((s.zs.set i (cutL l p)).getD j []).length /\ ((s.zs.set i (cutL l p)).getD j []).length <= 65536) := ⟨hq,hz2⟩
 have HC : Hid (∀ W,Up WE W -> Calls Tryz.prog 186 #[.slice ra m rc,.int .i64 (p : Int),.int .i64 ((p : Int) + 1)] W fun r W9=>∃ xa xk m9,r = .returned (.slice xa m9 xk) /\ (W9.cell? ⟨b,2,none⟩ = some (.slice (some ⟨gz,0,none⟩) s.zs.length cap) /\ W9.cell? ⟨w.heap.size,5,none⟩ = some (.int .i64 (i : Int)) /\ W9.cell? ⟨w.heap.size,6,none⟩ = some (.int .i64 (p : Int))) /\ W9.cell? ⟨gz,i,none⟩ = some (.slice ra m rc) /\ (∀ j,W9.frozen? ⟨gz,j,none⟩ = false) /\ Hid (Did B base b { s with zs := s.zs.set i (cutL l p) } WE (W9.setCell ⟨gz,i,none⟩ (.slice xa m9 xk)))) := fun W u=>by
  refine Calls.mono (del_ B base (.slice ra m rc) l p W (by have h9 := row_up H2.out u; unfold IRow; rw [<- HM.out]; exact h9) hB (by rw [<- HM.out]; exact HP.out)) ?_
  rintro r W9 ⟨v9,rfl,hr9,ho9,hb9,hn9⟩
  have hn8 : OnlyB (Value.slice ra m rc).ownBlock WE W9 := OnlyB.trans (OnlyB.up u) hn9 u.size
  have hb8 : Below B WE W9 := Below.trans (Below.mono u (Nat.le_trans hB HWB.out.2.2)) hb9
  obtain ⟨xa,xk,hxa⟩ := irow_val hr9
  have hk3 := H6.out W9 _ _ hb8 hn8 hr9 (.inl ho9)
  subst hxa
  obtain ⟨c2,y2,y5,y6,z1,zf⟩ := HF1.out W9 hn8
  exact ⟨xa,xk,_,rfl,⟨c2,y5,y6⟩,z1,zf,hk3⟩
 have HC0 : Hid _ := HC.out WE (Up.refl _)
 have HC1 : Hid _ := HC.out WE.drew (Up.refl _).drew
 clear HC
 obtain ⟨c2,y2,y5,y6,z1,zf⟩ := HF1.out WE (OnlyB.up (Up.refl _))
 have hbg : b ≠ gz := fun e=>h4 e.symm
 have heg : w.heap.size ≠ gz := fun e=>hge e.symm
 clear h1 h2 h4' h5 h6 hev hUE hl hm hp hq hz2 h
 go_enter Tryz.func120,Tryz.ntmps120
 go_wp2_with fail
 rw [<- hWE]
 clear hWE
 refine wp_region_held_drew (S := fun W'=>W'.cell? ⟨b,2,none⟩ = some (.slice (some ⟨gz,0,none⟩) s.zs.length cap) /\ W'.cell? ⟨w.heap.size,5,none⟩ = some (.int .i64 (i : Int)) /\ W'.cell? ⟨w.heap.size,6,none⟩ = some (.int .i64 (p : Int))) (by kernel_rfl) ⟨c2,y5,y6⟩ (fun hHeld=>?_)
 refine wpAnyH_take (i := 0) (v := ?_) rfl (by kernel_rfl) (by kernel_rfl) (by kernel_rfl) (fun _ _ _ h=>h) (Or.inl ⟨by rfl,?_⟩) (by assumption) ?_
 rotate_left
 ·intro w9 hSw
  go_simp
  try with_reducible rfl
 simp only [Act.put,qa1,qa2,qa3,qa4,qa5]
 refine wpAnyH_take (i := 1) (v := ?_) rfl (by kernel_rfl) (by kernel_rfl) (by kernel_rfl) (fun _ _ _ h=>h) (Or.inl ⟨by rfl,?_⟩) (by assumption) ?_
 rotate_left
 ·intro w9 hSw
  go_simp
  try with_reducible rfl
 simp only [Act.put,qa1,qa2,qa3,qa4,qa5,qa6]
 refine wpAnyH_take (i := 2) (v := ?_) rfl (by kernel_rfl) (by kernel_rfl) (by kernel_rfl) (fun _ _ _ h=>h) (Or.inl ⟨by rfl,?_⟩) (by assumption) ?_
 rotate_left
 ·intro w9 hSw
  go_simp
  try with_reducible rfl
 simp only [Act.put,qa1,qa2,qa3,qa4,qa5,qa6]
 refine wpAnyH_take (i := 3) (v := ?_) rfl (by kernel_rfl) (by kernel_rfl) (by kernel_rfl) (fun _ _ _ h=>h) (Or.inl ⟨by rfl,?_⟩) (by assumption) ?_
 rotate_left
 ·intro w9 hSw
  go_simp
  try with_reducible rfl
 simp only [Act.put,qa1,qa2,qa3,qa4,qa5,qa6]
 refine wpAnyH_take (i := 4) (v := ?_) rfl (by kernel_rfl) (by kernel_rfl) (by kernel_rfl) (fun _ _ _ h=>h) (Or.inl ⟨by rfl,?_⟩) (by assumption) ?_
 rotate_left
 ·intro w9 hSw
  go_simp
  try with_reducible rfl
 simp only [Act.put,qa1,qa2,qa3,qa4,qa5,qa6]
 refine wpAnyH_take (i := 5) (v := ?_) rfl (by kernel_rfl) (by kernel_rfl) (by kernel_rfl) (fun _ _ _ h=>h) (Or.inl ⟨by rfl,?_⟩) (by assumption) ?_
 rotate_left
 ·intro w9 hSw
  go_simp
  try with_reducible rfl
 simp only [Act.put,qa1,qa2,qa3,qa4,qa5,qa6]
 refine wpAnyH_take (i := 6) (v := ?_) rfl (by kernel_rfl) (by kernel_rfl) (by kernel_rfl) (fun _ _ _ h=>h) (Or.inl ⟨by rfl,?_⟩) (by assumption) ?_
 rotate_left
 ·intro w9 hSw
  go_simp
  try with_reducible rfl
 simp only [Act.put,qa1,qa2,qa3,qa4,qa5,qa6]
 refine wpAnyH_take (i := 7) (v := ?_) rfl (by kernel_rfl) (by kernel_rfl) (by kernel_rfl) (fun _ _ _ h=>h) (Or.inl ⟨by rfl,?_⟩) (by assumption) ?_
 rotate_left
 ·intro w9 hSw
  go_simp
  try with_reducible rfl
 simp only [Act.put,qa1,qa2,qa3,qa4,qa5,qa6]
 refine wpAnyH_take (i := 8) (v := ?_) rfl (by kernel_rfl) (by kernel_rfl) (by kernel_rfl) (fun _ _ _ h=>h) (Or.inl ⟨by rfl,?_⟩) (by assumption) ?_
 rotate_left
 ·intro w9 hSw
  go_simp
  try with_reducible rfl
 simp only [Act.put,qa1,qa2,qa3,qa4,qa5,qa6]
 refine wpAnyH_take (i := 9) (v := ?_) rfl (by kernel_rfl) (by kernel_rfl) (by kernel_rfl) (fun _ _ _ h=>h) (Or.inl ⟨by rfl,?_⟩) (by assumption) ?_
 rotate_left
 ·intro w9 hSw
  go_simp
  try with_reducible rfl
 simp only [Act.put,qa1,qa2,qa3,qa4,qa5,qa6]
 refine wpAnyH_take (i := 10) (v := ?_) rfl (by kernel_rfl) (by kernel_rfl) (by kernel_rfl) (fun _ _ _ h=>h) (Or.inl ⟨by rfl,?_⟩) (by assumption) ?_
 rotate_left
 ·intro w9 hSw
  go_simp
  try with_reducible rfl
 simp only [Act.put,qa1,qa2,qa3,qa4,qa5,qa6]
 refine wpAnyH_take (i := 11) (v := ?_) rfl (by kernel_rfl) (by kernel_rfl) (by kernel_rfl) (fun _ _ _ h=>h) (Or.inl ⟨by rfl,?_⟩) (by assumption) ?_
 rotate_left
 ·intro w9 hSw
  go_simp
  try with_reducible rfl
 simp only [Act.put,qa1,qa2,qa3,qa4,qa5,qa6]
 refine wpAnyH_take (i := 12) (v := ?_) rfl (by kernel_rfl) (by kernel_rfl) (by kernel_rfl) (fun _ _ _ h=>h) (Or.inl ⟨by rfl,?_⟩) (by assumption) ?_
 rotate_left
 ·intro w9 hSw
  go_simp
  try with_reducible rfl
 simp only [Act.put,qa1,qa2,qa3,qa4,qa5,qa6]
 refine wpAnyH_take (i := 14) (v := ?_) rfl (by kernel_rfl) (by kernel_rfl) (by kernel_rfl) (fun _ _ _ h=>h) (Or.inl ⟨by rfl,?_⟩) (by assumption) ?_
 rotate_left
 ·intro w9 hSw
  go_simp
  try with_reducible rfl
 simp only [Act.put,qa1,qa2,qa3,qa4,qa5,qa6]
 refine wpAnyH_take (i := 15) (v := ?_) rfl (by kernel_rfl) (by kernel_rfl) (by kernel_rfl) (fun _ _ _ h=>h) (Or.inl ⟨by rfl,?_⟩) (by assumption) ?_
 rotate_left
 ·intro w9 hSw
  go_simp
  try with_reducible rfl
 simp only [Act.put,qa1,qa2,qa3,qa4,qa5,qa6]
 refine wpAnyH_take (i := 16) (v := ?_) rfl (by kernel_rfl) (by kernel_rfl) (by kernel_rfl) (fun _ _ _ h=>h) (Or.inl ⟨by rfl,?_⟩) (by assumption) ?_
 rotate_left
 ·intro w9 hSw
  go_simp
  try with_reducible rfl
 simp only [Act.put,qa1,qa2,qa3,qa4,qa5,qa6]
 refine wpAnyH_take (i := 17) (v := ?_) rfl (by kernel_rfl) (by kernel_rfl) (by kernel_rfl) (fun _ _ _ h=>h) (Or.inl ⟨by rfl,?_⟩) (by assumption) ?_
 rotate_left
 ·intro w9 hSw
  go_simp
  try with_reducible rfl
 simp only [Act.put,qa1,qa2,qa3,qa4,qa5,qa6]
 refine wpAnyH_take (i := 18) (v := ?_) rfl (by kernel_rfl) (by kernel_rfl) (by kernel_rfl) (fun _ _ _ h=>h) (Or.inl ⟨by rfl,?_⟩) (by assumption) ?_
 rotate_left
 ·intro w9 hSw
  go_simp
  try with_reducible rfl
 simp only [Act.put,qa1,qa2,qa3,qa4,qa5,qa6]
 refine wpAnyH_ready (rs := [13]) (by kernel_rfl) (by simp) ?_
 refine AllReadyH.cons rfl (fun K hK=>?_) AllReadyH.nil
 simp only [qa4,qa5,qa6]
 go_simp
 refine hK.out _ _ ?_ (fun hHeld=>?_)
 ·exact ⟨c2,y5,y6⟩
 clear hK K
 try simp only [Act.put,qa1,qa2,qa3]
 refine wpAnyH_ready (rs := [19]) (by kernel_rfl) (by simp) ?_
 refine AllReadyH.cons rfl (fun K hK=>?_) AllReadyH.nil
 simp only [qa4,qa5,qa6]
 go_simp
 refine Calls.mono HC1.out ?_
 rintro r W9 ⟨xa,xk,m9,rfl,hS9,z9,zf9,hk4⟩
 go_simp
 refine hK.out _ _ ?_ (fun hHeld=>?_)
 ·exact hS9
 clear hK K
 try simp only [Act.put,qa1,qa2,qa3]
 refine wpAnyH_take (i := 20) (v := ?_) rfl (by kernel_rfl) (by kernel_rfl) (by kernel_rfl) (fun _ _ _ h=>h) (Or.inl ⟨by rfl,?_⟩) (by assumption) ?_
 rotate_left
 ·intro w9 hSw
  go_simp
  try with_reducible rfl
 simp only [Act.put,qa1,qa2,qa3,qa4,qa5,qa6]
 refine wpAnyH_ready (rs := [21]) (by kernel_rfl) (by simp) ?_
 refine AllReadyH.cons rfl (fun K hK=>?_) AllReadyH.nil
 simp only [qa4,qa5,qa6]
 go_simp
 refine hK.out _ _ ?_ (fun hHeld=>?_)
 ·exact ⟨cell_set_ne hS9.1 hbg,cell_set_ne hS9.2.1 heg,cell_set_ne hS9.2.2 heg⟩
 clear hK K
 refine wpAnyH_done (by kernel_rfl) ?_ _
 have hk := hk4.out
 clear hk4 hHeld z9 zf9 hS9 c2 y2 y5 y6 z1 zf HC0 HC1 hwr
 revert hk
 generalize W9.setCell _ _ = W2
 intro hk
 have HK : Hid _ := hk
 obtain ⟨hown2,hbel2,hkt2⟩ := hk
 have hev2 := hkt2 _ _ _ HEV.out (by decide) (by decide) (by decide) (by decide) (by decide)
 have hbs2 : base <= W2.heap.size := Nat.le_trans HWB.out.2.2 hbel2.size
 obtain ⟨gy,cap2,vp2,vc2,v2,g1,g2,g3,g4,⟨curz2,g4'⟩,g5,g6⟩ := own_zone2 hown2 hB hb j (by simpa using hj)
 dsimp only at g1 g2 g5 g6
 rw [List.length_set] at g1 g5
 have hgy : gy ≠ w.heap.size := fun e=>by
  rw [e] at g4'
  exact absurd (types_apart hev2 g4') (by decide)
 have hbgy : b ≠ gy := fun e=>g4 e.symm
 have hegy : w.heap.size ≠ gy := fun e=>hgy e.symm
 have hgyl : gy < W2.heap.size := (Array.getElem?_eq_some_iff.1 g4').1
 have hbl2 : b < W2.heap.size := hown2.lt
 have hel2 : w.heap.size < W2.heap.size := (Array.getElem?_eq_some_iff.1 hev2).1
 have HF2 : Hid (∀ W,OnlyB v2.ownBlock W2 W -> (W.cell? ⟨b,2,none⟩ = some (.slice (some ⟨gy,0,none⟩) s.zs.length cap2) /\ W.cell? ⟨w.heap.size,2,none⟩ = some (.int .i64 card) /\ W.cell? ⟨w.heap.size,7,none⟩ = some (.int .i64 (j : Int)) /\ W.cell? ⟨w.heap.size,8,none⟩ = some (.int .i64 (q : Int))) /\ W.cell? ⟨gy,j,none⟩ = some v2 /\ (∀ j,W.frozen? ⟨gy,j,none⟩ = false)) := fun W u=>by
  obtain ⟨z1,z2,z3⟩ := g5 W u
  have he := u.heap hev2 (fun ho=>by
   obtain ⟨cur',hc'⟩ := row_type g2 ho
   exact absurd (types_apart hev2 hc') (by decide))
  exact ⟨⟨(seven_cells z3).2.2.1,by simp [World.cell?,he],by simp [World.cell?,he],by simp [World.cell?,he]⟩,z1,z2⟩
 obtain ⟨l2,hl2⟩ : ∃ l2,l2 = (s.zs.set i (cutL l p)).getD j [] := ⟨_,rfl⟩
 have HL2 : Hid (l2 = (s.zs.set i (cutL l p)).getD j []) := hl2
 rw [<- hl2] at g2 HQ
 have hne2 : v2.ownBlock ≠ some W2.heap.size := fun e=>Nat.lt_irrefl _ (g3 _ e)
 obtain ⟨WA,hWA⟩ : ∃ WA,WA = W2.alloc (.cells #[.int .i64 card] 3) := ⟨_,rfl⟩
 have hUA : Up W2 WA := by rw [hWA]; exact (Up.refl _).alloc _
 have hAh : WA.heap[W2.heap.size]? = some (.cells #[.int .i64 card] 3 (0,0)) := by
  rw [hWA]
  show (W2.heap.push _)[W2.heap.size]? = _
  simp
 obtain ⟨ra2,rc2,rfl⟩ := irow_val g2
 obtain ⟨m2,hm2⟩ : ∃ m2,m2 = l2.length := ⟨_,rfl⟩
 rw [<- hm2] at g3 g5 g6 hne2 HF2
 have HC2 : Hid (Calls Tryz.prog 187 #[.slice ra2 m2 rc2,.int .i64 (q : Int),.slice (some ⟨W2.heap.size,0,none⟩) 1 1] WA.drew fun r W9=>∃ xa xk m9,r = .returned (.slice xa m9 xk) /\ (W9.cell? ⟨b,2,none⟩ = some (.slice (some ⟨gy,0,none⟩) s.zs.length cap2) /\ W9.cell? ⟨w.heap.size,2,none⟩ = some (.int .i64 card) /\ W9.cell? ⟨w.heap.size,7,none⟩ = some (.int .i64 (j : Int)) /\ W9.cell? ⟨w.heap.size,8,none⟩ = some (.int .i64 (q : Int))) /\ W9.cell? ⟨gy,j,none⟩ = some (.slice ra2 m2 rc2) /\ (∀ j,W9.frozen? ⟨gy,j,none⟩ = false) /\ Hid (Did B base b { s with zs := moveZ s.zs i p j q card } W2 (W9.setCell ⟨gy,j,none⟩ (.slice xa m9 xk)))) := by
  have u : Up W2 WA.drew := hUA.drew
  refine Calls.mono (ins_ B base (.slice ra2 m2 rc2) l2 q card W2.heap.size WA.drew (by rw [hm2]; exact row_up g2 u) hB (Nat.le_trans hbs2 u.size) HQ.out.1 HQ.out.2 hAh hne2) ?_
  rintro r W9 ⟨v9,rfl,hr9,ho9,hb9,hn9⟩
  have hn8 : OnlyB (Value.slice ra2 m2 rc2).ownBlock W2 W9 := OnlyB.trans (OnlyB.up u) hn9 u.size
  have hb8 : Below B W2 W9 := Below.trans (Below.mono u (Nat.le_trans hB hbs2)) hb9
  obtain ⟨xa,xk,hxa⟩ := irow_val hr9
  have hk3 := g6 W9 _ _ hb8 hn8 hr9 (by
   rcases ho9 with h | h
   ·exact .inl h
   ·exact .inr ⟨_,h,u.size⟩)
  subst hxa
  obtain ⟨c,z1,zf⟩ := HF2.out W9 hn8
  refine ⟨xa,xk,_,rfl,c,z1,zf,?_⟩
  unfold moveZ insL
  rw [<- HL.out,<- HL2.out]
  exact hk3
 obtain ⟨⟨c2,y2,y7,y8⟩,z1,zf⟩ := HF2.out W2 (OnlyB.up (Up.refl _))
 obtain ⟨⟨d2,x2,x7,x8⟩,z2,zf2⟩ := HF2.out WA (OnlyB.up hUA)
 rw [hWA] at d2 x2 x7 x8 z2 zf2 HC2
 clear g1 g2 g3 g4 g4' g5 g6 hown2 hbel2 hkt2 hev2 hl2 hm2 hAh hUA hne2 HF2 HQ HF1 H2 H6 HM HL HL2 hWA HP
 go_wp2_with fail
 refine wp_region_held_drew (S := fun W'=>W'.cell? ⟨b,2,none⟩ = some (.slice (some ⟨gy,0,none⟩) s.zs.length cap2) /\ W'.cell? ⟨w.heap.size,2,none⟩ = some (.int .i64 card) /\ W'.cell? ⟨w.heap.size,7,none⟩ = some (.int .i64 (j : Int)) /\ W'.cell? ⟨w.heap.size,8,none⟩ = some (.int .i64 (q : Int))) (by kernel_rfl) ⟨c2,y2,y7,y8⟩ (fun hHeld=>?_)
 refine wpAnyH_take (i := 0) (v := ?_) rfl (by kernel_rfl) (by kernel_rfl) (by kernel_rfl) (fun _ _ _ h=>h) (Or.inl ⟨by rfl,?_⟩) (by assumption) ?_
 rotate_left
 ·intro w9 hSw
  go_simp
  try with_reducible rfl
 simp only [Act.put,qa1,qa2,qa3,qa4,qa5]
 refine wpAnyH_take (i := 1) (v := ?_) rfl (by kernel_rfl) (by kernel_rfl) (by kernel_rfl) (fun _ _ _ h=>h) (Or.inl ⟨by rfl,?_⟩) (by assumption) ?_
 rotate_left
 ·intro w9 hSw
  go_simp
  try with_reducible rfl
 simp only [Act.put,qa1,qa2,qa3,qa4,qa5,qa6]
 refine wpAnyH_take (i := 2) (v := ?_) rfl (by kernel_rfl) (by kernel_rfl) (by kernel_rfl) (fun _ _ _ h=>h) (Or.inl ⟨by rfl,?_⟩) (by assumption) ?_
 rotate_left
 ·intro w9 hSw
  go_simp
  try with_reducible rfl
 simp only [Act.put,qa1,qa2,qa3,qa4,qa5,qa6]
 refine wpAnyH_take (i := 3) (v := ?_) rfl (by kernel_rfl) (by kernel_rfl) (by kernel_rfl) (fun _ _ _ h=>h) (Or.inl ⟨by rfl,?_⟩) (by assumption) ?_
 rotate_left
 ·intro w9 hSw
  go_simp
  try with_reducible rfl
 simp only [Act.put,qa1,qa2,qa3,qa4,qa5,qa6]
 refine wpAnyH_take (i := 4) (v := ?_) rfl (by kernel_rfl) (by kernel_rfl) (by kernel_rfl) (fun _ _ _ h=>h) (Or.inl ⟨by rfl,?_⟩) (by assumption) ?_
 rotate_left
 ·intro w9 hSw
  go_simp
  try with_reducible rfl
 simp only [Act.put,qa1,qa2,qa3,qa4,qa5,qa6]
 refine wpAnyH_take (i := 5) (v := ?_) rfl (by kernel_rfl) (by kernel_rfl) (by kernel_rfl) (fun _ _ _ h=>h) (Or.inl ⟨by rfl,?_⟩) (by assumption) ?_
 rotate_left
 ·intro w9 hSw
  go_simp
  try with_reducible rfl
 simp only [Act.put,qa1,qa2,qa3,qa4,qa5,qa6]
 refine wpAnyH_take (i := 6) (v := ?_) rfl (by kernel_rfl) (by kernel_rfl) (by kernel_rfl) (fun _ _ _ h=>h) (Or.inl ⟨by rfl,?_⟩) (by assumption) ?_
 rotate_left
 ·intro w9 hSw
  go_simp
  try with_reducible rfl
 simp only [Act.put,qa1,qa2,qa3,qa4,qa5,qa6]
 refine wpAnyH_take (i := 7) (v := ?_) rfl (by kernel_rfl) (by kernel_rfl) (by kernel_rfl) (fun _ _ _ h=>h) (Or.inl ⟨by rfl,?_⟩) (by assumption) ?_
 rotate_left
 ·intro w9 hSw
  go_simp
  try with_reducible rfl
 simp only [Act.put,qa1,qa2,qa3,qa4,qa5,qa6]
 refine wpAnyH_take (i := 8) (v := ?_) rfl (by kernel_rfl) (by kernel_rfl) (by kernel_rfl) (fun _ _ _ h=>h) (Or.inl ⟨by rfl,?_⟩) (by assumption) ?_
 rotate_left
 ·intro w9 hSw
  go_simp
  try with_reducible rfl
 simp only [Act.put,qa1,qa2,qa3,qa4,qa5,qa6]
 refine wpAnyH_take (i := 9) (v := ?_) rfl (by kernel_rfl) (by kernel_rfl) (by kernel_rfl) (fun _ _ _ h=>h) (Or.inl ⟨by rfl,?_⟩) (by assumption) ?_
 rotate_left
 ·intro w9 hSw
  go_simp
  try with_reducible rfl
 simp only [Act.put,qa1,qa2,qa3,qa4,qa5,qa6]
 refine wpAnyH_take (i := 10) (v := ?_) rfl (by kernel_rfl) (by kernel_rfl) (by kernel_rfl) (fun _ _ _ h=>h) (Or.inl ⟨by rfl,?_⟩) (by assumption) ?_
 rotate_left
 ·intro w9 hSw
  go_simp
  try with_reducible rfl
 simp only [Act.put,qa1,qa2,qa3,qa4,qa5,qa6]
 refine wpAnyH_take (i := 11) (v := ?_) rfl (by kernel_rfl) (by kernel_rfl) (by kernel_rfl) (fun _ _ _ h=>h) (Or.inl ⟨by rfl,?_⟩) (by assumption) ?_
 rotate_left
 ·intro w9 hSw
  go_simp
  try with_reducible rfl
 simp only [Act.put,qa1,qa2,qa3,qa4,qa5,qa6]
 refine wpAnyH_take (i := 12) (v := ?_) rfl (by kernel_rfl) (by kernel_rfl) (by kernel_rfl) (fun _ _ _ h=>h) (Or.inl ⟨by rfl,?_⟩) (by assumption) ?_
 rotate_left
 ·intro w9 hSw
  go_simp
  try with_reducible rfl
 simp only [Act.put,qa1,qa2,qa3,qa4,qa5,qa6]
 refine wpAnyH_take (i := 14) (v := ?_) rfl (by kernel_rfl) (by kernel_rfl) (by kernel_rfl) (fun _ _ _ h=>h) (Or.inl ⟨by rfl,?_⟩) (by assumption) ?_
 rotate_left
 ·intro w9 hSw
  go_simp
  try with_reducible rfl
 simp only [Act.put,qa1,qa2,qa3,qa4,qa5,qa6]
 refine wpAnyH_take (i := 15) (v := ?_) rfl (by kernel_rfl) (by kernel_rfl) (by kernel_rfl) (fun _ _ _ h=>h) (Or.inl ⟨by rfl,?_⟩) (by assumption) ?_
 rotate_left
 ·intro w9 hSw
  go_simp
  try with_reducible rfl
 simp only [Act.put,qa1,qa2,qa3,qa4,qa5,qa6]
 refine wpAnyH_take (i := 16) (v := ?_) rfl (by kernel_rfl) (by kernel_rfl) (by kernel_rfl) (fun _ _ _ h=>h) (Or.inl ⟨by rfl,?_⟩) (by assumption) ?_
 rotate_left
 ·intro w9 hSw
  go_simp
  try with_reducible rfl
 simp only [Act.put,qa1,qa2,qa3,qa4,qa5,qa6]
 refine wpAnyH_take (i := 17) (v := ?_) rfl (by kernel_rfl) (by kernel_rfl) (by kernel_rfl) (fun _ _ _ h=>h) (Or.inl ⟨by rfl,?_⟩) (by assumption) ?_
 rotate_left
 ·intro w9 hSw
  go_simp
  try with_reducible rfl
 simp only [Act.put,qa1,qa2,qa3,qa4,qa5,qa6]
 refine wpAnyH_ready (rs := [13,18]) (by kernel_rfl) (by simp) ?_
 refine AllReadyH.cons rfl (fun K hK=>?_) (AllReadyH.cons rfl (fun K hK=>?_) AllReadyH.nil)
 ·simp only [qa4,qa5,qa6]
  go_simp
  refine hK.out _ _ ?_ (fun hHeld=>?_)
  ·exact ⟨c2,y2,y7,y8⟩
  clear hK K
  try simp only [Act.put,qa1,qa2,qa3]
  refine wpAnyH_ready (rs := [18]) (by kernel_rfl) (by simp) ?_
  refine AllReadyH.cons rfl (fun K hK=>?_) AllReadyH.nil
  simp only [qa4,qa5,qa6]
  go_simp
  refine hK.out _ _ ?_ (fun hHeld=>?_)
  ·exact ⟨d2,x2,x7,x8⟩
  clear hK K
  try simp only [Act.put,qa1,qa2,qa3]
  refine wpAnyH_ready (rs := [19]) (by kernel_rfl) (by simp) ?_
  refine AllReadyH.cons rfl (fun K hK=>?_) AllReadyH.nil
  simp only [qa4,qa5,qa6]
  go_simp
  refine Calls.mono HC2.out ?_
  rintro r W9 ⟨xa,xk,m9,rfl,hS9,z9,zf9,hk4⟩
  go_simp
  refine hK.out _ _ ?_ (fun hHeld=>?_)
  ·exact hS9
  clear hK K
  try simp only [Act.put,qa1,qa2,qa3]
  refine wpAnyH_take (i := 20) (v := ?_) rfl (by kernel_rfl) (by kernel_rfl) (by kernel_rfl) (fun _ _ _ h=>h) (Or.inl ⟨by rfl,?_⟩) (by assumption) ?_
  rotate_left
  ·intro w9 hSw
   go_simp
   try with_reducible rfl
  simp only [Act.put,qa1,qa2,qa3,qa4,qa5,qa6]
  refine wpAnyH_ready (rs := [21]) (by kernel_rfl) (by simp) ?_
  refine AllReadyH.cons rfl (fun K hK=>?_) AllReadyH.nil
  simp only [qa4,qa5,qa6]
  go_simp
  refine hK.out _ _ ?_ (fun hHeld=>?_)
  ·exact ⟨cell_set_ne hS9.1 hbgy,cell_set_ne hS9.2.1 hegy,cell_set_ne hS9.2.2.1 hegy,cell_set_ne hS9.2.2.2 hegy⟩
  clear hK K
  refine wpAnyH_done (by kernel_rfl) ?_ _
  have hk := hk4.out
  clear hk4
  revert hk
  generalize W9.setCell _ _ = W4
  intro hk
  have HK4 : Hid _ := hk
  clear hk hHeld
  go_wp2
  exact bodyPost_end (v := .tuple #[]) (by simp [results,go_sem]) rfl ⟨rfl,HK4.out.1,Below.trans (Below.trans HWB.out.1 HK.out.2.1) HK4.out.2.1,KT.trans (KT.trans HWB.out.2.1 HK.out.2.2) HK4.out.2.2⟩
 ·simp only [qa4,qa5,qa6]
  go_simp
  refine hK.out _ _ ?_ (fun hHeld=>?_)
  ·exact ⟨d2,x2,x7,x8⟩
  clear hK K
  try simp only [Act.put,qa1,qa2,qa3]
  refine wpAnyH_ready (rs := [13]) (by kernel_rfl) (by simp) ?_
  refine AllReadyH.cons rfl (fun K hK=>?_) AllReadyH.nil
  simp only [qa4,qa5,qa6]
  go_simp
  refine hK.out _ _ ?_ (fun hHeld=>?_)
  ·exact ⟨d2,x2,x7,x8⟩
  clear hK K
  try simp only [Act.put,qa1,qa2,qa3]
  refine wpAnyH_ready (rs := [19]) (by kernel_rfl) (by simp) ?_
  refine AllReadyH.cons rfl (fun K hK=>?_) AllReadyH.nil
  simp only [qa4,qa5,qa6]
  go_simp
  refine Calls.mono HC2.out ?_
  rintro r W9 ⟨xa,xk,m9,rfl,hS9,z9,zf9,hk4⟩
  go_simp
  refine hK.out _ _ ?_ (fun hHeld=>?_)
  ·exact hS9
  clear hK K
  try simp only [Act.put,qa1,qa2,qa3]
  refine wpAnyH_take (i := 20) (v := ?_) rfl (by kernel_rfl) (by kernel_rfl) (by kernel_rfl) (fun _ _ _ h=>h) (Or.inl ⟨by rfl,?_⟩) (by assumption) ?_
  rotate_left
  ·intro w9 hSw
   go_simp
   try with_reducible rfl
  simp only [Act.put,qa1,qa2,qa3,qa4,qa5,qa6]
  refine wpAnyH_ready (rs := [21]) (by kernel_rfl) (by simp) ?_
  refine AllReadyH.cons rfl (fun K hK=>?_) AllReadyH.nil
  simp only [qa4,qa5,qa6]
  go_simp
  refine hK.out _ _ ?_ (fun hHeld=>?_)
  ·exact ⟨cell_set_ne hS9.1 hbgy,cell_set_ne hS9.2.1 hegy,cell_set_ne hS9.2.2.1 hegy,cell_set_ne hS9.2.2.2 hegy⟩
  clear hK K
  refine wpAnyH_done (by kernel_rfl) ?_ _
  have hk := hk4.out
  clear hk4
  revert hk
  generalize W9.setCell _ _ = W4
  intro hk
  have HK4 : Hid _ := hk
  clear hk hHeld
  go_wp2
  exact bodyPost_end (v := .tuple #[]) (by simp [results,go_sem]) rfl ⟨rfl,HK4.out.1,Below.trans (Below.trans HWB.out.1 HK.out.2.1) HK4.out.2.1,KT.trans (KT.trans HWB.out.2.1 HK.out.2.2) HK4.out.2.2⟩
end DE
end Go.Proofs.YtodhjjeagmjhdaaGreatDoor
