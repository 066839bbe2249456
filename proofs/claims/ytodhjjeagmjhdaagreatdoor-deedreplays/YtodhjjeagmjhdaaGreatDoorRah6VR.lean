/-
  The document's Ahead.
-/
import Derived.Test.YtodhjjeagmjhdaaGreatDoorRbh6VR
namespace Go.Proofs.YtodhjjeagmjhdaaGreatDoor
open Go.RowKit
attribute [local go_sem ↓] Go.wp_at_zero Go.wp_at_succ
namespace DE
open Go.Proofs.YtodhjjeagmjhdaaGreatDoor.ST
def tlD (s : Stt) (e : Ev) : Bool := decide (e.now = s.turn) && (decide (e.other = s.whose) && (numB e.player s.ps.length && (decide (1 <= e.was) && decide (e.now = wrap32 (e.was + 1)))))
def ahdD (s : Stt) (e : Ev) : Option Stt := if plainD e = true then
  (if e.kind = 1 then mvO s e.card e.to_ e.toAt e.fr e.frAt else if e.kind = 2 then (if 4 < e.field then none else chgO s e.field e.card e.now e.was) else if e.kind = 3 then (if e.field < 5 then none else chgO s e.field e.player e.now e.was)
  else if e.kind = 4 then shO s e.fr e.ord true else if e.kind = 5 then (if outLeadsB s e = true then some (aheadS s e) else none) else if e.kind = 6 then (if tlD s e = true then some (aheadS s e) else none)
  else if e.kind = 7 then (if endLeadsB s e = true then some (aheadS s e) else none) else none) else none
set_option maxRecDepth 100000 in
set_option maxHeartbeats 8000000 in
theorem rahead_ (v : Value) (s : Stt) (e : Ev) (oa : Option Addr) (oc : Nat) (w : World) (hs : StL w v s) (hsm : Small s) (ho : IL w (.slice oa e.ord.length oc) e.ord) (hn : e.ord.length <= 4294967296) (hl : ∀ r,r < s.zs.length -> (s.zs.getD r []).length <= 256) : Calls Tryz.prog 77 #[v,evv e (.slice oa e.ord.length oc)] w (BhV w (ahdD s e)) := by
 obtain ⟨Post,hPost⟩ : ∃ P : Ending -> World -> Prop,P = BhV w (ahdD s e) := ⟨_,rfl⟩
 rw [<- hPost]
 have HP : Hid (Post = BhV w (ahdD s e)) := hPost
 have HPl : Hid (∀ W,Up w W -> Calls Tryz.prog 99 #[evv e (.slice oa e.ord.length oc)] W fun x w'=>x = .returned (.bool (plainD e)) /\ Up W w') := fun W u=>rplain_ e oa oc W (ho.up u) hn
 have HCo : Hid (∀ W,Up w W -> Calls Tryz.prog 76 #[v] W (CpPost W fun W' v'=>SOA W.heap.size W' v' s)) := fun W u=>copyStateA_ v s W (hs.up u) hsm
 have HMv : Hid (∀ (c a b d f : Int) W,Up w W -> Calls Tryz.prog 100 #[v,.int .i64 c,.int .i64 a,.int .i64 b,.int .i64 d,.int .i64 f] W (BhV W (mvO s c a b d f))) := fun c a b d f W u=>rmoved_ v s c a b d f W (hs.up u) hsm
 have HCh : Hid (∀ (f k a b : Int) W,Up w W -> Calls Tryz.prog 101 #[v,.int .i8 f,.int .i64 k,.int .i32 a,.int .i32 b] W (BhV W (chgO s f k a b))) := fun f k a b W u=>rchanged_ v s f k a b W (hs.up u) hsm
 have HSh : Hid (∀ W,Up w W -> Calls Tryz.prog 102 #[v,.int .i64 e.fr,.slice oa e.ord.length oc,.bool true] W (BhV W (shO s e.fr e.ord true))) := fun W u=>rshuffled_ v s e.fr e.ord oa oc true W (hs.up u) hsm (ho.up u) (Nat.le_trans hn (by omega)) hl
 have HIs : Hid (∀ (k : Int) (m : Nat) (W : World),Calls Tryz.prog 103 #[.int .i64 k,.int .i64 m] W fun e w'=>e = .returned (.bool (numB k m)) /\ w' = W) := ris_
 obtain ⟨pl,hpl0⟩ : ∃ b,b = plainD e := ⟨_,rfl⟩
 rw [<- hpl0] at HPl
 have HPD : Hid (pl = plainD e) := hpl0
 obtain ⟨vp,vc,vz,hvv,h1,h2,h3⟩ := hs
 obtain ⟨a1,k1,rfl,-,hpl⟩ := pl_at h1
 obtain ⟨a2,k2,rfl,-,-⟩ := lc_at h2
 obtain ⟨a3,k3,rfl,-,-⟩ := zl_at h3
 have HPL : Hid _ := hpl
 unfold sv at hvv
 clear h1 h2 h3 hPost hpl hsm ho hn hl hpl0
 obtain ⟨A,hA0⟩ : ∃ A : Array Value,A = #[.slice a1 s.ps.length k1,.slice a2 s.cs.length k2,.slice a3 s.zs.length k3,.int .i32 s.turn,.int .i64 s.whose,.int .i8 s.fin,.int .i64 s.winner] := ⟨_,rfl⟩
 have hA1 : A.size = 7 := by rw [hA0]; rfl
 rw [<- hA0] at hvv
 subst hvv
 have HA0 : Hid (A = _) := hA0
 clear hA0
 obtain ⟨kind,field,card,player,other,fr,frAt,to_,toAt,was,now,ord⟩ := e
 unfold evv evc at HPl ⊢
 dsimp only at *
 obtain ⟨E,hE0⟩ : ∃ E : Array Value,E = #[.int .i8 kind,.int .i8 field,.int .i64 card,.int .i64 player,.int .i64 other,.int .i64 fr,.int .i64 frAt,.int .i64 to_,.int .i64 toAt,.int .i32 was,.int .i32 now,.slice oa ord.length oc] := ⟨_,rfl⟩
 have HE0 : Hid (E = _) := hE0
 have hE1 : E.size = 12 := by rw [hE0]; rfl
 rw [<- hE0] at HPl ⊢
 clear hE0
 obtain ⟨W0,hW0⟩ : ∃ W0,((w.alloc (.cells A 27)).alloc (.cells E 30)).alloc (.cells zS 27) = W0 := ⟨_,rfl⟩
 have g0 : W0.heap[w.heap.size]? = some (.cells A 27 (0,0)) := by rw [<- hW0,Below.heap_alloc _ _ _ (by simp; omega)]; exact heap_alloc2_old _ _ _
 have gE : W0.heap[w.heap.size + 1]? = some (.cells E 30 (0,0)) := by rw [<- hW0,Below.heap_alloc _ _ _ (by simp)]; exact heap_alloc2_new _ _ _
 have g2 : W0.heap[w.heap.size + 1 + 1]? = some (.cells zS 27 (0,0)) := by
  rw [<- hW0]
  have := heap_alloc_new ((w.alloc (.cells A 27)).alloc (.cells E 30)) (.cells zS 27)
  simpa using this
 have gu : Up w W0 := by rw [<- hW0]; exact (((Up.refl _).alloc _).alloc _).alloc _
 cases pl with
 | false =>
  have HN : Hid (ahdD s (⟨kind,field,card,player,other,fr,frAt,to_,toAt,was,now,ord⟩ : Ev) = none) := by unfold Hid ahdD; rw [<- HPD.out]; rfl
  clear HPD HCo HMv HCh HSh HIs HPL
  go_enter Tryz.func77,Tryz.ntmps77
  go_wp2_with (first | (refine wpList_world hW0 ?_; clear hW0; refine wpList_load_row (by rfl) 30 (.tmp 3) (by rfl) (w.heap.size + 1) (by rfl) 30 E (0,0) _ gE Tryz.underlying30 (by rfl) (by rw [hE1]; exact infoEv) ?_))
  refine Calls.mono (HPl.out _ gu) ?_
  rintro r W1 ⟨rfl,u1⟩
  have g0 := u1.heap g0
  have gE := u1.heap gE
  have g2 := u1.heap g2
  have gu := gu.trans u1
  clear u1 HPl
  go_wp2_with (refine wpList_store_row rfl 27 (.tmp 4) (.tmp 10) rfl (w.heap.size + 1 + 1) zS rfl rfl 27 zS g2 infoSt rfl zS_all ?_)
  have HR : Hid _ := setRow_heap _ (w.heap.size + 1 + 1) _ _ _ zS g2
  refine bodyPost_ret (v := .tuple #[.agg zS,.bool false]) (results_c1 rfl _ _ (w.heap.size + 1 + 1) 27 zS (0,0) _ (.bool false) rfl rfl HR.out Tryz.underlying27 rfl infoSt) rfl ?_
  rw [HP.out,HN.out]
  exact bh_none gu (by omega)
 | true =>
  go_enter Tryz.func77,Tryz.ntmps77
  go_wp2_with (first | (refine wpList_world hW0 ?_; clear hW0; refine wpList_load_row (by rfl) 30 (.tmp 3) (by rfl) (w.heap.size + 1) (by rfl) 30 E (0,0) _ gE Tryz.underlying30 (by rfl) (by rw [hE1]; exact infoEv) ?_))
  refine Calls.mono (HPl.out _ gu) ?_
  rintro r W1 ⟨rfl,u1⟩
  have g0 := u1.heap g0
  have gE := u1.heap gE
  have g2 := u1.heap g2
  have gu := gu.trans u1
  clear u1 HPl
  have hbB : w.heap.size + 1 + 1 < W1.heap.size := (Array.getElem?_eq_some_iff.1 g2).1
  go_wp2_with (first | (refine wpList_load_row (by rfl) 27 (.tmp 2) (by rfl) w.heap.size (by rfl) 27 A (0,0) _ g0 Tryz.underlying27 (by rfl) (by rw [hA1]; exact infoSt) ?_))
  refine Calls.mono (HCo.out _ gu) ?_
  rintro r W2 ⟨v',rfl,so,u2⟩
  obtain ⟨C,rfl,h1C,h2C⟩ := SOA.row so
  obtain ⟨pO,hpO⟩ : ∃ p,p = W2.heap.size := ⟨_,rfl⟩
  have hown : Own W1.heap.size ((W2.alloc (.cells zS 27)).setRow W2.heap.size C) W2.heap.size s := own_of (so.up ((Up.refl _).alloc _)) (heap_alloc_new _ _)
  obtain ⟨W3,hW3⟩ : ∃ W3,(W2.alloc (.cells zS 27)).setRow W2.heap.size C = W3 := ⟨_,rfl⟩
  have u3 : Up W2 W3 := by rw [<- hW3]; exact (filled W2 zS C 27).2.1
  rw [hW3,<- hpO] at hown
  have hpB : W1.heap.size <= pO := by rw [hpO]; exact u2.size
  have g0 := u3.heap (u2.heap g0)
  have gE := u3.heap (u2.heap gE)
  have g2 := u3.heap (u2.heap g2)
  have gu := gu.trans (u2.trans u3)
  have e0 : W3.cell? ⟨w.heap.size + 1,0,none⟩ = some (.int .i8 kind) := by rw [evc_at gE,HE0.out]; rfl
  clear u2 u3 so HCo
  go_upto_region 4 with (first | (refine wpList_store_row rfl 27 (.tmp 6) (.tmp 12) rfl W2.heap.size C rfl rfl 27 zS (heap_alloc_new W2 _) (by rw [h1C]; exact infoSt) (by rw [h1C]; rfl) h2C ?_; refine wpList_world hW3 ?_))
  by_cases h1 : kind = 1
  ·subst h1
   have HN : Hid (ahdD s (⟨1,field,card,player,other,fr,frAt,to_,toAt,was,now,ord⟩ : Ev) = mvO s card to_ toAt fr frAt) := by unfold Hid ahdD; rw [<- HPD.out]; simp []
   have e2 : W3.cell? ⟨w.heap.size + 1,2,none⟩ = some (.int .i64 card) := by rw [evc_at gE,HE0.out]; rfl
   have e5 : W3.cell? ⟨w.heap.size + 1,5,none⟩ = some (.int .i64 fr) := by rw [evc_at gE,HE0.out]; rfl
   have e6 : W3.cell? ⟨w.heap.size + 1,6,none⟩ = some (.int .i64 frAt) := by rw [evc_at gE,HE0.out]; rfl
   have e7 : W3.cell? ⟨w.heap.size + 1,7,none⟩ = some (.int .i64 to_) := by rw [evc_at gE,HE0.out]; rfl
   have e8 : W3.cell? ⟨w.heap.size + 1,8,none⟩ = some (.int .i64 toAt) := by rw [evc_at gE,HE0.out]; rfl
   clear hown hpO hpB HCh HSh HIs HPL
   go_wp2_with (first | (refine wpList_load_row (by rfl) 27 (.tmp 2) (by rfl) w.heap.size (by rfl) 27 A (0,0) _ g0 Tryz.underlying27 (by rfl) (by rw [hA1]; exact infoSt) ?_))
   refine Calls.mono (HMv.out card to_ toAt fr frAt _ gu) ?_
   rintro r W4 ⟨X,rfl,h1X,h2X,soX,u4⟩
   have g2 := u4.heap g2
   have HSO : Hid (SOA w.heap.size W4 (.agg X) (Option.getD (ahdD s (⟨1,field,card,player,other,fr,frAt,to_,toAt,was,now,ord⟩ : Ev)) noS)) := by rw [HN.out]; exact soX.less gu.size
   have HU4 : Hid (Up w W4) := gu.trans u4
   clear soX u4
   go_wp2_with (refine wpList_store_row rfl 27 (.tmp 4) (.tmp 29) rfl (w.heap.size + 1 + 1) X rfl rfl 27 zS g2 (by rw [h1X]; exact infoSt) (by rw [h1X]; rfl) h2X ?_)
   have HR : Hid _ := setRow_heap W4 (w.heap.size + 1 + 1) _ _ _ X g2
   refine bodyPost_ret (v := .tuple #[.agg X,.bool (mvO s card to_ toAt fr frAt).isSome]) (results_c1 rfl _ _ (w.heap.size + 1 + 1) 27 X (0,0) _ _ rfl rfl HR.out Tryz.underlying27 rfl (by rw [h1X]; exact infoSt)) rfl ?_
   rw [HP.out]
   exact ⟨X,by rw [HN.out],h1X,h2X,SOA.setRow HSO.out g2,up_setRow HU4.out (by omega) _⟩
  ·have f1k : (kind == 1) = false := beq_eq_false_iff_ne.2 h1
   by_cases h2 : kind = 2
   ·subst h2
    by_cases hf : 4 < field
    ·have HN : Hid (ahdD s (⟨2,field,card,player,other,fr,frAt,to_,toAt,was,now,ord⟩ : Ev) = none) := by unfold Hid ahdD; rw [<- HPD.out]; simp [hf]
     have e1 : W3.cell? ⟨w.heap.size + 1,1,none⟩ = some (.int .i8 field) := by rw [evc_at gE,HE0.out]; rfl
     clear HMv HSh HIs HPL HCh
     clear hown hpO hpB
     go_upto_region 9 with fail
     go_wp2_with (refine wpList_store_row rfl 27 (.tmp 4) (.tmp 36) rfl (w.heap.size + 1 + 1) zS rfl rfl 27 zS g2 infoSt rfl zS_all ?_)
     have HR : Hid _ := setRow_heap _ (w.heap.size + 1 + 1) _ _ _ zS g2
     refine bodyPost_ret (v := .tuple #[.agg zS,.bool false]) (results_c1 rfl _ _ (w.heap.size + 1 + 1) 27 zS (0,0) _ (.bool false) rfl rfl HR.out Tryz.underlying27 rfl infoSt) rfl ?_
     rw [HP.out,HN.out]
     exact bh_none gu (by omega)
    ·have HN : Hid (ahdD s (⟨2,field,card,player,other,fr,frAt,to_,toAt,was,now,ord⟩ : Ev) = chgO s field card now was) := by unfold Hid ahdD; rw [<- HPD.out]; simp [hf]
     have e1 : W3.cell? ⟨w.heap.size + 1,1,none⟩ = some (.int .i8 field) := by rw [evc_at gE,HE0.out]; rfl
     have e2 : W3.cell? ⟨w.heap.size + 1,2,none⟩ = some (.int .i64 card) := by rw [evc_at gE,HE0.out]; rfl
     have e9 : W3.cell? ⟨w.heap.size + 1,9,none⟩ = some (.int .i32 was) := by rw [evc_at gE,HE0.out]; rfl
     have e10 : W3.cell? ⟨w.heap.size + 1,10,none⟩ = some (.int .i32 now) := by rw [evc_at gE,HE0.out]; rfl
     clear hown hpO hpB HMv HSh HIs HPL
     go_wp2_with (first | (refine wpList_load_row (by rfl) 27 (.tmp 2) (by rfl) w.heap.size (by rfl) 27 A (0,0) _ g0 Tryz.underlying27 (by rfl) (by rw [hA1]; exact infoSt) ?_))
     refine Calls.mono (HCh.out field card now was _ gu) ?_
     rintro r W4 ⟨X,rfl,h1X,h2X,soX,u4⟩
     have g2 := u4.heap g2
     have HSO : Hid (SOA w.heap.size W4 (.agg X) (Option.getD (ahdD s (⟨2,field,card,player,other,fr,frAt,to_,toAt,was,now,ord⟩ : Ev)) noS)) := by rw [HN.out]; exact soX.less gu.size
     have HU4 : Hid (Up w W4) := gu.trans u4
     clear soX u4
     go_wp2_with (refine wpList_store_row rfl 27 (.tmp 4) (.tmp 47) rfl (w.heap.size + 1 + 1) X rfl rfl 27 zS g2 (by rw [h1X]; exact infoSt) (by rw [h1X]; rfl) h2X ?_)
     have HR : Hid _ := setRow_heap W4 (w.heap.size + 1 + 1) _ _ _ X g2
     refine bodyPost_ret (v := .tuple #[.agg X,.bool (chgO s field card now was).isSome]) (results_c1 rfl _ _ (w.heap.size + 1 + 1) 27 X (0,0) _ _ rfl rfl HR.out Tryz.underlying27 rfl (by rw [h1X]; exact infoSt)) rfl ?_
     rw [HP.out]
     exact ⟨X,by rw [HN.out],h1X,h2X,SOA.setRow HSO.out g2,up_setRow HU4.out (by omega) _⟩
   ·have f2k : (kind == 2) = false := beq_eq_false_iff_ne.2 h2
    by_cases h3 : kind = 3
    ·subst h3
     by_cases hf : field < 5
     ·have HN : Hid (ahdD s (⟨3,field,card,player,other,fr,frAt,to_,toAt,was,now,ord⟩ : Ev) = none) := by unfold Hid ahdD; rw [<- HPD.out]; simp [hf]
      have e1 : W3.cell? ⟨w.heap.size + 1,1,none⟩ = some (.int .i8 field) := by rw [evc_at gE,HE0.out]; rfl
      clear HMv HSh HIs HPL HCh
      clear hown hpO hpB
      go_upto_region 13 with fail
      go_wp2_with (refine wpList_store_row rfl 27 (.tmp 4) (.tmp 54) rfl (w.heap.size + 1 + 1) zS rfl rfl 27 zS g2 infoSt rfl zS_all ?_)
      have HR : Hid _ := setRow_heap _ (w.heap.size + 1 + 1) _ _ _ zS g2
      refine bodyPost_ret (v := .tuple #[.agg zS,.bool false]) (results_c1 rfl _ _ (w.heap.size + 1 + 1) 27 zS (0,0) _ (.bool false) rfl rfl HR.out Tryz.underlying27 rfl infoSt) rfl ?_
      rw [HP.out,HN.out]
      exact bh_none gu (by omega)
     ·have HN : Hid (ahdD s (⟨3,field,card,player,other,fr,frAt,to_,toAt,was,now,ord⟩ : Ev) = chgO s field player now was) := by unfold Hid ahdD; rw [<- HPD.out]; simp [hf]
      have e1 : W3.cell? ⟨w.heap.size + 1,1,none⟩ = some (.int .i8 field) := by rw [evc_at gE,HE0.out]; rfl
      have e3 : W3.cell? ⟨w.heap.size + 1,3,none⟩ = some (.int .i64 player) := by rw [evc_at gE,HE0.out]; rfl
      have e9 : W3.cell? ⟨w.heap.size + 1,9,none⟩ = some (.int .i32 was) := by rw [evc_at gE,HE0.out]; rfl
      have e10 : W3.cell? ⟨w.heap.size + 1,10,none⟩ = some (.int .i32 now) := by rw [evc_at gE,HE0.out]; rfl
      clear hown hpO hpB HMv HSh HIs HPL
      go_wp2_with (first | (refine wpList_load_row (by rfl) 27 (.tmp 2) (by rfl) w.heap.size (by rfl) 27 A (0,0) _ g0 Tryz.underlying27 (by rfl) (by rw [hA1]; exact infoSt) ?_))
      refine Calls.mono (HCh.out field player now was _ gu) ?_
      rintro r W4 ⟨X,rfl,h1X,h2X,soX,u4⟩
      have g2 := u4.heap g2
      have HSO : Hid (SOA w.heap.size W4 (.agg X) (Option.getD (ahdD s (⟨3,field,card,player,other,fr,frAt,to_,toAt,was,now,ord⟩ : Ev)) noS)) := by rw [HN.out]; exact soX.less gu.size
      have HU4 : Hid (Up w W4) := gu.trans u4
      clear soX u4
      go_wp2_with (refine wpList_store_row rfl 27 (.tmp 4) (.tmp 65) rfl (w.heap.size + 1 + 1) X rfl rfl 27 zS g2 (by rw [h1X]; exact infoSt) (by rw [h1X]; rfl) h2X ?_)
      have HR : Hid _ := setRow_heap W4 (w.heap.size + 1 + 1) _ _ _ X g2
      refine bodyPost_ret (v := .tuple #[.agg X,.bool (chgO s field player now was).isSome]) (results_c1 rfl _ _ (w.heap.size + 1 + 1) 27 X (0,0) _ _ rfl rfl HR.out Tryz.underlying27 rfl (by rw [h1X]; exact infoSt)) rfl ?_
      rw [HP.out]
      exact ⟨X,by rw [HN.out],h1X,h2X,SOA.setRow HSO.out g2,up_setRow HU4.out (by omega) _⟩
    ·have f3k : (kind == 3) = false := beq_eq_false_iff_ne.2 h3
     by_cases h4 : kind = 4
     ·subst h4
      have HN : Hid (ahdD s (⟨4,field,card,player,other,fr,frAt,to_,toAt,was,now,ord⟩ : Ev) = shO s fr ord true) := by unfold Hid ahdD; rw [<- HPD.out]; simp []
      have e5 : W3.cell? ⟨w.heap.size + 1,5,none⟩ = some (.int .i64 fr) := by rw [evc_at gE,HE0.out]; rfl
      have e11 : W3.cell? ⟨w.heap.size + 1,11,none⟩ = some (.slice oa ord.length oc) := by rw [evc_at gE,HE0.out]; rfl
      clear hown hpO hpB HCh HMv HIs HPL
      go_wp2_with (first | (refine wpList_load_row (by rfl) 27 (.tmp 2) (by rfl) w.heap.size (by rfl) 27 A (0,0) _ g0 Tryz.underlying27 (by rfl) (by rw [hA1]; exact infoSt) ?_))
      refine Calls.mono (HSh.out _ gu) ?_
      rintro r W4 ⟨X,rfl,h1X,h2X,soX,u4⟩
      have g2 := u4.heap g2
      have HSO : Hid (SOA w.heap.size W4 (.agg X) (Option.getD (ahdD s (⟨4,field,card,player,other,fr,frAt,to_,toAt,was,now,ord⟩ : Ev)) noS)) := by rw [HN.out]; exact soX.less gu.size
      have HU4 : Hid (Up w W4) := gu.trans u4
      clear soX u4
      go_wp2_with (refine wpList_store_row rfl 27 (.tmp 4) (.tmp 75) rfl (w.heap.size + 1 + 1) X rfl rfl 27 zS g2 (by rw [h1X]; exact infoSt) (by rw [h1X]; rfl) h2X ?_)
      have HR : Hid _ := setRow_heap W4 (w.heap.size + 1 + 1) _ _ _ X g2
      refine bodyPost_ret (v := .tuple #[.agg X,.bool (shO s fr ord true).isSome]) (results_c1 rfl _ _ (w.heap.size + 1 + 1) 27 X (0,0) _ _ rfl rfl HR.out Tryz.underlying27 rfl (by rw [h1X]; exact infoSt)) rfl ?_
      rw [HP.out]
      exact ⟨X,by rw [HN.out],h1X,h2X,SOA.setRow HSO.out g2,up_setRow HU4.out (by omega) _⟩
     ·have f4k : (kind == 4) = false := beq_eq_false_iff_ne.2 h4
      by_cases h5 : kind = 5
      ·subst h5
       cases hb : numB player s.ps.length with
       | false =>
        have HI5 : Hid _ := HIs.out player s.ps.length
        rw [hb] at HI5
        clear HIs
        have HN : Hid (ahdD s (⟨5,field,card,player,other,fr,frAt,to_,toAt,was,now,ord⟩ : Ev) = none) := by unfold Hid ahdD; rw [<- HPD.out]; simp [outLeadsB,hb]
        have e3 : W3.cell? ⟨w.heap.size + 1,3,none⟩ = some (.int .i64 player) := by rw [evc_at gE,HE0.out]; rfl
        have a_0 : W3.cell? ⟨w.heap.size,0,none⟩ = some (.slice a1 s.ps.length k1) := by rw [evc_at g0,HA0.out]; rfl
        clear HMv HSh HPL HCh
        go_wp2_with fail
        refine Calls.mono (HI5.out _) ?_
        rintro r W4 ⟨rfl,rfl⟩
        clear hown hpO hpB
        go_upto_region 31 with fail
        go_wp2_with (refine wpList_store_row rfl 27 (.tmp 4) (.tmp 166) rfl (w.heap.size + 1 + 1) zS rfl rfl 27 zS g2 infoSt rfl zS_all ?_)
        have HR : Hid _ := setRow_heap _ (w.heap.size + 1 + 1) _ _ _ zS g2
        refine bodyPost_ret (v := .tuple #[.agg zS,.bool false]) (results_c1 rfl _ _ (w.heap.size + 1 + 1) 27 zS (0,0) _ (.bool false) rfl rfl HR.out Tryz.underlying27 rfl infoSt) rfl ?_
        rw [HP.out,HN.out]
        exact bh_none gu (by omega)
       | true =>
        obtain ⟨i,rfl,hi⟩ := num_nat hb
        obtain ⟨pb,po,rfl,hpc⟩ := HPL.out (by omega)
        have hi2 : (i : Int) < (s.ps.length : Int) := by omega
        have HI5 : Hid _ := HIs.out (i : Int) s.ps.length
        rw [hb] at HI5
        clear HIs
        cases hq : (s.ps.getD i dp).out with
        | false =>
         have hq2 := hq
         rw [List.getD_eq_getElem?_getD] at hq2
         have HN : Hid (ahdD s (⟨5,field,card,(i : Int),other,fr,frAt,to_,toAt,was,now,ord⟩ : Ev) = none) := by unfold Hid ahdD; rw [<- HPD.out]; simp [outLeadsB,hb,hq2]
         have e3 : W3.cell? ⟨w.heap.size + 1,3,none⟩ = some (.int .i64 (i : Int)) := by rw [evc_at gE,HE0.out]; rfl
         have a_0 : W3.cell? ⟨w.heap.size,0,none⟩ = some (.slice (some ⟨pb,po,none⟩) s.ps.length k1) := by rw [evc_at g0,HA0.out]; rfl
         obtain ⟨-,-,x2⟩ := hpc W3 gu i hi
         rw [hq] at x2
         clear HMv HSh HPL HCh hpc
         go_wp2_with fail
         refine Calls.mono (HI5.out _) ?_
         rintro r W4 ⟨rfl,rfl⟩
         clear hown hpO hpB
         go_upto_region 31 with fail
         go_wp2_with (refine wpList_store_row rfl 27 (.tmp 4) (.tmp 166) rfl (w.heap.size + 1 + 1) zS rfl rfl 27 zS g2 infoSt rfl zS_all ?_)
         have HR : Hid _ := setRow_heap _ (w.heap.size + 1 + 1) _ _ _ zS g2
         refine bodyPost_ret (v := .tuple #[.agg zS,.bool false]) (results_c1 rfl _ _ (w.heap.size + 1 + 1) 27 zS (0,0) _ (.bool false) rfl rfl HR.out Tryz.underlying27 rfl infoSt) rfl ?_
         rw [HP.out,HN.out]
         exact bh_none gu (by omega)
        | true =>
         have hq2 := hq
         rw [List.getD_eq_getElem?_getD] at hq2
         have HN : Hid (ahdD s (⟨5,field,card,(i : Int),other,fr,frAt,to_,toAt,was,now,ord⟩ : Ev) = some (aheadS s (⟨5,field,card,(i : Int),other,fr,frAt,to_,toAt,was,now,ord⟩ : Ev))) := by unfold Hid ahdD; rw [<- HPD.out]; simp [outLeadsB,hb,hq2]
         have e3 : W3.cell? ⟨w.heap.size + 1,3,none⟩ = some (.int .i64 (i : Int)) := by rw [evc_at gE,HE0.out]; rfl
         have a_0 : W3.cell? ⟨w.heap.size,0,none⟩ = some (.slice (some ⟨pb,po,none⟩) s.ps.length k1) := by rw [evc_at g0,HA0.out]; rfl
         obtain ⟨-,-,x2⟩ := hpc W3 gu i hi
         rw [hq] at x2
         obtain ⟨g,cap,vc2,vz2,h1,h2,h3⟩ := own_player (B := w.heap.size) hown (by omega) (by omega) i hi
         have hgB := (own_base hown h1).1 g rfl
         obtain ⟨xx,xf,hgb⟩ := h2 W3 (Up.refl _)
         have xx2 := xx.2.2
         have xf2 := xf (i * 3 + 2)
         have hD := h3 2 (.bool false) { s.ps.getD i dp with out := false } (by decide) (by simp [pv]) W3 (Up.refl _)
         obtain ⟨c0,c1,c2,c3,c4,c5,c6⟩ := seven_cells h1
         obtain ⟨W5,hW5⟩ : ∃ W5,W3.setCell ⟨g,i * 3 + 2,none⟩ (.bool false) = W5 := ⟨_,rfl⟩
         rw [hW5] at hD
         have g2n : W5.heap[w.heap.size + 1 + 1]? = some (.cells zS 27 (0,0)) := by rw [<- hW5]; exact set_other g2 (by omega)
         obtain ⟨C6,r6,h16,h26,so6⟩ := own_row hD.1
         have HU6 : Hid (Up w W5) := Below.trans gu hD.2.1
         have HSO : Hid (SOA w.heap.size W5 (.agg C6) (aheadS s (⟨5,field,card,(i : Int),other,fr,frAt,to_,toAt,was,now,ord⟩ : Ev))) := so6.less (by omega)
         have hgl : g < W3.heap.size := World.block_lt_of_cell? W3 _ xx2
         clear HMv HSh HPL HCh hpc hD so6 h1 h2 h3 xx xf hown
         have HRr : Hid _ := setRow_heap W5 (w.heap.size + 1 + 1) _ _ _ C6 g2n
         go_wp2_with fail
         refine Calls.mono (HI5.out _) ?_
         rintro r W4 ⟨rfl,rfl⟩
         rw [<- hpO]
         clear hpO
         go_upto_region 20 with fail
         go_wp2_with (first | (refine wpList_world hW5 ?_; refine wpList_load_row (by rfl) 27 (.tmp 6) (by rfl) pO (by rfl) 27 C6 (0,0) _ r6 Tryz.underlying27 (by rfl) (by rw [h16]; exact infoSt) ?_) | (refine wpList_load_row (by rfl) 27 (.tmp 6) (by rfl) pO (by rfl) 27 C6 (0,0) _ r6 Tryz.underlying27 (by rfl) (by rw [h16]; exact infoSt) ?_) | (refine wpList_store_row rfl 27 (.tmp 4) (.tmp 100) rfl (w.heap.size + 1 + 1) C6 rfl rfl 27 zS g2n (by rw [h16]; exact infoSt) (by rw [h16]; rfl) h26 ?_))
         refine bodyPost_ret (v := .tuple #[.agg C6,.bool true]) (results_c1 rfl _ _ (w.heap.size + 1 + 1) 27 C6 (0,0) _ (.bool true) rfl rfl HRr.out Tryz.underlying27 rfl (by rw [h16]; exact infoSt)) rfl ?_
         rw [HP.out,HN.out]
         exact ⟨C6,rfl,h16,h26,SOA.setRow HSO.out g2n,up_setRow HU6.out (by omega) _⟩
      ·have f5k : (kind == 5) = false := beq_eq_false_iff_ne.2 h5
       by_cases h6 : kind = 6
       ·subst h6
        by_cases q0 : now = s.turn
        ·have d0 : decide (now = s.turn) = true := decide_eq_true q0
         have f0 : (now == s.turn) = true := beq_iff_eq.2 q0
         by_cases q1 : other = s.whose
         ·have d1 : decide (other = s.whose) = true := decide_eq_true q1
          have f1 : (other == s.whose) = true := beq_iff_eq.2 q1
          cases hb : numB player s.ps.length with
          | false =>
           have hT : tlD s (⟨6,field,card,player,other,fr,frAt,to_,toAt,was,now,ord⟩ : Ev) = false := by
            unfold tlD
            dsimp only
            rw [d0,d1,hb]
            simp
           have HN : Hid (ahdD s (⟨6,field,card,player,other,fr,frAt,to_,toAt,was,now,ord⟩ : Ev) = none) := by unfold Hid ahdD; rw [<- HPD.out]; simp [hT]
           clear hT q0 d0 q1 d1
           have HI5 : Hid _ := HIs.out player s.ps.length
           rw [hb] at HI5
           clear HIs
           have e3 : W3.cell? ⟨w.heap.size + 1,3,none⟩ = some (.int .i64 player) := by rw [evc_at gE,HE0.out]; rfl
           have e4 : W3.cell? ⟨w.heap.size + 1,4,none⟩ = some (.int .i64 other) := by rw [evc_at gE,HE0.out]; rfl
           have e9 : W3.cell? ⟨w.heap.size + 1,9,none⟩ = some (.int .i32 was) := by rw [evc_at gE,HE0.out]; rfl
           have e10 : W3.cell? ⟨w.heap.size + 1,10,none⟩ = some (.int .i32 now) := by rw [evc_at gE,HE0.out]; rfl
           have a_0 : W3.cell? ⟨w.heap.size,0,none⟩ = some (.slice a1 s.ps.length k1) := by rw [evc_at g0,HA0.out]; rfl
           have a_3 : W3.cell? ⟨w.heap.size,3,none⟩ = some (.int .i32 s.turn) := by rw [evc_at g0,HA0.out]; rfl
           have a_4 : W3.cell? ⟨w.heap.size,4,none⟩ = some (.int .i64 s.whose) := by rw [evc_at g0,HA0.out]; rfl
           clear HMv HSh HPL HCh
           go_wp2_with fail
           refine Calls.mono (HI5.out _) ?_
           rintro r W4 ⟨rfl,rfl⟩
           clear hown hpO hpB
           go_upto_region 31 with fail
           go_wp2_with (refine wpList_store_row rfl 27 (.tmp 4) (.tmp 166) rfl (w.heap.size + 1 + 1) zS rfl rfl 27 zS g2 infoSt rfl zS_all ?_)
           have HR : Hid _ := setRow_heap _ (w.heap.size + 1 + 1) _ _ _ zS g2
           refine bodyPost_ret (v := .tuple #[.agg zS,.bool false]) (results_c1 rfl _ _ (w.heap.size + 1 + 1) 27 zS (0,0) _ (.bool false) rfl rfl HR.out Tryz.underlying27 rfl infoSt) rfl ?_
           rw [HP.out,HN.out]
           exact bh_none gu (by omega)
          | true =>
           by_cases q3 : 1 <= was
           ·have d3 : decide (1 <= was) = true := decide_eq_true q3
            have f3 : decide ((1 : Int) <= was) = true := decide_eq_true q3
            by_cases q4 : now = wrap32 (was + 1)
            ·have d4 : decide (now = wrap32 (was + 1)) = true := decide_eq_true q4
             have f4 : (now == wrap32 (was + 1)) = true := beq_iff_eq.2 q4
             have hT : tlD s (⟨6,field,card,player,other,fr,frAt,to_,toAt,was,now,ord⟩ : Ev) = true := by
              unfold tlD
              dsimp only
              rw [d0,d1,hb,d3,d4]
              simp
             have HN : Hid (ahdD s (⟨6,field,card,player,other,fr,frAt,to_,toAt,was,now,ord⟩ : Ev) = some (aheadS s (⟨6,field,card,player,other,fr,frAt,to_,toAt,was,now,ord⟩ : Ev))) := by unfold Hid ahdD; rw [<- HPD.out]; simp [hT]
             clear hT q0 d0 q1 d1 q3 d3 q4 d4
             have HI5 : Hid _ := HIs.out player s.ps.length
             rw [hb] at HI5
             clear HIs
             have e3 : W3.cell? ⟨w.heap.size + 1,3,none⟩ = some (.int .i64 player) := by rw [evc_at gE,HE0.out]; rfl
             have e4 : W3.cell? ⟨w.heap.size + 1,4,none⟩ = some (.int .i64 other) := by rw [evc_at gE,HE0.out]; rfl
             have e9 : W3.cell? ⟨w.heap.size + 1,9,none⟩ = some (.int .i32 was) := by rw [evc_at gE,HE0.out]; rfl
             have e10 : W3.cell? ⟨w.heap.size + 1,10,none⟩ = some (.int .i32 now) := by rw [evc_at gE,HE0.out]; rfl
             have a_0 : W3.cell? ⟨w.heap.size,0,none⟩ = some (.slice a1 s.ps.length k1) := by rw [evc_at g0,HA0.out]; rfl
             have a_3 : W3.cell? ⟨w.heap.size,3,none⟩ = some (.int .i32 s.turn) := by rw [evc_at g0,HA0.out]; rfl
             have a_4 : W3.cell? ⟨w.heap.size,4,none⟩ = some (.int .i64 s.whose) := by rw [evc_at g0,HA0.out]; rfl
             obtain ⟨vp2,vc2,vz2,h1,-⟩ := id hown
             have hD := did_two (B := w.heap.size) (j1 := 3) (j2 := 4) (u1 := .int .i32 was) (u2 := .int .i64 player) (t := was) (wh := player) (f := s.fin) (wi := s.winner) hown (by omega) (Up.refl W3) (fun _ _ _=>rfl)
             obtain ⟨c0,c1,c2,c3,c4,c5,c6⟩ := seven_cells h1
             have cf3 := seven_f h1 3
             have cf4 := seven_f h1 4
             obtain ⟨W5,hW5⟩ : ∃ W5,(W3.setCell ⟨pO,3,none⟩ (.int .i32 was)).setCell ⟨pO,4,none⟩ (.int .i64 player) = W5 := ⟨_,rfl⟩
             rw [hW5] at hD
             have g2n : W5.heap[w.heap.size + 1 + 1]? = some (.cells zS 27 (0,0)) := by rw [<- hW5]; exact set_other (set_other g2 (by omega)) (by omega)
             obtain ⟨C6,r6,h16,h26,so6⟩ := own_row hD.1
             have HU6 : Hid (Up w W5) := Below.trans gu hD.2.1
             have HSO : Hid (SOA w.heap.size W5 (.agg C6) (aheadS s (⟨6,field,card,player,other,fr,frAt,to_,toAt,was,now,ord⟩ : Ev))) := so6.less (by omega)
             have hpE : w.heap.size + 1 ≠ pO := by omega
             have hpE2 : ¬ w.heap.size + 1 = pO := by omega
             clear HMv HSh HPL HCh hD so6 h1 hown
             have HRr : Hid _ := setRow_heap W5 (w.heap.size + 1 + 1) _ _ _ C6 g2n
             go_wp2_with fail
             refine Calls.mono (HI5.out _) ?_
             rintro r W4 ⟨rfl,rfl⟩
             rw [<- hpO]
             clear hpO
             go_upto_region 25 with fail
             go_wp2_with (first | (refine wpList_world hW5 ?_; refine wpList_load_row (by rfl) 27 (.tmp 6) (by rfl) pO (by rfl) 27 C6 (0,0) _ r6 Tryz.underlying27 (by rfl) (by rw [h16]; exact infoSt) ?_) | (refine wpList_load_row (by rfl) 27 (.tmp 6) (by rfl) pO (by rfl) 27 C6 (0,0) _ r6 Tryz.underlying27 (by rfl) (by rw [h16]; exact infoSt) ?_) | (refine wpList_store_row rfl 27 (.tmp 4) (.tmp 142) rfl (w.heap.size + 1 + 1) C6 rfl rfl 27 zS g2n (by rw [h16]; exact infoSt) (by rw [h16]; rfl) h26 ?_))
             refine bodyPost_ret (v := .tuple #[.agg C6,.bool true]) (results_c1 rfl _ _ (w.heap.size + 1 + 1) 27 C6 (0,0) _ (.bool true) rfl rfl HRr.out Tryz.underlying27 rfl (by rw [h16]; exact infoSt)) rfl ?_
             rw [HP.out,HN.out]
             exact ⟨C6,rfl,h16,h26,SOA.setRow HSO.out g2n,up_setRow HU6.out (by omega) _⟩
            ·have d4 : decide (now = wrap32 (was + 1)) = false := decide_eq_false q4
             have f4 : (now == wrap32 (was + 1)) = false := beq_eq_false_iff_ne.2 q4
             have hT : tlD s (⟨6,field,card,player,other,fr,frAt,to_,toAt,was,now,ord⟩ : Ev) = false := by
              unfold tlD
              dsimp only
              rw [d0,d1,hb,d3,d4]
              simp
             have HN : Hid (ahdD s (⟨6,field,card,player,other,fr,frAt,to_,toAt,was,now,ord⟩ : Ev) = none) := by unfold Hid ahdD; rw [<- HPD.out]; simp [hT]
             clear hT q0 d0 q1 d1 q3 d3 q4 d4
             have HI5 : Hid _ := HIs.out player s.ps.length
             rw [hb] at HI5
             clear HIs
             have e3 : W3.cell? ⟨w.heap.size + 1,3,none⟩ = some (.int .i64 player) := by rw [evc_at gE,HE0.out]; rfl
             have e4 : W3.cell? ⟨w.heap.size + 1,4,none⟩ = some (.int .i64 other) := by rw [evc_at gE,HE0.out]; rfl
             have e9 : W3.cell? ⟨w.heap.size + 1,9,none⟩ = some (.int .i32 was) := by rw [evc_at gE,HE0.out]; rfl
             have e10 : W3.cell? ⟨w.heap.size + 1,10,none⟩ = some (.int .i32 now) := by rw [evc_at gE,HE0.out]; rfl
             have a_0 : W3.cell? ⟨w.heap.size,0,none⟩ = some (.slice a1 s.ps.length k1) := by rw [evc_at g0,HA0.out]; rfl
             have a_3 : W3.cell? ⟨w.heap.size,3,none⟩ = some (.int .i32 s.turn) := by rw [evc_at g0,HA0.out]; rfl
             have a_4 : W3.cell? ⟨w.heap.size,4,none⟩ = some (.int .i64 s.whose) := by rw [evc_at g0,HA0.out]; rfl
             clear HMv HSh HPL HCh
             go_wp2_with fail
             refine Calls.mono (HI5.out _) ?_
             rintro r W4 ⟨rfl,rfl⟩
             clear hown hpO hpB
             go_upto_region 31 with fail
             go_wp2_with (refine wpList_store_row rfl 27 (.tmp 4) (.tmp 166) rfl (w.heap.size + 1 + 1) zS rfl rfl 27 zS g2 infoSt rfl zS_all ?_)
             have HR : Hid _ := setRow_heap _ (w.heap.size + 1 + 1) _ _ _ zS g2
             refine bodyPost_ret (v := .tuple #[.agg zS,.bool false]) (results_c1 rfl _ _ (w.heap.size + 1 + 1) 27 zS (0,0) _ (.bool false) rfl rfl HR.out Tryz.underlying27 rfl infoSt) rfl ?_
             rw [HP.out,HN.out]
             exact bh_none gu (by omega)
           ·have d3 : decide (1 <= was) = false := decide_eq_false q3
            have f3 : decide ((1 : Int) <= was) = false := decide_eq_false q3
            have hT : tlD s (⟨6,field,card,player,other,fr,frAt,to_,toAt,was,now,ord⟩ : Ev) = false := by
             unfold tlD
             dsimp only
             rw [d0,d1,hb,d3]
             simp
            have HN : Hid (ahdD s (⟨6,field,card,player,other,fr,frAt,to_,toAt,was,now,ord⟩ : Ev) = none) := by unfold Hid ahdD; rw [<- HPD.out]; simp [hT]
            clear hT q0 d0 q1 d1 q3 d3
            have HI5 : Hid _ := HIs.out player s.ps.length
            rw [hb] at HI5
            clear HIs
            have e3 : W3.cell? ⟨w.heap.size + 1,3,none⟩ = some (.int .i64 player) := by rw [evc_at gE,HE0.out]; rfl
            have e4 : W3.cell? ⟨w.heap.size + 1,4,none⟩ = some (.int .i64 other) := by rw [evc_at gE,HE0.out]; rfl
            have e9 : W3.cell? ⟨w.heap.size + 1,9,none⟩ = some (.int .i32 was) := by rw [evc_at gE,HE0.out]; rfl
            have e10 : W3.cell? ⟨w.heap.size + 1,10,none⟩ = some (.int .i32 now) := by rw [evc_at gE,HE0.out]; rfl
            have a_0 : W3.cell? ⟨w.heap.size,0,none⟩ = some (.slice a1 s.ps.length k1) := by rw [evc_at g0,HA0.out]; rfl
            have a_3 : W3.cell? ⟨w.heap.size,3,none⟩ = some (.int .i32 s.turn) := by rw [evc_at g0,HA0.out]; rfl
            have a_4 : W3.cell? ⟨w.heap.size,4,none⟩ = some (.int .i64 s.whose) := by rw [evc_at g0,HA0.out]; rfl
            clear HMv HSh HPL HCh
            go_wp2_with fail
            refine Calls.mono (HI5.out _) ?_
            rintro r W4 ⟨rfl,rfl⟩
            clear hown hpO hpB
            go_upto_region 31 with fail
            go_wp2_with (refine wpList_store_row rfl 27 (.tmp 4) (.tmp 166) rfl (w.heap.size + 1 + 1) zS rfl rfl 27 zS g2 infoSt rfl zS_all ?_)
            have HR : Hid _ := setRow_heap _ (w.heap.size + 1 + 1) _ _ _ zS g2
            refine bodyPost_ret (v := .tuple #[.agg zS,.bool false]) (results_c1 rfl _ _ (w.heap.size + 1 + 1) 27 zS (0,0) _ (.bool false) rfl rfl HR.out Tryz.underlying27 rfl infoSt) rfl ?_
            rw [HP.out,HN.out]
            exact bh_none gu (by omega)
         ·have d1 : decide (other = s.whose) = false := decide_eq_false q1
          have f1 : (other == s.whose) = false := beq_eq_false_iff_ne.2 q1
          have hT : tlD s (⟨6,field,card,player,other,fr,frAt,to_,toAt,was,now,ord⟩ : Ev) = false := by
           unfold tlD
           dsimp only
           rw [d0,d1]
           simp
          have HN : Hid (ahdD s (⟨6,field,card,player,other,fr,frAt,to_,toAt,was,now,ord⟩ : Ev) = none) := by unfold Hid ahdD; rw [<- HPD.out]; simp [hT]
          clear hT q0 d0 q1 d1
          have e3 : W3.cell? ⟨w.heap.size + 1,3,none⟩ = some (.int .i64 player) := by rw [evc_at gE,HE0.out]; rfl
          have e4 : W3.cell? ⟨w.heap.size + 1,4,none⟩ = some (.int .i64 other) := by rw [evc_at gE,HE0.out]; rfl
          have e9 : W3.cell? ⟨w.heap.size + 1,9,none⟩ = some (.int .i32 was) := by rw [evc_at gE,HE0.out]; rfl
          have e10 : W3.cell? ⟨w.heap.size + 1,10,none⟩ = some (.int .i32 now) := by rw [evc_at gE,HE0.out]; rfl
          have a_0 : W3.cell? ⟨w.heap.size,0,none⟩ = some (.slice a1 s.ps.length k1) := by rw [evc_at g0,HA0.out]; rfl
          have a_3 : W3.cell? ⟨w.heap.size,3,none⟩ = some (.int .i32 s.turn) := by rw [evc_at g0,HA0.out]; rfl
          have a_4 : W3.cell? ⟨w.heap.size,4,none⟩ = some (.int .i64 s.whose) := by rw [evc_at g0,HA0.out]; rfl
          clear HMv HSh HPL HCh
          clear hown hpO hpB
          go_upto_region 31 with fail
          go_wp2_with (refine wpList_store_row rfl 27 (.tmp 4) (.tmp 166) rfl (w.heap.size + 1 + 1) zS rfl rfl 27 zS g2 infoSt rfl zS_all ?_)
          have HR : Hid _ := setRow_heap _ (w.heap.size + 1 + 1) _ _ _ zS g2
          refine bodyPost_ret (v := .tuple #[.agg zS,.bool false]) (results_c1 rfl _ _ (w.heap.size + 1 + 1) 27 zS (0,0) _ (.bool false) rfl rfl HR.out Tryz.underlying27 rfl infoSt) rfl ?_
          rw [HP.out,HN.out]
          exact bh_none gu (by omega)
        ·have d0 : decide (now = s.turn) = false := decide_eq_false q0
         have f0 : (now == s.turn) = false := beq_eq_false_iff_ne.2 q0
         have hT : tlD s (⟨6,field,card,player,other,fr,frAt,to_,toAt,was,now,ord⟩ : Ev) = false := by
          unfold tlD
          dsimp only
          rw [d0]
          simp
         have HN : Hid (ahdD s (⟨6,field,card,player,other,fr,frAt,to_,toAt,was,now,ord⟩ : Ev) = none) := by unfold Hid ahdD; rw [<- HPD.out]; simp [hT]
         clear hT q0 d0
         have e3 : W3.cell? ⟨w.heap.size + 1,3,none⟩ = some (.int .i64 player) := by rw [evc_at gE,HE0.out]; rfl
         have e4 : W3.cell? ⟨w.heap.size + 1,4,none⟩ = some (.int .i64 other) := by rw [evc_at gE,HE0.out]; rfl
         have e9 : W3.cell? ⟨w.heap.size + 1,9,none⟩ = some (.int .i32 was) := by rw [evc_at gE,HE0.out]; rfl
         have e10 : W3.cell? ⟨w.heap.size + 1,10,none⟩ = some (.int .i32 now) := by rw [evc_at gE,HE0.out]; rfl
         have a_0 : W3.cell? ⟨w.heap.size,0,none⟩ = some (.slice a1 s.ps.length k1) := by rw [evc_at g0,HA0.out]; rfl
         have a_3 : W3.cell? ⟨w.heap.size,3,none⟩ = some (.int .i32 s.turn) := by rw [evc_at g0,HA0.out]; rfl
         have a_4 : W3.cell? ⟨w.heap.size,4,none⟩ = some (.int .i64 s.whose) := by rw [evc_at g0,HA0.out]; rfl
         clear HMv HSh HPL HCh
         clear hown hpO hpB
         go_upto_region 31 with fail
         go_wp2_with (refine wpList_store_row rfl 27 (.tmp 4) (.tmp 166) rfl (w.heap.size + 1 + 1) zS rfl rfl 27 zS g2 infoSt rfl zS_all ?_)
         have HR : Hid _ := setRow_heap _ (w.heap.size + 1 + 1) _ _ _ zS g2
         refine bodyPost_ret (v := .tuple #[.agg zS,.bool false]) (results_c1 rfl _ _ (w.heap.size + 1 + 1) 27 zS (0,0) _ (.bool false) rfl rfl HR.out Tryz.underlying27 rfl infoSt) rfl ?_
         rw [HP.out,HN.out]
         exact bh_none gu (by omega)
       ·have f6k : (kind == 6) = false := beq_eq_false_iff_ne.2 h6
        by_cases h7 : kind = 7
        ·subst h7
         by_cases q0 : s.fin = 0
         ·have f0 : (s.fin == 0) = true := beq_iff_eq.2 q0
          have f0b : (s.fin != 0) = false := by rw [q0]; rfl
          have HN : Hid (ahdD s (⟨7,field,card,player,other,fr,frAt,to_,toAt,was,now,ord⟩ : Ev) = none) := by unfold Hid ahdD; rw [<- HPD.out]; simp [endLeadsB,q0]
          clear q0
          have e3 : W3.cell? ⟨w.heap.size + 1,3,none⟩ = some (.int .i64 player) := by rw [evc_at gE,HE0.out]; rfl
          have e10 : W3.cell? ⟨w.heap.size + 1,10,none⟩ = some (.int .i32 now) := by rw [evc_at gE,HE0.out]; rfl
          have a_0 : W3.cell? ⟨w.heap.size,0,none⟩ = some (.slice a1 s.ps.length k1) := by rw [evc_at g0,HA0.out]; rfl
          have a_5 : W3.cell? ⟨w.heap.size,5,none⟩ = some (.int .i8 s.fin) := by rw [evc_at g0,HA0.out]; rfl
          have a_6 : W3.cell? ⟨w.heap.size,6,none⟩ = some (.int .i64 s.winner) := by rw [evc_at g0,HA0.out]; rfl
          clear HMv HSh HPL HCh
          clear hown hpO hpB
          go_upto_region 31 with fail
          go_wp2_with (refine wpList_store_row rfl 27 (.tmp 4) (.tmp 166) rfl (w.heap.size + 1 + 1) zS rfl rfl 27 zS g2 infoSt rfl zS_all ?_)
          have HR : Hid _ := setRow_heap _ (w.heap.size + 1 + 1) _ _ _ zS g2
          refine bodyPost_ret (v := .tuple #[.agg zS,.bool false]) (results_c1 rfl _ _ (w.heap.size + 1 + 1) 27 zS (0,0) _ (.bool false) rfl rfl HR.out Tryz.underlying27 rfl infoSt) rfl ?_
          rw [HP.out,HN.out]
          exact bh_none gu (by omega)
         ·have f0 : (s.fin == 0) = false := beq_eq_false_iff_ne.2 q0
          have f0b : (s.fin != 0) = true := by simp [bne,f0]
          by_cases q1 : wrap32 s.fin = now
          ·have f1 : (now == wrap32 s.fin) = true := beq_iff_eq.2 q1.symm
           by_cases q2 : s.winner = player
           ·have f2 : (player == s.winner) = true := beq_iff_eq.2 q2.symm
            have HN : Hid (ahdD s (⟨7,field,card,player,other,fr,frAt,to_,toAt,was,now,ord⟩ : Ev) = some (aheadS s (⟨7,field,card,player,other,fr,frAt,to_,toAt,was,now,ord⟩ : Ev))) := by unfold Hid ahdD; rw [<- HPD.out]; simp [endLeadsB,q0,q1,q2]
            clear q0 q1 q2
            have e3 : W3.cell? ⟨w.heap.size + 1,3,none⟩ = some (.int .i64 player) := by rw [evc_at gE,HE0.out]; rfl
            have e10 : W3.cell? ⟨w.heap.size + 1,10,none⟩ = some (.int .i32 now) := by rw [evc_at gE,HE0.out]; rfl
            have a_0 : W3.cell? ⟨w.heap.size,0,none⟩ = some (.slice a1 s.ps.length k1) := by rw [evc_at g0,HA0.out]; rfl
            have a_5 : W3.cell? ⟨w.heap.size,5,none⟩ = some (.int .i8 s.fin) := by rw [evc_at g0,HA0.out]; rfl
            have a_6 : W3.cell? ⟨w.heap.size,6,none⟩ = some (.int .i64 s.winner) := by rw [evc_at g0,HA0.out]; rfl
            obtain ⟨vp2,vc2,vz2,h1,-⟩ := id hown
            have hD := did_two (B := w.heap.size) (j1 := 5) (j2 := 6) (u1 := .int .i8 0) (u2 := .int .i64 0) (t := s.turn) (wh := s.whose) (f := 0) (wi := 0) hown (by omega) (Up.refl W3) (fun _ _ _=>rfl)
            obtain ⟨c0,c1,c2,c3,c4,c5,c6⟩ := seven_cells h1
            have cf5 := seven_f h1 5
            have cf6 := seven_f h1 6
            obtain ⟨W5,hW5⟩ : ∃ W5,(W3.setCell ⟨pO,5,none⟩ (.int .i8 0)).setCell ⟨pO,6,none⟩ (.int .i64 0) = W5 := ⟨_,rfl⟩
            rw [hW5] at hD
            have g2n : W5.heap[w.heap.size + 1 + 1]? = some (.cells zS 27 (0,0)) := by rw [<- hW5]; exact set_other (set_other g2 (by omega)) (by omega)
            obtain ⟨C6,r6,h16,h26,so6⟩ := own_row hD.1
            have HU6 : Hid (Up w W5) := Below.trans gu hD.2.1
            have HSO : Hid (SOA w.heap.size W5 (.agg C6) (aheadS s (⟨7,field,card,player,other,fr,frAt,to_,toAt,was,now,ord⟩ : Ev))) := so6.less (by omega)
            have hpE : w.heap.size + 1 ≠ pO := by omega
            have hpE2 : ¬ w.heap.size + 1 = pO := by omega
            have hw8 : IntKind.i8.wrap 1 = 1 /\ IntKind.i8.wrap 2 = 2 := by decide
            clear HMv HSh HPL HCh hD so6 h1 hown
            have HRr : Hid _ := setRow_heap W5 (w.heap.size + 1 + 1) _ _ _ C6 g2n
            rw [<- hpO]
            clear hpO
            go_upto_region 30 with fail
            go_wp2_with (first | (refine wpList_world hW5 ?_; refine wpList_load_row (by rfl) 27 (.tmp 6) (by rfl) pO (by rfl) 27 C6 (0,0) _ r6 Tryz.underlying27 (by rfl) (by rw [h16]; exact infoSt) ?_) | (refine wpList_load_row (by rfl) 27 (.tmp 6) (by rfl) pO (by rfl) 27 C6 (0,0) _ r6 Tryz.underlying27 (by rfl) (by rw [h16]; exact infoSt) ?_) | (refine wpList_store_row rfl 27 (.tmp 4) (.tmp 165) rfl (w.heap.size + 1 + 1) C6 rfl rfl 27 zS g2n (by rw [h16]; exact infoSt) (by rw [h16]; rfl) h26 ?_))
            refine bodyPost_ret (v := .tuple #[.agg C6,.bool true]) (results_c1 rfl _ _ (w.heap.size + 1 + 1) 27 C6 (0,0) _ (.bool true) rfl rfl HRr.out Tryz.underlying27 rfl (by rw [h16]; exact infoSt)) rfl ?_
            rw [HP.out,HN.out]
            exact ⟨C6,rfl,h16,h26,SOA.setRow HSO.out g2n,up_setRow HU6.out (by omega) _⟩
           ·have f2 : (player == s.winner) = false := beq_eq_false_iff_ne.2 (fun h=>q2 h.symm)
            have HN : Hid (ahdD s (⟨7,field,card,player,other,fr,frAt,to_,toAt,was,now,ord⟩ : Ev) = none) := by unfold Hid ahdD; rw [<- HPD.out]; simp [endLeadsB,q0,q1,q2]
            clear q0 q1 q2
            have e3 : W3.cell? ⟨w.heap.size + 1,3,none⟩ = some (.int .i64 player) := by rw [evc_at gE,HE0.out]; rfl
            have e10 : W3.cell? ⟨w.heap.size + 1,10,none⟩ = some (.int .i32 now) := by rw [evc_at gE,HE0.out]; rfl
            have a_0 : W3.cell? ⟨w.heap.size,0,none⟩ = some (.slice a1 s.ps.length k1) := by rw [evc_at g0,HA0.out]; rfl
            have a_5 : W3.cell? ⟨w.heap.size,5,none⟩ = some (.int .i8 s.fin) := by rw [evc_at g0,HA0.out]; rfl
            have a_6 : W3.cell? ⟨w.heap.size,6,none⟩ = some (.int .i64 s.winner) := by rw [evc_at g0,HA0.out]; rfl
            clear HMv HSh HPL HCh
            clear hown hpO hpB
            go_upto_region 31 with fail
            go_wp2_with (refine wpList_store_row rfl 27 (.tmp 4) (.tmp 166) rfl (w.heap.size + 1 + 1) zS rfl rfl 27 zS g2 infoSt rfl zS_all ?_)
            have HR : Hid _ := setRow_heap _ (w.heap.size + 1 + 1) _ _ _ zS g2
            refine bodyPost_ret (v := .tuple #[.agg zS,.bool false]) (results_c1 rfl _ _ (w.heap.size + 1 + 1) 27 zS (0,0) _ (.bool false) rfl rfl HR.out Tryz.underlying27 rfl infoSt) rfl ?_
            rw [HP.out,HN.out]
            exact bh_none gu (by omega)
          ·have f1 : (now == wrap32 s.fin) = false := beq_eq_false_iff_ne.2 (fun h=>q1 h.symm)
           have HN : Hid (ahdD s (⟨7,field,card,player,other,fr,frAt,to_,toAt,was,now,ord⟩ : Ev) = none) := by unfold Hid ahdD; rw [<- HPD.out]; simp [endLeadsB,q0,q1]
           clear q0 q1
           have e3 : W3.cell? ⟨w.heap.size + 1,3,none⟩ = some (.int .i64 player) := by rw [evc_at gE,HE0.out]; rfl
           have e10 : W3.cell? ⟨w.heap.size + 1,10,none⟩ = some (.int .i32 now) := by rw [evc_at gE,HE0.out]; rfl
           have a_0 : W3.cell? ⟨w.heap.size,0,none⟩ = some (.slice a1 s.ps.length k1) := by rw [evc_at g0,HA0.out]; rfl
           have a_5 : W3.cell? ⟨w.heap.size,5,none⟩ = some (.int .i8 s.fin) := by rw [evc_at g0,HA0.out]; rfl
           have a_6 : W3.cell? ⟨w.heap.size,6,none⟩ = some (.int .i64 s.winner) := by rw [evc_at g0,HA0.out]; rfl
           clear HMv HSh HPL HCh
           clear hown hpO hpB
           go_upto_region 31 with fail
           go_wp2_with (refine wpList_store_row rfl 27 (.tmp 4) (.tmp 166) rfl (w.heap.size + 1 + 1) zS rfl rfl 27 zS g2 infoSt rfl zS_all ?_)
           have HR : Hid _ := setRow_heap _ (w.heap.size + 1 + 1) _ _ _ zS g2
           refine bodyPost_ret (v := .tuple #[.agg zS,.bool false]) (results_c1 rfl _ _ (w.heap.size + 1 + 1) 27 zS (0,0) _ (.bool false) rfl rfl HR.out Tryz.underlying27 rfl infoSt) rfl ?_
           rw [HP.out,HN.out]
           exact bh_none gu (by omega)
        ·have f7k : (kind == 7) = false := beq_eq_false_iff_ne.2 h7
         have HN : Hid (ahdD s (⟨kind,field,card,player,other,fr,frAt,to_,toAt,was,now,ord⟩ : Ev) = none) := by unfold Hid ahdD; rw [<- HPD.out]; simp [h1,h2,h3,h4,h5,h6,h7]
         clear HMv HSh HPL HCh
         clear hown hpO hpB
         go_upto_region 31 with fail
         go_wp2_with (refine wpList_store_row rfl 27 (.tmp 4) (.tmp 166) rfl (w.heap.size + 1 + 1) zS rfl rfl 27 zS g2 infoSt rfl zS_all ?_)
         have HR : Hid _ := setRow_heap _ (w.heap.size + 1 + 1) _ _ _ zS g2
         refine bodyPost_ret (v := .tuple #[.agg zS,.bool false]) (results_c1 rfl _ _ (w.heap.size + 1 + 1) 27 zS (0,0) _ (.bool false) rfl rfl HR.out Tryz.underlying27 rfl infoSt) rfl ?_
         rw [HP.out,HN.out]
         exact bh_none gu (by omega)
end DE
end Go.Proofs.YtodhjjeagmjhdaaGreatDoor
