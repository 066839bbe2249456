/-
  ruleOf, for every kind at once.
-/
import Derived.Test.YtodhjjeagmjhdaaGreatDoorDtx6TvDr6X
import Derived.Deep.Cut
namespace Go.Proofs.YtodhjjeagmjhdaaGreatDoor
open Go.RowKit
attribute [local go_sem ↓] Go.wp_at_zero Go.wp_at_succ
namespace DE
open Go.Proofs.YtodhjjeagmjhdaaGreatDoor.ST
def restN (k : Int) : Nat := if k = 1 then 117 else if k = 2 then 123 else if k = 3 then 129 else if k = 4 then 135 else if k = 5 then 140 else if k = 6 then 146 else 152
theorem rest_enters {k : Int} (h : kindB k = true) : ∀ (args : Array Value) (w : World),(callFunc (restN k) args).run Tryz.prog w = .ok (.enter (restN k) args) w := by
 rcases kinds h with rfl | rfl | rfl | rfl | rfl | rfl | rfl
 ·exact enters_of Tryz.func117 (by kernel_rfl) rfl
 ·exact enters_of Tryz.func123 (by kernel_rfl) rfl
 ·exact enters_of Tryz.func129 (by kernel_rfl) rfl
 ·exact enters_of Tryz.func135 (by kernel_rfl) rfl
 ·exact enters_of Tryz.func140 (by kernel_rfl) rfl
 ·exact enters_of Tryz.func146 (by kernel_rfl) rfl
 ·exact enters_of Tryz.func152 (by kernel_rfl) rfl
theorem rest_ (e : Ev) (oa : Option Addr) (oc : Nat) (h : kindB e.kind = true) : ∃ X : Array Value,(∀ W,Calls Tryz.prog (restN e.kind) #[.agg (evc e (.slice oa e.ord.length oc))] W fun x w'=>x = .returned (.agg X) /\ Up W w') /\ ∀ W,Calls Tryz.prog 158 #[.agg X] W fun x w'=>x = .returned (.bool (restB e)) /\ Up W w' := by
 unfold restN restB
 rcases kinds h with h | h | h | h | h | h | h
 ·rw [h]; exact ⟨_,moveRest_ e oa _ oc,saysNothing_ (moveR e) oa _ oc⟩
 ·rw [h]; exact ⟨_,cardRest_ e oa _ oc,saysNothing_ (cardR e) oa _ oc⟩
 ·rw [h]; exact ⟨_,playerRest_ e oa _ oc,saysNothing_ (playerR e) oa _ oc⟩
 ·rw [h]; exact ⟨_,shuffleRest_ e oa _ oc,fun W=>by
  have h9 := saysNothing_ (shuffleR e) none 0 0 W
  rw [decide_eq_true rfl,Bool.and_true] at h9
  exact h9⟩
 ·rw [h]; exact ⟨_,outRest_ e oa _ oc,saysNothing_ (outR e) oa _ oc⟩
 ·rw [h]; exact ⟨_,turnRest_ e oa _ oc,saysNothing_ (turnR e) oa _ oc⟩
 ·rw [h]; exact ⟨_,endRest_ e oa _ oc,saysNothing_ (endR e) oa _ oc⟩
theorem tab_row {q : Nat} (h1 : 1 <= q) (h7 : q <= 7) : (tabV.extract (q * 6) (q * 6 + 6)).toList = (row q).toList := by
 rcases (by omega : q = 1 ∨ q = 2 ∨ q = 3 ∨ q = 4 ∨ q = 5 ∨ q = 6 ∨ q = 7) with rfl | rfl | rfl | rfl | rfl | rfl | rfl <;> kernel_rfl
theorem row_rest {k : Int} (h : kindB k = true) : (row k.toNat)[0]? = some (fv (restN k)) := by
 rcases kinds h with rfl | rfl | rfl | rfl | rfl | rfl | rfl <;> rfl
theorem row_sz {k : Int} (h : kindB k = true) : (row k.toNat).size = 6 /\ (row k.toNat).all (·.oneCell') = true := by
 rcases kinds h with rfl | rfl | rfl | rfl | rfl | rfl | rfl <;> exact ⟨rfl,by kernel_rfl⟩
set_option maxRecDepth 100000 in
set_option maxHeartbeats 4000000 in
theorem rule_ (e : Ev) (oa : Option Addr) (oc : Nat) (w : World) (hk : kindB e.kind = true) : Calls Tryz.prog 82 #[.agg tabV,evv e (.slice oa e.ord.length oc)] w fun x w'=>x = .returned (.tuple #[.agg (row e.kind.toNat),.bool (restB e)]) /\ Up w w' := by
 have HK : Hid (∀ w,Calls Tryz.prog 93 #[.int .i8 e.kind] w fun r w'=>r = .returned (.bool true) /\ w' = w) := fun w=>by
  have h9 := isKind_ e.kind w
  unfold kindB at hk
  rw [hk] at h9
  exact h9
 obtain ⟨X,q1,q2⟩ := rest_ e oa oc hk
 have HQ1 : Hid _ := q1
 have HQ2 : Hid _ := q2
 have HR0 : Hid _ := row_rest hk
 obtain ⟨hR1,hR2⟩ := row_sz hk
 have hen := rest_enters hk
 have hq : 1 <= e.kind.toNat /\ e.kind.toNat <= 7 /\ e.kind = (e.kind.toNat : Int) := by rcases kinds hk with h | h | h | h | h | h | h <;> rw [h] <;> decide
 have HT := tab_row hq.1 hq.2.1
 have k0 : (0 : Int) <= e.kind := by omega
 have k8 : e.kind < 8 := by omega
 obtain ⟨q,hq9⟩ : ∃ q,q = e.kind.toNat := ⟨_,rfl⟩
 rw [<- hq9] at HT HR0 hR1 hR2 ⊢
 have hkq : e.kind.toNat = q := hq9.symm
 have hq9' : q = e.kind.toNat := hq9
 obtain ⟨R,hR9⟩ : ∃ R,R = row q := ⟨_,rfl⟩
 rw [<- hR9] at HT HR0 hR1 hR2 ⊢
 have T48 := tabV_size
 obtain ⟨T,hT9⟩ : ∃ T,T = tabV := ⟨_,rfl⟩
 rw [<- hT9] at HT T48 ⊢
 unfold evv
 unfold evc at *
 clear hT9 q1 q2 hq9 hq
 obtain ⟨x0,x1,x2,x3,x4,x5,hR5⟩ : ∃ x0 x1 x2 x3 x4 x5 : Value,R = #[x0,x1,x2,x3,x4,x5] := by
  rw [hR9,hq9']
  rcases kinds hk with h | h | h | h | h | h | h <;> rw [h] <;> exact ⟨_,_,_,_,_,_,rfl⟩
 clear hR9 hq9'
 subst hR5
 have HR0 : Hid (x0 = .func (.func (restN e.kind)) #[] #[]) := by unfold Hid; have h9 := HR0.out; simpa [fv] using h9
 have hx0 := HR0.out
 clear HR0
 subst hx0
 obtain ⟨W3,hW3⟩ : ∃ W3,((w.alloc (.cells T 107)).alloc (.cells #[.int .i8 e.kind,.int .i8 e.field,.int .i64 e.card,.int .i64 e.player,.int .i64 e.other,.int .i64 e.fr,.int .i64 e.frAt,.int .i64 e.to_,.int .i64 e.toAt,.int .i32 e.was,.int .i32 e.now,.slice oa e.ord.length oc] 30)).alloc (.cells zR 106) = W3 := ⟨_,rfl⟩
 have hT : W3.heap[w.heap.size]? = some (.cells T 107 (0,0)) := by rw [<- hW3,Below.heap_alloc _ _ _ (by simp; omega)]; exact heap_alloc2_old _ _ _
 have hE : W3.heap[w.heap.size + 1]? = some (.cells #[.int .i8 e.kind,.int .i8 e.field,.int .i64 e.card,.int .i64 e.player,.int .i64 e.other,.int .i64 e.fr,.int .i64 e.frAt,.int .i64 e.to_,.int .i64 e.toAt,.int .i32 e.was,.int .i32 e.now,.slice oa e.ord.length oc] 30 (0,0)) := by rw [<- hW3,Below.heap_alloc _ _ _ (by simp)]; exact heap_alloc2_new _ _ _
 have h2 : W3.heap[w.heap.size + 1 + 1]? = some (.cells zR 106 (0,0)) := by
  rw [<- hW3]
  have := heap_alloc_new ((w.alloc (.cells T 107)).alloc (.cells #[.int .i8 e.kind,.int .i8 e.field,.int .i64 e.card,.int .i64 e.player,.int .i64 e.other,.int .i64 e.fr,.int .i64 e.frAt,.int .i64 e.to_,.int .i64 e.toAt,.int .i32 e.was,.int .i32 e.now,.slice oa e.ord.length oc] 30)) (.cells zR 106)
  simpa using this
 have HU : Up w W3 := by rw [<- hW3]; exact (((Up.refl _).alloc _).alloc _).alloc _
 have hl3 : w.heap.size + 1 + 1 < W3.heap.size := (Array.getElem?_eq_some_iff.1 h2).1
 have e0 : W3.cell? ⟨w.heap.size + 1,0,none⟩ = some (.int .i8 e.kind) := by simp only [World.cell?,hE]; rfl
 have hrg : W3.rangeAt w.heap.size (q * 6) #[.func (.func (restN e.kind)) #[] #[],x1,x2,x3,x4,x5].toList := by
  have h9 := World.rangeAt_of_block hT (q * 6) 6
  rw [HT] at h9
  exact h9
 have hRl : #[.func (.func (restN e.kind)) #[] #[],x1,x2,x3,x4,x5].toList.length = 6 := by rw [Array.length_toList]; exact hR1
 go_enter Tryz.func82,Tryz.ntmps82
 go_wp2_with (first | (refine wpList_world hW3 ?_; clear hW3))
 refine Calls.mono (HK.out _) ?_
 rintro r W4 ⟨rfl,hw4⟩
 subst hw4
 obtain ⟨W5,hW5⟩ : ∃ W5,(W4.alloc (.cells zR 106)).setRow W4.heap.size #[.func (.func (restN e.kind)) #[] #[],x1,x2,x3,x4,x5] = W5 := ⟨_,rfl⟩
 obtain ⟨h5,u5,-⟩ := filled W4 zR #[.func (.func (restN e.kind)) #[] #[],x1,x2,x3,x4,x5] 106
 rw [hW5] at h5 u5
 have hRR : #[.func (.func (restN e.kind)) #[] #[],x1,x2,x3,x4,x5].toList.toArray = #[.func (.func (restN e.kind)) #[] #[],x1,x2,x3,x4,x5] := by simp
 go_wp2_with (first | (refine wpList_load_mid (by rfl) 106 (.tmp 14) (by rfl) w.heap.size (q * 6) (by rfl) #[.func (.func (restN e.kind)) #[] #[],x1,x2,x3,x4,x5].toList _ hrg Tryz.underlying106 (by rfl) (by rw [hRl]; exact infoRule) ?_; (try rw [hRR])) | (refine wpList_store_row rfl 106 (.tmp 6) (.tmp 15) rfl W4.heap.size #[.func (.func (restN e.kind)) #[] #[],x1,x2,x3,x4,x5] rfl rfl 106 zR (heap_alloc_new W4 _) (by rw [hR1]; exact infoRule) (by rw [hR1]; rfl) hR2 ?_; refine wpList_world hW5 ?_))
 have hE := u5.heap hE
 have h2 := u5.heap h2
 have HU := HU.trans u5
 have hl2 : W5.heap.size <= W5.heap.size := Nat.le_refl _
 clear hW5 u5 hrg hRR hRl e0 hT
 have ne : Nonempty (UW W5) := ⟨⟨W5,Up.refl _⟩⟩
 have mk : ∀ {f : Nat} {args : Array Value} {Rv : Value} (U : UW W5),Calls Tryz.prog f args U.W (fun e w'=>e = .returned Rv /\ Up U.W w') -> Calls Tryz.prog f args U.W (fun e w'=>e = .returned Rv /\ ∃ V : UW W5,w' = V.W) := fun U h=>h.mono fun e w' ⟨h1,h2⟩=>⟨h1,⟨w',U.up.trans h2⟩,rfl⟩
 have HQ1 : Hid (∀ U : UW W5,_) := fun U=>mk U (HQ1.out U.W)
 have HQ2 : Hid (∀ U : UW W5,_) := fun U=>mk U (HQ2.out U.W)
 have e0 : ∀ U : UW W5,U.W.cell? ⟨w.heap.size + 1,0,none⟩ = some _ := fun U=>by rw [World.cell?,U.up.heap hE]; rfl
 have e1 : ∀ U : UW W5,U.W.cell? ⟨w.heap.size + 1,1,none⟩ = some _ := fun U=>by rw [World.cell?,U.up.heap hE]; rfl
 have e2 : ∀ U : UW W5,U.W.cell? ⟨w.heap.size + 1,2,none⟩ = some _ := fun U=>by rw [World.cell?,U.up.heap hE]; rfl
 have e3 : ∀ U : UW W5,U.W.cell? ⟨w.heap.size + 1,3,none⟩ = some _ := fun U=>by rw [World.cell?,U.up.heap hE]; rfl
 have e4 : ∀ U : UW W5,U.W.cell? ⟨w.heap.size + 1,4,none⟩ = some _ := fun U=>by rw [World.cell?,U.up.heap hE]; rfl
 have e5 : ∀ U : UW W5,U.W.cell? ⟨w.heap.size + 1,5,none⟩ = some _ := fun U=>by rw [World.cell?,U.up.heap hE]; rfl
 have e6 : ∀ U : UW W5,U.W.cell? ⟨w.heap.size + 1,6,none⟩ = some _ := fun U=>by rw [World.cell?,U.up.heap hE]; rfl
 have e7 : ∀ U : UW W5,U.W.cell? ⟨w.heap.size + 1,7,none⟩ = some _ := fun U=>by rw [World.cell?,U.up.heap hE]; rfl
 have e8 : ∀ U : UW W5,U.W.cell? ⟨w.heap.size + 1,8,none⟩ = some _ := fun U=>by rw [World.cell?,U.up.heap hE]; rfl
 have e9 : ∀ U : UW W5,U.W.cell? ⟨w.heap.size + 1,9,none⟩ = some _ := fun U=>by rw [World.cell?,U.up.heap hE]; rfl
 have e10 : ∀ U : UW W5,U.W.cell? ⟨w.heap.size + 1,10,none⟩ = some _ := fun U=>by rw [World.cell?,U.up.heap hE]; rfl
 have e11 : ∀ U : UW W5,U.W.cell? ⟨w.heap.size + 1,11,none⟩ = some _ := fun U=>by rw [World.cell?,U.up.heap hE]; rfl
 have r0 : ∀ U : UW W5,U.W.cell? ⟨W4.heap.size,0,none⟩ = some _ := fun U=>by rw [World.cell?,U.up.heap h5]; rfl
 have r1 : ∀ U : UW W5,U.W.cell? ⟨W4.heap.size,1,none⟩ = some _ := fun U=>by rw [World.cell?,U.up.heap h5]; rfl
 have r2 : ∀ U : UW W5,U.W.cell? ⟨W4.heap.size,2,none⟩ = some _ := fun U=>by rw [World.cell?,U.up.heap h5]; rfl
 have r3 : ∀ U : UW W5,U.W.cell? ⟨W4.heap.size,3,none⟩ = some _ := fun U=>by rw [World.cell?,U.up.heap h5]; rfl
 have r4 : ∀ U : UW W5,U.W.cell? ⟨W4.heap.size,4,none⟩ = some _ := fun U=>by rw [World.cell?,U.up.heap h5]; rfl
 have r5 : ∀ U : UW W5,U.W.cell? ⟨W4.heap.size,5,none⟩ = some _ := fun U=>by rw [World.cell?,U.up.heap h5]; rfl
 have HZ2 : Hid _ := h2
 have HU5 : Hid _ := HU
 clear mk hE h5 h2 HU
 simp only [Act.put]
 refine TailR.wp_region_seqC 6 (fun w'=>∃ U : UW W5,w' = U.W) ⟨⟨_,(Up.refl _).drewN 1⟩,rfl⟩ (by kernel_rfl) (by kernel_rfl) ?_
 simp only [List.take_succ_cons,List.take_zero,List.drop_succ_cons,List.drop_zero]
 repeat (go_big_quiet_step (first | with_reducible exact HQ1.out _ | with_reducible exact HQ2.out _))
 refine wpQuiet_nil ?_
 intro _ hw'
 obtain ⟨U,hw''⟩ := hw'
 subst hw''
 have h2 := U.up.heap HZ2.out
 have HUU : Hid (Up w U.W) := Up.trans HU5.out U.up
 clear e0 e1 e2 e3 e4 e5 e6 e7 e8 e9 e10 e11 r0 r1 r2 r3 r4 r5 HQ1 HQ2 HZ2 HU5
 generalize U.W = V at *
 go_wp2_with (first | (refine wpList_store_row rfl 106 (.tmp 4) (.tmp 16) rfl (w.heap.size + 1 + 1) #[.func (.func (restN e.kind)) #[] #[],x1,x2,x3,x4,x5] rfl rfl 106 zR h2 infoRule rfl hR2 ?_))
 have h3 := setRow_heap _ _ _ _ _ #[.func (.func (restN e.kind)) #[] #[],x1,x2,x3,x4,x5] h2
 refine bodyPost_ret (v := .tuple #[.agg #[.func (.func (restN e.kind)) #[] #[],x1,x2,x3,x4,x5],.bool (restB e)]) (results_c1 rfl _ _ (w.heap.size + 1 + 1) 106 #[.func (.func (restN e.kind)) #[] #[],x1,x2,x3,x4,x5] (0,0) _ (.bool (restB e)) rfl rfl h3 Tryz.underlying106 rfl infoRule) rfl ?_
 exact ⟨rfl,up_setRow HUU.out (by omega) _⟩
theorem ruleAny_ (e : Ev) (oa : Option Addr) (oc : Nat) (w : World) : Calls Tryz.prog 82 #[.agg tabV,evv e (.slice oa e.ord.length oc)] w fun x w'=>x = .returned (.tuple #[.agg (rowOf e),.bool (okB e)]) /\ Up w w' := by
 unfold rowOf okB
 by_cases hk : kindB e.kind = true
 ·rw [if_pos hk,hk]
  simpa using rule_ e oa oc w hk
 ·have hk' : kindB e.kind = false := by simpa using hk
  rw [if_neg hk,hk']
  simpa using ruleOf_none e oa e.ord.length oc w hk'
end DE
end Go.Proofs.YtodhjjeagmjhdaaGreatDoor
