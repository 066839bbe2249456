/- Rbo6, Rg, Tl, Tm -/
import Derived.Test.YtodhjjeagmjhdaaGreatDoorRbh6VR
namespace Go.Proofs.YtodhjjeagmjhdaaGreatDoor
open Go.RowKit
namespace DE
open Go.Proofs.YtodhjjeagmjhdaaGreatDoor.ST
theorem cut_lenD (l : List Int) (p : Nat) (hp : p < l.length) : (cutL l p).length = l.length - 1 := by
 unfold cutL
 rw [List.length_append,List.length_take,List.length_drop]
 omega
theorem cut_zone {s : Stt} {i p j : Nat} (hi : i < s.zs.length) (hp : p < (zn s (i : Int)).length) : ((zn (cutS s (i : Int) (p : Int)) (j : Int)).length : Int) = others s (j : Int) (i : Int) := by
 unfold cutS others zn at *
 simp only [Int.toNat_natCast] at *
 by_cases e : j = i
 ·subst e
  rw [if_pos rfl,List.getD_eq_getElem?_getD,List.getElem?_set_self hi]
  have := cut_lenD _ p hp
  show ((cutL (s.zs.getD j []) p).length : Int) = _
  rw [this]
  omega
 ·rw [if_neg (by omega),List.getD_eq_getElem?_getD,List.getElem?_set_ne (fun h=>e h.symm),<- List.getD_eq_getElem?_getD]
theorem mv_okD (s : Stt) (e : Ev) (hw : e.was = e.now) : mvO s e.card e.fr e.frAt e.to_ e.toAt = if moveFitsB s e = true then some { s with zs := moveZ s.zs e.fr.toNat e.frAt.toNat e.to_.toNat e.toAt.toNat e.card } else none := by
 unfold mvO
 by_cases hc : mvC s e.card e.fr e.frAt e.to_ e.toAt = true
 ·rw [if_pos hc]
  have hc' := hc
  unfold mvC standB at hc'
  simp only [Bool.and_eq_true,Bool.not_eq_true',Bool.and_eq_false_iff,decide_eq_true_eq,decide_eq_false_iff_not] at hc'
  obtain ⟨c1,⟨c2,c3,c4⟩,c5,c6⟩ := hc'
  obtain ⟨i,hi0,hi⟩ := num_nat c2
  obtain ⟨p,hp0,hp⟩ := num_nat c3
  obtain ⟨j,hj0,hj⟩ := num_nat c5
  have hz : ((zn (cutS s e.fr e.frAt) e.to_).length : Int) = others s e.to_ e.fr := by
   rw [hi0,hp0,hj0]
   rw [hi0] at hp
   exact cut_zone hi hp
  have hn : noneB e = false := by
   unfold noneB
   rcases c6 with h | h <;> simp [h]
  have hf : moveFitsB s e = (decide (0 <= e.toAt) && decide (e.toAt <= others s e.to_ e.fr)) := by
   unfold moveFitsB
   rw [c1,c2,c5,hn,c3,decide_eq_true c4]
   simp
  rw [hf,hz]
  by_cases q1 : 0 <= e.toAt
  ·by_cases q2 : e.toAt <= others s e.to_ e.fr
   ·rw [if_pos ⟨q1,q2⟩,decide_eq_true q1,decide_eq_true q2,if_pos (by rfl)]
   ·rw [if_neg (fun h=>q2 h.2),decide_eq_false q2,Bool.and_false,if_neg (by simp)]
  ·rw [if_neg (fun h=>q1 h.1),decide_eq_false q1,Bool.false_and,if_neg (by simp)]
 ·rw [if_neg hc,if_neg]
  intro hf
  apply hc
  unfold moveFitsB at hf
  simp only [Bool.and_eq_true,Bool.not_eq_true',decide_eq_true_eq] at hf
  obtain ⟨f1,f2,f3,f4,f5,f6,-⟩ := hf
  unfold mvC standB
  rw [f1,f2,f3,f5,decide_eq_true f6]
  unfold noneB at f4
  rw [decide_eq_true hw,Bool.and_true] at f4
  rw [f4]
  rfl
theorem stat_okD (x was now : Int) (e : Ev) (h1 : e.was = was) (h2 : e.now = now) (hn : noneB e = decide (was = now)) : statFitsB x e = decide (x = was /\ now ≠ was /\ -1000000000 <= now /\ now <= 1000000000) := by
 unfold statFitsB statB
 rw [h1,h2,hn]
 by_cases a : x = was <;> by_cases b : was = now <;> by_cases c : -1000000000 <= now <;> by_cases d : now <= 1000000000 <;> simp [a,b,c,d] <;> omega
theorem card_okD (s : Stt) (e : Ev) (hn : noneB e = decide (e.was = e.now)) : (if 4 < e.field then none else chgO s e.field e.card e.was e.now) = if cardFitsB s e = true then some { s with cs := s.cs.set e.card.toNat (cSet (s.cs.getD e.card.toNat dc) e.field e.now) } else none := by
 unfold cardFitsB chgO fldO setD
 by_cases h4 : 4 < e.field
 ·rw [if_pos h4]
  have : cGet (s.cs.getD e.card.toNat dc) e.field = none := by unfold cGet; rw [if_neg (by omega),if_neg (by omega),if_neg (by omega),if_neg (by omega)]
  rw [this]
  simp
 ·rw [if_neg h4]
  by_cases h1 : 1 <= e.field
  ·rw [if_pos ⟨h1,by omega⟩]
   cases hb : numB e.card s.cs.length with
   | false=>simp
   | true =>
    rw [if_pos rfl]
    cases hg : cGet (s.cs.getD e.card.toNat dc) e.field with
    | none=>simp
    | some x =>
     dsimp only
     simp only [stat_okD x e.was e.now e rfl rfl hn,Bool.true_and,decide_eq_true_eq,if_pos (show e.field <= 4 by omega)]
  ·rw [if_neg (fun h=>h1 h.1),if_neg (by omega)]
   have : cGet (s.cs.getD e.card.toNat dc) e.field = none := by unfold cGet; rw [if_neg (by omega),if_neg (by omega),if_neg (by omega),if_neg (by omega)]
   rw [this]
   simp
theorem player_okD (s : Stt) (e : Ev) (hn : noneB e = decide (e.was = e.now)) : (if e.field < 5 then none else chgO s e.field e.player e.was e.now) = if playerFitsB s e = true then some { s with ps := s.ps.set e.player.toNat (pSet (s.ps.getD e.player.toNat dp) e.field e.now) } else none := by
 unfold playerFitsB chgO fldO setD
 by_cases h4 : e.field < 5
 ·rw [if_pos h4]
  have : pGet (s.ps.getD e.player.toNat dp) e.field = none := by unfold pGet; rw [if_neg (by omega),if_neg (by omega)]
  rw [this]
  simp
 ·rw [if_neg h4,if_neg (fun h=>by omega)]
  by_cases h1 : e.field = 5 ∨ e.field = 6
  ·rw [if_pos h1]
   cases hb : numB e.player s.ps.length with
   | false=>simp
   | true =>
    rw [if_pos rfl]
    cases hg : pGet (s.ps.getD e.player.toNat dp) e.field with
    | none=>simp
    | some x =>
     dsimp only
     simp only [stat_okD x e.was e.now e rfl rfl hn,Bool.true_and,decide_eq_true_eq,if_neg (show ¬ e.field <= 4 by omega)]
  ·rw [if_neg h1]
   have : pGet (s.ps.getD e.player.toNat dp) e.field = none := by unfold pGet; rw [if_neg (fun h=>h1 (.inl h)),if_neg (fun h=>h1 (.inr h))]
   rw [this]
   simp
theorem rest_moveD {e : Ev} (h : nothingB (moveR e) = true) : e.was = e.now := by
 unfold nothingB moveR at h
 simp at h
 omega
theorem rest_cardD {e : Ev} (h : nothingB (cardR e) = true) : noneB e = decide (e.was = e.now) := by
 unfold nothingB cardR at h
 simp at h
 unfold noneB
 have h1 : e.fr = e.to_ := by omega
 have h2 : e.frAt = e.toAt := by omega
 simp [h1,h2]
theorem rest_playerD {e : Ev} (h : nothingB (playerR e) = true) : noneB e = decide (e.was = e.now) := by
 unfold nothingB playerR at h
 simp at h
 unfold noneB
 have h1 : e.fr = e.to_ := by omega
 have h2 : e.frAt = e.toAt := by omega
 simp [h1,h2]
theorem beh_ok (s : Stt) (e : Ev) : behD s e = if (okB e && fitB s e) = true then some (behindS s e) else none := by
 unfold okB
 cases hk : kindB e.kind with
 | false =>
  have hk' : ¬ (1 <= e.kind /\ e.kind <= 7) := by
   unfold kindB at hk
   simp at hk
   omega
  unfold behD
  simp only [Bool.false_and,Bool.false_eq_true,if_false]
  split
  ·rw [if_neg (by omega),if_neg (by omega),if_neg (by omega),if_neg (by omega),if_neg (by omega),if_neg (by omega),if_neg (by omega)]
  ·rfl
 | true =>
  have hp := plain_ok hk
  unfold behD
  rw [hp,Bool.true_and]
  cases hr : restB e with
  | false=>simp
  | true =>
   rw [if_pos rfl,Bool.true_and]
   unfold restB at hr
   unfold fitB behindS
   rcases kinds hk with h | h | h | h | h | h | h
   ·simp only [h,if_true] at hr ⊢
    exact mv_okD s e (rest_moveD (by rw [Bool.and_eq_true] at hr; exact hr.1))
   ·simp [h] at hr ⊢
    exact card_okD s e (rest_cardD hr.1)
   ·simp [h] at hr ⊢
    exact player_okD s e (rest_playerD hr.1)
   ·simp [h]
    unfold shO shC shS shuffleFitsB
    simp
   ·simp [h]
   ·simp [h]
   ·simp [h]
end DE
end Go.Proofs.YtodhjjeagmjhdaaGreatDoor
namespace Go.Proofs.YtodhjjeagmjhdaaGreatDoor
open Go.RowKit
attribute [local go_sem ↓] Go.wp_at_zero Go.wp_at_succ
namespace ST
def bvs (l : List Bool) : List Value := l.map (fun b=>.bool b)
theorem bvs_get (l : List Bool) (i : Nat) (hi : i < l.length) : (bvs l)[i]? = some (.bool (l.getD i false)) := by
 simp [bvs,List.getD_eq_getElem?_getD,List.getElem?_eq_getElem hi]
def BL (W : World) (v : Value) (l : List Bool) : Prop := LC W v 1 l.length (bvs l)
def ThingsOk (s : Stt) : Prop := ∀ v w,StL w v s -> Calls Tryz.prog 176 #[v] w fun e w'=>∃ x l,e = .returned x /\ BL w' x l /\ l.findIdx? (fun b=>!b) = ff s /\ l.length <= 4294967296 /\ Up w w'
set_option maxRecDepth 100000 in
set_option maxHeartbeats 4000000 in
theorem rcheck_ (v : Value) (s : Stt) (w : World) (hs : StL w v s) (ht : ThingsOk s) :
  Calls Tryz.prog 98 #[v] w fun e w'=>e = .returned (ckV (ff s)) /\ Up w w' := by
 obtain ⟨Post,hPost⟩ : ∃ P : Ending -> World -> Prop,P = fun e w'=>e = .returned (ckV (ff s)) /\ Up w w' := ⟨_,rfl⟩
 rw [<- hPost]
 have HP : Hid (Post = fun e w'=>e = .returned (ckV (ff s)) /\ Up w w') := hPost
 have hc := ht v _ (hs.up ((Up.refl w).alloc (.cells v.cells 27)))
 obtain ⟨vp,vc,vz,rfl,-,-,-⟩ := hs
 unfold sv at hc ⊢
 have HC : Hid _ := hc
 clear hc ht hPost
 go_enter Tryz.func98,Tryz.ntmps98
 go_wp2_with fail
 refine Calls.mono HC.out ?_
 rintro e w1 ⟨x,l,rfl,hx,hf,hn,u1⟩
 have HU : Hid (Up w w1) := ((Up.refl w).alloc _).trans u1
 obtain ⟨a1,k1,rfl,-,h1⟩ := lc_at hx
 have H1 : Hid (∀ i,i < l.length -> ∃ b o,a1 = some ⟨b,o,none⟩ /\ w1.cell? ⟨b,o + i,none⟩ = some (.bool (l.getD i false))) := fun i hi=>by
  obtain ⟨b,o,ha,-,hcell⟩ := h1 (by omega)
  exact ⟨b,o,ha,by rw [hcell w1 (Up.refl _) i (by omega)]; exact bvs_get l i hi⟩
 have HF : Hid (l.findIdx? (fun b=>!b) = ff s) := hf
 obtain ⟨n,hn0⟩ : ∃ n,n = l.length := ⟨_,rfl⟩
 have HN : Hid (n = l.length) := hn0
 rw [<- hn0] at hn H1 ⊢
 clear HC hx h1 hf u1 hn0
 go_wp2_with fail
 go_loopw [2,3,5] (fun s2 s3 s5 W=>∃ i : Nat,i <= n /\ s2 = .int .i64 0 /\ s3 = .int .i64 0 /\ s5 = .int .i64 i /\ W = w1 /\ ∀ j,j < i -> l.getD j false = true) (fun _ _ s5 _=>n - (intOf s5).toNat)
 case atStart=>exact ⟨0,Nat.zero_le _,rfl,rfl,rfl,rfl,fun j hj=>by omega⟩
 case round =>
  obtain ⟨i,hi,rfl,rfl,rfl,rfl,hj⟩ := hrel
  have HJ : Hid (∀ j,j < i -> l.getD j false = true) := hj
  clear hj
  by_cases hlt : i < n
  ·have hlt2 : (i : Int) < (n : Int) := by omega
   obtain ⟨b,o,rfl,x1⟩ := H1.out i hlt
   have HY : Hid ((l.getD i false = true -> ∀ j,j < i + 1 -> l.getD j false = true) /\ (l.getD i false = false -> ff s = some i)) := ⟨fun e j hj=>by
    by_cases ej : j = i
    ·subst ej; exact e
    ·exact HJ.out j (by omega),fun e=>by rw [<- HF.out]; exact findIdx_at l (fun b=>b) false i (by rw [<- HN.out]; exact hlt) HJ.out e⟩
   clear HJ
   generalize l.getD i false = y at x1 HY
   cases y
   ·have HR : Hid (ff s = some i) := HY.out.2 rfl
    clear HY
    go_wp2
    rw [HP.out,HR.out]
    exact ⟨rfl,HU.out⟩
   ·have HR : Hid _ := HY.out.1 rfl
    clear HY
    go_wp2_with fail
    go_roundw
    case rel=>exact ⟨i + 1,by omega,rfl,rfl,by go_num,by first | rfl | trivial,HR.out⟩
    case measure=>simp [intOf]; omega
  ·have hlt2 : ¬ (i : Int) < (n : Int) := by omega
   have HR : Hid (ff s = none) := by unfold Hid; rw [<- HF.out]; exact findIdx_no l (fun b=>b) false (fun j hj=>HJ.out j (by have := HN.out; omega))
   clear HJ
   go_wp2
   rw [HP.out,HR.out]
   exact ⟨rfl,HU.out⟩
end ST
end Go.Proofs.YtodhjjeagmjhdaaGreatDoor
namespace Go.Proofs.YtodhjjeagmjhdaaGreatDoor
namespace ST
def thA (s : Stt) : List Bool := true :: (s.ps.map plyB ++ s.cs.map (crdB s.ps.length))
def thT (s : Stt) (k : Nat) : List Bool := if k < (flat s).length then [false] else [decide (s.cs.length <= k),decide (1 <= s.turn),numB s.whose s.ps.length,finB s,winB s]
def thL (s : Stt) : List Bool := if sizesB s = false then [false] else thA s ++ (List.replicate (good s.cs.length (flat s)) true ++ thT s (good s.cs.length (flat s)))
theorem rep_none (k : Nat) : (List.replicate k true).findIdx? (fun b=>!b) = none := by
 rw [List.findIdx?_eq_none_iff]
 intro x hx
 rw [List.eq_of_mem_replicate hx]; rfl
theorem thL_ff (s : Stt) : (thL s).findIdx? (fun b=>!b) = ff s := by
 have hgl := good_le s.cs.length (flat s)
 have hgs := good_small s.cs.length (flat s) (good s.cs.length (flat s)) hgl (fun i hi=>good_ok _ _ i hi)
 unfold thL ff
 cases hs : sizesB s
 ·simp
 ·rw [if_neg (by simp),if_neg (by simp)]
  generalize good s.cs.length (flat s) = k at *
  unfold thA
  rw [List.findIdx?_append,List.findIdx?_cons,List.findIdx?_append,List.findIdx?_map,List.findIdx?_map,List.findIdx?_append,rep_none]
  simp only [Function.comp_def]
  cases h1 : s.ps.findIdx? (fun p=>!plyB p) with
  | some i=>simp; omega
  | none =>
   cases h2 : s.cs.findIdx? (fun c=>!crdB s.ps.length c) with
   | some i=>simp; omega
   | none =>
    unfold thT
    by_cases h3 : k < (flat s).length
    ·simp [h3]; omega
    ·by_cases h4 : k < s.cs.length
     ·have : ¬ s.cs.length <= k := by omega
      simp [h3,h4,this,List.findIdx?_cons]; omega
     ·have e4 : s.cs.length <= k := by omega
      have hk : k = s.cs.length := by omega
      by_cases h5 : 1 <= s.turn
      ·cases h6 : numB s.whose s.ps.length
       ·simp [h3,h4,e4,h5,List.findIdx?_cons]; omega
       ·cases h7 : finB s
        ·simp [h3,h4,e4,h5,List.findIdx?_cons]; omega
        ·cases h8 : winB s
         ·simp [h3,h4,e4,h5,List.findIdx?_cons]; omega
         ·simp [h3,h4,e4,h5,List.findIdx?_cons]
      ·simp [h3,h4,e4,h5,List.findIdx?_cons]; omega
theorem thL_len (s : Stt) : (thL s).length <= 1 + 4 + 256 + 256 + 5 := by
 have hgl := good_le s.cs.length (flat s)
 have hgs := good_small s.cs.length (flat s) (good s.cs.length (flat s)) hgl (fun i hi=>good_ok _ _ i hi)
 unfold thL
 cases hs : sizesB s
 ·simp
 ·rw [if_neg (by simp)]
  simp only [sizesB,npB,ncB,Bool.and_eq_true,decide_eq_true_eq] at hs
  have : (thT s (good s.cs.length (flat s))).length <= 5 := by unfold thT; split <;> simp
  simp only [thA,List.length_append,List.length_cons,List.length_map,List.length_replicate]
  omega
end ST
end Go.Proofs.YtodhjjeagmjhdaaGreatDoor
namespace Go.Proofs.YtodhjjeagmjhdaaGreatDoor
open Go.RowKit
attribute [local go_sem ↓] Go.wp_at_zero Go.wp_at_succ
theorem big_apart {W : World} {base e q g : Nat} {v : Value} {xs : List Value} {cs : Array Value} {t : TypeId} (h : W.ownsRow base e 1 v q xs) (hg : W.heap[g]? = some (.cells cs t (0,0))) (hq : cs.size < q) : v.ownBlock ≠ some g := by
 rcases h.2 with ⟨-,h0⟩ | ⟨g',cap,cur,rfl,_,h1,h2,_,h3,_⟩
 ·omega
 ·intro eq
  have eq' : g' = g := by simpa [Value.ownBlock] using eq
  subst eq'
  rw [h1] at hg
  cases hg
  omega
theorem type_apart {W : World} {base e q g : Nat} {v : Value} {xs : List Value} {cs : Array Value} {t : TypeId} (h : W.ownsRow base e 1 v q xs) (hg : W.heap[g]? = some (.cells cs t (0,0))) (ht : e ≠ t) : v.ownBlock ≠ some g := by
 rcases h.2 with ⟨rfl,h0⟩ | ⟨g',cap,cur,rfl,_,h1,_⟩
 ·simp [Value.ownBlock]
 ·intro eq
  have eq' : g' = g := by simpa [Value.ownBlock] using eq
  subst eq'
  rw [h1] at hg
  cases hg
  exact ht rfl
namespace ST
theorem infoB : (Tryz.prog.info? 4).map (fun i=>(i.zero,i.size,i.bytes)) = some (some (.bool false),1,1) := by kernel_rfl
theorem bvs_app (a b : List Bool) : bvs (a ++ b) = bvs a ++ bvs b := by simp [bvs]
theorem bvs_one (l : List Bool) : ∀ u ∈ bvs l,u.oneCell' = true := by
 intro u hu
 simp only [bvs,List.mem_map] at hu
 obtain ⟨z,_,rfl⟩ := hu
 rfl
def TI (w W : World) (box : Array Value) (v : Value) (q : Nat) (l : List Bool) : Prop := W.heap[w.heap.size]? = some (.cells box 27 (0,0)) /\ W.ownsRow (w.heap.size + 1) 4 1 v q (bvs l) /\ Up w W /\ w.heap.size + 1 <= W.heap.size /\ q = l.length
theorem TI.up {w W W' : World} {box : Array Value} {v : Value} {q : Nat} {l : List Bool} (h : TI w W box v q l) (u : Up W W') : TI w W' box v q l :=
 ⟨u.heap h.1,row_up h.2.1 u,h.2.2.1.trans u,Nat.le_trans h.2.2.2.1 u.size,h.2.2.2.2⟩
theorem TI.more {w W w' : World} {box : Array Value} {v v' : Value} {q n : Nat} {l bs : List Bool} (h : TI w W box v q l) (hin : w'.ownsRow (w.heap.size + 1) 4 1 v' (q + n) (bvs l ++ bvs bs)) (hg : W.grownBy w' v.ownBlock) (hn : n = bs.length) : TI w w' box v' (q + n) (l ++ bs) := by
 obtain ⟨h1,h2,h3,h4,h5⟩ := h
 refine ⟨?_,by rw [bvs_app]; exact hin,?_,Nat.le_trans h4 hg.size,by rw [List.length_append,h5,hn]⟩
 ·rw [hg.block _ (by omega) (fun e=>type_apart h2 h1 (by decide) e.symm)]; exact h1
 ·refine Below.grown h3 hg h3.size ?_
  intro k hk
  have := (World.ownsRow.lt h2 k hk).1
  omega
def seenM (m : Nat) (l : List Int) (k : Nat) : Array Value := ((List.range m).map fun j : Nat=>Value.bool (decide ((j : Int) ∈ l.take k))).toArray
theorem seenM_zero (m : Nat) (l : List Int) : (List.replicate m (Value.bool false)).toArray = seenM m l 0 := by
 apply Array.ext
 ·simp [seenM]
 ·intro i h1 h2
  simp [seenM]
theorem seenM_cell {W : World} {g m : Nat} {l : List Int} {k : Nat} {t : TypeId} (h : W.heap[g]? = some (.cells (seenM m l k) t (0,0))) (e : Nat) (he : e < m) : W.cell? ⟨g,e,none⟩ = some (.bool (decide ((e : Int) ∈ l.take k))) /\ W.frozen? ⟨g,e,none⟩ = false := by
 refine ⟨?_,by simp [World.frozen?,h]⟩
 simp only [World.cell?,h]
 simp [seenM,he]
theorem seenM_set (m : Nat) (l : List Int) (k e : Nat) (he : l[k]? = some (e : Int)) : (seenM m l k).setIfInBounds e (.bool true) = seenM m l (k + 1) := by
 apply Array.ext
 ·simp [seenM]
 ·intro i h1 h2
  simp only [seenM,List.setIfInBounds_toArray,List.getElem_toArray,List.getElem_set,List.getElem_map,List.getElem_range]
  have ht : l.take (k + 1) = l.take k ++ [(e : Int)] := by rw [List.take_add_one,he]; rfl
  rw [ht]
  by_cases c : e = i
  ·subst c; simp
  ·rw [if_neg c]
   have : ¬ (i : Int) = (e : Int) := by omega
   simp [this]
theorem seenM_put {W : World} {g m : Nat} {l : List Int} {k : Nat} {t : TypeId} (h : W.heap[g]? = some (.cells (seenM m l k) t (0,0))) (e : Nat) (he : l[k]? = some (e : Int)) : (W.setCell ⟨g,e,none⟩ (.bool true)).heap[g]? = some (.cells (seenM m l (k + 1)) t (0,0)) := by
 rw [<- seenM_set m l k e he]
 simp only [World.setCell,Array.getElem?_modify]
 rw [h]
 simp
def EL (W : World) (la : Option Addr) (l : List Int) : Prop := l.length ≠ 0 -> ∃ gl cur,la = some ⟨gl,0,none⟩ /\ W.heap[gl]? = some (.cells cur 3 (0,0)) /\ ∀ i,i < l.length -> cur[i]? = some (.int .i64 (l.getD i 0))
theorem EL.keep {W W' : World} {la : Option Addr} {l : List Int} (h : EL W la l) (k : ∀ (g : Nat) (cs : Array Value),W.heap[g]? = some (.cells cs 3 (0,0)) -> W'.heap[g]? = some (.cells cs 3 (0,0))) : EL W' la l := fun hn=>by
 obtain ⟨gl,cur,e,h1,h2⟩ := h hn
 exact ⟨gl,cur,e,k _ _ h1,h2⟩
theorem el_of {W : World} {base : Nat} {la : Option Addr} {lk : Nat} {l : List Int} (h : IRow base W (.slice la l.length lk) l) : EL W la l := fun hn=>by
 rcases h.2 with ⟨-,h0⟩ | ⟨g',cap,cur,e,_,h1,h2,_,h3,h4⟩
 ·omega
 ·simp only [Value.slice.injEq] at e
  obtain ⟨rfl,-,rfl⟩ := e
  refine ⟨g',cur,rfl,h1,fun i hi=>?_⟩
  have := ivs_get l i hi
  rw [<- h4,Nat.mul_one,List.getElem?_take_of_lt (by omega)] at this
  simpa using this
theorem EL.at {W : World} {la : Option Addr} {l : List Int} (h : EL W la l) (i : Nat) (hi : i < l.length) : ∃ gl,la = some ⟨gl,0,none⟩ /\ W.cell? ⟨gl,i,none⟩ = some (.int .i64 (l.getD i 0)) := by
 obtain ⟨gl,cur,e,h1,h2⟩ := h (by omega)
 exact ⟨gl,e,by simp [World.cell?,h1,h2 i hi]⟩
def T3 (w W : World) (box : Array Value) (v : Value) (q : Nat) (A : List Bool) (g m : Nat) (la : Option Addr) (l : List Int) (k : Nat) (bs : List Bool) : Prop := TI w W box v q (A ++ (List.replicate k true ++ bs)) /\ W.heap[g]? = some (.cells (seenM m l k) 4 (0,0)) /\ EL W la l /\ (∀ j,j < k -> okAt m l j = true) /\ m < A.length /\ w.heap.size + 1 <= g
theorem T3.up {w W W' : World} {box : Array Value} {v : Value} {q : Nat} {A : List Bool} {g m : Nat} {la : Option Addr} {l : List Int} {k : Nat} {bs : List Bool} (h : T3 w W box v q A g m la l k bs) (u : Up W W') : T3 w W' box v q A g m la l k bs :=
 ⟨h.1.up u,u.heap h.2.1,h.2.2.1.keep (fun _ _ h=>u.heap h),h.2.2.2⟩
theorem T3.more {w W w' : World} {box : Array Value} {v v' : Value} {q n : Nat} {A : List Bool} {g m : Nat} {la : Option Addr} {l : List Int} {k : Nat} {bs bs' : List Bool} (h : T3 w W box v q A g m la l k bs) (hin : w'.ownsRow (w.heap.size + 1) 4 1 v' (q + n) (bvs (A ++ (List.replicate k true ++ bs)) ++ bvs bs')) (hg : W.grownBy w' v.ownBlock) (hn : n = bs'.length) : T3 w w' box v' (q + n) A g m la l k (bs ++ bs') := by
 obtain ⟨h1,h2,h3,h4,h5,h6⟩ := h
 have hq : m < q := by rw [h1.2.2.2.2,List.length_append]; omega
 refine ⟨?_,?_,h3.keep (fun g' cs h=>?_),h4,h5,h6⟩
 ·have := h1.more hin hg hn
  simpa only [List.append_assoc] using this
 ·rw [hg.block _ (Array.getElem?_eq_some_iff.1 h2).1 (fun e=>big_apart h1.2.1 h2 (by simpa [seenM] using hq) e.symm)]; exact h2
 ·rw [hg.block _ (Array.getElem?_eq_some_iff.1 h).1 (fun e=>type_apart h1.2.1 h (by decide) e.symm)]; exact h
theorem T3.set {w W : World} {box : Array Value} {v : Value} {q : Nat} {A : List Bool} {g m : Nat} {la : Option Addr} {l : List Int} {k e : Nat} (h : T3 w W box v q A g m la l k [true]) (he : l[k]? = some (e : Int)) (ho : okAt m l k = true) : T3 w (W.setCell ⟨g,e,none⟩ (.bool true)) box v q A g m la l (k + 1) [] := by
 obtain ⟨h1,h2,h3,h4,h5,h6⟩ := h
 have hq : m < q := by rw [h1.2.2.2.2,List.length_append]; omega
 have hr : List.replicate k true ++ [true] = List.replicate (k + 1) true := by rw [List.replicate_succ']
 obtain ⟨i1,i2,i3,i4,i5⟩ := h1
 refine ⟨⟨?_,?_,Up.set i3 _ _ (by show w.heap.size <= g; omega),by simpa using i4,by rw [List.append_nil,<- hr]; exact i5⟩,seenM_put h2 e he,h3.keep (fun g' cs h=>?_),fun j hj=>?_,h5,h6⟩
 ·rw [Below.heap_setCell _ _ _ _ (by show w.heap.size ≠ g; omega)]; exact i1
 ·rw [List.append_nil,<- hr]
  refine ⟨i2.1,?_⟩
  have hb := big_apart i2 h2 (by simpa [seenM] using hq)
  rcases i2.2 with h | ⟨g',cap,cur,e1,e2,e3,e4⟩
  ·exact .inl h
  ·refine .inr ⟨g',cap,cur,e1,e2,?_,e4⟩
   rw [Below.heap_setCell _ _ _ _ (by
    show g' ≠ g
    intro eq
    rw [e1] at hb
    exact hb (by simp [Value.ownBlock,eq]))]
   exact e3
 ·rw [Below.heap_setCell _ _ _ _ (by
   show g' ≠ g
   intro eq
   subst eq
   rw [h2] at h
   cases h)]
  exact h
 ·by_cases ej : j = k
  ·subst ej; exact ho
  ·exact h4 j (by omega)
theorem all_iff (m : Nat) (l : List Int) (h : Ent m l) : (List.range m).all (fun j : Nat=>decide ((j : Int) ∈ l)) = decide (m <= l.length) := by
 by_cases c : m <= l.length
 ·rw [decide_eq_true c,List.all_eq_true]
  intro j hj
  have := ent_le h
  rw [List.mem_range] at hj
  exact decide_eq_true (ent_all h (by omega) (j : Int) (by simp [numB]; omega))
 ·rw [decide_eq_false c,Bool.eq_false_iff]
  intro ha
  rw [List.all_eq_true] at ha
  have := sub_len (nums m) l (by
   unfold nums
   unfold List.Nodup
   rw [List.pairwise_map]
   exact List.Pairwise.imp (fun {a b} (h : a ≠ b)=>by omega) (List.nodup_range (n := m))) (fun x hx=>by
   simp only [nums,List.mem_map,List.mem_range] at hx
   obtain ⟨i,hi,rfl⟩ := hx
   simpa using ha i (List.mem_range.2 hi))
  simp [nums] at this
  omega
end ST
end Go.Proofs.YtodhjjeagmjhdaaGreatDoor
