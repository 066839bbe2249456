/- Iv6, Ix6, Dm6 -/
import Derived.Test.YtodhjjeagmjhdaaGreatDoorDcTvSh6X
namespace Go.Proofs.YtodhjjeagmjhdaaGreatDoor
open Go.RowKit Go.Sort
namespace DE
open Go.Proofs.YtodhjjeagmjhdaaGreatDoor.ST
def OnlyB (g : Option Nat) (w w' : World) : Prop := ∀ k,k < w.heap.size -> g ≠ some k -> w'.heap[k]? = w.heap[k]?
def putAt : List Value -> Nat -> List Value -> List Value
 | cur,_,[]=>cur
 | cur,o,v :: r=>putAt (cur.set o v) (o + 1) r
theorem putAt_len : ∀ (vs cur : List Value) (o : Nat),(putAt cur o vs).length = cur.length
 | [],_,_=>rfl
 | v :: r,cur,o=>by rw [putAt,putAt_len r,List.length_set]
theorem putAt_get : ∀ (vs cur : List Value) (o p : Nat),p < cur.length -> (putAt cur o vs)[p]? = if o <= p /\ p < o + vs.length then vs[p - o]? else cur[p]?
 | [],cur,o,p,h=>by rw [putAt,if_neg (by simp)]
 | v :: r,cur,o,p,h=>by
  rw [putAt,putAt_get r _ _ _ (by rw [List.length_set]; exact h)]
  by_cases h1 : o + 1 <= p /\ p < o + 1 + r.length
  ·rw [if_pos h1,if_pos (by simp; omega),show p - o = (p - (o + 1)) + 1 by omega,List.getElem?_cons_succ]
  ·rw [if_neg h1]
   by_cases e : p = o
   ·subst e
    rw [List.getElem?_set_self h,if_pos (by simp),Nat.sub_self,List.getElem?_cons_zero]
   ·rw [List.getElem?_set_ne (fun x=>e x.symm),if_neg (by simp; omega)]
theorem sets_heap (g : Nat) (t : TypeId) : ∀ (vs : List Value) (o : Nat) (W : World) (cur : List Value),W.heap[g]? = some (.cells cur.toArray t (0,0)) -> (W.setCells g o vs).heap[g]? = some (.cells (putAt cur o vs).toArray t (0,0))
 | [],_,_,_,h=>h
 | v :: r,o,W,cur,h=>by
  rw [World.setCells,putAt]
  refine sets_heap g t r _ _ _ ?_
  have := set_cells (j := o) (x := v) h
  simpa using this
theorem sets_other (g : Nat) : ∀ (vs : List Value) (o : Nat) (W : World) (k : Nat),k ≠ g -> (W.setCells g o vs).heap[k]? = W.heap[k]?
 | [],_,_,_,_=>rfl
 | v :: r,o,W,k,h=>by
  rw [World.setCells,sets_other g r _ _ _ h,Below.heap_setCell _ _ _ _ h]
theorem sets_below {B g : Nat} (hb : B <= g) {w0 : World} : ∀ (vs : List Value) (o : Nat) (W : World),Below B w0 W -> Below B w0 (W.setCells g o vs)
 | [],_,_,h=>h
 | v :: r,o,W,h=>by
  rw [World.setCells]
  exact sets_below hb r _ _ (Below.setCell h hb _)
theorem iv_map (l : List Int) : ivs l = l.map (Value.int .i64) := rfl
set_option maxHeartbeats 1000000 in
theorem del_ (B base : Nat) (v : Value) (l : List Int) (i : Nat) (w : World) (h : IRow base w v l) (hB : B <= base) (hi : i < l.length) : Calls Tryz.prog 186 #[v,.int .i64 i,.int .i64 ((i : Int) + 1)] w fun e w' =>
  ∃ v',e = .returned v' /\ IRow base w' v' (l.take i ++ l.drop (i + 1)) /\ v'.ownBlock = v.ownBlock /\ Below B w w' /\ OnlyB v.ownBlock w w' := by
 unfold IRow at h
 rw [iv_map] at h
 obtain ⟨g,cap,rfl,hg,hgs,hc,hm,-,hH⟩ := Go.Lib.holds_of_ownsRow h (fun e=>by
  rcases h.2 with ⟨-,h0⟩ | ⟨g,cap,cur,e1,-⟩
  ·omega
  ·rw [e1] at e; cases e)
 refine (Tryz.del g 0 cap i (i + 1) l w hH hc (by unfold maxLen at hm; omega) (by omega) (by omega)).mono ?_
 rintro e w' ⟨rfl,q,rfl⟩
 have hl : (l.take i ++ l.drop (i + 1)).length = l.length - (i + 1 - i) := by simp; omega
 refine ⟨_,rfl,?_,rfl,Go.Lib.below_putRow (Below.refl _ _) (by omega),fun k _ hk=>?_⟩
 ·have := Go.Lib.ownsRow_putRow (q := q) (ys := l.take i ++ l.drop (i + 1) ++ List.replicate (i + 1 - i) 0) (k := l.length - (i + 1 - i)) h (by simp; omega) (by omega)
  unfold IRow
  rw [hl,iv_map]
  rw [List.take_left' hl] at this
  exact this
 ·have hk2 : g ≠ k := fun e=>hk (by rw [<- e]; rfl)
  simp [putRow,mapBlock,Sort.ahead,Array.getElem?_modify,hk2]
end DE
end Go.Proofs.YtodhjjeagmjhdaaGreatDoor
namespace Go.Proofs.YtodhjjeagmjhdaaGreatDoor
open Go.RowKit Go.Sort
namespace DE
open Go.Proofs.YtodhjjeagmjhdaaGreatDoor.ST
theorem ins_take (cs C : List Value) (X : Value) (n i : Nat) (hcl : cs.length = n) (hi : i <= n) (hC : n + 1 <= C.length) (h1 : ∀ p,p < i -> C[p]? = cs[p]?) (h2 : C[i]? = some X) (h3 : ∀ p,i < p -> p < n + 1 -> C[p]? = cs[p - 1]?) : C.take ((n + 1) * 1) = cs.take i ++ X :: cs.drop i := by
 have hlt : (cs.take i).length = i := by rw [List.length_take]; omega
 apply List.ext_getElem?
 intro p
 by_cases hp : p < n + 1
 ·rw [List.getElem?_take,Nat.mul_one,if_pos hp]
  by_cases e1 : p < i
  ·rw [h1 p e1,List.getElem?_append_left (by omega),List.getElem?_take,if_pos e1]
  ·rw [List.getElem?_append_right (by omega),hlt]
   by_cases e2 : p = i
   ·subst e2
    rw [h2,Nat.sub_self,List.getElem?_cons_zero]
   ·rw [h3 p (by omega) hp,show p - i = (p - 1 - i) + 1 by omega,List.getElem?_cons_succ,List.getElem?_drop,show i + (p - 1 - i) = p - 1 by omega]
 ·rw [List.getElem?_eq_none (by rw [List.length_take]; omega),List.getElem?_eq_none (by simp; omega)]
theorem irow_of {base g cap i : Nat} {W : World} {l : List Int} {x : Int} {C : List Value} (hh : W.heap[g]? = some (.cells C.toArray 3 (0,0))) (hb : base <= g) (hc : C.length = cap) (hn : l.length + 1 <= cap) (hm : cap <= maxLen) (hi : i <= l.length)
  (h1 : ∀ p,p < i -> C[p]? = (ivs l)[p]?) (h2 : C[i]? = some (.int .i64 x)) (h3 : ∀ p,i < p -> p < l.length + 1 -> C[p]? = (ivs l)[p - 1]?) : IRow base W (.slice (some ⟨g,0,none⟩) (l.length + 1) cap) (l.take i ++ x :: l.drop i) := by
 have hL : (l.take i ++ x :: l.drop i).length = l.length + 1 := by simp; omega
 have hI : ivs (l.take i ++ x :: l.drop i) = (ivs l).take i ++ .int .i64 x :: (ivs l).drop i := by simp [ivs,List.map_take,List.map_drop]
 unfold IRow
 rw [hL,hI]
 have ht := ins_take (ivs l) C (.int .i64 x) l.length i (ivs_len l) hi (by omega) h1 h2 h3
 refine ⟨by rw [<- hI,ivs_len,hL]; omega,.inr ⟨g,cap,C.toArray,rfl,hb,hh,hn,hm,by simpa using hc,?_⟩⟩
 simpa using ht
set_option maxHeartbeats 2000000 in
theorem ins_ (B base : Nat) (v : Value) (l : List Int) (i : Nat) (x : Int) (vb : Nat) (w : World) (h : IRow base w v l) (hB : B <= base) (hbs : base <= w.heap.size) (hi : i <= l.length) (hl : l.length <= 65536) (hv : w.heap[vb]? = some (.cells #[.int .i64 x] 3 (0,0))) (hne : v.ownBlock ≠ some vb) : Calls Tryz.prog 187 #[v,.int .i64 i,.slice (some ⟨vb,0,none⟩) 1 1] w fun e w' =>
  ∃ v',e = .returned v' /\ IRow base w' v' (l.take i ++ x :: l.drop i) /\ (v'.ownBlock = v.ownBlock ∨ v'.ownBlock = some w.heap.size) /\ Below B w w' /\ OnlyB v.ownBlock w w' := by
 have hvs : ∀ j u,[Value.int .i64 x][j]? = some u -> w.cell? ⟨vb,0 + j,none⟩ = some u := fun j u hj=>by
  cases j with
  | zero=>simp at hj; subst hj; simp [World.cell?,hv]
  | succ j=>simp at hj
 have h1v : ∀ u ∈ [Value.int .i64 x],u.oneCell' = true := fun u hu=>by simp at hu; subst hu; rfl
 have h1c : ∀ u ∈ ivs l,u.oneCell' = true := fun u hu=>by
  unfold ivs at hu
  obtain ⟨z,-,rfl⟩ := List.mem_map.1 hu
  rfl
 have hx : ([Value.int .i64 x] : List Value).length = 1 := rfl
 have hal : ∀ o : Obj,(w.drew.alloc o).heap[w.heap.size]? = some o := fun o=>by
  show (w.heap.push o)[w.heap.size]? = some o
  simp
 have hab : ∀ o : Obj,∀ k,k < w.heap.size -> (w.drew.alloc o).heap[k]? = w.heap[k]? := fun o k hk=>by
  show (w.heap.push o)[k]? = _
  rw [Array.getElem?_push,if_neg (by omega)]
 have hup : ∀ o : Obj,Below B w (w.drew.alloc o) := fun o=>Below.mono (((Up.refl w).drew).alloc o) (by omega)
 have hgm : ∀ n c,n <= maxLen -> grownCap w n c 3 <= maxLen := fun n c hn=>grownCap_le_maxLen w n c _ hn
 have hgg : ∀ n c,n <= grownCap w n c 3 := fun n c=>grownCap_ge w n c _
 rcases h.2 with ⟨rfl,h0⟩ | ⟨g,cap,cur,rfl,hg,hgc,hn,hm,hcs,hct⟩
 ·have hl0 : l = [] := List.eq_nil_of_length_eq_zero h0
  subst hl0
  have hi0 : i = 0 := by simpa using hi
  subst hi0
  refine (Tryz.insGrowEnd none 0 0 vb [] (.int .i64 x) w (by omega) (by omega) (by omega) rfl (fun _=>rfl) (fun a e=>by cases e) hvs h1v).mono ?_
  rintro e w' ⟨rfl,rfl⟩
  refine ⟨_,rfl,?_,.inr rfl,hup _,fun k hk _=>hab _ k hk⟩
  have hs := hgg (0 + 1) 0
  refine irow_of (C := (([] ++ [Value.int .i64 x]).toArray ++ Builtin.zeroCells (Value.int .i64 0).cells (grownCap w (0 + 1) 0 3 - (0 + 1))).toList) (by rw [Array.toArray_toList]; exact hal _) hbs ?_ (by simpa using hs) (hgm _ _ (by unfold maxLen; omega)) (by simp) (fun p hp=>by omega) (by simp) (fun p h1 h2=>by simp at h2; omega)
  have hz : (Value.int IntKind.i64 0).cells.size = 1 := rfl
  simp only [Array.length_toList,Array.size_append,size_zeroCells,hz,List.size_toArray,List.length_append,List.length_nil,hx]
  omega
 ·have hcu : cur.toList.length = cap := by simpa using hcs
  have hgt : ∀ p,p < l.length -> cur.toList[p]? = (ivs l)[p]? := fun p hp=>by
   have : (List.take (l.length * 1) cur.toList)[p]? = (ivs l)[p]? := by rw [hct]
   rw [List.getElem?_take,if_pos (by omega)] at this
   exact this
  have hgl : w.heap[g]? = some (.cells cur.toList.toArray 3 (0,0)) := by rw [Array.toArray_toList]; exact hgc
  have hce : ∀ j,w.cell? ⟨g,j,none⟩ = cur.toList[j]? := fun j=>by simp [World.cell?,hgc]
  have hfr : ∀ j,w.frozen? ⟨g,j,none⟩ = false := fun j=>by simp [World.frozen?,hgc]
  have hcs' : ∀ j u,(ivs l)[j]? = some u -> w.cell? ⟨g,0 + j,none⟩ = some u := fun j u hj=>by
   have hjl : j < l.length := by
    have := (List.getElem?_eq_some_iff.1 hj).1
    rwa [ivs_len] at this
   rw [Nat.zero_add,hce,hgt j hjl,hj]
  have hgv : vb ≠ g := fun e=>hne (by rw [e]; rfl)
  have hother : ∀ k,(Value.slice (some ⟨g,0,none⟩) l.length cap).ownBlock ≠ some k -> k ≠ g := fun k hk e=>hk (by rw [e]; rfl)
  have hBg : B <= g := by omega
  by_cases hr : l.length + 1 <= cap
  ·by_cases hin : i < l.length
   ·refine (Tryz.insShift g l.length cap i vb (ivs l) (.int .i64 x) w hin hr (by unfold maxLen at hm; omega) hgv (ivs_len l) hcs' (fun j hj=>by rw [Nat.zero_add,hce,List.getElem?_eq_getElem (by omega)]; rfl) (fun j hj=>hfr _) hvs h1c h1v 3 3 1 cap (by simp [World.shape?,hv]) (by simp [World.shape?,hgc]; omega) (by omega) (by simp [World.frozen?,hv]) (by simp [World.frozen?,hv])).mono ?_
    rintro e w' ⟨rfl,rfl⟩
    refine ⟨_,rfl,?_,.inl rfl,sets_below hBg _ _ _ (sets_below hBg _ _ _ (Below.mono ((Up.refl w).drew) (by omega))),fun k hk hk2=>?_⟩
    ·refine irow_of (C := putAt (putAt cur.toList (0 + (i + 1)) ((ivs l).drop i)) (0 + i) [.int .i64 x]) (sets_heap g _ _ _ _ _ (sets_heap g _ _ _ _ _ hgl)) hg (by rw [putAt_len,putAt_len]; exact hcu) hr hm hi (fun p hp=>?_) ?_ (fun p hp hp2=>?_)
     ·rw [putAt_get _ _ _ _ (by rw [putAt_len]; omega),if_neg (by omega),putAt_get _ _ _ _ (by omega),if_neg (by omega),hgt p (by omega)]
     ·rw [putAt_get _ _ _ _ (by rw [putAt_len]; omega),if_pos (by simp),Nat.zero_add,Nat.sub_self]
      rfl
     ·rw [putAt_get _ _ _ _ (by rw [putAt_len]; omega),if_neg (by simp; omega),putAt_get _ _ _ _ (by omega),if_pos (by rw [List.length_drop,ivs_len]; omega),List.getElem?_drop,show i + (p - (0 + (i + 1))) = p - 1 by omega]
    ·rw [sets_other g _ _ _ _ (hother k hk2),sets_other g _ _ _ _ (hother k hk2)]
     rfl
   ·have hie : i = l.length := by omega
    subst hie
    refine (Tryz.insRoom g l.length cap vb (.int .i64 x) w hr (by unfold maxLen at hm; omega) (fun j hj=>by rw [Nat.zero_add,hce,List.getElem?_eq_getElem (by omega)]; rfl) (fun j hj=>hfr _) hvs h1v).mono ?_
    rintro e w' ⟨rfl,rfl⟩
    refine ⟨_,rfl,?_,.inl rfl,sets_below hBg _ _ _ (Below.refl _ _),fun k hk hk2=>sets_other g _ _ _ _ (hother k hk2)⟩
    refine irow_of (C := putAt cur.toList (0 + l.length) [.int .i64 x]) (sets_heap g _ _ _ _ _ hgl) hg (by rw [putAt_len]; exact hcu) hr hm (Nat.le_refl _) (fun p hp=>?_) ?_ (fun p hp hp2=>by omega)
    ·rw [putAt_get _ _ _ _ (by omega),if_neg (by omega),hgt p hp]
    ·rw [putAt_get _ _ _ _ (by omega),if_pos (by simp),Nat.zero_add,Nat.sub_self]
     rfl
  ·have hs := hgg (l.length + 1) cap
   have hs2 := hgm (l.length + 1) cap (by unfold maxLen; omega)
   have hz : (Value.int IntKind.i64 0).cells.size = 1 := rfl
   by_cases hin : i < l.length
   ·refine (Tryz.insGrow g l.length cap i vb (ivs l) (.int .i64 x) w hin hn (by omega) (by omega) (ivs_len l) hcs' hvs h1c h1v).mono ?_
    rintro e w' ⟨rfl,rfl⟩
    obtain ⟨Z,hZ⟩ : ∃ Z : List Value,Z = (((ivs l).take i).toArray ++ Builtin.zeroCells (Value.int .i64 0).cells (l.length + 1 - i) ++ Builtin.zeroCells (Value.int .i64 0).cells (grownCap w (l.length + 1) cap 3 - (l.length + 1))).toList := ⟨_,rfl⟩
    have hZl : Z.length = grownCap w (l.length + 1) cap 3 := by
     rw [hZ]
     simp only [Array.length_toList,Array.size_append,size_zeroCells,hz,List.size_toArray,List.length_take,ivs_len]
     omega
    have hZt : ∀ p,p < i -> Z[p]? = (ivs l)[p]? := fun p hp=>by
     rw [hZ,Array.toList_append,Array.toList_append,List.append_assoc,List.getElem?_append_left (by simp [ivs_len]; omega)]
     rw [show ((ivs l).take i).toArray.toList = (ivs l).take i from rfl,List.getElem?_take,if_pos hp]
    have hZh : (w.alloc (.cells (((ivs l).take i).toArray ++ Builtin.zeroCells (Value.int .i64 0).cells (l.length + 1 - i) ++ Builtin.zeroCells (Value.int .i64 0).cells (grownCap w (l.length + 1) cap 3 - (l.length + 1))) 3)).heap[w.heap.size]? = some (.cells Z.toArray 3 (0,0)) := by
     rw [hZ,Array.toArray_toList]
     show (w.heap.push _)[w.heap.size]? = _
     simp
    refine ⟨_,rfl,?_,.inr rfl,sets_below (by omega) _ _ _ ?_,fun k hk hk2=>?_⟩
    ·refine irow_of (C := putAt (putAt Z i [.int .i64 x]) (i + 1) ((ivs l).drop i)) (sets_heap _ _ _ _ _ _ (show ((World.setCells (World.drew _) _ _ _).drew).heap[_]? = _ from sets_heap _ _ _ _ _ _ hZh)) hbs (by rw [putAt_len,putAt_len]; exact hZl) hs hs2 hi (fun p hp=>?_) ?_ (fun p hp hp2=>?_)
     ·rw [putAt_get _ _ _ _ (by rw [putAt_len]; omega),if_neg (by omega),putAt_get _ _ _ _ (by omega),if_neg (by omega),hZt p hp]
     ·rw [putAt_get _ _ _ _ (by rw [putAt_len]; omega),if_neg (by omega),putAt_get _ _ _ _ (by omega),if_pos (by simp),Nat.sub_self]
      rfl
     ·rw [putAt_get _ _ _ _ (by rw [putAt_len]; omega),if_pos (by rw [List.length_drop,ivs_len]; omega),List.getElem?_drop,show i + (p - (i + 1)) = p - 1 by omega]
    ·have h9 := sets_below (B := B) (g := w.heap.size) (w0 := w) (by omega) [.int .i64 x] i _ (Below.mono (((Up.refl w).alloc (.cells Z.toArray 3)).drew) (show B <= w.heap.size by omega))
     rw [hZ,Array.toArray_toList] at h9
     exact ⟨h9.os,h9.tape,h9.output,h9.size,h9.block⟩
    ·rw [sets_other _ _ _ _ _ (by omega)]
     show (World.setCells (World.drew _) _ _ _).heap[k]? = _
     rw [sets_other _ _ _ _ _ (by omega)]
     show (w.heap.push _)[k]? = _
     rw [Array.getElem?_push,if_neg (by omega)]
   ·have hie : i = l.length := by omega
    subst hie
    refine (Tryz.insGrowEnd (some ⟨g,0,none⟩) l.length cap vb (ivs l) (.int .i64 x) w hn (by omega) (by omega) (ivs_len l) (fun e=>by cases e) (fun a e j u hj=>by cases e; rw [Addr.add_lit]; exact hcs' j u hj) hvs h1v).mono ?_
    rintro e w' ⟨rfl,rfl⟩
    refine ⟨_,rfl,?_,.inr rfl,hup _,fun k hk _=>hab _ k hk⟩
    refine irow_of (C := ((ivs l ++ [Value.int .i64 x]).toArray ++ Builtin.zeroCells (Value.int .i64 0).cells (grownCap w (l.length + 1) cap 3 - (l.length + 1))).toList) (by rw [Array.toArray_toList]; exact hal _) hbs ?_ hs hs2 (Nat.le_refl _) (fun p hp=>?_) ?_ (fun p h1 h2=>by omega)
    ·simp only [Array.length_toList,Array.size_append,size_zeroCells,hz,List.size_toArray,List.length_append,ivs_len,hx]
     omega
    ·rw [Array.toList_append,List.getElem?_append_left (by simp [ivs_len]; omega)]
     rw [show (ivs l ++ [Value.int .i64 x]).toArray.toList = ivs l ++ [Value.int .i64 x] from rfl,List.getElem?_append_left (by rw [ivs_len]; exact hp)]
    ·rw [Array.toList_append,List.getElem?_append_left (by simp [ivs_len])]
     rw [show (ivs l ++ [Value.int .i64 x]).toArray.toList = ivs l ++ [Value.int .i64 x] from rfl,List.getElem?_append_right (by rw [ivs_len]; omega),ivs_len,Nat.sub_self]
     rfl
end DE
end Go.Proofs.YtodhjjeagmjhdaaGreatDoor
namespace Go.Proofs.YtodhjjeagmjhdaaGreatDoor
open Go.RowKit
namespace DE
open Go.Proofs.YtodhjjeagmjhdaaGreatDoor.ST
theorem OnlyB.up {o : Option Nat} {w w' : World} (u : Up w w') : OnlyB o w w' := fun k hk _=>by
 have h := Array.getElem?_eq_getElem hk
 rw [h]
 exact u.heap h
theorem OnlyB.trans {o : Option Nat} {a b c : World} (h : OnlyB o a b) (k : OnlyB o b c) (hs : a.heap.size <= b.heap.size) : OnlyB o a c := fun x hx ho=>by rw [k x (by omega) ho,h x hx ho]
theorem OnlyB.heap {o : Option Nat} {w w' : World} {k : Nat} {x : Obj} (h : OnlyB o w w') (hk : w.heap[k]? = some x) (hn : o ≠ some k) : w'.heap[k]? = some x := by
 rw [h k (Array.getElem?_eq_some_iff.1 hk).1 hn]
 exact hk
theorem row_only {o : Option Nat} {w w' : World} {base e s n : Nat} {v : Value} {xs : List Value} (u : OnlyB o w w') (h : w.ownsRow base e s v n xs) (hn : ∀ g,v.ownBlock = some g -> o ≠ some g) : w'.ownsRow base e s v n xs := by
 refine ⟨h.1,?_⟩
 rcases h.2 with h0 | ⟨g,cap,cur,e1,e2,e3,e4⟩
 ·exact .inl h0
 ·exact .inr ⟨g,cap,cur,e1,e2,u.heap e3 (hn g (by rw [e1]; rfl)),e4⟩
theorem row_type {w : World} {base e s n g : Nat} {v : Value} {xs : List Value} (h : w.ownsRow base e s v n xs) (hg : v.ownBlock = some g) : ∃ cur,w.heap[g]? = some (.cells cur e (0,0)) := by
 rcases h.2 with ⟨rfl,-⟩ | ⟨g',cap,cur,rfl,-,e3,-⟩
 ·cases hg
 ·have : g' = g := by simpa [Value.ownBlock] using hg
  subst this
  exact ⟨cur,e3⟩
theorem types_apart {w : World} {g e e' : Nat} {c c' : Array Value} (h : w.heap[g]? = some (.cells c e (0,0))) (h' : w.heap[g]? = some (.cells c' e' (0,0))) : e = e' := by
 rw [h] at h'
 simp only [Option.some.injEq,Obj.cells.injEq] at h'
 exact h'.2.1
set_option maxHeartbeats 1000000 in
theorem own_zone2 {B base b : Nat} {s : Stt} {w : World} (h : Own base w b s) (hB : B <= base) (hb : B <= b) (i : Nat) (hi : i < s.zs.length) : ∃ gz cap vp vc,∃ v : Value,OwnC w b vp vc (.slice (some ⟨gz,0,none⟩) s.zs.length cap) s /\ IRow base w v (s.zs.getD i []) /\ (∀ g,v.ownBlock = some g -> g < w.heap.size) /\ gz ≠ b /\ (∃ cur,w.heap[gz]? = some (.cells cur 28 (0,0))) /\
  (∀ w1,OnlyB v.ownBlock w w1 -> w1.cell? ⟨gz,i,none⟩ = some v /\ (∀ j,w1.frozen? ⟨gz,j,none⟩ = false) /\ OwnC w1 b vp vc (.slice (some ⟨gz,0,none⟩) s.zs.length cap) s) /\
  ∀ w1 x l',Below B w w1 -> OnlyB v.ownBlock w w1 -> IRow base w1 x l' -> (x.ownBlock = v.ownBlock ∨ ∃ g,x.ownBlock = some g /\ w.heap.size <= g) -> Did B base b { s with zs := s.zs.set i l' } w (w1.setCell ⟨gz,i,none⟩ x) := by
 have hlt := h.lt
 obtain ⟨vp,vc,vz,h1,h2⟩ := h
 obtain ⟨vp',vc',vz',hv,p1,p2,vs,p3,p4,p5⟩ := h2
 unfold sv at hv
 simp only [Value.agg.injEq,Array.mk.injEq,List.cons.injEq,and_true] at hv
 obtain ⟨rfl,rfl,rfl⟩ := hv
 obtain ⟨g,cap,cur,rfl,hg,hgc⟩ := own_list p3 (by omega)
 have hvl : vs.length = s.zs.length := by have := p3.1; omega
 have hgb : g ≠ b := fun e=>by
  subst e
  unfold OwnC at h1
  rw [h1] at hgc
  simp at hgc
 have hri : IRow base w (vs.getD i nl) (s.zs.getD i []) := p4 i hi
 have hty : ∀ k c e,w.heap[k]? = some (.cells c e (0,0)) -> e ≠ 3 -> (vs.getD i nl).ownBlock ≠ some k := fun k c e hk he ho=>by
  obtain ⟨cur',hc'⟩ := row_type hri ho
  exact he (types_apart hk hc')
 have hn : ∀ {v : Value} {e s' n : Nat} {xs : List Value},w.ownsRow base e s' v n xs -> e ≠ 3 -> ∀ k,v.ownBlock = some k -> (vs.getD i nl).ownBlock ≠ some k := fun hr he k hk=>by
  obtain ⟨cur',hc'⟩ := row_type hr hk
  exact hty k _ _ hc' he
 have hob : (vs.getD i nl).ownBlock ≠ some b := hty b _ _ h1 (by decide)
 have hog : (vs.getD i nl).ownBlock ≠ some g := hty g _ _ hgc (by decide)
 refine ⟨g,cap,vp,vc,vs.getD i nl,h1,hri,fun q e=>(hri.lt q e).2,hgb,⟨cur,hgc⟩,fun w1 u=>⟨?_,fun j=>by simp [World.frozen?,u.heap hgc hog],u.heap h1 hob⟩,fun w1 x l' ub u hx hne=>⟨⟨vp,vc,_,heap_set_ty (u.heap hgc hog) (u.heap h1 hob) (by decide),?_⟩,?_,KT.trans (fun k cur' t hk t1 t2 t3 t4 t5=>u.heap hk (hty k _ _ hk t5)) (kt_set (u.heap hgc hog) (.inr (.inr (.inl rfl))))⟩⟩
 ·have r := row_only u p3 (hn p3 (by decide))
  rw [r.cellAt _ (by omega),List.getD_eq_getElem?_getD,List.getElem?_eq_getElem (by omega)]
  rfl
 ·have r := own_setS (z := i) (x := x) (row_only u p3 (hn p3 (by decide)))
  refine ⟨vp,vc,_,rfl,row_set_ty (row_only u p1 (hn p1 (by decide))) (u.heap hgc hog) (by decide),row_set_ty (row_only u p2 (hn p2 (by decide))) (u.heap hgc hog) (by decide),vs.set i x,?_,fun q hq=>?_,?_⟩
  ·rw [List.length_set]
   exact r
  ·rw [List.length_set] at hq
   by_cases e : q = i
   ·subst e
    have e1 : (vs.set q x).getD q nl = x := by rw [List.getD_eq_getElem?_getD,List.getElem?_set_self (by omega)]; rfl
    have e2 : (s.zs.set q l').getD q [] = l' := by rw [List.getD_eq_getElem?_getD,List.getElem?_set_self hq]; rfl
    rw [e1,e2]
    exact row_set_ty hx (u.heap hgc hog) (by decide)
   ·have e1 : (vs.set i x).getD q nl = vs.getD q nl := by rw [List.getD_eq_getElem?_getD,List.getElem?_set_ne (fun h=>e h.symm),<- List.getD_eq_getElem?_getD]
    have e2 : (s.zs.set i l').getD q [] = s.zs.getD q [] := by rw [List.getD_eq_getElem?_getD,List.getElem?_set_ne (fun h=>e h.symm),<- List.getD_eq_getElem?_getD]
    rw [e1,e2]
    exact row_set_ty (row_only u (p4 q hq) (fun k hk ho=>p5 q i k hq hi e hk ho)) (u.heap hgc hog) (by decide)
  ·rw [List.length_set]
   refine ra_set p5 (by omega) (fun p q hp hpi e1 e2=>?_)
   rcases hne with h9 | ⟨g9,h9,h10⟩
   ·rw [h9] at e2
    exact p5 p i q hp hi hpi e1 e2
   ·rw [h9] at e2
    have := ((p4 p hp).lt q e1).2
    simp only [Option.some.injEq] at e2
    omega
 ·exact Below.setCell ub (by show B <= g; omega) _
end DE
end Go.Proofs.YtodhjjeagmjhdaaGreatDoor
