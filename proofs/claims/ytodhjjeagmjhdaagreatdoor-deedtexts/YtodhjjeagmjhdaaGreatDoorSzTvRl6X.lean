/- Sz, Ze6, Eg, Wn, Csa6, Rl6 -/
import Derived.Test.YtodhjjeagmjhdaaGreatDoorDtx6TvDr6X
namespace Go.Proofs.YtodhjjeagmjhdaaGreatDoor
open Go.RowKit
attribute [local go_sem ↓] Go.wp_at_zero Go.wp_at_succ
namespace ST
end ST
end Go.Proofs.YtodhjjeagmjhdaaGreatDoor
namespace Go.Proofs.YtodhjjeagmjhdaaGreatDoor
open Go.RowKit
attribute [local go_sem ↓] Go.wp_at_zero Go.wp_at_succ
namespace DE
open Go.Proofs.YtodhjjeagmjhdaaGreatDoor.ST
end DE
end Go.Proofs.YtodhjjeagmjhdaaGreatDoor
namespace Go.Proofs.YtodhjjeagmjhdaaGreatDoor
open Go.RowKit
attribute [local go_sem ↓] Go.wp_at_zero Go.wp_at_succ
namespace ST
end ST
end Go.Proofs.YtodhjjeagmjhdaaGreatDoor
namespace Go.Proofs.YtodhjjeagmjhdaaGreatDoor
open Go.RowKit
namespace ST
def CK (W : World) (g n : Nat) (cs : List Crd) : Prop := cs.length = n /\ ∃ cc : Array Value,W.heap[g]? = some (.cells cc 95 (0,0)) /\ ∀ j,j < n * 6 -> cc[j]? = (cvs cs)[j]?
theorem six_parts (j : Nat) : ∃ a b,j = a * 6 + b /\ b < 6 := ⟨j / 6,j % 6,by have := Nat.div_add_mod j 6; omega,Nat.mod_lt _ (by decide)⟩
theorem cvs_own (cs : List Crd) (i : Nat) (hi : i < cs.length) (y : Int) (j : Nat) (hj : j < cs.length * 6) : (cvs (cs.set i { cs.getD i dc with owner := y }))[j]? = if i * 6 + 1 = j then some (.int .i64 y) else (cvs cs)[j]? := by
 obtain ⟨a,b,rfl,hb⟩ := six_parts j
 have ha : a < cs.length := by omega
 rw [cvs_get _ a b (by simpa using ha) hb,cvs_get cs a b ha hb]
 by_cases e : a = i
 ·subst e
  rw [List.getD_eq_getElem?_getD (l := cs.set a _),List.getElem?_set_self ha]
  simp only [Option.getD_some]
  by_cases e1 : b = 1
  ·subst e1
   rw [if_pos rfl]; rfl
  ·rw [if_neg (by omega)]
   match b,hb,e1 with
   | 0,_,_=>rfl
   | 2,_,_=>rfl
   | 3,_,_=>rfl
   | 4,_,_=>rfl
   | 5,_,_=>rfl
 ·rw [List.getD_eq_getElem?_getD (l := cs.set i _),List.getElem?_set_ne (fun h=>e h.symm),<- List.getD_eq_getElem?_getD,if_neg (by omega)]
theorem CK.put {W : World} {g n : Nat} {cs : List Crd} (h : CK W g n cs) (i : Nat) (hi : i < n) (y : Int) : CK (W.setCell ⟨g,i * 6 + 1,none⟩ (.int .i64 y)) g n (cs.set i { cs.getD i dc with owner := y }) := by
 obtain ⟨h1,cc,h2,h3⟩ := h
 refine ⟨by simpa using h1,_,set_cells h2,fun j hj=>?_⟩
 rw [cvs_own cs i (by omega) y j (by omega),Array.getElem?_setIfInBounds]
 have hs : i * 6 + 1 < cc.size := by
  have := h3 (i * 6 + 1) (by omega)
  rw [List.getElem?_eq_getElem (by rw [cvs_len]; omega)] at this
  exact (Array.getElem?_eq_some_iff.1 this).1
 by_cases e : i * 6 + 1 = j
 ·rw [if_pos e,if_pos e]
  subst e
  rw [if_pos hs]
 ·rw [if_neg e,if_neg e]
  exact h3 j hj
theorem CK.keep {W W' : World} {g n : Nat} {cs : List Crd} (h : CK W g n cs) (k : ∀ cc,W.heap[g]? = some (.cells cc 95 (0,0)) -> W'.heap[g]? = some (.cells cc 95 (0,0))) : CK W' g n cs := by
 obtain ⟨h1,cc,h2,h3⟩ := h
 exact ⟨h1,cc,k cc h2,h3⟩
theorem CK.own {W : World} {g n : Nat} {cs : List Crd} (h : CK W g n cs) (i : Nat) (hi : i < n) : W.cell? ⟨g,i * 6 + 1,none⟩ = some (.int .i64 (cs.getD i dc).owner) /\ W.frozen? ⟨g,i * 6 + 1,none⟩ = false := by
 obtain ⟨h1,cc,h2,h3⟩ := h
 refine ⟨?_,seven_f h2 _⟩
 have h4 := h3 (i * 6 + 1) (by omega)
 rw [cvs_get cs i 1 (by omega) (by decide)] at h4
 simp only [World.cell?,h2]
 exact h4
def AI (W : World) (g q : Nat) : Prop := ∃ rc : Array Value,W.heap[g]? = some (.cells rc 3 (0,0)) /\ ∀ j,j < q -> ∃ y : Int,rc[j]? = some (.int .i64 y)
theorem AI.put {W : World} {g q g' k q' : Nat} {y : Int} (h : AI W g q) (h' : AI W g' q') : AI (W.setCell ⟨g',k,none⟩ (.int .i64 y)) g q := by
 obtain ⟨rc,h1,h2⟩ := h
 by_cases e : g = g'
 ·subst e
  refine ⟨_,set_cells h1,fun j hj=>?_⟩
  rw [Array.getElem?_setIfInBounds]
  by_cases ek : k = j
  ·subst ek
   rw [if_pos rfl]
   obtain ⟨y',hy'⟩ := h2 k hj
   rw [if_pos (Array.getElem?_eq_some_iff.1 hy').1]
   exact ⟨y,rfl⟩
  ·rw [if_neg ek]; exact h2 j hj
 ·exact ⟨rc,set_other h1 e,h2⟩
theorem AI.keep {W W' : World} {g q : Nat} (h : AI W g q) (k : ∀ cc,W.heap[g]? = some (.cells cc 3 (0,0)) -> W'.heap[g]? = some (.cells cc 3 (0,0))) : AI W' g q := by
 obtain ⟨rc,h1,h2⟩ := h
 exact ⟨rc,k rc h1,h2⟩
theorem AI.at {W : World} {g q : Nat} (h : AI W g q) (j : Nat) (hj : j < q) : (∃ y : Int,W.cell? ⟨g,j,none⟩ = some (.int .i64 y)) /\ W.frozen? ⟨g,j,none⟩ = false := by
 obtain ⟨rc,h1,h2⟩ := h
 obtain ⟨y,hy⟩ := h2 j hj
 exact ⟨⟨y,by simp only [World.cell?,h1]; exact hy⟩,seven_f h1 _⟩
theorem AI.il {W : World} {g q k : Nat} (h : AI W g q) (hk : q <= k) : ∃ l : List Int,l.length = q /\ IL W (.slice (some ⟨g,0,none⟩) q k) l := by
 obtain ⟨rc,h1,h2⟩ := h
 have hc : ∀ j,∃ y : Int,j < q -> rc[j]? = some (.int .i64 y) := fun j=>by
  by_cases hj : j < q
  ·obtain ⟨y,hy⟩ := h2 j hj
   exact ⟨y,fun _=>hy⟩
  ·exact ⟨0,fun h=>absurd h hj⟩
 refine ⟨(List.range q).map fun j=>Classical.choose (hc j),by simp,?_⟩
 refine ⟨by simp [ivs_len],some ⟨g,0,none⟩,k,by simp,by simpa using hk,fun _=>⟨g,0,rfl,fun j hj=>?_⟩⟩
 have hj' : j < q := by simpa using hj
 rw [ivs_get _ j (by simpa using hj'),Nat.zero_add]
 simp only [World.cell?,h1]
 rw [Classical.choose_spec (hc j) hj']
 simp [List.getD_eq_getElem?_getD,hj']
def KR (W : World) (b0 : Nat) (vs : List Value) (zs : List (List Int)) : Prop := ∀ i,i < zs.length -> ∃ g,b0 <= g /\ vs.getD i nl = .slice (some ⟨g,0,none⟩) (zs.getD i []).length ((zs.getD i []).length + 64) /\ AI W g (zs.getD i []).length
def KS (w W : World) (b : Nat) (box : Array Value) (gP gC gZ : Nat) (vs : List Value) (s : Stt) : Prop :=
 W.heap[b]? = some (.cells box 27 (0,0)) /\ W.heap[gP]? = some (.cells (wPs s.ps).toArray 97 (0,0)) /\ (∃ cs,CK W gC s.cs.length cs) /\ (W.heap[gZ]? = some (.cells vs.toArray 28 (0,0)) /\ vs.length = s.zs.length + 64) /\ KR W w.heap.size vs s.zs /\ Up w W /\ w.heap.size <= gC
theorem KS.up {w W W' : World} {b : Nat} {box : Array Value} {gP gC gZ : Nat} {vs : List Value} {s : Stt} (h : KS w W b box gP gC gZ vs s) (u : Up W W') : KS w W' b box gP gC gZ vs s := by
 obtain ⟨h1,h2,⟨cs,h3⟩,h4,h5,h6,h7⟩ := h
 exact ⟨u.heap h1,u.heap h2,⟨cs,h3.keep (fun _ h=>u.heap h)⟩,⟨u.heap h4.1,h4.2⟩,fun i hi=>by
  obtain ⟨g,a,b,c⟩ := h5 i hi
  exact ⟨g,a,b,c.keep (fun _ h=>u.heap h)⟩,h6.trans u,h7⟩
theorem KS.card {w W : World} {b : Nat} {box : Array Value} {gP gC gZ : Nat} {vs : List Value} {s : Stt} (h : KS w W b box gP gC gZ vs s) (i : Nat) (hi : i < s.cs.length) (y : Int) : KS w (W.setCell ⟨gC,i * 6 + 1,none⟩ (.int .i64 y)) b box gP gC gZ vs s := by
 obtain ⟨h1,h2,⟨cs,h3⟩,h4,h5,h6,h7⟩ := h
 obtain ⟨-,cc,hc,-⟩ := id h3
 exact ⟨set_other h1 (heap_ne h1 hc (by decide)),set_other h2 (heap_ne h2 hc (by decide)),⟨_,h3.put i hi y⟩,⟨set_other h4.1 (heap_ne h4.1 hc (by decide)),h4.2⟩,fun i hi=>by
  obtain ⟨g,a,b,c⟩ := h5 i hi
  exact ⟨g,a,b,c.keep (fun _ h=>set_other h (heap_ne h hc (by decide)))⟩,Up.set h6 _ _ h7,h7⟩
theorem KS.row {w W : World} {b : Nat} {box : Array Value} {gP gC gZ g q k : Nat} {vs : List Value} {s : Stt} (h : KS w W b box gP gC gZ vs s) (hg : AI W g q) (hb : w.heap.size <= g) (y : Int) : KS w (W.setCell ⟨g,k,none⟩ (.int .i64 y)) b box gP gC gZ vs s := by
 obtain ⟨h1,h2,⟨cs,h3⟩,h4,h5,h6,h7⟩ := h
 obtain ⟨rc,hc,-⟩ := id hg
 exact ⟨set_other h1 (heap_ne h1 hc (by decide)),set_other h2 (heap_ne h2 hc (by decide)),⟨cs,h3.keep (fun _ h=>set_other h (heap_ne h hc (by decide)))⟩,⟨set_other h4.1 (heap_ne h4.1 hc (by decide)),h4.2⟩,fun i hi=>by
  obtain ⟨g',a,b,c⟩ := h5 i hi
  exact ⟨g',a,b,c.put hg⟩,Up.set h6 _ _ hb,h7⟩
end ST
end Go.Proofs.YtodhjjeagmjhdaaGreatDoor
namespace Go.Proofs.YtodhjjeagmjhdaaGreatDoor
open Go.RowKit
attribute [local go_sem ↓] Go.wp_at_zero Go.wp_at_succ
namespace ST
theorem RA.push {i : Nat} {vs : List Value} {x : Value} (h : RA i vs) (hi : vs.length = i) (hx : ∀ p g,p < i -> (vs.getD p nl).ownBlock = some g -> x.ownBlock ≠ some g) : RA (i + 1) (vs ++ [x]) := by
 have e1 : (vs ++ [x]).getD i nl = x := by rw [List.getD_eq_getElem?_getD,List.getElem?_append_right (by omega),hi]; simp
 have e2 : ∀ p,p < i -> (vs ++ [x]).getD p nl = vs.getD p nl := fun p hp=>by rw [List.getD_eq_getElem?_getD,List.getElem?_append_left (by omega),<- List.getD_eq_getElem?_getD]
 intro p q g hp hq hpq h1 h2
 by_cases ep : p = i
 ·subst ep
  rw [e1] at h1
  rw [e2 q (by omega)] at h2
  exact hx q g (by omega) h2 h1
 ·rw [e2 p (by omega)] at h1
  by_cases eq : q = i
  ·subst eq
   rw [e1] at h2
   exact hx p g (by omega) h1 h2
  ·rw [e2 q (by omega)] at h2
   exact h p q g (by omega) (by omega) hpq h1 h2
def ZOA (base : Nat) (W : World) (v : Value) (zs : List (List Int)) : Prop := ∃ vs,W.ownsRow base 28 1 v zs.length vs /\ (∀ i,i < zs.length -> IRow base W (vs.getD i nl) (zs.getD i [])) /\ RA zs.length vs
theorem ZOA.set {b k j : Nat} {W : World} {v u : Value} {zs : List (List Int)} (h : ZOA b W v zs) (hk : k < b) : ZOA b (W.setCell ⟨k,j,none⟩ u) v zs := by
 obtain ⟨vs,h1,h2,h3⟩ := h
 exact ⟨vs,row_set h1 hk,fun i hi=>row_set (h2 i hi) hk,h3⟩
theorem ZOA.less {b b' : Nat} {W : World} {v : Value} {zs : List (List Int)} (h : ZOA b W v zs) (hb : b' <= b) : ZOA b' W v zs := by
 obtain ⟨vs,h1,h2,h3⟩ := h
 exact ⟨vs,own_less h1 hb,fun i hi=>own_less (h2 i hi) hb,h3⟩
theorem SOA.set {b k j : Nat} {W : World} {v u : Value} {s : Stt} (h : SOA b W v s) (hk : k < b) : SOA b (W.setCell ⟨k,j,none⟩ u) v s := by
 obtain ⟨vp,vc,vz,hv,h1,h2,vs,h3,h4,h5⟩ := h
 exact ⟨vp,vc,vz,hv,row_set h1 hk,row_set h2 hk,vs,row_set h3 hk,fun i hi=>row_set (h4 i hi) hk,h5⟩
end ST
end Go.Proofs.YtodhjjeagmjhdaaGreatDoor
namespace Go.Proofs.YtodhjjeagmjhdaaGreatDoor
open Go.RowKit
attribute [local go_sem ↓] Go.wp_at_zero Go.wp_at_succ
namespace DE
open Go.Proofs.YtodhjjeagmjhdaaGreatDoor.ST
end DE
end Go.Proofs.YtodhjjeagmjhdaaGreatDoor
