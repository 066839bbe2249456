/- Rw, Ti, Rap6, Wsa, Sq, Bz -/
import Derived.Test.YtodhjjeagmjhdaaGreatDoorThVX
namespace Go.Proofs.YtodhjjeagmjhdaaGreatDoor
open Go.RowKit
attribute [local go_sem ↓] Go.wp_at_zero Go.wp_at_succ
namespace ST
end ST
end Go.Proofs.YtodhjjeagmjhdaaGreatDoor
namespace Go.Proofs.YtodhjjeagmjhdaaGreatDoor
open Go.RowKit
namespace ST
end ST
end Go.Proofs.YtodhjjeagmjhdaaGreatDoor
namespace Go.Proofs.YtodhjjeagmjhdaaGreatDoor
open Go.RowKit
attribute [local go_sem ↓] Go.wp_at_zero Go.wp_at_succ
namespace DE
open Go.Proofs.YtodhjjeagmjhdaaGreatDoor.ST
end DE
end Go.Proofs.YtodhjjeagmjhdaaGreatDoor
namespace Go.Proofs.YtodhjjeagmjhdaaGreatDoor
open Go.RowKit
attribute [local go_sem ↓] Go.wp_at_zero Go.wp_at_succ
namespace ST
def WRa (base : Nat) (w W : World) (g n : Nat) (zs : List (List Int)) (i : Nat) (cs : List Value) : Prop := W.heap[g]? = some (.cells cs.toArray 28 (0,0)) /\ cs.length = n + 64 /\ (∀ q,q < i -> WRow base W (cs.getD q nl) zs q) /\ Up w W /\ RA i cs
theorem WRa.put {base : Nat} {w W W1 : World} {g n : Nat} {zs : List (List Int)} {i : Nat} {cs : List Value} {x : Value} (h : WRa base w W g n zs i cs) (u : Up W W1) (hi : i < n + 64) (hx : WRow base W1 x zs i) (hxa : ∀ p g,p < i -> (cs.getD p nl).ownBlock = some g -> x.ownBlock ≠ some g) (hg : w.heap.size <= g) : WRa base w (W1.setCell ⟨g,i,none⟩ x) g n zs (i + 1) (cs.set i x) := by
 obtain ⟨h1,h2,h3,h4,h5⟩ := h
 have k1 := u.heap h1
 have kp : ∀ g' cs',base <= g' -> W1.heap[g']? = some (.cells cs' 3 (0,0)) -> (W1.setCell ⟨g,i,none⟩ x).heap[g']? = some (.cells cs' 3 (0,0)) := fun g' cs' _ h'=>set_other h' (heap_ne h' k1 (by decide))
 refine ⟨?_,by simpa using h2,fun q hq=>?_,Up.set (h4.trans u) _ _ hg,h5.put (by omega) hxa⟩
 ·have := set_cells (j := i) (x := x) k1
  simpa using this
 ·by_cases e : q = i
  ·subst e
   rw [List.getD_eq_getElem?_getD,List.getElem?_set_self (by omega)]
   exact hx.keep kp
  ·rw [List.getD_eq_getElem?_getD,List.getElem?_set_ne (fun h=>e h.symm),<- List.getD_eq_getElem?_getD]
   exact ((h3 q (by omega)).keep (fun g' cs' _ h'=>u.heap h')).keep kp
end ST
end Go.Proofs.YtodhjjeagmjhdaaGreatDoor
namespace Go.Proofs.YtodhjjeagmjhdaaGreatDoor
open Go.RowKit
attribute [local go_sem ↓] Go.wp_at_zero Go.wp_at_succ
namespace ST
end ST
end Go.Proofs.YtodhjjeagmjhdaaGreatDoor
namespace Go.Proofs.YtodhjjeagmjhdaaGreatDoor.BG
open Go.RowKit
theorem ret_int {k : IntKind} {a b : Int} (h : a = b) : Ending.returned (.int k a) = .returned (.int k b) := by rw [h]
def Up (w w' : World) : Prop := Below w.heap.size w w'
theorem Up.refl (w : World) : Up w w := Below.refl _ _
theorem Up.trans {a b c : World} (h : Up a b) (k : Up b c) : Up a c := Below.trans h (Below.mono k h.size)
theorem Up.alloc {a w : World} (h : Up a w) (o : Obj) : Up a (w.alloc o) := Below.alloc h h.size o
theorem Up.drew {a w : World} (h : Up a w) : Up a w.drew := Below.drew h
theorem Up.drewN {a w : World} (h : Up a w) (n : Nat) : Up a (w.drewN n) := ⟨h.os,h.tape,h.output,h.size,h.block⟩
theorem Up.cell {w w' : World} (h : Up w w') {p : Addr} {v : Value} (hc : w.cell? p = some v) : w'.cell? p = some v := by
 rw [Below.cell h (World.block_lt_of_cell? w p hc)]; exact hc
theorem Up.heap {w w' : World} (h : Up w w') {g : Nat} {o : Obj} (hg : w.heap[g]? = some o) : w'.heap[g]? = some o := by
 rw [h.block g (Array.getElem?_eq_some_iff.1 hg).1]; exact hg
theorem row_up {w w' : World} {b e s n : Nat} {v : Value} {xs : List Value} (h : w.ownsRow b e s v n xs) (u : Up w w') : w'.ownsRow b e s v n xs := by
 refine ⟨h.1,?_⟩
 rcases h.2 with h | ⟨g,cap,cur,e1,e2,e3,e4⟩
 ·exact .inl h
 ·exact .inr ⟨g,cap,cur,e1,e2,u.heap e3,e4⟩
theorem row_some {w : World} {b e s n : Nat} {v : Value} {xs : List Value} (h : w.ownsRow b e s v n xs) (hn : 0 < n) : ∃ g cap,b <= g /\ n <= cap /\ v = .slice (some ⟨g,0,none⟩) n cap := by
 rcases h.2 with ⟨rfl,h0⟩ | ⟨g,cap,cur,rfl,hb,_,hc,_⟩
 ·omega
 ·exact ⟨g,cap,hb,hc,rfl⟩
theorem row_val {w : World} {base e s n : Nat} {v : Value} {xs : List Value} (h : w.ownsRow base e s v n xs) : ∃ ad cap,v = .slice ad n cap := by
 rcases h.2 with ⟨rfl,hn⟩ | ⟨g,cap,cur,rfl,_⟩
 ·exact ⟨none,0,by rw [hn]⟩
 ·exact ⟨_,cap,rfl⟩
theorem flat_len {E : Type} (f : E -> List Value) (s : Nat) (hf : ∀ e,(f e).length = s) (l : List E) : (l.flatMap f).length = l.length * s := by
 induction l with
 | nil=>simp
 | cons x l ih=>rw [List.flatMap_cons,List.length_append,ih,hf,List.length_cons,Nat.succ_mul]; omega
theorem flat_get {E : Type} (f : E -> List Value) (s : Nat) (hf : ∀ e,(f e).length = s) (d : E) (l : List E) : ∀ i j,i < l.length -> j < s -> (l.flatMap f)[i * s + j]? = (f (l.getD i d))[j]? := by
 induction l with
 | nil=>intro i j h; simp at h
 | cons x l ih =>
  intro i j hi hj
  rw [List.flatMap_cons]
  cases i with
  | zero=>rw [Nat.zero_mul,Nat.zero_add,List.getElem?_append_left (by rw [hf]; exact hj)]; rfl
  | succ i =>
   rw [List.getElem?_append_right (by rw [hf,Nat.succ_mul]; omega),hf,show (i + 1) * s + j - s = i * s + j by rw [Nat.succ_mul]; omega,ih i j (by simpa using hi) hj]
   rfl
theorem seven_f {W : World} {a : Nat} {cs : Array Value} {t : TypeId} (h : W.heap[a]? = some (.cells cs t (0,0))) : ∀ j,W.frozen? ⟨a,j,none⟩ = false := fun j=>by simp [World.frozen?,h]
theorem set_cells {W : World} {a j : Nat} {cs : Array Value} {t : TypeId} {x : Value} (h : W.heap[a]? = some (.cells cs t (0,0))) : (W.setCell ⟨a,j,none⟩ x).heap[a]? = some (.cells (cs.setIfInBounds j x) t (0,0)) := by
 simp only [World.setCell,Array.getElem?_modify]; rw [h]; simp
end Go.Proofs.YtodhjjeagmjhdaaGreatDoor.BG
