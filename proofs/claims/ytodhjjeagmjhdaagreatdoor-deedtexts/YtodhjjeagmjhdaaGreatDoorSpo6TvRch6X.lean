/- Spo6, Rm6, Rn6, Rch6 -/
import Derived.Test.YtodhjjeagmjhdaaGreatDoorRfl6VX
namespace Go.Proofs.YtodhjjeagmjhdaaGreatDoor
open Go.RowKit
attribute [local go_sem ↓] Go.wp_at_zero Go.wp_at_succ
namespace DE
open Go.Proofs.YtodhjjeagmjhdaaGreatDoor.ST
structure SpI (base K b : Nat) (w W : World) (box : Array Value) (gP gC gZ : Nat) (vs : List Value) (s : Stt) : Prop where
 box : W.heap[b]? = some (.cells box 27 (0,0))
 cards : ∃ cc : Array Value,W.heap[gC]? = some (.cells cc 95 (0,0)) /\ ∀ i,i < s.cs.length -> ∃ y : Int,cc[i * 6]? = some (.int .i64 y)
 plys : ∃ pc : Array Value,W.heap[gP]? = some (.cells pc 97 (0,0)) /\ ∀ i,i < s.ps.length -> ∃ y : Value,pc[i * 3]? = some y
 zones : W.heap[gZ]? = some (.cells vs.toArray 28 (0,0))
 rows : ∀ i,i < s.zs.length -> ∃ g,base <= g /\ g < K /\ vs[i]? = some (.slice (some ⟨g,0,none⟩) (s.zs.getD i []).length ((s.zs.getD i []).length + 64)) /\ AI W g (s.zs.getD i []).length
 below : Below base w W
 kp : Kp K w W
 hC : base <= gC /\ gC < K
 hP : base <= gP /\ gP < K
 hb : base <= w.heap.size
theorem SpI.up {base K b : Nat} {w W W' : World} {box : Array Value} {gP gC gZ : Nat} {vs : List Value} {s : Stt} (h : SpI base K b w W box gP gC gZ vs s) (u : Up W W') : SpI base K b w W' box gP gC gZ vs s := by
 obtain ⟨h1,⟨cc,h2,h2'⟩,⟨pc,h3,h3'⟩,h4,h5,h6,h7,h8,h9,h10⟩ := h
 refine ⟨u.heap h1,⟨cc,u.heap h2,h2'⟩,⟨pc,u.heap h3,h3'⟩,u.heap h4,fun i hi=>?_,Below.trans h6 (Below.mono u (Nat.le_trans h10 h6.size)),h7.trans (Kp.up u),h8,h9,h10⟩
 obtain ⟨g,a,b',c,d⟩ := h5 i hi
 exact ⟨g,a,b',c,d.keep (fun _ h=>u.heap h)⟩
theorem SpI.card {base K b : Nat} {w W : World} {box : Array Value} {gP gC gZ : Nat} {vs : List Value} {s : Stt} (h : SpI base K b w W box gP gC gZ vs s) (i : Nat) (y : Int) : SpI base K b w (W.setCell ⟨gC,i * 6,none⟩ (.int .i64 y)) box gP gC gZ vs s := by
 obtain ⟨h1,⟨cc,h2,h2'⟩,⟨pc,h3,h3'⟩,h4,h5,h6,h7,h8,h9,h10⟩ := h
 refine ⟨set_other h1 (heap_ne h1 h2 (by decide)),⟨_,set_cells h2,fun j hj=>?_⟩,⟨pc,set_other h3 (heap_ne h3 h2 (by decide)),h3'⟩,set_other h4 (heap_ne h4 h2 (by decide)),fun j hj=>?_,Below.setCell h6 h8.1 _,h7.trans (Kp.set h8.2),h8,h9,h10⟩
 ·rw [Array.getElem?_setIfInBounds]
  obtain ⟨z,hz⟩ := h2' j hj
  by_cases e : i * 6 = j * 6
  ·rw [if_pos e,e,if_pos (Array.getElem?_eq_some_iff.1 hz).1]
   exact ⟨y,rfl⟩
  ·rw [if_neg e]
   exact ⟨z,hz⟩
 ·obtain ⟨g,a,b',c,d⟩ := h5 j hj
  exact ⟨g,a,b',c,d.keep (fun _ h=>set_other h (heap_ne h h2 (by decide)))⟩
theorem SpI.row {base K b : Nat} {w W : World} {box : Array Value} {gP gC gZ g q k : Nat} {vs : List Value} {s : Stt} (h : SpI base K b w W box gP gC gZ vs s) (hg : AI W g q) (h1b : base <= g) (h2b : g < K) (y : Int) : SpI base K b w (W.setCell ⟨g,k,none⟩ (.int .i64 y)) box gP gC gZ vs s := by
 obtain ⟨h1,⟨cc,h2,h2'⟩,⟨pc,h3,h3'⟩,h4,h5,h6,h7,h8,h9,h10⟩ := h
 obtain ⟨rc,hr,-⟩ := id hg
 refine ⟨set_other h1 (heap_ne h1 hr (by decide)),⟨cc,set_other h2 (heap_ne h2 hr (by decide)),h2'⟩,⟨pc,set_other h3 (heap_ne h3 hr (by decide)),h3'⟩,set_other h4 (heap_ne h4 hr (by decide)),fun j hj=>?_,Below.setCell h6 h1b _,h7.trans (Kp.set h2b),h8,h9,h10⟩
 obtain ⟨g',a,b',c,d⟩ := h5 j hj
 exact ⟨g',a,b',c,d.put hg⟩
end DE
end Go.Proofs.YtodhjjeagmjhdaaGreatDoor
