/-
  The document's head and Image.
-/
import Derived.Test.YtmpamcdobhiipaaGreatDoorLb7ToRpt7
namespace Go.Proofs.YtmpamcdobhiipaaGreatDoor
open Go.RowKit
attribute [local go_sem ↓] Go.wp_at_zero Go.wp_at_succ

namespace IM
open Go.Proofs.YtmpamcdobhiipaaGreatDoor.ST
/- the bytes so far, in a row of this call's own -/
def IB (w W0 : World) (B : List Int) (a : Option Addr) (n c : Nat) (W : World) : Prop := n = B.length ∧ W.ownsRow w.heap.size 5 1 (.slice a n c) n (bvs B) ∧ Tk w.heap.size W0 W ∧ Up w W
theorem IB.alloc {w W0 : World} {B : List Int} {a : Option Addr} {n c : Nat} {W : World} (h : IB w W0 B a n c W) (o : Obj) : IB w W0 B a n c (W.alloc o) := ⟨h.1, h.2.1.alloc o, h.2.2.1.trans (Tk.of_up ((Up.refl _).alloc o)), h.2.2.2.alloc o⟩
set_option maxRecDepth 100000 in
theorem rhead_ (w : World) : Calls Tryz.prog 79 #[] w fun r W => r = .returned (.slice (some ⟨w.heap.size, 0, none⟩) 5 5) ∧ W = w.alloc (.cells #[.int .u8 84, .int .u8 66, .int .u8 76, .int .u8 83, .int .u8 1] 5) := by
  go_enter Tryz.func79, Tryz.ntmps79
  go_wp2
  go_ret
  exact ⟨rfl, rfl⟩
theorem own_new (base : Nat) (w : World) (vs : List Value) (e : TypeId) (hb : base ≤ w.heap.size) (hm : vs.length ≤ maxLen) : (w.alloc (.cells vs.toArray e)).ownsRow base e 1 (.slice (some ⟨w.heap.size, 0, none⟩) vs.length vs.length) vs.length vs := by
  refine ⟨by simp, .inr ⟨w.heap.size, vs.length, vs.toArray, rfl, hb, heap_alloc_new _ _, ?_⟩⟩
  simp [hm]
end IM
end Go.Proofs.YtmpamcdobhiipaaGreatDoor
