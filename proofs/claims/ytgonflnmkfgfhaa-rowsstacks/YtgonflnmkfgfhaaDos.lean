
/-
  One call at both stacks: what does answers, out of the two calls' own contracts.
-/
import Derived.Test.YtgonflnmkfgfhaaSNil
import Derived.Test.YtgonflnmkfgfhaaRStu
namespace Go.Proofs.Ytgonflnmkfgfhaa
open Go.RowKit
attribute [local go_sem ↓] Go.wp_at_zero Go.wp_at_succ

namespace DS
/- what is new since w stays -/
def Nw (w W W' : World) : Prop := W.heap.size ≤ W'.heap.size ∧ ∀ b, w.heap.size ≤ b → b < W.heap.size → W'.heap[b]? = W.heap[b]?
theorem Nw.cell {w W W' : World} (h : Nw w W W') {b j : Nat} {x : Value} (hb : w.heap.size ≤ b) (hc : W.cell? ⟨b, j, none⟩ = some x) : W'.cell? ⟨b, j, none⟩ = some x := by
  rw [World.cell?_of_block (w := W) (w' := W') (a := ⟨b, j, none⟩) (h.2 b hb (World.block_lt_of_cell? W _ hc))]; exact hc
def op (k on n : Int) : Value := .agg #[.int .i64 k, .int .i64 on, .int .i64 n]
theorem op_cell (w : World) (a b c : Value) (t : TypeId) : (w.alloc (.cells #[a, b, c] t)).cell? ⟨w.heap.size, 2, none⟩ = some c := by
  have h : (w.alloc (.cells #[a, b, c] t)).heap[w.heap.size]? = some (.cells #[a, b, c] t (0, 0)) := by first | exact Array.getElem?_push_size | simp
  exact (RS.three3 h).2.2.1
set_option maxRecDepth 100000 in
set_option maxHeartbeats 2000000 in
theorem does_do (sp rp hp : Option Addr) (on n : Int) (b : Bool) (M Q : World → Prop) (w : World)
    (H1 : ∀ W, Up w W → Calls Try.prog 15 #[.pointer sp, .int .i64 n] W fun e w1 => e = .returned (.bool b) ∧ M w1 ∧ Nw w W w1)
    (H2 : ∀ w1, M w1 → Calls Try.prog 31 #[.pointer rp, .int .i64 n] w1 fun e w2 => e = .returned (.bool b) ∧ Q w2) :
    Calls Try.prog 8 #[.pointer sp, .pointer rp, op 0 on n, .pointer hp] w fun e w' => e = .returned (.bool true) ∧ Q w' := by
  have HH1 : Hid _ := H1
  have HH2 : Hid _ := H2
  have e0 : (b == b) = true := by cases b <;> rfl
  clear H1 H2
  unfold op
  go_enter Try.func8, Try.ntmps8
  go_wp2_with fail
  refine Calls.mono (HH1.out _ ((Up.refl _).alloc _)) ?_
  rintro e w1 ⟨rfl, hm, hn⟩
  have c2 : w1.cell? ⟨w.heap.size, 2, none⟩ = some (.int .i64 n) := hn.cell (Nat.le_refl _) (op_cell _ _ _ _ _)
  have HM : Hid (M w1) := hm
  clear hm hn HH1
  go_wp2_with fail
  refine Calls.mono (HH2.out _ HM.out) ?_
  rintro e w2 ⟨rfl, hq⟩
  have HQ : Hid (Q w2) := hq
  clear hq c2 HM HH2
  go_wp2
  first | exact ⟨rfl, HQ.out⟩ | (go_ret; exact ⟨rfl, HQ.out⟩) | (go_ret; exact ⟨by simp, HQ.out⟩)
set_option maxRecDepth 100000 in
set_option maxHeartbeats 2000000 in
theorem does_undo (sp rp hp : Option Addr) (on n x : Int) (b : Bool) (M Q : World → Prop) (w : World)
    (H1 : ∀ W, Up w W → Calls Try.prog 12 #[.pointer sp] W fun e w1 => e = .returned (.tuple #[.int .i64 x, .bool b]) ∧ M w1 ∧ Nw w W w1)
    (H2 : ∀ w1, M w1 → Calls Try.prog 32 #[.pointer rp] w1 fun e w2 => e = .returned (.tuple #[.int .i64 x, .bool b]) ∧ Q w2) :
    Calls Try.prog 8 #[.pointer sp, .pointer rp, op 1 on n, .pointer hp] w fun e w' => e = .returned (.bool true) ∧ Q w' := by
  have HH1 : Hid _ := H1
  have HH2 : Hid _ := H2
  have e0 : (b == b) = true := by cases b <;> rfl
  have e1 : (x == x) = true := by simp
  clear H1 H2
  unfold op
  go_enter Try.func8, Try.ntmps8
  go_wp2_with fail
  refine Calls.mono (HH1.out _ ((Up.refl _).alloc _)) ?_
  rintro e w1 ⟨rfl, hm, hn⟩
  have c2 : w1.cell? ⟨w.heap.size, 2, none⟩ = some (.int .i64 n) := hn.cell (Nat.le_refl _) (op_cell _ _ _ _ _)
  have HM : Hid (M w1) := hm
  clear hm hn HH1
  go_wp2_with fail
  refine Calls.mono (HH2.out _ HM.out) ?_
  rintro e w2 ⟨rfl, hq⟩
  have HQ : Hid (Q w2) := hq
  clear hq c2 HM HH2
  go_wp2
  first | exact ⟨rfl, HQ.out⟩ | (go_ret; exact ⟨rfl, HQ.out⟩) | (go_ret; exact ⟨by simp, HQ.out⟩)
set_option maxRecDepth 100000 in
set_option maxHeartbeats 2000000 in
theorem does_redo (sp rp hp : Option Addr) (on n x : Int) (b : Bool) (M Q : World → Prop) (w : World)
    (H1 : ∀ W, Up w W → Calls Try.prog 13 #[.pointer sp] W fun e w1 => e = .returned (.tuple #[.int .i64 x, .bool b]) ∧ M w1 ∧ Nw w W w1)
    (H2 : ∀ w1, M w1 → Calls Try.prog 33 #[.pointer rp] w1 fun e w2 => e = .returned (.tuple #[.int .i64 x, .bool b]) ∧ Q w2) :
    Calls Try.prog 8 #[.pointer sp, .pointer rp, op 2 on n, .pointer hp] w fun e w' => e = .returned (.bool true) ∧ Q w' := by
  have HH1 : Hid _ := H1
  have HH2 : Hid _ := H2
  have e0 : (b == b) = true := by cases b <;> rfl
  have e1 : (x == x) = true := by simp
  clear H1 H2
  unfold op
  go_enter Try.func8, Try.ntmps8
  go_wp2_with fail
  refine Calls.mono (HH1.out _ ((Up.refl _).alloc _)) ?_
  rintro e w1 ⟨rfl, hm, hn⟩
  have c2 : w1.cell? ⟨w.heap.size, 2, none⟩ = some (.int .i64 n) := hn.cell (Nat.le_refl _) (op_cell _ _ _ _ _)
  have HM : Hid (M w1) := hm
  clear hm hn HH1
  go_wp2_with fail
  refine Calls.mono (HH2.out _ HM.out) ?_
  rintro e w2 ⟨rfl, hq⟩
  have HQ : Hid (Q w2) := hq
  clear hq c2 HM HH2
  go_wp2
  first | exact ⟨rfl, HQ.out⟩ | (go_ret; exact ⟨rfl, HQ.out⟩) | (go_ret; exact ⟨by simp, HQ.out⟩)
end DS
end Go.Proofs.Ytgonflnmkfgfhaa
