
/-
  What the small functions of a heap of ints do: whose turn it is, which goes ahead.
-/
import Derived.Test.YtgonflnmkfgfhaaBase
import Derived.Test.YtgonflnmkfgfhaaHp
import Derived.Shelf.Abstract
namespace Go.Proofs.Ytgonflnmkfgfhaa
open Go.RowKit
attribute [local go_sem ↓] Go.wp_at_zero Go.wp_at_succ

namespace HI
abbrev X := Int
def rk (x : X) : Int := x
def dx : X := 0
def fl (e : X × Nat) : List Value := [.int .i64 e.1, .int .i64 e.2]
/- less: a function that tells which of two goes ahead, and leaves all alone -/
def Less (k : Nat) : Prop := (∀ args w, (callFunc k args).run Try.prog w = .ok (.enter k args) w) ∧ ∀ (a b : X) (W : World), Calls Try.prog k #[.int .i64 a, .int .i64 b] W fun e W' => e = .returned (.bool (decide (rk a < rk b))) ∧ Up W W'
def Hd (W : World) (hb k : Nat) (v : Value) (t : Nat) : Prop := W.heap[hb]? = some (.cells #[.func (.func k) #[] #[], v, .int .i64 t, .bool false] 80 (0, 0))
set_option maxHeartbeats 1000000 in
theorem less1 : Less 28 := by
  refine ⟨enters_of Try.func28 (by kernel_rfl) rfl, fun a b W => ?_⟩
  go_enter Try.func28, Try.ntmps28
  go_wp2
  go_ret
  exact ⟨rfl, Up.refl _⟩
theorem fnil (fn : Fn) (f c : Array Value) (w : World) : (binOp .eql 71 (.func fn f c) Value.nilFunc).run Try.prog w = .ok (.bool false) w := by
  have hd : Op.maxDepth = (Op.maxDepth - 1) + 1 := by decide
  simp only [binOp, Op.equal]
  rw [hd]
  simp [Op.equalIn, run_underlying Try.underlying71, Result.andThen, go_sem]
set_option maxHeartbeats 1000000 in
theorem none_ (hb k : Nat) (v : Value) (t : Nat) (w : World) (h : Hd w hb k v t) :
    Calls Try.prog 34 #[.pointer (some ⟨hb, 0, none⟩)] w fun e w' => e = .returned (.bool false) ∧ w' = w := by
  have func_nil := fnil
  obtain ⟨c0, c1, c2, c3, ff⟩ := four_cells h
  go_enter Try.func34, Try.ntmps34
  go_wp2
  go_ret
  exact ⟨rfl, rfl⟩
set_option maxHeartbeats 1000000 in
theorem ask (hb k : Nat) (v : Value) (t : Nat) (a b : X) (w : World) (h : Hd w hb k v t) (hk : Less k) :
    Calls Try.prog 42 #[.pointer (some ⟨hb, 0, none⟩), .int .i64 a, .int .i64 b] w fun e w' => e = .returned (.bool (decide (rk a < rk b))) ∧ Up w w' := by
  obtain ⟨c0, c1, c2, c3, ff⟩ := four_cells h
  obtain ⟨hent, hcall⟩ := hk
  have hs := set3 h (.bool true)
  obtain ⟨d0, d1, d2, d3, gg⟩ := four_cells hs
  have HC : Hid (∀ (a b : X) (W : World), Calls Try.prog k #[.int .i64 a, .int .i64 b] W fun e W' => e = .returned (.bool (decide (rk a < rk b))) ∧ Up W W') := hcall
  have HS : Hid _ := hs
  have HH : Hid _ := h
  clear hcall hs h
  go_enter Try.func42, Try.ntmps42
  go_wp2_with fail
  refine (HC.out a b _).mono ?_
  rintro e w2 ⟨rfl, u2⟩
  have hs2 := u2.heap HS.out
  obtain ⟨e0, e1, e2, e3, g2⟩ := four_cells hs2
  have hfin := ask_up HH.out (Up.refl _) u2
  have HF : Hid _ := hfin
  clear hs2 hfin u2
  generalize hr : decide (rk a < rk b) = r at *
  have HR : Hid _ := hr
  clear hr
  go_wp2
  go_ret
  exact ⟨by rw [HR.out]; rfl, HF.out⟩
set_option maxHeartbeats 1000000 in
theorem ahead (hb k : Nat) (v : Value) (t : Nat) (a b : X × Nat) (w : World) (h : Hd w hb k v t) (hk : Less k) :
    Calls Try.prog 39 #[.pointer (some ⟨hb, 0, none⟩), .agg #[.int .i64 a.1, .int .i64 a.2], .agg #[.int .i64 b.1, .int .i64 b.2]] w fun e w' => e = .returned (.bool (ahd rk a b)) ∧ Up w w' := by
  have HH : Hid _ := h
  clear h
  by_cases hab : a.2 < b.2
  · rw [ahd_lt rk a b hab]
    have hab' : (a.2 : Int) < (b.2 : Int) := by omega
    go_enter Try.func39, Try.ntmps39
    go_wp2_with fail
    refine (ask hb k v t b.1 a.1 _ (((Up.refl _).alloc _).alloc _ |>.heap HH.out) hk).mono ?_
    rintro e w2 ⟨rfl, u2⟩
    have HF : Hid (Up w w2) := (((Up.refl _).alloc _).alloc _).trans u2
    clear u2
    generalize hr : decide (rk b.1 < rk a.1) = r at *
    have HR : Hid _ := hr
    clear hr
    go_wp2
    go_ret
    exact ⟨by rw [HR.out]; rfl, HF.out⟩
  · rw [ahd_ge rk a b hab]
    have hab' : ¬ (a.2 : Int) < (b.2 : Int) := by omega
    go_enter Try.func39, Try.ntmps39
    go_wp2_with fail
    refine (ask hb k v t a.1 b.1 _ (((Up.refl _).alloc _).alloc _ |>.heap HH.out) hk).mono ?_
    rintro e w2 ⟨rfl, u2⟩
    have HF : Hid (Up w w2) := (((Up.refl _).alloc _).alloc _).trans u2
    clear u2
    generalize hr : decide (rk a.1 < rk b.1) = r at *
    have HR : Hid _ := hr
    clear hr
    go_wp2
    go_ret
    exact ⟨by rw [HR.out]; rfl, HF.out⟩
end HI
end Go.Proofs.Ytgonflnmkfgfhaa
