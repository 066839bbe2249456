/-
  What the small functions of a heap of pairs do: whose turn it is, which goes ahead.
-/
import Derived.Test.YtnmoaebmopjmhaaBase
import Derived.Test.YtnmoaebmopjmhaaHp
import Derived.Shelf.Abstract
namespace Go.Proofs.Ytnmoaebmopjmhaa
open Go.RowKit
attribute [local go_sem ↓] Go.wp_at_zero Go.wp_at_succ

namespace HQ
abbrev X := Int × ByteArray
def rk (x : X) : Int := x.1
def dx : X := (0, ⟨#[]⟩)
def fl (e : X × Nat) : List Value := [.int .i8 e.1.1, .string e.1.2, .int .i64 e.2]
/- less: a function that tells which of two goes ahead, and leaves all alone -/
def Less (k : Nat) : Prop := (∀ args w, (callFunc k args).run Try.prog w = .ok (.enter k args) w) ∧ ∀ (a b : X) (W : World), Calls Try.prog k #[.agg #[.int .i8 a.1, .string a.2], .agg #[.int .i8 b.1, .string b.2]] W fun e W' => e = .returned (.bool (decide (rk a < rk b))) ∧ Up W W'
def Hd (W : World) (hb k : Nat) (v : Value) (t : Nat) : Prop := W.heap[hb]? = some (.cells #[.func (.func k) #[] #[], v, .int .i64 t, .bool false] 116 (0, 0))
set_option maxHeartbeats 1000000 in
theorem less1 : Less 46 := by
  refine ⟨enters_of Try.func46 (by kernel_rfl) rfl, fun a b W => ?_⟩
  go_enter Try.func46, Try.ntmps46
  go_wp2
  go_ret
  exact ⟨rfl, ((Up.refl _).alloc _).alloc _⟩
theorem fnil (fn : Fn) (f c : Array Value) (w : World) : (binOp .eql 93 (.func fn f c) Value.nilFunc).run Try.prog w = .ok (.bool false) w := by
  have hd : Op.maxDepth = (Op.maxDepth - 1) + 1 := by decide
  simp only [binOp, Op.equal]
  rw [hd]
  simp [Op.equalIn, run_underlying Try.underlying93, Result.andThen, go_sem]
set_option maxHeartbeats 1000000 in
theorem none_ (hb k : Nat) (v : Value) (t : Nat) (w : World) (h : Hd w hb k v t) :
    Calls Try.prog 66 #[.pointer (some ⟨hb, 0, none⟩)] w fun e w' => e = .returned (.bool false) ∧ w' = w := by
  have func_nil := fnil
  obtain ⟨c0, c1, c2, c3, ff⟩ := four_cells h
  go_enter Try.func66, Try.ntmps66
  go_wp2
  go_ret
  exact ⟨rfl, rfl⟩
set_option maxHeartbeats 4000000 in
theorem ask (hb k : Nat) (v : Value) (t : Nat) (a b : X) (w : World) (h : Hd w hb k v t) (hk : Less k) :
    Calls Try.prog 80 #[.pointer (some ⟨hb, 0, none⟩), .agg #[.int .i8 a.1, .string a.2], .agg #[.int .i8 b.1, .string b.2]] w fun e w' => e = .returned (.bool (decide (rk a < rk b))) ∧ Up w w' := by
  obtain ⟨hent, hcall⟩ := hk
  have HC : Hid (∀ (a b : X) (W : World), Calls Try.prog k #[.agg #[.int .i8 a.1, .string a.2], .agg #[.int .i8 b.1, .string b.2]] W fun e W' => e = .returned (.bool (decide (rk a < rk b))) ∧ Up W W') := hcall
  have ub : Up (w.setCell ⟨hb, 3, none⟩ (.bool true)) (((w.setCell ⟨hb, 3, none⟩ (.bool true)).alloc (.cells #[.int .i8 a.1, .string a.2] 82)).alloc (.cells #[.int .i8 b.1, .string b.2] 82)) := ((Up.refl _).alloc _).alloc _
  have hs := ub.heap (set3 h (.bool true))
  have b0 : (((w.setCell ⟨hb, 3, none⟩ (.bool true)).alloc (.cells #[.int .i8 a.1, .string a.2] 82)).alloc (.cells #[.int .i8 b.1, .string b.2] 82)).cell? ⟨w.heap.size, 0, none⟩ = some (.int .i8 a.1) := by rw [cell_first _ _ _ _ _ _ (by simp)]; rfl
  have b1 : (((w.setCell ⟨hb, 3, none⟩ (.bool true)).alloc (.cells #[.int .i8 a.1, .string a.2] 82)).alloc (.cells #[.int .i8 b.1, .string b.2] 82)).cell? ⟨w.heap.size, 1, none⟩ = some (.string a.2) := by rw [cell_first _ _ _ _ _ _ (by simp)]; rfl
  have b2 : (((w.setCell ⟨hb, 3, none⟩ (.bool true)).alloc (.cells #[.int .i8 a.1, .string a.2] 82)).alloc (.cells #[.int .i8 b.1, .string b.2] 82)).cell? ⟨w.heap.size + 1, 0, none⟩ = some (.int .i8 b.1) := by rw [cell_second _ _ _ _ _ _ (by simp)]; rfl
  have b3 : (((w.setCell ⟨hb, 3, none⟩ (.bool true)).alloc (.cells #[.int .i8 a.1, .string a.2] 82)).alloc (.cells #[.int .i8 b.1, .string b.2] 82)).cell? ⟨w.heap.size + 1, 1, none⟩ = some (.string b.2) := by rw [cell_second _ _ _ _ _ _ (by simp)]; rfl
  have HS : Hid _ := hs
  have HH : Hid (w.heap[hb]? = some (.cells #[.func (.func k) #[] #[], v, .int .i64 t, .bool false] 116 (0, 0))) := h
  have HU : Hid _ := ub
  have HB : Hid _ := And.intro b0 (And.intro b1 (And.intro b2 b3))
  obtain ⟨c0, c1, c2, c3, ff⟩ := four_cells h
  have hl : hb < w.heap.size := (Array.getElem?_eq_some_iff.1 h).1
  clear hcall hs h ub b0 b1 b2 b3
  go_enter Try.func80, Try.ntmps80
  go_wp2_with fail
  obtain ⟨d0, _, _, _, _⟩ := four_cells HS.out
  obtain ⟨b0, b1, b2, b3⟩ := HB.out
  have HU1 := HU.out
  have HS1 := HS.out
  clear c0 c1 c2 c3 ff HB HS HU
  generalize ((w.setCell ⟨hb, 3, none⟩ (.bool true)).alloc (.cells #[.int .i8 a.1, .string a.2] 82)).alloc (.cells #[.int .i8 b.1, .string b.2] 82) = W1 at *
  have ur := Up.refl W1
  have HU : Hid _ := HU1
  have HS : Hid (W1.heap[hb]? = some (.cells #[.func (.func k) #[] #[], v, .int .i64 t, .bool true] 116 (0, 0))) := HS1
  clear HU1 HS1
  generalize w.heap.size = n0 at *
  go_region_held3 (fun v => v.cell? ⟨hb, 0, none⟩ = some (.func (.func k) #[] #[]) ∧ v.cell? ⟨n0, 0, none⟩ = some (.int .i8 a.1) ∧ v.cell? ⟨n0, 1, none⟩ = some (.string a.2) ∧ v.cell? ⟨n0 + 1, 0, none⟩ = some (.int .i8 b.1) ∧ v.cell? ⟨n0 + 1, 1, none⟩ = some (.string b.2) ∧ Up W1 v)
    (first | assumption | exact ⟨d0, b0, b1, b2, b3, ur.drew⟩ | (obtain ⟨z0, z1, z2, z3, z4, z5⟩ := ‹_ ∧ _›; exact ⟨u2.cell z0, u2.cell z1, u2.cell z2, u2.cell z3, u2.cell z4, z5.trans u2⟩))
    (first | (refine (HC.out a b _).mono ?_; rintro e w2 ⟨rfl, u2⟩))
  rename_i hZ
  have hs2 := hZ.2.2.2.2.2.heap HS.out
  obtain ⟨e0, e1, e2, e3, g2⟩ := four_cells hs2
  have HF : Hid (Up w (w2.setCell ⟨hb, 3, none⟩ (.bool false))) := ask_up HH.out (Up.refl _) (Up.trans HU.out hZ.2.2.2.2.2)
  clear hs2 u2 hZ
  generalize hr : decide (rk a < rk b) = r at *
  have HR : Hid _ := hr
  clear hr
  go_wp2
  go_ret
  exact ⟨by rw [HR.out]; rfl, HF.out⟩

set_option maxHeartbeats 1000000 in
theorem ahead (hb k : Nat) (v : Value) (t : Nat) (a b : X × Nat) (w : World) (h : Hd w hb k v t) (hk : Less k) :
    Calls Try.prog 75 #[.pointer (some ⟨hb, 0, none⟩), .agg #[.int .i8 a.1.1, .string a.1.2, .int .i64 a.2], .agg #[.int .i8 b.1.1, .string b.1.2, .int .i64 b.2]] w fun e w' => e = .returned (.bool (ahd rk a b)) ∧ Up w w' := by
  have HH : Hid _ := h
  clear h
  by_cases hab : a.2 < b.2
  · rw [ahd_lt rk a b hab]
    have hab' : (a.2 : Int) < (b.2 : Int) := by omega
    go_enter Try.func75, Try.ntmps75
    go_wp2_with fail
    refine (ask hb k v t b.1 a.1 _ (((Up.refl _).alloc _).alloc _ |>.heap HH.out) hk).mono ?_
    rintro e w2 ⟨rfl, u2⟩
    have HF : Hid (Up w w2) := (((Up.refl _).alloc _).alloc _).trans u2
    clear u2
    generalize hr : decide (rk b.1 < rk a.1) = r at *
    have HR : Hid _ := hr
    clear hr
    go_wp2
    go_ret
    exact ⟨by rw [HR.out]; rfl, HF.out⟩
  · rw [ahd_ge rk a b hab]
    have hab' : ¬ (a.2 : Int) < (b.2 : Int) := by omega
    go_enter Try.func75, Try.ntmps75
    go_wp2_with fail
    refine (ask hb k v t a.1 b.1 _ (((Up.refl _).alloc _).alloc _ |>.heap HH.out) hk).mono ?_
    rintro e w2 ⟨rfl, u2⟩
    have HF : Hid (Up w w2) := (((Up.refl _).alloc _).alloc _).trans u2
    clear u2
    generalize hr : decide (rk a.1 < rk b.1) = r at *
    have HR : Hid _ := hr
    clear hr
    go_wp2
    go_ret
    exact ⟨by rw [HR.out]; rfl, HF.out⟩
end HQ
end Go.Proofs.Ytnmoaebmopjmhaa
