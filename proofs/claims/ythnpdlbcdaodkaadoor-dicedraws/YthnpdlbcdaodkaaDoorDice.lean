/-
  What the small functions of package dice do: products, draws, numbers below others, shares; of memory the place of the dice alone changes.
-/
import Derived.Test.YthnpdlbcdaodkaaDoorProg
import Derived.Test.YthnpdlbcdaodkaaDoorFlt
import Derived.WalkSpells
import Derived.WalkLawsBesides
import Derived.Handy
import Derived.Below
import Derived.Lib.Mul64
import Derived.Laws.Bits64b
namespace Go.Proofs.YthnpdlbcdaodkaaDoor
open Go.RowKit

theorem ret_int {k : IntKind} {a b : Int} (h : a = b) : Ending.returned (.int k a) = .returned (.int k b) := by rw [h]
def Up (w w' : World) : Prop := Below w.heap.size w w'
theorem Up.refl (w : World) : Up w w := Below.refl _ _
theorem Up.trans {a b c : World} (h : Up a b) (k : Up b c) : Up a c := Below.trans h (Below.mono k h.size)
theorem Up.alloc {a w : World} (h : Up a w) (o : Obj) : Up a (w.alloc o) := Below.alloc h h.size o
theorem Up.drew {a w : World} (h : Up a w) : Up a w.drew := Below.drew h
theorem Up.cell {w w' : World} (h : Up w w') {p : Addr} {v : Value} (hc : w.cell? p = some v) : w'.cell? p = some v := by
  rw [Below.cell h (World.block_lt_of_cell? w p hc)]; exact hc
theorem Up.heap {w w' : World} (h : Up w w') {g : Nat} {o : Obj} (hg : w.heap[g]? = some o) : w'.heap[g]? = some o := by
  rw [h.block g (Array.getElem?_eq_some_iff.1 hg).1]; exact hg

theorem maskN (a : Nat) (ha : a < 18446744073709551616) : bits .and .u64 (a : Int) 4294967295 = ((a % 4294967296 : Nat) : Int) := by
  have h := bits_and_u64_nat a 4294967295 ha (by omega)
  have e : a &&& 4294967295 = a % 4294967296 := Nat.and_two_pow_sub_one_eq_mod a 32
  rw [e] at h
  exact h
theorem divN (a : Nat) : (a : Int) / 4294967296 = ((a / 4294967296 : Nat) : Int) := by omega
theorem mulN (a b : Nat) : (a : Int) * (b : Int) = ((a * b : Nat) : Int) := (Int.natCast_mul a b).symm
theorem addN (a b : Nat) : (a : Int) + (b : Int) = ((a + b : Nat) : Int) := (Int.natCast_add a b).symm
theorem wrapN (a : Nat) (ha : a < 18446744073709551616) : IntKind.u64.wrap (a : Int) = (a : Int) := by rw [IntKind.wrap_u64]; omega
theorem wrapM (a : Nat) : IntKind.u64.wrap (a : Int) = ((a % 18446744073709551616 : Nat) : Int) := by rw [IntKind.wrap_u64]; omega
def hiP (x y : Nat) : Nat := x * y / 18446744073709551616
def loP (x y : Nat) : Nat := x * y % 18446744073709551616
set_option maxHeartbeats 1000000 in
theorem mul64 (x y : Nat) (hx : x < 18446744073709551616) (hy : y < 18446744073709551616) (w : World) :
    Calls Tryd.prog 52 #[.int .u64 x, .int .u64 y] w fun e w' => e = .returned (.tuple #[.int .u64 (hiP x y : Nat), .int .u64 (loP x y : Nat)]) ∧ w' = w := by
  obtain ⟨bd, bt, bw, hhi⟩ := Lib.mul64_hi x y hx hy
  have ba := Lib.half_mul_le (a := x / 4294967296) (b := y / 4294967296) (by omega) (by omega)
  have bb := Lib.half_mul_le (a := x / 4294967296) (b := y % 4294967296) (by omega) (by omega)
  have bc := Lib.half_mul_le (a := x % 4294967296) (b := y / 4294967296) (by omega) (by omega)
  have ba' : x / 4294967296 * (y / 4294967296) < 18446744073709551616 := by omega
  have bb' : x / 4294967296 * (y % 4294967296) < 18446744073709551616 := by omega
  have bc' : x % 4294967296 * (y / 4294967296) < 18446744073709551616 := by omega
  have bh1 : x / 4294967296 * (y / 4294967296) + (x / 4294967296 * (y % 4294967296) + x % 4294967296 * (y % 4294967296) / 4294967296) / 4294967296 < 18446744073709551616 := by omega
  have bh : x / 4294967296 * (y / 4294967296) + (x / 4294967296 * (y % 4294967296) + x % 4294967296 * (y % 4294967296) / 4294967296) / 4294967296 + ((x / 4294967296 * (y % 4294967296) + x % 4294967296 * (y % 4294967296) / 4294967296) % 4294967296 + x % 4294967296 * (y / 4294967296)) / 4294967296 < 18446744073709551616 := by omega
  go_enter Tryd.func52, Tryd.ntmps52
  go_wp2
  simp only [maskN x hx, maskN y hy, divN, mulN, addN, wrapN _ bd, wrapN _ bb', wrapN _ bt, maskN _ bt, wrapN _ bc', wrapN _ bw, wrapN _ ba', wrapN _ bh1, wrapN _ bh, wrapM (x * y)]
  rw [hhi]
  go_ret2
  exact ⟨rfl, rfl⟩
theorem hiP_lt {x y : Nat} (hx : x < 18446744073709551616) : hiP x y ≤ y := by
  unfold hiP
  have : x * y ≤ 18446744073709551616 * y := Nat.mul_le_mul_right _ (by omega)
  have h2 := Nat.div_le_div_right (c := 18446744073709551616) this
  rwa [Nat.mul_div_cancel_left _ (by decide)] at h2
theorem hiP_below {x y : Nat} (hx : x < 18446744073709551616) (hy : 0 < y) : hiP x y < y := by
  unfold hiP
  have : x * y < 18446744073709551616 * y := Nat.mul_lt_mul_of_pos_right hx hy
  exact Nat.div_lt_of_lt_mul this
theorem loP_lt (x y : Nat) : loP x y < 18446744073709551616 := Nat.mod_lt _ (by decide)
theorem product (x y : Nat) (hx : x < 18446744073709551616) (hy : y < 18446744073709551616) (w : World) :
    Calls Tryd.prog 18 #[.int .u64 x, .int .u64 y] w fun e w' => e = .returned (.tuple #[.int .u64 (hiP x y : Nat), .int .u64 (loP x y : Nat)]) ∧ w' = w := by
  go_enter Tryd.func18, Tryd.ntmps18
  go_wp2_with fail
  refine (mul64 x y hx hy _).mono ?_
  rintro e w1 ⟨rfl, rfl⟩
  go_wp2
  go_ret2
  exact ⟨rfl, rfl⟩

def stp (z : Nat) : Nat := (z + 11400714819323198485) % 18446744073709551616
def mx1 (z : Nat) : Nat := (z ^^^ z / 1073741824) * 13787848793156543929 % 18446744073709551616
def mx2 (z : Nat) : Nat := (z ^^^ z / 134217728) * 10723151780598845931 % 18446744073709551616
def mx3 (z : Nat) : Nat := z ^^^ z / 2147483648
def mx (z : Nat) : Nat := mx3 (mx2 (mx1 z))
theorem stp_lt (z : Nat) : stp z < 18446744073709551616 := Nat.mod_lt _ (by decide)
theorem mx1_lt (z : Nat) : mx1 z < 18446744073709551616 := Nat.mod_lt _ (by decide)
theorem mx2_lt (z : Nat) : mx2 z < 18446744073709551616 := Nat.mod_lt _ (by decide)
theorem mx_lt (z : Nat) : mx z < 18446744073709551616 := by
  unfold mx mx3
  exact Nat.xor_lt_two_pow (n := 64) (mx2_lt _) (by have := mx2_lt (mx1 z); omega)
theorem mixed (z : Nat) (hz : z < 18446744073709551616) (w : World) :
    Calls Tryd.prog 50 #[.int .u64 z] w fun e w' => e = .returned (.int .u64 (mx z : Nat)) ∧ w' = w := by
  have h1 := mixStep_u64 z 1073741824 13787848793156543929 hz
  have h2 := mixStep_u64 (mx1 z) 134217728 10723151780598845931 (mx1_lt z)
  have h3 := xorShift_u64 (mx2 (mx1 z)) 2147483648 (mx2_lt _)
  go_enter Tryd.func50, Tryd.ntmps50
  go_wp2
  go_ret
  refine ⟨ret_int ?_, rfl⟩
  have e1 : IntKind.u64.wrap (bits .xor .u64 (z : Int) ((z : Int) / 1073741824) * 13787848793156543929) = (mx1 z : Nat) := h1
  rw [e1]
  have e2 : IntKind.u64.wrap (bits .xor .u64 ((mx1 z : Nat) : Int) (((mx1 z : Nat) : Int) / 134217728) * 10723151780598845931) = (mx2 (mx1 z) : Nat) := h2
  rw [e2]
  exact h3

theorem heap_alloc_last (w : World) (o : Obj) : (w.alloc o).heap[w.heap.size]? = some o := (MapKept.heap_alloc w _).1
attribute [irreducible] stp mx1 mx2 mx3 mx hiP loP
def Die (w : World) (b z : Nat) : Prop := w.heap[b]? = some (.cells #[.int .u64 z, .bool true] 75 (0, 0))
def dieA (b : Nat) : Value := .pointer (some ⟨b, 0, none⟩)
theorem Die.up {w w' : World} {b z : Nat} (h : Die w b z) (u : Up w w') : Die w' b z := u.heap h
theorem Die.new (w : World) (z : Nat) : Die (w.alloc (.cells #[.int .u64 z, .bool true] 75)) w.heap.size z := heap_alloc_last _ _
theorem Die.cell0 {w : World} {b z : Nat} (h : Die w b z) : w.cell? ⟨b, 0, none⟩ = some (.int .u64 z) := by
  simp [World.cell?, show w.heap[b]? = _ from h]
theorem Die.cell1 {w : World} {b z : Nat} (h : Die w b z) : w.cell? ⟨b, 1, none⟩ = some (.bool true) := by
  simp [World.cell?, show w.heap[b]? = _ from h]
theorem Die.frozen {w : World} {b z : Nat} (h : Die w b z) (k : Nat) : w.frozen? ⟨b, k, none⟩ = false := by
  simp [World.frozen?, show w.heap[b]? = _ from h]
theorem Die.set {w : World} {b z : Nat} (h : Die w b z) (y : Nat) : Die (w.setCell ⟨b, 0, none⟩ (.int .u64 y)) b y := by
  unfold Die
  simp only [World.setCell, Array.getElem?_modify]
  rw [show w.heap[b]? = _ from h]
  simp
theorem new (z : Nat) (w : World) :
    Calls Tryd.prog 5 #[.int .u64 z] w fun e w' => e = .returned (dieA w.heap.size) ∧ w' = w.alloc (.cells #[.int .u64 z, .bool true] 75) := by
  go_enter Tryd.func5, Tryd.ntmps5
  go_wp2
  go_ret
  exact ⟨rfl, rfl⟩
theorem noneD (b z : Nat) (w : World) (h : Die w b z) :
    Calls Tryd.prog 49 #[dieA b] w fun e w' => e = .returned (.bool false) ∧ w' = w := by
  have c1 := h.cell1
  unfold dieA
  go_enter Tryd.func49, Tryd.ntmps49
  go_wp2
  go_ret
  exact ⟨rfl, rfl⟩
theorem next (b z : Nat) (w : World) (h : Die w b z) :
    Calls Tryd.prog 10 #[dieA b] w fun e w' => e = .returned (.int .u64 (mx (stp z) : Nat)) ∧ w' = w.setCell ⟨b, 0, none⟩ (.int .u64 (stp z : Nat)) := by
  have c0 := h.cell0
  have fz := h.frozen 0
  have c2 := (h.set (stp z)).cell0
  have HN : Hid (Die w b z) := h
  have e1 : IntKind.u64.wrap ((z : Int) + 11400714819323198485) = ((stp z : Nat) : Int) := by rw [IntKind.wrap_u64]; unfold stp; omega
  unfold dieA
  go_enter Tryd.func10, Tryd.ntmps10
  go_wp2_with fail
  refine (noneD b z _ HN.out).mono ?_
  rintro e w1 ⟨rfl, rfl⟩
  go_wp2_with fail
  refine (mixed (stp z) (stp_lt z) _).mono ?_
  rintro e w2 ⟨rfl, rfl⟩
  go_wp2
  go_ret
  exact ⟨rfl, rfl⟩
theorem below0 (b : Nat) (n : Int) (w : World) (h : n < 1) :
    Calls Tryd.prog 17 #[dieA b, .int .i64 n] w fun e w' => e = .returned (.int .i64 0) ∧ w' = w := by
  unfold dieA
  go_enter Tryd.func17, Tryd.ntmps17
  go_wp2
  go_ret
  exact ⟨rfl, rfl⟩
theorem below (b z n : Nat) (w : World) (h : Die w b z) (h1 : 1 ≤ n) (h2 : n < 9223372036854775808) :
    Calls Tryd.prog 17 #[dieA b, .int .i64 n] w fun e w' => e = .returned (.int .i64 (hiP (mx (stp z)) n : Nat)) ∧ w' = w.setCell ⟨b, 0, none⟩ (.int .u64 (stp z : Nat)) := by
  have HN : Hid (Die w b z) := h
  have hk := hiP_lt (x := mx (stp z)) (y := n) (mx_lt _)
  have e1 : IntKind.u64.wrap (n : Int) = (n : Int) := wrapN n (by omega)
  have e2 : IntKind.i64.wrap ((hiP (mx (stp z)) n : Nat) : Int) = ((hiP (mx (stp z)) n : Nat) : Int) := IntWalk.i64_in _ ⟨by omega, by omega⟩
  clear h
  go_enter Tryd.func17, Tryd.ntmps17
  go_wp2_with fail
  refine (next b z _ HN.out).mono ?_
  rintro e w1 ⟨rfl, rfl⟩
  go_wp2_with fail
  refine (product (mx (stp z)) n (mx_lt _) (by omega) _).mono ?_
  rintro e w2 ⟨rfl, rfl⟩
  go_wp2
  go_ret
  exact ⟨rfl, rfl⟩
def shr (z : Nat) : Nat := share (mx (stp z) / 2048)
theorem shareD (b z : Nat) (w : World) (h : Die w b z) :
    Calls Tryd.prog 21 #[dieA b] w fun e w' => e = .returned (.float .f64 (shr z)) ∧ w' = w.setCell ⟨b, 0, none⟩ (.int .u64 (stp z : Nat)) := by
  have hm := mx_lt (stp z)
  obtain ⟨q, hqe⟩ : ∃ q, q = mx (stp z) / 2048 := ⟨_, rfl⟩
  have hq : q < 9007199254740992 := by omega
  have e1 : ((mx (stp z) : Nat) : Int) / 2048 = (q : Int) := by omega
  have HS : Hid (shr z = share q) := by unfold Hid shr; rw [hqe]
  rw [HS.out]
  clear hqe
  have hrun := fun (w : World) (t : TypeId) => run_float_arith (P := Tryd.prog) w .quo t .f64 _ _ _ (div53 _ hq)
  unfold flt two53 at hrun
  go_enter Tryd.func21, Tryd.ntmps21
  go_wp2_with fail
  refine (next b z _ h).mono ?_
  rintro e w1 ⟨rfl, rfl⟩
  go_wp2
  go_ret
  exact ⟨rfl, rfl⟩
end Go.Proofs.YthnpdlbcdaodkaaDoor
