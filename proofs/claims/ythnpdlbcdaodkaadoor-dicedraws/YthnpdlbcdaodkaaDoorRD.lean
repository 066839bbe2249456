/-
  The document's dice.
-/
import Derived.Test.YthnpdlbcdaodkaaDoorShu
namespace Go.Proofs.YthnpdlbcdaodkaaDoor
open Go.RowKit

def RDie (w : World) (b z : Nat) : Prop := w.heap[b]? = some (.cells #[.int .u64 z, .bool true] 77 (0, 0))
theorem RDie.cell0 {w : World} {b z : Nat} (h : RDie w b z) : w.cell? ⟨b, 0, none⟩ = some (.int .u64 z) := by
  simp [World.cell?, show w.heap[b]? = _ from h]
theorem RDie.cell1 {w : World} {b z : Nat} (h : RDie w b z) : w.cell? ⟨b, 1, none⟩ = some (.bool true) := by
  simp [World.cell?, show w.heap[b]? = _ from h]
theorem RDie.frozen {w : World} {b z : Nat} (h : RDie w b z) (k : Nat) : w.frozen? ⟨b, k, none⟩ = false := by
  simp [World.frozen?, show w.heap[b]? = _ from h]
theorem RDie.set {w : World} {b z : Nat} (h : RDie w b z) (y : Nat) : RDie (w.setCell ⟨b, 0, none⟩ (.int .u64 y)) b y := by
  unfold RDie
  simp only [World.setCell, Array.getElem?_modify]
  rw [show w.heap[b]? = _ from h]
  simp
theorem rnew (z : Nat) (w : World) :
    Calls Tryd.prog 6 #[.int .u64 z] w fun e w' => e = .returned (dieA w.heap.size) ∧ w' = w.alloc (.cells #[.int .u64 z, .bool true] 77) := by
  go_enter Tryd.func6, Tryd.ntmps6
  go_wp2
  go_ret
  exact ⟨rfl, rfl⟩
set_option maxRecDepth 100000 in
theorem rnext (b z : Nat) (w : World) (h : RDie w b z) :
    Calls Tryd.prog 11 #[dieA b] w fun e w' => e = .returned (.int .u64 (mx (stp z) : Nat)) ∧ w' = w.setCell ⟨b, 0, none⟩ (.int .u64 (stp z : Nat)) := by
  have c0 := h.cell0
  have c1 := h.cell1
  have fz := h.frozen 0
  have c2 := (h.set (stp z)).cell0
  have e1 : IntKind.u64.wrap ((z : Int) + 11400714819323198485) = ((stp z : Nat) : Int) := by rw [IntKind.wrap_u64]; unfold stp; omega
  have h1 := mixStep_u64 (stp z) 1073741824 13787848793156543929 (stp_lt z)
  have h2 := mixStep_u64 (mx1 (stp z)) 134217728 10723151780598845931 (mx1_lt _)
  have h3 := xorShift_u64 (mx2 (mx1 (stp z))) 2147483648 (mx2_lt _)
  have H1 : Hid (IntKind.u64.wrap (bits .xor .u64 ((stp z : Nat) : Int) (((stp z : Nat) : Int) / 1073741824) * 13787848793156543929) = (mx1 (stp z) : Nat)) := by unfold Hid mx1; exact h1
  have H2 : Hid (IntKind.u64.wrap (bits .xor .u64 ((mx1 (stp z) : Nat) : Int) (((mx1 (stp z) : Nat) : Int) / 134217728) * 10723151780598845931) = (mx2 (mx1 (stp z)) : Nat)) := by unfold Hid; rw [mx2]; exact h2
  have H3 : Hid (bits .xor .u64 ((mx2 (mx1 (stp z)) : Nat) : Int) (((mx2 (mx1 (stp z)) : Nat) : Int) / 2147483648) = (mx (stp z) : Nat)) := by unfold Hid; rw [mx, mx3]; exact h3
  clear h1 h2 h3
  unfold dieA
  go_enter Tryd.func11, Tryd.ntmps11
  go_wp2
  go_ret
  refine ⟨ret_int ?_, rfl⟩
  rw [H1.out, H2.out]
  exact H3.out
theorem rbelow0 (b z : Nat) (n : Int) (w : World) (hd : RDie w b z) (h : n < 1) :
    Calls Tryd.prog 20 #[dieA b, .int .i64 n] w fun e w' => e = .returned (.int .i64 0) ∧ w' = w := by
  have c1 := hd.cell1
  clear hd
  unfold dieA
  go_enter Tryd.func20, Tryd.ntmps20
  go_wp2
  go_ret
  exact ⟨rfl, rfl⟩
theorem rbelow (b z n : Nat) (w : World) (h : RDie w b z) (h1 : 1 ≤ n) (h2 : n < 9223372036854775808) :
    Calls Tryd.prog 20 #[dieA b, .int .i64 n] w fun e w' => e = .returned (.int .i64 (hiP (mx (stp z)) n : Nat)) ∧ w' = w.setCell ⟨b, 0, none⟩ (.int .u64 (stp z : Nat)) := by
  have HN : Hid (RDie w b z) := h
  have c1 := h.cell1
  have hk := hiP_lt (x := mx (stp z)) (y := n) (mx_lt _)
  have e1 : IntKind.u64.wrap (n : Int) = (n : Int) := wrapN n (by omega)
  have e2 : IntKind.i64.wrap ((hiP (mx (stp z)) n : Nat) : Int) = ((hiP (mx (stp z)) n : Nat) : Int) := IntWalk.i64_in _ ⟨by omega, by omega⟩
  have h1' : ¬ (n : Int) < 1 := by omega
  clear h
  go_enter Tryd.func20, Tryd.ntmps20
  unfold dieA
  go_wp2_with fail
  refine (rnext b z _ HN.out).mono ?_
  rintro e w1 ⟨rfl, rfl⟩
  go_wp2_with fail
  refine (rproduct (mx (stp z)) n (mx_lt _) (by omega) _).mono ?_
  rintro e w2 ⟨rfl, rfl⟩
  go_wp2
  go_ret
  exact ⟨rfl, rfl⟩
theorem rshare (b z : Nat) (w : World) (h : RDie w b z) :
    Calls Tryd.prog 22 #[dieA b] w fun e w' => e = .returned (.float .f64 (shr z)) ∧ w' = w.setCell ⟨b, 0, none⟩ (.int .u64 (stp z : Nat)) := by
  have hm := mx_lt (stp z)
  have c1 := h.cell1
  have HN : Hid (RDie w b z) := h
  clear h
  obtain ⟨q, hqe⟩ : ∃ q, q = mx (stp z) / 2048 := ⟨_, rfl⟩
  have hq : q < 9007199254740992 := by omega
  have e1 : ((mx (stp z) : Nat) : Int) / 2048 = (q : Int) := by omega
  have HS : Hid (shr z = share q) := by unfold Hid shr; rw [hqe]
  rw [HS.out]
  clear hqe
  have hrun := fun (w : World) (t : TypeId) => run_float_arith (P := Tryd.prog) w .quo t .f64 _ _ _ (div53 _ hq)
  unfold flt two53 at hrun
  unfold dieA
  go_enter Tryd.func22, Tryd.ntmps22
  go_wp2_with fail
  refine (rnext b z _ HN.out).mono ?_
  rintro e w1 ⟨rfl, rfl⟩
  go_wp2
  go_ret
  exact ⟨rfl, rfl⟩
theorem rorderLow (b z : Nat) (n : Int) (w : World) (hd : RDie w b z) (h : n < 0) :
    Calls Tryd.prog 24 #[dieA b, .int .i64 n] w fun e w' => e = .returned (.slice none 0 0) ∧ w' = w := by
  have c1 := hd.cell1
  clear hd
  unfold dieA
  go_enter Tryd.func24, Tryd.ntmps24
  go_wp2
  go_ret
  exact ⟨rfl, rfl⟩
theorem orderLow (b z : Nat) (n : Int) (w : World) (h : Die w b z) (hn : n < 0) :
    Calls Tryd.prog 19 #[dieA b, .int .i64 n] w fun e w' => e = .returned (.slice none 0 0) ∧ Up w w' := by
  have hd1 := h.up ((Up.refl w).alloc (.cells #[dieA b] 24))
  have c0 : (w.alloc (.cells #[dieA b] 24)).cell? ⟨w.heap.size, 0, none⟩ = some (dieA b) := by simp
  have HU : Hid (Up w (w.alloc (.cells #[dieA b] 24))) := (Up.refl w).alloc _
  have HD : Hid (Die (w.alloc (.cells #[dieA b] 24)) b z) := hd1
  clear hd1 h
  unfold dieA at HD HU c0 ⊢
  have hmf : ∀ (fn : Fn) (first cap : Array Value) (w : World), (Instr.makeFunc fn first cap).run Tryd.prog w = .ok (.func fn first cap) w := fun _ _ _ _ => rfl
  go_enter Tryd.func19, Tryd.ntmps19
  go_wp2_with fail
  refine (noneD b z _ HD.out).mono ?_
  rintro e w1 ⟨rfl, rfl⟩
  go_wp2_with fail
  refine (shuffleLow n _ _ (.inl hn)).mono ?_
  rintro e w2 ⟨rfl, rfl⟩
  go_wp2
  go_ret
  exact ⟨rfl, HU.out⟩
end Go.Proofs.YthnpdlbcdaodkaaDoor
