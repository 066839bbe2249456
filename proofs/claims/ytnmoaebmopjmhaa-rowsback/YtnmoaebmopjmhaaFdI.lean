/-
  What Find does with a list of ints.
-/
import Derived.Test.YtnmoaebmopjmhaaRefI
import Derived.Defers
import Derived.Recover
import Derived.Laws.Pointers
namespace Go.Proofs.Ytnmoaebmopjmhaa
open Go.RowKit
attribute [local go_sem ↓] Go.wp_at_zero Go.wp_at_succ

namespace IN
theorem find_idle (p : Addr) (w : World) :
    CallsD Try.prog 58 #[.pointer (some p)] .returning w fun e u' w' => e = .returned (.tuple #[]) ∧ u' = .returning ∧ w' = w := by
  refine callsD_of_wpS Try.func58 rfl fun c₀ cs hu => ?_
  apply wpS_seq
  apply wpS_region
  simp [wpOpsS, go_sem, recoverD, hu, Try.ntmps58, Exit.thenS]
  refine wpS_cond (t := false) (by simp [Act.eval, Array.replicate]) ?_
  simp only [Bool.false_eq_true, if_false]
  refine wpS_of_wp (wp_skip ?_)
  cases c₀
  simp_all [bodyPostS, results, Try.results58]
set_option maxRecDepth 100000 in
set_option maxHeartbeats 2000000 in
theorem find_ (v : Value) (zs : List Int) (z : Int) (w : World) (hv : LiesI w v zs) (hn : zs.length ≤ 100000000) :
    Calls Try.prog 13 #[v, .int .i64 z] w fun e w' => e = .returned (.int .i64 (fnd zs z zs.length 0)) ∧ Up w w' := by
  have hmf : ∀ (fn : Fn) (first cap : Array Value) (w : World), (Instr.makeFunc fn first cap).run Try.prog w = .ok (.func fn first cap) w := fun _ _ _ _ => rfl
  obtain ⟨a1, k1, rfl, h1⟩ := lies_at hv
  obtain ⟨n, hn0⟩ : ∃ n, n = zs.length := ⟨_, rfl⟩
  obtain ⟨M, hM⟩ : ∃ M, M = fnd zs z n 0 := ⟨_, rfl⟩
  rw [← hn0] at hn h1 ⊢
  rw [← hM]
  have H1 : Hid _ := h1
  have HM : Hid (M = fnd zs z n 0) := hM
  clear hv h1 hn0 hM
  go_enter_defers Try.func13, Try.ntmps13
  go_wp2
  obtain ⟨W1, hW1⟩ : ∃ W, W = w.alloc (.cells #[.int .i64 0] 3) := ⟨_, rfl⟩
  have HU : Hid (Up w W1) := by unfold Hid; rw [hW1]; exact (Up.refl _).alloc _
  have HB : Hid (W1.heap[w.heap.size]? = some (.cells #[.int .i64 0] 3 (0, 0))) := by unfold Hid; rw [hW1]; exact heap_alloc_new w _
  rw [← hW1]
  clear hW1
  have b1 : W1.cell? ⟨w.heap.size, 0, none⟩ = some (.int .i64 0) := by have := HB.out; simp [World.cell?, this]
  have b2 : W1.frozen? ⟨w.heap.size, 0, none⟩ = false := by have := HB.out; simp [World.frozen?, this]
  have b3 : w.heap.size < W1.heap.size := (Array.getElem?_eq_some_iff.1 HB.out).1
  go_loopw [10] (fun s10 wr => ∃ i : Nat, i ≤ n ∧ s10 = .int .i64 i ∧ M = fnd zs z (n - i) i ∧ wr = W1) (fun s10 _ => n - (intOf s10).toNat)
  case atStart => exact ⟨0, Nat.zero_le _, rfl, HM.out, rfl⟩
  case round =>
    obtain ⟨i, hi, rfl, hf, rfl⟩ := hrel
    clear HM
    have HF : Hid (M = fnd zs z (n - i) i) := hf
    clear hf
    by_cases hlt : i < n
    · have hlt2 : (i : Int) < (n : Int) := by omega
      obtain ⟨bb, o1, rfl, -, c1⟩ := H1.out (by omega)
      have x1 := c1 _ HU.out i hlt
      clear c1
      have HF2 : Hid (M = if zs.getD i 0 = z then (i : Int) else fnd zs z (n - (i + 1)) (i + 1)) := by
        unfold Hid
        rw [HF.out, show n - i = n - (i + 1) + 1 by omega, fnd]
      clear HF
      generalize zs.getD i 0 = y at *
      by_cases hyz : y = z
      · subst hyz
        rw [if_pos rfl] at HF2
        have hb : (y == y) = true := by simp
        go_wp2
        refine leaves_cons (f := 58) (args := #[.pointer (some ⟨w.heap.size, 0, none⟩)]) (by simp) (by simp [go_sem]) ?_
        refine (find_idle ⟨w.heap.size, 0, none⟩ _).mono ?_
        rintro e u' w'' ⟨rfl, rfl, rfl⟩
        have hbe : Up w (wr.setCell ⟨w.heap.size, 0, none⟩ (.int .i64 (i : Int))) := Below.setCell HU.out (Nat.le_refl _) _
        simp [Leaves, settle, results, Try.results13, go_sem, HF2.out, hbe, b1]
      · rw [if_neg hyz] at HF2
        have hb : (y == z) = false := beq_eq_false_iff_ne.2 hyz
        go_wp2
        go_roundw
        case rel => exact ⟨i + 1, by omega, by go_num, HF2.out, by first | rfl | trivial⟩
        case measure => simp [intOf] <;> omega
    · have hlt2 : ¬ (i : Int) < (n : Int) := by omega
      have hM2 : M = -1 := by rw [HF.out, show n - i = 0 by omega, fnd]
      have HM2 : Hid (M = -1) := hM2
      clear hM2
      go_wp2
      refine leaves_cons (f := 58) (args := #[.pointer (some ⟨w.heap.size, 0, none⟩)]) (by simp) (by simp [go_sem]) ?_
      refine (find_idle ⟨w.heap.size, 0, none⟩ _).mono ?_
      rintro e u' w'' ⟨rfl, rfl, rfl⟩
      have hbe : Up w (wr.setCell ⟨w.heap.size, 0, none⟩ (.int .i64 (-1))) := Below.setCell HU.out (Nat.le_refl _) _
      simp [Leaves, settle, results, Try.results13, go_sem, HM2.out, hbe, b1]
end IN
end Go.Proofs.Ytnmoaebmopjmhaa
