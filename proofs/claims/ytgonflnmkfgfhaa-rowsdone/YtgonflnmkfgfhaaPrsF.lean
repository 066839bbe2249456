
/-
  Lists of pairs: samePairs.
-/
import Derived.Test.YtgonflnmkfgfhaaInts
import Derived.Laws.StructEq
namespace Go.Proofs.Ytgonflnmkfgfhaa
open Go.RowKit
attribute [local go_sem ↓] Go.wp_at_zero Go.wp_at_succ

namespace PR
open IN
theorem pairS : Try.prog.underlying 53 = some (.struct (Try.prog.fieldsOf 53)) := by kernel_rfl
theorem pairH : Try.prog.stoodInHeld 53 = false := by kernel_rfl
theorem pairG : Try.prog.eqGuardType Try.prog.depth 53 = false := by kernel_rfl
theorem pairEq (x y : PX) (W : World) : (Op.equalIn 10000 53 (.agg #[.int .i8 x.1, .string x.2]) (.agg #[.int .i8 y.1, .string y.2])).run Try.prog W = .ok (x.1 == y.1 && x.2.toList == y.2.toList) W := by
  have u3 := Try.underlying51
  have a3 := Try.isAgg51
  have z3 := Try.sizeOf51
  have u4 := Try.underlying9
  have a4 := Try.isAgg9
  have z4 := Try.sizeOf9
  rw [show (10000 : Nat) = 9999 + 1 from rfl, run_equalIn_agg W 9999 53 _ _ pairS pairH]
  simp only [Program.fieldsOf, Try.underlying53]
  go_simp
  by_cases h1 : x.fst = y.fst <;> by_cases h2 : x.snd.toList = y.snd.toList <;> simp [h1, h2]
theorem pairNeq (x : PX) (W : World) : (binOp .neq 53 (.agg #[.int .i8 x.1, .string x.2]) (.agg #[.int .i8 x.1, .string x.2])).run Try.prog W = .ok (.bool false) W := by
  rw [run_neq_struct, pairEq x x W]
  simp [Result.andThen]
def peq (x y : PX) : Bool := x.1 == y.1 && x.2.toList == y.2.toList
theorem pairEql (x y : PX) (W : World) : (binOp .eql 53 (.agg #[.int .i8 x.1, .string x.2]) (.agg #[.int .i8 y.1, .string y.2])).run Try.prog W = .ok (.bool (peq x y)) W := by
  rw [run_eql_struct, pairEq x y W]
  simp [Result.andThen, peq]
theorem pairNeq' (x : PX) (W : World) : (binOp .neq 53 (.agg #[.int .i8 x.1, .string x.2]) (.agg #[.int .i8 x.1, .string x.2])).run Try.prog W = .ok (.bool false) W := by
  rw [run_neq_struct, pairEq x x W]
  simp [Result.andThen]
theorem pl_at {w : World} {v : Value} {ps : List PX} (h : PL w v ps) : ∃ a cap, v = .slice a ps.length cap ∧ ps.length ≤ cap ∧ (ps.length ≠ 0 → ∃ b off, a = some ⟨b, off, none⟩ ∧ b < w.heap.size ∧ ∀ W, Up w W → ∀ i, i < ps.length → W.cell? ⟨b, off + i * 2, none⟩ = some (.int .i8 (ps.getD i pdx).1) ∧ W.cell? ⟨b, off + i * 2 + 1, none⟩ = some (.string (ps.getD i pdx).2)) := by
  obtain ⟨a, cap, hv, hc, h⟩ := h
  refine ⟨a, cap, hv, hc, fun hn => ?_⟩
  obtain ⟨b, off, ha, hc⟩ := h hn
  exact ⟨b, off, ha, World.block_lt_of_cell? w _ (hc 0 (by omega)).1, fun W hu i hi => ⟨hu.cell (hc i hi).1, hu.cell (hc i hi).2⟩⟩
set_option maxRecDepth 100000 in
set_option maxHeartbeats 2000000 in
theorem sameP_ (v u : Value) (ps : List PX) (w : World) (hv : PL w v ps) (hu : PL w u ps) (hn : ps.length ≤ 100000000) :
    Calls Try.prog 21 #[v, u] w fun e w' => e = .returned (.bool true) ∧ ∃ m, w' = w.drewN m := by
  obtain ⟨a1, k1, rfl, -, h1⟩ := pl_at hv
  obtain ⟨a2, k2, rfl, -, h2⟩ := pl_at hu
  obtain ⟨n, hn0⟩ : ∃ n, n = ps.length := ⟨_, rfl⟩
  rw [← hn0] at hn h1 h2 ⊢
  have H1 : Hid _ := h1
  have H2 : Hid _ := h2
  clear hv hu h1 h2 hn0
  go_enter Try.func21, Try.ntmps21
  go_wp2
  go_loopw [5] (fun s5 wr => ∃ i : Nat, i ≤ n ∧ s5 = .int .i64 i ∧ ∃ m, wr = w.drewN m) (fun s5 _ => n - (intOf s5).toNat)
  case atStart => exact ⟨0, Nat.zero_le _, rfl, 0, rfl⟩
  case round =>
    obtain ⟨i, hi, rfl, m, hm⟩ := hrel
    have HM : Hid (wr = w.drewN m) := hm
    have huw : Up w wr := by rw [hm]; exact (Up.refl w).drewN m
    clear hm
    by_cases hlt : i < n
    · have hlt2 : (i : Int) < (n : Int) := by omega
      obtain ⟨b1, o1, rfl, -, c1⟩ := H1.out (by omega)
      obtain ⟨b2, o2, rfl, -, c2⟩ := H2.out (by omega)
      obtain ⟨x1, x2⟩ := c1 _ huw i hlt
      obtain ⟨y1, y2⟩ := c2 _ huw i hlt
      have nq := pairNeq' (ps.getD i pdx)
      clear c1 c2
      generalize ps.getD i pdx = z at x1 x2 y1 y2 nq
      go_wp2_with fail
      go_quiet (fail)
      go_wp2
      go_roundw
      case rel => exact ⟨i + 1, by omega, by go_num, m + nq, by rw [HM.out, drewN_two]⟩
      case measure => simp [intOf] <;> omega
    · have hlt2 : ¬ (i : Int) < (n : Int) := by omega
      go_wp2
      go_ret
      exact ⟨rfl, m, HM.out⟩
end PR
end Go.Proofs.Ytgonflnmkfgfhaa
