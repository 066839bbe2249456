
/-
  Lists of instructions: whether two are the same.
-/
import Derived.Test.YtoaaehgnbapibaaDoorWv16
import Derived.Deep.QuietTactic
import Derived.BigQuiet
namespace Go.Proofs.YtoaaehgnbapibaaDoor
open Go.RowKit
attribute [local go_sem ↓] Go.wp_at_zero Go.wp_at_succ
namespace CD
theorem own_il {W : World} {base : Nat} {v : Value} {l : List Ins} (h : W.ownsRow base 28 5 v l.length (ivs l)) : ILs W v l := by
  refine ⟨h.1, ?_⟩
  rcases h.2 with ⟨rfl, h0⟩ | ⟨g, cap, cur, rfl, h1, h2, h3, h4, h5, h6⟩
  · exact ⟨none, 0, by rw [h0], by omega, fun hn => absurd h0 hn⟩
  · refine ⟨_, cap, rfl, h3, fun _ => ⟨g, 0, rfl, fun j hj => ?_⟩⟩
    rw [Nat.zero_add, h.cellAt j (by omega)]
theorem sIns : Tryd.prog.underlying 28 = some (.struct (Tryd.prog.fieldsOf 28)) := by kernel_rfl
theorem hIns : Tryd.prog.stoodInHeld 28 = false := by kernel_rfl
theorem instrSame (x0 x1 x2 x3 x4 : Int) : ∀ W, (binOp .neq 28 (.agg #[.int .i64 x0, .int .u8 x1, .int .i64 x2, .int .i64 x3, .int .i64 x4]) (.agg #[.int .i64 x0, .int .u8 x1, .int .i64 x2, .int .i64 x3, .int .i64 x4])).run Tryd.prog W = .ok (.bool false) W := fun W => by
  have h : (Op.equalIn 10000 28 (.agg #[.int .i64 x0, .int .u8 x1, .int .i64 x2, .int .i64 x3, .int .i64 x4]) (.agg #[.int .i64 x0, .int .u8 x1, .int .i64 x2, .int .i64 x3, .int .i64 x4])).run Tryd.prog W = .ok true W := by
    have u0 := Tryd.underlying3
    have v0 := Tryd.isAgg3
    have z0 := Tryd.sizeOf3
    have u1 := Tryd.underlying5
    have v1 := Tryd.isAgg5
    have z1 := Tryd.sizeOf5
    have u2 := Tryd.underlying2
    have v2 := Tryd.isAgg2
    have z2 := Tryd.sizeOf2
    rw [show (10000 : Nat) = 9999 + 1 from rfl, run_equalIn_agg W 9999 28 _ _ sIns hIns]
    simp only [Program.fieldsOf, Tryd.underlying28]
    go_simp
  rw [run_neq_struct, h]
  simp [Result.andThen]
set_option maxRecDepth 100000 in
set_option maxHeartbeats 8000000 in
theorem eqIns_ (v u : Value) (l : List Ins) (w : World) (hv : ILs w v l) (hu : ILs w u l) (hn : l.length ≤ 1000000000000) :
    Calls Tryd.prog 20 #[v, u] w fun e w' => e = .returned (.bool true) ∧ Up w w' := by
  obtain ⟨a1, k1, rfl, -, h1⟩ := ils_at hv
  obtain ⟨a2, k2, rfl, -, h2⟩ := ils_at hu
  obtain ⟨n, hn0⟩ : ∃ n, n = l.length := ⟨_, rfl⟩
  rw [← hn0] at hn h1 h2 ⊢
  have H1 : Hid (n ≠ 0 → ∃ b off, a1 = some ⟨b, off, none⟩ ∧ ∀ W, Up w W → ∀ i, i < n → W.cell? ⟨b, off + i * 5, none⟩ = some (.int .i64 (l.getD i dI).at_) ∧ W.cell? ⟨b, off + i * 5 + 1, none⟩ = some (.int .u8 (l.getD i dI).op) ∧ W.cell? ⟨b, off + i * 5 + 2, none⟩ = some (.int .i64 (l.getD i dI).a) ∧ W.cell? ⟨b, off + i * 5 + 3, none⟩ = some (.int .i64 (l.getD i dI).b) ∧ W.cell? ⟨b, off + i * 5 + 4, none⟩ = some (.int .i64 (l.getD i dI).c)) := h1
  have H2 : Hid (n ≠ 0 → ∃ b off, a2 = some ⟨b, off, none⟩ ∧ ∀ W, Up w W → ∀ i, i < n → W.cell? ⟨b, off + i * 5, none⟩ = some (.int .i64 (l.getD i dI).at_) ∧ W.cell? ⟨b, off + i * 5 + 1, none⟩ = some (.int .u8 (l.getD i dI).op) ∧ W.cell? ⟨b, off + i * 5 + 2, none⟩ = some (.int .i64 (l.getD i dI).a) ∧ W.cell? ⟨b, off + i * 5 + 3, none⟩ = some (.int .i64 (l.getD i dI).b) ∧ W.cell? ⟨b, off + i * 5 + 4, none⟩ = some (.int .i64 (l.getD i dI).c)) := h2
  clear hv hu h1 h2 hn0
  go_enter Tryd.func20, Tryd.ntmps20
  go_wp2_with fail
  go_loopw [4, 5] (fun s4 s5 wr => ∃ i : Nat, i ≤ n ∧ s4 = .bool false ∧ s5 = .int .i64 i ∧ Up w wr) (fun _ s5 _ => n - (intOf s5).toNat)
  case atStart => exact ⟨0, Nat.zero_le _, rfl, rfl, Up.refl _⟩
  case round =>
    obtain ⟨i, hi, rfl, rfl, hu⟩ := hrel
    have HU : Hid (Up w wr) := hu
    by_cases hlt : i < n
    · have hlt2 : (i : Int) < (n : Int) := by omega
      obtain ⟨b1, o1, rfl, c1⟩ := H1.out (by omega)
      obtain ⟨b2, o2, rfl, c2⟩ := H2.out (by omega)
      obtain ⟨x0, x1, x2, x3, x4⟩ := c1 _ hu i hlt
      obtain ⟨y0, y1, y2, y3, y4⟩ := c2 _ hu i hlt
      have ei : IntKind.i64.wrap ((i : Int) + 1) = ((i + 1 : Nat) : Int) := by rw [IntKind.wrap_i64]; omega
      clear c1 c2 hu
      have hq := instrSame (l.getD i dI).at_ (l.getD i dI).op (l.getD i dI).a (l.getD i dI).b (l.getD i dI).c
      generalize (l.getD i dI).at_ = t1 at *
      generalize (l.getD i dI).op = t2 at *
      generalize (l.getD i dI).a = t3 at *
      generalize (l.getD i dI).b = t4 at *
      generalize (l.getD i dI).c = t5 at *
      go_wp2_with fail
      go_quiet (fail)
      go_wp2
      go_roundw
      case rel => exact ⟨i + 1, by omega, rfl, by go_num, HU.out.drewN nq⟩
      case measure => simp [intOf]; omega
    · have hlt2 : ¬ (i : Int) < (n : Int) := by omega
      go_wp2
      go_ret
      exact ⟨rfl, HU.out⟩
end CD
end Go.Proofs.YtoaaehgnbapibaaDoor
