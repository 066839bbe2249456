
/-
  Lists of tokens: whether two are the same.
-/
import Derived.Test.YtjjikeehifndhaaDoorCu8
namespace Go.Proofs.YtjjikeehifndhaaDoor
open Go.RowKit
attribute [local go_sem ↓] Go.wp_at_zero Go.wp_at_succ
namespace TK
def TLs (W : World) (v : Value) (l : List Tok) : Prop := LC W v 4 l.length (tvs l)
theorem TLs.up {W W' : World} {v : Value} {l : List Tok} (h : TLs W v l) (u : Up W W') : TLs W' v l := LC.up h u
def dt : Tok := ⟨0, [], 0, 0⟩
theorem tvs_get : ∀ (l : List Tok) (i j : Nat), i < l.length → j < 4 → (tvs l)[i * 4 + j]? = (tvs1 (l.getD i dt))[j]?
  | [], i, j, h, _ => by simp at h
  | t :: l, 0, j, _, hj => by
    show (tvs1 t ++ tvs l)[0 * 4 + j]? = (tvs1 t)[j]?
    rw [List.getElem?_append_left (by simp [tvs1]; omega)]
    congr 1
    omega
  | t :: l, i + 1, j, h, hj => by
    show (tvs1 t ++ tvs l)[(i + 1) * 4 + j]? = (tvs1 ((t :: l).getD (i + 1) dt))[j]?
    rw [List.getElem?_append_right (by simp [tvs1]; omega)]
    have h9 := tvs_get l i j (by simpa using h) hj
    rw [show (i + 1) * 4 + j - (tvs1 t).length = i * 4 + j by simp [tvs1]; omega, h9]
    rfl
theorem tl_at {w : World} {v : Value} {l : List Tok} (h : TLs w v l) : ∃ a cap, v = .slice a l.length cap ∧ l.length ≤ cap ∧ (l.length ≠ 0 → ∃ b off, a = some ⟨b, off, none⟩ ∧ ∀ W, Up w W → ∀ i, i < l.length → W.cell? ⟨b, off + i * 4, none⟩ = some (.int .i8 (l.getD i dt).kind) ∧ W.cell? ⟨b, off + i * 4 + 1, none⟩ = some (.string (strOfNums (l.getD i dt).text)) ∧ W.cell? ⟨b, off + i * 4 + 2, none⟩ = some (.int .i64 (l.getD i dt).num) ∧ W.cell? ⟨b, off + i * 4 + 3, none⟩ = some (.int .i64 (l.getD i dt).pos)) := by
  obtain ⟨h0, a, cap, hv, hc, h⟩ := h
  refine ⟨a, cap, hv, hc, fun hn => ?_⟩
  obtain ⟨b, off, ha, hcell⟩ := h hn
  refine ⟨b, off, ha, fun W hu i hi => ?_⟩
  have k : ∀ j, j < 4 → W.cell? ⟨b, off + i * 4 + j, none⟩ = (tvs1 (l.getD i dt))[j]? := fun j hj => by
    have h9 := hcell (i * 4 + j) (by omega)
    rw [tvs_get l i j hi hj, List.getElem?_eq_getElem (by simpa [tvs1] using hj)] at h9
    rw [List.getElem?_eq_getElem (by simpa [tvs1] using hj), Nat.add_assoc]
    exact hu.cell h9
  exact ⟨k 0 (by decide), k 1 (by decide), k 2 (by decide), k 3 (by decide)⟩
theorem own_tl {W : World} {base : Nat} {v : Value} {l : List Tok} (h : W.ownsRow base 63 4 v l.length (tvs l)) : TLs W v l := by
  refine ⟨tvs_len l, ?_⟩
  rcases h.2 with ⟨rfl, h0⟩ | ⟨g, cap, cur, rfl, h1, h2, h3, h4, h5, h6⟩
  · exact ⟨none, 0, by rw [h0], by omega, fun hn => absurd h0 hn⟩
  · refine ⟨_, cap, rfl, h3, fun _ => ⟨g, 0, rfl, fun j hj => ?_⟩⟩
    rw [Nat.zero_add, h.cellAt j (by omega)]
theorem sTok : Tryd.prog.underlying 63 = some (.struct (Tryd.prog.fieldsOf 63)) := by kernel_rfl
theorem hTok : Tryd.prog.stoodInHeld 63 = false := by kernel_rfl
theorem tokSame (k : Int) (s : ByteArray) (n p : Int) : ∀ W, (binOp .neq 63 (.agg #[.int .i8 k, .string s, .int .i64 n, .int .i64 p]) (.agg #[.int .i8 k, .string s, .int .i64 n, .int .i64 p])).run Tryd.prog W = .ok (.bool false) W := fun W => by
  have h : (Op.equalIn 10000 63 (.agg #[.int .i8 k, .string s, .int .i64 n, .int .i64 p]) (.agg #[.int .i8 k, .string s, .int .i64 n, .int .i64 p])).run Tryd.prog W = .ok true W := by
    have u3 := Tryd.underlying3
    have v3 := Tryd.isAgg3
    have z3 := Tryd.sizeOf3
    have u4 := Tryd.underlying61
    have v4 := Tryd.isAgg61
    have z4 := Tryd.sizeOf61
    have u5 := Tryd.underlying9
    have v5 := Tryd.isAgg9
    have z5 := Tryd.sizeOf9
    have u6 := Tryd.underlying2
    have v6 := Tryd.isAgg2
    have z6 := Tryd.sizeOf2
    rw [show (10000 : Nat) = 9999 + 1 from rfl, run_equalIn_agg W 9999 63 _ _ sTok hTok]
    simp only [Program.fieldsOf, Tryd.underlying63]
    go_simp
  rw [run_neq_struct, h]
  simp [Result.andThen]
set_option maxRecDepth 100000 in
set_option maxHeartbeats 8000000 in
theorem eqTok_ (v u : Value) (l : List Tok) (w : World) (hv : TLs w v l) (hu : TLs w u l) (hn : l.length ≤ 4294967296) :
    Calls Tryd.prog 13 #[v, u] w fun e w' => e = .returned (.bool true) ∧ Up w w' := by
  obtain ⟨a1, k1, rfl, -, h1⟩ := tl_at hv
  obtain ⟨a2, k2, rfl, -, h2⟩ := tl_at hu
  obtain ⟨n, hn0⟩ : ∃ n, n = l.length := ⟨_, rfl⟩
  rw [← hn0] at hn h1 h2 ⊢
  have H1 : Hid (n ≠ 0 → ∃ b off, a1 = some ⟨b, off, none⟩ ∧ ∀ W, Up w W → ∀ i, i < n → W.cell? ⟨b, off + i * 4, none⟩ = some (.int .i8 (l.getD i dt).kind) ∧ W.cell? ⟨b, off + i * 4 + 1, none⟩ = some (.string (strOfNums (l.getD i dt).text)) ∧ W.cell? ⟨b, off + i * 4 + 2, none⟩ = some (.int .i64 (l.getD i dt).num) ∧ W.cell? ⟨b, off + i * 4 + 3, none⟩ = some (.int .i64 (l.getD i dt).pos)) := h1
  have H2 : Hid (n ≠ 0 → ∃ b off, a2 = some ⟨b, off, none⟩ ∧ ∀ W, Up w W → ∀ i, i < n → W.cell? ⟨b, off + i * 4, none⟩ = some (.int .i8 (l.getD i dt).kind) ∧ W.cell? ⟨b, off + i * 4 + 1, none⟩ = some (.string (strOfNums (l.getD i dt).text)) ∧ W.cell? ⟨b, off + i * 4 + 2, none⟩ = some (.int .i64 (l.getD i dt).num) ∧ W.cell? ⟨b, off + i * 4 + 3, none⟩ = some (.int .i64 (l.getD i dt).pos)) := h2
  clear hv hu h1 h2 hn0
  go_enter Tryd.func13, Tryd.ntmps13
  go_wp2_with fail
  go_loopw [4, 5] (fun s4 s5 wr => ∃ i : Nat, i ≤ n ∧ s4 = .bool false ∧ s5 = .int .i64 i ∧ Up w wr) (fun _ s5 _ => n - (intOf s5).toNat)
  case atStart => exact ⟨0, Nat.zero_le _, rfl, rfl, Up.refl _⟩
  case round =>
    obtain ⟨i, hi, rfl, rfl, hu⟩ := hrel
    have HU : Hid (Up w wr) := hu
    by_cases hlt : i < n
    · have hlt2 : (i : Int) < (n : Int) := by omega
      obtain ⟨b1, o1, rfl, c1⟩ := H1.out (by omega)
      obtain ⟨b2, o2, rfl, c2⟩ := H2.out (by omega)
      obtain ⟨x0, x1, x2, x3⟩ := c1 _ hu i hlt
      obtain ⟨y0, y1, y2, y3⟩ := c2 _ hu i hlt
      have ei : IntKind.i64.wrap ((i : Int) + 1) = ((i + 1 : Nat) : Int) := by rw [IntKind.wrap_i64]; omega
      clear c1 c2 hu
      have hq := tokSame (l.getD i dt).kind (strOfNums (l.getD i dt).text) (l.getD i dt).num (l.getD i dt).pos
      generalize (l.getD i dt).kind = t1 at *
      generalize strOfNums (l.getD i dt).text = t2 at *
      generalize (l.getD i dt).num = t3 at *
      generalize (l.getD i dt).pos = t4 at *
      go_wp2_with fail
      go_quiet (fail)
      go_wp2
      go_roundw
      case rel => exact ⟨i + 1, by omega, rfl, by go_num, HU.out.drewN nq⟩
      case measure => simp [intOf]; omega
    · have hlt2 : ¬ (i : Int) < (n : Int) := by omega
      go_wp2
      go_ret
      exact ⟨rfl, HU.out⟩
end TK
end Go.Proofs.YtjjikeehifndhaaDoor
