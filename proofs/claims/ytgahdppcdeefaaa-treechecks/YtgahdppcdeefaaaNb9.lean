
/-
  Lists of nodes: how long, whether they are the same.
-/
import Derived.Test.YtgahdppcdeefaaaNa9
import Derived.Deep.QuietTactic
import Derived.BigQuiet
namespace Go.Proofs.Ytgahdppcdeefaaa
open Go.RowKit
attribute [local go_sem ↓] Go.wp_at_zero Go.wp_at_succ
namespace TR
set_option maxRecDepth 100000 in
set_option maxHeartbeats 8000000 in
theorem sizeN_ (v : Value) (l : List Nd) (w : World) (hv : NLs w v l) (hl : l.length ≤ 140737488355328) (ht : ∀ t ∈ l, t.text.length ≤ 281474976710656) : Calls Try.prog 26 #[v] w fun e w' => (∃ n : Nat, e = .returned (.int .i64 n) ∧ n ≤ 562949953421312) ∧ w' = w := by
  obtain ⟨Post, hPost⟩ : ∃ P : Ending → World → Prop, P = fun e w' => (∃ n : Nat, e = .returned (.int .i64 n) ∧ n ≤ 562949953421312) ∧ w' = w := ⟨_, rfl⟩
  rw [← hPost]
  have HPo : Hid (Post = fun e w' => (∃ n : Nat, e = .returned (.int .i64 n) ∧ n ≤ 562949953421312) ∧ w' = w) := hPost
  clear hPost
  obtain ⟨a, c, rfl, hc, hcell⟩ := nl_at hv
  have HT : Hid (∀ i, i < l.length → (l.getD i dn).text.length ≤ 281474976710656) := fun i hi => ht _ (by rw [List.getD_eq_getElem?_getD, List.getElem?_eq_getElem hi]; exact List.getElem_mem hi)
  have HC : Hid (l.length ≠ 0 → ∃ b off, a = some ⟨b, off, none⟩ ∧ ∀ i, i < l.length → w.cell? ⟨b, off + i * 7 + 4, none⟩ = some (.string (strOfNums (l.getD i dn).text))) := fun h0 => by
    obtain ⟨b, off, h1, h2⟩ := hcell h0
    exact ⟨b, off, h1, fun i hi => h2 w (Up.refl _) i hi 4 _ rfl⟩
  obtain ⟨n, hN⟩ : ∃ n, n = l.length := ⟨_, rfl⟩
  rw [← hN] at hc HT HC hl ⊢
  clear hv ht hcell hN
  go_enter Try.func26, Try.ntmps26
  go_wp2_with fail
  go_loopw [3, 4] (fun s3 s4 W => ∃ (k i : Nat), s3 = .int .i64 k ∧ s4 = .int .i64 i ∧ i ≤ n ∧ k ≤ 562949953421312 ∧ W = w) (fun _ s4 _ => n - (intOf s4).toNat)
  case atStart => exact ⟨n, 0, rfl, rfl, Nat.zero_le _, by omega, rfl⟩
  case round =>
    obtain ⟨k, i, rfl, rfl, hi, hk, rfl⟩ := hrel
    by_cases hlt : i < n
    · have hlt2 : (i : Int) < (n : Int) := by omega
      by_cases hk2 : k ≤ 2147483647
      · have hk3 : (k : Int) ≤ 2147483647 := by omega
        obtain ⟨b, off, rfl, hce⟩ := HC.out (by omega)
        have x1 := hce i hlt
        have hs := HT.out i hlt
        have hsz : (strOfNums (l.getD i dn).text).size = (l.getD i dn).text.length := strOfNums_size _
        rw [← hsz] at hs
        clear hce hsz
        generalize strOfNums (l.getD i dn).text = ys at *
        have e1 : IntKind.i64.wrap ((k : Int) + (ys.size : Int)) = ((k + ys.size : Nat) : Int) := by rw [IntKind.wrap_i64]; omega
        have ei : IntKind.i64.wrap ((i : Int) + 1) = ((i + 1 : Nat) : Int) := by rw [IntKind.wrap_i64]; omega
        go_wp2_with fail
        go_roundw
        case rel => exact ⟨k + ys.size, i + 1, by go_num, by go_num, by omega, by omega, by first | rfl | trivial⟩
        case measure => simp [intOf]; omega
      · have hk3 : ¬ (k : Int) ≤ 2147483647 := by omega
        go_wp2_with fail
        rw [HPo.out]
        exact ⟨⟨k, rfl, hk⟩, rfl⟩
    · have hlt2 : ¬ (i : Int) < (n : Int) := by omega
      go_wp2_with fail
      rw [HPo.out]
      exact ⟨⟨k, rfl, hk⟩, rfl⟩
/- a list of nodes that came in -/
def Ndl (l : List Nd) : Prop := l.length ≤ 140737488355328 ∧ (∀ t ∈ l, t.text.length ≤ 281474976710656) ∧ (∀ a ∈ l, Byt a.text) ∧ ∀ a ∈ l, -9223372036854775808 ≤ a.kids ∧ a.kids ≤ 9223372036854775807
/- beyond: what is let by is not long -/
def BeyR (l : List Nd) (w : World) (e : Ending) (w' : World) : Prop := (∃ b : Bool, e = .returned (.bool b) ∧ (b = false → l.length ≤ 65536)) ∧ w' = w
set_option maxRecDepth 100000 in
set_option maxHeartbeats 8000000 in
theorem beyond_ (v : Value) (l : List Nd) (w : World) (hv : NLs w v l) (hl : l.length ≤ 140737488355328) (ht : ∀ t ∈ l, t.text.length ≤ 281474976710656) : Calls Try.prog 8 #[v] w (BeyR l w) := by
  obtain ⟨Post, hPost⟩ : ∃ P : Ending → World → Prop, P = BeyR l w := ⟨_, rfl⟩
  rw [← hPost]
  have HPo : Hid (Post = BeyR l w) := hPost
  clear hPost
  have HSZ : Hid (Calls Try.prog 26 #[v] w fun e w' => (∃ n : Nat, e = .returned (.int .i64 n) ∧ n ≤ 562949953421312) ∧ w' = w) := sizeN_ v l w hv hl ht
  obtain ⟨a, c, rfl, hc, -⟩ := nl_at hv
  obtain ⟨n, hN⟩ : ∃ n, n = l.length := ⟨_, rfl⟩
  have HN : Hid (n = l.length) := hN
  rw [← hN] at hc hl HSZ ⊢
  clear hv ht hN
  go_enter Try.func8, Try.ntmps8
  go_wp2_with fail
  refine Calls.mono HSZ.out ?_
  rintro e w1 ⟨⟨z, rfl, hz⟩, rfl⟩
  clear HSZ
  go_wp2_with fail
  go_enter Try.func25, Try.ntmps25
  go_wp2_with fail
  all_goals (try (go_ret; skip))
  all_goals go_wp2_with fail
  all_goals rw [HPo.out]
  all_goals (refine ⟨⟨_, rfl, fun h9 => ?_⟩, rfl⟩; have h8 := HN.out; first | omega | (simp at h9; done) | (simp at h9; omega))
theorem sNod : Try.prog.underlying 33 = some (.struct (Try.prog.fieldsOf 33)) := by kernel_rfl
theorem hNod : Try.prog.stoodInHeld 33 = false := by kernel_rfl
theorem nodIn (xo xk xn xm xp xc yo yk yn ym yp yc : Int) (xs ys : ByteArray) (W : World) : (Op.equalIn 10000 33 (.agg #[.int .i8 xo, .int .i8 xk, .int .i64 xn, .int .i64 xm, .string xs, .int .i64 xp, .int .i64 xc]) (.agg #[.int .i8 yo, .int .i8 yk, .int .i64 yn, .int .i64 ym, .string ys, .int .i64 yp, .int .i64 yc])).run Try.prog W = .ok (decide (xo = yo ∧ xk = yk ∧ xn = yn ∧ xm = ym ∧ xs.toList = ys.toList ∧ xp = yp ∧ xc = yc)) W := by
  have u3 := Try.underlying3
  have v3 := Try.isAgg3
  have z3 := Try.sizeOf3
  have u4 := Try.underlying31
  have v4 := Try.isAgg31
  have z4 := Try.sizeOf31
  have u5 := Try.underlying9
  have v5 := Try.isAgg9
  have z5 := Try.sizeOf9
  have u6 := Try.underlying2
  have v6 := Try.isAgg2
  have z6 := Try.sizeOf2
  rw [show (10000 : Nat) = 9999 + 1 from rfl, run_equalIn_agg W 9999 33 _ _ sNod hNod]
  simp only [Program.fieldsOf, Try.underlying33]
  go_simp
  by_cases h0 : xo = yo
  · by_cases h1 : xk = yk
    · by_cases h2 : xn = yn
      · by_cases h3 : xm = ym
        · by_cases h4 : xs.toList = ys.toList
          · by_cases h5 : xp = yp
            · by_cases h6 : xc = yc <;> simp [h0, h1, h2, h3, h4, h5, h6]
            · simp [h0, h1, h2, h3, h4, h5]
          · simp [h0, h1, h2, h3, h4]
        · simp [h0, h1, h2, h3]
      · simp [h0, h1, h2]
    · simp [h0, h1]
  · simp [h0]
theorem nodSame (xo xk xn xm xp xc : Int) (xs : ByteArray) : ∀ W, (binOp .neq 33 (.agg #[.int .i8 xo, .int .i8 xk, .int .i64 xn, .int .i64 xm, .string xs, .int .i64 xp, .int .i64 xc]) (.agg #[.int .i8 xo, .int .i8 xk, .int .i64 xn, .int .i64 xm, .string xs, .int .i64 xp, .int .i64 xc])).run Try.prog W = .ok (.bool false) W := fun W => by
  rw [run_neq_struct, nodIn]
  simp [Result.andThen]
theorem nodIs (xo xk xn xm xp xc yo yk yn ym yp yc : Int) (xs ys : ByteArray) (h : xo = yo ∧ xk = yk ∧ xn = yn ∧ xm = ym ∧ xs.toList = ys.toList ∧ xp = yp ∧ xc = yc) : ∀ W, (binOp .neq 33 (.agg #[.int .i8 xo, .int .i8 xk, .int .i64 xn, .int .i64 xm, .string xs, .int .i64 xp, .int .i64 xc]) (.agg #[.int .i8 yo, .int .i8 yk, .int .i64 yn, .int .i64 ym, .string ys, .int .i64 yp, .int .i64 yc])).run Try.prog W = .ok (.bool false) W := fun W => by
  rw [run_neq_struct, nodIn]
  rw [decide_eq_true h]
  simp [Result.andThen]
theorem nodNot (xo xk xn xm xp xc yo yk yn ym yp yc : Int) (xs ys : ByteArray) (h : ¬ (xo = yo ∧ xk = yk ∧ xn = yn ∧ xm = ym ∧ xs.toList = ys.toList ∧ xp = yp ∧ xc = yc)) : ∀ W, (binOp .neq 33 (.agg #[.int .i8 xo, .int .i8 xk, .int .i64 xn, .int .i64 xm, .string xs, .int .i64 xp, .int .i64 xc]) (.agg #[.int .i8 yo, .int .i8 yk, .int .i64 yn, .int .i64 ym, .string ys, .int .i64 yp, .int .i64 yc])).run Try.prog W = .ok (.bool true) W := fun W => by
  rw [run_neq_struct, nodIn]
  rw [decide_eq_false h]
  simp [Result.andThen]
set_option maxRecDepth 100000 in
set_option maxHeartbeats 8000000 in
theorem eqN_ (v u : Value) (l : List Nd) (w : World) (hv : NLs w v l) (hu : NLs w u l) (hn : l.length ≤ 4294967296) :
    Calls Try.prog 16 #[v, u] w fun e w' => e = .returned (.bool true) ∧ Up w w' := by
  obtain ⟨a1, k1, rfl, -, h1⟩ := nl_at hv
  obtain ⟨a2, k2, rfl, -, h2⟩ := nl_at hu
  obtain ⟨n, hn0⟩ : ∃ n, n = l.length := ⟨_, rfl⟩
  rw [← hn0] at hn h1 h2 ⊢
  have H1 : Hid (n ≠ 0 → ∃ b off, a1 = some ⟨b, off, none⟩ ∧ ∀ W, Up w W → ∀ i, i < n → ∀ j x, (ndc (l.getD i dn))[j]? = some x → W.cell? ⟨b, off + i * 7 + j, none⟩ = some x) := h1
  have H2 : Hid (n ≠ 0 → ∃ b off, a2 = some ⟨b, off, none⟩ ∧ ∀ W, Up w W → ∀ i, i < n → ∀ j x, (ndc (l.getD i dn))[j]? = some x → W.cell? ⟨b, off + i * 7 + j, none⟩ = some x) := h2
  clear hv hu h1 h2 hn0
  go_enter Try.func16, Try.ntmps16
  go_wp2_with fail
  go_loopw [4, 5] (fun s4 s5 wr => ∃ i : Nat, i ≤ n ∧ s4 = .bool false ∧ s5 = .int .i64 i ∧ Up w wr) (fun _ s5 _ => n - (intOf s5).toNat)
  case atStart => exact ⟨0, Nat.zero_le _, rfl, rfl, Up.refl _⟩
  case round =>
    obtain ⟨i, hi, rfl, rfl, hu⟩ := hrel
    have HU : Hid (Up w wr) := hu
    by_cases hlt : i < n
    · have hlt2 : (i : Int) < (n : Int) := by omega
      obtain ⟨b1, o1, rfl, c1⟩ := H1.out (by omega)
      obtain ⟨b2, o2, rfl, c2⟩ := H2.out (by omega)
      have x0 : wr.cell? ⟨b1, o1 + i * 7, none⟩ = some (.int .i8 (l.getD i dn).op) := c1 wr hu i hlt 0 _ rfl
      have x1 : wr.cell? ⟨b1, o1 + i * 7 + 1, none⟩ = some (.int .i8 (l.getD i dn).kind) := c1 wr hu i hlt 1 _ rfl
      have x2 : wr.cell? ⟨b1, o1 + i * 7 + 2, none⟩ = some (.int .i64 (l.getD i dn).n) := c1 wr hu i hlt 2 _ rfl
      have x3 : wr.cell? ⟨b1, o1 + i * 7 + 3, none⟩ = some (.int .i64 (l.getD i dn).m) := c1 wr hu i hlt 3 _ rfl
      have x4 : wr.cell? ⟨b1, o1 + i * 7 + 4, none⟩ = some (.string (strOfNums (l.getD i dn).text)) := c1 wr hu i hlt 4 _ rfl
      have x5 : wr.cell? ⟨b1, o1 + i * 7 + 5, none⟩ = some (.int .i64 (l.getD i dn).pos) := c1 wr hu i hlt 5 _ rfl
      have x6 : wr.cell? ⟨b1, o1 + i * 7 + 6, none⟩ = some (.int .i64 (l.getD i dn).kids) := c1 wr hu i hlt 6 _ rfl
      have y0 : wr.cell? ⟨b2, o2 + i * 7, none⟩ = some (.int .i8 (l.getD i dn).op) := c2 wr hu i hlt 0 _ rfl
      have y1 : wr.cell? ⟨b2, o2 + i * 7 + 1, none⟩ = some (.int .i8 (l.getD i dn).kind) := c2 wr hu i hlt 1 _ rfl
      have y2 : wr.cell? ⟨b2, o2 + i * 7 + 2, none⟩ = some (.int .i64 (l.getD i dn).n) := c2 wr hu i hlt 2 _ rfl
      have y3 : wr.cell? ⟨b2, o2 + i * 7 + 3, none⟩ = some (.int .i64 (l.getD i dn).m) := c2 wr hu i hlt 3 _ rfl
      have y4 : wr.cell? ⟨b2, o2 + i * 7 + 4, none⟩ = some (.string (strOfNums (l.getD i dn).text)) := c2 wr hu i hlt 4 _ rfl
      have y5 : wr.cell? ⟨b2, o2 + i * 7 + 5, none⟩ = some (.int .i64 (l.getD i dn).pos) := c2 wr hu i hlt 5 _ rfl
      have y6 : wr.cell? ⟨b2, o2 + i * 7 + 6, none⟩ = some (.int .i64 (l.getD i dn).kids) := c2 wr hu i hlt 6 _ rfl
      have ei : IntKind.i64.wrap ((i : Int) + 1) = ((i + 1 : Nat) : Int) := by rw [IntKind.wrap_i64]; omega
      clear c1 c2 hu
      have hq := nodSame (l.getD i dn).op (l.getD i dn).kind (l.getD i dn).n (l.getD i dn).m (l.getD i dn).pos (l.getD i dn).kids (strOfNums (l.getD i dn).text)
      generalize (l.getD i dn).op = t1 at *
      generalize (l.getD i dn).kind = t2 at *
      generalize (l.getD i dn).n = t3 at *
      generalize (l.getD i dn).m = t4 at *
      generalize strOfNums (l.getD i dn).text = t5 at *
      generalize (l.getD i dn).pos = t6 at *
      generalize (l.getD i dn).kids = t7 at *
      go_wp2_with fail
      go_quiet (fail)
      go_wp2
      go_roundw
      case rel => exact ⟨i + 1, by omega, rfl, by go_num, HU.out.drewN nq⟩
      case measure => simp [intOf]; omega
    · have hlt2 : ¬ (i : Int) < (n : Int) := by omega
      go_wp2
      go_ret
      exact ⟨rfl, HU.out⟩
end TR
end Go.Proofs.Ytgahdppcdeefaaa
