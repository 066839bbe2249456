/-
  Are two lists, two states the same?
-/
import Derived.Test.YtpmdlpjedapbbaaGreatDoorWhToCt
import Derived.Test.YtpmdlpjedapbbaaGreatDoorSlToSm
namespace Go.Proofs.YtpmdlpjedapbbaaGreatDoor
open Go.RowKit
attribute [local go_sem ↓] Go.wp_at_zero Go.wp_at_succ

namespace ST
theorem drewN_two (w : World) (a b : Nat) : (w.drewN a).drewN b = w.drewN (a + b) := by
  simp only [World.drewN, Nat.add_assoc]
theorem eq_at {A : Type} (a b : List A) (d : A) (hl : a.length = b.length) (h : ∀ j, j < a.length → a.getD j d = b.getD j d) : a = b := by
  apply List.ext_getElem hl
  intro j h1 h2
  have := h j h1
  rwa [List.getD_eq_getElem?_getD, List.getD_eq_getElem?_getD, List.getElem?_eq_getElem h1, List.getElem?_eq_getElem h2] at this
set_option maxRecDepth 100000 in
set_option maxHeartbeats 2000000 in
theorem eqInts_ (v u : Value) (a b : List Int) (w : World) (hv : IL w v a) (hu : IL w u b) (hn : a.length ≤ 4294967296) :
    Calls Tryz.prog 79 #[v, u] w fun e w' => e = .returned (.bool (decide (a = b))) ∧ ∃ m, w' = w.drewN m := by
  obtain ⟨a1, k1, rfl, -, h1⟩ := il_at hv
  obtain ⟨a2, k2, rfl, -, h2⟩ := il_at hu
  obtain ⟨R, hR⟩ : ∃ R, R = decide (a = b) := ⟨_, rfl⟩
  rw [← hR]
  have HR : Hid (R = decide (a = b)) := hR
  obtain ⟨n, hn0⟩ : ∃ n, n = a.length := ⟨_, rfl⟩
  obtain ⟨m, hm0⟩ : ∃ n, n = b.length := ⟨_, rfl⟩
  have HN : Hid (n = a.length ∧ m = b.length) := ⟨hn0, hm0⟩
  rw [← hn0] at hn h1 ⊢
  rw [← hm0] at h2 ⊢
  have H1 : Hid _ := h1
  have H2 : Hid _ := h2
  clear hv hu h1 h2 hn0 hm0 hR
  by_cases hl : n = m
  · subst hl
    go_enter Tryz.func79, Tryz.ntmps79
    go_wp2_with fail
    go_loopw [4, 5] (fun s4 s5 wr => ∃ i : Nat, i ≤ n ∧ s4 = .bool false ∧ s5 = .int .i64 i ∧ (∃ k, wr = w.drewN k) ∧ ∀ j, j < i → a.getD j 0 = b.getD j 0) (fun _ s5 _ => n - (intOf s5).toNat)
    case atStart => exact ⟨0, Nat.zero_le _, rfl, rfl, ⟨0, rfl⟩, fun j hj => by omega⟩
    case round =>
      obtain ⟨i, hi, rfl, rfl, ⟨k, hk⟩, hj⟩ := hrel
      have HK : Hid (wr = w.drewN k) := hk
      have huw : Up w wr := by rw [hk]; exact (Up.refl w).drewN k
      have HJ : Hid (∀ j, j < i → a.getD j 0 = b.getD j 0) := hj
      clear hk hj
      by_cases hlt : i < n
      · have hlt2 : (i : Int) < (n : Int) := by omega
        obtain ⟨b1, o1, rfl, c1⟩ := H1.out (by omega)
        obtain ⟨b2, o2, rfl, c2⟩ := H2.out (by omega)
        have x1 := c1 _ huw i hlt
        have x2 := c2 _ huw i hlt
        have HY : Hid ((a.getD i 0 = b.getD i 0 → ∀ j, j < i + 1 → a.getD j 0 = b.getD j 0) ∧ (a.getD i 0 ≠ b.getD i 0 → R = false)) := ⟨fun e j hj => by
          by_cases ej : j = i
          · subst ej; exact e
          · exact HJ.out j (by omega), fun e => by rw [HR.out, decide_eq_false]; rintro rfl; exact e rfl⟩
        clear c1 c2 HJ
        generalize a.getD i 0 = x at x1 HY
        generalize b.getD i 0 = y at x2 HY
        by_cases hxy : x = y
        · subst hxy
          have HF : Hid _ := HY.out.1 rfl
          clear HY
          go_wp2_with fail
          go_quiet (fail)
          go_wp2
          go_roundw
          case rel => exact ⟨i + 1, by omega, rfl, by go_num, ⟨k + nq, by rw [HK.out, drewN_two]⟩, HF.out⟩
          case measure => simp [intOf]; omega
        · have hb : (x != y) = true := by simpa using hxy
          have HF : Hid _ := HY.out.2 hxy
          clear HY
          go_wp2_with fail
          go_quiet (fail)
          go_wp2
          go_ret
          exact ⟨by rw [HF.out]; rfl, k + nq, by rw [HK.out, drewN_two]⟩
      · have hlt2 : ¬ (i : Int) < (n : Int) := by omega
        have HF : Hid (R = true) := by unfold Hid; rw [HR.out, decide_eq_true]; exact eq_at a b 0 (by rw [← HN.out.1, ← HN.out.2]) (fun j hj => HJ.out j (by have := HN.out.1; omega))
        go_wp2
        go_ret
        exact ⟨by rw [HF.out]; rfl, k, HK.out⟩
  · have hl2 : ((n : Int) != (m : Int)) = true := by simp; omega
    have HF : Hid (R = false) := by unfold Hid; rw [HR.out, decide_eq_false]; rintro rfl; exact hl (HN.out.1.trans HN.out.2.symm)
    go_enter Tryz.func79, Tryz.ntmps79
    go_wp2
    go_ret
    exact ⟨by rw [HF.out]; rfl, 0, rfl⟩
theorem sPlayers : Tryz.prog.underlying 44 = some (.struct (Tryz.prog.fieldsOf 44)) := by kernel_rfl
theorem hPlayers : Tryz.prog.stoodInHeld 44 = false := by kernel_rfl
theorem gPlayers : Tryz.prog.eqGuardType Tryz.prog.depth 44 = false := by kernel_rfl
theorem eqInPlayers (x y : Ply) (W : World) : (Op.equalIn 10000 44 (.agg #[.int .i32 x.life, .int .i32 x.energy, .bool x.out]) (.agg #[.int .i32 y.life, .int .i32 y.energy, .bool y.out])).run Tryz.prog W = .ok (decide (x = y)) W := by
  obtain ⟨a0, a1, a2⟩ := x
  obtain ⟨b0, b1, b2⟩ := y
  have u3 := Tryz.underlying3
  have v3 := Tryz.isAgg3
  have z3 := Tryz.sizeOf3
  have u4 := Tryz.underlying21
  have v4 := Tryz.isAgg21
  have z4 := Tryz.sizeOf21
  have u5 := Tryz.underlying4
  have v5 := Tryz.isAgg4
  have z5 := Tryz.sizeOf4
  rw [show (10000 : Nat) = 9999 + 1 from rfl, run_equalIn_agg W 9999 44 _ _ sPlayers hPlayers]
  simp only [Program.fieldsOf, Tryz.underlying44]
  go_simp
  by_cases h0 : a0 = b0 <;> by_cases h1 : a1 = b1 <;> by_cases h2 : a2 = b2 <;> simp [h0, h1, h2]
theorem neqPlayers_same (x : Ply) : ∀ W, (binOp .neq 44 (.agg #[.int .i32 x.life, .int .i32 x.energy, .bool x.out]) (.agg #[.int .i32 x.life, .int .i32 x.energy, .bool x.out])).run Tryz.prog W = .ok (.bool false) W := fun W => by
  rw [run_neq_struct, eqInPlayers x x W]
  simp [Result.andThen]
theorem neqPlayers_not (x y : Ply) (h : x ≠ y) : ∀ W, (binOp .neq 44 (.agg #[.int .i32 x.life, .int .i32 x.energy, .bool x.out]) (.agg #[.int .i32 y.life, .int .i32 y.energy, .bool y.out])).run Tryz.prog W = .ok (.bool true) W := fun W => by
  rw [run_neq_struct, eqInPlayers x y W]
  simp [Result.andThen, h]
set_option maxRecDepth 100000 in
set_option maxHeartbeats 2000000 in
theorem eqPlayers_ (v u : Value) (a b : List Ply) (w : World) (hv : PLs w v a) (hu : PLs w u b) (hn : a.length ≤ 4294967296) :
    Calls Tryz.prog 34 #[v, u] w fun e w' => e = .returned (.bool (decide (a = b))) ∧ ∃ m, w' = w.drewN m := by
  obtain ⟨a1, k1, rfl, -, h1⟩ := pl_at hv
  obtain ⟨a2, k2, rfl, -, h2⟩ := pl_at hu
  obtain ⟨R, hR⟩ : ∃ R, R = decide (a = b) := ⟨_, rfl⟩
  rw [← hR]
  have HR : Hid (R = decide (a = b)) := hR
  obtain ⟨n, hn0⟩ : ∃ n, n = a.length := ⟨_, rfl⟩
  obtain ⟨m, hm0⟩ : ∃ n, n = b.length := ⟨_, rfl⟩
  have HN : Hid (n = a.length ∧ m = b.length) := ⟨hn0, hm0⟩
  rw [← hn0] at hn h1 ⊢
  rw [← hm0] at h2 ⊢
  have H1 : Hid _ := h1
  have H2 : Hid _ := h2
  clear hv hu h1 h2 hn0 hm0 hR
  by_cases hl : n = m
  · subst hl
    go_enter Tryz.func34, Tryz.ntmps34
    go_wp2_with fail
    go_loopw [4, 5] (fun s4 s5 wr => ∃ i : Nat, i ≤ n ∧ s4 = .bool false ∧ s5 = .int .i64 i ∧ (∃ k, wr = w.drewN k) ∧ ∀ j, j < i → a.getD j dp = b.getD j dp) (fun _ s5 _ => n - (intOf s5).toNat)
    case atStart => exact ⟨0, Nat.zero_le _, rfl, rfl, ⟨0, rfl⟩, fun j hj => by omega⟩
    case round =>
      obtain ⟨i, hi, rfl, rfl, ⟨k, hk⟩, hj⟩ := hrel
      have HK : Hid (wr = w.drewN k) := hk
      have huw : Up w wr := by rw [hk]; exact (Up.refl w).drewN k
      have HJ : Hid (∀ j, j < i → a.getD j dp = b.getD j dp) := hj
      clear hk hj
      by_cases hlt : i < n
      · have hlt2 : (i : Int) < (n : Int) := by omega
        obtain ⟨b1, o1, rfl, c1⟩ := H1.out (by omega)
        obtain ⟨b2, o2, rfl, c2⟩ := H2.out (by omega)
        obtain ⟨x0, x1, x2⟩ := c1 _ huw i hlt
        obtain ⟨y0, y1, y2⟩ := c2 _ huw i hlt
        have HY : Hid ((a.getD i dp = b.getD i dp → ∀ j, j < i + 1 → a.getD j dp = b.getD j dp) ∧ (a.getD i dp ≠ b.getD i dp → R = false)) := ⟨fun e j hj => by
          by_cases ej : j = i
          · subst ej; exact e
          · exact HJ.out j (by omega), fun e => by rw [HR.out, decide_eq_false]; rintro rfl; exact e rfl⟩
        clear c1 c2 HJ
        generalize a.getD i dp = x at x0 x1 x2 HY
        generalize b.getD i dp = y at y0 y1 y2 HY
        by_cases hxy : x = y
        · subst hxy
          have HF : Hid _ := HY.out.1 rfl
          clear HY
          have hq := neqPlayers_same x
          go_wp2_with fail
          go_quiet (fail)
          go_wp2
          go_roundw
          case rel => exact ⟨i + 1, by omega, rfl, by go_num, ⟨k + nq, by rw [HK.out, drewN_two]⟩, HF.out⟩
          case measure => simp [intOf]; omega
        · have hq := neqPlayers_not x y hxy
          have HF : Hid _ := HY.out.2 hxy
          clear HY
          go_wp2_with fail
          go_quiet (fail)
          go_wp2
          go_ret
          exact ⟨by rw [HF.out]; rfl, k + nq, by rw [HK.out, drewN_two]⟩
      · have hlt2 : ¬ (i : Int) < (n : Int) := by omega
        have HF : Hid (R = true) := by unfold Hid; rw [HR.out, decide_eq_true]; exact eq_at a b dp (by rw [← HN.out.1, ← HN.out.2]) (fun j hj => HJ.out j (by have := HN.out.1; omega))
        go_wp2
        go_ret
        exact ⟨by rw [HF.out]; rfl, k, HK.out⟩
  · have hl2 : ((n : Int) != (m : Int)) = true := by simp; omega
    have HF : Hid (R = false) := by unfold Hid; rw [HR.out, decide_eq_false]; rintro rfl; exact hl (HN.out.1.trans HN.out.2.symm)
    go_enter Tryz.func34, Tryz.ntmps34
    go_wp2
    go_ret
    exact ⟨by rw [HF.out]; rfl, 0, rfl⟩
theorem sCards : Tryz.prog.underlying 42 = some (.struct (Tryz.prog.fieldsOf 42)) := by kernel_rfl
theorem hCards : Tryz.prog.stoodInHeld 42 = false := by kernel_rfl
theorem gCards : Tryz.prog.eqGuardType Tryz.prog.depth 42 = false := by kernel_rfl
theorem eqInCards (x y : Crd) (W : World) : (Op.equalIn 10000 42 (.agg #[.int .i64 x.kind, .int .i64 x.owner, .int .i32 x.power, .int .i32 x.health, .int .i32 x.damage, .int .i32 x.marks]) (.agg #[.int .i64 y.kind, .int .i64 y.owner, .int .i32 y.power, .int .i32 y.health, .int .i32 y.damage, .int .i32 y.marks])).run Tryz.prog W = .ok (decide (x = y)) W := by
  obtain ⟨a0, a1, a2, a3, a4, a5⟩ := x
  obtain ⟨b0, b1, b2, b3, b4, b5⟩ := y
  have u3 := Tryz.underlying3
  have v3 := Tryz.isAgg3
  have z3 := Tryz.sizeOf3
  have u4 := Tryz.underlying21
  have v4 := Tryz.isAgg21
  have z4 := Tryz.sizeOf21
  have u5 := Tryz.underlying4
  have v5 := Tryz.isAgg4
  have z5 := Tryz.sizeOf4
  rw [show (10000 : Nat) = 9999 + 1 from rfl, run_equalIn_agg W 9999 42 _ _ sCards hCards]
  simp only [Program.fieldsOf, Tryz.underlying42]
  go_simp
  by_cases h0 : a0 = b0 <;> by_cases h1 : a1 = b1 <;> by_cases h2 : a2 = b2 <;> by_cases h3 : a3 = b3 <;> by_cases h4 : a4 = b4 <;> by_cases h5 : a5 = b5 <;> simp [h0, h1, h2, h3, h4, h5]
theorem neqCards_same (x : Crd) : ∀ W, (binOp .neq 42 (.agg #[.int .i64 x.kind, .int .i64 x.owner, .int .i32 x.power, .int .i32 x.health, .int .i32 x.damage, .int .i32 x.marks]) (.agg #[.int .i64 x.kind, .int .i64 x.owner, .int .i32 x.power, .int .i32 x.health, .int .i32 x.damage, .int .i32 x.marks])).run Tryz.prog W = .ok (.bool false) W := fun W => by
  rw [run_neq_struct, eqInCards x x W]
  simp [Result.andThen]
theorem neqCards_not (x y : Crd) (h : x ≠ y) : ∀ W, (binOp .neq 42 (.agg #[.int .i64 x.kind, .int .i64 x.owner, .int .i32 x.power, .int .i32 x.health, .int .i32 x.damage, .int .i32 x.marks]) (.agg #[.int .i64 y.kind, .int .i64 y.owner, .int .i32 y.power, .int .i32 y.health, .int .i32 y.damage, .int .i32 y.marks])).run Tryz.prog W = .ok (.bool true) W := fun W => by
  rw [run_neq_struct, eqInCards x y W]
  simp [Result.andThen, h]
set_option maxRecDepth 100000 in
set_option maxHeartbeats 2000000 in
theorem eqCards_ (v u : Value) (a b : List Crd) (w : World) (hv : CLs w v a) (hu : CLs w u b) (hn : a.length ≤ 4294967296) :
    Calls Tryz.prog 35 #[v, u] w fun e w' => e = .returned (.bool (decide (a = b))) ∧ ∃ m, w' = w.drewN m := by
  obtain ⟨a1, k1, rfl, -, h1⟩ := cl_at hv
  obtain ⟨a2, k2, rfl, -, h2⟩ := cl_at hu
  obtain ⟨R, hR⟩ : ∃ R, R = decide (a = b) := ⟨_, rfl⟩
  rw [← hR]
  have HR : Hid (R = decide (a = b)) := hR
  obtain ⟨n, hn0⟩ : ∃ n, n = a.length := ⟨_, rfl⟩
  obtain ⟨m, hm0⟩ : ∃ n, n = b.length := ⟨_, rfl⟩
  have HN : Hid (n = a.length ∧ m = b.length) := ⟨hn0, hm0⟩
  rw [← hn0] at hn h1 ⊢
  rw [← hm0] at h2 ⊢
  have H1 : Hid _ := h1
  have H2 : Hid _ := h2
  clear hv hu h1 h2 hn0 hm0 hR
  by_cases hl : n = m
  · subst hl
    go_enter Tryz.func35, Tryz.ntmps35
    go_wp2_with fail
    go_loopw [4, 5] (fun s4 s5 wr => ∃ i : Nat, i ≤ n ∧ s4 = .bool false ∧ s5 = .int .i64 i ∧ (∃ k, wr = w.drewN k) ∧ ∀ j, j < i → a.getD j dc = b.getD j dc) (fun _ s5 _ => n - (intOf s5).toNat)
    case atStart => exact ⟨0, Nat.zero_le _, rfl, rfl, ⟨0, rfl⟩, fun j hj => by omega⟩
    case round =>
      obtain ⟨i, hi, rfl, rfl, ⟨k, hk⟩, hj⟩ := hrel
      have HK : Hid (wr = w.drewN k) := hk
      have huw : Up w wr := by rw [hk]; exact (Up.refl w).drewN k
      have HJ : Hid (∀ j, j < i → a.getD j dc = b.getD j dc) := hj
      clear hk hj
      by_cases hlt : i < n
      · have hlt2 : (i : Int) < (n : Int) := by omega
        obtain ⟨b1, o1, rfl, c1⟩ := H1.out (by omega)
        obtain ⟨b2, o2, rfl, c2⟩ := H2.out (by omega)
        obtain ⟨x0, x1, x2, x3, x4, x5⟩ := c1 _ huw i hlt
        obtain ⟨y0, y1, y2, y3, y4, y5⟩ := c2 _ huw i hlt
        have HY : Hid ((a.getD i dc = b.getD i dc → ∀ j, j < i + 1 → a.getD j dc = b.getD j dc) ∧ (a.getD i dc ≠ b.getD i dc → R = false)) := ⟨fun e j hj => by
          by_cases ej : j = i
          · subst ej; exact e
          · exact HJ.out j (by omega), fun e => by rw [HR.out, decide_eq_false]; rintro rfl; exact e rfl⟩
        clear c1 c2 HJ
        generalize a.getD i dc = x at x0 x1 x2 x3 x4 x5 HY
        generalize b.getD i dc = y at y0 y1 y2 y3 y4 y5 HY
        by_cases hxy : x = y
        · subst hxy
          have HF : Hid _ := HY.out.1 rfl
          clear HY
          have hq := neqCards_same x
          go_wp2_with fail
          go_quiet (fail)
          go_wp2
          go_roundw
          case rel => exact ⟨i + 1, by omega, rfl, by go_num, ⟨k + nq, by rw [HK.out, drewN_two]⟩, HF.out⟩
          case measure => simp [intOf]; omega
        · have hq := neqCards_not x y hxy
          have HF : Hid _ := HY.out.2 hxy
          clear HY
          go_wp2_with fail
          go_quiet (fail)
          go_wp2
          go_ret
          exact ⟨by rw [HF.out]; rfl, k + nq, by rw [HK.out, drewN_two]⟩
      · have hlt2 : ¬ (i : Int) < (n : Int) := by omega
        have HF : Hid (R = true) := by unfold Hid; rw [HR.out, decide_eq_true]; exact eq_at a b dc (by rw [← HN.out.1, ← HN.out.2]) (fun j hj => HJ.out j (by have := HN.out.1; omega))
        go_wp2
        go_ret
        exact ⟨by rw [HF.out]; rfl, k, HK.out⟩
  · have hl2 : ((n : Int) != (m : Int)) = true := by simp; omega
    have HF : Hid (R = false) := by unfold Hid; rw [HR.out, decide_eq_false]; rintro rfl; exact hl (HN.out.1.trans HN.out.2.symm)
    go_enter Tryz.func35, Tryz.ntmps35
    go_wp2
    go_ret
    exact ⟨by rw [HF.out]; rfl, 0, rfl⟩
set_option maxRecDepth 100000 in
set_option maxHeartbeats 2000000 in
theorem eqRows_ (v u : Value) (a b : List (List Int)) (w : World) (hv : ZL w v a) (hu : ZL w u b) (hn : a.length ≤ 4294967296) (hl9 : ∀ r, r < a.length → (a.getD r []).length ≤ 4294967296) :
    Calls Tryz.prog 36 #[v, u] w fun e w' => e = .returned (.bool (decide (a = b))) ∧ ∃ m, w' = w.drewN m := by
  obtain ⟨a1, k1, rfl, -, h1⟩ := zl_at hv
  obtain ⟨a2, k2, rfl, -, h2⟩ := zl_at hu
  obtain ⟨R, hR⟩ : ∃ R, R = decide (a = b) := ⟨_, rfl⟩
  rw [← hR]
  have HR : Hid (R = decide (a = b)) := hR
  obtain ⟨n, hn0⟩ : ∃ n, n = a.length := ⟨_, rfl⟩
  obtain ⟨m, hm0⟩ : ∃ n, n = b.length := ⟨_, rfl⟩
  have HN : Hid (n = a.length ∧ m = b.length) := ⟨hn0, hm0⟩
  rw [← hn0] at hn h1 ⊢
  rw [← hm0] at h2 ⊢
  have H1 : Hid _ := h1
  have H2 : Hid _ := h2
  rw [← hn0] at hl9
  have HL9 : Hid _ := hl9
  clear hv hu h1 h2 hn0 hm0 hR hl9
  by_cases hl : n = m
  · subst hl
    go_enter Tryz.func36, Tryz.ntmps36
    go_wp2_with fail
    go_loopw [4, 5] (fun s4 s5 wr => ∃ i : Nat, i ≤ n ∧ s4 = .bool false ∧ s5 = .int .i64 i ∧ (∃ k, wr = w.drewN k) ∧ ∀ j, j < i → a.getD j [] = b.getD j []) (fun _ s5 _ => n - (intOf s5).toNat)
    case atStart => exact ⟨0, Nat.zero_le _, rfl, rfl, ⟨0, rfl⟩, fun j hj => by omega⟩
    case round =>
      obtain ⟨i, hi, rfl, rfl, ⟨k, hk⟩, hj⟩ := hrel
      have HK : Hid (wr = w.drewN k) := hk
      have huw : Up w wr := by rw [hk]; exact (Up.refl w).drewN k
      have HJ : Hid (∀ j, j < i → a.getD j [] = b.getD j []) := hj
      clear hk hj
      by_cases hlt : i < n
      · have hlt2 : (i : Int) < (n : Int) := by omega
        obtain ⟨b1, o1, rfl, c1⟩ := H1.out (by omega)
        obtain ⟨b2, o2, rfl, c2⟩ := H2.out (by omega)
        obtain ⟨ra1, rc1, d1, il1⟩ := c1 i hlt
        obtain ⟨ra2, rc2, d2, il2⟩ := c2 i hlt
        have x1 := d1 _ huw
        have x2 := d2 _ huw
        have HE : Hid (∀ W, Up w W → Calls Tryz.prog 79 #[.slice ra1 (a.getD i []).length rc1, .slice ra2 (b.getD i []).length rc2] W fun e w' => e = .returned (.bool (decide (a.getD i [] = b.getD i []))) ∧ ∃ m, w' = W.drewN m) := fun W u => eqInts_ _ _ _ _ W (il1.up u) (il2.up u) (HL9.out i hlt)
        have HY : Hid ((a.getD i [] = b.getD i [] → ∀ j, j < i + 1 → a.getD j [] = b.getD j []) ∧ (a.getD i [] ≠ b.getD i [] → R = false)) := ⟨fun e j hj => by
          by_cases ej : j = i
          · subst ej; exact e
          · exact HJ.out j (by omega), fun e => by rw [HR.out, decide_eq_false]; rintro rfl; exact e rfl⟩
        clear c1 c2 HJ d1 d2 il1 il2
        generalize a.getD i [] = x at x1 HY HE
        generalize b.getD i [] = y at x2 HY HE
        by_cases hxy : x = y
        · have HF : Hid _ := HY.out.1 hxy
          rw [decide_eq_true hxy] at HE
          clear HY hxy
          go_wp2_with fail
          go_quiet (exact Calls.quiet_of (HE.out _ (huw.drewN _)))
          go_wp2
          go_roundw
          case rel => exact ⟨i + 1, by omega, rfl, by go_num, ⟨k + nq, by rw [HK.out, drewN_two]⟩, HF.out⟩
          case measure => simp [intOf]; omega
        · have HF : Hid _ := HY.out.2 hxy
          rw [decide_eq_false hxy] at HE
          clear HY hxy
          go_wp2_with fail
          go_quiet (exact Calls.quiet_of (HE.out _ (huw.drewN _)))
          go_wp2
          go_ret
          exact ⟨by rw [HF.out]; rfl, k + nq, by rw [HK.out, drewN_two]⟩
      · have hlt2 : ¬ (i : Int) < (n : Int) := by omega
        have HF : Hid (R = true) := by unfold Hid; rw [HR.out, decide_eq_true]; exact eq_at a b [] (by rw [← HN.out.1, ← HN.out.2]) (fun j hj => HJ.out j (by have := HN.out.1; omega))
        go_wp2
        go_ret
        exact ⟨by rw [HF.out]; rfl, k, HK.out⟩
  · have hl2 : ((n : Int) != (m : Int)) = true := by simp; omega
    have HF : Hid (R = false) := by unfold Hid; rw [HR.out, decide_eq_false]; rintro rfl; exact hl (HN.out.1.trans HN.out.2.symm)
    go_enter Tryz.func36, Tryz.ntmps36
    go_wp2
    go_ret
    exact ⟨by rw [HF.out]; rfl, 0, rfl⟩
def eqS (a b : Stt) : Bool := decide (a.turn = b.turn) && decide (a.whose = b.whose) && decide (a.fin = b.fin) && decide (a.winner = b.winner) && decide (a.ps = b.ps) && decide (a.cs = b.cs) && decide (a.zs = b.zs)
set_option maxRecDepth 100000 in
set_option maxHeartbeats 4000000 in
theorem eqState_ (v u : Value) (a b : Stt) (w : World) (hv : StL w v a) (hu : StL w u b) (hsm : Small a) (he : eqS a b = true) :
    Calls Tryz.prog 12 #[v, u] w fun e w' => e = .returned (.bool true) ∧ Up w w' := by
  simp only [eqS, Bool.and_eq_true, decide_eq_true_eq] at he
  obtain ⟨⟨⟨⟨⟨⟨e1, e2⟩, e3⟩, e4⟩, e5⟩, e6⟩, e7⟩ := he
  obtain ⟨vp, vc, vz, rfl, h1, h2, h3⟩ := hv
  obtain ⟨up, uc, uz, rfl, g1, g2, g3⟩ := hu
  have HP : Hid (∀ W, Up w W → Calls Tryz.prog 34 #[vp, up] W fun e w' => e = .returned (.bool true) ∧ ∃ m, w' = W.drewN m) := fun W k => by
    have := eqPlayers_ vp up a.ps b.ps W (h1.up k) (g1.up k) hsm.1
    rwa [decide_eq_true e5] at this
  have HC : Hid (∀ W, Up w W → Calls Tryz.prog 35 #[vc, uc] W fun e w' => e = .returned (.bool true) ∧ ∃ m, w' = W.drewN m) := fun W k => by
    have := eqCards_ vc uc a.cs b.cs W (h2.up k) (g2.up k) hsm.2.1
    rwa [decide_eq_true e6] at this
  have HZ : Hid (∀ W, Up w W → Calls Tryz.prog 36 #[vz, uz] W fun e w' => e = .returned (.bool true) ∧ ∃ m, w' = W.drewN m) := fun W k => by
    have := eqRows_ vz uz a.zs b.zs W (h3.up k) (g3.up k) hsm.2.2.1 hsm.2.2.2
    rwa [decide_eq_true e7] at this
  obtain ⟨a1, k1, rfl, -, -⟩ := lc_at h1
  obtain ⟨a2, k2, rfl, -, -⟩ := lc_at h2
  obtain ⟨a3, k3, rfl, -, -⟩ := zl_at h3
  obtain ⟨b1, l1, rfl, -, -⟩ := lc_at g1
  obtain ⟨b2, l2, rfl, -, -⟩ := lc_at g2
  obtain ⟨b3, l3, rfl, -, -⟩ := zl_at g3
  unfold sv
  rw [← e1, ← e2, ← e3, ← e4]
  clear h1 h2 h3 g1 g2 g3 hsm e1 e2 e3 e4 e5 e6 e7
  go_enter Tryz.func12, Tryz.ntmps12
  go_wp2_with fail
  refine Calls.mono (HP.out _ (((Up.refl _).alloc _).alloc _)) ?_
  rintro e w1 ⟨rfl, m1, rfl⟩
  go_wp2_with fail
  refine Calls.mono (HC.out _ ((((Up.refl _).alloc _).alloc _).drewN _)) ?_
  rintro e w2 ⟨rfl, m2, rfl⟩
  go_wp2_with fail
  refine Calls.mono (HZ.out _ (by first | exact (((Up.refl _).alloc _).alloc _).drewN _ | exact ((((Up.refl _).alloc _).alloc _).drewN _).drewN _)) ?_
  rintro e w3 ⟨rfl, m3, rfl⟩
  go_wp2
  go_ret
  exact ⟨rfl, by first | exact (((Up.refl _).alloc _).alloc _).drewN _ | exact ((((Up.refl _).alloc _).alloc _).drewN _).drewN _⟩
end ST
end Go.Proofs.YtpmdlpjedapbbaaGreatDoor
/-
  States as bytes, no program: what is written, what is read, there and back.
-/
namespace Go.Proofs.YtpmdlpjedapbbaaGreatDoor
namespace IM
def by1 (n : Int) : List Int := [n % 256]
def by2 (n : Int) : List Int := [n / 256 % 256, n % 256]
def by4 (n : Int) : List Int := [n / 16777216 % 256, n / 65536 % 256, n / 256 % 256, n % 256]
def mk : List Int := [84, 66, 76, 83, 1]
def oneI (b : Bool) : Int := if b then 1 else 0
def plyI (p : Ply) : List Int := by4 p.life ++ (by4 p.energy ++ by1 (oneI p.out))
def crdI (c : Crd) : List Int := by2 c.kind ++ (by1 c.owner ++ (by4 c.power ++ (by4 c.health ++ (by4 c.damage ++ by4 c.marks))))
def zonI (z : List Int) : List Int := by2 (z.length : Int) ++ z.flatMap by2
def img (s : Stt) : List Int := mk ++ (by1 (s.ps.length : Int) ++ (s.ps.flatMap plyI ++ (by2 (s.cs.length : Int) ++ (s.cs.flatMap crdI ++ (s.zs.flatMap zonI ++ (by4 s.turn ++ (by1 s.whose ++ (by1 s.fin ++ by1 s.winner))))))))

/- reading: of what is left, the thing and what is left behind it; or how much is left where the fault is -/
abbrev Rdr (α : Type) := List Int → Except Nat (α × List Int)
def bnd {α β : Type} (p : Rdr α) (f : α → Rdr β) : Rdr β := fun l => match p l with
  | .error r => .error r
  | .ok (x, l') => f x l'
def ret {α : Type} (x : α) : Rdr α := fun l => .ok (x, l)
def rep {α : Type} (p : Rdr α) : Nat → Rdr (List α)
  | 0 => ret []
  | n + 1 => bnd p fun x => bnd (rep p n) fun xs => ret (x :: xs)
def Byt (l : List Int) : Prop := ∀ c ∈ l, 0 ≤ c ∧ c < 256
theorem Byt.right {a b : List Int} (h : Byt (a ++ b)) : Byt b := fun c hc => h c (List.mem_append_right _ hc)
def num1 : Rdr Int
  | a :: l => .ok (a, l)
  | l => .error l.length
def num2 : Rdr Int
  | a :: b :: l => .ok (256 * a + b, l)
  | l => .error l.length
def sg (n : Int) : Int := if n < 2147483648 then n else n - 4294967296
def sg4 : Rdr Int
  | a :: b :: c :: d :: l => .ok (sg (16777216 * a + 65536 * b + 256 * c + d), l)
  | l => .error l.length
def flag : Rdr Bool
  | a :: l => if a > 1 then .error (l.length + 1) else .ok (decide (a = 1), l)
  | [] => .error 0
def mkb (c : Int) : Rdr Unit
  | a :: l => if a = c then .ok ((), l) else .error (l.length + 1)
  | [] => .error 0
def rdP : Rdr Ply := bnd sg4 fun a => bnd sg4 fun b => bnd flag fun c => ret ⟨a, b, c⟩
def rdC : Rdr Crd := bnd num2 fun a => bnd num1 fun b => bnd sg4 fun c => bnd sg4 fun d => bnd sg4 fun e => bnd sg4 fun f => ret ⟨a, b, c, d, e, f⟩
def rdZ : Rdr (List Int) := bnd num2 fun n => rep num2 n.toNat
def i8 (n : Int) : Int := if n < 128 then n else n - 256
def rdT (ps : List Ply) (cs : List Crd) (zs : List (List Int)) : Rdr Stt := bnd sg4 fun a => bnd num1 fun b => bnd num1 fun c => bnd num1 fun d => ret ⟨ps, cs, zs, a, b, i8 c, d⟩
def rdM : Rdr Unit := bnd (mkb 84) fun _ => bnd (mkb 66) fun _ => bnd (mkb 76) fun _ => bnd (mkb 83) fun _ => mkb 1
def rdS : Rdr Stt := bnd rdM fun _ => bnd num1 fun n => bnd (rep rdP n.toNat) fun ps => bnd num2 fun m => bnd (rep rdC m.toNat) fun cs => bnd (rep rdZ (4 * n.toNat)) fun zs => rdT ps cs zs

structure Gd {α : Type} (p : Rdr α) (e : α → List Int) (O Q : α → Prop) : Prop where
  oq : ∀ x, O x → Q x
  there : ∀ x, O x → ∀ l, p (e x ++ l) = .ok (x, l)
  cut : ∀ x, O x → ∀ k, k < (e x).length → ∃ r, p ((e x).take k) = .error r ∧ r ≤ 3
  back : ∀ l, Byt l → ∀ x l', p l = .ok (x, l') → l = e x ++ l' ∧ Q x
structure Ls {α : Type} (p : Rdr α) : Prop where
  err : ∀ l r, p l = .error r → r ≤ l.length
  ok : ∀ l x l', p l = .ok (x, l') → l'.length ≤ l.length
theorem bnd_ok {α β : Type} {p : Rdr α} {f : α → Rdr β} {l l' : List Int} {y : β} (h : bnd p f l = .ok (y, l')) : ∃ x l1, p l = .ok (x, l1) ∧ f x l1 = .ok (y, l') := by
  unfold bnd at h
  cases hp : p l with
  | error r => rw [hp] at h; cases h
  | ok v => rw [hp] at h; exact ⟨v.1, v.2, rfl, h⟩
theorem bnd_go {α β : Type} {p : Rdr α} {f : α → Rdr β} {l l1 : List Int} {x : α} (h : p l = .ok (x, l1)) : bnd p f l = f x l1 := by
  unfold bnd; rw [h]
theorem bnd_no {α β : Type} {p : Rdr α} {f : α → Rdr β} {l : List Int} {r : Nat} (h : p l = .error r) : bnd p f l = .error r := by
  unfold bnd; rw [h]
theorem Ls.bnd {α β : Type} {p : Rdr α} {f : α → Rdr β} (hp : Ls p) (hf : ∀ x, Ls (f x)) : Ls (bnd p f) := by
  constructor
  · intro l r h
    cases hq : p l with
    | error r' => rw [bnd_no hq] at h; cases h; exact hp.err l r hq
    | ok v =>
      obtain ⟨x, l1⟩ := v
      rw [bnd_go hq] at h
      exact Nat.le_trans ((hf x).err l1 r h) (hp.ok l x l1 hq)
  · intro l y l' h
    obtain ⟨x, l1, h1, h2⟩ := bnd_ok h
    exact Nat.le_trans ((hf x).ok l1 y l' h2) (hp.ok l x l1 h1)
theorem Ls.ret {α : Type} (x : α) : Ls (ret x) := ⟨fun l r h => (by cases h), fun l y l' h => by cases h; exact Nat.le_refl _⟩
theorem Ls.rep {α : Type} {p : Rdr α} (hp : Ls p) : ∀ n, Ls (rep p n)
  | 0 => Ls.ret _
  | n + 1 => hp.bnd fun _ => (Ls.rep hp n).bnd fun _ => Ls.ret _
theorem Gd.bnd {α β : Type} {p : Rdr α} {f : α → Rdr β} {e : α → List Int} {O Q : α → Prop} {e' : α → β → List Int} {O' Q' : α → β → Prop} (hp : Gd p e O Q) (h : β → α) (hf : ∀ x, Q x → Gd (f x) (e' x) (O' x) (Q' x)) (hh : ∀ x y, Q x → Q' x y → h y = x) :
    Gd (bnd p f) (fun y => e (h y) ++ e' (h y) y) (fun y => O (h y) ∧ O' (h y) y) (fun y => Q (h y) ∧ Q' (h y) y) := by
  constructor
  · exact fun y ⟨h1, h2⟩ => ⟨hp.oq _ h1, (hf _ (hp.oq _ h1)).oq _ h2⟩
  · intro y ⟨h1, h2⟩ l
    rw [List.append_assoc, bnd_go (hp.there _ h1 _)]
    exact (hf _ (hp.oq _ h1)).there _ h2 _
  · intro y ⟨h1, h2⟩ k hk
    rw [List.length_append] at hk
    rw [List.take_append]
    by_cases hc : k < (e (h y)).length
    · obtain ⟨r, hr, hr3⟩ := hp.cut _ h1 k hc
      rw [show k - (e (h y)).length = 0 by omega, List.take_zero, List.append_nil]
      exact ⟨r, bnd_no hr, hr3⟩
    · rw [List.take_of_length_le (by omega), bnd_go (hp.there _ h1 _)]
      exact (hf _ (hp.oq _ h1)).cut _ h2 _ (by omega)
  · intro l hl y l' hy
    obtain ⟨x, l1, h1, h2⟩ := bnd_ok hy
    obtain ⟨e1, q1⟩ := hp.back l hl x l1 h1
    rw [e1] at hl
    obtain ⟨e2, q2⟩ := (hf x q1).back l1 hl.right y l' h2
    have := hh x y q1 q2
    rw [this, List.append_assoc, ← e2]
    exact ⟨e1, q1, q2⟩
theorem Gd.ret {α : Type} (x : α) : Gd (ret x) (fun _ => []) (fun y => y = x) (fun y => y = x) := by
  constructor
  · exact fun _ h => h
  · rintro y rfl l; rfl
  · intro y _ k hk; exact absurd hk (Nat.not_lt_zero k)
  · intro l _ y l' h; cases h; exact ⟨rfl, rfl⟩
theorem Gd.last {α β : Type} {p : Rdr α} {e : α → List Int} {O Q : α → Prop} (hp : Gd p e O Q) (k : α → β) (h : β → α) (hk : ∀ x, h (k x) = x) :
    Gd (IM.bnd p fun x => IM.ret (k x)) (fun y => e (h y)) (fun y => O (h y) ∧ y = k (h y)) (fun y => Q (h y) ∧ y = k (h y)) := by
  constructor
  · exact fun y h => ⟨hp.oq _ h.1, h.2⟩
  · intro y ⟨h1, h2⟩ l
    rw [bnd_go (hp.there _ h1 _), ← h2]
    rfl
  · intro y ⟨h1, h2⟩ n hn
    obtain ⟨r, hr, hr3⟩ := hp.cut _ h1 n hn
    exact ⟨r, bnd_no hr, hr3⟩
  · intro l hl y l' hy
    obtain ⟨x, l1, h1, h2⟩ := bnd_ok hy
    obtain ⟨e1, q1⟩ := hp.back l hl x l1 h1
    cases h2
    rw [hk x]
    exact ⟨e1, q1, rfl⟩
theorem Gd.as {α : Type} {p : Rdr α} {e e' : α → List Int} {O Q O' Q' : α → Prop} (h : Gd p e O Q) (he : ∀ x, Q x → e x = e' x) (hO : ∀ x, O' x → O x) (hQ : ∀ x, Q x → Q' x) : Gd p e' O' Q' := by
  constructor
  · exact fun x hx => hQ x (h.oq x (hO x hx))
  · intro x hx l; rw [← he x (h.oq x (hO x hx))]; exact h.there x (hO x hx) l
  · intro x hx k hk
    rw [← he x (h.oq x (hO x hx))] at hk ⊢
    exact h.cut x (hO x hx) k hk
  · intro l hl x l' hx
    obtain ⟨h1, h2⟩ := h.back l hl x l' hx
    exact ⟨by rw [← he x h2]; exact h1, hQ x h2⟩
theorem Gd.rep {α : Type} {p : Rdr α} {e : α → List Int} {O Q : α → Prop} (hp : Gd p e O Q) : ∀ n, Gd (rep p n) (fun l => l.flatMap e) (fun l => l.length = n ∧ ∀ x ∈ l, O x) (fun l => l.length = n ∧ ∀ x ∈ l, Q x)
  | 0 => (Gd.ret (α := List α) []).as (fun x hx => by subst hx; rfl) (fun x hx => List.length_eq_zero_iff.1 hx.1) (fun x hx => by subst hx; exact ⟨rfl, fun x hx => absurd hx List.not_mem_nil⟩)
  | n + 1 => by
    constructor
    · exact fun l h => ⟨h.1, fun x hx => hp.oq x (h.2 x hx)⟩
    · intro l ⟨h1, h2⟩ l2
      match l, h1, h2 with
      | x :: xs, h1, h2 =>
        simp only [IM.rep, List.flatMap_cons, List.append_assoc]
        rw [bnd_go (hp.there x (h2 x (List.mem_cons_self)) _), bnd_go ((Gd.rep hp n).there xs ⟨by simpa using h1, fun y hy => h2 y (List.mem_cons_of_mem _ hy)⟩ _)]
        rfl
    · intro l ⟨h1, h2⟩ k hk
      match l, h1, h2, hk with
      | x :: xs, h1, h2, hk =>
        rw [List.flatMap_cons, List.length_append] at hk
        rw [List.flatMap_cons, List.take_append]
        have hx := h2 x (List.mem_cons_self)
        by_cases hc : k < (e x).length
        · obtain ⟨r, hr, hr3⟩ := hp.cut _ hx k hc
          rw [show k - (e x).length = 0 by omega, List.take_zero, List.append_nil]
          exact ⟨r, bnd_no hr, hr3⟩
        · rw [List.take_of_length_le (by omega)]
          obtain ⟨r, hr, hr3⟩ := (Gd.rep hp n).cut xs ⟨by simpa using h1, fun y hy => h2 y (List.mem_cons_of_mem _ hy)⟩ (k - (e x).length) (by omega)
          refine ⟨r, ?_, hr3⟩
          simp only [IM.rep]
          rw [bnd_go (hp.there x hx _)]
          exact bnd_no hr
    · intro l hl y l' hy
      simp only [IM.rep] at hy
      obtain ⟨x, l1, h1, h2⟩ := bnd_ok hy
      obtain ⟨e1, q1⟩ := hp.back l hl x l1 h1
      rw [e1] at hl
      obtain ⟨xs, l2, h3, h4⟩ := bnd_ok h2
      obtain ⟨e2, q2, q3⟩ := (Gd.rep hp n).back l1 hl.right xs l2 h3
      cases h4
      refine ⟨by rw [List.flatMap_cons, List.append_assoc, ← e2]; exact e1, by simp [q2], fun z hz => ?_⟩
      rcases List.mem_cons.1 hz with rfl | hz
      · exact q1
      · exact q3 z hz
/- the numbers -/
def R1 (n : Int) : Prop := 0 ≤ n ∧ n < 256
def R2 (n : Int) : Prop := 0 ≤ n ∧ n < 65536
def R4 (n : Int) : Prop := -2147483648 ≤ n ∧ n < 2147483648
theorem g1 : Gd num1 by1 R1 R1 := by
  constructor
  · exact fun _ h => h
  · intro x h l
    show Except.ok (x % 256, l) = _
    rw [Int.emod_eq_of_lt h.1 h.2]
  · intro x _ k hk
    simp only [by1, List.length_singleton] at hk
    obtain rfl : k = 0 := by omega
    exact ⟨0, rfl, by omega⟩
  · intro l hl x l' h
    match l, hl, h with
    | a :: l, hl, h =>
      cases h
      have ha := hl x List.mem_cons_self
      refine ⟨?_, ha⟩
      show _ = [x % 256] ++ _
      rw [Int.emod_eq_of_lt ha.1 ha.2]; rfl
theorem g2 : Gd num2 by2 R2 R2 := by
  constructor
  · exact fun _ h => h
  · intro x ⟨h1, h2⟩ l
    show Except.ok (256 * (x / 256 % 256) + x % 256, l) = _
    rw [show 256 * (x / 256 % 256) + x % 256 = x by omega]
  · intro x _ k hk
    simp only [by2, List.length_cons, List.length_nil] at hk
    match k, hk with
    | 0, _ => exact ⟨0, rfl, by omega⟩
    | 1, _ => exact ⟨1, rfl, by omega⟩
  · intro l hl x l' h
    match l, hl, h with
    | a :: b :: l, hl, h =>
      cases h
      have ha := hl a List.mem_cons_self
      have hb := hl b (List.mem_cons_of_mem _ List.mem_cons_self)
      refine ⟨?_, by constructor <;> omega⟩
      show _ = [_, _] ++ _
      rw [show (256 * a + b) / 256 % 256 = a by omega, show (256 * a + b) % 256 = b by omega]; rfl
theorem g4 : Gd sg4 by4 R4 R4 := by
  constructor
  · exact fun _ h => h
  · intro x ⟨h1, h2⟩ l
    show Except.ok (sg (16777216 * (x / 16777216 % 256) + 65536 * (x / 65536 % 256) + 256 * (x / 256 % 256) + x % 256), l) = _
    rw [show sg (16777216 * (x / 16777216 % 256) + 65536 * (x / 65536 % 256) + 256 * (x / 256 % 256) + x % 256) = x by unfold sg; split <;> omega]
  · intro x _ k hk
    simp only [by4, List.length_cons, List.length_nil] at hk
    match k, hk with
    | 0, _ => exact ⟨0, rfl, by omega⟩
    | 1, _ => exact ⟨1, rfl, by omega⟩
    | 2, _ => exact ⟨2, rfl, by omega⟩
    | 3, _ => exact ⟨3, rfl, by omega⟩
  · intro l hl x l' h
    match l, hl, h with
    | a :: b :: c :: d :: l, hl, h =>
      cases h
      have ha := hl a (by simp)
      have hb := hl b (by simp)
      have hc := hl c (by simp)
      have hd := hl d (by simp)
      obtain ⟨n, hn⟩ : ∃ n, n = 16777216 * a + 65536 * b + 256 * c + d := ⟨_, rfl⟩
      rw [← hn]
      refine ⟨?_, by unfold sg; constructor <;> split <;> omega⟩
      show _ = [_, _, _, _] ++ _
      rw [show sg n / 16777216 % 256 = a by unfold sg; split <;> omega, show sg n / 65536 % 256 = b by unfold sg; split <;> omega, show sg n / 256 % 256 = c by unfold sg; split <;> omega, show sg n % 256 = d by unfold sg; split <;> omega]; rfl
theorem gf : Gd flag (fun b => by1 (oneI b)) (fun _ => True) (fun _ => True) := by
  constructor
  · exact fun _ h => h
  · intro x _ l
    cases x <;> rfl
  · intro x _ k hk
    simp only [by1, List.length_singleton] at hk
    obtain rfl : k = 0 := by omega
    exact ⟨0, rfl, by omega⟩
  · intro l hl x l' h
    match l, hl, h with
    | a :: l, hl, h =>
      have ha := hl a List.mem_cons_self
      simp only [flag] at h
      split at h
      · cases h
      · cases h
        refine ⟨?_, trivial⟩
        rcases (show a = 0 ∨ a = 1 by omega) with rfl | rfl <;> rfl
theorem gm (c : Int) : Gd (mkb c) (fun _ => [c]) (fun _ => True) (fun _ => True) := by
  constructor
  · exact fun _ h => h
  · intro x _ l
    cases x
    show (if c = c then _ else _) = _
    rw [if_pos rfl]
    rfl
  · intro x _ k hk
    simp only [List.length_singleton] at hk
    obtain rfl : k = 0 := by omega
    exact ⟨0, rfl, by omega⟩
  · intro l _ x l' h
    match l, h with
    | a :: l, h =>
      simp only [mkb] at h
      split at h
      · rename_i ha; cases h; rw [ha]; exact ⟨rfl, trivial⟩
      · cases h
theorem l1 : Ls num1 := ⟨fun l r h => by unfold num1 at h; split at h <;> cases h; exact Nat.le_refl _, fun l x l' h => by unfold num1 at h; split at h <;> cases h; simp⟩
theorem l2 : Ls num2 := ⟨fun l r h => by unfold num2 at h; split at h <;> cases h; exact Nat.le_refl _, fun l x l' h => by unfold num2 at h; split at h <;> cases h; simp; omega⟩
theorem l4 : Ls sg4 := ⟨fun l r h => by unfold sg4 at h; split at h <;> cases h; exact Nat.le_refl _, fun l x l' h => by unfold sg4 at h; split at h <;> cases h; simp; omega⟩
theorem lf : Ls flag := ⟨fun l r h => by
  unfold flag at h
  split at h
  · split at h <;> cases h; simp
  · cases h; simp, fun l x l' h => by
  unfold flag at h
  split at h
  · split at h <;> cases h; simp
  · cases h⟩
theorem lm (c : Int) : Ls (mkb c) := ⟨fun l r h => by
  unfold mkb at h
  split at h
  · split at h <;> cases h; simp
  · cases h; simp, fun l x l' h => by
  unfold mkb at h
  split at h
  · split at h <;> cases h; simp
  · cases h⟩
/- players, cards, zones, the rest, all -/
def RP (p : Ply) : Prop := R4 p.life ∧ R4 p.energy
def RC (c : Crd) : Prop := R2 c.kind ∧ R1 c.owner ∧ R4 c.power ∧ R4 c.health ∧ R4 c.damage ∧ R4 c.marks
def RZ (z : List Int) : Prop := z.length < 65536 ∧ ∀ x ∈ z, R2 x
theorem gp : Gd rdP plyI RP RP :=
  (g4.bnd (h := Ply.life) (fun a _ => g4.bnd (h := Ply.energy) (fun b _ => gf.last (fun c => (⟨a, b, c⟩ : Ply)) Ply.out (fun _ => rfl)) (fun x y _ h => by rw [h.2])) (fun x y _ h => by rw [h.2.2])).as
    (fun x _ => by simp [plyI]) (fun x h => ⟨h.1, h.2, trivial, rfl⟩) (fun x h => ⟨h.1, h.2.1⟩)
theorem lp : Ls rdP := l4.bnd fun _ => l4.bnd fun _ => lf.bnd fun _ => Ls.ret _
theorem gc : Gd rdC crdI RC RC :=
  (g2.bnd (h := Crd.kind) (fun a _ => g1.bnd (h := Crd.owner) (fun b _ => g4.bnd (h := Crd.power) (fun c _ => g4.bnd (h := Crd.health) (fun d _ => g4.bnd (h := Crd.damage) (fun e _ => g4.last (fun f => (⟨a, b, c, d, e, f⟩ : Crd)) Crd.marks (fun _ => rfl))
    (fun x y _ h => by rw [h.2])) (fun x y _ h => by rw [h.2.2])) (fun x y _ h => by rw [h.2.2.2])) (fun x y _ h => by rw [h.2.2.2.2])) (fun x y _ h => by rw [h.2.2.2.2.2])).as
    (fun x _ => by simp [crdI]) (fun x h => ⟨h.1, h.2.1, h.2.2.1, h.2.2.2.1, h.2.2.2.2.1, h.2.2.2.2.2, rfl⟩) (fun x h => ⟨h.1, h.2.1, h.2.2.1, h.2.2.2.1, h.2.2.2.2.1, h.2.2.2.2.2.1⟩)
theorem lc : Ls rdC := l2.bnd fun _ => l1.bnd fun _ => l4.bnd fun _ => l4.bnd fun _ => l4.bnd fun _ => l4.bnd fun _ => Ls.ret _
theorem gz : Gd rdZ zonI RZ RZ :=
  (g2.bnd (h := fun z : List Int => (z.length : Int)) (fun n _ => g2.rep n.toNat) (fun x y hx h => by have h1 := h.1; have h2 := hx.1; omega)).as
    (fun x _ => rfl) (fun x h => ⟨⟨by omega, by have := h.1; omega⟩, by simp, h.2⟩) (fun x h => ⟨by have := h.1.2; omega, h.2.2⟩)
theorem lz : Ls rdZ := l2.bnd fun _ => l2.rep _
end IM
end Go.Proofs.YtpmdlpjedapbbaaGreatDoor
/-
  States as bytes, no program: the whole state.
-/
namespace Go.Proofs.YtpmdlpjedapbbaaGreatDoor
namespace IM
def RF (n : Int) : Prop := -128 ≤ n ∧ n < 128
/- each number of the state fits its bytes -/
structure RS (s : Stt) : Prop where
  nps : s.ps.length < 256
  ps : ∀ p ∈ s.ps, RP p
  ncs : s.cs.length < 65536
  cs : ∀ c ∈ s.cs, RC c
  nzs : s.zs.length = 4 * s.ps.length
  zs : ∀ z ∈ s.zs, RZ z
  turn : R4 s.turn
  whose : R1 s.whose
  fin : RF s.fin
  winner : R1 s.winner
theorem gM : Gd rdM (fun _ => mk) (fun _ => True) (fun _ => True) :=
  ((gm 84).bnd (h := fun _ => ()) (fun _ _ => (gm 66).bnd (h := fun _ => ()) (fun _ _ => (gm 76).bnd (h := fun _ => ()) (fun _ _ => (gm 83).bnd (h := fun _ => ()) (fun _ _ => gm 1) (fun _ _ _ _ => rfl)) (fun _ _ _ _ => rfl)) (fun _ _ _ _ => rfl)) (fun _ _ _ _ => rfl)).as
    (fun _ _ => rfl) (fun _ _ => ⟨trivial, trivial, trivial, trivial, trivial⟩) (fun _ _ => trivial)
theorem lM : Ls rdM := (lm 84).bnd fun _ => (lm 66).bnd fun _ => (lm 76).bnd fun _ => (lm 83).bnd fun _ => lm 1
theorem i8_back {c : Int} (h : R1 c) : (i8 c) % 256 = c := by
  obtain ⟨h1, h2⟩ := h
  unfold i8; split <;> omega
theorem i8_there {c : Int} (h : RF c) : i8 (c % 256) = c := by
  obtain ⟨h1, h2⟩ := h
  unfold i8; split <;> omega
theorem i8_in {c : Int} (h : R1 c) : RF (i8 c) := by
  obtain ⟨h1, h2⟩ := h
  unfold i8; constructor <;> split <;> omega
theorem gT (ps : List Ply) (cs : List Crd) (zs : List (List Int)) : Gd (rdT ps cs zs) (fun s => by4 s.turn ++ (by1 s.whose ++ (by1 s.fin ++ by1 s.winner)))
    (fun s => (s.ps = ps ∧ s.cs = cs ∧ s.zs = zs) ∧ R4 s.turn ∧ R1 s.whose ∧ RF s.fin ∧ R1 s.winner) (fun s => (s.ps = ps ∧ s.cs = cs ∧ s.zs = zs) ∧ R4 s.turn ∧ R1 s.whose ∧ RF s.fin ∧ R1 s.winner) :=
  (g4.bnd (h := Stt.turn) (fun a _ => g1.bnd (h := Stt.whose) (fun b _ => g1.bnd (h := fun s : Stt => s.fin % 256) (Q' := fun c s => R1 s.winner ∧ s = (⟨ps, cs, zs, a, b, i8 c, s.winner⟩ : Stt)) (fun c _ => g1.last (fun d => (⟨ps, cs, zs, a, b, i8 c, d⟩ : Stt)) Stt.winner (fun _ => rfl)) (fun x y hx h => by rw [h.2]; exact i8_back hx)) (fun x y _ h => by rw [h.2.2])) (fun x y _ h => by rw [h.2.2.2])).as
    (fun x _ => by show _ ++ (_ ++ (by1 (x.fin % 256) ++ _)) = _; rw [show by1 (x.fin % 256) = by1 x.fin by unfold by1; rw [Int.emod_emod_of_dvd _ (Int.dvd_refl 256)]])
    (fun x h => ⟨h.2.1, h.2.2.1, ⟨by omega, by omega⟩, h.2.2.2.2, by
      obtain ⟨⟨rfl, rfl, rfl⟩, -, -, hf, -⟩ := h
      rw [i8_there hf]⟩)
    (fun x h => ⟨by rw [h.2.2.2.2]; exact ⟨rfl, rfl, rfl⟩, h.1, h.2.1, by rw [h.2.2.2.2]; exact i8_in h.2.2.1, h.2.2.2.1⟩)
theorem lT (ps : List Ply) (cs : List Crd) (zs : List (List Int)) : Ls (rdT ps cs zs) := l4.bnd fun _ => l1.bnd fun _ => l1.bnd fun _ => l1.bnd fun _ => Ls.ret _
theorem gS : Gd rdS img RS RS :=
  (gM.bnd (h := fun _ => ()) (fun _ _ => g1.bnd (h := fun s : Stt => (s.ps.length : Int)) (fun n _ => (gp.rep n.toNat).bnd (h := Stt.ps) (fun ps _ => g2.bnd (h := fun s : Stt => (s.cs.length : Int)) (fun m _ => (gc.rep m.toNat).bnd (h := Stt.cs) (fun cs _ => (gz.rep (4 * n.toNat)).bnd (h := Stt.zs) (fun zs _ => gT ps cs zs)
      (fun x y _ h => h.1.2.2)) (fun x y _ h => h.2.1.2.1)) (fun x y hx h => by have h1 := h.1.1; have h2 := hx.1; omega)) (fun x y _ h => h.2.2.2.1.1)) (fun x y hx h => by have h1 := h.1.1; have h2 := hx.1; omega)) (fun _ _ _ _ => rfl)).as
    (fun x _ => rfl)
    (fun x h => ⟨trivial, ⟨by omega, by have := h.nps; omega⟩, ⟨by simp, h.ps⟩, ⟨by omega, by have := h.ncs; omega⟩, ⟨by simp, h.cs⟩, ⟨by have := h.nzs; simpa using this, h.zs⟩, ⟨rfl, rfl, rfl⟩, h.turn, h.whose, h.fin, h.winner⟩)
    (fun x h => by
      obtain ⟨-, h1, ⟨-, h2⟩, h3, ⟨-, h4⟩, ⟨h5, h6⟩, -, h7, h8, h9, h10⟩ := h
      exact ⟨by have := h1.2; omega, h2, by have := h3.2; omega, h4, by simpa using h5, h6, h7, h8, h9, h10⟩)
theorem lS : Ls rdS := lM.bnd fun _ => l1.bnd fun _ => (lp.rep _).bnd fun _ => l2.bnd fun _ => (lc.rep _).bnd fun _ => (lz.rep _).bnd fun _ => lT _ _ _
/- a state that may be fits -/
open Go.Proofs.YtpmdlpjedapbbaaGreatDoor.ST in
theorem rs_of {s : Stt} (h : ff s = none) (ht : R4 s.turn) : RS s := by
  obtain ⟨⟨a1, a2, a3, -, a5, a6, a7⟩, ⟨-, e2⟩, hl⟩ := (ff_none s).1 h
  have stat : ∀ x, statB x = true → R4 x := fun x hx => by
    simp only [statB, Bool.and_eq_true, decide_eq_true_eq] at hx
    exact ⟨by omega, by omega⟩
  simp only [sizesB, npB, ncB, Bool.and_eq_true, decide_eq_true_eq] at a1
  simp only [numB, Bool.and_eq_true, decide_eq_true_eq] at a5
  refine ⟨by omega, fun p hp => ?_, by omega, fun c hc => ?_, by omega, fun z hz => ⟨?_, fun x hx => ?_⟩, ht, ⟨by omega, by omega⟩, ?_, ?_⟩
  · have := a2 p hp
    simp only [plyB, Bool.and_eq_true] at this
    exact ⟨stat _ this.1, stat _ this.2⟩
  · have := a3 c hc
    simp only [crdB, crd0B, Bool.and_eq_true] at this
    obtain ⟨⟨⟨⟨⟨b1, b2⟩, b3⟩, b4⟩, b5⟩, b6⟩ := this
    simp only [numB, Bool.and_eq_true, decide_eq_true_eq] at b1 b6
    exact ⟨⟨b1.1, by omega⟩, ⟨b6.1, by omega⟩, stat _ b2, stat _ b3, stat _ b4, stat _ b5⟩
  · have h4 : z.length ≤ (flat s).length := by
      unfold flat
      exact (List.sublist_flatten_of_mem hz).length_le
    omega
  · have := e2 x (by unfold flat; exact List.mem_flatten.2 ⟨z, hz, hx⟩)
    simp only [numB, Bool.and_eq_true, decide_eq_true_eq] at this
    exact ⟨this.1, by omega⟩
  · simp only [finB, Bool.or_eq_true, decide_eq_true_eq] at a6
    exact ⟨by omega, by omega⟩
  · unfold winB at a7
    split at a7
    · simp only [numB, Bool.and_eq_true, decide_eq_true_eq] at a7
      exact ⟨by omega, by omega⟩
    · have : s.winner = 0 := of_decide_eq_true a7
      exact ⟨by omega, by omega⟩
/- what is read of bytes: the state, or how much is left where the fault is -/
def decR (B : List Int) : Except Nat Stt := match rdS B with
  | .error r => .error r
  | .ok (s, []) => .ok s
  | .ok (_, l) => .error l.length
theorem dec_img {s : Stt} (h : RS s) : decR (img s) = .ok s := by
  have := gS.there s h []
  rw [List.append_nil] at this
  unfold decR
  rw [this]
theorem dec_more {s : Stt} (h : RS s) (l : List Int) (hl : l ≠ []) : decR (img s ++ l) = .error l.length := by
  unfold decR
  rw [gS.there s h l]
  cases l with
  | nil => exact absurd rfl hl
  | cons a l => rfl
theorem dec_cut {s : Stt} (h : RS s) (k : Nat) (hk : k < (img s).length) : ∃ r, decR ((img s).take k) = .error r ∧ r ≤ 3 := by
  obtain ⟨r, hr, h3⟩ := gS.cut s h k hk
  refine ⟨r, ?_, h3⟩
  unfold decR
  rw [hr]
theorem dec_back {B : List Int} (hB : Byt B) {s : Stt} (h : decR B = .ok s) : img s = B ∧ RS s := by
  unfold decR at h
  split at h
  · cases h
  · rename_i s' hs
    cases h
    obtain ⟨h1, h2⟩ := gS.back B hB s [] hs
    exact ⟨by rw [h1, List.append_nil], h2⟩
  · cases h
theorem dec_err {B : List Int} {r : Nat} (h : decR B = .error r) : r ≤ B.length := by
  unfold decR at h
  split at h
  · rename_i hs
    cases h
    exact lS.err B r hs
  · cases h
  · rename_i s' l _ hs
    cases h
    exact lS.ok B s' l hs
/- two states are the same just if their images are -/
theorem img_inj {s t : Stt} (hs : RS s) (ht : RS t) (h : img s = img t) : s = t := by
  have h1 := dec_img hs
  rw [h, dec_img ht] at h1
  cases h1
  rfl
end IM
end Go.Proofs.YtpmdlpjedapbbaaGreatDoor
