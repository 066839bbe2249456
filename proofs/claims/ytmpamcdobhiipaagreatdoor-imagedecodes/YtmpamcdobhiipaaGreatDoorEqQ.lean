/-
  Are two lists, two states the same?
-/
import Derived.Test.YtmpamcdobhiipaaGreatDoorWhToCt
namespace Go.Proofs.YtmpamcdobhiipaaGreatDoor
open Go.RowKit
attribute [local go_sem ↓] Go.wp_at_zero Go.wp_at_succ

namespace ST
theorem drewN_two (w : World) (a b : Nat) : (w.drewN a).drewN b = w.drewN (a + b) := by
  simp only [World.drewN, Nat.add_assoc]
theorem eq_at {A : Type} (a b : List A) (d : A) (hl : a.length = b.length) (h : ∀ j, j < a.length → a.getD j d = b.getD j d) : a = b := by
  apply List.ext_getElem hl
  intro j h1 h2
  have := h j h1
  rwa [List.getD_eq_getElem?_getD, List.getD_eq_getElem?_getD, List.getElem?_eq_getElem h1, List.getElem?_eq_getElem h2] at this
set_option maxRecDepth 100000 in
set_option maxHeartbeats 2000000 in
theorem eqInts_ (v u : Value) (a b : List Int) (w : World) (hv : IL w v a) (hu : IL w u b) (hn : a.length ≤ 4294967296) :
    Calls Tryz.prog 55 #[v, u] w fun e w' => e = .returned (.bool (decide (a = b))) ∧ ∃ m, w' = w.drewN m := by
  obtain ⟨a1, k1, rfl, -, h1⟩ := il_at hv
  obtain ⟨a2, k2, rfl, -, h2⟩ := il_at hu
  obtain ⟨R, hR⟩ : ∃ R, R = decide (a = b) := ⟨_, rfl⟩
  rw [← hR]
  have HR : Hid (R = decide (a = b)) := hR
  obtain ⟨n, hn0⟩ : ∃ n, n = a.length := ⟨_, rfl⟩
  obtain ⟨m, hm0⟩ : ∃ n, n = b.length := ⟨_, rfl⟩
  have HN : Hid (n = a.length ∧ m = b.length) := ⟨hn0, hm0⟩
  rw [← hn0] at hn h1 ⊢
  rw [← hm0] at h2 ⊢
  have H1 : Hid _ := h1
  have H2 : Hid _ := h2
  clear hv hu h1 h2 hn0 hm0 hR
  by_cases hl : n = m
  · subst hl
    go_enter Tryz.func55, Tryz.ntmps55
    go_wp2_with fail
    go_loopw [4, 5] (fun s4 s5 wr => ∃ i : Nat, i ≤ n ∧ s4 = .bool false ∧ s5 = .int .i64 i ∧ (∃ k, wr = w.drewN k) ∧ ∀ j, j < i → a.getD j 0 = b.getD j 0) (fun _ s5 _ => n - (intOf s5).toNat)
    case atStart => exact ⟨0, Nat.zero_le _, rfl, rfl, ⟨0, rfl⟩, fun j hj => by omega⟩
    case round =>
      obtain ⟨i, hi, rfl, rfl, ⟨k, hk⟩, hj⟩ := hrel
      have HK : Hid (wr = w.drewN k) := hk
      have huw : Up w wr := by rw [hk]; exact (Up.refl w).drewN k
      have HJ : Hid (∀ j, j < i → a.getD j 0 = b.getD j 0) := hj
      clear hk hj
      by_cases hlt : i < n
      · have hlt2 : (i : Int) < (n : Int) := by omega
        obtain ⟨b1, o1, rfl, c1⟩ := H1.out (by omega)
        obtain ⟨b2, o2, rfl, c2⟩ := H2.out (by omega)
        have x1 := c1 _ huw i hlt
        have x2 := c2 _ huw i hlt
        have HY : Hid ((a.getD i 0 = b.getD i 0 → ∀ j, j < i + 1 → a.getD j 0 = b.getD j 0) ∧ (a.getD i 0 ≠ b.getD i 0 → R = false)) := ⟨fun e j hj => by
          by_cases ej : j = i
          · subst ej; exact e
          · exact HJ.out j (by omega), fun e => by rw [HR.out, decide_eq_false]; rintro rfl; exact e rfl⟩
        clear c1 c2 HJ
        generalize a.getD i 0 = x at x1 HY
        generalize b.getD i 0 = y at x2 HY
        by_cases hxy : x = y
        · subst hxy
          have HF : Hid _ := HY.out.1 rfl
          clear HY
          go_wp2_with fail
          go_quiet (fail)
          go_wp2
          go_roundw
          case rel => exact ⟨i + 1, by omega, rfl, by go_num, ⟨k + nq, by rw [HK.out, drewN_two]⟩, HF.out⟩
          case measure => simp [intOf]; omega
        · have hb : (x != y) = true := by simpa using hxy
          have HF : Hid _ := HY.out.2 hxy
          clear HY
          go_wp2_with fail
          go_quiet (fail)
          go_wp2
          go_ret
          exact ⟨by rw [HF.out]; rfl, k + nq, by rw [HK.out, drewN_two]⟩
      · have hlt2 : ¬ (i : Int) < (n : Int) := by omega
        have HF : Hid (R = true) := by unfold Hid; rw [HR.out, decide_eq_true]; exact eq_at a b 0 (by rw [← HN.out.1, ← HN.out.2]) (fun j hj => HJ.out j (by have := HN.out.1; omega))
        go_wp2
        go_ret
        exact ⟨by rw [HF.out]; rfl, k, HK.out⟩
  · have hl2 : ((n : Int) != (m : Int)) = true := by simp; omega
    have HF : Hid (R = false) := by unfold Hid; rw [HR.out, decide_eq_false]; rintro rfl; exact hl (HN.out.1.trans HN.out.2.symm)
    go_enter Tryz.func55, Tryz.ntmps55
    go_wp2
    go_ret
    exact ⟨by rw [HF.out]; rfl, 0, rfl⟩
theorem sPlayers : Tryz.prog.underlying 95 = some (.struct (Tryz.prog.fieldsOf 95)) := by kernel_rfl
theorem hPlayers : Tryz.prog.stoodInHeld 95 = false := by kernel_rfl
theorem gPlayers : Tryz.prog.eqGuardType Tryz.prog.depth 95 = false := by kernel_rfl
theorem eqInPlayers (x y : Ply) (W : World) : (Op.equalIn 10000 95 (.agg #[.int .i32 x.life, .int .i32 x.energy, .bool x.out]) (.agg #[.int .i32 y.life, .int .i32 y.energy, .bool y.out])).run Tryz.prog W = .ok (decide (x = y)) W := by
  obtain ⟨a0, a1, a2⟩ := x
  obtain ⟨b0, b1, b2⟩ := y
  have u3 := Tryz.underlying3
  have v3 := Tryz.isAgg3
  have z3 := Tryz.sizeOf3
  have u4 := Tryz.underlying21
  have v4 := Tryz.isAgg21
  have z4 := Tryz.sizeOf21
  have u5 := Tryz.underlying4
  have v5 := Tryz.isAgg4
  have z5 := Tryz.sizeOf4
  rw [show (10000 : Nat) = 9999 + 1 from rfl, run_equalIn_agg W 9999 95 _ _ sPlayers hPlayers]
  simp only [Program.fieldsOf, Tryz.underlying95]
  go_simp
  by_cases h0 : a0 = b0 <;> by_cases h1 : a1 = b1 <;> by_cases h2 : a2 = b2 <;> simp [h0, h1, h2]
theorem neqPlayers_same (x : Ply) : ∀ W, (binOp .neq 95 (.agg #[.int .i32 x.life, .int .i32 x.energy, .bool x.out]) (.agg #[.int .i32 x.life, .int .i32 x.energy, .bool x.out])).run Tryz.prog W = .ok (.bool false) W := fun W => by
  rw [run_neq_struct, eqInPlayers x x W]
  simp [Result.andThen]
theorem neqPlayers_not (x y : Ply) (h : x ≠ y) : ∀ W, (binOp .neq 95 (.agg #[.int .i32 x.life, .int .i32 x.energy, .bool x.out]) (.agg #[.int .i32 y.life, .int .i32 y.energy, .bool y.out])).run Tryz.prog W = .ok (.bool true) W := fun W => by
  rw [run_neq_struct, eqInPlayers x y W]
  simp [Result.andThen, h]
set_option maxRecDepth 100000 in
set_option maxHeartbeats 2000000 in
theorem eqPlayers_ (v u : Value) (a b : List Ply) (w : World) (hv : PLs w v a) (hu : PLs w u b) (hn : a.length ≤ 4294967296) :
    Calls Tryz.prog 20 #[v, u] w fun e w' => e = .returned (.bool (decide (a = b))) ∧ ∃ m, w' = w.drewN m := by
  obtain ⟨a1, k1, rfl, -, h1⟩ := pl_at hv
  obtain ⟨a2, k2, rfl, -, h2⟩ := pl_at hu
  obtain ⟨R, hR⟩ : ∃ R, R = decide (a = b) := ⟨_, rfl⟩
  rw [← hR]
  have HR : Hid (R = decide (a = b)) := hR
  obtain ⟨n, hn0⟩ : ∃ n, n = a.length := ⟨_, rfl⟩
  obtain ⟨m, hm0⟩ : ∃ n, n = b.length := ⟨_, rfl⟩
  have HN : Hid (n = a.length ∧ m = b.length) := ⟨hn0, hm0⟩
  rw [← hn0] at hn h1 ⊢
  rw [← hm0] at h2 ⊢
  have H1 : Hid _ := h1
  have H2 : Hid _ := h2
  clear hv hu h1 h2 hn0 hm0 hR
  by_cases hl : n = m
  · subst hl
    go_enter Tryz.func20, Tryz.ntmps20
    go_wp2_with fail
    go_loopw [4, 5] (fun s4 s5 wr => ∃ i : Nat, i ≤ n ∧ s4 = .bool false ∧ s5 = .int .i64 i ∧ (∃ k, wr = w.drewN k) ∧ ∀ j, j < i → a.getD j dp = b.getD j dp) (fun _ s5 _ => n - (intOf s5).toNat)
    case atStart => exact ⟨0, Nat.zero_le _, rfl, rfl, ⟨0, rfl⟩, fun j hj => by omega⟩
    case round =>
      obtain ⟨i, hi, rfl, rfl, ⟨k, hk⟩, hj⟩ := hrel
      have HK : Hid (wr = w.drewN k) := hk
      have huw : Up w wr := by rw [hk]; exact (Up.refl w).drewN k
      have HJ : Hid (∀ j, j < i → a.getD j dp = b.getD j dp) := hj
      clear hk hj
      by_cases hlt : i < n
      · have hlt2 : (i : Int) < (n : Int) := by omega
        obtain ⟨b1, o1, rfl, c1⟩ := H1.out (by omega)
        obtain ⟨b2, o2, rfl, c2⟩ := H2.out (by omega)
        obtain ⟨x0, x1, x2⟩ := c1 _ huw i hlt
        obtain ⟨y0, y1, y2⟩ := c2 _ huw i hlt
        have HY : Hid ((a.getD i dp = b.getD i dp → ∀ j, j < i + 1 → a.getD j dp = b.getD j dp) ∧ (a.getD i dp ≠ b.getD i dp → R = false)) := ⟨fun e j hj => by
          by_cases ej : j = i
          · subst ej; exact e
          · exact HJ.out j (by omega), fun e => by rw [HR.out, decide_eq_false]; rintro rfl; exact e rfl⟩
        clear c1 c2 HJ
        generalize a.getD i dp = x at x0 x1 x2 HY
        generalize b.getD i dp = y at y0 y1 y2 HY
        by_cases hxy : x = y
        · subst hxy
          have HF : Hid _ := HY.out.1 rfl
          clear HY
          have hq := neqPlayers_same x
          go_wp2_with fail
          go_quiet (fail)
          go_wp2
          go_roundw
          case rel => exact ⟨i + 1, by omega, rfl, by go_num, ⟨k + nq, by rw [HK.out, drewN_two]⟩, HF.out⟩
          case measure => simp [intOf]; omega
        · have hq := neqPlayers_not x y hxy
          have HF : Hid _ := HY.out.2 hxy
          clear HY
          go_wp2_with fail
          go_quiet (fail)
          go_wp2
          go_ret
          exact ⟨by rw [HF.out]; rfl, k + nq, by rw [HK.out, drewN_two]⟩
      · have hlt2 : ¬ (i : Int) < (n : Int) := by omega
        have HF : Hid (R = true) := by unfold Hid; rw [HR.out, decide_eq_true]; exact eq_at a b dp (by rw [← HN.out.1, ← HN.out.2]) (fun j hj => HJ.out j (by have := HN.out.1; omega))
        go_wp2
        go_ret
        exact ⟨by rw [HF.out]; rfl, k, HK.out⟩
  · have hl2 : ((n : Int) != (m : Int)) = true := by simp; omega
    have HF : Hid (R = false) := by unfold Hid; rw [HR.out, decide_eq_false]; rintro rfl; exact hl (HN.out.1.trans HN.out.2.symm)
    go_enter Tryz.func20, Tryz.ntmps20
    go_wp2
    go_ret
    exact ⟨by rw [HF.out]; rfl, 0, rfl⟩
theorem sCards : Tryz.prog.underlying 83 = some (.struct (Tryz.prog.fieldsOf 83)) := by kernel_rfl
theorem hCards : Tryz.prog.stoodInHeld 83 = false := by kernel_rfl
theorem gCards : Tryz.prog.eqGuardType Tryz.prog.depth 83 = false := by kernel_rfl
theorem eqInCards (x y : Crd) (W : World) : (Op.equalIn 10000 83 (.agg #[.int .i64 x.kind, .int .i64 x.owner, .int .i32 x.power, .int .i32 x.health, .int .i32 x.damage, .int .i32 x.marks]) (.agg #[.int .i64 y.kind, .int .i64 y.owner, .int .i32 y.power, .int .i32 y.health, .int .i32 y.damage, .int .i32 y.marks])).run Tryz.prog W = .ok (decide (x = y)) W := by
  obtain ⟨a0, a1, a2, a3, a4, a5⟩ := x
  obtain ⟨b0, b1, b2, b3, b4, b5⟩ := y
  have u3 := Tryz.underlying3
  have v3 := Tryz.isAgg3
  have z3 := Tryz.sizeOf3
  have u4 := Tryz.underlying21
  have v4 := Tryz.isAgg21
  have z4 := Tryz.sizeOf21
  have u5 := Tryz.underlying4
  have v5 := Tryz.isAgg4
  have z5 := Tryz.sizeOf4
  rw [show (10000 : Nat) = 9999 + 1 from rfl, run_equalIn_agg W 9999 83 _ _ sCards hCards]
  simp only [Program.fieldsOf, Tryz.underlying83]
  go_simp
  by_cases h0 : a0 = b0 <;> by_cases h1 : a1 = b1 <;> by_cases h2 : a2 = b2 <;> by_cases h3 : a3 = b3 <;> by_cases h4 : a4 = b4 <;> by_cases h5 : a5 = b5 <;> simp [h0, h1, h2, h3, h4, h5]
theorem neqCards_same (x : Crd) : ∀ W, (binOp .neq 83 (.agg #[.int .i64 x.kind, .int .i64 x.owner, .int .i32 x.power, .int .i32 x.health, .int .i32 x.damage, .int .i32 x.marks]) (.agg #[.int .i64 x.kind, .int .i64 x.owner, .int .i32 x.power, .int .i32 x.health, .int .i32 x.damage, .int .i32 x.marks])).run Tryz.prog W = .ok (.bool false) W := fun W => by
  rw [run_neq_struct, eqInCards x x W]
  simp [Result.andThen]
theorem neqCards_not (x y : Crd) (h : x ≠ y) : ∀ W, (binOp .neq 83 (.agg #[.int .i64 x.kind, .int .i64 x.owner, .int .i32 x.power, .int .i32 x.health, .int .i32 x.damage, .int .i32 x.marks]) (.agg #[.int .i64 y.kind, .int .i64 y.owner, .int .i32 y.power, .int .i32 y.health, .int .i32 y.damage, .int .i32 y.marks])).run Tryz.prog W = .ok (.bool true) W := fun W => by
  rw [run_neq_struct, eqInCards x y W]
  simp [Result.andThen, h]
set_option maxRecDepth 100000 in
set_option maxHeartbeats 2000000 in
theorem eqCards_ (v u : Value) (a b : List Crd) (w : World) (hv : CLs w v a) (hu : CLs w u b) (hn : a.length ≤ 4294967296) :
    Calls Tryz.prog 21 #[v, u] w fun e w' => e = .returned (.bool (decide (a = b))) ∧ ∃ m, w' = w.drewN m := by
  obtain ⟨a1, k1, rfl, -, h1⟩ := cl_at hv
  obtain ⟨a2, k2, rfl, -, h2⟩ := cl_at hu
  obtain ⟨R, hR⟩ : ∃ R, R = decide (a = b) := ⟨_, rfl⟩
  rw [← hR]
  have HR : Hid (R = decide (a = b)) := hR
  obtain ⟨n, hn0⟩ : ∃ n, n = a.length := ⟨_, rfl⟩
  obtain ⟨m, hm0⟩ : ∃ n, n = b.length := ⟨_, rfl⟩
  have HN : Hid (n = a.length ∧ m = b.length) := ⟨hn0, hm0⟩
  rw [← hn0] at hn h1 ⊢
  rw [← hm0] at h2 ⊢
  have H1 : Hid _ := h1
  have H2 : Hid _ := h2
  clear hv hu h1 h2 hn0 hm0 hR
  by_cases hl : n = m
  · subst hl
    go_enter Tryz.func21, Tryz.ntmps21
    go_wp2_with fail
    go_loopw [4, 5] (fun s4 s5 wr => ∃ i : Nat, i ≤ n ∧ s4 = .bool false ∧ s5 = .int .i64 i ∧ (∃ k, wr = w.drewN k) ∧ ∀ j, j < i → a.getD j dc = b.getD j dc) (fun _ s5 _ => n - (intOf s5).toNat)
    case atStart => exact ⟨0, Nat.zero_le _, rfl, rfl, ⟨0, rfl⟩, fun j hj => by omega⟩
    case round =>
      obtain ⟨i, hi, rfl, rfl, ⟨k, hk⟩, hj⟩ := hrel
      have HK : Hid (wr = w.drewN k) := hk
      have huw : Up w wr := by rw [hk]; exact (Up.refl w).drewN k
      have HJ : Hid (∀ j, j < i → a.getD j dc = b.getD j dc) := hj
      clear hk hj
      by_cases hlt : i < n
      · have hlt2 : (i : Int) < (n : Int) := by omega
        obtain ⟨b1, o1, rfl, c1⟩ := H1.out (by omega)
        obtain ⟨b2, o2, rfl, c2⟩ := H2.out (by omega)
        obtain ⟨x0, x1, x2, x3, x4, x5⟩ := c1 _ huw i hlt
        obtain ⟨y0, y1, y2, y3, y4, y5⟩ := c2 _ huw i hlt
        have HY : Hid ((a.getD i dc = b.getD i dc → ∀ j, j < i + 1 → a.getD j dc = b.getD j dc) ∧ (a.getD i dc ≠ b.getD i dc → R = false)) := ⟨fun e j hj => by
          by_cases ej : j = i
          · subst ej; exact e
          · exact HJ.out j (by omega), fun e => by rw [HR.out, decide_eq_false]; rintro rfl; exact e rfl⟩
        clear c1 c2 HJ
        generalize a.getD i dc = x at x0 x1 x2 x3 x4 x5 HY
        generalize b.getD i dc = y at y0 y1 y2 y3 y4 y5 HY
        by_cases hxy : x = y
        · subst hxy
          have HF : Hid _ := HY.out.1 rfl
          clear HY
          have hq := neqCards_same x
          go_wp2_with fail
          go_quiet (fail)
          go_wp2
          go_roundw
          case rel => exact ⟨i + 1, by omega, rfl, by go_num, ⟨k + nq, by rw [HK.out, drewN_two]⟩, HF.out⟩
          case measure => simp [intOf]; omega
        · have hq := neqCards_not x y hxy
          have HF : Hid _ := HY.out.2 hxy
          clear HY
          go_wp2_with fail
          go_quiet (fail)
          go_wp2
          go_ret
          exact ⟨by rw [HF.out]; rfl, k + nq, by rw [HK.out, drewN_two]⟩
      · have hlt2 : ¬ (i : Int) < (n : Int) := by omega
        have HF : Hid (R = true) := by unfold Hid; rw [HR.out, decide_eq_true]; exact eq_at a b dc (by rw [← HN.out.1, ← HN.out.2]) (fun j hj => HJ.out j (by have := HN.out.1; omega))
        go_wp2
        go_ret
        exact ⟨by rw [HF.out]; rfl, k, HK.out⟩
  · have hl2 : ((n : Int) != (m : Int)) = true := by simp; omega
    have HF : Hid (R = false) := by unfold Hid; rw [HR.out, decide_eq_false]; rintro rfl; exact hl (HN.out.1.trans HN.out.2.symm)
    go_enter Tryz.func21, Tryz.ntmps21
    go_wp2
    go_ret
    exact ⟨by rw [HF.out]; rfl, 0, rfl⟩
set_option maxRecDepth 100000 in
set_option maxHeartbeats 2000000 in
theorem eqRows_ (v u : Value) (a b : List (List Int)) (w : World) (hv : ZL w v a) (hu : ZL w u b) (hn : a.length ≤ 4294967296) (hl9 : ∀ r, r < a.length → (a.getD r []).length ≤ 4294967296) :
    Calls Tryz.prog 22 #[v, u] w fun e w' => e = .returned (.bool (decide (a = b))) ∧ ∃ m, w' = w.drewN m := by
  obtain ⟨a1, k1, rfl, -, h1⟩ := zl_at hv
  obtain ⟨a2, k2, rfl, -, h2⟩ := zl_at hu
  obtain ⟨R, hR⟩ : ∃ R, R = decide (a = b) := ⟨_, rfl⟩
  rw [← hR]
  have HR : Hid (R = decide (a = b)) := hR
  obtain ⟨n, hn0⟩ : ∃ n, n = a.length := ⟨_, rfl⟩
  obtain ⟨m, hm0⟩ : ∃ n, n = b.length := ⟨_, rfl⟩
  have HN : Hid (n = a.length ∧ m = b.length) := ⟨hn0, hm0⟩
  rw [← hn0] at hn h1 ⊢
  rw [← hm0] at h2 ⊢
  have H1 : Hid _ := h1
  have H2 : Hid _ := h2
  rw [← hn0] at hl9
  have HL9 : Hid _ := hl9
  clear hv hu h1 h2 hn0 hm0 hR hl9
  by_cases hl : n = m
  · subst hl
    go_enter Tryz.func22, Tryz.ntmps22
    go_wp2_with fail
    go_loopw [4, 5] (fun s4 s5 wr => ∃ i : Nat, i ≤ n ∧ s4 = .bool false ∧ s5 = .int .i64 i ∧ (∃ k, wr = w.drewN k) ∧ ∀ j, j < i → a.getD j [] = b.getD j []) (fun _ s5 _ => n - (intOf s5).toNat)
    case atStart => exact ⟨0, Nat.zero_le _, rfl, rfl, ⟨0, rfl⟩, fun j hj => by omega⟩
    case round =>
      obtain ⟨i, hi, rfl, rfl, ⟨k, hk⟩, hj⟩ := hrel
      have HK : Hid (wr = w.drewN k) := hk
      have huw : Up w wr := by rw [hk]; exact (Up.refl w).drewN k
      have HJ : Hid (∀ j, j < i → a.getD j [] = b.getD j []) := hj
      clear hk hj
      by_cases hlt : i < n
      · have hlt2 : (i : Int) < (n : Int) := by omega
        obtain ⟨b1, o1, rfl, c1⟩ := H1.out (by omega)
        obtain ⟨b2, o2, rfl, c2⟩ := H2.out (by omega)
        obtain ⟨ra1, rc1, d1, il1⟩ := c1 i hlt
        obtain ⟨ra2, rc2, d2, il2⟩ := c2 i hlt
        have x1 := d1 _ huw
        have x2 := d2 _ huw
        have HE : Hid (∀ W, Up w W → Calls Tryz.prog 55 #[.slice ra1 (a.getD i []).length rc1, .slice ra2 (b.getD i []).length rc2] W fun e w' => e = .returned (.bool (decide (a.getD i [] = b.getD i []))) ∧ ∃ m, w' = W.drewN m) := fun W u => eqInts_ _ _ _ _ W (il1.up u) (il2.up u) (HL9.out i hlt)
        have HY : Hid ((a.getD i [] = b.getD i [] → ∀ j, j < i + 1 → a.getD j [] = b.getD j []) ∧ (a.getD i [] ≠ b.getD i [] → R = false)) := ⟨fun e j hj => by
          by_cases ej : j = i
          · subst ej; exact e
          · exact HJ.out j (by omega), fun e => by rw [HR.out, decide_eq_false]; rintro rfl; exact e rfl⟩
        clear c1 c2 HJ d1 d2 il1 il2
        generalize a.getD i [] = x at x1 HY HE
        generalize b.getD i [] = y at x2 HY HE
        by_cases hxy : x = y
        · have HF : Hid _ := HY.out.1 hxy
          rw [decide_eq_true hxy] at HE
          clear HY hxy
          go_wp2_with fail
          go_quiet (exact Calls.quiet_of (HE.out _ (huw.drewN _)))
          go_wp2
          go_roundw
          case rel => exact ⟨i + 1, by omega, rfl, by go_num, ⟨k + nq, by rw [HK.out, drewN_two]⟩, HF.out⟩
          case measure => simp [intOf]; omega
        · have HF : Hid _ := HY.out.2 hxy
          rw [decide_eq_false hxy] at HE
          clear HY hxy
          go_wp2_with fail
          go_quiet (exact Calls.quiet_of (HE.out _ (huw.drewN _)))
          go_wp2
          go_ret
          exact ⟨by rw [HF.out]; rfl, k + nq, by rw [HK.out, drewN_two]⟩
      · have hlt2 : ¬ (i : Int) < (n : Int) := by omega
        have HF : Hid (R = true) := by unfold Hid; rw [HR.out, decide_eq_true]; exact eq_at a b [] (by rw [← HN.out.1, ← HN.out.2]) (fun j hj => HJ.out j (by have := HN.out.1; omega))
        go_wp2
        go_ret
        exact ⟨by rw [HF.out]; rfl, k, HK.out⟩
  · have hl2 : ((n : Int) != (m : Int)) = true := by simp; omega
    have HF : Hid (R = false) := by unfold Hid; rw [HR.out, decide_eq_false]; rintro rfl; exact hl (HN.out.1.trans HN.out.2.symm)
    go_enter Tryz.func22, Tryz.ntmps22
    go_wp2
    go_ret
    exact ⟨by rw [HF.out]; rfl, 0, rfl⟩
def eqS (a b : Stt) : Bool := decide (a.turn = b.turn) && decide (a.whose = b.whose) && decide (a.fin = b.fin) && decide (a.winner = b.winner) && decide (a.ps = b.ps) && decide (a.cs = b.cs) && decide (a.zs = b.zs)
set_option maxRecDepth 100000 in
set_option maxHeartbeats 4000000 in
theorem eqState_ (v u : Value) (a b : Stt) (w : World) (hv : StL w v a) (hu : StL w u b) (hsm : Small a) (he : eqS a b = true) :
    Calls Tryz.prog 10 #[v, u] w fun e w' => e = .returned (.bool true) ∧ Up w w' := by
  simp only [eqS, Bool.and_eq_true, decide_eq_true_eq] at he
  obtain ⟨⟨⟨⟨⟨⟨e1, e2⟩, e3⟩, e4⟩, e5⟩, e6⟩, e7⟩ := he
  obtain ⟨vp, vc, vz, rfl, h1, h2, h3⟩ := hv
  obtain ⟨up, uc, uz, rfl, g1, g2, g3⟩ := hu
  have HP : Hid (∀ W, Up w W → Calls Tryz.prog 20 #[vp, up] W fun e w' => e = .returned (.bool true) ∧ ∃ m, w' = W.drewN m) := fun W k => by
    have := eqPlayers_ vp up a.ps b.ps W (h1.up k) (g1.up k) hsm.1
    rwa [decide_eq_true e5] at this
  have HC : Hid (∀ W, Up w W → Calls Tryz.prog 21 #[vc, uc] W fun e w' => e = .returned (.bool true) ∧ ∃ m, w' = W.drewN m) := fun W k => by
    have := eqCards_ vc uc a.cs b.cs W (h2.up k) (g2.up k) hsm.2.1
    rwa [decide_eq_true e6] at this
  have HZ : Hid (∀ W, Up w W → Calls Tryz.prog 22 #[vz, uz] W fun e w' => e = .returned (.bool true) ∧ ∃ m, w' = W.drewN m) := fun W k => by
    have := eqRows_ vz uz a.zs b.zs W (h3.up k) (g3.up k) hsm.2.2.1 hsm.2.2.2
    rwa [decide_eq_true e7] at this
  obtain ⟨a1, k1, rfl, -, -⟩ := lc_at h1
  obtain ⟨a2, k2, rfl, -, -⟩ := lc_at h2
  obtain ⟨a3, k3, rfl, -, -⟩ := zl_at h3
  obtain ⟨b1, l1, rfl, -, -⟩ := lc_at g1
  obtain ⟨b2, l2, rfl, -, -⟩ := lc_at g2
  obtain ⟨b3, l3, rfl, -, -⟩ := zl_at g3
  unfold sv
  rw [← e1, ← e2, ← e3, ← e4]
  clear h1 h2 h3 g1 g2 g3 hsm e1 e2 e3 e4 e5 e6 e7
  go_enter Tryz.func10, Tryz.ntmps10
  go_wp2_with fail
  refine Calls.mono (HP.out _ (((Up.refl _).alloc _).alloc _)) ?_
  rintro e w1 ⟨rfl, m1, rfl⟩
  go_wp2_with fail
  refine Calls.mono (HC.out _ ((((Up.refl _).alloc _).alloc _).drewN _)) ?_
  rintro e w2 ⟨rfl, m2, rfl⟩
  go_wp2_with fail
  refine Calls.mono (HZ.out _ (by first | exact (((Up.refl _).alloc _).alloc _).drewN _ | exact ((((Up.refl _).alloc _).alloc _).drewN _).drewN _)) ?_
  rintro e w3 ⟨rfl, m3, rfl⟩
  go_wp2
  go_ret
  exact ⟨rfl, by first | exact (((Up.refl _).alloc _).alloc _).drewN _ | exact ((((Up.refl _).alloc _).alloc _).drewN _).drewN _⟩
end ST
end Go.Proofs.YtmpamcdobhiipaaGreatDoor
