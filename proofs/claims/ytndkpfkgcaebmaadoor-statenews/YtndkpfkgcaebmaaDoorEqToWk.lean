/-
  Are two lists, two states the same?
-/
import Derived.Test.YtndkpfkgcaebmaaDoorCsToNw
import Derived.Test.YtndkpfkgcaebmaaDoorBaseToMem
import Derived.Test.YtndkpfkgcaebmaaDoorSmToCp
import Derived.Test.YtndkpfkgcaebmaaDoorNxQ
namespace Go.Proofs.YtndkpfkgcaebmaaDoor
open Go.RowKit
attribute [local go_sem ↓] Go.wp_at_zero Go.wp_at_succ

namespace ST
theorem drewN_two (w : World) (a b : Nat) : (w.drewN a).drewN b = w.drewN (a + b) := by
  simp only [World.drewN, Nat.add_assoc]
theorem eq_at {A : Type} (a b : List A) (d : A) (hl : a.length = b.length) (h : ∀ j, j < a.length → a.getD j d = b.getD j d) : a = b := by
  apply List.ext_getElem hl
  intro j h1 h2
  have := h j h1
  rwa [List.getD_eq_getElem?_getD, List.getD_eq_getElem?_getD, List.getElem?_eq_getElem h1, List.getElem?_eq_getElem h2] at this
set_option maxRecDepth 100000 in
set_option maxHeartbeats 2000000 in
theorem eqInts_ (v u : Value) (a b : List Int) (w : World) (hv : IL w v a) (hu : IL w u b) (hn : a.length ≤ 4294967296) :
    Calls Tryd.prog 74 #[v, u] w fun e w' => e = .returned (.bool (decide (a = b))) ∧ ∃ m, w' = w.drewN m := by
  obtain ⟨a1, k1, rfl, -, h1⟩ := il_at hv
  obtain ⟨a2, k2, rfl, -, h2⟩ := il_at hu
  obtain ⟨R, hR⟩ : ∃ R, R = decide (a = b) := ⟨_, rfl⟩
  rw [← hR]
  have HR : Hid (R = decide (a = b)) := hR
  obtain ⟨n, hn0⟩ : ∃ n, n = a.length := ⟨_, rfl⟩
  obtain ⟨m, hm0⟩ : ∃ n, n = b.length := ⟨_, rfl⟩
  have HN : Hid (n = a.length ∧ m = b.length) := ⟨hn0, hm0⟩
  rw [← hn0] at hn h1 ⊢
  rw [← hm0] at h2 ⊢
  have H1 : Hid _ := h1
  have H2 : Hid _ := h2
  clear hv hu h1 h2 hn0 hm0 hR
  by_cases hl : n = m
  · subst hl
    go_enter Tryd.func74, Tryd.ntmps74
    go_wp2_with fail
    go_loopw [4, 5] (fun s4 s5 wr => ∃ i : Nat, i ≤ n ∧ s4 = .bool false ∧ s5 = .int .i64 i ∧ (∃ k, wr = w.drewN k) ∧ ∀ j, j < i → a.getD j 0 = b.getD j 0) (fun _ s5 _ => n - (intOf s5).toNat)
    case atStart => exact ⟨0, Nat.zero_le _, rfl, rfl, ⟨0, rfl⟩, fun j hj => by omega⟩
    case round =>
      obtain ⟨i, hi, rfl, rfl, ⟨k, hk⟩, hj⟩ := hrel
      have HK : Hid (wr = w.drewN k) := hk
      have huw : Up w wr := by rw [hk]; exact (Up.refl w).drewN k
      have HJ : Hid (∀ j, j < i → a.getD j 0 = b.getD j 0) := hj
      clear hk hj
      by_cases hlt : i < n
      · have hlt2 : (i : Int) < (n : Int) := by omega
        obtain ⟨b1, o1, rfl, c1⟩ := H1.out (by omega)
        obtain ⟨b2, o2, rfl, c2⟩ := H2.out (by omega)
        have x1 := c1 _ huw i hlt
        have x2 := c2 _ huw i hlt
        have HY : Hid ((a.getD i 0 = b.getD i 0 → ∀ j, j < i + 1 → a.getD j 0 = b.getD j 0) ∧ (a.getD i 0 ≠ b.getD i 0 → R = false)) := ⟨fun e j hj => by
          by_cases ej : j = i
          · subst ej; exact e
          · exact HJ.out j (by omega), fun e => by rw [HR.out, decide_eq_false]; rintro rfl; exact e rfl⟩
        clear c1 c2 HJ
        generalize a.getD i 0 = x at x1 HY
        generalize b.getD i 0 = y at x2 HY
        by_cases hxy : x = y
        · subst hxy
          have HF : Hid _ := HY.out.1 rfl
          clear HY
          go_wp2_with fail
          go_quiet (fail)
          go_wp2
          go_roundw
          case rel => exact ⟨i + 1, by omega, rfl, by go_num, ⟨k + nq, by rw [HK.out, drewN_two]⟩, HF.out⟩
          case measure => simp [intOf]; omega
        · have hb : (x != y) = true := by simpa using hxy
          have HF : Hid _ := HY.out.2 hxy
          clear HY
          go_wp2_with fail
          go_quiet (fail)
          go_wp2
          go_ret
          exact ⟨by rw [HF.out]; rfl, k + nq, by rw [HK.out, drewN_two]⟩
      · have hlt2 : ¬ (i : Int) < (n : Int) := by omega
        have HF : Hid (R = true) := by unfold Hid; rw [HR.out, decide_eq_true]; exact eq_at a b 0 (by rw [← HN.out.1, ← HN.out.2]) (fun j hj => HJ.out j (by have := HN.out.1; omega))
        go_wp2
        go_ret
        exact ⟨by rw [HF.out]; rfl, k, HK.out⟩
  · have hl2 : ((n : Int) != (m : Int)) = true := by simp; omega
    have HF : Hid (R = false) := by unfold Hid; rw [HR.out, decide_eq_false]; rintro rfl; exact hl (HN.out.1.trans HN.out.2.symm)
    go_enter Tryd.func74, Tryd.ntmps74
    go_wp2
    go_ret
    exact ⟨by rw [HF.out]; rfl, 0, rfl⟩
theorem sPlayers : Tryd.prog.underlying 71 = some (.struct (Tryd.prog.fieldsOf 71)) := by kernel_rfl
theorem hPlayers : Tryd.prog.stoodInHeld 71 = false := by kernel_rfl
theorem gPlayers : Tryd.prog.eqGuardType Tryd.prog.depth 71 = false := by kernel_rfl
theorem eqInPlayers (x y : Ply) (W : World) : (Op.equalIn 10000 71 (.agg #[.int .i32 x.life, .int .i32 x.energy, .bool x.out]) (.agg #[.int .i32 y.life, .int .i32 y.energy, .bool y.out])).run Tryd.prog W = .ok (decide (x = y)) W := by
  obtain ⟨a0, a1, a2⟩ := x
  obtain ⟨b0, b1, b2⟩ := y
  have u3 := Tryd.underlying3
  have v3 := Tryd.isAgg3
  have z3 := Tryd.sizeOf3
  have u4 := Tryd.underlying21
  have v4 := Tryd.isAgg21
  have z4 := Tryd.sizeOf21
  have u5 := Tryd.underlying4
  have v5 := Tryd.isAgg4
  have z5 := Tryd.sizeOf4
  rw [show (10000 : Nat) = 9999 + 1 from rfl, run_equalIn_agg W 9999 71 _ _ sPlayers hPlayers]
  simp only [Program.fieldsOf, Tryd.underlying71]
  go_simp
  by_cases h0 : a0 = b0 <;> by_cases h1 : a1 = b1 <;> by_cases h2 : a2 = b2 <;> simp [h0, h1, h2]
theorem neqPlayers_same (x : Ply) : ∀ W, (binOp .neq 71 (.agg #[.int .i32 x.life, .int .i32 x.energy, .bool x.out]) (.agg #[.int .i32 x.life, .int .i32 x.energy, .bool x.out])).run Tryd.prog W = .ok (.bool false) W := fun W => by
  rw [run_neq_struct, eqInPlayers x x W]
  simp [Result.andThen]
theorem neqPlayers_not (x y : Ply) (h : x ≠ y) : ∀ W, (binOp .neq 71 (.agg #[.int .i32 x.life, .int .i32 x.energy, .bool x.out]) (.agg #[.int .i32 y.life, .int .i32 y.energy, .bool y.out])).run Tryd.prog W = .ok (.bool true) W := fun W => by
  rw [run_neq_struct, eqInPlayers x y W]
  simp [Result.andThen, h]
set_option maxRecDepth 100000 in
set_option maxHeartbeats 2000000 in
theorem eqPlayers_ (v u : Value) (a b : List Ply) (w : World) (hv : PLs w v a) (hu : PLs w u b) (hn : a.length ≤ 4294967296) :
    Calls Tryd.prog 28 #[v, u] w fun e w' => e = .returned (.bool (decide (a = b))) ∧ ∃ m, w' = w.drewN m := by
  obtain ⟨a1, k1, rfl, -, h1⟩ := pl_at hv
  obtain ⟨a2, k2, rfl, -, h2⟩ := pl_at hu
  obtain ⟨R, hR⟩ : ∃ R, R = decide (a = b) := ⟨_, rfl⟩
  rw [← hR]
  have HR : Hid (R = decide (a = b)) := hR
  obtain ⟨n, hn0⟩ : ∃ n, n = a.length := ⟨_, rfl⟩
  obtain ⟨m, hm0⟩ : ∃ n, n = b.length := ⟨_, rfl⟩
  have HN : Hid (n = a.length ∧ m = b.length) := ⟨hn0, hm0⟩
  rw [← hn0] at hn h1 ⊢
  rw [← hm0] at h2 ⊢
  have H1 : Hid _ := h1
  have H2 : Hid _ := h2
  clear hv hu h1 h2 hn0 hm0 hR
  by_cases hl : n = m
  · subst hl
    go_enter Tryd.func28, Tryd.ntmps28
    go_wp2_with fail
    go_loopw [4, 5] (fun s4 s5 wr => ∃ i : Nat, i ≤ n ∧ s4 = .bool false ∧ s5 = .int .i64 i ∧ (∃ k, wr = w.drewN k) ∧ ∀ j, j < i → a.getD j dp = b.getD j dp) (fun _ s5 _ => n - (intOf s5).toNat)
    case atStart => exact ⟨0, Nat.zero_le _, rfl, rfl, ⟨0, rfl⟩, fun j hj => by omega⟩
    case round =>
      obtain ⟨i, hi, rfl, rfl, ⟨k, hk⟩, hj⟩ := hrel
      have HK : Hid (wr = w.drewN k) := hk
      have huw : Up w wr := by rw [hk]; exact (Up.refl w).drewN k
      have HJ : Hid (∀ j, j < i → a.getD j dp = b.getD j dp) := hj
      clear hk hj
      by_cases hlt : i < n
      · have hlt2 : (i : Int) < (n : Int) := by omega
        obtain ⟨b1, o1, rfl, c1⟩ := H1.out (by omega)
        obtain ⟨b2, o2, rfl, c2⟩ := H2.out (by omega)
        obtain ⟨x0, x1, x2⟩ := c1 _ huw i hlt
        obtain ⟨y0, y1, y2⟩ := c2 _ huw i hlt
        have HY : Hid ((a.getD i dp = b.getD i dp → ∀ j, j < i + 1 → a.getD j dp = b.getD j dp) ∧ (a.getD i dp ≠ b.getD i dp → R = false)) := ⟨fun e j hj => by
          by_cases ej : j = i
          · subst ej; exact e
          · exact HJ.out j (by omega), fun e => by rw [HR.out, decide_eq_false]; rintro rfl; exact e rfl⟩
        clear c1 c2 HJ
        generalize a.getD i dp = x at x0 x1 x2 HY
        generalize b.getD i dp = y at y0 y1 y2 HY
        by_cases hxy : x = y
        · subst hxy
          have HF : Hid _ := HY.out.1 rfl
          clear HY
          have hq := neqPlayers_same x
          go_wp2_with fail
          go_quiet (fail)
          go_wp2
          go_roundw
          case rel => exact ⟨i + 1, by omega, rfl, by go_num, ⟨k + nq, by rw [HK.out, drewN_two]⟩, HF.out⟩
          case measure => simp [intOf]; omega
        · have hq := neqPlayers_not x y hxy
          have HF : Hid _ := HY.out.2 hxy
          clear HY
          go_wp2_with fail
          go_quiet (fail)
          go_wp2
          go_ret
          exact ⟨by rw [HF.out]; rfl, k + nq, by rw [HK.out, drewN_two]⟩
      · have hlt2 : ¬ (i : Int) < (n : Int) := by omega
        have HF : Hid (R = true) := by unfold Hid; rw [HR.out, decide_eq_true]; exact eq_at a b dp (by rw [← HN.out.1, ← HN.out.2]) (fun j hj => HJ.out j (by have := HN.out.1; omega))
        go_wp2
        go_ret
        exact ⟨by rw [HF.out]; rfl, k, HK.out⟩
  · have hl2 : ((n : Int) != (m : Int)) = true := by simp; omega
    have HF : Hid (R = false) := by unfold Hid; rw [HR.out, decide_eq_false]; rintro rfl; exact hl (HN.out.1.trans HN.out.2.symm)
    go_enter Tryd.func28, Tryd.ntmps28
    go_wp2
    go_ret
    exact ⟨by rw [HF.out]; rfl, 0, rfl⟩
theorem sCards : Tryd.prog.underlying 73 = some (.struct (Tryd.prog.fieldsOf 73)) := by kernel_rfl
theorem hCards : Tryd.prog.stoodInHeld 73 = false := by kernel_rfl
theorem gCards : Tryd.prog.eqGuardType Tryd.prog.depth 73 = false := by kernel_rfl
theorem eqInCards (x y : Crd) (W : World) : (Op.equalIn 10000 73 (.agg #[.int .i64 x.kind, .int .i64 x.owner, .int .i32 x.power, .int .i32 x.health, .int .i32 x.damage, .int .i32 x.marks]) (.agg #[.int .i64 y.kind, .int .i64 y.owner, .int .i32 y.power, .int .i32 y.health, .int .i32 y.damage, .int .i32 y.marks])).run Tryd.prog W = .ok (decide (x = y)) W := by
  obtain ⟨a0, a1, a2, a3, a4, a5⟩ := x
  obtain ⟨b0, b1, b2, b3, b4, b5⟩ := y
  have u3 := Tryd.underlying3
  have v3 := Tryd.isAgg3
  have z3 := Tryd.sizeOf3
  have u4 := Tryd.underlying21
  have v4 := Tryd.isAgg21
  have z4 := Tryd.sizeOf21
  have u5 := Tryd.underlying4
  have v5 := Tryd.isAgg4
  have z5 := Tryd.sizeOf4
  rw [show (10000 : Nat) = 9999 + 1 from rfl, run_equalIn_agg W 9999 73 _ _ sCards hCards]
  simp only [Program.fieldsOf, Tryd.underlying73]
  go_simp
  by_cases h0 : a0 = b0 <;> by_cases h1 : a1 = b1 <;> by_cases h2 : a2 = b2 <;> by_cases h3 : a3 = b3 <;> by_cases h4 : a4 = b4 <;> by_cases h5 : a5 = b5 <;> simp [h0, h1, h2, h3, h4, h5]
theorem neqCards_same (x : Crd) : ∀ W, (binOp .neq 73 (.agg #[.int .i64 x.kind, .int .i64 x.owner, .int .i32 x.power, .int .i32 x.health, .int .i32 x.damage, .int .i32 x.marks]) (.agg #[.int .i64 x.kind, .int .i64 x.owner, .int .i32 x.power, .int .i32 x.health, .int .i32 x.damage, .int .i32 x.marks])).run Tryd.prog W = .ok (.bool false) W := fun W => by
  rw [run_neq_struct, eqInCards x x W]
  simp [Result.andThen]
theorem neqCards_not (x y : Crd) (h : x ≠ y) : ∀ W, (binOp .neq 73 (.agg #[.int .i64 x.kind, .int .i64 x.owner, .int .i32 x.power, .int .i32 x.health, .int .i32 x.damage, .int .i32 x.marks]) (.agg #[.int .i64 y.kind, .int .i64 y.owner, .int .i32 y.power, .int .i32 y.health, .int .i32 y.damage, .int .i32 y.marks])).run Tryd.prog W = .ok (.bool true) W := fun W => by
  rw [run_neq_struct, eqInCards x y W]
  simp [Result.andThen, h]
set_option maxRecDepth 100000 in
set_option maxHeartbeats 2000000 in
theorem eqCards_ (v u : Value) (a b : List Crd) (w : World) (hv : CLs w v a) (hu : CLs w u b) (hn : a.length ≤ 4294967296) :
    Calls Tryd.prog 19 #[v, u] w fun e w' => e = .returned (.bool (decide (a = b))) ∧ ∃ m, w' = w.drewN m := by
  obtain ⟨a1, k1, rfl, -, h1⟩ := cl_at hv
  obtain ⟨a2, k2, rfl, -, h2⟩ := cl_at hu
  obtain ⟨R, hR⟩ : ∃ R, R = decide (a = b) := ⟨_, rfl⟩
  rw [← hR]
  have HR : Hid (R = decide (a = b)) := hR
  obtain ⟨n, hn0⟩ : ∃ n, n = a.length := ⟨_, rfl⟩
  obtain ⟨m, hm0⟩ : ∃ n, n = b.length := ⟨_, rfl⟩
  have HN : Hid (n = a.length ∧ m = b.length) := ⟨hn0, hm0⟩
  rw [← hn0] at hn h1 ⊢
  rw [← hm0] at h2 ⊢
  have H1 : Hid _ := h1
  have H2 : Hid _ := h2
  clear hv hu h1 h2 hn0 hm0 hR
  by_cases hl : n = m
  · subst hl
    go_enter Tryd.func19, Tryd.ntmps19
    go_wp2_with fail
    go_loopw [4, 5] (fun s4 s5 wr => ∃ i : Nat, i ≤ n ∧ s4 = .bool false ∧ s5 = .int .i64 i ∧ (∃ k, wr = w.drewN k) ∧ ∀ j, j < i → a.getD j dc = b.getD j dc) (fun _ s5 _ => n - (intOf s5).toNat)
    case atStart => exact ⟨0, Nat.zero_le _, rfl, rfl, ⟨0, rfl⟩, fun j hj => by omega⟩
    case round =>
      obtain ⟨i, hi, rfl, rfl, ⟨k, hk⟩, hj⟩ := hrel
      have HK : Hid (wr = w.drewN k) := hk
      have huw : Up w wr := by rw [hk]; exact (Up.refl w).drewN k
      have HJ : Hid (∀ j, j < i → a.getD j dc = b.getD j dc) := hj
      clear hk hj
      by_cases hlt : i < n
      · have hlt2 : (i : Int) < (n : Int) := by omega
        obtain ⟨b1, o1, rfl, c1⟩ := H1.out (by omega)
        obtain ⟨b2, o2, rfl, c2⟩ := H2.out (by omega)
        obtain ⟨x0, x1, x2, x3, x4, x5⟩ := c1 _ huw i hlt
        obtain ⟨y0, y1, y2, y3, y4, y5⟩ := c2 _ huw i hlt
        have HY : Hid ((a.getD i dc = b.getD i dc → ∀ j, j < i + 1 → a.getD j dc = b.getD j dc) ∧ (a.getD i dc ≠ b.getD i dc → R = false)) := ⟨fun e j hj => by
          by_cases ej : j = i
          · subst ej; exact e
          · exact HJ.out j (by omega), fun e => by rw [HR.out, decide_eq_false]; rintro rfl; exact e rfl⟩
        clear c1 c2 HJ
        generalize a.getD i dc = x at x0 x1 x2 x3 x4 x5 HY
        generalize b.getD i dc = y at y0 y1 y2 y3 y4 y5 HY
        by_cases hxy : x = y
        · subst hxy
          have HF : Hid _ := HY.out.1 rfl
          clear HY
          have hq := neqCards_same x
          go_wp2_with fail
          go_quiet (fail)
          go_wp2
          go_roundw
          case rel => exact ⟨i + 1, by omega, rfl, by go_num, ⟨k + nq, by rw [HK.out, drewN_two]⟩, HF.out⟩
          case measure => simp [intOf]; omega
        · have hq := neqCards_not x y hxy
          have HF : Hid _ := HY.out.2 hxy
          clear HY
          go_wp2_with fail
          go_quiet (fail)
          go_wp2
          go_ret
          exact ⟨by rw [HF.out]; rfl, k + nq, by rw [HK.out, drewN_two]⟩
      · have hlt2 : ¬ (i : Int) < (n : Int) := by omega
        have HF : Hid (R = true) := by unfold Hid; rw [HR.out, decide_eq_true]; exact eq_at a b dc (by rw [← HN.out.1, ← HN.out.2]) (fun j hj => HJ.out j (by have := HN.out.1; omega))
        go_wp2
        go_ret
        exact ⟨by rw [HF.out]; rfl, k, HK.out⟩
  · have hl2 : ((n : Int) != (m : Int)) = true := by simp; omega
    have HF : Hid (R = false) := by unfold Hid; rw [HR.out, decide_eq_false]; rintro rfl; exact hl (HN.out.1.trans HN.out.2.symm)
    go_enter Tryd.func19, Tryd.ntmps19
    go_wp2
    go_ret
    exact ⟨by rw [HF.out]; rfl, 0, rfl⟩
set_option maxRecDepth 100000 in
set_option maxHeartbeats 2000000 in
theorem eqRows_ (v u : Value) (a b : List (List Int)) (w : World) (hv : ZL w v a) (hu : ZL w u b) (hn : a.length ≤ 4294967296) (hl9 : ∀ r, r < a.length → (a.getD r []).length ≤ 4294967296) :
    Calls Tryd.prog 29 #[v, u] w fun e w' => e = .returned (.bool (decide (a = b))) ∧ ∃ m, w' = w.drewN m := by
  obtain ⟨a1, k1, rfl, -, h1⟩ := zl_at hv
  obtain ⟨a2, k2, rfl, -, h2⟩ := zl_at hu
  obtain ⟨R, hR⟩ : ∃ R, R = decide (a = b) := ⟨_, rfl⟩
  rw [← hR]
  have HR : Hid (R = decide (a = b)) := hR
  obtain ⟨n, hn0⟩ : ∃ n, n = a.length := ⟨_, rfl⟩
  obtain ⟨m, hm0⟩ : ∃ n, n = b.length := ⟨_, rfl⟩
  have HN : Hid (n = a.length ∧ m = b.length) := ⟨hn0, hm0⟩
  rw [← hn0] at hn h1 ⊢
  rw [← hm0] at h2 ⊢
  have H1 : Hid _ := h1
  have H2 : Hid _ := h2
  rw [← hn0] at hl9
  have HL9 : Hid _ := hl9
  clear hv hu h1 h2 hn0 hm0 hR hl9
  by_cases hl : n = m
  · subst hl
    go_enter Tryd.func29, Tryd.ntmps29
    go_wp2_with fail
    go_loopw [4, 5] (fun s4 s5 wr => ∃ i : Nat, i ≤ n ∧ s4 = .bool false ∧ s5 = .int .i64 i ∧ (∃ k, wr = w.drewN k) ∧ ∀ j, j < i → a.getD j [] = b.getD j []) (fun _ s5 _ => n - (intOf s5).toNat)
    case atStart => exact ⟨0, Nat.zero_le _, rfl, rfl, ⟨0, rfl⟩, fun j hj => by omega⟩
    case round =>
      obtain ⟨i, hi, rfl, rfl, ⟨k, hk⟩, hj⟩ := hrel
      have HK : Hid (wr = w.drewN k) := hk
      have huw : Up w wr := by rw [hk]; exact (Up.refl w).drewN k
      have HJ : Hid (∀ j, j < i → a.getD j [] = b.getD j []) := hj
      clear hk hj
      by_cases hlt : i < n
      · have hlt2 : (i : Int) < (n : Int) := by omega
        obtain ⟨b1, o1, rfl, c1⟩ := H1.out (by omega)
        obtain ⟨b2, o2, rfl, c2⟩ := H2.out (by omega)
        obtain ⟨ra1, rc1, d1, il1⟩ := c1 i hlt
        obtain ⟨ra2, rc2, d2, il2⟩ := c2 i hlt
        have x1 := d1 _ huw
        have x2 := d2 _ huw
        have HE : Hid (∀ W, Up w W → Calls Tryd.prog 74 #[.slice ra1 (a.getD i []).length rc1, .slice ra2 (b.getD i []).length rc2] W fun e w' => e = .returned (.bool (decide (a.getD i [] = b.getD i []))) ∧ ∃ m, w' = W.drewN m) := fun W u => eqInts_ _ _ _ _ W (il1.up u) (il2.up u) (HL9.out i hlt)
        have HY : Hid ((a.getD i [] = b.getD i [] → ∀ j, j < i + 1 → a.getD j [] = b.getD j []) ∧ (a.getD i [] ≠ b.getD i [] → R = false)) := ⟨fun e j hj => by
          by_cases ej : j = i
          · subst ej; exact e
          · exact HJ.out j (by omega), fun e => by rw [HR.out, decide_eq_false]; rintro rfl; exact e rfl⟩
        clear c1 c2 HJ d1 d2 il1 il2
        generalize a.getD i [] = x at x1 HY HE
        generalize b.getD i [] = y at x2 HY HE
        by_cases hxy : x = y
        · have HF : Hid _ := HY.out.1 hxy
          rw [decide_eq_true hxy] at HE
          clear HY hxy
          go_wp2_with fail
          go_quiet (exact Calls.quiet_of (HE.out _ (huw.drewN _)))
          go_wp2
          go_roundw
          case rel => exact ⟨i + 1, by omega, rfl, by go_num, ⟨k + nq, by rw [HK.out, drewN_two]⟩, HF.out⟩
          case measure => simp [intOf]; omega
        · have HF : Hid _ := HY.out.2 hxy
          rw [decide_eq_false hxy] at HE
          clear HY hxy
          go_wp2_with fail
          go_quiet (exact Calls.quiet_of (HE.out _ (huw.drewN _)))
          go_wp2
          go_ret
          exact ⟨by rw [HF.out]; rfl, k + nq, by rw [HK.out, drewN_two]⟩
      · have hlt2 : ¬ (i : Int) < (n : Int) := by omega
        have HF : Hid (R = true) := by unfold Hid; rw [HR.out, decide_eq_true]; exact eq_at a b [] (by rw [← HN.out.1, ← HN.out.2]) (fun j hj => HJ.out j (by have := HN.out.1; omega))
        go_wp2
        go_ret
        exact ⟨by rw [HF.out]; rfl, k, HK.out⟩
  · have hl2 : ((n : Int) != (m : Int)) = true := by simp; omega
    have HF : Hid (R = false) := by unfold Hid; rw [HR.out, decide_eq_false]; rintro rfl; exact hl (HN.out.1.trans HN.out.2.symm)
    go_enter Tryd.func29, Tryd.ntmps29
    go_wp2
    go_ret
    exact ⟨by rw [HF.out]; rfl, 0, rfl⟩
def eqS (a b : Stt) : Bool := decide (a.turn = b.turn) && decide (a.whose = b.whose) && decide (a.fin = b.fin) && decide (a.winner = b.winner) && decide (a.ps = b.ps) && decide (a.cs = b.cs) && decide (a.zs = b.zs)
set_option maxRecDepth 100000 in
set_option maxHeartbeats 4000000 in
theorem eqState_ (v u : Value) (a b : Stt) (w : World) (hv : StL w v a) (hu : StL w u b) (hsm : Small a) (he : eqS a b = true) :
    Calls Tryd.prog 8 #[v, u] w fun e w' => e = .returned (.bool true) ∧ Up w w' := by
  simp only [eqS, Bool.and_eq_true, decide_eq_true_eq] at he
  obtain ⟨⟨⟨⟨⟨⟨e1, e2⟩, e3⟩, e4⟩, e5⟩, e6⟩, e7⟩ := he
  obtain ⟨vp, vc, vz, rfl, h1, h2, h3⟩ := hv
  obtain ⟨up, uc, uz, rfl, g1, g2, g3⟩ := hu
  have HP : Hid (∀ W, Up w W → Calls Tryd.prog 28 #[vp, up] W fun e w' => e = .returned (.bool true) ∧ ∃ m, w' = W.drewN m) := fun W k => by
    have := eqPlayers_ vp up a.ps b.ps W (h1.up k) (g1.up k) hsm.1
    rwa [decide_eq_true e5] at this
  have HC : Hid (∀ W, Up w W → Calls Tryd.prog 19 #[vc, uc] W fun e w' => e = .returned (.bool true) ∧ ∃ m, w' = W.drewN m) := fun W k => by
    have := eqCards_ vc uc a.cs b.cs W (h2.up k) (g2.up k) hsm.2.1
    rwa [decide_eq_true e6] at this
  have HZ : Hid (∀ W, Up w W → Calls Tryd.prog 29 #[vz, uz] W fun e w' => e = .returned (.bool true) ∧ ∃ m, w' = W.drewN m) := fun W k => by
    have := eqRows_ vz uz a.zs b.zs W (h3.up k) (g3.up k) hsm.2.2.1 hsm.2.2.2
    rwa [decide_eq_true e7] at this
  obtain ⟨a1, k1, rfl, -, -⟩ := lc_at h1
  obtain ⟨a2, k2, rfl, -, -⟩ := lc_at h2
  obtain ⟨a3, k3, rfl, -, -⟩ := zl_at h3
  obtain ⟨b1, l1, rfl, -, -⟩ := lc_at g1
  obtain ⟨b2, l2, rfl, -, -⟩ := lc_at g2
  obtain ⟨b3, l3, rfl, -, -⟩ := zl_at g3
  unfold sv
  rw [← e1, ← e2, ← e3, ← e4]
  clear h1 h2 h3 g1 g2 g3 hsm e1 e2 e3 e4 e5 e6 e7
  go_enter Tryd.func8, Tryd.ntmps8
  go_wp2_with fail
  refine Calls.mono (HP.out _ (((Up.refl _).alloc _).alloc _)) ?_
  rintro e w1 ⟨rfl, m1, rfl⟩
  go_wp2_with fail
  refine Calls.mono (HC.out _ ((((Up.refl _).alloc _).alloc _).drewN _)) ?_
  rintro e w2 ⟨rfl, m2, rfl⟩
  go_wp2_with fail
  refine Calls.mono (HZ.out _ (by first | exact (((Up.refl _).alloc _).alloc _).drewN _ | exact ((((Up.refl _).alloc _).alloc _).drewN _).drewN _)) ?_
  rintro e w3 ⟨rfl, m3, rfl⟩
  go_wp2
  go_ret
  exact ⟨rfl, by first | exact (((Up.refl _).alloc _).alloc _).drewN _ | exact ((((Up.refl _).alloc _).alloc _).drewN _).drewN _⟩
end ST
end Go.Proofs.YtndkpfkgcaebmaaDoor
/-
  The library's Equal of two lists of ints, players, cards; EqualFunc of two lists of lists.
-/
namespace Go.Proofs.YtndkpfkgcaebmaaDoor
open Go.RowKit
attribute [local go_sem ↓] Go.wp_at_zero Go.wp_at_succ

namespace ST
set_option maxRecDepth 100000 in
set_option maxHeartbeats 2000000 in
theorem slI_ (v u : Value) (a b : List Int) (w : World) (hv : IL w v a) (hu : IL w u b) (hn : a.length ≤ 4294967296) :
    Calls Tryd.prog 35 #[v, u] w fun e w' => e = .returned (.bool (decide (a = b))) ∧ ∃ m, w' = w.drewN m := by
  obtain ⟨a1, k1, rfl, -, h1⟩ := il_at hv
  obtain ⟨a2, k2, rfl, -, h2⟩ := il_at hu
  obtain ⟨R, hR⟩ : ∃ R, R = decide (a = b) := ⟨_, rfl⟩
  rw [← hR]
  have HR : Hid (R = decide (a = b)) := hR
  obtain ⟨n, hn0⟩ : ∃ n, n = a.length := ⟨_, rfl⟩
  obtain ⟨m, hm0⟩ : ∃ n, n = b.length := ⟨_, rfl⟩
  have HN : Hid (n = a.length ∧ m = b.length) := ⟨hn0, hm0⟩
  rw [← hn0] at hn h1 ⊢
  rw [← hm0] at h2 ⊢
  have H1 : Hid _ := h1
  have H2 : Hid _ := h2
  clear hv hu h1 h2 hn0 hm0 hR
  by_cases hl : n = m
  · subst hl
    go_enter Tryd.func35, Tryd.ntmps35
    go_wp2_with fail
    go_loopw [4, 5, 13] (fun s4 s5 s13 wr => ∃ i : Nat, i ≤ n ∧ s4 = .bool false ∧ s13 = .int .i64 i ∧ (∃ k, wr = w.drewN k) ∧ ∀ j, j < i → a.getD j 0 = b.getD j 0) (fun _ _ s13 _ => n - (intOf s13).toNat)
    case atStart => exact ⟨0, Nat.zero_le _, rfl, rfl, ⟨0, rfl⟩, fun j hj => by omega⟩
    case round =>
      obtain ⟨i, hi, rfl, rfl, ⟨k, hk⟩, hj⟩ := hrel
      have HK : Hid (wr = w.drewN k) := hk
      have huw : Up w wr := by rw [hk]; exact (Up.refl w).drewN k
      have HJ : Hid (∀ j, j < i → a.getD j 0 = b.getD j 0) := hj
      clear hk hj
      by_cases hlt : i < n
      · have hlt2 : (i : Int) < (n : Int) := by omega
        obtain ⟨b1, o1, rfl, c1⟩ := H1.out (by omega)
        obtain ⟨b2, o2, rfl, c2⟩ := H2.out (by omega)
        have x1 := c1 _ huw i hlt
        have x2 := c2 _ huw i hlt
        have HY : Hid ((a.getD i 0 = b.getD i 0 → ∀ j, j < i + 1 → a.getD j 0 = b.getD j 0) ∧ (a.getD i 0 ≠ b.getD i 0 → R = false)) := ⟨fun e j hj => by
          by_cases ej : j = i
          · subst ej; exact e
          · exact HJ.out j (by omega), fun e => by rw [HR.out, decide_eq_false]; rintro rfl; exact e rfl⟩
        clear c1 c2 HJ
        generalize a.getD i 0 = x at x1 HY
        generalize b.getD i 0 = y at x2 HY
        by_cases hxy : x = y
        · subst hxy
          have HF : Hid _ := HY.out.1 rfl
          clear HY
          go_wp2_with fail
          go_quiet (fail)
          go_wp2
          go_roundw
          case rel => exact ⟨i + 1, by omega, rfl, by go_num, ⟨k + nq, by rw [HK.out, drewN_two]⟩, HF.out⟩
          case measure => simp [intOf]; omega
        · have hb : (x != y) = true := by simpa using hxy
          have HF : Hid _ := HY.out.2 hxy
          clear HY
          go_wp2_with fail
          go_quiet (fail)
          go_wp2
          go_ret
          exact ⟨by rw [HF.out]; rfl, k + nq, by rw [HK.out, drewN_two]⟩
      · have hlt2 : ¬ (i : Int) < (n : Int) := by omega
        have HF : Hid (R = true) := by unfold Hid; rw [HR.out, decide_eq_true]; exact eq_at a b 0 (by rw [← HN.out.1, ← HN.out.2]) (fun j hj => HJ.out j (by have := HN.out.1; omega))
        go_wp2
        go_ret
        exact ⟨by rw [HF.out]; rfl, k, HK.out⟩
  · have hl2 : ((n : Int) != (m : Int)) = true := by simp; omega
    have HF : Hid (R = false) := by unfold Hid; rw [HR.out, decide_eq_false]; rintro rfl; exact hl (HN.out.1.trans HN.out.2.symm)
    go_enter Tryd.func35, Tryd.ntmps35
    go_wp2
    go_ret
    exact ⟨by rw [HF.out]; rfl, 0, rfl⟩
set_option maxRecDepth 100000 in
set_option maxHeartbeats 2000000 in
theorem slP_ (v u : Value) (a b : List Ply) (w : World) (hv : PLs w v a) (hu : PLs w u b) (hn : a.length ≤ 4294967296) :
    Calls Tryd.prog 32 #[v, u] w fun e w' => e = .returned (.bool (decide (a = b))) ∧ ∃ m, w' = w.drewN m := by
  obtain ⟨a1, k1, rfl, -, h1⟩ := pl_at hv
  obtain ⟨a2, k2, rfl, -, h2⟩ := pl_at hu
  obtain ⟨R, hR⟩ : ∃ R, R = decide (a = b) := ⟨_, rfl⟩
  rw [← hR]
  have HR : Hid (R = decide (a = b)) := hR
  obtain ⟨n, hn0⟩ : ∃ n, n = a.length := ⟨_, rfl⟩
  obtain ⟨m, hm0⟩ : ∃ n, n = b.length := ⟨_, rfl⟩
  have HN : Hid (n = a.length ∧ m = b.length) := ⟨hn0, hm0⟩
  rw [← hn0] at hn h1 ⊢
  rw [← hm0] at h2 ⊢
  have H1 : Hid _ := h1
  have H2 : Hid _ := h2
  clear hv hu h1 h2 hn0 hm0 hR
  by_cases hl : n = m
  · subst hl
    go_enter Tryd.func32, Tryd.ntmps32
    go_wp2_with fail
    go_loopw [4, 5, 13] (fun s4 s5 s13 wr => ∃ i : Nat, i ≤ n ∧ s4 = .bool false ∧ s13 = .int .i64 i ∧ (∃ k, wr = w.drewN k) ∧ ∀ j, j < i → a.getD j dp = b.getD j dp) (fun _ _ s13 _ => n - (intOf s13).toNat)
    case atStart => exact ⟨0, Nat.zero_le _, rfl, rfl, ⟨0, rfl⟩, fun j hj => by omega⟩
    case round =>
      obtain ⟨i, hi, rfl, rfl, ⟨k, hk⟩, hj⟩ := hrel
      have HK : Hid (wr = w.drewN k) := hk
      have huw : Up w wr := by rw [hk]; exact (Up.refl w).drewN k
      have HJ : Hid (∀ j, j < i → a.getD j dp = b.getD j dp) := hj
      clear hk hj
      by_cases hlt : i < n
      · have hlt2 : (i : Int) < (n : Int) := by omega
        obtain ⟨b1, o1, rfl, c1⟩ := H1.out (by omega)
        obtain ⟨b2, o2, rfl, c2⟩ := H2.out (by omega)
        obtain ⟨x0, x1, x2⟩ := c1 _ huw i hlt
        obtain ⟨y0, y1, y2⟩ := c2 _ huw i hlt
        have HY : Hid ((a.getD i dp = b.getD i dp → ∀ j, j < i + 1 → a.getD j dp = b.getD j dp) ∧ (a.getD i dp ≠ b.getD i dp → R = false)) := ⟨fun e j hj => by
          by_cases ej : j = i
          · subst ej; exact e
          · exact HJ.out j (by omega), fun e => by rw [HR.out, decide_eq_false]; rintro rfl; exact e rfl⟩
        clear c1 c2 HJ
        generalize a.getD i dp = x at x0 x1 x2 HY
        generalize b.getD i dp = y at y0 y1 y2 HY
        by_cases hxy : x = y
        · subst hxy
          have HF : Hid _ := HY.out.1 rfl
          clear HY
          have hq := neqPlayers_same x
          go_wp2_with fail
          go_quiet (fail)
          go_wp2
          go_roundw
          case rel => exact ⟨i + 1, by omega, rfl, by go_num, ⟨k + nq, by rw [HK.out, drewN_two]⟩, HF.out⟩
          case measure => simp [intOf]; omega
        · have hq := neqPlayers_not x y hxy
          have HF : Hid _ := HY.out.2 hxy
          clear HY
          go_wp2_with fail
          go_quiet (fail)
          go_wp2
          go_ret
          exact ⟨by rw [HF.out]; rfl, k + nq, by rw [HK.out, drewN_two]⟩
      · have hlt2 : ¬ (i : Int) < (n : Int) := by omega
        have HF : Hid (R = true) := by unfold Hid; rw [HR.out, decide_eq_true]; exact eq_at a b dp (by rw [← HN.out.1, ← HN.out.2]) (fun j hj => HJ.out j (by have := HN.out.1; omega))
        go_wp2
        go_ret
        exact ⟨by rw [HF.out]; rfl, k, HK.out⟩
  · have hl2 : ((n : Int) != (m : Int)) = true := by simp; omega
    have HF : Hid (R = false) := by unfold Hid; rw [HR.out, decide_eq_false]; rintro rfl; exact hl (HN.out.1.trans HN.out.2.symm)
    go_enter Tryd.func32, Tryd.ntmps32
    go_wp2
    go_ret
    exact ⟨by rw [HF.out]; rfl, 0, rfl⟩
set_option maxRecDepth 100000 in
set_option maxHeartbeats 2000000 in
theorem slC_ (v u : Value) (a b : List Crd) (w : World) (hv : CLs w v a) (hu : CLs w u b) (hn : a.length ≤ 4294967296) :
    Calls Tryd.prog 33 #[v, u] w fun e w' => e = .returned (.bool (decide (a = b))) ∧ ∃ m, w' = w.drewN m := by
  obtain ⟨a1, k1, rfl, -, h1⟩ := cl_at hv
  obtain ⟨a2, k2, rfl, -, h2⟩ := cl_at hu
  obtain ⟨R, hR⟩ : ∃ R, R = decide (a = b) := ⟨_, rfl⟩
  rw [← hR]
  have HR : Hid (R = decide (a = b)) := hR
  obtain ⟨n, hn0⟩ : ∃ n, n = a.length := ⟨_, rfl⟩
  obtain ⟨m, hm0⟩ : ∃ n, n = b.length := ⟨_, rfl⟩
  have HN : Hid (n = a.length ∧ m = b.length) := ⟨hn0, hm0⟩
  rw [← hn0] at hn h1 ⊢
  rw [← hm0] at h2 ⊢
  have H1 : Hid _ := h1
  have H2 : Hid _ := h2
  clear hv hu h1 h2 hn0 hm0 hR
  by_cases hl : n = m
  · subst hl
    go_enter Tryd.func33, Tryd.ntmps33
    go_wp2_with fail
    go_loopw [4, 5, 13] (fun s4 s5 s13 wr => ∃ i : Nat, i ≤ n ∧ s4 = .bool false ∧ s13 = .int .i64 i ∧ (∃ k, wr = w.drewN k) ∧ ∀ j, j < i → a.getD j dc = b.getD j dc) (fun _ _ s13 _ => n - (intOf s13).toNat)
    case atStart => exact ⟨0, Nat.zero_le _, rfl, rfl, ⟨0, rfl⟩, fun j hj => by omega⟩
    case round =>
      obtain ⟨i, hi, rfl, rfl, ⟨k, hk⟩, hj⟩ := hrel
      have HK : Hid (wr = w.drewN k) := hk
      have huw : Up w wr := by rw [hk]; exact (Up.refl w).drewN k
      have HJ : Hid (∀ j, j < i → a.getD j dc = b.getD j dc) := hj
      clear hk hj
      by_cases hlt : i < n
      · have hlt2 : (i : Int) < (n : Int) := by omega
        obtain ⟨b1, o1, rfl, c1⟩ := H1.out (by omega)
        obtain ⟨b2, o2, rfl, c2⟩ := H2.out (by omega)
        obtain ⟨x0, x1, x2, x3, x4, x5⟩ := c1 _ huw i hlt
        obtain ⟨y0, y1, y2, y3, y4, y5⟩ := c2 _ huw i hlt
        have HY : Hid ((a.getD i dc = b.getD i dc → ∀ j, j < i + 1 → a.getD j dc = b.getD j dc) ∧ (a.getD i dc ≠ b.getD i dc → R = false)) := ⟨fun e j hj => by
          by_cases ej : j = i
          · subst ej; exact e
          · exact HJ.out j (by omega), fun e => by rw [HR.out, decide_eq_false]; rintro rfl; exact e rfl⟩
        clear c1 c2 HJ
        generalize a.getD i dc = x at x0 x1 x2 x3 x4 x5 HY
        generalize b.getD i dc = y at y0 y1 y2 y3 y4 y5 HY
        by_cases hxy : x = y
        · subst hxy
          have HF : Hid _ := HY.out.1 rfl
          clear HY
          have hq := neqCards_same x
          go_wp2_with fail
          go_quiet (fail)
          go_wp2
          go_roundw
          case rel => exact ⟨i + 1, by omega, rfl, by go_num, ⟨k + nq, by rw [HK.out, drewN_two]⟩, HF.out⟩
          case measure => simp [intOf]; omega
        · have hq := neqCards_not x y hxy
          have HF : Hid _ := HY.out.2 hxy
          clear HY
          go_wp2_with fail
          go_quiet (fail)
          go_wp2
          go_ret
          exact ⟨by rw [HF.out]; rfl, k + nq, by rw [HK.out, drewN_two]⟩
      · have hlt2 : ¬ (i : Int) < (n : Int) := by omega
        have HF : Hid (R = true) := by unfold Hid; rw [HR.out, decide_eq_true]; exact eq_at a b dc (by rw [← HN.out.1, ← HN.out.2]) (fun j hj => HJ.out j (by have := HN.out.1; omega))
        go_wp2
        go_ret
        exact ⟨by rw [HF.out]; rfl, k, HK.out⟩
  · have hl2 : ((n : Int) != (m : Int)) = true := by simp; omega
    have HF : Hid (R = false) := by unfold Hid; rw [HR.out, decide_eq_false]; rintro rfl; exact hl (HN.out.1.trans HN.out.2.symm)
    go_enter Tryd.func33, Tryd.ntmps33
    go_wp2
    go_ret
    exact ⟨by rw [HF.out]; rfl, 0, rfl⟩
end ST
end Go.Proofs.YtndkpfkgcaebmaaDoor
/-
  A region that draws its order: its first operation may be a copy that may come up at any time, the others up to the n-th are quiet, and those from the n-th on wait for them, one behind the other: one walk of the lexical order, and the tail behind it.
-/
namespace Go.Proofs.YtndkpfkgcaebmaaDoor
open Go

namespace TailR
section
variable {P : Program} {ops : Array Oper} {md : Region.Mode} {C : World → Prop}
def edgeB (md : Region.Mode) (ops : Array Oper) (j i : Nat) : Bool := ((ops[j]?).map fun o => o.after.any fun e => Region.binds md e && e.on == i).getD false
def depsP (md : Region.Mode) (ops : Array Oper) (listed : Array Bool) (j : Nat) : Prop := ∀ o, ops[j]? = some o → ∀ e ∈ o.after, Region.binds md e = true → listed.getD e.on false = true
def closedP (md : Region.Mode) (ops : Array Oper) (listed : Array Bool) : Prop := ∀ j, listed.getD j false = true → depsP md ops listed j
theorem edge_listed {listed : Array Bool} {j i : Nat} (h : depsP md ops listed j) (he : edgeB md ops j i = true) : listed.getD i false = true := by
  unfold edgeB at he
  cases ho : ops[j]? with
  | none => rw [ho] at he; cases he
  | some o =>
    rw [ho] at he
    simp only [Option.map_some, Option.getD_some] at he
    obtain ⟨e, he, hb⟩ := Array.any_eq_true'.1 he
    simp only [Bool.and_eq_true, beq_iff_eq] at hb
    have := h o ho e he hb.1
    rw [hb.2] at this
    exact this
theorem closed_set {listed : Array Bool} {i : Nat} (h : closedP md ops listed) (hr : i ∈ Region.ready md ops listed) : closedP md ops (listed.setIfInBounds i true) := by
  intro j hj o ho e he hb
  by_cases hji : i = j
  · subst hji
    obtain ⟨_, o', ho', hall⟩ := mem_ready.1 hr
    rw [ho] at ho'
    cases ho'
    exact getD_set_true (hall e he hb)
  · rw [getD_set_ne false hji] at hj
    exact getD_set_true (h j hj o ho e he hb)
def waitsB (md : Region.Mode) (ops : Array Oper) (k0 n : Nat) : Bool := ((List.range n).all fun i => decide (i < k0) || (List.range (n + 1)).any fun j => decide (i < j) && edgeB md ops j i) && (List.range ops.size).all fun t => decide (t ≤ n) || edgeB md ops t (t - 1)
theorem down {k0 n : Nat} (hW : waitsB md ops k0 n = true) {listed : Array Bool} (hc : closedP md ops listed) (hd : depsP md ops listed n) : ∀ d i, n - i ≤ d → k0 ≤ i → i < n → listed.getD i false = true := by
  simp only [waitsB, Bool.and_eq_true] at hW
  intro d
  induction d with
  | zero => intro i h1 h2 h3; omega
  | succ d ih =>
    intro i h1 h2 h3
    have h4 := List.all_eq_true.1 hW.1 i (List.mem_range.2 h3)
    simp only [Bool.or_eq_true, decide_eq_true_eq] at h4
    rcases h4 with h4 | h4
    · omega
    · obtain ⟨j, hj, h5⟩ := List.any_eq_true.1 h4
      simp only [Bool.and_eq_true, decide_eq_true_eq] at h5
      rw [List.mem_range] at hj
      by_cases e : j = n
      · subst e; exact edge_listed hd h5.2
      · exact edge_listed (hc j (ih j (by omega) (by omega) (by omega))) h5.2
theorem tail_down {k0 n : Nat} (hW : waitsB md ops k0 n = true) {listed : Array Bool} (hc : closedP md ops listed) : ∀ d t, t = n + d → t < ops.size → depsP md ops listed t → depsP md ops listed n := by
  intro d
  induction d with
  | zero => intro t h1 _ h2; rw [h1] at h2; exact h2
  | succ d ih =>
    intro t h1 h2 h3
    simp only [waitsB, Bool.and_eq_true] at hW
    have h4 := List.all_eq_true.1 hW.2 t (List.mem_range.2 h2)
    simp only [Bool.or_eq_true, decide_eq_true_eq] at h4
    rcases h4 with h4 | h4
    · omega
    · exact ih (t - 1) (by omega) (by omega) (hc (t - 1) (edge_listed h3 h4))
/- while one of the quiet ones is not listed, none of the tail may come up -/
theorem no_tail {k0 n : Nat} (hW : waitsB md ops k0 n = true) {listed : Array Bool} (hc : closedP md ops listed) (h0 : ∀ k, k < k0 → listed.getD k true = true) {i j : Nat} (hi : i ∈ Region.ready md ops listed) (hin : i < n) (hj : j ∈ Region.ready md ops listed) : j < n := by
  rcases Nat.lt_or_ge j n with h | h
  · exact h
  · exfalso
    obtain ⟨_, o, ho, hall⟩ := mem_ready.1 hj
    have hlt : j < ops.size := (Array.getElem?_eq_some_iff.1 ho).1
    have hd : depsP md ops listed j := fun o' ho' e he hb => by
      rw [ho] at ho'
      cases ho'
      exact hall e he hb
    have hdn := tail_down hW hc (j - n) j (by omega) hlt hd
    have hun := (mem_ready.1 hi).1
    by_cases e : i < k0
    · rw [h0 i e] at hun; cases hun
    · have := down hW hc hdn (n - i) i (Nat.le_refl _) (by omega) hin
      rcases Nat.lt_or_ge i listed.size with h' | h'
      · simp [h'] at this hun; rw [this] at hun; cases hun
      · simp [Array.getElem?_eq_none h'] at this
def wpAnyU (P : Program) (md : Region.Mode) (ops : Array Oper) (n : Nat) (C : World → Prop) (R : Array Bool → Act → Prop) : Nat → Array Bool → Act → Prop
  | 0, listed, a => (∀ i ∈ Region.ready md ops listed, n ≤ i) ∧ R listed a
  | fuel + 1, listed, a => (∃ i, i ∈ Region.ready md ops listed ∧ i < n) ∧ ∀ i ∈ Region.ready md ops listed, i < n → qOp P ops C i (wpAnyU P md ops n C R fuel (listed.setIfInBounds i true)) a
theorem wpAnyU_first {n : Nat} {R : Array Bool → Act → Prop} {i : Nat} (hin : i < n) {oi : Oper} {v : Value} (hi : ops[i]? = some oi) (hsel : ∀ (j : Nat) (o : Oper) cs b, ops[j]? = some o → o.op ≠ .select cs b) :
    ∀ (fuel : Nat) (listed : Array Bool) (a : Act),
      (∀ j oj, ops[j]? = some oj → j ≠ i → listed.getD j true = false → (∀ e ∈ oj.after, Region.binds md e = true → e.on ≠ i) → oi.apart ops oj = true) →
      i ∈ Region.ready md ops listed → YieldsIn P ops C oi v a →
      wpAnyU P md ops n C R fuel (listed.setIfInBounds i true) (a.put oi.dst v) → wpAnyU P md ops n C R (fuel + 1) listed a := by
  intro fuel
  induction fuel with
  | zero =>
    intro listed a _ hr hy H
    refine ⟨⟨i, hr, hin⟩, fun j hj hjn => ?_⟩
    by_cases hji : j = i
    · subst hji; exact hy.qOp hi H
    · have := H.1 j (ready_mono hj hji)
      omega
  | succ fuel ih =>
    intro listed a hfree hr hy H
    refine ⟨⟨i, hr, hin⟩, fun j hj hjn => ?_⟩
    by_cases hji : j = i
    · subst hji; exact hy.qOp hi H
    · have h1 := H.2 j (ready_mono hj hji) hjn
      obtain ⟨hjun, oj, hoj, hall⟩ := mem_ready.1 hj
      have hnot : ∀ e ∈ oj.after, Region.binds md e = true → e.on ≠ i := fun e he hb heq => by
        have h1 := hall e he hb
        have h0 := (mem_ready.1 hr).1
        rw [heq] at h1
        rcases Nat.lt_or_ge i listed.size with h' | h'
        · simp [h'] at h0 h1; rw [h0] at h1; cases h1
        · simp [Array.getElem?_eq_none h'] at h1
      have h2 := qOp_put hoj (hfree j oj hoj hji hjun hnot) (fun cs b => hsel i oi cs b hi) (fun cs b => hsel j oj cs b hoj) hy h1
      have hfree' : ∀ k ok, ops[k]? = some ok → k ≠ i → (listed.setIfInBounds j true).getD k true = false →
          (∀ e ∈ ok.after, Region.binds md e = true → e.on ≠ i) → oi.apart ops ok = true := fun k ok hk hki hun hno => by
        refine hfree k ok hk hki ?_ hno
        by_cases hjk : j = k
        · subst hjk; exact hjun
        · rw [getD_set_ne true hjk] at hun; exact hun
      refine qOp_mono (fun a' h3 => ih (listed.setIfInBounds j true) a' hfree' (ready_mono hr (Ne.symm hji)) h3.1 ?_) h2
      rw [Array.setIfInBounds_comm _ _ hji]
      exact h3.2
def lexU (md : Region.Mode) (ops : Array Oper) (n : Nat) : Nat → Nat → Array Bool → Bool
  | 0, _, listed => (Region.ready md ops listed).all fun i => decide (n ≤ i)
  | fuel + 1, k, listed => (Region.ready md ops listed).contains k && decide (k < n) && Region.free md ops listed k && lexU md ops n fuel (k + 1) (listed.setIfInBounds k true)
def lastU : Nat → Nat → Array Bool → Array Bool
  | 0, _, listed => listed
  | fuel + 1, k, listed => lastU fuel (k + 1) (listed.setIfInBounds k true)
theorem wpAnyU_lex {n : Nat} {R : Act → Prop} (hs : Region.noSelect ops = true) : ∀ (l : List Oper) (k : Nat) (listed : Array Bool) (a : Act), (∀ j o, l[j]? = some o → ops[k + j]? = some o) →
    lexU md ops n l.length k listed = true → wpQuiet P ops C R l a → wpAnyU P md ops n C (fun L a => L = lastU l.length k listed ∧ R a) l.length listed a
  | [], _, _, _, _, hB, h => by
    simp only [List.length_nil, lexU, List.all_eq_true, decide_eq_true_eq] at hB
    exact ⟨hB, rfl, h⟩
  | o :: l, k, listed, a, hl, hB, h => by
    have h0 : ops[k]? = some o := hl 0 o rfl
    simp only [List.length_cons, lexU, Bool.and_eq_true, decide_eq_true_eq] at hB
    obtain ⟨⟨⟨hr, hk⟩, hf⟩, hB'⟩ := hB
    have hst : qOp P ops C k (wpQuiet P ops C R l) a := by unfold qOp; simp only [h0]; exact h
    obtain ⟨v, hy, hK⟩ := yieldsIn_of_qOp h0 hst
    exact wpAnyU_first hk h0 (Region.noSelect_spec hs) l.length listed a (Region.free_spec h0 hf) (by simpa using hr) hy
      (wpAnyU_lex hs l (k + 1) _ _ (fun j o' hj => by have := hl (j + 1) o' (by simpa using hj); simpa [Nat.add_assoc, Nat.add_comm 1 j] using this) hB' hK)
theorem wpAny_of_U {k0 n t : Nat} (hW : waitsB md ops k0 n = true) {Q : Exit → Act → World → Prop} {R : Array Bool → Act → Prop} (hR : ∀ L a w, R L a → C w → wpAny P md ops Q t L a w) : ∀ (fuel : Nat) (listed : Array Bool) (a : Act) (w : World), closedP md ops listed → (∀ k, k < k0 → listed.getD k true = true) → C w →
    wpAnyU P md ops n C R fuel listed a → wpAny P md ops Q (t + fuel) listed a w
  | 0, _, _, _, _, _, hw, ⟨_, h2⟩ => hR _ _ _ h2 hw
  | fuel + 1, listed, a, w, hc, h0, hw, ⟨⟨k, hk, hkn⟩, h3⟩ => by
    refine ⟨fun e => (by rw [e] at hk; cases hk), fun i hi => ?_⟩
    have hin := no_tail hW hc h0 hk hkn hi
    refine wpOp_of_qOp hw (fun a' w' hw' h => wpAny_of_U hW hR fuel _ a' w' (closed_set hc hi) ?_ hw' h) (h3 i hi hin)
    intro k hk
    by_cases e : i = k
    · subst e
      have := (mem_ready.1 hi).1
      rw [h0 i hk] at this; cases this
    · rw [getD_set_ne true e]; exact h0 k hk
def tailB (md : Region.Mode) (ops : Array Oper) : Nat → Nat → Array Bool → Bool
  | 0, _, listed => (Region.ready md ops listed).isEmpty
  | t + 1, k, listed => (Region.ready md ops listed == [k]) && tailB md ops t (k + 1) (listed.setIfInBounds k true)
theorem wpAny_tail {Q : Exit → Act → World → Prop} : ∀ (l : List Oper) (k : Nat) (listed : Array Bool) (a : Act) (w : World), (∀ j o, l[j]? = some o → ops[k + j]? = some o) → tailB md ops l.length k listed = true → wpList P ops Q l a w → wpAny P md ops Q l.length listed a w
  | [], _, listed, a, w, _, hB, h => by
    simp only [List.length_nil, tailB, List.isEmpty_iff] at hB
    exact ⟨hB, h⟩
  | o :: l, k, listed, a, w, hl, hB, h => by
    have h0 : ops[k]? = some o := hl 0 o rfl
    simp only [List.length_cons, tailB, Bool.and_eq_true, beq_iff_eq] at hB
    refine ⟨fun e => (by rw [hB.1] at e; cases e), fun i hi => ?_⟩
    rw [hB.1] at hi
    simp at hi
    subst hi
    have hh : wpOp P ops Q i (wpList P ops Q l) a w := by unfold wpOp; simp only [h0]; exact h
    exact wpOp_mono (fun a' w' h' => wpAny_tail l (i + 1) _ a' w' (fun j o' hj => by have := hl (j + 1) o' (by simpa using hj); simpa [Nat.add_assoc, Nat.add_comm 1 j] using this) hB.2 h') hh
def allB (md : Region.Mode) (ops : Array Oper) (n : Nat) : Bool :=
  Region.noSelect ops && waitsB md ops 1 n && Region.free md ops (Array.replicate ops.size false) 0 && (Region.ready md ops (Array.replicate ops.size false)).contains 0 &&
  lexU md ops n (n - 1) 1 ((Array.replicate ops.size false).setIfInBounds 0 true) && tailB md ops (ops.size - n) n (lastU (n - 1) 1 ((Array.replicate ops.size false).setIfInBounds 0 true)) && decide (1 ≤ n) && decide (n ≤ ops.size)
end
theorem rep_false (N j : Nat) : (Array.replicate N false).getD j false = false := by
  rw [Array.getD_eq_getD_getElem?, Array.getElem?_replicate]
  split <;> rfl
theorem wp_region_tail {P : Program} {id : Nat} {Q : Exit → Act → World → Prop} {a : Act} {w : World} {o : Oper} {l : List Oper} (n : Nat) (v : Value) (hm : P.follows .mixedOrders = true) (hB : allB .any (o :: l).toArray (n + 1) = true)
    (hQ : ∀ c a w, Q (.panic c) (a.put o.dst v) w → Q (.panic c) a w) (hy : Yields P (o :: l).toArray o v a)
    (h : wpQuiet P (o :: l).toArray (fun w' => ∃ n, w' = w.drewN n) (fun a' => ∀ w', (∃ n, w' = w.drewN n) → wpList P (o :: l).toArray Q (l.drop n) a' w') (l.take n) (a.put o.dst v)) : (Code.region id (o :: l).toArray true).wp P Q a w := by
  simp only [allB, Bool.and_eq_true, decide_eq_true_eq] at hB
  obtain ⟨⟨⟨⟨⟨⟨⟨hs, hW⟩, hf⟩, hr⟩, hL⟩, hT⟩, -⟩, hn⟩ := hB
  have hsz : (o :: l).toArray.size = l.length + 1 := by simp
  rw [hsz] at hn hL hT hf hr
  have hl : (l.take n).length = n := by simp; omega
  have hd : (l.drop n).length = l.length + 1 - (n + 1) := by simp
  rw [show n + 1 - 1 = n by omega] at hL hT
  refine wp_region_any hm ?_
  rw [hsz]
  refine wpAny_take (i := 0) (v := v) rfl hs hf hr hQ hy ?_
  have key := wpAnyU_lex (P := P) (md := .any) (C := fun w' => ∃ n, w' = w.drewN n) (n := n + 1) (R := fun a' => ∀ w', (∃ n, w' = w.drewN n) → wpList P (o :: l).toArray Q (l.drop n) a' w') hs (l.take n) 1 ((Array.replicate (l.length + 1) false).setIfInBounds 0 true) (a.put o.dst v)
    (fun j o' hj => by
      rw [List.getElem?_take] at hj
      split at hj
      · rw [Nat.add_comm 1 j]; simpa using hj
      · cases hj)
    (by rw [hl]; exact hL) h
  rw [hl] at key
  rw [show l.length = (l.drop n).length + n by rw [hd]; omega]
  refine wpAny_of_U (C := fun w' => ∃ n, w' = w.drewN n) (t := (l.drop n).length) hW (fun L a' w' hRL hw' => ?_) n _ _ _ ?_ ?_ ⟨1, rfl⟩ (by rw [show (l.drop n).length + n = l.length by rw [hd]; omega]; exact key)
  · obtain ⟨rfl, hRL⟩ := hRL
    exact wpAny_tail (l.drop n) (n + 1) _ a' w' (fun j o' hj => by
      rw [List.getElem?_drop] at hj
      rw [show n + 1 + j = n + j + 1 by omega]
      simpa using hj) (by rw [hd]; exact hT) (hRL w' hw')
  · intro j hj o' ho' e he hb
    exfalso
    by_cases e0 : (0 : Nat) = j
    · subst e0
      have ho2 : o' = o := by simpa using ho'.symm
      subst ho2
      obtain ⟨_, o2, ho2, hall⟩ := mem_ready.1 (show 0 ∈ Region.ready .any (o' :: l).toArray (Array.replicate (l.length + 1) false) by simpa using hr)
      have : o2 = o' := by simpa using ho2.symm
      subst this
      have h9 := hall e he hb
      rcases Nat.lt_or_ge e.on (l.length + 1) with h' | h'
      · simp [h'] at h9
      · simp [h'] at h9
    · rw [getD_set_ne false e0] at hj
      rw [rep_false] at hj
      cases hj
  · intro k hk
    rw [show k = 0 by omega]
    simp
theorem wp_region_tail' {P : Program} {id : Nat} {Q : Exit → Act → World → Prop} {a : Act} {w : World} {o : Oper} {l : List Oper} (n : Nat) (x : Operand) (ho : o.op = .move x) (hg : o.guard = none) (hm : P.follows .mixedOrders = true) (hB : allB .any (o :: l).toArray (n + 1) = true)
    (hQ : ∀ c a v w, Q (.panic c) (a.put o.dst v) w → Q (.panic c) a w)
    (h : wpQuiet P (o :: l).toArray (fun w' => ∃ n, w' = w.drewN n) (fun a' => ∀ w', (∃ n, w' = w.drewN n) → wpList P (o :: l).toArray Q (l.drop n) a' w') (o :: l.take n) a) : (Code.region id (o :: l).toArray true).wp P Q a w := by
  have hw : Region.wanted o (yielded (o :: l).toArray a.tmps) = true := by simp [Region.wanted, hg]
  have hy : Yields P (o :: l).toArray o (a.eval x) a := .inl ⟨hw, fun w => by simp [execOp, ho]⟩
  unfold wpQuiet at h
  rw [if_pos hw] at h
  obtain ⟨v, hq, hn⟩ := h
  have hv : a.eval x = v := by
    have := hq (w.drewN 1) ⟨1, rfl⟩
    simp [Oper.quietAt, execOp, ho, Oper.quietUpon] at this
    exact this
  rw [← hv] at hn
  exact wp_region_tail n (a.eval x) hm hB (fun c a' w' => hQ c a' _ w') hy hn
def allB0 (md : Region.Mode) (ops : Array Oper) (n : Nat) : Bool :=
  Region.noSelect ops && waitsB md ops 0 n && lexU md ops n n 0 (Array.replicate ops.size false) && tailB md ops (ops.size - n) n (lastU n 0 (Array.replicate ops.size false)) && decide (n ≤ ops.size)
theorem wp_region_seq {P : Program} {id : Nat} {Q : Exit → Act → World → Prop} {a : Act} {w : World} {l : List Oper} (n : Nat) (hm : P.follows .mixedOrders = true) (hB : allB0 .any l.toArray n = true)
    (h : wpQuiet P l.toArray (fun w' => ∃ n, w' = w.drewN n) (fun a' => ∀ w', (∃ n, w' = w.drewN n) → wpList P l.toArray Q (l.drop n) a' w') (l.take n) a) : (Code.region id l.toArray true).wp P Q a w := by
  simp only [allB0, Bool.and_eq_true, decide_eq_true_eq] at hB
  obtain ⟨⟨⟨⟨hs, hW⟩, hL⟩, hT⟩, hn⟩ := hB
  have hsz : l.toArray.size = l.length := by simp
  rw [hsz] at hn hL hT
  have hl : (l.take n).length = n := by simp; omega
  have hd : (l.drop n).length = l.length - n := by simp
  refine wp_region_any hm ?_
  rw [hsz]
  have key := wpAnyU_lex (P := P) (md := .any) (C := fun w' => ∃ n, w' = w.drewN n) (n := n) (R := fun a' => ∀ w', (∃ n, w' = w.drewN n) → wpList P l.toArray Q (l.drop n) a' w') hs (l.take n) 0 (Array.replicate l.length false) a
    (fun j o' hj => by
      rw [List.getElem?_take] at hj
      split at hj
      · rw [Nat.zero_add]; simpa using hj
      · cases hj)
    (by rw [hl]; exact hL) h
  rw [hl] at key
  rw [show l.length = (l.drop n).length + n by rw [hd]; omega]
  refine wpAny_of_U (C := fun w' => ∃ n, w' = w.drewN n) (t := (l.drop n).length) hW (fun L a' w' hRL hw' => ?_) n _ _ _ ?_ (fun k hk => by omega) ⟨1, rfl⟩ (by rw [show (l.drop n).length + n = l.length by rw [hd]; omega]; exact key)
  · obtain ⟨rfl, hRL⟩ := hRL
    exact wpAny_tail (l.drop n) n _ a' w' (fun j o' hj => by
      rw [List.getElem?_drop] at hj
      simpa using hj) (by rw [hd]; exact hT) (hRL w' hw')
  · intro j hj o' ho' e he hb
    rw [rep_false] at hj
    cases hj
end TailR
end Go.Proofs.YtndkpfkgcaebmaaDoor
/-
  The same law for whatever class of worlds; the worlds behind one world.
-/
namespace Go.Proofs.YtndkpfkgcaebmaaDoor
open Go

/- a world behind w -/
structure UW (w : World) where
  W : World
  up : Up w W
namespace TailR
theorem wp_region_seqC {P : Program} {id : Nat} {Q : Exit → Act → World → Prop} {a : Act} {w : World} {l : List Oper} (n : Nat) (C : World → Prop) (hC : C (w.drewN 1)) (hm : P.follows .mixedOrders = true) (hB : allB0 .any l.toArray n = true)
    (h : wpQuiet P l.toArray C (fun a' => ∀ w', C w' → wpList P l.toArray Q (l.drop n) a' w') (l.take n) a) : (Code.region id l.toArray true).wp P Q a w := by
  simp only [allB0, Bool.and_eq_true, decide_eq_true_eq] at hB
  obtain ⟨⟨⟨⟨hs, hW⟩, hL⟩, hT⟩, hn⟩ := hB
  have hsz : l.toArray.size = l.length := by simp
  rw [hsz] at hn hL hT
  have hl : (l.take n).length = n := by simp; omega
  have hd : (l.drop n).length = l.length - n := by simp
  refine wp_region_any hm ?_
  rw [hsz]
  have key := wpAnyU_lex (P := P) (md := .any) (C := C) (n := n) (R := fun a' => ∀ w', C w' → wpList P l.toArray Q (l.drop n) a' w') hs (l.take n) 0 (Array.replicate l.length false) a
    (fun j o' hj => by
      rw [List.getElem?_take] at hj
      split at hj
      · rw [Nat.zero_add]; simpa using hj
      · cases hj)
    (by rw [hl]; exact hL) h
  rw [hl] at key
  rw [show l.length = (l.drop n).length + n by rw [hd]; omega]
  refine wpAny_of_U (C := C) (t := (l.drop n).length) hW (fun L a' w' hRL hw' => ?_) n _ _ _ ?_ (fun k hk => by omega) hC (by rw [show (l.drop n).length + n = l.length by rw [hd]; omega]; exact key)
  · obtain ⟨rfl, hRL⟩ := hRL
    exact wpAny_tail (l.drop n) n _ a' w' (fun j o' hj => by
      rw [List.getElem?_drop] at hj
      simpa using hj) (by rw [hd]; exact hT) (hRL w' hw')
  · intro j hj o' ho' e he hb
    rw [rep_false] at hj
    cases hj
end TailR
end Go.Proofs.YtndkpfkgcaebmaaDoor
/-
  The program's Same of two states that are the same.
-/
namespace Go.Proofs.YtndkpfkgcaebmaaDoor
open Go.RowKit
attribute [local go_sem ↓] Go.wp_at_zero Go.wp_at_succ

namespace ST
set_option maxRecDepth 100000 in
set_option maxHeartbeats 2000000 in
theorem slR_ (v u : Value) (a b : List (List Int)) (w : World) (hv : ZL w v a) (hu : ZL w u b) (hn : a.length ≤ 4294967296) (hl9 : ∀ r, r < a.length → (a.getD r []).length ≤ 4294967296) :
    Calls Tryd.prog 34 #[v, u, .func (.func 35) #[] #[]] w fun e w' => e = .returned (.bool (decide (a = b))) ∧ ∃ m, w' = w.drewN m := by
  obtain ⟨a1, k1, rfl, -, h1⟩ := zl_at hv
  obtain ⟨a2, k2, rfl, -, h2⟩ := zl_at hu
  obtain ⟨R, hR⟩ : ∃ R, R = decide (a = b) := ⟨_, rfl⟩
  rw [← hR]
  have HR : Hid (R = decide (a = b)) := hR
  obtain ⟨n, hn0⟩ : ∃ n, n = a.length := ⟨_, rfl⟩
  obtain ⟨m, hm0⟩ : ∃ n, n = b.length := ⟨_, rfl⟩
  have HN : Hid (n = a.length ∧ m = b.length) := ⟨hn0, hm0⟩
  rw [← hn0] at hn h1 ⊢
  rw [← hm0] at h2 ⊢
  have H1 : Hid _ := h1
  have H2 : Hid _ := h2
  rw [← hn0] at hl9
  have HL9 : Hid _ := hl9
  clear hv hu h1 h2 hn0 hm0 hR hl9
  by_cases hl : n = m
  · subst hl
    go_enter Tryd.func34, Tryd.ntmps34
    go_wp2_with fail
    go_loopw [6, 7, 8, 9, 17] (fun s6 s7 s8 s9 s17 wr => ∃ i : Nat, i ≤ n ∧ s6 = .bool false ∧ s17 = .int .i64 i ∧ (∃ k, wr = w.drewN k) ∧ ∀ j, j < i → a.getD j [] = b.getD j []) (fun _ _ _ _ s17 _ => n - (intOf s17).toNat)
    case atStart => exact ⟨0, Nat.zero_le _, rfl, rfl, ⟨0, rfl⟩, fun j hj => by omega⟩
    case round =>
      obtain ⟨i, hi, rfl, rfl, ⟨k, hk⟩, hj⟩ := hrel
      have HK : Hid (wr = w.drewN k) := hk
      have huw : Up w wr := by rw [hk]; exact (Up.refl w).drewN k
      have HJ : Hid (∀ j, j < i → a.getD j [] = b.getD j []) := hj
      clear hk hj
      by_cases hlt : i < n
      · have hlt2 : (i : Int) < (n : Int) := by omega
        obtain ⟨b1, o1, rfl, c1⟩ := H1.out (by omega)
        obtain ⟨b2, o2, rfl, c2⟩ := H2.out (by omega)
        obtain ⟨ra1, rc1, d1, il1⟩ := c1 i hlt
        obtain ⟨ra2, rc2, d2, il2⟩ := c2 i hlt
        have x1 := d1 _ huw
        have x2 := d2 _ huw
        have HE : Hid (∀ W, Up w W → Calls Tryd.prog 35 #[.slice ra1 (a.getD i []).length rc1, .slice ra2 (b.getD i []).length rc2] W fun e w' => e = .returned (.bool (decide (a.getD i [] = b.getD i []))) ∧ ∃ m, w' = W.drewN m) := fun W u => slI_ _ _ _ _ W (il1.up u) (il2.up u) (HL9.out i hlt)
        have HY : Hid ((a.getD i [] = b.getD i [] → ∀ j, j < i + 1 → a.getD j [] = b.getD j []) ∧ (a.getD i [] ≠ b.getD i [] → R = false)) := ⟨fun e j hj => by
          by_cases ej : j = i
          · subst ej; exact e
          · exact HJ.out j (by omega), fun e => by rw [HR.out, decide_eq_false]; rintro rfl; exact e rfl⟩
        clear c1 c2 HJ d1 d2 il1 il2
        generalize a.getD i [] = x at x1 HY HE
        generalize b.getD i [] = y at x2 HY HE
        by_cases hxy : x = y
        · have HF : Hid _ := HY.out.1 hxy
          rw [decide_eq_true hxy] at HE
          clear HY hxy
          go_wp2_with fail
          refine Calls.mono (HE.out _ huw) ?_
          rintro e w9 ⟨rfl, nq, hw9⟩
          have HW9 : Hid (w9 = wr.drewN nq) := hw9
          clear hw9
          go_wp2_with fail
          go_roundw
          case rel => exact ⟨i + 1, by omega, rfl, by go_num, ⟨k + nq, by rw [HW9.out, HK.out, drewN_two]⟩, HF.out⟩
          case measure => simp [intOf]; omega
        · have HF : Hid _ := HY.out.2 hxy
          rw [decide_eq_false hxy] at HE
          clear HY hxy
          go_wp2_with fail
          refine Calls.mono (HE.out _ huw) ?_
          rintro e w9 ⟨rfl, nq, hw9⟩
          have HW9 : Hid (w9 = wr.drewN nq) := hw9
          clear hw9
          go_wp2
          go_ret
          exact ⟨by rw [HF.out]; rfl, k + nq, by rw [HW9.out, HK.out, drewN_two]⟩
      · have hlt2 : ¬ (i : Int) < (n : Int) := by omega
        have HF : Hid (R = true) := by unfold Hid; rw [HR.out, decide_eq_true]; exact eq_at a b [] (by rw [← HN.out.1, ← HN.out.2]) (fun j hj => HJ.out j (by have := HN.out.1; omega))
        go_wp2
        go_ret
        exact ⟨by rw [HF.out]; rfl, k, HK.out⟩
  · have hl2 : ((n : Int) != (m : Int)) = true := by simp; omega
    have HF : Hid (R = false) := by unfold Hid; rw [HR.out, decide_eq_false]; rintro rfl; exact hl (HN.out.1.trans HN.out.2.symm)
    go_enter Tryd.func34, Tryd.ntmps34
    go_wp2
    go_ret
    exact ⟨by rw [HF.out]; rfl, 0, rfl⟩
def hv (s : Stt) : Value := .agg #[.int .i32 s.turn, .int .i64 s.whose, .int .i8 s.fin, .int .i64 s.winner]
set_option maxHeartbeats 2000000 in
theorem headOf_ (v : Value) (s : Stt) (w : World) (hs : StL w v s) : Calls Tryd.prog 36 #[v] w fun e w' => e = .returned (hv s) ∧ Up w w' := by
  obtain ⟨vp, vc, vz, rfl, h1, h2, h3⟩ := hs
  obtain ⟨a1, k1, rfl, -, -⟩ := lc_at h1
  obtain ⟨a2, k2, rfl, -, -⟩ := lc_at h2
  obtain ⟨a3, k3, rfl, -, -⟩ := zl_at h3
  clear h1 h2 h3
  unfold sv hv
  generalize s.turn = tu
  generalize s.whose = wo
  generalize s.fin = fi
  generalize s.winner = wi
  go_enter Tryd.func36, Tryd.ntmps36
  go_wp2
  refine bodyPost_ret (v := .agg #[.int .i32 tu, .int .i64 wo, .int .i8 fi, .int .i64 wi]) (by simp [results, Tryd.results36, go_sem]) rfl ?_
  refine ⟨rfl, ?_⟩
  repeat (first | with_reducible exact Up.refl _ | with_reducible apply Up.alloc | with_reducible apply Up.drewN | with_reducible apply Up.drew | with_reducible refine Up.set ?_ _ _ (by first | exact Nat.le_refl _ | exact Nat.le_succ _ | (simp; omega)))
theorem sHead : Tryd.prog.underlying 83 = some (.struct (Tryd.prog.fieldsOf 83)) := by kernel_rfl
theorem hHead : Tryd.prog.stoodInHeld 83 = false := by kernel_rfl
theorem eqInHead (a0 a1 a2 a3 b0 b1 b2 b3 : Int) (W : World) : (Op.equalIn 10000 83 (.agg #[.int .i32 a0, .int .i64 a1, .int .i8 a2, .int .i64 a3]) (.agg #[.int .i32 b0, .int .i64 b1, .int .i8 b2, .int .i64 b3])).run Tryd.prog W = .ok (decide (a0 = b0) && decide (a1 = b1) && decide (a2 = b2) && decide (a3 = b3)) W := by
  have u3 := Tryd.underlying3
  have v3 := Tryd.isAgg3
  have z3 := Tryd.sizeOf3
  have u4 := Tryd.underlying21
  have v4 := Tryd.isAgg21
  have z4 := Tryd.sizeOf21
  have u5 := Tryd.underlying25
  have v5 := Tryd.isAgg25
  have z5 := Tryd.sizeOf25
  rw [show (10000 : Nat) = 9999 + 1 from rfl, run_equalIn_agg W 9999 83 _ _ sHead hHead]
  simp only [Program.fieldsOf, Tryd.underlying83]
  go_simp
  by_cases h0 : a0 = b0 <;> by_cases h1 : a1 = b1 <;> by_cases h2 : a2 = b2 <;> by_cases h3 : a3 = b3 <;> simp [h0, h1, h2, h3]
def hdB (a b : Stt) : Bool := decide (a.turn = b.turn) && decide (a.whose = b.whose) && decide (a.fin = b.fin) && decide (a.winner = b.winner)
def samB (a b : Stt) : Bool := decide (a.ps = b.ps) && (decide (a.cs = b.cs) && (decide (a.zs = b.zs) && hdB a b))
theorem eqlHead (a b : Stt) : ∀ W, (binOp .eql 83 (.agg #[.int .i32 a.turn, .int .i64 a.whose, .int .i8 a.fin, .int .i64 a.winner]) (.agg #[.int .i32 b.turn, .int .i64 b.whose, .int .i8 b.fin, .int .i64 b.winner])).run Tryd.prog W = .ok (.bool (hdB a b)) W := fun W => by
  rw [run_eql_struct, eqInHead]
  rfl
set_option maxRecDepth 100000 in
set_option maxHeartbeats 1000000 in
theorem same_ (v u : Value) (a b : Stt) (w : World) (hv : StL w v a) (hu : StL w u b) (hsm : Small a) :
    Calls Tryd.prog 10 #[v, u] w fun e w' => e = .returned (.bool (samB a b)) ∧ Up w w' := by
  have HV : Hid _ := hv
  have HU : Hid _ := hu
  obtain ⟨vp, vc, vz, rfl, p1, p2, p3⟩ := hv
  obtain ⟨up, uc, uz, rfl, q1, q2, q3⟩ := hu
  have HP1 : Hid (PLs w vp a.ps ∧ PLs w up b.ps) := ⟨p1, q1⟩
  have HP2 : Hid (CLs w vc a.cs ∧ CLs w uc b.cs) := ⟨p2, q2⟩
  have HP3 : Hid (ZL w vz a.zs ∧ ZL w uz b.zs) := ⟨p3, q3⟩
  obtain ⟨a1, k1, rfl, -, -⟩ := lc_at p1
  obtain ⟨a2, k2, rfl, -, -⟩ := lc_at p2
  obtain ⟨a3, k3, rfl, -, -⟩ := zl_at p3
  obtain ⟨b1, l1, rfl, -, -⟩ := lc_at q1
  obtain ⟨b2, l2, rfl, -, -⟩ := lc_at q2
  obtain ⟨b3, l3, rfl, -, -⟩ := zl_at q3
  clear p1 p2 p3 q1 q2 q3
  unfold sv at HV HU ⊢
  obtain ⟨n1, hn1⟩ : ∃ n, n = a.ps.length := ⟨_, rfl⟩
  obtain ⟨n2, hn2⟩ : ∃ n, n = a.cs.length := ⟨_, rfl⟩
  obtain ⟨n3, hn3⟩ : ∃ n, n = a.zs.length := ⟨_, rfl⟩
  obtain ⟨m1, hm1⟩ : ∃ n, n = b.ps.length := ⟨_, rfl⟩
  obtain ⟨m2, hm2⟩ : ∃ n, n = b.cs.length := ⟨_, rfl⟩
  obtain ⟨m3, hm3⟩ : ∃ n, n = b.zs.length := ⟨_, rfl⟩
  rw [← hn1, ← hn2, ← hn3] at HV
  rw [← hm1, ← hm2, ← hm3] at HU
  rw [← hn1, ← hm1] at HP1
  rw [← hn2, ← hm2] at HP2
  rw [← hn3, ← hm3] at HP3
  rw [← hn1, ← hn2, ← hn3, ← hm1, ← hm2, ← hm3]
  clear hn1 hn2 hn3 hm1 hm2 hm3
  obtain ⟨W0, hW0⟩ : ∃ W, W = (w.alloc (.cells #[.slice a1 n1 k1, .slice a2 n2 k2, .slice a3 n3 k3, .int .i32 a.turn, .int .i64 a.whose, .int .i8 a.fin, .int .i64 a.winner] 27)).alloc (.cells #[.slice b1 m1 l1, .slice b2 m2 l2, .slice b3 m3 l3, .int .i32 b.turn, .int .i64 b.whose, .int .i8 b.fin, .int .i64 b.winner] 27) := ⟨_, rfl⟩
  obtain ⟨g1, g2, -, gu⟩ := two_blocks w #[.slice a1 n1 k1, .slice a2 n2 k2, .slice a3 n3 k3, .int .i32 a.turn, .int .i64 a.whose, .int .i8 a.fin, .int .i64 a.winner] #[.slice b1 m1 l1, .slice b2 m2 l2, .slice b3 m3 l3, .int .i32 b.turn, .int .i64 b.whose, .int .i8 b.fin, .int .i64 b.winner] 27
  rw [← hW0] at g1 g2 gu
  have ne : Nonempty (UW W0) := ⟨⟨W0, Up.refl _⟩⟩
  have c1 : ∀ U : UW W0, _ := fun U => seven_cells (U.up.heap g1)
  have c2 : ∀ U : UW W0, _ := fun U => seven_cells (U.up.heap g2)
  have x0 : ∀ U : UW W0, _ := fun U => (c1 U).1
  have x1 : ∀ U : UW W0, _ := fun U => (c1 U).2.1
  have x2 : ∀ U : UW W0, _ := fun U => (c1 U).2.2.1
  have x3 : ∀ U : UW W0, _ := fun U => (c1 U).2.2.2.1
  have x4 : ∀ U : UW W0, _ := fun U => (c1 U).2.2.2.2.1
  have x5 : ∀ U : UW W0, _ := fun U => (c1 U).2.2.2.2.2.1
  have x6 : ∀ U : UW W0, _ := fun U => (c1 U).2.2.2.2.2.2
  have y0 : ∀ U : UW W0, _ := fun U => (c2 U).1
  have y1 : ∀ U : UW W0, _ := fun U => (c2 U).2.1
  have y2 : ∀ U : UW W0, _ := fun U => (c2 U).2.2.1
  have y3 : ∀ U : UW W0, _ := fun U => (c2 U).2.2.2.1
  have y4 : ∀ U : UW W0, _ := fun U => (c2 U).2.2.2.2.1
  have y5 : ∀ U : UW W0, _ := fun U => (c2 U).2.2.2.2.2.1
  have y6 : ∀ U : UW W0, _ := fun U => (c2 U).2.2.2.2.2.2
  have mk : ∀ {f : Nat} {args : Array Value} {R : Value} (U : UW W0), Calls Tryd.prog f args U.W (fun e w' => e = .returned R ∧ Up U.W w') → Calls Tryd.prog f args U.W (fun e w' => e = .returned R ∧ ∃ V : UW W0, w' = V.W) := fun U h => h.mono fun e w' ⟨he, u⟩ => ⟨he, ⟨w', U.up.trans u⟩, rfl⟩
  have dr : ∀ {f : Nat} {args : Array Value} {R : Value} (U : UW W0), Calls Tryd.prog f args U.W (fun e w' => e = .returned R ∧ ∃ m, w' = U.W.drewN m) → Calls Tryd.prog f args U.W (fun e w' => e = .returned R ∧ Up U.W w') := fun U h => h.mono fun e w' ⟨he, m, hm⟩ => ⟨he, by rw [hm]; exact (Up.refl _).drewN m⟩
  obtain ⟨pb, hpb⟩ : ∃ p, p = decide (a.ps = b.ps) := ⟨_, rfl⟩
  obtain ⟨cb, hcb⟩ : ∃ p, p = decide (a.cs = b.cs) := ⟨_, rfl⟩
  obtain ⟨zb, hzb⟩ : ∃ p, p = decide (a.zs = b.zs) := ⟨_, rfl⟩
  obtain ⟨R, hR⟩ : ∃ p, p = samB a b := ⟨_, rfl⟩
  rw [← hR]
  have HR : Hid (R = (pb && (cb && (zb && hdB a b)))) := by unfold Hid; rw [hR, samB, hpb, hcb, hzb]
  have HQ1 : Hid (∀ U : UW W0, Calls Tryd.prog 32 #[.slice a1 n1 k1, .slice b1 m1 l1] U.W (fun e w' => e = .returned (.bool pb) ∧ ∃ V : UW W0, w' = V.W)) := fun U => mk U (dr U (by rw [hpb]; exact slP_ _ _ _ _ _ (HP1.out.1.up (gu.trans U.up)) (HP1.out.2.up (gu.trans U.up)) hsm.1))
  have HQ2 : Hid (∀ U : UW W0, Calls Tryd.prog 33 #[.slice a2 n2 k2, .slice b2 m2 l2] U.W (fun e w' => e = .returned (.bool cb) ∧ ∃ V : UW W0, w' = V.W)) := fun U => mk U (dr U (by rw [hcb]; exact slC_ _ _ _ _ _ (HP2.out.1.up (gu.trans U.up)) (HP2.out.2.up (gu.trans U.up)) hsm.2.1))
  have HQ3 : Hid (∀ U : UW W0, Calls Tryd.prog 34 #[.slice a3 n3 k3, .slice b3 m3 l3, .func (.func 35) #[] #[]] U.W (fun e w' => e = .returned (.bool zb) ∧ ∃ V : UW W0, w' = V.W)) := fun U => mk U (dr U (by rw [hzb]; exact slR_ _ _ _ _ _ (HP3.out.1.up (gu.trans U.up)) (HP3.out.2.up (gu.trans U.up)) hsm.2.2.1 hsm.2.2.2))
  have HQ4 : Hid (∀ U : UW W0, Calls Tryd.prog 36 #[.agg #[.slice a1 n1 k1, .slice a2 n2 k2, .slice a3 n3 k3, .int .i32 a.turn, .int .i64 a.whose, .int .i8 a.fin, .int .i64 a.winner]] U.W (fun e w' => e = .returned (.agg #[.int .i32 a.turn, .int .i64 a.whose, .int .i8 a.fin, .int .i64 a.winner]) ∧ ∃ V : UW W0, w' = V.W)) := fun U => mk U (headOf_ _ a _ (StL.up HV.out (gu.trans U.up)))
  have HQ5 : Hid (∀ U : UW W0, Calls Tryd.prog 36 #[.agg #[.slice b1 m1 l1, .slice b2 m2 l2, .slice b3 m3 l3, .int .i32 b.turn, .int .i64 b.whose, .int .i8 b.fin, .int .i64 b.winner]] U.W (fun e w' => e = .returned (.agg #[.int .i32 b.turn, .int .i64 b.whose, .int .i8 b.fin, .int .i64 b.winner]) ∧ ∃ V : UW W0, w' = V.W)) := fun U => mk U (headOf_ _ b _ (StL.up HU.out (gu.trans U.up)))
  have hq := eqlHead a b
  clear c1 c2 g1 g2 mk dr hpb hcb hzb hR HV HU HP1 HP2 HP3 hsm gu
  generalize hdB a b = hb at HR hq
  subst hW0
  cases pb
  · go_enter Tryd.func10, Tryd.ntmps10
    go_wp2_with fail
    refine TailR.wp_region_seqC 26 (fun w' => ∃ U : UW ((w.alloc (.cells #[.slice a1 n1 k1, .slice a2 n2 k2, .slice a3 n3 k3, .int .i32 a.turn, .int .i64 a.whose, .int .i8 a.fin, .int .i64 a.winner] 27)).alloc (.cells #[.slice b1 m1 l1, .slice b2 m2 l2, .slice b3 m3 l3, .int .i32 b.turn, .int .i64 b.whose, .int .i8 b.fin, .int .i64 b.winner] 27)), w' = U.W) ⟨⟨_, (Up.refl _).drewN 1⟩, rfl⟩ (by kernel_rfl) (by kernel_rfl) ?_
    simp only [List.take_succ_cons, List.take_zero, List.drop_succ_cons, List.drop_zero]
    repeat (go_big_quiet_step (first | with_reducible exact HQ1.out _ | with_reducible exact HQ2.out _ | with_reducible exact HQ3.out _ | with_reducible exact HQ4.out _ | with_reducible exact HQ5.out _))
    refine wpQuiet_nil ?_
    intro _ hw'
    obtain ⟨U, hw''⟩ := hw'
    subst hw''
    go_wp2
    go_ret
    exact ⟨by rw [HR.out]; rfl, ((Up.refl w).alloc _).alloc _ |>.trans U.up⟩
  · cases cb
    · go_enter Tryd.func10, Tryd.ntmps10
      go_wp2_with fail
      refine TailR.wp_region_seqC 26 (fun w' => ∃ U : UW ((w.alloc (.cells #[.slice a1 n1 k1, .slice a2 n2 k2, .slice a3 n3 k3, .int .i32 a.turn, .int .i64 a.whose, .int .i8 a.fin, .int .i64 a.winner] 27)).alloc (.cells #[.slice b1 m1 l1, .slice b2 m2 l2, .slice b3 m3 l3, .int .i32 b.turn, .int .i64 b.whose, .int .i8 b.fin, .int .i64 b.winner] 27)), w' = U.W) ⟨⟨_, (Up.refl _).drewN 1⟩, rfl⟩ (by kernel_rfl) (by kernel_rfl) ?_
      simp only [List.take_succ_cons, List.take_zero, List.drop_succ_cons, List.drop_zero]
      repeat (go_big_quiet_step (first | with_reducible exact HQ1.out _ | with_reducible exact HQ2.out _ | with_reducible exact HQ3.out _ | with_reducible exact HQ4.out _ | with_reducible exact HQ5.out _))
      refine wpQuiet_nil ?_
      intro _ hw'
      obtain ⟨U, hw''⟩ := hw'
      subst hw''
      go_wp2
      go_ret
      exact ⟨by rw [HR.out]; rfl, ((Up.refl w).alloc _).alloc _ |>.trans U.up⟩
    · cases zb
      · go_enter Tryd.func10, Tryd.ntmps10
        go_wp2_with fail
        refine TailR.wp_region_seqC 26 (fun w' => ∃ U : UW ((w.alloc (.cells #[.slice a1 n1 k1, .slice a2 n2 k2, .slice a3 n3 k3, .int .i32 a.turn, .int .i64 a.whose, .int .i8 a.fin, .int .i64 a.winner] 27)).alloc (.cells #[.slice b1 m1 l1, .slice b2 m2 l2, .slice b3 m3 l3, .int .i32 b.turn, .int .i64 b.whose, .int .i8 b.fin, .int .i64 b.winner] 27)), w' = U.W) ⟨⟨_, (Up.refl _).drewN 1⟩, rfl⟩ (by kernel_rfl) (by kernel_rfl) ?_
        simp only [List.take_succ_cons, List.take_zero, List.drop_succ_cons, List.drop_zero]
        repeat (go_big_quiet_step (first | with_reducible exact HQ1.out _ | with_reducible exact HQ2.out _ | with_reducible exact HQ3.out _ | with_reducible exact HQ4.out _ | with_reducible exact HQ5.out _))
        refine wpQuiet_nil ?_
        intro _ hw'
        obtain ⟨U, hw''⟩ := hw'
        subst hw''
        go_wp2
        go_ret
        exact ⟨by rw [HR.out]; rfl, ((Up.refl w).alloc _).alloc _ |>.trans U.up⟩
      · go_enter Tryd.func10, Tryd.ntmps10
        go_wp2_with fail
        refine TailR.wp_region_seqC 26 (fun w' => ∃ U : UW ((w.alloc (.cells #[.slice a1 n1 k1, .slice a2 n2 k2, .slice a3 n3 k3, .int .i32 a.turn, .int .i64 a.whose, .int .i8 a.fin, .int .i64 a.winner] 27)).alloc (.cells #[.slice b1 m1 l1, .slice b2 m2 l2, .slice b3 m3 l3, .int .i32 b.turn, .int .i64 b.whose, .int .i8 b.fin, .int .i64 b.winner] 27)), w' = U.W) ⟨⟨_, (Up.refl _).drewN 1⟩, rfl⟩ (by kernel_rfl) (by kernel_rfl) ?_
        simp only [List.take_succ_cons, List.take_zero, List.drop_succ_cons, List.drop_zero]
        repeat (go_big_quiet_step (first | with_reducible exact HQ1.out _ | with_reducible exact HQ2.out _ | with_reducible exact HQ3.out _ | with_reducible exact HQ4.out _ | with_reducible exact HQ5.out _))
        refine wpQuiet_nil ?_
        intro _ hw'
        obtain ⟨U, hw''⟩ := hw'
        subst hw''
        go_wp2
        go_ret
        exact ⟨by rw [HR.out]; rfl, ((Up.refl w).alloc _).alloc _ |>.trans U.up⟩
end ST
end Go.Proofs.YtndkpfkgcaebmaaDoor
/-
  How much is handed in.
-/
namespace Go.Proofs.YtndkpfkgcaebmaaDoor
open Go.RowKit
attribute [local go_sem ↓] Go.wp_at_zero Go.wp_at_succ

namespace ST
def szF : List (List Int) → Nat → Nat
  | [], n => n
  | l :: zs, n => if n ≤ 2147483647 then szF zs (n + l.length) else n
theorem szF_is : ∀ (zs : List (List Int)) (n : Nat), szF zs n = n + zs.flatten.length ∨ 2147483647 < szF zs n ∧ szF zs n ≤ n + zs.flatten.length := by
  intro zs
  induction zs with
  | nil => intro n; left; simp [szF]
  | cons l zs ih =>
    intro n
    simp only [szF, List.flatten_cons, List.length_append]
    split
    · rcases ih (n + l.length) with h | h
      · left; omega
      · right; omega
    · right; omega
def Near (zs : List (List Int)) : Prop := zs.length ≤ 140737488355328 ∧ ∀ r, r < zs.length → (zs.getD r []).length ≤ 140737488355328
theorem szF_le : ∀ (zs : List (List Int)) (n : Nat), (∀ r, r < zs.length → (zs.getD r []).length ≤ 140737488355328) → n ≤ 281474976710656 → szF zs n ≤ 281474976710656 := by
  intro zs
  induction zs with
  | nil => intro n _ h; exact h
  | cons l zs ih =>
    intro n h hn
    simp only [szF]
    split
    · have := h 0 (by simp)
      simp at this
      exact ih _ (fun r hr => by have := h (r + 1) (by simpa using hr); simpa using this) (by omega)
    · exact hn
set_option maxRecDepth 100000 in
set_option maxHeartbeats 2000000 in
theorem sizeRows_ (v : Value) (zs : List (List Int)) (w : World) (hv : ZL w v zs) (hn : Near zs) :
    Calls Tryd.prog 72 #[v] w fun e w' => e = .returned (.int .i64 (szF zs zs.length : Nat)) ∧ w' = w := by
  obtain ⟨a3, k3, rfl, -, c3⟩ := zl_at hv
  obtain ⟨hn1, hl⟩ := hn
  obtain ⟨n, hn0⟩ : ∃ n, n = zs.length := ⟨_, rfl⟩
  obtain ⟨R, hR⟩ : ∃ R, R = szF zs zs.length := ⟨_, rfl⟩
  have HR : Hid (R = szF (zs.drop 0) n) := by unfold Hid; rw [hR, hn0]; rfl
  rw [← hR]
  rw [← hn0] at hn1 hl c3 ⊢
  have HC : Hid _ := c3
  have HL : Hid _ := hl
  have HN : Hid (n = zs.length) := hn0
  clear hv c3 hl hn0 hR
  go_enter Tryd.func72, Tryd.ntmps72
  go_wp2_with fail
  go_loopw [3, 4] (fun s3 s4 W => ∃ i m : Nat, i ≤ n ∧ s4 = .int .i64 i ∧ s3 = .int .i64 m ∧ W = w ∧ R = szF (zs.drop i) m) (fun _ s4 _ => n - (intOf s4).toNat)
  case atStart => exact ⟨0, n, Nat.zero_le _, rfl, rfl, rfl, HR.out⟩
  case round =>
    obtain ⟨i, m, hi, rfl, rfl, rfl, hr⟩ := hrel
    clear HR
    have HR : Hid (R = szF (zs.drop i) m) := hr
    clear hr
    by_cases hlt : i < n
    · have hlt2 : (i : Int) < (n : Int) := by omega
      by_cases hb : m ≤ 2147483647
      · have hb2 : (m : Int) ≤ 2147483647 := by omega
        obtain ⟨b3, o3, rfl, hrow⟩ := HC.out (by omega)
        obtain ⟨ra, rc, hcell, -⟩ := hrow i hlt
        have x1 := hcell _ (Up.refl _)
        have hlen := HL.out i hlt
        have HF : Hid (R = szF (zs.drop (i + 1)) (m + (zs.getD i []).length)) := by
          unfold Hid
          have hz : i < zs.length := by rw [← HN.out]; exact hlt
          rw [HR.out, List.drop_eq_getElem_cons hz, szF, if_pos hb, List.getD_eq_getElem?_getD, List.getElem?_eq_getElem hz]
          rfl
        clear hcell hrow HR
        generalize (zs.getD i []).length = q at x1 hlen HF
        go_wp2_with fail
        go_roundw
        case rel => exact ⟨i + 1, m + q, by omega, by go_num, by go_num, by first | rfl | trivial, HF.out⟩
        case measure => simp [intOf]; omega
      · have hb2 : ¬ (m : Int) ≤ 2147483647 := by omega
        have HF : Hid (R = m) := by
          unfold Hid
          have hz : i < zs.length := by rw [← HN.out]; exact hlt
          rw [HR.out, List.drop_eq_getElem_cons hz, szF, if_neg hb]
        clear HR
        go_wp2
        go_ret
        exact ⟨by rw [HF.out]; rfl, rfl⟩
    · have hlt2 : ¬ (i : Int) < (n : Int) := by omega
      have HF : Hid (R = m) := by
        unfold Hid
        rw [HR.out, List.drop_of_length_le (by rw [← HN.out]; omega)]
        rfl
      clear HR
      go_wp2
      go_ret
      exact ⟨by rw [HF.out]; rfl, rfl⟩
def Far (s : Stt) : Prop := s.ps.length ≤ 140737488355328 ∧ s.cs.length ≤ 140737488355328 ∧ Near s.zs
def lenS (s : Stt) : Nat := s.ps.length + s.cs.length + (s.zs.length + (flat s).length)
theorem row_flat : ∀ (zs : List (List Int)) (r : Nat), r < zs.length → (zs.getD r []).length ≤ zs.flatten.length := by
  intro zs
  induction zs with
  | nil => intro r h; simp at h
  | cons l zs ih =>
    intro r h
    rw [List.flatten_cons, List.length_append]
    cases r with
    | zero => simp
    | succ r =>
      rw [List.getD_cons_succ]
      have := ih r (by simpa using h)
      omega
theorem small_of {s : Stt} (h : lenS s ≤ 2147483647) : Small s := by
  unfold lenS flat at h
  exact ⟨by omega, by omega, by omega, fun r hr => by have := row_flat s.zs r hr; omega⟩
set_option maxRecDepth 100000 in
set_option maxHeartbeats 2000000 in
theorem sizeState_ (v : Value) (s : Stt) (w : World) (hv : StL w v s) (hn : Far s) :
    Calls Tryd.prog 22 #[v] w fun e w' => e = .returned (.int .i64 ((s.ps.length : Int) + s.cs.length + (szF s.zs s.zs.length : Nat))) ∧ Up w w' := by
  obtain ⟨vp, vc, vz, rfl, h1, h2, h3⟩ := hv
  have hle := szF_le s.zs s.zs.length hn.2.2.2 (by have := hn.2.2.1; omega)
  have HC : Hid (∀ W, Up w W → Calls Tryd.prog 72 #[vz] W fun e w' => e = .returned (.int .i64 (szF s.zs s.zs.length : Nat)) ∧ w' = W) := fun W u => sizeRows_ vz s.zs W (h3.up u) hn.2.2
  have hn1 := hn.1
  have hn2 := hn.2.1
  obtain ⟨a1, k1, rfl, -, -⟩ := lc_at h1
  obtain ⟨a2, k2, rfl, -, -⟩ := lc_at h2
  obtain ⟨a3, k3, rfl, -, -⟩ := zl_at h3
  clear h1 h2 h3 hn
  unfold sv
  generalize szF s.zs s.zs.length = m at *
  generalize s.ps.length = np at *
  generalize s.cs.length = nc at *
  generalize s.zs.length = nz at *
  go_enter Tryd.func22, Tryd.ntmps22
  go_wp2_with fail
  go_quiet (exact Calls.quiet_of_same (HC.out _ (((Up.refl _).alloc _).drewN _)))
  go_wp2
  go_ret
  exact ⟨by go_num, ((Up.refl _).alloc _).drewN _⟩
set_option maxHeartbeats 1000000 in
theorem long1_ (n : Int) (w : World) : Calls Tryd.prog 15 #[.int .i64 n] w fun e w' => e = .returned (.bool (decide (2147483647 < n))) ∧ w' = w := by
  by_cases h : 2147483647 < n
  · go_enter Tryd.func15, Tryd.ntmps15
    go_wp2
    go_ret
    exact ⟨by simp [h], rfl⟩
  · go_enter Tryd.func15, Tryd.ntmps15
    go_wp2
    go_ret
    exact ⟨by simp [h], rfl⟩
set_option maxHeartbeats 2000000 in
theorem long_ (v : Value) (s : Stt) (w : World) (hv : StL w v s) (hn : Far s) :
    Calls Tryd.prog 5 #[v] w fun e w' => e = .returned (.bool (decide (2147483647 < lenS s))) ∧ Up w w' := by
  have hc := sizeState_ v s _ (hv.up ((Up.refl w).alloc (.cells v.cells 27))) hn
  have hle := szF_le s.zs s.zs.length hn.2.2.2 (by have := hn.2.2.1; omega)
  have hsz := szF_is s.zs s.zs.length
  have hR : decide (2147483647 < lenS s) = decide (2147483647 < (s.ps.length : Int) + s.cs.length + (szF s.zs s.zs.length : Nat)) := by
    apply decide_eq_decide.2
    unfold lenS flat
    omega
  obtain ⟨vp, vc, vz, rfl, -, -, -⟩ := hv
  rw [hR]
  have hb : (s.ps.length : Int) + s.cs.length + (szF s.zs s.zs.length : Nat) ≤ 1000000000000000 := by have := hn.1; have := hn.2.1; omega
  unfold sv at hc
  generalize (s.ps.length : Int) + s.cs.length + (szF s.zs s.zs.length : Nat) = m at *
  have HC : Hid _ := hc
  clear hc hsz hR hn hle
  unfold sv
  go_enter Tryd.func5, Tryd.ntmps5
  go_wp2_with fail
  refine Calls.mono HC.out ?_
  rintro e w1 ⟨rfl, u1⟩
  have HU : Hid (Up w w1) := ((Up.refl w).alloc _).trans u1
  clear HC u1
  go_wp2_with fail
  refine Calls.mono (long1_ _ _) ?_
  rintro e w2 ⟨rfl, rfl⟩
  go_wp2
  go_ret
  exact ⟨rfl, HU.out⟩
end ST
end Go.Proofs.YtndkpfkgcaebmaaDoor
/-
  A game begins: works.
-/
namespace Go.Proofs.YtndkpfkgcaebmaaDoor
open Go.RowKit
attribute [local go_sem ↓] Go.wp_at_zero Go.wp_at_succ

namespace ST
def wD : List (List Crd) := [[⟨1, 7, 0, 0, 0, 0⟩], [⟨2, 0, 0, 0, 0, 0⟩, ⟨2, 0, 0, 0, 0, 0⟩]]
def wS : Stt := newS wD 20 0
theorem w_new : newR wD 20 0 = wS ∧ newE wD 20 0 = 0 := by
  have : newB wD 20 0 = true := by decide
  exact ⟨by rw [newR, this]; rfl, by rw [newE, this]; rfl⟩
theorem w_ff : ff wS = none := by decide
theorem w_wh : whereOf wS 2 = some (4, 1) := by rw [whereOf, w_ff]; rfl
theorem w_small : Small wS := ⟨by decide, by decide, by decide, by decide⟩
theorem small_new_len : wS.cs.length = 3 ∧ wS.ps.length = 2 ∧ wS.zs.length = 8 ∧ (wS.cs.getD 0 dc).owner = 0 := by decide
theorem dl_two (w : World) (c1 c2 c3 : Crd) : DL (((w.alloc (.cells (cv c1).toArray 73)).alloc (.cells (cv c2 ++ cv c3).toArray 73)).alloc (.cells #[.slice (some ⟨w.heap.size, 0, none⟩) 1 1, .slice (some ⟨w.heap.size + 1, 0, none⟩) 2 2] 23)) (.slice (some ⟨w.heap.size + 1 + 1, 0, none⟩) 2 2) [[c1], [c2, c3]] := by
  obtain ⟨h0, h1, h2⟩ := three_blocks w (cv c1).toArray (cv c2 ++ cv c3).toArray #[.slice (some ⟨w.heap.size, 0, none⟩) 1 1, .slice (some ⟨w.heap.size + 1, 0, none⟩) 2 2] 73 73 23
  refine ⟨[.slice (some ⟨w.heap.size, 0, none⟩) 1 1, .slice (some ⟨w.heap.size + 1, 0, none⟩) 2 2], lc_row h2 rfl 2 (Nat.le_refl _), fun i hi => ?_⟩
  match i, hi with
  | 0, _ => exact lc_row h0 rfl 1 (Nat.le_refl _)
  | 1, _ => exact lc_row h1 rfl 2 (Nat.le_refl _)
set_option maxRecDepth 100000 in
set_option maxHeartbeats 4000000 in
theorem works_ (w : World) : Calls Tryd.prog 14 #[] w fun e w' => e = .returned (.bool true) ∧ Up w w' := by
  have HD : Hid _ := dl_two w ⟨1, 7, 0, 0, 0, 0⟩ ⟨2, 0, 0, 0, 0, 0⟩ ⟨2, 0, 0, 0, 0, 0⟩
  go_enter Tryd.func14, Tryd.ntmps14
  go_wp2_with fail
  refine Calls.mono (new_ _ wD 20 0 _ HD.out (by decide) (by decide)) ?_
  rw [w_new.1, w_new.2]
  rintro e w1 ⟨v', rfl, so, u1⟩
  have HU : Hid (Up w w1) := ((((Up.refl _).alloc _).alloc _).alloc _).trans u1
  obtain ⟨vp, vc, vz, rfl, po, co, zo⟩ := so
  have HS : Hid (StL w1 (sv vp vc vz wS) wS) := ⟨vp, vc, vz, rfl, own_lc po, own_lc co, zo.zl⟩
  obtain ⟨pa, pc, hp⟩ := row_val po
  obtain ⟨cg, cc, -, -, hc⟩ := row_some co (by decide)
  obtain ⟨za, zc, hz⟩ : ∃ a c, vz = .slice a wS.zs.length c := by
    obtain ⟨vs, h, -⟩ := zo
    exact row_val h
  subst hp hc hz
  have hcell : ∀ W, Up w1 W → W.cell? ⟨cg, 1, none⟩ = some (.int .i64 0) := fun W u => u.cell (by rw [World.ownsRow.cellAt co 1 (by decide)]; rfl)
  have HCl : Hid _ := hcell
  clear po co zo u1 HD hcell
  have e1 : wS.cs.length = 3 := small_new_len.1
  have e2 : wS.ps.length = 2 := small_new_len.2.1
  have e3 : wS.zs.length = 8 := small_new_len.2.2.1
  rw [e1, e2, e3] at HS ⊢
  clear e1 e2 e3
  have HT : Hid (sv (.slice pa 2 pc) (.slice (some ⟨cg, 0, none⟩) 3 cc) (.slice za 8 zc) wS = .agg #[.slice pa 2 pc, .slice (some ⟨cg, 0, none⟩) 3 cc, .slice za 8 zc, .int .i32 1, .int .i64 0, .int .i8 0, .int .i64 0]) := rfl
  rw [HT.out] at HS ⊢
  clear HT
  go_wp2_with fail
  refine Calls.mono (check_ _ wS _ (HS.out.up ((Up.refl _).alloc _)) w_small) ?_
  rw [w_ff]
  rintro e w2 ⟨rfl, u2⟩
  have g1 := u2.heap (heap_alloc_new w1 _)
  have hu2 : Up w1 w2 := ((Up.refl _).alloc _).trans u2
  have HK : Hid (ckV none = .tuple #[.int .i64 0, .int .i64 0]) := rfl
  rw [HK.out]
  obtain ⟨y0, y1, y2, y3, y4, y5, y6⟩ := seven_cells g1
  have HG : Hid _ := g1
  have HU2 : Hid (Up w1 w2) := hu2
  clear u2 g1 hu2 HK
  go_wp2_with fail
  refine Calls.mono (where_ _ wS 2 _ (HS.out.up HU2.out) w_small) ?_
  rw [w_wh]
  rintro e w3 ⟨rfl, u3⟩
  have HK : Hid (whV (some (4, 1)) = .tuple #[.int .i64 4, .int .i64 1, .bool true]) := rfl
  rw [HK.out]
  have g1 := u3.heap HG.out
  clear y0 y1 y2 y3 y4 y5 y6
  obtain ⟨y0, y1, y2, y3, y4, y5, y6⟩ := seven_cells g1
  have yc := HCl.out w3 (HU2.out.trans u3)
  have HU3 : Hid (Up w w3) := (HU.out.trans HU2.out).trans u3
  clear u3 g1 HK
  go_wp2
  go_ret
  exact ⟨rfl, HU3.out⟩
end ST
end Go.Proofs.YtndkpfkgcaebmaaDoor
