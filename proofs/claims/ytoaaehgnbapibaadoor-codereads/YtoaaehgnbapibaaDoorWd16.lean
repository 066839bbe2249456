
/-
  How the operands of each kind are read.
-/
import Derived.Test.YtoaaehgnbapibaaDoorWc16
namespace Go.Proofs.YtoaaehgnbapibaaDoor
open Go.RowKit
attribute [local go_sem ↓] Go.wp_at_zero Go.wp_at_succ
namespace CD
theorem infoNum : (Tryd.prog.info? 95).map (fun i => (i.zero, i.size)) = some (some (.agg #[.int .i64 0, .int .i64 0, .int .i64 0]), 3) := by kernel_rfl
set_option maxRecDepth 100000 in
set_option maxHeartbeats 8000000 in
theorem bare1_ (v : Value) (W : World) : Calls Tryd.prog 88 #[v] W fun e w' => e = .returned (.agg #[.int .i64 0, .int .i64 0, .int .i64 0]) ∧ Up W w' := by
  obtain ⟨Post, hPost⟩ : ∃ P : Ending → World → Prop, P = fun e w' => e = .returned (.agg #[.int .i64 0, .int .i64 0, .int .i64 0]) ∧ Up W w' := ⟨_, rfl⟩
  rw [← hPost]
  have HPo : Hid (Post = fun e w' => e = .returned (.agg #[.int .i64 0, .int .i64 0, .int .i64 0]) ∧ Up W w') := hPost
  clear hPost
  obtain ⟨hz, -⟩ := zero_of_info (P := Tryd.prog) infoNum
  obtain ⟨W0, hW0⟩ : ∃ W0, W.alloc (.cells #[.int .i64 0, .int .i64 0, .int .i64 0] 95) = W0 := ⟨_, rfl⟩
  have g0 : W0.heap[W.heap.size]? = some (.cells #[.int .i64 0, .int .i64 0, .int .i64 0] 95 (0, 0)) := by rw [← hW0]; exact heap_alloc_new _ _
  have HU0 : Hid (Up W W0) := by unfold Hid; rw [← hW0]; exact (Up.refl _).alloc _
  go_enter Tryd.func88, Tryd.ntmps88
  go_upto_region 1 with fail
  try rw [hW0]
  clear hW0 hz
  obtain ⟨r, hr⟩ : ∃ r, r = W.heap.size := ⟨_, rfl⟩
  have HR : Hid (r = W.heap.size) := hr
  rw [← hr] at g0 ⊢
  clear hr
  obtain ⟨W9, hW9⟩ : ∃ W9, W0.setRow r #[.int .i64 0, .int .i64 0, .int .i64 0] = W9 := ⟨_, rfl⟩
  have r9 : W9.heap[r]? = some (.cells #[.int .i64 0, .int .i64 0, .int .i64 0] 95 (0, 0)) := by rw [← hW9]; exact setRow_heap _ _ _ _ _ _ g0
  go_wp2_with (first | (refine wpList_store_row rfl 95 (.tmp 2) (.tmp 3) rfl r #[.int .i64 0, .int .i64 0, .int .i64 0] rfl rfl 95 #[.int .i64 0, .int .i64 0, .int .i64 0] g0 sizeNum rfl (by simp [Value.oneCell']) ?_; refine wpList_world hW9 ?_))
  refine bodyPost_ret (v := .agg #[.int .i64 0, .int .i64 0, .int .i64 0]) (res_c0 (p := 2) (ty := 95) rfl _ _ r 95 #[.int .i64 0, .int .i64 0, .int .i64 0] (0, 0) _ rfl r9 Tryd.underlying95 rfl sizeNum) rfl ?_
  rw [HPo.out]
  refine ⟨rfl, ?_⟩
  rw [← hW9]
  exact up_setRow HU0.out (by rw [HR.out]; exact Nat.le_refl _) _
set_option maxRecDepth 100000 in
set_option maxHeartbeats 8000000 in
theorem single1_ (b o n c : Nat) (x : Int) (W : World) (hn : 1 ≤ n) (hx : W.cell? ⟨b, o, none⟩ = some (.int .u8 x)) (x0 : 0 ≤ x) (x1 : x < 256) : Calls Tryd.prog 89 #[.slice (some ⟨b, o, none⟩) n c] W fun e w' => e = .returned (.agg #[.int .i64 x, .int .i64 0, .int .i64 0]) ∧ Up W w' := by
  obtain ⟨Post, hPost⟩ : ∃ P : Ending → World → Prop, P = fun e w' => e = .returned (.agg #[.int .i64 x, .int .i64 0, .int .i64 0]) ∧ Up W w' := ⟨_, rfl⟩
  rw [← hPost]
  have HPo : Hid (Post = fun e w' => e = .returned (.agg #[.int .i64 x, .int .i64 0, .int .i64 0]) ∧ Up W w') := hPost
  clear hPost
  have e2 : IntKind.i64.wrap x = x := by rw [IntKind.wrap_i64]; omega
  have e6 : (0 : Int) < (n : Int) := by omega
  obtain ⟨hz, -⟩ := zero_of_info (P := Tryd.prog) infoNum
  obtain ⟨W0, hW0⟩ : ∃ W0, W.alloc (.cells #[.int .i64 0, .int .i64 0, .int .i64 0] 95) = W0 := ⟨_, rfl⟩
  have g0 : W0.heap[W.heap.size]? = some (.cells #[.int .i64 0, .int .i64 0, .int .i64 0] 95 (0, 0)) := by rw [← hW0]; exact heap_alloc_new _ _
  have HU0 : Hid (Up W W0) := by unfold Hid; rw [← hW0]; exact (Up.refl _).alloc _
  go_enter Tryd.func89, Tryd.ntmps89
  go_upto_region 1 with fail
  try rw [hW0]
  clear hW0 hz
  obtain ⟨r, hr⟩ : ∃ r, r = W.heap.size := ⟨_, rfl⟩
  have HR : Hid (r = W.heap.size) := hr
  rw [← hr] at g0 ⊢
  clear hr
  have c0 : W0.cell? ⟨b, o, none⟩ = some (.int .u8 x) := HU0.out.cell hx
  clear hx
  obtain ⟨W9, hW9⟩ : ∃ W9, W0.setRow r #[.int .i64 x, .int .i64 0, .int .i64 0] = W9 := ⟨_, rfl⟩
  have r9 : W9.heap[r]? = some (.cells #[.int .i64 x, .int .i64 0, .int .i64 0] 95 (0, 0)) := by rw [← hW9]; exact setRow_heap _ _ _ _ _ _ g0
  go_wp2_with (first | (refine wpList_store_row rfl 95 (.tmp 2) (.tmp 7) rfl r #[.int .i64 x, .int .i64 0, .int .i64 0] rfl rfl 95 #[.int .i64 0, .int .i64 0, .int .i64 0] g0 sizeNum rfl (by simp [Value.oneCell']) ?_; refine wpList_world hW9 ?_))
  refine bodyPost_ret (v := .agg #[.int .i64 x, .int .i64 0, .int .i64 0]) (res_c0 (p := 2) (ty := 95) rfl _ _ r 95 #[.int .i64 x, .int .i64 0, .int .i64 0] (0, 0) _ rfl r9 Tryd.underlying95 rfl sizeNum) rfl ?_
  rw [HPo.out]
  refine ⟨rfl, ?_⟩
  rw [← hW9]
  exact up_setRow HU0.out (by rw [HR.out]; exact Nat.le_refl _) _
set_option maxRecDepth 100000 in
set_option maxHeartbeats 8000000 in
theorem double1_ (b o n c : Nat) (x y : Int) (W : World) (hn : 2 ≤ n) (hx : W.cell? ⟨b, o, none⟩ = some (.int .u8 x)) (hy : W.cell? ⟨b, o + 1, none⟩ = some (.int .u8 y)) (x0 : 0 ≤ x) (x1 : x < 256) (y0 : 0 ≤ y) (y1 : y < 256) : Calls Tryd.prog 86 #[.slice (some ⟨b, o, none⟩) n c] W fun e w' => e = .returned (.agg #[.int .i64 (256 * x + y), .int .i64 0, .int .i64 0]) ∧ Up W w' := by
  obtain ⟨Post, hPost⟩ : ∃ P : Ending → World → Prop, P = fun e w' => e = .returned (.agg #[.int .i64 (256 * x + y), .int .i64 0, .int .i64 0]) ∧ Up W w' := ⟨_, rfl⟩
  rw [← hPost]
  have HPo : Hid (Post = fun e w' => e = .returned (.agg #[.int .i64 (256 * x + y), .int .i64 0, .int .i64 0]) ∧ Up W w') := hPost
  clear hPost
  obtain ⟨hz, -⟩ := zero_of_info (P := Tryd.prog) infoNum
  obtain ⟨W0, hW0⟩ : ∃ W0, W.alloc (.cells #[.int .i64 0, .int .i64 0, .int .i64 0] 95) = W0 := ⟨_, rfl⟩
  have g0 : W0.heap[W.heap.size]? = some (.cells #[.int .i64 0, .int .i64 0, .int .i64 0] 95 (0, 0)) := by rw [← hW0]; exact heap_alloc_new _ _
  have HU0 : Hid (Up W W0) := by unfold Hid; rw [← hW0]; exact (Up.refl _).alloc _
  go_enter Tryd.func86, Tryd.ntmps86
  go_upto_region 1 with fail
  try rw [hW0]
  clear hW0 hz
  obtain ⟨r, hr⟩ : ∃ r, r = W.heap.size := ⟨_, rfl⟩
  have HR : Hid (r = W.heap.size) := hr
  rw [← hr] at g0 ⊢
  clear hr
  have HP : Hid _ := pair_ b o n c x y W0 hn (HU0.out.cell hx) (HU0.out.cell hy) x0 x1 y0 y1
  clear hx hy
  go_wp2_with fail
  refine Calls.mono HP.out ?_
  rintro e1 W1 ⟨rfl, u1⟩
  have g1 : W1.heap[r]? = some (.cells #[.int .i64 0, .int .i64 0, .int .i64 0] 95 (0, 0)) := u1.heap g0
  have HU1 : Hid (Up W W1) := HU0.out.trans u1
  clear g0 u1 HP
  obtain ⟨W9, hW9⟩ : ∃ W9, W1.setRow r #[.int .i64 (256 * x + y), .int .i64 0, .int .i64 0] = W9 := ⟨_, rfl⟩
  have r9 : W9.heap[r]? = some (.cells #[.int .i64 (256 * x + y), .int .i64 0, .int .i64 0] 95 (0, 0)) := by rw [← hW9]; exact setRow_heap _ _ _ _ _ _ g1
  go_wp2_with (first | (refine wpList_store_row rfl 95 (.tmp 2) (.tmp 5) rfl r #[.int .i64 (256 * x + y), .int .i64 0, .int .i64 0] rfl rfl 95 #[.int .i64 0, .int .i64 0, .int .i64 0] g1 sizeNum rfl (by simp [Value.oneCell']) ?_; refine wpList_world hW9 ?_))
  refine bodyPost_ret (v := .agg #[.int .i64 (256 * x + y), .int .i64 0, .int .i64 0]) (res_c0 (p := 2) (ty := 95) rfl _ _ r 95 #[.int .i64 (256 * x + y), .int .i64 0, .int .i64 0] (0, 0) _ rfl r9 Tryd.underlying95 rfl sizeNum) rfl ?_
  rw [HPo.out]
  refine ⟨rfl, ?_⟩
  rw [← hW9]
  exact up_setRow HU1.out (by rw [HR.out]; exact Nat.le_refl _) _
set_option maxRecDepth 100000 in
set_option maxHeartbeats 8000000 in
theorem triple1_ (b o n c : Nat) (x y z u : Int) (W : World) (hn : 4 ≤ n) (hnc : n ≤ c) (hx : W.cell? ⟨b, o, none⟩ = some (.int .u8 x)) (hy : W.cell? ⟨b, o + 1, none⟩ = some (.int .u8 y)) (hz0 : W.cell? ⟨b, o + 2, none⟩ = some (.int .u8 z)) (hu : W.cell? ⟨b, o + 2 + 1, none⟩ = some (.int .u8 u)) (x0 : 0 ≤ x) (x1 : x < 256) (y0 : 0 ≤ y) (y1 : y < 256) (z0 : 0 ≤ z) (z1 : z < 256) (u0 : 0 ≤ u) (u1 : u < 256) : Calls Tryd.prog 90 #[.slice (some ⟨b, o, none⟩) n c] W fun e w' => e = .returned (.agg #[.int .i64 x, .int .i64 y, .int .i64 (256 * z + u)]) ∧ Up W w' := by
  obtain ⟨Post, hPost⟩ : ∃ P : Ending → World → Prop, P = fun e w' => e = .returned (.agg #[.int .i64 x, .int .i64 y, .int .i64 (256 * z + u)]) ∧ Up W w' := ⟨_, rfl⟩
  rw [← hPost]
  have HPo : Hid (Post = fun e w' => e = .returned (.agg #[.int .i64 x, .int .i64 y, .int .i64 (256 * z + u)]) ∧ Up W w') := hPost
  clear hPost
  have e1 : IntKind.i64.wrap x = x := by rw [IntKind.wrap_i64]; omega
  have e2 : IntKind.i64.wrap y = y := by rw [IntKind.wrap_i64]; omega
  have e6 : (0 : Int) < (n : Int) := by omega
  have e7 : (1 : Int) < (n : Int) := by omega
  have e8 : ¬ c = 2 := by omega
  obtain ⟨hz, -⟩ := zero_of_info (P := Tryd.prog) infoNum
  obtain ⟨W0, hW0⟩ : ∃ W0, W.alloc (.cells #[.int .i64 0, .int .i64 0, .int .i64 0] 95) = W0 := ⟨_, rfl⟩
  have g0 : W0.heap[W.heap.size]? = some (.cells #[.int .i64 0, .int .i64 0, .int .i64 0] 95 (0, 0)) := by rw [← hW0]; exact heap_alloc_new _ _
  have HU0 : Hid (Up W W0) := by unfold Hid; rw [← hW0]; exact (Up.refl _).alloc _
  go_enter Tryd.func90, Tryd.ntmps90
  go_upto_region 1 with fail
  try rw [hW0]
  clear hW0 hz
  obtain ⟨r, hr⟩ : ∃ r, r = W.heap.size := ⟨_, rfl⟩
  have HR : Hid (r = W.heap.size) := hr
  rw [← hr] at g0 ⊢
  clear hr
  have HP : Hid (∀ U : UW W0, Calls Tryd.prog 87 #[.slice (some ⟨b, o + 2, none⟩) (n - 2) (c - 2)] U.W fun e w' => e = .returned (.int .i64 (256 * z + u)) ∧ ∃ V : UW W0, w' = V.W) := fun U => (pair_ b (o + 2) (n - 2) (c - 2) z u U.W (by omega) ((HU0.out.trans U.up).cell hz0) ((HU0.out.trans U.up).cell hu) z0 z1 u0 u1).mono fun e w' h => ⟨h.1, ⟨_, U.up.trans h.2⟩, rfl⟩
  have k0 : ∀ U : UW W0, U.W.cell? ⟨b, o, none⟩ = some (.int .u8 x) := fun U => (HU0.out.trans U.up).cell hx
  have k1 : ∀ U : UW W0, U.W.cell? ⟨b, o + 1, none⟩ = some (.int .u8 y) := fun U => (HU0.out.trans U.up).cell hy
  have kn : Nonempty (UW W0) := ⟨⟨_, Up.refl _⟩⟩
  clear hx hy hz0 hu
  refine TailR.wp_region_seqC 12 (fun w' => ∃ U : UW W0, w' = U.W) ⟨⟨_, (Up.refl _).drewN 1⟩, rfl⟩ (by kernel_rfl) (by kernel_rfl) ?_
  simp only [List.take_succ_cons, List.take_zero, List.drop_succ_cons, List.drop_zero]
  repeat (go_big_quiet_step (first | with_reducible exact HP.out _))
  refine wpQuiet_nil ?_
  intro _ hw'
  obtain ⟨U, hw''⟩ := hw'
  subst hw''
  have g1 : U.W.heap[r]? = some (.cells #[.int .i64 0, .int .i64 0, .int .i64 0] 95 (0, 0)) := U.up.heap g0
  have HU1 : Hid (Up W U.W) := HU0.out.trans U.up
  clear HP k0 k1 kn g0
  obtain ⟨W9, hW9⟩ : ∃ W9, U.W.setRow r #[.int .i64 x, .int .i64 y, .int .i64 (256 * z + u)] = W9 := ⟨_, rfl⟩
  have r9 : W9.heap[r]? = some (.cells #[.int .i64 x, .int .i64 y, .int .i64 (256 * z + u)] 95 (0, 0)) := by rw [← hW9]; exact setRow_heap _ _ _ _ _ _ g1
  go_wp2_with (first | (refine wpList_store_row rfl 95 (.tmp 2) (.tmp 14) rfl r #[.int .i64 x, .int .i64 y, .int .i64 (256 * z + u)] rfl rfl 95 #[.int .i64 0, .int .i64 0, .int .i64 0] g1 sizeNum rfl (by simp [Value.oneCell']) ?_; refine wpList_world hW9 ?_))
  refine bodyPost_ret (v := .agg #[.int .i64 x, .int .i64 y, .int .i64 (256 * z + u)]) (res_c0 (p := 2) (ty := 95) rfl _ _ r 95 #[.int .i64 x, .int .i64 y, .int .i64 (256 * z + u)] (0, 0) _ rfl r9 Tryd.underlying95 rfl sizeNum) rfl ?_
  rw [HPo.out]
  refine ⟨rfl, ?_⟩
  rw [← hW9]
  exact up_setRow HU1.out (by rw [HR.out]; exact Nat.le_refl _) _
end CD
end Go.Proofs.YtoaaehgnbapibaaDoor
