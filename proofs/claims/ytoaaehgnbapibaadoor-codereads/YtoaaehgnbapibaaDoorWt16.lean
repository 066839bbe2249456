
/-
  The document's Read.
-/
import Derived.Test.YtoaaehgnbapibaaDoorWr16
namespace Go.Proofs.YtoaaehgnbapibaaDoor
open Go.RowKit
attribute [local go_sem ↓] Go.wp_at_zero Go.wp_at_succ
namespace CD
theorem infoI1 : (Tryd.prog.info? 3).map (fun i => (i.zero, i.size, i.bytes)) = some (some (.int .i64 0), 1, 8) := by kernel_rfl
theorem ivl_app (a b : List Int) : ivl (a ++ b) = ivl a ++ ivl b := List.map_append
set_option maxRecDepth 100000 in
set_option maxHeartbeats 8000000 in
theorem instr0_ (z : Int) (d c : Nat) (a : Option Addr) (W : World) : Calls Tryd.prog 37 #[.int .i64 z, .int .u8 (d : Int), .slice a 0 c] W fun e w' => e = .returned (.agg #[.int .i64 z, .int .u8 (d : Int), .int .i64 0, .int .i64 0, .int .i64 0]) ∧ Up W w' := by
  obtain ⟨Post, hPost⟩ : ∃ P : Ending → World → Prop, P = fun e w' => e = .returned (.agg #[.int .i64 z, .int .u8 (d : Int), .int .i64 0, .int .i64 0, .int .i64 0]) ∧ Up W w' := ⟨_, rfl⟩
  rw [← hPost]
  have HPo : Hid (Post = fun e w' => e = .returned (.agg #[.int .i64 z, .int .u8 (d : Int), .int .i64 0, .int .i64 0, .int .i64 0]) ∧ Up W w') := hPost
  clear hPost
  obtain ⟨hzi, -⟩ := zero_of_info (P := Tryd.prog) infoIns
  obtain ⟨r6, hr6⟩ : ∃ r, r = W.heap.size := ⟨_, rfl⟩
  obtain ⟨W0, hW0⟩ : ∃ X, W.alloc (.cells (insv zi) 28) = X := ⟨_, rfl⟩
  have g6 : W0.heap[r6]? = some (.cells (insv zi) 28 (0, 0)) := by rw [← hW0, hr6]; exact heap_alloc_new _ _
  have HU0 : Hid (Up W W0) := by unfold Hid; rw [← hW0]; exact (Up.refl _).alloc _
  have HR6 : Hid (r6 = W.heap.size) := hr6
  go_enter Tryd.func37, Tryd.ntmps37
  go_upto_region 1 with fail
  try rw [hW0]
  try rw [← hr6]
  clear hW0 hr6
  obtain ⟨r7, hr7⟩ : ∃ r, r = W0.heap.size := ⟨_, rfl⟩
  obtain ⟨W1, hW1⟩ : ∃ X, W0.alloc (.cells (insv zi) 28) = X := ⟨_, rfl⟩
  have g1 : W1.heap[r7]? = some (.cells (insv zi) 28 (0, 0)) := by rw [← hW1, hr7]; exact heap_alloc_new _ _
  obtain ⟨V0, hV0⟩ : ∃ X, W1.setRow r7 #[.int .i64 z, .int .u8 (d : Int), .int .i64 0, .int .i64 0, .int .i64 0] = X := ⟨_, rfl⟩
  have k0 : V0.heap[r7]? = some (.cells #[.int .i64 z, .int .u8 (d : Int), .int .i64 0, .int .i64 0, .int .i64 0] 28 (0, 0)) := by rw [← hV0]; exact setRow_heap _ _ _ _ _ _ g1
  have HO0 : Hid (Up W0 V0) := by
    unfold Hid
    rw [← hV0]
    exact up_setRow (by rw [← hW1]; exact (Up.refl _).alloc _) (by rw [hr7]; exact Nat.le_refl _) _
  have HR7 : Hid (r7 = W0.heap.size) := hr7
  go_upto_region 2 with (first | (refine wpList_store_row rfl 28 (.tmp 7) (.tmp 10) (by first | rfl | (rw [hr7]; rfl)) r7 #[.int .i64 z, .int .u8 (d : Int), .int .i64 0, .int .i64 0, .int .i64 0] (by first | rfl | (rw [hr7]; rfl)) (by rfl) 28 (insv zi) (by first | exact g1 | (rw [hW1]; exact g1)) sizeIns rfl (by simp [Value.oneCell']) ?_; refine wpList_world (by first | exact hV0 | (rw [hW1]; exact hV0)) ?_))
  try rw [← hr7]
  try simp only [Act.put]
  clear hr7 hW1 g1 hV0 hzi
  go_upto_region 8 with fail
  try simp only [Act.put]
  have g6b : V0.heap[r6]? = some (.cells (insv zi) 28 (0, 0)) := HO0.out.heap g6
  obtain ⟨X, hX⟩ : ∃ X, V0.setRow r6 #[.int .i64 z, .int .u8 (d : Int), .int .i64 0, .int .i64 0, .int .i64 0] = X := ⟨_, rfl⟩
  have rx : X.heap[r6]? = some (.cells #[.int .i64 z, .int .u8 (d : Int), .int .i64 0, .int .i64 0, .int .i64 0] 28 (0, 0)) := by rw [← hX]; exact setRow_heap _ _ _ _ _ _ g6b
  go_wp2_with (first | (refine wpList_load_rowG (by rfl) 28 (.tmp 7) (by rfl) r7 (by rfl) 28 #[.int .i64 z, .int .u8 (d : Int), .int .i64 0, .int .i64 0, .int .i64 0] (0, 0) _ k0 Tryd.underlying28 (by rfl) sizeIns ?_) | (refine wpList_store_row rfl 28 (.tmp 6) (.tmp 32) rfl r6 #[.int .i64 z, .int .u8 (d : Int), .int .i64 0, .int .i64 0, .int .i64 0] rfl rfl 28 (insv zi) g6b sizeIns rfl (by simp [Value.oneCell']) ?_; refine wpList_world hX ?_))
  refine bodyPost_ret (v := .agg #[.int .i64 z, .int .u8 (d : Int), .int .i64 0, .int .i64 0, .int .i64 0]) (res_c0 (p := 6) (ty := 28) rfl _ _ r6 28 #[.int .i64 z, .int .u8 (d : Int), .int .i64 0, .int .i64 0, .int .i64 0] (0, 0) _ rfl rx Tryd.underlying28 rfl sizeIns) rfl ?_
  rw [HPo.out]
  refine ⟨rfl, ?_⟩
  rw [← hX]
  exact up_setRow (HU0.out.trans HO0.out) (by rw [HR6.out]; exact Nat.le_refl _) _
set_option maxRecDepth 100000 in
set_option maxHeartbeats 8000000 in
theorem instr1_ (z : Int) (d b c : Nat) (A : Int) (W : World) (h0 : W.cell? ⟨b, 0, none⟩ = some (.int .i64 A)) : Calls Tryd.prog 37 #[.int .i64 z, .int .u8 (d : Int), .slice (some ⟨b, 0, none⟩) 1 c] W fun e w' => e = .returned (.agg #[.int .i64 z, .int .u8 (d : Int), .int .i64 A, .int .i64 0, .int .i64 0]) ∧ Up W w' := by
  obtain ⟨Post, hPost⟩ : ∃ P : Ending → World → Prop, P = fun e w' => e = .returned (.agg #[.int .i64 z, .int .u8 (d : Int), .int .i64 A, .int .i64 0, .int .i64 0]) ∧ Up W w' := ⟨_, rfl⟩
  rw [← hPost]
  have HPo : Hid (Post = fun e w' => e = .returned (.agg #[.int .i64 z, .int .u8 (d : Int), .int .i64 A, .int .i64 0, .int .i64 0]) ∧ Up W w') := hPost
  clear hPost
  obtain ⟨hzi, -⟩ := zero_of_info (P := Tryd.prog) infoIns
  obtain ⟨r6, hr6⟩ : ∃ r, r = W.heap.size := ⟨_, rfl⟩
  obtain ⟨W0, hW0⟩ : ∃ X, W.alloc (.cells (insv zi) 28) = X := ⟨_, rfl⟩
  have g6 : W0.heap[r6]? = some (.cells (insv zi) 28 (0, 0)) := by rw [← hW0, hr6]; exact heap_alloc_new _ _
  have HU0 : Hid (Up W W0) := by unfold Hid; rw [← hW0]; exact (Up.refl _).alloc _
  have HR6 : Hid (r6 = W.heap.size) := hr6
  go_enter Tryd.func37, Tryd.ntmps37
  go_upto_region 1 with fail
  try rw [hW0]
  try rw [← hr6]
  clear hW0 hr6
  obtain ⟨r7, hr7⟩ : ∃ r, r = W0.heap.size := ⟨_, rfl⟩
  obtain ⟨W1, hW1⟩ : ∃ X, W0.alloc (.cells (insv zi) 28) = X := ⟨_, rfl⟩
  have g1 : W1.heap[r7]? = some (.cells (insv zi) 28 (0, 0)) := by rw [← hW1, hr7]; exact heap_alloc_new _ _
  obtain ⟨V0, hV0⟩ : ∃ X, W1.setRow r7 #[.int .i64 z, .int .u8 (d : Int), .int .i64 0, .int .i64 0, .int .i64 0] = X := ⟨_, rfl⟩
  have k0 : V0.heap[r7]? = some (.cells #[.int .i64 z, .int .u8 (d : Int), .int .i64 0, .int .i64 0, .int .i64 0] 28 (0, 0)) := by rw [← hV0]; exact setRow_heap _ _ _ _ _ _ g1
  have HO0 : Hid (Up W0 V0) := by
    unfold Hid
    rw [← hV0]
    exact up_setRow (by rw [← hW1]; exact (Up.refl _).alloc _) (by rw [hr7]; exact Nat.le_refl _) _
  have HR7 : Hid (r7 = W0.heap.size) := hr7
  go_upto_region 2 with (first | (refine wpList_store_row rfl 28 (.tmp 7) (.tmp 10) (by first | rfl | (rw [hr7]; rfl)) r7 #[.int .i64 z, .int .u8 (d : Int), .int .i64 0, .int .i64 0, .int .i64 0] (by first | rfl | (rw [hr7]; rfl)) (by rfl) 28 (insv zi) (by first | exact g1 | (rw [hW1]; exact g1)) sizeIns rfl (by simp [Value.oneCell']) ?_; refine wpList_world (by first | exact hV0 | (rw [hW1]; exact hV0)) ?_))
  try rw [← hr7]
  try simp only [Act.put]
  clear hr7 hW1 g1 hV0 hzi
  have x0 : V0.cell? ⟨b, 0, none⟩ = some (.int .i64 A) := HO0.out.cell (HU0.out.cell h0)
  have fc0 : V0.cell? ⟨r7, 2, none⟩ = some (.int .i64 0) := by simp only [World.cell?, k0]; rfl
  have ff0 : V0.frozen? ⟨r7, 2, none⟩ = false := by simp [World.frozen?, k0]
  obtain ⟨V1, hV1⟩ : ∃ X, V0.setCell ⟨r7, 2, none⟩ (.int .i64 A) = X := ⟨_, rfl⟩
  have k1 : V1.heap[r7]? = some (.cells #[.int .i64 z, .int .u8 (d : Int), .int .i64 A, .int .i64 0, .int .i64 0] 28 (0, 0)) := by rw [← hV1, set_cells k0]; rfl
  have HO1 : Hid (Up W0 V1) := by
    unfold Hid
    rw [← hV1]
    exact ((Only.up HO0.out).set 2 _).fresh (by rw [HR7.out]; exact Nat.le_refl _)
  go_upto_region 4 with fail
  try rw [hV1]
  try simp only [Act.put]
  clear x0 fc0 ff0 hV1 k0
  go_upto_region 8 with fail
  try simp only [Act.put]
  have g6b : V1.heap[r6]? = some (.cells (insv zi) 28 (0, 0)) := HO1.out.heap g6
  obtain ⟨X, hX⟩ : ∃ X, V1.setRow r6 #[.int .i64 z, .int .u8 (d : Int), .int .i64 A, .int .i64 0, .int .i64 0] = X := ⟨_, rfl⟩
  have rx : X.heap[r6]? = some (.cells #[.int .i64 z, .int .u8 (d : Int), .int .i64 A, .int .i64 0, .int .i64 0] 28 (0, 0)) := by rw [← hX]; exact setRow_heap _ _ _ _ _ _ g6b
  go_wp2_with (first | (refine wpList_load_rowG (by rfl) 28 (.tmp 7) (by rfl) r7 (by rfl) 28 #[.int .i64 z, .int .u8 (d : Int), .int .i64 A, .int .i64 0, .int .i64 0] (0, 0) _ k1 Tryd.underlying28 (by rfl) sizeIns ?_) | (refine wpList_store_row rfl 28 (.tmp 6) (.tmp 32) rfl r6 #[.int .i64 z, .int .u8 (d : Int), .int .i64 A, .int .i64 0, .int .i64 0] rfl rfl 28 (insv zi) g6b sizeIns rfl (by simp [Value.oneCell']) ?_; refine wpList_world hX ?_))
  refine bodyPost_ret (v := .agg #[.int .i64 z, .int .u8 (d : Int), .int .i64 A, .int .i64 0, .int .i64 0]) (res_c0 (p := 6) (ty := 28) rfl _ _ r6 28 #[.int .i64 z, .int .u8 (d : Int), .int .i64 A, .int .i64 0, .int .i64 0] (0, 0) _ rfl rx Tryd.underlying28 rfl sizeIns) rfl ?_
  rw [HPo.out]
  refine ⟨rfl, ?_⟩
  rw [← hX]
  exact up_setRow (HU0.out.trans HO1.out) (by rw [HR6.out]; exact Nat.le_refl _) _
set_option maxRecDepth 100000 in
set_option maxHeartbeats 8000000 in
theorem instr3_ (z : Int) (d b c : Nat) (A B C : Int) (W : World) (h0 : W.cell? ⟨b, 0, none⟩ = some (.int .i64 A)) (h1 : W.cell? ⟨b, 1, none⟩ = some (.int .i64 B)) (h2 : W.cell? ⟨b, 2, none⟩ = some (.int .i64 C)) : Calls Tryd.prog 37 #[.int .i64 z, .int .u8 (d : Int), .slice (some ⟨b, 0, none⟩) 3 c] W fun e w' => e = .returned (.agg #[.int .i64 z, .int .u8 (d : Int), .int .i64 A, .int .i64 B, .int .i64 C]) ∧ Up W w' := by
  obtain ⟨Post, hPost⟩ : ∃ P : Ending → World → Prop, P = fun e w' => e = .returned (.agg #[.int .i64 z, .int .u8 (d : Int), .int .i64 A, .int .i64 B, .int .i64 C]) ∧ Up W w' := ⟨_, rfl⟩
  rw [← hPost]
  have HPo : Hid (Post = fun e w' => e = .returned (.agg #[.int .i64 z, .int .u8 (d : Int), .int .i64 A, .int .i64 B, .int .i64 C]) ∧ Up W w') := hPost
  clear hPost
  obtain ⟨hzi, -⟩ := zero_of_info (P := Tryd.prog) infoIns
  obtain ⟨r6, hr6⟩ : ∃ r, r = W.heap.size := ⟨_, rfl⟩
  obtain ⟨W0, hW0⟩ : ∃ X, W.alloc (.cells (insv zi) 28) = X := ⟨_, rfl⟩
  have g6 : W0.heap[r6]? = some (.cells (insv zi) 28 (0, 0)) := by rw [← hW0, hr6]; exact heap_alloc_new _ _
  have HU0 : Hid (Up W W0) := by unfold Hid; rw [← hW0]; exact (Up.refl _).alloc _
  have HR6 : Hid (r6 = W.heap.size) := hr6
  go_enter Tryd.func37, Tryd.ntmps37
  go_upto_region 1 with fail
  try rw [hW0]
  try rw [← hr6]
  clear hW0 hr6
  obtain ⟨r7, hr7⟩ : ∃ r, r = W0.heap.size := ⟨_, rfl⟩
  obtain ⟨W1, hW1⟩ : ∃ X, W0.alloc (.cells (insv zi) 28) = X := ⟨_, rfl⟩
  have g1 : W1.heap[r7]? = some (.cells (insv zi) 28 (0, 0)) := by rw [← hW1, hr7]; exact heap_alloc_new _ _
  obtain ⟨V0, hV0⟩ : ∃ X, W1.setRow r7 #[.int .i64 z, .int .u8 (d : Int), .int .i64 0, .int .i64 0, .int .i64 0] = X := ⟨_, rfl⟩
  have k0 : V0.heap[r7]? = some (.cells #[.int .i64 z, .int .u8 (d : Int), .int .i64 0, .int .i64 0, .int .i64 0] 28 (0, 0)) := by rw [← hV0]; exact setRow_heap _ _ _ _ _ _ g1
  have HO0 : Hid (Up W0 V0) := by
    unfold Hid
    rw [← hV0]
    exact up_setRow (by rw [← hW1]; exact (Up.refl _).alloc _) (by rw [hr7]; exact Nat.le_refl _) _
  have HR7 : Hid (r7 = W0.heap.size) := hr7
  go_upto_region 2 with (first | (refine wpList_store_row rfl 28 (.tmp 7) (.tmp 10) (by first | rfl | (rw [hr7]; rfl)) r7 #[.int .i64 z, .int .u8 (d : Int), .int .i64 0, .int .i64 0, .int .i64 0] (by first | rfl | (rw [hr7]; rfl)) (by rfl) 28 (insv zi) (by first | exact g1 | (rw [hW1]; exact g1)) sizeIns rfl (by simp [Value.oneCell']) ?_; refine wpList_world (by first | exact hV0 | (rw [hW1]; exact hV0)) ?_))
  try rw [← hr7]
  try simp only [Act.put]
  clear hr7 hW1 g1 hV0 hzi
  have x0 : V0.cell? ⟨b, 0, none⟩ = some (.int .i64 A) := HO0.out.cell (HU0.out.cell h0)
  have fc0 : V0.cell? ⟨r7, 2, none⟩ = some (.int .i64 0) := by simp only [World.cell?, k0]; rfl
  have ff0 : V0.frozen? ⟨r7, 2, none⟩ = false := by simp [World.frozen?, k0]
  obtain ⟨V1, hV1⟩ : ∃ X, V0.setCell ⟨r7, 2, none⟩ (.int .i64 A) = X := ⟨_, rfl⟩
  have k1 : V1.heap[r7]? = some (.cells #[.int .i64 z, .int .u8 (d : Int), .int .i64 A, .int .i64 0, .int .i64 0] 28 (0, 0)) := by rw [← hV1, set_cells k0]; rfl
  have HO1 : Hid (Up W0 V1) := by
    unfold Hid
    rw [← hV1]
    exact ((Only.up HO0.out).set 2 _).fresh (by rw [HR7.out]; exact Nat.le_refl _)
  go_upto_region 4 with fail
  try rw [hV1]
  try simp only [Act.put]
  clear x0 fc0 ff0 hV1 k0
  have x1 : V1.cell? ⟨b, 1, none⟩ = some (.int .i64 B) := HO1.out.cell (HU0.out.cell h1)
  have fc1 : V1.cell? ⟨r7, 3, none⟩ = some (.int .i64 0) := by simp only [World.cell?, k1]; rfl
  have ff1 : V1.frozen? ⟨r7, 3, none⟩ = false := by simp [World.frozen?, k1]
  obtain ⟨V2, hV2⟩ : ∃ X, V1.setCell ⟨r7, 3, none⟩ (.int .i64 B) = X := ⟨_, rfl⟩
  have k2 : V2.heap[r7]? = some (.cells #[.int .i64 z, .int .u8 (d : Int), .int .i64 A, .int .i64 B, .int .i64 0] 28 (0, 0)) := by rw [← hV2, set_cells k1]; rfl
  have HO2 : Hid (Up W0 V2) := by
    unfold Hid
    rw [← hV2]
    exact ((Only.up HO1.out).set 3 _).fresh (by rw [HR7.out]; exact Nat.le_refl _)
  go_upto_region 6 with fail
  try rw [hV2]
  try simp only [Act.put]
  clear x1 fc1 ff1 hV2 k1
  have x2 : V2.cell? ⟨b, 2, none⟩ = some (.int .i64 C) := HO2.out.cell (HU0.out.cell h2)
  have fc2 : V2.cell? ⟨r7, 4, none⟩ = some (.int .i64 0) := by simp only [World.cell?, k2]; rfl
  have ff2 : V2.frozen? ⟨r7, 4, none⟩ = false := by simp [World.frozen?, k2]
  obtain ⟨V3, hV3⟩ : ∃ X, V2.setCell ⟨r7, 4, none⟩ (.int .i64 C) = X := ⟨_, rfl⟩
  have k3 : V3.heap[r7]? = some (.cells #[.int .i64 z, .int .u8 (d : Int), .int .i64 A, .int .i64 B, .int .i64 C] 28 (0, 0)) := by rw [← hV3, set_cells k2]; rfl
  have HO3 : Hid (Up W0 V3) := by
    unfold Hid
    rw [← hV3]
    exact ((Only.up HO2.out).set 4 _).fresh (by rw [HR7.out]; exact Nat.le_refl _)
  go_upto_region 8 with fail
  try rw [hV3]
  try simp only [Act.put]
  clear x2 fc2 ff2 hV3 k2
  go_upto_region 8 with fail
  try simp only [Act.put]
  have g6b : V3.heap[r6]? = some (.cells (insv zi) 28 (0, 0)) := HO3.out.heap g6
  obtain ⟨X, hX⟩ : ∃ X, V3.setRow r6 #[.int .i64 z, .int .u8 (d : Int), .int .i64 A, .int .i64 B, .int .i64 C] = X := ⟨_, rfl⟩
  have rx : X.heap[r6]? = some (.cells #[.int .i64 z, .int .u8 (d : Int), .int .i64 A, .int .i64 B, .int .i64 C] 28 (0, 0)) := by rw [← hX]; exact setRow_heap _ _ _ _ _ _ g6b
  go_wp2_with (first | (refine wpList_load_rowG (by rfl) 28 (.tmp 7) (by rfl) r7 (by rfl) 28 #[.int .i64 z, .int .u8 (d : Int), .int .i64 A, .int .i64 B, .int .i64 C] (0, 0) _ k3 Tryd.underlying28 (by rfl) sizeIns ?_) | (refine wpList_store_row rfl 28 (.tmp 6) (.tmp 32) rfl r6 #[.int .i64 z, .int .u8 (d : Int), .int .i64 A, .int .i64 B, .int .i64 C] rfl rfl 28 (insv zi) g6b sizeIns rfl (by simp [Value.oneCell']) ?_; refine wpList_world hX ?_))
  refine bodyPost_ret (v := .agg #[.int .i64 z, .int .u8 (d : Int), .int .i64 A, .int .i64 B, .int .i64 C]) (res_c0 (p := 6) (ty := 28) rfl _ _ r6 28 #[.int .i64 z, .int .u8 (d : Int), .int .i64 A, .int .i64 B, .int .i64 C] (0, 0) _ rfl rx Tryd.underlying28 rfl sizeIns) rfl ?_
  rw [HPo.out]
  refine ⟨rfl, ?_⟩
  rw [← hX]
  exact up_setRow (HU0.out.trans HO3.out) (by rw [HR6.out]; exact Nat.le_refl _) _
end CD
end Go.Proofs.YtoaaehgnbapibaaDoor
