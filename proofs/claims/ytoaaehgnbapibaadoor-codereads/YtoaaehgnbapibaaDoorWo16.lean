
/-
  works: code is read, written, told.
-/
import Derived.Test.YtoaaehgnbapibaaDoorWn16
namespace Go.Proofs.YtoaaehgnbapibaaDoor
open Go.RowKit
attribute [local go_sem ↓] Go.wp_at_zero Go.wp_at_succ
namespace CD
def cb : List Int := [4, 1, 10, 34]
def l3 : List Ins := [⟨0, 4, 1, 0, 0⟩, ⟨2, 10, 0, 0, 0⟩, ⟨3, 34, 0, 0, 0⟩]
def l2 : List Ins := [⟨0, 1, 515, 0, 0⟩, ⟨3, 34, 0, 0, 0⟩]
theorem cb_rd : rd cb 2 = (⟨2, 10, 0, 0, 0⟩, 0) := by decide +kernel
theorem cb_all : allR cb = (l3, 0, 0) := by decide +kernel
theorem l2_put : putR l2 = ([1, 2, 3, 34], 0, 0) := by decide +kernel
theorem it0 : Lib.itoa 0 = [48] := by unfold Lib.itoa; rw [if_neg (by omega), Lib.decDigits_one (by omega)]; rfl
theorem it1 : Lib.itoa 1 = [49] := by unfold Lib.itoa; rw [if_neg (by omega), Lib.decDigits_one (by omega)]; rfl
theorem it2 : Lib.itoa 2 = [50] := by unfold Lib.itoa; rw [if_neg (by omega), Lib.decDigits_one (by omega)]; rfl
theorem it3 : Lib.itoa 3 = [51] := by unfold Lib.itoa; rw [if_neg (by omega), Lib.decDigits_one (by omega)]; rfl
def s3b : List UInt8 := [48, 32, 108, 111, 97, 100, 32, 49, 10, 50, 32, 97, 100, 100, 10, 51, 32, 115, 116, 111, 112, 10]
theorem l3_txt : txt l3 = s3b := by
  have h0 : txI ⟨0, 4, 1, 0, 0⟩ = [48, 32, 108, 111, 97, 100, 32, 49, 10] := by
    unfold txI headT argT
    rw [show cnt (kop ⟨0, 4, 1, 0, 0⟩) = 1 from by decide +kernel, show (nums ⟨0, 4, 1, 0, 0⟩).take 1 = [1] from rfl]
    simp only [List.flatMap_cons, List.flatMap_nil]
    rw [it0, it1]
    decide +kernel
  have h1 : txI ⟨2, 10, 0, 0, 0⟩ = [50, 32, 97, 100, 100, 10] := by
    unfold txI headT argT
    rw [show cnt (kop ⟨2, 10, 0, 0, 0⟩) = 0 from by decide +kernel, show (nums ⟨2, 10, 0, 0, 0⟩).take 0 = [] from rfl]
    simp only [List.flatMap_nil]
    rw [it2]
    decide +kernel
  have h2 : txI ⟨3, 34, 0, 0, 0⟩ = [51, 32, 115, 116, 111, 112, 10] := by
    unfold txI headT argT
    rw [show cnt (kop ⟨3, 34, 0, 0, 0⟩) = 0 from by decide +kernel, show (nums ⟨3, 34, 0, 0, 0⟩).take 0 = [] from rfl]
    simp only [List.flatMap_nil]
    rw [it3]
    decide +kernel
  unfold txt
  rw [if_neg (by decide +kernel)]
  unfold l3
  simp only [List.flatMap_cons, List.flatMap_nil]
  rw [h0, h1, h2]
  rfl
theorem cb_byt : Byt cb := by unfold Byt cb; decide
theorem own_lc {W : World} {base e s n : Nat} {v : Value} {xs : List Value} (h : W.ownsRow base e s v n xs) : LC W v s n xs := by
  refine ⟨h.1, ?_⟩
  rcases h.2 with ⟨rfl, rfl⟩ | ⟨g, cap, cur, rfl, _, _, hnc, _⟩
  · exact ⟨none, 0, rfl, Nat.le_refl _, fun h => absurd rfl h⟩
  · exact ⟨some ⟨g, 0, none⟩, cap, rfl, hnc, fun _ => ⟨g, 0, rfl, fun j hj => by rw [Nat.zero_add]; exact h.cellAt j hj⟩⟩
theorem lc_block {W : World} {g s n : Nat} {C : Array Value} {t : TypeId} {fr : Nat × Nat} {xs : List Value} (h : W.heap[g]? = some (.cells C t fr)) (hC : C.toList = xs) (hl : xs.length = n * s) : LC W (.slice (some ⟨g, 0, none⟩) n n) s n xs := by
  refine ⟨hl, some ⟨g, 0, none⟩, n, rfl, Nat.le_refl _, fun _ => ⟨g, 0, rfl, fun j hj => ?_⟩⟩
  rw [Nat.zero_add, ← hC]
  simp [World.cell?, h]
theorem insSame : ∀ w, (binOp .neq 28 (.agg #[.int .i64 2, .int .u8 10, .int .i64 0, .int .i64 0, .int .i64 0]) (.agg #[.int .i64 2, .int .u8 10, .int .i64 0, .int .i64 0, .int .i64 0])).run Tryd.prog w = .ok (.bool false) w := fun w => by kernel_rfl
set_option maxRecDepth 100000 in
set_option maxHeartbeats 16000000 in
theorem works_ (W : World) (hT : TabP W) : Calls Tryd.prog 12 #[] W fun e w' => e = .returned (.bool true) ∧ Up W w' := by
  obtain ⟨Post, hPost⟩ : ∃ P : Ending → World → Prop, P = fun e w' => e = .returned (.bool true) ∧ Up W w' := ⟨_, rfl⟩
  rw [← hPost]
  have HPo : Hid (Post = fun e w' => e = .returned (.bool true) ∧ Up W w') := hPost
  clear hPost
  obtain ⟨hzi, -⟩ := zero_of_info (P := Tryd.prog) infoIns
  have HTP : Hid (TabP W) := hT
  clear hT
  obtain ⟨W1, hW1⟩ : ∃ X, W.alloc (.cells #[.int .u8 4, .int .u8 1, .int .u8 10, .int .u8 34] 5) = X := ⟨_, rfl⟩
  have g1 : W1.heap[W.heap.size]? = some (.cells #[.int .u8 4, .int .u8 1, .int .u8 10, .int .u8 34] 5 (0, 0)) := by rw [← hW1]; exact heap_alloc_new _ _
  have HU1 : Hid (Up W W1) := by unfold Hid; rw [← hW1]; exact (Up.refl _).alloc _
  have HB1 : Hid (BL W1 (.slice (some ⟨W.heap.size, 0, none⟩) 4 4) cb) := lc_block g1 rfl rfl
  have HR : Hid _ := Read_ _ cb 2 W1 HB1.out cb_byt (by decide) (by decide) (by decide)
  rw [cb_rd] at HR
  go_enter Tryd.func12, Tryd.ntmps12
  go_wp2_with fail
  try rw [hW1]
  refine Calls.mono HR.out ?_
  rintro e1 W2 ⟨rfl, u2⟩
  have hx9 : insv (⟨2, 10, 0, 0, 0⟩ : Ins) = #[.int .i64 2, .int .u8 10, .int .i64 0, .int .i64 0, .int .i64 0] := rfl
  simp only
  rw [hx9]
  have HU2 : Hid (Up W W2) := HU1.out.trans u2
  clear hW1 g1 HB1 HR u2 hx9 HU1
  obtain ⟨r1, hr1⟩ : ∃ r, r = W2.heap.size := ⟨_, rfl⟩
  obtain ⟨W3, hW3⟩ : ∃ X, W2.alloc (.cells (insv zi) 28) = X := ⟨_, rfl⟩
  have g3 : W3.heap[r1]? = some (.cells (insv zi) 28 (0, 0)) := by rw [← hW3, hr1]; exact heap_alloc_new _ _
  obtain ⟨W4, hW4⟩ : ∃ X, W3.setRow r1 #[.int .i64 2, .int .u8 10, .int .i64 0, .int .i64 0, .int .i64 0] = X := ⟨_, rfl⟩
  have g4 : W4.heap[r1]? = some (.cells #[.int .i64 2, .int .u8 10, .int .i64 0, .int .i64 0, .int .i64 0] 28 (0, 0)) := by rw [← hW4]; exact setRow_heap _ _ _ _ _ _ g3
  have HU4 : Hid (Up W W4) := by
    unfold Hid
    rw [← hW4]
    exact up_setRow (by rw [← hW3]; exact HU2.out.alloc _) (by rw [hr1]; exact HU2.out.size) _
  go_upto_region 2 with (first | (refine wpList_store_row rfl 28 (.tmp 1) (.tmp 12) (by first | rfl | (rw [hr1]; rfl)) r1 #[.int .i64 2, .int .u8 10, .int .i64 0, .int .i64 0, .int .i64 0] (by first | rfl | (rw [hr1]; rfl)) (by rfl) 28 (insv zi) (by first | exact g3 | (rw [hW3]; exact g3)) sizeIns rfl (by simp [Value.oneCell']) ?_; refine wpList_world (by first | exact hW4 | (rw [hW3]; exact hW4)) ?_))
  try rw [← hr1]
  try simp only [Act.put]
  clear hr1 hW3 g3 hW4 hzi HU2
  have hsame := insSame
  obtain ⟨W5, hW5⟩ : ∃ X, W4.alloc (.cells #[.int .u8 4, .int .u8 1, .int .u8 10, .int .u8 34] 5) = X := ⟨_, rfl⟩
  have g5 : W5.heap[W4.heap.size]? = some (.cells #[.int .u8 4, .int .u8 1, .int .u8 10, .int .u8 34] 5 (0, 0)) := by rw [← hW5]; exact heap_alloc_new _ _
  have HU5 : Hid (Up W W5) := by unfold Hid; rw [← hW5]; exact HU4.out.alloc _
  have HB5 : Hid (BL W5 (.slice (some ⟨W4.heap.size, 0, none⟩) 4 4) cb) := lc_block g5 rfl rfl
  have HAL : Hid _ := All_ _ cb W5 HB5.out cb_byt (by decide)
  go_wp2_with (first | (refine wpList_load_rowG (by rfl) 28 (.tmp 1) (by rfl) r1 (by rfl) 28 #[.int .i64 2, .int .u8 10, .int .i64 0, .int .i64 0, .int .i64 0] (0, 0) _ g4 Tryd.underlying28 (by rfl) sizeIns ?_))
  try rw [hW5]
  refine Calls.mono HAL.out ?_
  rintro e1 W6 ⟨lv, rfl, hrow, u6⟩
  rw [cb_all] at hrow ⊢
  simp only at hrow ⊢
  obtain ⟨gl, cl, -, -, rfl⟩ := row_some hrow (by decide)
  have HRL : Hid (W6.ownsRow W5.heap.size 28 5 (.slice (some ⟨gl, 0, none⟩) l3.length cl) l3.length (ivs l3)) := hrow
  have HU6 : Hid (Up W W6) := HU5.out.trans u6
  have hl3 : l3.length = 3 := rfl
  rw [hl3] at HRL ⊢
  clear hW5 g5 HU5 HB5 HAL hrow u6 g4 hsame HU4 hl3
  obtain ⟨W7, hW7⟩ : ∃ X, W6.alloc (.cells #[.int .i64 0, .int .u8 1, .int .i64 515, .int .i64 0, .int .i64 0, .int .i64 3, .int .u8 34, .int .i64 0, .int .i64 0, .int .i64 0] 28) = X := ⟨_, rfl⟩
  have g7 : W7.heap[W6.heap.size]? = some (.cells #[.int .i64 0, .int .u8 1, .int .i64 515, .int .i64 0, .int .i64 0, .int .i64 3, .int .u8 34, .int .i64 0, .int .i64 0, .int .i64 0] 28 (0, 0)) := by rw [← hW7]; exact heap_alloc_new _ _
  have HU7 : Hid (Up W W7) := by unfold Hid; rw [← hW7]; exact HU6.out.alloc _
  have HRL7 : Hid (W7.ownsRow W5.heap.size 28 5 (.slice (some ⟨gl, 0, none⟩) 3 cl) 3 (ivs l3)) := by unfold Hid; rw [← hW7]; exact row_up HRL.out ((Up.refl _).alloc _)
  have HIL : Hid (ILs W7 (.slice (some ⟨W6.heap.size, 0, none⟩) 2 2) l2) := lc_block g7 rfl rfl
  have HPT : Hid _ := Put_ _ l2 W7 HIL.out (by intro x hx; unfold l2 at hx; simp only [List.mem_cons, List.not_mem_nil, or_false] at hx; rcases hx with rfl | rfl <;> exact ⟨by decide, by decide⟩) (by decide)
  clear HRL
  go_wp2_with fail
  try rw [hW7]
  refine Calls.mono HPT.out ?_
  rintro e1 W8 ⟨bv, rfl, hrow, u8⟩
  rw [l2_put] at hrow ⊢
  simp only at hrow ⊢
  obtain ⟨gb, cb9, -, -, rfl⟩ := row_some hrow (by decide)
  have HRB : Hid (W8.ownsRow W7.heap.size 5 1 (.slice (some ⟨gb, 0, none⟩) 4 cb9) 4 (bvs [1, 2, 3, 34])) := hrow
  have HRL8 : Hid (W8.ownsRow W5.heap.size 28 5 (.slice (some ⟨gl, 0, none⟩) 3 cl) 3 (ivs l3)) := row_up HRL7.out u8
  have HU8 : Hid (Up W W8) := HU7.out.trans u8
  have hl4 : ([1, 2, 3, 34] : List Int).length = 4 := rfl
  rw [hl4]
  clear hW7 g7 HU7 HIL HPT hrow u8 HRL7 hl4
  have k1 : W8.cell? ⟨gl, 6, none⟩ = some (.int .u8 10) := by
    have h9 := HRL8.out.cells (g := gl) rfl 6 (.int .u8 10) rfl
    simpa [Addr.add] using h9
  have k0 : W8.cell? ⟨gl, 5, none⟩ = some (.int .i64 2) := by
    have h9 := HRL8.out.cells (g := gl) rfl 5 (.int .i64 2) rfl
    simpa [Addr.add] using h9
  have k2 : W8.cell? ⟨gb, 1, none⟩ = some (.int .u8 2) := by
    have h9 := HRB.out.cells (g := gb) rfl 1 (.int .u8 2) rfl
    simpa [Addr.add] using h9
  have k3 : W8.cell? ⟨gb, 2, none⟩ = some (.int .u8 3) := by
    have h9 := HRB.out.cells (g := gb) rfl 2 (.int .u8 3) rfl
    simpa [Addr.add] using h9
  have HTX : Hid _ := Text_ (.slice (some ⟨gl, 0, none⟩) 3 cl) l3 W8 (own_lc HRL8.out) (by intro x hx; unfold l3 at hx; simp only [List.mem_cons, List.not_mem_nil, or_false] at hx; rcases hx with rfl | rfl | rfl <;> exact ⟨by decide, by decide⟩) (by decide) (HTP.out.up HU8.out)
  rw [l3_txt] at HTX
  clear HRL8 HRB
  go_wp2_with fail
  refine Calls.mono HTX.out ?_
  rintro e1 W9 ⟨rfl, u9⟩
  have HU9 : Hid (Up W W9) := HU8.out.trans u9
  obtain ⟨st, hst⟩ : ∃ x : ByteArray, x = ⟨s3b.toArray⟩ := ⟨_, rfl⟩
  have hst2 : st.toList = (⟨#[48, 32, 108, 111, 97, 100, 32, 49, 10, 50, 32, 97, 100, 100, 10, 51, 32, 115, 116, 111, 112, 10]⟩ : ByteArray).toList := by rw [hst]; rfl
  rw [← hst]
  clear u9 HTX hst k0 k1 k2 k3
  go_wp2_with fail
  rw [HPo.out]
  exact ⟨by rfl, HU9.out⟩
end CD
end Go.Proofs.YtoaaehgnbapibaaDoor
