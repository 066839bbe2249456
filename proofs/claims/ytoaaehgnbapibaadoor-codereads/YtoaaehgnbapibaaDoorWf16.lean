
/-
  Size, Name, Read.
-/
import Derived.Test.YtoaaehgnbapibaaDoorWe16
namespace Go.Proofs.YtoaaehgnbapibaaDoor
open Go.RowKit
attribute [local go_sem ↓] Go.wp_at_zero Go.wp_at_succ
namespace CD
set_option maxRecDepth 100000 in
set_option maxHeartbeats 8000000 in
theorem Size_ (op : Nat) (ho : op < 256) (W : World) : Calls Tryd.prog 8 #[.int .u8 (op : Int)] W fun e w' => e = .returned (.int .i64 (siz (knd op) : Nat)) ∧ Up W w' := by
  obtain ⟨Post, hPost⟩ : ∃ P : Ending → World → Prop, P = fun e w' => e = .returned (.int .i64 (siz (knd op) : Nat)) ∧ Up W w' := ⟨_, rfl⟩
  rw [← hPost]
  have HPo : Hid (Post = fun e w' => e = .returned (.int .i64 (siz (knd op) : Nat)) ∧ Up W w') := hPost
  clear hPost
  obtain ⟨hz, -⟩ := zero_of_info (P := Tryd.prog) infoTbl
  go_enter Tryd.func8, Tryd.ntmps8
  have HOP : Hid _ := opcodes_ W
  go_wp2_with fail
  refine Calls.mono HOP.out ?_
  rintro e0 W1 ⟨rfl, u1⟩
  obtain ⟨g, hg⟩ : ∃ g, g = W1.heap.size := ⟨_, rfl⟩
  have HGS : Hid (W.heap.size ≤ g) := by unfold Hid; rw [hg]; exact u1.size
  obtain ⟨W2, hW2⟩ : ∃ X, W1.alloc (.cells TBZ 80) = X := ⟨_, rfl⟩
  have g2 : W2.heap[g]? = some (.cells TBZ 80 (0, 0)) := by rw [← hW2, hg]; exact heap_alloc_new _ _
  obtain ⟨W3, hW3⟩ : ∃ X, W2.setRow g TBL = X := ⟨_, rfl⟩
  have HT : Hid (TBat W3 g) := by unfold Hid TBat; rw [← hW3]; exact setRow_heap _ _ _ _ _ _ g2
  have HUM : Hid (Up W W3) := by
    unfold Hid
    rw [← hW3]
    exact up_setRow (by rw [← hW2]; exact u1.alloc _) HGS.out _
  go_upto_region 2 with (first | (refine wpList_store_row rfl 80 (.tmp 3) (.tmp 4) (by first | rfl | (rw [hg]; rfl)) g TBL (by first | rfl | (rw [hg]; rfl)) (by rfl) 80 TBZ (by first | exact g2 | (rw [hW2]; exact g2)) (by rw [tbl_size]; exact sizeTbl) (by rw [tbl_size, tbz_size]) tbl_one ?_; refine wpList_world (by first | exact hW3 | (rw [hW2]; exact hW3)) ?_))
  try rw [← hg]
  try simp only [Act.put]
  clear hg hW2 g2 hW3 u1 HOP HGS
  have HRW : Hid _ := row_ W3 g op HT.out ho
  clear hz
  go_wp2_with fail
  refine Calls.mono HRW.out ?_
  rintro e1 W4 ⟨rfl, u4⟩
  have HSZ : Hid _ := size_ op W4
  have HU4 : Hid (Up W W4) := HUM.out.trans u4
  generalize rwv (rwo op) = rv at HSZ ⊢
  clear u4 HRW HUM HT
  go_wp2_with fail
  refine Calls.mono HSZ.out ?_
  rintro e1 W5 ⟨rfl, u5⟩
  go_wp2_with fail
  rw [HPo.out]
  exact ⟨rfl, HU4.out.trans u5⟩
set_option maxRecDepth 100000 in
set_option maxHeartbeats 8000000 in
theorem fldR (s : ByteArray) (a b c : Int) (f : Value) : ∀ w, (Instr.field 78 (.agg #[.string s, .int .i64 a, .int .i64 b, .int .i64 c, f]) 0).run Tryd.prog w = .ok (.string s) w := fun w => by kernel_rfl
set_option maxRecDepth 100000 in
set_option maxHeartbeats 8000000 in
theorem Name_ (op : Nat) (ho : op < 256) (W : World) : Calls Tryd.prog 10 #[.int .u8 (op : Int)] W fun e w' => e = .returned (.string (strOfNums (nam op))) ∧ Up W w' := by
  obtain ⟨Post, hPost⟩ : ∃ P : Ending → World → Prop, P = fun e w' => e = .returned (.string (strOfNums (nam op))) ∧ Up W w' := ⟨_, rfl⟩
  rw [← hPost]
  have HPo : Hid (Post = fun e w' => e = .returned (.string (strOfNums (nam op))) ∧ Up W w') := hPost
  clear hPost
  obtain ⟨hz, -⟩ := zero_of_info (P := Tryd.prog) infoTbl
  go_enter Tryd.func10, Tryd.ntmps10
  have HOP : Hid _ := opcodes_ W
  go_wp2_with fail
  refine Calls.mono HOP.out ?_
  rintro e0 W1 ⟨rfl, u1⟩
  obtain ⟨g, hg⟩ : ∃ g, g = W1.heap.size := ⟨_, rfl⟩
  have HGS : Hid (W.heap.size ≤ g) := by unfold Hid; rw [hg]; exact u1.size
  obtain ⟨W2, hW2⟩ : ∃ X, W1.alloc (.cells TBZ 80) = X := ⟨_, rfl⟩
  have g2 : W2.heap[g]? = some (.cells TBZ 80 (0, 0)) := by rw [← hW2, hg]; exact heap_alloc_new _ _
  obtain ⟨W3, hW3⟩ : ∃ X, W2.setRow g TBL = X := ⟨_, rfl⟩
  have HT : Hid (TBat W3 g) := by unfold Hid TBat; rw [← hW3]; exact setRow_heap _ _ _ _ _ _ g2
  have HUM : Hid (Up W W3) := by
    unfold Hid
    rw [← hW3]
    exact up_setRow (by rw [← hW2]; exact u1.alloc _) HGS.out _
  go_upto_region 2 with (first | (refine wpList_store_row rfl 80 (.tmp 3) (.tmp 4) (by first | rfl | (rw [hg]; rfl)) g TBL (by first | rfl | (rw [hg]; rfl)) (by rfl) 80 TBZ (by first | exact g2 | (rw [hW2]; exact g2)) (by rw [tbl_size]; exact sizeTbl) (by rw [tbl_size, tbz_size]) tbl_one ?_; refine wpList_world (by first | exact hW3 | (rw [hW2]; exact hW3)) ?_))
  try rw [← hg]
  try simp only [Act.put]
  clear hg hW2 g2 hW3 u1 HOP HGS
  have HRW : Hid _ := row_ W3 g op HT.out ho
  have hv : rwv (rwo op) = #[.string (strOfNums (nam op)), .int .i64 (w0 (knd op)), .int .i64 (w1 (knd op)), .int .i64 (w2 (knd op)), fnv (knd op)] := rfl
  rw [hv] at HRW
  generalize strOfNums (nam op) = s at HPo HRW
  generalize w0 (knd op) = a at HRW
  generalize w1 (knd op) = b at HRW
  generalize w2 (knd op) = c at HRW
  generalize fnv (knd op) = f at HRW
  have hfl := fldR s a b c f
  clear hz hv
  go_wp2_with fail
  refine Calls.mono HRW.out ?_
  rintro e1 W4 ⟨rfl, u4⟩
  go_wp2_with fail
  rw [HPo.out]
  exact ⟨rfl, HUM.out.trans u4⟩
set_option maxRecDepth 100000 in
set_option maxHeartbeats 8000000 in
theorem Read_ (v : Value) (B : List Int) (z : Int) (W : World) (hv : BL W v B) (hB : Byt B) (hn : B.length ≤ 4611686018427387904) (hz0 : -9223372036854775808 ≤ z) (hz1 : z ≤ 9223372036854775807) : Calls Tryd.prog 14 #[v, .int .i64 z] W fun e w' => e = .returned (.tuple #[.agg (insv (rd B z).1), .int .i64 (rd B z).2]) ∧ Up W w' := by
  obtain ⟨Post, hPost⟩ : ∃ P : Ending → World → Prop, P = fun e w' => e = .returned (.tuple #[.agg (insv (rd B z).1), .int .i64 (rd B z).2]) ∧ Up W w' := ⟨_, rfl⟩
  rw [← hPost]
  have HPo : Hid (Post = fun e w' => e = .returned (.tuple #[.agg (insv (rd B z).1), .int .i64 (rd B z).2]) ∧ Up W w') := hPost
  clear hPost
  obtain ⟨hz, -⟩ := zero_of_info (P := Tryd.prog) infoTbl
  obtain ⟨hzi, -⟩ := zero_of_info (P := Tryd.prog) infoIns
  obtain ⟨W0, hW0⟩ : ∃ W0, W.alloc (.cells (insv zi) 28) = W0 := ⟨_, rfl⟩
  have g6 : W0.heap[W.heap.size]? = some (.cells (insv zi) 28 (0, 0)) := by rw [← hW0]; exact heap_alloc_new _ _
  have HU0 : Hid (Up W W0) := by unfold Hid; rw [← hW0]; exact (Up.refl _).alloc _
  have HBL : Hid (BL W v B) := hv
  clear hv
  go_enter Tryd.func14, Tryd.ntmps14
  go_upto_region 1 with fail
  try rw [hW0]
  clear hW0 hzi
  obtain ⟨r6, hr6⟩ : ∃ r, r = W.heap.size := ⟨_, rfl⟩
  have HR6 : Hid (r6 = W.heap.size) := hr6
  rw [← hr6] at g6 ⊢
  clear hr6
  have HOP : Hid _ := opcodes_ W0
  go_wp2_with fail
  refine Calls.mono HOP.out ?_
  rintro e0 W1 ⟨rfl, u1⟩
  obtain ⟨g, hg⟩ : ∃ g, g = W1.heap.size := ⟨_, rfl⟩
  have HGS : Hid (W0.heap.size ≤ g) := by unfold Hid; rw [hg]; exact u1.size
  obtain ⟨W2, hW2⟩ : ∃ X, W1.alloc (.cells TBZ 80) = X := ⟨_, rfl⟩
  have g2 : W2.heap[g]? = some (.cells TBZ 80 (0, 0)) := by rw [← hW2, hg]; exact heap_alloc_new _ _
  obtain ⟨W3, hW3⟩ : ∃ X, W2.setRow g TBL = X := ⟨_, rfl⟩
  have HT : Hid (TBat W3 g) := by unfold Hid TBat; rw [← hW3]; exact setRow_heap _ _ _ _ _ _ g2
  have HUM : Hid (Up W0 W3) := by
    unfold Hid
    rw [← hW3]
    exact up_setRow (by rw [← hW2]; exact u1.alloc _) HGS.out _
  go_upto_region 2 with (first | (refine wpList_store_row rfl 80 (.tmp 6) (.tmp 7) (by first | rfl | (rw [hg]; rfl)) g TBL (by first | rfl | (rw [hg]; rfl)) (by rfl) 80 TBZ (by first | exact g2 | (rw [hW2]; exact g2)) (by rw [tbl_size]; exact sizeTbl) (by rw [tbl_size, tbz_size]) tbl_one ?_; refine wpList_world (by first | exact hW3 | (rw [hW2]; exact hW3)) ?_))
  try rw [← hg]
  try simp only [Act.put]
  clear hg hW2 g2 hW3 u1 HOP HGS
  have HRD : Hid _ := read_ W3 g v B z HT.out (HBL.out.up (HU0.out.trans HUM.out)) hB hn hz0 hz1
  clear hz
  go_wp2_with fail
  refine Calls.mono HRD.out ?_
  rintro e1 W4 ⟨rfl, u4⟩
  have g7 : W4.heap[r6]? = some (.cells (insv zi) 28 (0, 0)) := (HUM.out.trans u4).heap g6
  have HU4 : Hid (Up W W4) := HU0.out.trans (HUM.out.trans u4)
  obtain ⟨x, hx⟩ : ∃ x, x = rd B z := ⟨_, rfl⟩
  rw [← hx] at HPo ⊢
  obtain ⟨⟨i1, i2, i3, i4, i5⟩, er⟩ := x
  have HX : Hid (insv (⟨i1, i2, i3, i4, i5⟩ : Ins) = #[.int .i64 i1, .int .u8 i2, .int .i64 i3, .int .i64 i4, .int .i64 i5]) := rfl
  have hx9 : insv (⟨i1, i2, i3, i4, i5⟩ : Ins) = #[.int .i64 i1, .int .u8 i2, .int .i64 i3, .int .i64 i4, .int .i64 i5] := rfl
  simp only at HPo ⊢
  rw [hx9] at HPo ⊢
  clear hx HX hx9 u4 HRD HUM HU0 g6
  obtain ⟨WA, hWA⟩ : ∃ X, W4.setRow r6 #[.int .i64 i1, .int .u8 i2, .int .i64 i3, .int .i64 i4, .int .i64 i5] = X := ⟨_, rfl⟩
  have ra : WA.heap[r6]? = some (.cells #[.int .i64 i1, .int .u8 i2, .int .i64 i3, .int .i64 i4, .int .i64 i5] 28 (0, 0)) := by rw [← hWA]; exact setRow_heap _ _ _ _ _ _ g7
  go_wp2_with (first | (refine wpList_store_row rfl 28 (.tmp 4) (.tmp 11) rfl r6 #[.int .i64 i1, .int .u8 i2, .int .i64 i3, .int .i64 i4, .int .i64 i5] rfl rfl 28 (insv zi) g7 sizeIns rfl (by simp [Value.oneCell']) ?_; refine wpList_world hWA ?_))
  refine bodyPost_ret (v := .tuple #[.agg #[.int .i64 i1, .int .u8 i2, .int .i64 i3, .int .i64 i4, .int .i64 i5], .int .i64 er]) (res_c1 (p := 4) (q := 5) (ty := 28) rfl _ _ r6 28 #[.int .i64 i1, .int .u8 i2, .int .i64 i3, .int .i64 i4, .int .i64 i5] (0, 0) _ (.int .i64 er) rfl rfl ra Tryd.underlying28 rfl sizeIns) rfl ?_
  rw [HPo.out]
  refine ⟨rfl, ?_⟩
  rw [← hWA]
  exact up_setRow HU4.out (by rw [HR6.out]; exact Nat.le_refl _) _
end CD
end Go.Proofs.YtoaaehgnbapibaaDoor
