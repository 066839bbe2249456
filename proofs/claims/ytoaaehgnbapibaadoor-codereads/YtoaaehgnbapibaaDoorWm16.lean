
/-
  How many operands there are; the text of an instruction.
-/
import Derived.Test.YtoaaehgnbapibaaDoorWl16
namespace Go.Proofs.YtoaaehgnbapibaaDoor
open Go.RowKit
attribute [local go_sem ↓] Go.wp_at_zero Go.wp_at_succ
namespace CD
def cnt (k : Nat) : Nat := if k = 2 ∨ k = 3 then 1 else if k = 4 then 3 else 0
set_option maxRecDepth 100000 in
set_option maxHeartbeats 8000000 in
theorem count1_ (s : ByteArray) (f : Value) (W : World) : Calls Tryd.prog 64 #[.agg #[.string s, .int .i64 0, .int .i64 0, .int .i64 0, f]] W fun e w' => e = .returned (.int .i64 0) ∧ Up W w' := by
  obtain ⟨Post, hPost⟩ : ∃ P : Ending → World → Prop, P = fun e w' => e = .returned (.int .i64 0) ∧ Up W w' := ⟨_, rfl⟩
  rw [← hPost]
  have HPo : Hid (Post = fun e w' => e = .returned (.int .i64 0) ∧ Up W w') := hPost
  clear hPost
  have i0 := ix0 0 0 0
  have i1 := ix1 0 0 0
  have i2 := ix2 0 0 0
  obtain ⟨g, hg⟩ : ∃ g, g = W.heap.size := ⟨_, rfl⟩
  obtain ⟨W1, hW1⟩ : ∃ X, W.alloc (.cells #[.string s, .int .i64 0, .int .i64 0, .int .i64 0, f] 78) = X := ⟨_, rfl⟩
  have g0 : W1.heap[g]? = some (.cells #[.string s, .int .i64 0, .int .i64 0, .int .i64 0, f] 78 (0, 0)) := by rw [← hW1, hg]; exact heap_alloc_new _ _
  have HU : Hid (Up W W1) := by unfold Hid; rw [← hW1]; exact (Up.refl _).alloc _
  go_enter Tryd.func64, Tryd.ntmps64
  go_upto_region 1 with fail
  try rw [hW1]
  try rw [← hg]
  clear hg hW1
  have c1 : W1.cell? ⟨g, 1, none⟩ = some (.int .i64 0) := by simp only [World.cell?, g0]; rfl
  have c2 : W1.cell? ⟨g, 2, none⟩ = some (.int .i64 0) := by simp only [World.cell?, g0]; rfl
  have c3 : W1.cell? ⟨g, 3, none⟩ = some (.int .i64 0) := by simp only [World.cell?, g0]; rfl
  clear g0
  go_wp2_with fail
  go_rounds 4
  go_wp2_with fail
  rw [HPo.out]
  exact ⟨rfl, HU.out⟩
set_option maxRecDepth 100000 in
set_option maxHeartbeats 8000000 in
theorem count2_ (s : ByteArray) (f : Value) (W : World) : Calls Tryd.prog 64 #[.agg #[.string s, .int .i64 1, .int .i64 0, .int .i64 0, f]] W fun e w' => e = .returned (.int .i64 1) ∧ Up W w' := by
  obtain ⟨Post, hPost⟩ : ∃ P : Ending → World → Prop, P = fun e w' => e = .returned (.int .i64 1) ∧ Up W w' := ⟨_, rfl⟩
  rw [← hPost]
  have HPo : Hid (Post = fun e w' => e = .returned (.int .i64 1) ∧ Up W w') := hPost
  clear hPost
  have i0 := ix0 1 0 0
  have i1 := ix1 1 0 0
  have i2 := ix2 1 0 0
  obtain ⟨g, hg⟩ : ∃ g, g = W.heap.size := ⟨_, rfl⟩
  obtain ⟨W1, hW1⟩ : ∃ X, W.alloc (.cells #[.string s, .int .i64 1, .int .i64 0, .int .i64 0, f] 78) = X := ⟨_, rfl⟩
  have g0 : W1.heap[g]? = some (.cells #[.string s, .int .i64 1, .int .i64 0, .int .i64 0, f] 78 (0, 0)) := by rw [← hW1, hg]; exact heap_alloc_new _ _
  have HU : Hid (Up W W1) := by unfold Hid; rw [← hW1]; exact (Up.refl _).alloc _
  go_enter Tryd.func64, Tryd.ntmps64
  go_upto_region 1 with fail
  try rw [hW1]
  try rw [← hg]
  clear hg hW1
  have c1 : W1.cell? ⟨g, 1, none⟩ = some (.int .i64 1) := by simp only [World.cell?, g0]; rfl
  have c2 : W1.cell? ⟨g, 2, none⟩ = some (.int .i64 0) := by simp only [World.cell?, g0]; rfl
  have c3 : W1.cell? ⟨g, 3, none⟩ = some (.int .i64 0) := by simp only [World.cell?, g0]; rfl
  clear g0
  go_wp2_with fail
  go_rounds 4
  go_wp2_with fail
  rw [HPo.out]
  exact ⟨rfl, HU.out⟩
set_option maxRecDepth 100000 in
set_option maxHeartbeats 8000000 in
theorem count3_ (s : ByteArray) (f : Value) (W : World) : Calls Tryd.prog 64 #[.agg #[.string s, .int .i64 2, .int .i64 0, .int .i64 0, f]] W fun e w' => e = .returned (.int .i64 1) ∧ Up W w' := by
  obtain ⟨Post, hPost⟩ : ∃ P : Ending → World → Prop, P = fun e w' => e = .returned (.int .i64 1) ∧ Up W w' := ⟨_, rfl⟩
  rw [← hPost]
  have HPo : Hid (Post = fun e w' => e = .returned (.int .i64 1) ∧ Up W w') := hPost
  clear hPost
  have i0 := ix0 2 0 0
  have i1 := ix1 2 0 0
  have i2 := ix2 2 0 0
  obtain ⟨g, hg⟩ : ∃ g, g = W.heap.size := ⟨_, rfl⟩
  obtain ⟨W1, hW1⟩ : ∃ X, W.alloc (.cells #[.string s, .int .i64 2, .int .i64 0, .int .i64 0, f] 78) = X := ⟨_, rfl⟩
  have g0 : W1.heap[g]? = some (.cells #[.string s, .int .i64 2, .int .i64 0, .int .i64 0, f] 78 (0, 0)) := by rw [← hW1, hg]; exact heap_alloc_new _ _
  have HU : Hid (Up W W1) := by unfold Hid; rw [← hW1]; exact (Up.refl _).alloc _
  go_enter Tryd.func64, Tryd.ntmps64
  go_upto_region 1 with fail
  try rw [hW1]
  try rw [← hg]
  clear hg hW1
  have c1 : W1.cell? ⟨g, 1, none⟩ = some (.int .i64 2) := by simp only [World.cell?, g0]; rfl
  have c2 : W1.cell? ⟨g, 2, none⟩ = some (.int .i64 0) := by simp only [World.cell?, g0]; rfl
  have c3 : W1.cell? ⟨g, 3, none⟩ = some (.int .i64 0) := by simp only [World.cell?, g0]; rfl
  clear g0
  go_wp2_with fail
  go_rounds 4
  go_wp2_with fail
  rw [HPo.out]
  exact ⟨rfl, HU.out⟩
set_option maxRecDepth 100000 in
set_option maxHeartbeats 8000000 in
theorem count4_ (s : ByteArray) (f : Value) (W : World) : Calls Tryd.prog 64 #[.agg #[.string s, .int .i64 1, .int .i64 1, .int .i64 2, f]] W fun e w' => e = .returned (.int .i64 3) ∧ Up W w' := by
  obtain ⟨Post, hPost⟩ : ∃ P : Ending → World → Prop, P = fun e w' => e = .returned (.int .i64 3) ∧ Up W w' := ⟨_, rfl⟩
  rw [← hPost]
  have HPo : Hid (Post = fun e w' => e = .returned (.int .i64 3) ∧ Up W w') := hPost
  clear hPost
  have i0 := ix0 1 1 2
  have i1 := ix1 1 1 2
  have i2 := ix2 1 1 2
  obtain ⟨g, hg⟩ : ∃ g, g = W.heap.size := ⟨_, rfl⟩
  obtain ⟨W1, hW1⟩ : ∃ X, W.alloc (.cells #[.string s, .int .i64 1, .int .i64 1, .int .i64 2, f] 78) = X := ⟨_, rfl⟩
  have g0 : W1.heap[g]? = some (.cells #[.string s, .int .i64 1, .int .i64 1, .int .i64 2, f] 78 (0, 0)) := by rw [← hW1, hg]; exact heap_alloc_new _ _
  have HU : Hid (Up W W1) := by unfold Hid; rw [← hW1]; exact (Up.refl _).alloc _
  go_enter Tryd.func64, Tryd.ntmps64
  go_upto_region 1 with fail
  try rw [hW1]
  try rw [← hg]
  clear hg hW1
  have c1 : W1.cell? ⟨g, 1, none⟩ = some (.int .i64 1) := by simp only [World.cell?, g0]; rfl
  have c2 : W1.cell? ⟨g, 2, none⟩ = some (.int .i64 1) := by simp only [World.cell?, g0]; rfl
  have c3 : W1.cell? ⟨g, 3, none⟩ = some (.int .i64 2) := by simp only [World.cell?, g0]; rfl
  clear g0
  go_wp2_with fail
  go_rounds 4
  go_wp2_with fail
  rw [HPo.out]
  exact ⟨rfl, HU.out⟩
theorem count_ (d : Nat) (h0 : knd d ≠ 0) (W : World) : Calls Tryd.prog 64 #[.agg #[.string (strOfNums (nam d)), .int .i64 (w0 (knd d)), .int .i64 (w1 (knd d)), .int .i64 (w2 (knd d)), fnv (knd d)]] W fun e w' => e = .returned (.int .i64 (cnt (knd d) : Nat)) ∧ Up W w' := by
  have hk : knd d ≤ 4 := (rwo_nam d).2.1
  rcases (by omega : knd d = 1 ∨ knd d = 2 ∨ knd d = 3 ∨ knd d = 4) with k | k | k | k
  · rw [k]; exact count1_ _ _ W
  · rw [k]; exact count2_ _ _ W
  · rw [k]; exact count3_ _ _ W
  · rw [k]; exact count4_ _ _ W
/- names as bytes -/
def nmb (l : List Int) : List UInt8 := l.map fun n => UInt8.ofNat n.toNat
theorem str_nmb (l : List Int) : strOfNums l = ⟨(nmb l).toArray⟩ := rfl
theorem arr_app (a b : List UInt8) : ((⟨a.toArray⟩ : ByteArray) ++ ⟨b.toArray⟩) = ⟨(a ++ b).toArray⟩ := by
  apply ByteArray.ext
  rw [ByteArray.data_append]
  simp
theorem arr_size (a : List UInt8) : (⟨a.toArray⟩ : ByteArray).size = a.length := by simp [ByteArray.size]
/- the text of an instruction -/
def nums (x : Ins) : List Int := [x.a, x.b, x.c]
def argT (x : Ins) (j : Nat) : List UInt8 := ((nums x).take j).flatMap fun z => 32 :: Lib.itoa z
def headT (x : Ins) : List UInt8 := Lib.itoa x.at_ ++ [32] ++ nmb (nam x.op.toNat)
def txI (x : Ins) : List UInt8 := headT x ++ argT x (cnt (kop x)) ++ [10]
def txt (l : List Ins) : List UInt8 := if (putR l).2.1 ≠ 0 then [] else l.flatMap txI
theorem argT_next (x : Ins) {j : Nat} (h : j < 3) : argT x (j + 1) = argT x j ++ (32 :: Lib.itoa ((nums x).getD j 0)) := by
  unfold argT
  rw [List.take_add_one, List.getElem?_eq_getElem (show j < (nums x).length from h), List.flatMap_append, List.getD_eq_getElem?_getD, List.getElem?_eq_getElem (show j < (nums x).length from h)]
  simp
/- what Put has let by is right -/
theorem put_all : ∀ (l : List Ins) (i : Nat) (b : List Int), (putG l i b).2.1 = 0 → ∀ x ∈ l, ∃ m, flt x m = 0
  | [], _, _, _, x, hx => by cases hx
  | y :: l, i, b, h, x, hx => by
    rw [putG] at h
    by_cases hf : flt y b.length ≠ 0
    · rw [if_pos hf] at h
      exact absurd h hf
    · rw [if_neg hf] at h
      rcases List.mem_cons.1 hx with rfl | hx
      · exact ⟨b.length, Decidable.not_not.1 hf⟩
      · exact put_all l (i + 1) _ h x hx
theorem nam_len (op : Nat) : (nam op).length ≤ 6 := by
  by_cases h : op < 61
  · have h1 : ∀ i : Fin 61, (nam i).length ≤ 6 := by decide +kernel
    exact h1 ⟨op, h⟩
  · unfold nam
    rw [rwo_none h]
    decide
theorem flt_nums {x : Ins} {m : Nat} (h : flt x m = 0) : kop x ≠ 0 ∧ (0 ≤ x.at_ ∧ x.at_ ≤ 65535) ∧ ∀ j, 0 ≤ (nums x).getD j 0 ∧ (nums x).getD j 0 < 65536 := by
  obtain ⟨h1, h2, h3, h4, h5, h6, -⟩ := flt_ok h
  have hw := wd0 (kop_le x)
  have k3 := okn_is hw.1 h3
  have k4 := okn_is hw.2.1 h4
  have k5 := okn_is hw.2.2 h5
  refine ⟨h1, by omega, fun j => ?_⟩
  unfold nums
  match j with
  | 0 => exact ⟨k3.1, k3.2.1⟩
  | 1 => exact ⟨k4.1, k4.2.1⟩
  | 2 => exact ⟨k5.1, k5.2.1⟩
  | j + 3 => exact ⟨by show (0 : Int) ≤ 0; omega, by show (0 : Int) < 65536; omega⟩
end CD
end Go.Proofs.YtoaaehgnbapibaaDoor
