
/-
  A row of the table: what it has, how long its instruction is, how its operands are read.
-/
import Derived.Test.YtoaaehgnbapibaaDoorWb16
import Derived.Shelf.Abstract
namespace Go.Proofs.YtoaaehgnbapibaaDoor
open Go.RowKit
attribute [local go_sem ↓] Go.wp_at_zero Go.wp_at_succ
namespace CD
theorem or_i64 (a b : Nat) (ha : a < 4294967296) (hb : b < 4294967296) : bits .or .i64 (a : Int) (b : Int) = ((a ||| b : Nat) : Int) := by
  have hx : a ||| b < 2 ^ 32 := Nat.or_lt_two_pow (by omega) (by omega)
  have h1 : (BitVec.ofInt 64 (a : Int)).toNat = a := by
    rw [BitVec.ofInt_natCast, BitVec.toNat_ofNat]; exact Nat.mod_eq_of_lt (by omega)
  have h2 : (BitVec.ofInt 64 (b : Int)).toNat = b := by
    rw [BitVec.ofInt_natCast, BitVec.toNat_ofNat]; exact Nat.mod_eq_of_lt (by omega)
  show IntKind.i64.wrap ((BitVec.ofInt 64 (a : Int) ||| BitVec.ofInt 64 (b : Int)).toNat : Int) = _
  rw [BitVec.toNat_or, h1, h2, IntKind.wrap_i64]
  omega
theorem or_two (x c : Int) (h0 : 0 ≤ x) (h1 : x < 256) (h2 : 0 ≤ c) (h3 : c < 256) : bits .or .i64 (x * 256) c = 256 * x + c := by
  obtain ⟨x, rfl⟩ := Int.eq_ofNat_of_zero_le h0
  obtain ⟨c, rfl⟩ := Int.eq_ofNat_of_zero_le h2
  rw [show (x : Int) * 256 = ((x * 256 : Nat) : Int) by omega, or_i64 _ _ (by omega) (by omega)]
  have h4 : x * 256 + c = x * 256 ||| c := by simpa [Nat.shiftLeft_eq] using Nat.shiftLeft_add_eq_or_of_lt (b := c) (i := 8) (by omega) x
  rw [← h4]
  omega
def TBat (W : World) (g : Nat) : Prop := W.heap[g]? = some (.cells TBL 80 (0, 0))
theorem TBat.up {W V : World} {g : Nat} (h : TBat W g) (u : Up W V) : TBat V g := u.heap h
theorem TBat.cell {W : World} {g op j : Nat} {x : Value} (h : TBat W g) (ho : op < 61) (hj : j < 5) (hx : (rcs (rwo op))[j]? = some x) : W.cell? ⟨g, op * 5 + j, none⟩ = some x := by
  have h1 : W.heap[g]? = some (.cells TBL 80 (0, 0)) := h
  simp only [World.cell?, h1]
  rw [tbl_at ho hj, hx]
  rfl
set_option maxRecDepth 100000 in
set_option maxHeartbeats 8000000 in
theorem row_ (W : World) (g op : Nat) (hT : TBat W g) (ho : op < 256) : Calls Tryd.prog 33 #[.pointer (some ⟨g, 0, none⟩), .int .u8 (op : Int)] W fun e w' => e = .returned (.agg (rwv (rwo op))) ∧ Up W w' := by
  obtain ⟨Post, hPost⟩ : ∃ P : Ending → World → Prop, P = fun e w' => e = .returned (.agg (rwv (rwo op))) ∧ Up W w' := ⟨_, rfl⟩
  rw [← hPost]
  have HPo : Hid (Post = fun e w' => e = .returned (.agg (rwv (rwo op))) ∧ Up W w') := hPost
  clear hPost
  obtain ⟨hz, -⟩ := zero_of_info (P := Tryd.prog) infoRow
  obtain ⟨W0, hW0⟩ : ∃ W0, W.alloc (.cells (rwv ([], 0)) 78) = W0 := ⟨_, rfl⟩
  have g0 : W0.heap[W.heap.size]? = some (.cells (rwv ([], 0)) 78 (0, 0)) := by rw [← hW0]; exact heap_alloc_new _ _
  have HU0 : Hid (Up W W0) := by unfold Hid; rw [← hW0]; exact (Up.refl _).alloc _
  have HT : Hid (TBat W0 g) := hT.up HU0.out
  clear hT
  go_enter Tryd.func33, Tryd.ntmps33
  go_upto_region 1 with fail
  try rw [hW0]
  clear hW0 hz
  obtain ⟨r, hr⟩ : ∃ r, r = W.heap.size := ⟨_, rfl⟩
  have HR : Hid (r = W.heap.size) := hr
  rw [← hr] at g0 ⊢
  clear hr
  by_cases h61 : op < 61
  · have h61b : (op : Int) < 61 := by omega
    obtain ⟨x0, x1, x2, x3, x4, hx⟩ : ∃ x0 x1 x2 x3 x4, rcs (rwo op) = [x0, x1, x2, x3, x4] := ⟨_, _, _, _, _, rfl⟩
    have c0 : W0.cell? ⟨g, op * 5, none⟩ = some x0 := HT.out.cell (j := 0) h61 (by omega) (by rw [hx]; rfl)
    have c1 : W0.cell? ⟨g, op * 5 + 1, none⟩ = some x1 := HT.out.cell (j := 1) h61 (by omega) (by rw [hx]; rfl)
    have c2 : W0.cell? ⟨g, op * 5 + 2, none⟩ = some x2 := HT.out.cell (j := 2) h61 (by omega) (by rw [hx]; rfl)
    have c3 : W0.cell? ⟨g, op * 5 + 3, none⟩ = some x3 := HT.out.cell (j := 3) h61 (by omega) (by rw [hx]; rfl)
    have c4 : W0.cell? ⟨g, op * 5 + 4, none⟩ = some x4 := HT.out.cell (j := 4) h61 (by omega) (by rw [hx]; rfl)
    have HV : Hid (rwv (rwo op) = #[x0, x1, x2, x3, x4]) := by
      unfold Hid
      show (rcs (rwo op)).toArray = _
      rw [hx]
    have HON : Hid ((#[x0, x1, x2, x3, x4] : Array Value).all (·.oneCell') = true) := by
      unfold Hid
      rw [← HV.out]
      exact rwv_one _
    have HE : Hid (.agg (rwv (rwo op)) = Value.agg #[x0, x1, x2, x3, x4]) := by unfold Hid; rw [HV.out]
    clear hx
    obtain ⟨W9, hW9⟩ : ∃ W9, W0.setRow r #[x0, x1, x2, x3, x4] = W9 := ⟨_, rfl⟩
    have r9 : W9.heap[r]? = some (.cells #[x0, x1, x2, x3, x4] 78 (0, 0)) := by rw [← hW9]; exact setRow_heap _ _ _ _ _ _ g0
    go_wp2_with (first | (refine wpList_store_row rfl 78 (.tmp 4) (.tmp 12) rfl r #[x0, x1, x2, x3, x4] rfl rfl 78 (rwv ([], 0)) g0 sizeRow rfl HON.out ?_; refine wpList_world hW9 ?_))
    refine bodyPost_ret (v := .agg #[x0, x1, x2, x3, x4]) (res_c0 (p := 4) (ty := 78) rfl _ _ r 78 #[x0, x1, x2, x3, x4] (0, 0) _ rfl r9 Tryd.underlying78 rfl sizeRow) rfl ?_
    rw [HPo.out]
    refine ⟨by rw [HV.out], ?_⟩
    rw [← hW9]
    exact up_setRow HU0.out (by rw [HR.out]; exact Nat.le_refl _) _
  · have h61b : ¬ (op : Int) < 61 := by omega
    have HV : Hid (rwv (rwo op) = rwv ([], 0)) := by unfold Hid; rw [rwo_none h61]
    obtain ⟨W9, hW9⟩ : ∃ W9, W0.setRow r (rwv ([], 0)) = W9 := ⟨_, rfl⟩
    have r9 : W9.heap[r]? = some (.cells (rwv ([], 0)) 78 (0, 0)) := by rw [← hW9]; exact setRow_heap _ _ _ _ _ _ g0
    go_wp2_with (first | (refine wpList_buildTo rfl 78 _ rfl (some 13) rfl (rwv ([], 0)) (by kernel_rfl) ?_) | (refine wpList_store_row rfl 78 (.tmp 4) (.tmp 13) rfl r (rwv ([], 0)) rfl rfl 78 (rwv ([], 0)) g0 sizeRow rfl (rwv_one _) ?_; refine wpList_world hW9 ?_))
    refine bodyPost_ret (v := .agg (rwv ([], 0))) (res_c0 (p := 4) (ty := 78) rfl _ _ r 78 (rwv ([], 0)) (0, 0) _ rfl r9 Tryd.underlying78 rfl sizeRow) rfl ?_
    rw [HPo.out]
    refine ⟨by rw [HV.out], ?_⟩
    rw [← hW9]
    exact up_setRow HU0.out (by rw [HR.out]; exact Nat.le_refl _) _
set_option maxRecDepth 100000 in
set_option maxHeartbeats 8000000 in
theorem has_ (s : ByteArray) (a b c : Int) (f : Value) (W : World) : Calls Tryd.prog 76 #[.agg #[.string s, .int .i64 a, .int .i64 b, .int .i64 c, f]] W fun e w' => e = .returned (.bool (!s.toList.isEmpty)) ∧ Up W w' := by
  obtain ⟨Post, hPost⟩ : ∃ P : Ending → World → Prop, P = fun e w' => e = .returned (.bool (!s.toList.isEmpty)) ∧ Up W w' := ⟨_, rfl⟩
  rw [← hPost]
  have HPo : Hid (Post = fun e w' => e = .returned (.bool (!s.toList.isEmpty)) ∧ Up W w') := hPost
  clear hPost
  go_enter Tryd.func76, Tryd.ntmps76
  go_wp2_with fail
  rw [HPo.out]
  exact ⟨rfl, (Up.refl _).alloc _⟩
set_option maxRecDepth 100000 in
set_option maxHeartbeats 8000000 in
theorem pair_ (b o n c : Nat) (x y : Int) (W : World) (hn : 2 ≤ n) (hx : W.cell? ⟨b, o, none⟩ = some (.int .u8 x)) (hy : W.cell? ⟨b, o + 1, none⟩ = some (.int .u8 y)) (x0 : 0 ≤ x) (x1 : x < 256) (y0 : 0 ≤ y) (y1 : y < 256) : Calls Tryd.prog 87 #[.slice (some ⟨b, o, none⟩) n c] W fun e w' => e = .returned (.int .i64 (256 * x + y)) ∧ Up W w' := by
  obtain ⟨Post, hPost⟩ : ∃ P : Ending → World → Prop, P = fun e w' => e = .returned (.int .i64 (256 * x + y)) ∧ Up W w' := ⟨_, rfl⟩
  rw [← hPost]
  have HPo : Hid (Post = fun e w' => e = .returned (.int .i64 (256 * x + y)) ∧ Up W w') := hPost
  clear hPost
  have e1 : IntKind.i64.wrap (x * 256) = x * 256 := by rw [IntKind.wrap_i64]; omega
  have e2 : IntKind.i64.wrap x = x := by rw [IntKind.wrap_i64]; omega
  have e3 : IntKind.i64.wrap y = y := by rw [IntKind.wrap_i64]; omega
  have e4 := or_two x y x0 x1 y0 y1
  have e5 : (1 : Int) < (n : Int) := by omega
  have e6 : (0 : Int) < (n : Int) := by omega
  go_enter Tryd.func87, Tryd.ntmps87
  go_wp2_with fail
  go_region
  go_wp2_with fail
  rw [HPo.out]
  exact ⟨rfl, (Up.refl _).drewN _⟩
theorem ix0 (a b c : Int) : ∀ w, (Instr.index 75 (.agg #[.int .i64 a, .int .i64 b, .int .i64 c]) (.int .i64 0)).run Tryd.prog w = .ok (.int .i64 a) w := fun w => by kernel_rfl
theorem ix1 (a b c : Int) : ∀ w, (Instr.index 75 (.agg #[.int .i64 a, .int .i64 b, .int .i64 c]) (.int .i64 1)).run Tryd.prog w = .ok (.int .i64 b) w := fun w => by kernel_rfl
theorem ix2 (a b c : Int) : ∀ w, (Instr.index 75 (.agg #[.int .i64 a, .int .i64 b, .int .i64 c]) (.int .i64 2)).run Tryd.prog w = .ok (.int .i64 c) w := fun w => by kernel_rfl
set_option maxRecDepth 100000 in
set_option maxHeartbeats 8000000 in
theorem size1_ (s : ByteArray) (hs : s.toList.isEmpty = false) (f : Value) (W : World) : Calls Tryd.prog 34 #[.agg #[.string s, .int .i64 0, .int .i64 0, .int .i64 0, f]] W fun e w' => e = .returned (.int .i64 1) ∧ Up W w' := by
  obtain ⟨Post, hPost⟩ : ∃ P : Ending → World → Prop, P = fun e w' => e = .returned (.int .i64 1) ∧ Up W w' := ⟨_, rfl⟩
  rw [← hPost]
  have HPo : Hid (Post = fun e w' => e = .returned (.int .i64 1) ∧ Up W w') := hPost
  clear hPost
  have H0 : Hid _ := has_ s 0 0 0 f
  have i0 := ix0 0 0 0
  have i1 := ix1 0 0 0
  have i2 := ix2 0 0 0
  go_enter Tryd.func34, Tryd.ntmps34
  go_wp2_with fail
  refine Calls.mono (H0.out _) ?_
  rintro r W1 ⟨rfl, u1⟩
  rw [hs]
  obtain ⟨g, hg⟩ : ∃ g, g = W.heap.size := ⟨_, rfl⟩
  have g0 := u1.heap (heap_alloc_new W (.cells #[.string s, .int .i64 0, .int .i64 0, .int .i64 0, f] 78))
  have HU : Hid (Up W W1) := ((Up.refl W).alloc _).trans u1
  rw [← hg] at g0 ⊢
  have c1 : W1.cell? ⟨g, 1, none⟩ = some (.int .i64 0) := by simp only [World.cell?, g0]; rfl
  have c2 : W1.cell? ⟨g, 2, none⟩ = some (.int .i64 0) := by simp only [World.cell?, g0]; rfl
  have c3 : W1.cell? ⟨g, 3, none⟩ = some (.int .i64 0) := by simp only [World.cell?, g0]; rfl
  clear hg u1 g0 H0
  go_wp2_with fail
  go_rounds 4
  go_wp2_with fail
  rw [HPo.out]
  exact ⟨rfl, HU.out⟩
set_option maxRecDepth 100000 in
set_option maxHeartbeats 8000000 in
theorem size2_ (s : ByteArray) (hs : s.toList.isEmpty = false) (f : Value) (W : World) : Calls Tryd.prog 34 #[.agg #[.string s, .int .i64 1, .int .i64 0, .int .i64 0, f]] W fun e w' => e = .returned (.int .i64 2) ∧ Up W w' := by
  obtain ⟨Post, hPost⟩ : ∃ P : Ending → World → Prop, P = fun e w' => e = .returned (.int .i64 2) ∧ Up W w' := ⟨_, rfl⟩
  rw [← hPost]
  have HPo : Hid (Post = fun e w' => e = .returned (.int .i64 2) ∧ Up W w') := hPost
  clear hPost
  have H0 : Hid _ := has_ s 1 0 0 f
  have i0 := ix0 1 0 0
  have i1 := ix1 1 0 0
  have i2 := ix2 1 0 0
  go_enter Tryd.func34, Tryd.ntmps34
  go_wp2_with fail
  refine Calls.mono (H0.out _) ?_
  rintro r W1 ⟨rfl, u1⟩
  rw [hs]
  obtain ⟨g, hg⟩ : ∃ g, g = W.heap.size := ⟨_, rfl⟩
  have g0 := u1.heap (heap_alloc_new W (.cells #[.string s, .int .i64 1, .int .i64 0, .int .i64 0, f] 78))
  have HU : Hid (Up W W1) := ((Up.refl W).alloc _).trans u1
  rw [← hg] at g0 ⊢
  have c1 : W1.cell? ⟨g, 1, none⟩ = some (.int .i64 1) := by simp only [World.cell?, g0]; rfl
  have c2 : W1.cell? ⟨g, 2, none⟩ = some (.int .i64 0) := by simp only [World.cell?, g0]; rfl
  have c3 : W1.cell? ⟨g, 3, none⟩ = some (.int .i64 0) := by simp only [World.cell?, g0]; rfl
  clear hg u1 g0 H0
  go_wp2_with fail
  go_rounds 4
  go_wp2_with fail
  rw [HPo.out]
  exact ⟨rfl, HU.out⟩
set_option maxRecDepth 100000 in
set_option maxHeartbeats 8000000 in
theorem size3_ (s : ByteArray) (hs : s.toList.isEmpty = false) (f : Value) (W : World) : Calls Tryd.prog 34 #[.agg #[.string s, .int .i64 2, .int .i64 0, .int .i64 0, f]] W fun e w' => e = .returned (.int .i64 3) ∧ Up W w' := by
  obtain ⟨Post, hPost⟩ : ∃ P : Ending → World → Prop, P = fun e w' => e = .returned (.int .i64 3) ∧ Up W w' := ⟨_, rfl⟩
  rw [← hPost]
  have HPo : Hid (Post = fun e w' => e = .returned (.int .i64 3) ∧ Up W w') := hPost
  clear hPost
  have H0 : Hid _ := has_ s 2 0 0 f
  have i0 := ix0 2 0 0
  have i1 := ix1 2 0 0
  have i2 := ix2 2 0 0
  go_enter Tryd.func34, Tryd.ntmps34
  go_wp2_with fail
  refine Calls.mono (H0.out _) ?_
  rintro r W1 ⟨rfl, u1⟩
  rw [hs]
  obtain ⟨g, hg⟩ : ∃ g, g = W.heap.size := ⟨_, rfl⟩
  have g0 := u1.heap (heap_alloc_new W (.cells #[.string s, .int .i64 2, .int .i64 0, .int .i64 0, f] 78))
  have HU : Hid (Up W W1) := ((Up.refl W).alloc _).trans u1
  rw [← hg] at g0 ⊢
  have c1 : W1.cell? ⟨g, 1, none⟩ = some (.int .i64 2) := by simp only [World.cell?, g0]; rfl
  have c2 : W1.cell? ⟨g, 2, none⟩ = some (.int .i64 0) := by simp only [World.cell?, g0]; rfl
  have c3 : W1.cell? ⟨g, 3, none⟩ = some (.int .i64 0) := by simp only [World.cell?, g0]; rfl
  clear hg u1 g0 H0
  go_wp2_with fail
  go_rounds 4
  go_wp2_with fail
  rw [HPo.out]
  exact ⟨rfl, HU.out⟩
set_option maxRecDepth 100000 in
set_option maxHeartbeats 8000000 in
theorem size4_ (s : ByteArray) (hs : s.toList.isEmpty = false) (f : Value) (W : World) : Calls Tryd.prog 34 #[.agg #[.string s, .int .i64 1, .int .i64 1, .int .i64 2, f]] W fun e w' => e = .returned (.int .i64 5) ∧ Up W w' := by
  obtain ⟨Post, hPost⟩ : ∃ P : Ending → World → Prop, P = fun e w' => e = .returned (.int .i64 5) ∧ Up W w' := ⟨_, rfl⟩
  rw [← hPost]
  have HPo : Hid (Post = fun e w' => e = .returned (.int .i64 5) ∧ Up W w') := hPost
  clear hPost
  have H0 : Hid _ := has_ s 1 1 2 f
  have i0 := ix0 1 1 2
  have i1 := ix1 1 1 2
  have i2 := ix2 1 1 2
  go_enter Tryd.func34, Tryd.ntmps34
  go_wp2_with fail
  refine Calls.mono (H0.out _) ?_
  rintro r W1 ⟨rfl, u1⟩
  rw [hs]
  obtain ⟨g, hg⟩ : ∃ g, g = W.heap.size := ⟨_, rfl⟩
  have g0 := u1.heap (heap_alloc_new W (.cells #[.string s, .int .i64 1, .int .i64 1, .int .i64 2, f] 78))
  have HU : Hid (Up W W1) := ((Up.refl W).alloc _).trans u1
  rw [← hg] at g0 ⊢
  have c1 : W1.cell? ⟨g, 1, none⟩ = some (.int .i64 1) := by simp only [World.cell?, g0]; rfl
  have c2 : W1.cell? ⟨g, 2, none⟩ = some (.int .i64 1) := by simp only [World.cell?, g0]; rfl
  have c3 : W1.cell? ⟨g, 3, none⟩ = some (.int .i64 2) := by simp only [World.cell?, g0]; rfl
  clear hg u1 g0 H0
  go_wp2_with fail
  go_rounds 4
  go_wp2_with fail
  rw [HPo.out]
  exact ⟨rfl, HU.out⟩
set_option maxRecDepth 100000 in
set_option maxHeartbeats 8000000 in
theorem size0_ (f : Value) (W : World) : Calls Tryd.prog 34 #[.agg #[.string ⟨#[]⟩, .int .i64 0, .int .i64 0, .int .i64 0, f]] W fun e w' => e = .returned (.int .i64 0) ∧ Up W w' := by
  obtain ⟨Post, hPost⟩ : ∃ P : Ending → World → Prop, P = fun e w' => e = .returned (.int .i64 0) ∧ Up W w' := ⟨_, rfl⟩
  rw [← hPost]
  have HPo : Hid (Post = fun e w' => e = .returned (.int .i64 0) ∧ Up W w') := hPost
  clear hPost
  have H0 : Hid _ := has_ ⟨#[]⟩ 0 0 0 f
  go_enter Tryd.func34, Tryd.ntmps34
  go_wp2_with fail
  refine Calls.mono (H0.out _) ?_
  rintro r W1 ⟨rfl, u1⟩
  have HU : Hid (Up W W1) := ((Up.refl W).alloc _).trans u1
  clear H0 u1
  go_wp2_with fail
  rw [HPo.out]
  exact ⟨rfl, HU.out⟩
/- every row of the table has a name just where it is one -/
theorem rwo_nam : ∀ op : Nat, ((rwo op).1 = [] ↔ (rwo op).2 = 0) ∧ (rwo op).2 ≤ 4 ∧ ((rwo op).2 = 0 → rwo op = ([], 0)) := fun op => by
  by_cases h : op < 61
  · have h1 : ∀ i : Fin 61, ((rwo i).1 = [] ↔ (rwo i).2 = 0) ∧ (rwo i).2 ≤ 4 ∧ ((rwo i).2 = 0 → rwo i = ([], 0)) := by decide +kernel
    exact h1 ⟨op, h⟩
  · rw [rwo_none h]
    exact ⟨by simp, by decide, fun _ => rfl⟩
theorem nums_list (l : List Int) : (strOfNums l).toList = l.map fun n => UInt8.ofNat n.toNat := by
  rw [ByteArray.toList_eq]
  exact strOfNums_data l
theorem nums_ne {l : List Int} (h : l ≠ []) : (strOfNums l).toList.isEmpty = false := by
  rw [nums_list]
  cases l with
  | nil => exact absurd rfl h
  | cons c r => rfl
theorem size_ (op : Nat) (W : World) : Calls Tryd.prog 34 #[.agg (rwv (rwo op))] W fun e w' => e = .returned (.int .i64 (siz (knd op) : Nat)) ∧ Up W w' := by
  obtain ⟨h1, h2, h3⟩ := rwo_nam op
  have e : rwo op = (nam op, knd op) := rfl
  have hk : (rwo op).2 = knd op := rfl
  have hn : (rwo op).1 = nam op := rfl
  rw [hk] at h2 h3
  rw [hk, hn] at h1
  rw [e]
  rcases (by omega : knd op = 0 ∨ knd op = 1 ∨ knd op = 2 ∨ knd op = 3 ∨ knd op = 4) with k | k | k | k | k
  · rw [k, h1.2 k]
    exact size0_ _ W
  · have hne := nums_ne (l := nam op) (fun h => by have := h1.1 h; omega)
    rw [k]
    exact size1_ _ hne _ W
  · have hne := nums_ne (l := nam op) (fun h => by have := h1.1 h; omega)
    rw [k]
    exact size2_ _ hne _ W
  · have hne := nums_ne (l := nam op) (fun h => by have := h1.1 h; omega)
    rw [k]
    exact size3_ _ hne _ W
  · have hne := nums_ne (l := nam op) (fun h => by have := h1.1 h; omega)
    rw [k]
    exact size4_ _ hne _ W
end CD
end Go.Proofs.YtoaaehgnbapibaaDoor
