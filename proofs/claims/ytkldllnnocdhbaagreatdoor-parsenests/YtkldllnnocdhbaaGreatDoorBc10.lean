/-
  The program's parser takes a token of a kind; what is open.
-/
import Derived.Shelf.LaysM
import Derived.Shelf.Strconv.Clone
import Derived.Test.YtkldllnnocdhbaaGreatDoorTail
import Derived.Test.YtkldllnnocdhbaaGreatDoorBa10
namespace Go.Proofs
open Go.Shelf
def Tryz.laysK316_ren : Go.Shelf.Ren := ⟨fun | 316 => 164 | n => n, fun | 9 => 9 | 3 => 3 | 4 => 4 | 37 => 26 | 0 => 0 | 127 => 209 | 5 => 5 | n => n, fun | n => n⟩
theorem Tryz.laysK316 : Go.Proofs.LaysM.n316 Tryz.prog Tryz.laysK316_ren := {
  mixed := by kernel_rfl
  f316 := Tryz.func164.trans (congrArg some (by kernel_rfl))
  t0 := Tryz.underlying0
  a0 := Tryz.isAgg0
  z0 := Tryz.sizeOf0
  v0 := Tryz.zeroValue0
  t3 := Tryz.underlying3
  a3 := Tryz.isAgg3
  z3 := Tryz.sizeOf3
  v3 := Tryz.zeroValue3
  t4 := Tryz.underlying4
  a4 := Tryz.isAgg4
  z4 := Tryz.sizeOf4
  v4 := Tryz.zeroValue4
  t9 := Tryz.underlying9
  a9 := Tryz.isAgg9
  z9 := Tryz.sizeOf9
  v9 := Tryz.zeroValue9
  t37 := Tryz.underlying26
  a37 := Tryz.isAgg26
  z37 := Tryz.sizeOf26
  v37 := Tryz.zeroValue26
  t127 := Tryz.underlying209
  a127 := Tryz.isAgg209
  z127 := Tryz.sizeOf209
  v127 := Tryz.zeroValue209
  t5 := Tryz.underlying5
  a5 := Tryz.isAgg5
  z5 := Tryz.sizeOf5
  v5 := Tryz.zeroValue5
  i0 := by kernel_rfl
  i3 := by kernel_rfl
  i4 := by kernel_rfl
  i5 := by kernel_rfl
  i9 := by kernel_rfl
  i37 := by kernel_rfl
  i127 := by kernel_rfl }
end Go.Proofs
namespace Go.Proofs.YtkldllnnocdhbaaGreatDoor
open Go.RowKit
attribute [local go_sem ↓] Go.wp_at_zero Go.wp_at_succ
namespace TP
set_option maxRecDepth 100000 in
set_option maxHeartbeats 8000000 in
theorem clone0_ (s : ByteArray) (w : World) (h : s.size ≤ 281474976710656) : Calls Tryz.prog 131 #[.string s] w fun e w' => e = .returned (.string s) ∧ Up w w' := by
  have H : Hid (Calls Tryz.prog 164 #[.string s] w fun e w' => e = .returned (.string s) ∧ Up w w') := Any.stringslite_Clone Tryz.laysK316 s w h
  clear h
  go_enter Tryz.func131, Tryz.ntmps131
  go_wp2_with fail
  refine Calls.mono H.out ?_
  rintro e w' ⟨rfl, u⟩
  go_wp2
  go_ret
  exact ⟨rfl, u⟩
end TP
end Go.Proofs.YtkldllnnocdhbaaGreatDoor
namespace Go.Proofs.YtkldllnnocdhbaaGreatDoor
open Go.RowKit
attribute [local go_sem ↓] Go.wp_at_zero Go.wp_at_succ
namespace TP
open TR (Nd Byt nums_inj)
open TK (Tok)
open TR (nums_list nums_nil)
/- what is known of the tokens besides -/
structure Ex (l : List Tok) (n : Nat) : Prop where
  nam : ∀ i, i < n → (tk l i).kind = 1 → TR.isN (tk l i).text = true
  len : ∀ i, i < n → (tk l i).text.length ≤ 100000
set_option maxRecDepth 100000 in
set_option maxHeartbeats 16000000 in
theorem pass_ (w0 W : World) (b bt off n c ml ms i d : Nat) (l : List Tok) (hE : Ev w0 b bt off n c l) (ho : Only b w0 W) (hi : i < n) (hP : QS W b bt off n c ml ms i d) : Calls Tryz.prog 139 #[.pointer (some ⟨b, 0, none⟩)] W (fun r w' => r = .returned (.agg #[.int .i8 (tk l i).kind, .string (strOfNums (tk l i).text), .int .i64 (tk l i).num, .int .i64 (tk l i).pos]) ∧ Only b W w' ∧ QS w' b bt off n c ml ms (i + 1) d) := by
  obtain ⟨Post, hPost⟩ : ∃ P : Ending → World → Prop, P = fun r w' => r = .returned (.agg #[.int .i8 (tk l i).kind, .string (strOfNums (tk l i).text), .int .i64 (tk l i).num, .int .i64 (tk l i).pos]) ∧ Only b W w' ∧ QS w' b bt off n c ml ms (i + 1) d := ⟨_, rfl⟩
  rw [← hPost]
  have HPo : Hid (Post = fun r w' => r = .returned (.agg #[.int .i8 (tk l i).kind, .string (strOfNums (tk l i).text), .int .i64 (tk l i).num, .int .i64 (tk l i).pos]) ∧ Only b W w' ∧ QS w' b bt off n c ml ms (i + 1) d) := hPost
  clear hPost
  have hns := hE.small
  obtain ⟨i', hi'⟩ : ∃ i', i' = i + 1 := ⟨_, rfl⟩
  have ei : IntKind.i64.wrap ((i : Int) + 1) = (i' : Int) := by rw [IntKind.wrap_i64]; omega
  rw [← hi'] at HPo
  clear hi' hns
  have HP : Hid (QS W b bt off n c ml ms i d) := hP
  obtain ⟨W0, hW0⟩ : ∃ W0, W.alloc (.cells #[.int .i8 0, .string ⟨#[]⟩, .int .i64 0, .int .i64 0] 45) = W0 := ⟨_, rfl⟩
  have HU0 : Hid (Up W W0) := by unfold Hid; rw [← hW0]; exact (Up.refl _).alloc _
  have g0 : W0.heap[W.heap.size]? = some (.cells tz 45 (0, 0)) := by rw [← hW0]; exact heap_alloc_new _ _
  have HC0 : Hid (Calls Tryz.prog 114 #[.pointer (some ⟨b, 0, none⟩)] W0 fun r w' => r = .returned (.agg #[.int .i8 (tk l i).kind, .string (strOfNums (tk l i).text), .int .i64 (tk l i).num, .int .i64 (tk l i).pos]) ∧ Up W0 w') := next_ w0 W0 b bt off n c ml ms i d l hE (ho.trans (Only.up HU0.out)) hi (hP.up HU0.out)
  have hone := tkA_one (tk l i)
  generalize tk l i = t at *
  clear hE ho hP
  go_enter Tryz.func139, Tryz.ntmps139
  go_wp2_with fail
  try rw [hW0]
  refine Calls.mono HC0.out ?_
  rintro r w1 ⟨rfl, u1⟩
  have HU1 : Hid (Up W w1) := HU0.out.trans u1
  have HP1 : Hid (QS w1 b bt off n c ml ms i d) := HP.out.up HU1.out
  have g1 : w1.heap[W.heap.size]? = some (.cells tz 45 (0, 0)) := u1.heap g0
  obtain ⟨W2, hW2⟩ : ∃ W2, (w1.alloc (.cells tz 45)).setRow w1.heap.size (tkA t) = W2 := ⟨_, rfl⟩
  have g2 : W2.heap[w1.heap.size]? = some (.cells (tkA t) 45 (0, 0)) := by rw [← hW2]; exact setRow_heap _ _ _ _ _ _ (heap_alloc_new _ _)
  have u2 : Up w1 W2 := by rw [← hW2]; exact up_setRow ((Up.refl _).alloc _) (Nat.le_refl _) _
  have HU2 : Hid (Up W W2) := HU1.out.trans u2
  have HP2 : Hid (QS W2 b bt off n c ml ms i d) := HP.out.up HU2.out
  have g3 : W2.heap[W.heap.size]? = some (.cells tz 45 (0, 0)) := u2.heap g1
  obtain ⟨a0, a1, a2, a3, a4, fz, hbl2⟩ := HP2.out.cells
  have hW2b : Hid ((w1.alloc (.cells tz 45)).setRow w1.heap.size (tkA t) = W2) := hW2
  have hgn := heap_alloc_new w1 (.cells tz 45)
  clear u1 u2 hW2 hW0 g1
  go_upto_region 2 with (first | (refine wpList_store_row rfl 45 (.tmp 3) (.tmp 5) rfl w1.heap.size (tkA t) rfl rfl 45 tz (heap_alloc_new w1 _) infoTk rfl hone ?_; refine wpList_world hW2b.out ?_))
  obtain ⟨g9, hg9⟩ : ∃ g9, g9 = w1.heap.size := ⟨_, rfl⟩
  rw [← hg9] at g2 ⊢
  have hgb : b < g9 := by rw [hg9]; exact HP1.out.cells.2.2.2.2.2.2
  have hgw : W.heap.size ≤ g9 := by rw [hg9]; exact HU1.out.size
  clear hg9 hgn hW2b
  obtain ⟨W4, hW4⟩ : ∃ W4, W2.setCell ⟨b, 1, none⟩ (.int .i64 (i' : Int)) = W4 := ⟨_, rfl⟩
  have HP4 : Hid (QS W4 b bt off n c ml ms i' d) := by unfold Hid; rw [← hW4]; exact HP2.out.at i'
  have HO4 : Hid (Only b W W4) := by unfold Hid; rw [← hW4]; exact (Only.up HU2.out).set 1 _
  have hbW : b < W.heap.size := HP.out.cells.2.2.2.2.2.2
  have k2 : W4.heap[g9]? = some (.cells (tkA t) 45 (0, 0)) := by rw [← hW4, Below.heap_setCell _ _ _ _ (show g9 ≠ b by omega)]; exact g2
  have k3 : W4.heap[W.heap.size]? = some (.cells tz 45 (0, 0)) := by rw [← hW4, Below.heap_setCell _ _ _ _ (show W.heap.size ≠ b by omega)]; exact g3
  obtain ⟨W5, hW5⟩ : ∃ W5, W4.setRow W.heap.size (tkA t) = W5 := ⟨_, rfl⟩
  have k5 : W5.heap[W.heap.size]? = some (.cells (tkA t) 45 (0, 0)) := by rw [← hW5]; exact setRow_heap _ _ _ _ _ _ k3
  have hW5b : Hid (W4.setRow W.heap.size (tkA t) = W5) := hW5
  clear hW5
  go_wp2_with (first | (refine wpList_load_row (by rfl) 45 (.tmp 3) (by rfl) g9 (by rfl) 45 (tkA t) (0, 0) _ k2 Tryz.underlying45 (by rfl) infoTk ?_) | (refine wpList_store_row rfl 45 (.tmp 2) (.tmp 13) rfl W.heap.size (tkA t) rfl rfl 45 tz k3 infoTk rfl hone ?_; refine wpList_world hW5b.out ?_))
  refine bodyPost_ret (v := .agg (tkA t)) (res_c0 (p := 2) (ty := 45) rfl _ _ W.heap.size 45 (tkA t) (0, 0) _ rfl k5 Tryz.underlying45 rfl infoTk) rfl ?_
  rw [HPo.out]
  refine ⟨rfl, ?_, ?_⟩
  · rw [← hW5b.out]
    exact only_setRow HO4.out (Nat.le_refl _) _
  · unfold QS
    rw [← hW5b.out, setRow_other _ _ _ _ (by omega)]
    exact HP4.out
set_option maxRecDepth 100000 in
set_option maxHeartbeats 16000000 in
theorem take_t (w0 W : World) (b bt off n c ml ms i d : Nat) (l : List Tok) (hE : Ev w0 b bt off n c l) (ho : Only b w0 W) (hi : i < n) (hP : QS W b bt off n c ml ms i d) : Calls Tryz.prog 105 #[.pointer (some ⟨b, 0, none⟩), .bool true] W (fun r w' => r = .returned (.agg #[.int .i8 (tk l i).kind, .string (strOfNums (tk l i).text), .int .i64 (tk l i).num, .int .i64 (tk l i).pos]) ∧ Only b W w' ∧ QS w' b bt off n c ml ms (i + 1) d) := by
  obtain ⟨Post, hPost⟩ : ∃ P : Ending → World → Prop, P = fun r w' => r = .returned (.agg #[.int .i8 (tk l i).kind, .string (strOfNums (tk l i).text), .int .i64 (tk l i).num, .int .i64 (tk l i).pos]) ∧ Only b W w' ∧ QS w' b bt off n c ml ms (i + 1) d := ⟨_, rfl⟩
  rw [← hPost]
  have HPo : Hid (Post = fun r w' => r = .returned (.agg #[.int .i8 (tk l i).kind, .string (strOfNums (tk l i).text), .int .i64 (tk l i).num, .int .i64 (tk l i).pos]) ∧ Only b W w' ∧ QS w' b bt off n c ml ms (i + 1) d) := hPost
  clear hPost
  have HC : Hid (∀ W2, Up W W2 → Calls Tryz.prog 139 #[.pointer (some ⟨b, 0, none⟩)] W2 fun r w' => r = .returned (.agg #[.int .i8 (tk l i).kind, .string (strOfNums (tk l i).text), .int .i64 (tk l i).num, .int .i64 (tk l i).pos]) ∧ Only b W2 w' ∧ QS w' b bt off n c ml ms (i + 1) d) := fun W2 hu => pass_ w0 W2 b bt off n c ml ms i d l hE (ho.trans (Only.up hu)) hi (hP.up hu)
  have hone := tkA_one (tk l i)
  have hbW : b < W.heap.size := hP.cells.2.2.2.2.2.2
  generalize tk l i = t at *
  obtain ⟨W0, hW0⟩ : ∃ W0, W.alloc (.cells #[.int .i8 0, .string ⟨#[]⟩, .int .i64 0, .int .i64 0] 45) = W0 := ⟨_, rfl⟩
  have HU0 : Hid (Up W W0) := by unfold Hid; rw [← hW0]; exact (Up.refl _).alloc _
  have g0 : W0.heap[W.heap.size]? = some (.cells tz 45 (0, 0)) := by rw [← hW0]; exact heap_alloc_new _ _
  clear hE ho hP
  go_enter Tryz.func105, Tryz.ntmps105
  go_wp2_with fail
  try rw [hW0]
  refine Calls.mono (HC.out W0 HU0.out) ?_
  rintro r w1 ⟨rfl, o1, p1⟩
  have HO1 : Hid (Only b W w1) := (Only.up HU0.out).trans o1
  have HP1 : Hid (QS w1 b bt off n c ml ms (i + 1) d) := p1
  have k3 : w1.heap[W.heap.size]? = some (.cells tz 45 (0, 0)) := o1.heap g0 (by omega)
  obtain ⟨W5, hW5⟩ : ∃ W5, w1.setRow W.heap.size (tkA t) = W5 := ⟨_, rfl⟩
  have k5 : W5.heap[W.heap.size]? = some (.cells (tkA t) 45 (0, 0)) := by rw [← hW5]; exact setRow_heap _ _ _ _ _ _ k3
  have hW5b : Hid (w1.setRow W.heap.size (tkA t) = W5) := hW5
  clear hW5 o1 p1 HC hW0
  go_wp2_with (first | (refine wpList_store_row rfl 45 (.tmp 4) (.tmp 10) rfl W.heap.size (tkA t) rfl rfl 45 tz k3 infoTk rfl hone ?_; refine wpList_world hW5b.out ?_))
  refine bodyPost_ret (v := .agg (tkA t)) (res_c0 (p := 4) (ty := 45) rfl _ _ W.heap.size 45 (tkA t) (0, 0) _ rfl k5 Tryz.underlying45 rfl infoTk) rfl ?_
  rw [HPo.out]
  refine ⟨rfl, ?_, ?_⟩
  · rw [← hW5b.out]
    exact only_setRow HO1.out (Nat.le_refl _) _
  · unfold QS
    rw [← hW5b.out, setRow_other _ _ _ _ (by omega)]
    exact HP1.out
set_option maxRecDepth 100000 in
set_option maxHeartbeats 16000000 in
theorem take_f (w0 W : World) (b bt off n c ml ms i d : Nat) (l : List Tok) (hE : Ev w0 b bt off n c l) (ho : Only b w0 W) (hi : i < n) (hP : QS W b bt off n c ml ms i d) : Calls Tryz.prog 105 #[.pointer (some ⟨b, 0, none⟩), .bool false] W (fun r w' => r = pnc 22 (tk l i).pos ∧ Up W w') := by
  obtain ⟨Post, hPost⟩ : ∃ P : Ending → World → Prop, P = fun r w' => r = pnc 22 (tk l i).pos ∧ Up W w' := ⟨_, rfl⟩
  rw [← hPost]
  have HPo : Hid (Post = fun r w' => r = pnc 22 (tk l i).pos ∧ Up W w') := hPost
  clear hPost
  have HRF : Hid (∀ W2, Up W W2 → Calls Tryz.prog 148 #[.pointer (some ⟨b, 0, none⟩), .int .i64 22] W2 fun r w' => r = pnc 22 (tk l i).pos ∧ Up W2 w') := fun W2 hu => refuse_ w0 W2 b bt off n c ml ms i d l hE (ho.trans (Only.up hu)) hi (hP.up hu) 22
  clear hE ho hP
  generalize (tk l i).pos = q at *
  obtain ⟨W0, hW0⟩ : ∃ W0, W.alloc (.cells #[.int .i8 0, .string ⟨#[]⟩, .int .i64 0, .int .i64 0] 45) = W0 := ⟨_, rfl⟩
  have HU0 : Hid (Up W W0) := by unfold Hid; rw [← hW0]; exact (Up.refl _).alloc _
  go_enter Tryz.func105, Tryz.ntmps105
  go_wp2_with fail
  try rw [hW0]
  refine Calls.mono (HRF.out W0 HU0.out) ?_
  rintro r w1 ⟨rfl, u1⟩
  have HU1 : Hid (Up W w1) := HU0.out.trans u1
  clear u1 hW0
  unfold pnc at *
  go_wp2_with fail
  rw [HPo.out]
  exact ⟨rfl, rfl, HU1.out⟩
/- take, whatever may be -/
set_option maxRecDepth 100000 in
set_option maxHeartbeats 16000000 in
theorem ptake_ (w0 W : World) (b bt off n c ml ms i d : Nat) (l : List Tok) (hE : Ev w0 b bt off n c l) (ho : Only b w0 W) (hi : i < n) (hP : QS W b bt off n c ml ms i d) (may : Bool) : Calls Tryz.prog 105 #[.pointer (some ⟨b, 0, none⟩), .bool may] W (fun r w' => Only b W w' ∧ ((may = true ∧ r = .returned (.agg #[.int .i8 (tk l i).kind, .string (strOfNums (tk l i).text), .int .i64 (tk l i).num, .int .i64 (tk l i).pos]) ∧ QS w' b bt off n c ml ms (i + 1) d) ∨ (may = false ∧ r = pnc 22 (tk l i).pos))) := by
  cases may with
  | true => exact Calls.mono (take_t w0 W b bt off n c ml ms i d l hE ho hi hP) (fun r w' h => ⟨h.2.1, .inl ⟨rfl, h.1, h.2.2⟩⟩)
  | false => exact Calls.mono (take_f w0 W b bt off n c ml ms i d l hE ho hi hP) (fun r w' h => ⟨Only.up h.2, .inr ⟨rfl, h.1⟩⟩)
end TP
end Go.Proofs.YtkldllnnocdhbaaGreatDoor
namespace Go.Proofs.YtkldllnnocdhbaaGreatDoor
open Go.RowKit
attribute [local go_sem ↓] Go.wp_at_zero Go.wp_at_succ
namespace TP
open TR (Nd Byt nums_inj)
open TK (Tok)
open TR (nums_list nums_nil)
set_option maxRecDepth 100000 in
set_option maxHeartbeats 16000000 in
theorem takeMark_ (w0 W : World) (b bt off n c ml ms i d : Nat) (l : List Tok) (hE : Ev w0 b bt off n c l) (ho : Only b w0 W) (hi : i < n) (hP : QS W b bt off n c ml ms i d) (s : ByteArray) (m : List Int) (hm : Byt m) (hs : s.toList = (strOfNums m).toList) : Calls Tryz.prog 117 #[.pointer (some ⟨b, 0, none⟩), .string s] W (fun r w' => Only b W w' ∧ ((mk (tk l i) m = true ∧ r = .returned (.tuple #[]) ∧ QS w' b bt off n c ml ms (i + 1) d) ∨ (mk (tk l i) m = false ∧ r = pnc 22 (tk l i).pos))) := by
  obtain ⟨Post, hPost⟩ : ∃ P : Ending → World → Prop, P = fun r w' => Only b W w' ∧ ((mk (tk l i) m = true ∧ r = .returned (.tuple #[]) ∧ QS w' b bt off n c ml ms (i + 1) d) ∨ (mk (tk l i) m = false ∧ r = pnc 22 (tk l i).pos)) := ⟨_, rfl⟩
  rw [← hPost]
  have HPo : Hid (Post = fun r w' => Only b W w' ∧ ((mk (tk l i) m = true ∧ r = .returned (.tuple #[]) ∧ QS w' b bt off n c ml ms (i + 1) d) ∨ (mk (tk l i) m = false ∧ r = pnc 22 (tk l i).pos))) := hPost
  clear hPost
  have HM : Hid (Calls Tryz.prog 118 #[.pointer (some ⟨b, 0, none⟩), .string s] W fun r w' => r = .returned (.bool (mk (tk l i) m)) ∧ Up W w') := isMark_ w0 W b bt off n c ml ms i d l hE ho hi hP s m hm hs
  have HTT : Hid (∀ W2, Up W W2 → Calls Tryz.prog 105 #[.pointer (some ⟨b, 0, none⟩), .bool true] W2 fun r w' => r = .returned (.agg #[.int .i8 (tk l i).kind, .string (strOfNums (tk l i).text), .int .i64 (tk l i).num, .int .i64 (tk l i).pos]) ∧ Only b W2 w' ∧ QS w' b bt off n c ml ms (i + 1) d) := fun W2 hu => take_t w0 W2 b bt off n c ml ms i d l hE (ho.trans (Only.up hu)) hi (hP.up hu)
  have HTF : Hid (∀ W2, Up W W2 → Calls Tryz.prog 105 #[.pointer (some ⟨b, 0, none⟩), .bool false] W2 fun r w' => r = pnc 22 (tk l i).pos ∧ Up W2 w') := fun W2 hu => take_f w0 W2 b bt off n c ml ms i d l hE (ho.trans (Only.up hu)) hi (hP.up hu)
  clear hE ho hP hm hs
  cases hmk : mk (tk l i) m with
  | true =>
    rw [hmk] at HM HPo
    clear HTF hmk
    generalize tk l i = t at *
    go_enter Tryz.func117, Tryz.ntmps117
    go_wp2_with fail
    refine Calls.mono HM.out ?_
    rintro r w1 ⟨rfl, u1⟩
    have HC := HTT.out w1 u1
    have HU1 : Hid (Up W w1) := u1
    clear u1 HTT HM
    go_wp2_with fail
    refine Calls.mono HC ?_
    rintro r w2 ⟨rfl, o2, p2⟩
    have HO2 : Hid (Only b W w2) := (Only.up HU1.out).trans o2
    have HP2 : Hid (QS w2 b bt off n c ml ms (i + 1) d) := p2
    clear o2 p2 HC
    go_wp2_with fail
    refine bodyPost_end (v := .tuple #[]) (by simp [results, Tryz.results117, go_sem]) rfl ?_
    rw [HPo.out]
    exact ⟨HO2.out, .inl ⟨by first | rfl | trivial, rfl, HP2.out⟩⟩
  | false =>
    rw [hmk] at HM HPo
    clear HTT hmk
    generalize tk l i = t at *
    go_enter Tryz.func117, Tryz.ntmps117
    go_wp2_with fail
    refine Calls.mono HM.out ?_
    rintro r w1 ⟨rfl, u1⟩
    have HC := HTF.out w1 u1
    have HU1 : Hid (Up W w1) := u1
    clear u1 HTF HM
    go_wp2_with fail
    refine Calls.mono HC ?_
    rintro r w2 ⟨rfl, u2⟩
    have HU2 : Hid (Up W w2) := HU1.out.trans u2
    clear u2 HC
    unfold pnc at *
    go_wp2_with fail
    rw [HPo.out]
    exact ⟨rfl, Only.up HU2.out, .inr ⟨by first | rfl | trivial, rfl⟩⟩
set_option maxRecDepth 100000 in
set_option maxHeartbeats 16000000 in
theorem takeWord_ (w0 W : World) (b bt off n c ml ms i d : Nat) (l : List Tok) (hE : Ev w0 b bt off n c l) (ho : Only b w0 W) (hi : i < n) (hP : QS W b bt off n c ml ms i d) (s : ByteArray) (m : List Int) (hm : Byt m) (hs : s.toList = (strOfNums m).toList) (h0 : m ≠ []) : Calls Tryz.prog 115 #[.pointer (some ⟨b, 0, none⟩), .string s] W (fun r w' => Only b W w' ∧ ((wd (tk l i) m = true ∧ r = .returned (.tuple #[]) ∧ QS w' b bt off n c ml ms (i + 1) d) ∨ (wd (tk l i) m = false ∧ r = pnc 22 (tk l i).pos))) := by
  obtain ⟨Post, hPost⟩ : ∃ P : Ending → World → Prop, P = fun r w' => Only b W w' ∧ ((wd (tk l i) m = true ∧ r = .returned (.tuple #[]) ∧ QS w' b bt off n c ml ms (i + 1) d) ∨ (wd (tk l i) m = false ∧ r = pnc 22 (tk l i).pos)) := ⟨_, rfl⟩
  rw [← hPost]
  have HPo : Hid (Post = fun r w' => Only b W w' ∧ ((wd (tk l i) m = true ∧ r = .returned (.tuple #[]) ∧ QS w' b bt off n c ml ms (i + 1) d) ∨ (wd (tk l i) m = false ∧ r = pnc 22 (tk l i).pos))) := hPost
  clear hPost
  have HM : Hid (Calls Tryz.prog 138 #[.pointer (some ⟨b, 0, none⟩), .string s] W fun r w' => r = .returned (.bool (wd (tk l i) m)) ∧ Up W w') := isWord_ w0 W b bt off n c ml ms i d l hE ho hi hP s m hm hs h0
  have HTT : Hid (∀ W2, Up W W2 → Calls Tryz.prog 105 #[.pointer (some ⟨b, 0, none⟩), .bool true] W2 fun r w' => r = .returned (.agg #[.int .i8 (tk l i).kind, .string (strOfNums (tk l i).text), .int .i64 (tk l i).num, .int .i64 (tk l i).pos]) ∧ Only b W2 w' ∧ QS w' b bt off n c ml ms (i + 1) d) := fun W2 hu => take_t w0 W2 b bt off n c ml ms i d l hE (ho.trans (Only.up hu)) hi (hP.up hu)
  have HTF : Hid (∀ W2, Up W W2 → Calls Tryz.prog 105 #[.pointer (some ⟨b, 0, none⟩), .bool false] W2 fun r w' => r = pnc 22 (tk l i).pos ∧ Up W2 w') := fun W2 hu => take_f w0 W2 b bt off n c ml ms i d l hE (ho.trans (Only.up hu)) hi (hP.up hu)
  clear hE ho hP hm hs
  cases hmk : wd (tk l i) m with
  | true =>
    rw [hmk] at HM HPo
    clear HTF hmk
    generalize tk l i = t at *
    go_enter Tryz.func115, Tryz.ntmps115
    go_wp2_with fail
    refine Calls.mono HM.out ?_
    rintro r w1 ⟨rfl, u1⟩
    have HC := HTT.out w1 u1
    have HU1 : Hid (Up W w1) := u1
    clear u1 HTT HM
    go_wp2_with fail
    refine Calls.mono HC ?_
    rintro r w2 ⟨rfl, o2, p2⟩
    have HO2 : Hid (Only b W w2) := (Only.up HU1.out).trans o2
    have HP2 : Hid (QS w2 b bt off n c ml ms (i + 1) d) := p2
    clear o2 p2 HC
    go_wp2_with fail
    refine bodyPost_end (v := .tuple #[]) (by simp [results, Tryz.results115, go_sem]) rfl ?_
    rw [HPo.out]
    exact ⟨HO2.out, .inl ⟨by first | rfl | trivial, rfl, HP2.out⟩⟩
  | false =>
    rw [hmk] at HM HPo
    clear HTT hmk
    generalize tk l i = t at *
    go_enter Tryz.func115, Tryz.ntmps115
    go_wp2_with fail
    refine Calls.mono HM.out ?_
    rintro r w1 ⟨rfl, u1⟩
    have HC := HTF.out w1 u1
    have HU1 : Hid (Up W w1) := u1
    clear u1 HTF HM
    go_wp2_with fail
    refine Calls.mono HC ?_
    rintro r w2 ⟨rfl, u2⟩
    have HU2 : Hid (Up W w2) := HU1.out.trans u2
    clear u2 HC
    unfold pnc at *
    go_wp2_with fail
    rw [HPo.out]
    exact ⟨rfl, Only.up HU2.out, .inr ⟨by first | rfl | trivial, rfl⟩⟩
set_option maxRecDepth 100000 in
set_option maxHeartbeats 16000000 in
theorem takeNumber_ (w0 W : World) (b bt off n c ml ms i d : Nat) (l : List Tok) (hE : Ev w0 b bt off n c l) (ho : Only b w0 W) (hi : i < n) (hP : QS W b bt off n c ml ms i d) : Calls Tryz.prog 144 #[.pointer (some ⟨b, 0, none⟩)] W (fun r w' => Only b W w' ∧ (((tk l i).kind = 2 ∧ r = .returned (.int .i64 (tk l i).num) ∧ QS w' b bt off n c ml ms (i + 1) d) ∨ ((tk l i).kind ≠ 2 ∧ r = pnc 22 (tk l i).pos))) := by
  obtain ⟨Post, hPost⟩ : ∃ P : Ending → World → Prop, P = fun r w' => Only b W w' ∧ (((tk l i).kind = 2 ∧ r = .returned (.int .i64 (tk l i).num) ∧ QS w' b bt off n c ml ms (i + 1) d) ∨ ((tk l i).kind ≠ 2 ∧ r = pnc 22 (tk l i).pos)) := ⟨_, rfl⟩
  rw [← hPost]
  have HPo : Hid (Post = fun r w' => Only b W w' ∧ (((tk l i).kind = 2 ∧ r = .returned (.int .i64 (tk l i).num) ∧ QS w' b bt off n c ml ms (i + 1) d) ∨ ((tk l i).kind ≠ 2 ∧ r = pnc 22 (tk l i).pos))) := hPost
  clear hPost
  have HNW : Hid (∀ W2, Up W W2 → Calls Tryz.prog 114 #[.pointer (some ⟨b, 0, none⟩)] W2 fun r w' => r = .returned (.agg #[.int .i8 (tk l i).kind, .string (strOfNums (tk l i).text), .int .i64 (tk l i).num, .int .i64 (tk l i).pos]) ∧ Up W2 w') := fun W2 hu => next_ w0 W2 b bt off n c ml ms i d l hE (ho.trans (Only.up hu)) hi (hP.up hu)
  have HTT : Hid (∀ W2, Up W W2 → Calls Tryz.prog 105 #[.pointer (some ⟨b, 0, none⟩), .bool true] W2 fun r w' => r = .returned (.agg #[.int .i8 (tk l i).kind, .string (strOfNums (tk l i).text), .int .i64 (tk l i).num, .int .i64 (tk l i).pos]) ∧ Only b W2 w' ∧ QS w' b bt off n c ml ms (i + 1) d) := fun W2 hu => take_t w0 W2 b bt off n c ml ms i d l hE (ho.trans (Only.up hu)) hi (hP.up hu)
  have HTF : Hid (∀ W2, Up W W2 → Calls Tryz.prog 105 #[.pointer (some ⟨b, 0, none⟩), .bool false] W2 fun r w' => r = pnc 22 (tk l i).pos ∧ Up W2 w') := fun W2 hu => take_f w0 W2 b bt off n c ml ms i d l hE (ho.trans (Only.up hu)) hi (hP.up hu)
  have f0 := fld0
  have f1 := fld1
  have f2 := fld2
  clear hE ho hP
  generalize tk l i = t at *
  obtain ⟨kd, tx, tn, tp⟩ := t
  simp only at HNW HTT HTF HPo 
  generalize strOfNums tx = st at *
  by_cases hk : kd = 2
  · subst hk
    clear HTF
    go_enter Tryz.func144, Tryz.ntmps144
    go_wp2_with fail
    refine Calls.mono (HNW.out W (Up.refl _)) ?_
    rintro r w1 ⟨rfl, u1⟩
    have HC := HTT.out w1 u1
    have HU1 : Hid (Up W w1) := u1
    clear u1 HTT HNW
    go_wp2_with fail
    refine Calls.mono HC ?_
    rintro r w2 ⟨rfl, o2, p2⟩
    have HO2 : Hid (Only b W w2) := (Only.up HU1.out).trans o2
    have HP2 : Hid (QS w2 b bt off n c ml ms (i + 1) d) := p2
    clear o2 p2 HC
    have HO3 : Hid (Only b W w2) := HO2.out
    have HP3 : Hid (QS w2 b bt off n c ml ms (i + 1) d) := HP2.out
    go_wp2_with fail
    rw [HPo.out]
    exact ⟨HO3.out, .inl ⟨by first | rfl | trivial, rfl, HP3.out⟩⟩
  · have hk2 : (kd == 2) = false := by simpa using hk
    have HK : Hid (kd ≠ 2) := hk
    clear HTT hk
    go_enter Tryz.func144, Tryz.ntmps144
    go_wp2_with fail
    refine Calls.mono (HNW.out W (Up.refl _)) ?_
    rintro r w1 ⟨rfl, u1⟩
    have HC := HTF.out w1 u1
    have HU1 : Hid (Up W w1) := u1
    clear u1 HTF HNW
    go_wp2_with fail
    refine Calls.mono HC ?_
    rintro r w2 ⟨rfl, u2⟩
    have HU2 : Hid (Up W w2) := HU1.out.trans u2
    clear u2 HC
    unfold pnc at *
    go_wp2_with fail
    rw [HPo.out]
    exact ⟨rfl, Only.up HU2.out, .inr ⟨HK.out, rfl⟩⟩
set_option maxRecDepth 100000 in
set_option maxHeartbeats 16000000 in
theorem takeText_ (w0 W : World) (b bt off n c ml ms i d : Nat) (l : List Tok) (hE : Ev w0 b bt off n c l) (ho : Only b w0 W) (hi : i < n) (hP : QS W b bt off n c ml ms i d) (hX : Ex l n) : Calls Tryz.prog 116 #[.pointer (some ⟨b, 0, none⟩)] W (fun r w' => Only b W w' ∧ (((tk l i).kind = 3 ∧ r = .returned (.string (strOfNums (tk l i).text)) ∧ QS w' b bt off n c ml ms (i + 1) d) ∨ ((tk l i).kind ≠ 3 ∧ r = pnc 22 (tk l i).pos))) := by
  obtain ⟨Post, hPost⟩ : ∃ P : Ending → World → Prop, P = fun r w' => Only b W w' ∧ (((tk l i).kind = 3 ∧ r = .returned (.string (strOfNums (tk l i).text)) ∧ QS w' b bt off n c ml ms (i + 1) d) ∨ ((tk l i).kind ≠ 3 ∧ r = pnc 22 (tk l i).pos)) := ⟨_, rfl⟩
  rw [← hPost]
  have HPo : Hid (Post = fun r w' => Only b W w' ∧ (((tk l i).kind = 3 ∧ r = .returned (.string (strOfNums (tk l i).text)) ∧ QS w' b bt off n c ml ms (i + 1) d) ∨ ((tk l i).kind ≠ 3 ∧ r = pnc 22 (tk l i).pos))) := hPost
  clear hPost
  have HNW : Hid (∀ W2, Up W W2 → Calls Tryz.prog 114 #[.pointer (some ⟨b, 0, none⟩)] W2 fun r w' => r = .returned (.agg #[.int .i8 (tk l i).kind, .string (strOfNums (tk l i).text), .int .i64 (tk l i).num, .int .i64 (tk l i).pos]) ∧ Up W2 w') := fun W2 hu => next_ w0 W2 b bt off n c ml ms i d l hE (ho.trans (Only.up hu)) hi (hP.up hu)
  have HTT : Hid (∀ W2, Up W W2 → Calls Tryz.prog 105 #[.pointer (some ⟨b, 0, none⟩), .bool true] W2 fun r w' => r = .returned (.agg #[.int .i8 (tk l i).kind, .string (strOfNums (tk l i).text), .int .i64 (tk l i).num, .int .i64 (tk l i).pos]) ∧ Only b W2 w' ∧ QS w' b bt off n c ml ms (i + 1) d) := fun W2 hu => take_t w0 W2 b bt off n c ml ms i d l hE (ho.trans (Only.up hu)) hi (hP.up hu)
  have HTF : Hid (∀ W2, Up W W2 → Calls Tryz.prog 105 #[.pointer (some ⟨b, 0, none⟩), .bool false] W2 fun r w' => r = pnc 22 (tk l i).pos ∧ Up W2 w') := fun W2 hu => take_f w0 W2 b bt off n c ml ms i d l hE (ho.trans (Only.up hu)) hi (hP.up hu)
  have HCL : Hid (∀ W2, Calls Tryz.prog 131 #[.string (strOfNums (tk l i).text)] W2 fun r w' => r = .returned (.string (strOfNums (tk l i).text)) ∧ Up W2 w') := fun W2 => clone0_ _ W2 (by rw [strOfNums_size]; have := hX.len i hi; omega)
  have f0 := fld0
  have f1 := fld1
  have f2 := fld2
  clear hE ho hP
  generalize tk l i = t at *
  obtain ⟨kd, tx, tn, tp⟩ := t
  simp only at HNW HTT HTF HPo HCL
  generalize strOfNums tx = st at *
  by_cases hk : kd = 3
  · subst hk
    clear HTF
    go_enter Tryz.func116, Tryz.ntmps116
    go_wp2_with fail
    refine Calls.mono (HNW.out W (Up.refl _)) ?_
    rintro r w1 ⟨rfl, u1⟩
    have HC := HTT.out w1 u1
    have HU1 : Hid (Up W w1) := u1
    clear u1 HTT HNW
    go_wp2_with fail
    refine Calls.mono HC ?_
    rintro r w2 ⟨rfl, o2, p2⟩
    have HO2 : Hid (Only b W w2) := (Only.up HU1.out).trans o2
    have HP2 : Hid (QS w2 b bt off n c ml ms (i + 1) d) := p2
    clear o2 p2 HC
    have HC3 := HCL.out w2
    clear HCL
    go_wp2_with fail
    refine Calls.mono HC3 ?_
    rintro r w3 ⟨rfl, u3⟩
    have HO3 : Hid (Only b W w3) := HO2.out.trans (Only.up u3)
    have HP3 : Hid (QS w3 b bt off n c ml ms (i + 1) d) := HP2.out.up u3
    clear u3 HC3
    go_wp2_with fail
    rw [HPo.out]
    exact ⟨HO3.out, .inl ⟨by first | rfl | trivial, rfl, HP3.out⟩⟩
  · have hk2 : (kd == 3) = false := by simpa using hk
    have HK : Hid (kd ≠ 3) := hk
    clear HTT hk
    go_enter Tryz.func116, Tryz.ntmps116
    go_wp2_with fail
    refine Calls.mono (HNW.out W (Up.refl _)) ?_
    rintro r w1 ⟨rfl, u1⟩
    have HC := HTF.out w1 u1
    have HU1 : Hid (Up W w1) := u1
    clear u1 HTF HNW
    go_wp2_with fail
    refine Calls.mono HC ?_
    rintro r w2 ⟨rfl, u2⟩
    have HU2 : Hid (Up W w2) := HU1.out.trans u2
    clear u2 HC
    unfold pnc at *
    go_wp2_with fail
    rw [HPo.out]
    exact ⟨rfl, Only.up HU2.out, .inr ⟨HK.out, rfl⟩⟩
set_option maxRecDepth 100000 in
set_option maxHeartbeats 16000000 in
theorem takeName_ (w0 W : World) (b bt off n c ml ms i d : Nat) (l : List Tok) (hE : Ev w0 b bt off n c l) (ho : Only b w0 W) (hi : i < n) (hP : QS W b bt off n c ml ms i d) (hX : Ex l n) : Calls Tryz.prog 203 #[.pointer (some ⟨b, 0, none⟩)] W (fun r w' => Only b W w' ∧ (((tk l i).kind = 1 ∧ r = .returned (.string (strOfNums (tk l i).text)) ∧ QS w' b bt off n c ml ms (i + 1) d) ∨ ((tk l i).kind ≠ 1 ∧ r = pnc 22 (tk l i).pos))) := by
  obtain ⟨Post, hPost⟩ : ∃ P : Ending → World → Prop, P = fun r w' => Only b W w' ∧ (((tk l i).kind = 1 ∧ r = .returned (.string (strOfNums (tk l i).text)) ∧ QS w' b bt off n c ml ms (i + 1) d) ∨ ((tk l i).kind ≠ 1 ∧ r = pnc 22 (tk l i).pos)) := ⟨_, rfl⟩
  rw [← hPost]
  have HPo : Hid (Post = fun r w' => Only b W w' ∧ (((tk l i).kind = 1 ∧ r = .returned (.string (strOfNums (tk l i).text)) ∧ QS w' b bt off n c ml ms (i + 1) d) ∨ ((tk l i).kind ≠ 1 ∧ r = pnc 22 (tk l i).pos))) := hPost
  clear hPost
  have HNM : Hid (∀ W2, Up W W2 → Calls Tryz.prog 137 #[.pointer (some ⟨b, 0, none⟩)] W2 fun r w' => r = .returned (.string (strOfNums (nm (tk l i)))) ∧ Up W2 w') := fun W2 hu => name_ w0 W2 b bt off n c ml ms i d l hE (ho.trans (Only.up hu)) hi (hP.up hu)
  have HTT : Hid (∀ W2, Up W W2 → Calls Tryz.prog 105 #[.pointer (some ⟨b, 0, none⟩), .bool true] W2 fun r w' => r = .returned (.agg #[.int .i8 (tk l i).kind, .string (strOfNums (tk l i).text), .int .i64 (tk l i).num, .int .i64 (tk l i).pos]) ∧ Only b W2 w' ∧ QS w' b bt off n c ml ms (i + 1) d) := fun W2 hu => take_t w0 W2 b bt off n c ml ms i d l hE (ho.trans (Only.up hu)) hi (hP.up hu)
  have HTF : Hid (∀ W2, Up W W2 → Calls Tryz.prog 105 #[.pointer (some ⟨b, 0, none⟩), .bool false] W2 fun r w' => r = pnc 22 (tk l i).pos ∧ Up W2 w') := fun W2 hu => take_f w0 W2 b bt off n c ml ms i d l hE (ho.trans (Only.up hu)) hi (hP.up hu)
  have HCL : Hid (∀ W2, Calls Tryz.prog 131 #[.string (strOfNums (tk l i).text)] W2 fun r w' => r = .returned (.string (strOfNums (tk l i).text)) ∧ Up W2 w') := fun W2 => clone0_ _ W2 (by rw [strOfNums_size]; have := hX.len i hi; omega)
  have f1 := fld1
  have hnn : (tk l i).kind = 1 → (tk l i).text ≠ [] := fun h e => by
    have h9 := hX.nam i hi h
    rw [e] at h9
    exact absurd h9 (by decide)
  have hem : (strOfNums (nm (tk l i))).toList = [] ↔ nm (tk l i) = [] := nums_nil
  clear hE ho hP
  generalize tk l i = t at *
  obtain ⟨kd, tx, tn, tp⟩ := t
  simp only [nm] at HNM HTT HTF HPo HCL hnn hem
  by_cases hk : kd = 1
  · subst hk
    rw [if_pos rfl] at HNM hem
    have h9 := hnn rfl
    generalize strOfNums tx = st at *
    have q8 : ¬ st.toList = [] := fun e => h9 (hem.1 e)
    have q9 : st.toList.isEmpty = false := by cases hh : st.toList with | nil => exact absurd hh q8 | cons a l => rfl
    clear HTF hnn hem h9
    go_enter Tryz.func203, Tryz.ntmps203
    go_wp2_with fail
    refine Calls.mono (HNM.out W (Up.refl _)) ?_
    rintro r w1 ⟨rfl, u1⟩
    have HC := HTT.out w1 u1
    have HU1 : Hid (Up W w1) := u1
    clear u1 HTT HNM
    go_wp2_with fail
    refine Calls.mono HC ?_
    rintro r w2 ⟨rfl, o2, p2⟩
    have HO2 : Hid (Only b W w2) := (Only.up HU1.out).trans o2
    have HP2 : Hid (QS w2 b bt off n c ml ms (i + 1) d) := p2
    clear o2 p2 HC
    have HC3 := HCL.out w2
    clear HCL
    go_wp2_with fail
    refine Calls.mono HC3 ?_
    rintro r w3 ⟨rfl, u3⟩
    have HO3 : Hid (Only b W w3) := HO2.out.trans (Only.up u3)
    have HP3 : Hid (QS w3 b bt off n c ml ms (i + 1) d) := HP2.out.up u3
    clear u3 HC3
    go_wp2_with fail
    rw [HPo.out]
    exact ⟨HO3.out, .inl ⟨by first | rfl | trivial, rfl, HP3.out⟩⟩
  · rw [if_neg hk] at HNM
    have HK : Hid (kd ≠ 1) := hk
    have e0 : strOfNums [] = ⟨#[]⟩ := rfl
    rw [e0] at HNM
    generalize strOfNums tx = st at *
    clear HTT hnn hem hk
    go_enter Tryz.func203, Tryz.ntmps203
    go_wp2_with fail
    refine Calls.mono (HNM.out W (Up.refl _)) ?_
    rintro r w1 ⟨rfl, u1⟩
    have HC := HTF.out w1 u1
    have HU1 : Hid (Up W w1) := u1
    clear u1 HTF HNM
    go_wp2_with fail
    refine Calls.mono HC ?_
    rintro r w2 ⟨rfl, u2⟩
    have HU2 : Hid (Up W w2) := HU1.out.trans u2
    clear u2 HC
    unfold pnc at *
    go_wp2_with fail
    rw [HPo.out]
    exact ⟨rfl, Only.up HU2.out, .inr ⟨HK.out, rfl⟩⟩
end TP
end Go.Proofs.YtkldllnnocdhbaaGreatDoor
