/-
  The kinds of statements.
-/
import Derived.Test.YtgahdppcdeefaaaKf9
namespace Go.Proofs.Ytgahdppcdeefaaa
open Go.RowKit
attribute [local go_sem ↓] Go.wp_at_zero Go.wp_at_succ
namespace TR
set_option maxRecDepth 100000 in
set_option maxHeartbeats 8000000 in
theorem addStatements_ (m : Nat) (w0 w : World) (h : TP w m (tab.take 7)) (hu : Up w0 w) (hb : w0.heap.size ≤ m) : Calls Try.prog 48 #[.map (some m)] w fun e w' => e = .returned (.tuple #[]) ∧ TP w' m (tab.take 17) ∧ Up w0 w' := by
  obtain ⟨Post, hPost⟩ : ∃ P : Ending → World → Prop, P = fun e w' => e = .returned (.tuple #[]) ∧ TP w' m (tab.take 17) ∧ Up w0 w' := ⟨_, rfl⟩
  rw [← hPost]
  have HPo : Hid (Post = fun e w' => e = .returned (.tuple #[]) ∧ TP w' m (tab.take 17) ∧ Up w0 w') := hPost
  clear hPost
  have HTP : Hid (TP w m (tab.take 7)) := h
  have HUP : Hid (Up w0 w) := hu
  have HB : Hid (w0.heap.size ≤ m) := hb
  clear h hu hb
  go_enter Try.func48, Try.ntmps48
  obtain ⟨X1, hX1⟩ : ∃ W9, w.alloc (.cells #[.int .i64 64, .int .i64 0] 54) = W9 := ⟨_, rfl⟩
  have gX1 : X1.heap[w.heap.size]? = some (.cells #[.int .i64 64, .int .i64 0] 54 (0, 0)) := by rw [← hX1]; exact heap_alloc_new _ _
  have uX1 : Up w X1 := by rw [← hX1]; exact (Up.refl _).alloc _
  have HTP : Hid (TP X1 m (tab.take 7)) := HTP.out.up uX1
  have HUP : Hid (Up w0 X1) := HUP.out.trans uX1
  have HP1 : Hid (PS X1 (.slice (some ⟨w.heap.size, 0, none⟩) 1 1) [⟨64, 0⟩]) := ps_one 64 0 gX1
  obtain ⟨X2, hX2⟩ : ∃ W9, X1.alloc (.cells #[.int .i64 64, .int .i64 0, .int .i64 8, .int .i64 0] 54) = W9 := ⟨_, rfl⟩
  have gX2 : X2.heap[X1.heap.size]? = some (.cells #[.int .i64 64, .int .i64 0, .int .i64 8, .int .i64 0] 54 (0, 0)) := by rw [← hX2]; exact heap_alloc_new _ _
  have uX2 : Up X1 X2 := by rw [← hX2]; exact (Up.refl _).alloc _
  have HTP : Hid (TP X2 m (tab.take 7)) := HTP.out.up uX2
  have HUP : Hid (Up w0 X2) := HUP.out.trans uX2
  have HP1 : Hid (PS X2 (.slice (some ⟨w.heap.size, 0, none⟩) 1 1) [⟨64, 0⟩]) := HP1.out.cp (up_cp uX2)
  have HP2 : Hid (PS X2 (.slice (some ⟨X1.heap.size, 0, none⟩) 2 2) [⟨64, 0⟩, ⟨8, 0⟩]) := ps_two 64 0 8 0 gX2
  have HKV : Hid (KV X2 (tab.getD 7 (0, k0)).2 (.agg #[.int .i64 8, .int .i64 0, .bool false, .int .i64 1, .int .i64 0, .nilFunc, .int .i64 16, .slice none 0 0])) := ⟨.nilFunc, (.slice none 0 0), rfl, rfl, wy_nil _⟩
  go_upto_region 4 with (refine wpList_put (w0 := w0) (by rfl) (.tmp 10) (.const (.int .i8 10)) (.tmp 11) (by first | exact .inl rfl | exact .inr rfl) m (tab.take 7) (tab.take 8) 10 (tab.getD 7 (0, k0)).2 (.agg #[.int .i64 8, .int .i64 0, .bool false, .int .i64 1, .int .i64 0, .nilFunc, .int .i64 16, .slice none 0 0]) (by rfl) (by rfl) (by rfl) HTP.out (by rfl) (by rfl) HKV.out HUP.out HB.out ?_; intro X3 htp hcp hup; have HTP : Hid (TP X3 m (tab.take 8)) := htp; have HUP : Hid (Up w0 X3) := hup; have HP1 : Hid (PS X3 (.slice (some ⟨w.heap.size, 0, none⟩) 1 1) [⟨64, 0⟩]) := HP1.out.cp hcp; have HP2 : Hid (PS X3 (.slice (some ⟨X1.heap.size, 0, none⟩) 2 2) [⟨64, 0⟩, ⟨8, 0⟩]) := HP2.out.cp hcp; clear htp hcp hup HKV)
  go_wp2_with fail
  refine Calls.mono (freeOr_ none 0 0 X3) ?_
  rintro r X4 ⟨f4, rfl, hf4, uX4⟩
  have HTP : Hid (TP X4 m (tab.take 8)) := HTP.out.up uX4
  have HUP : Hid (Up w0 X4) := HUP.out.trans uX4
  have HP1 : Hid (PS X4 (.slice (some ⟨w.heap.size, 0, none⟩) 1 1) [⟨64, 0⟩]) := HP1.out.cp (up_cp uX4)
  have HP2 : Hid (PS X4 (.slice (some ⟨X1.heap.size, 0, none⟩) 2 2) [⟨64, 0⟩, ⟨8, 0⟩]) := HP2.out.cp (up_cp uX4)
  have HX4 : Hid (TxR X4 (.free []) (.func (.func 65) #[] #[.pointer (some ⟨f4, 0, none⟩)])) := hf4 [] (ss_nil _)
  clear hf4
  obtain ⟨X5, hX5⟩ : ∃ W9, X4.alloc (.cells #[(.slice (some ⟨w.heap.size, 0, none⟩) 1 1)] 77) = W9 := ⟨_, rfl⟩
  have gX5 : X5.heap[X4.heap.size]? = some (.cells #[(.slice (some ⟨w.heap.size, 0, none⟩) 1 1)] 77 (0, 0)) := by rw [← hX5]; exact heap_alloc_new _ _
  have uX5 : Up X4 X5 := by rw [← hX5]; exact (Up.refl _).alloc _
  have HTP : Hid (TP X5 m (tab.take 8)) := HTP.out.up uX5
  have HUP : Hid (Up w0 X5) := HUP.out.trans uX5
  have HP1 : Hid (PS X5 (.slice (some ⟨w.heap.size, 0, none⟩) 1 1) [⟨64, 0⟩]) := HP1.out.cp (up_cp uX5)
  have HP2 : Hid (PS X5 (.slice (some ⟨X1.heap.size, 0, none⟩) 2 2) [⟨64, 0⟩, ⟨8, 0⟩]) := HP2.out.cp (up_cp uX5)
  have HKV : Hid (KV X5 (tab.getD 8 (0, k0)).2 (.agg #[.int .i64 16, .int .i64 0, .bool false, .int .i64 0, .int .i64 0, (.func (.func 65) #[] #[.pointer (some ⟨f4, 0, none⟩)]), .int .i64 0, (.slice (some ⟨X4.heap.size, 0, none⟩) 1 1)])) := ⟨(.func (.func 65) #[] #[.pointer (some ⟨f4, 0, none⟩)]), (.slice (some ⟨X4.heap.size, 0, none⟩) 1 1), rfl, (HX4.out).cp (up_cp uX5), wy_one gX5 HP1.out⟩
  go_upto_region 5 with (refine wpList_put (w0 := w0) (by rfl) (.tmp 12) (.const (.int .i8 11)) (.tmp 16) (by first | exact .inl rfl | exact .inr rfl) m (tab.take 8) (tab.take 9) 11 (tab.getD 8 (0, k0)).2 (.agg #[.int .i64 16, .int .i64 0, .bool false, .int .i64 0, .int .i64 0, (.func (.func 65) #[] #[.pointer (some ⟨f4, 0, none⟩)]), .int .i64 0, (.slice (some ⟨X4.heap.size, 0, none⟩) 1 1)]) (by rfl) (by rfl) (by rfl) HTP.out (by rfl) (by rfl) HKV.out HUP.out HB.out ?_; intro X6 htp hcp hup; have HTP : Hid (TP X6 m (tab.take 9)) := htp; have HUP : Hid (Up w0 X6) := hup; have HP1 : Hid (PS X6 (.slice (some ⟨w.heap.size, 0, none⟩) 1 1) [⟨64, 0⟩]) := HP1.out.cp hcp; have HP2 : Hid (PS X6 (.slice (some ⟨X1.heap.size, 0, none⟩) 2 2) [⟨64, 0⟩, ⟨8, 0⟩]) := HP2.out.cp hcp; clear htp hcp hup HKV)
  obtain ⟨X7, hX7⟩ : ∃ W9, X6.alloc (.cells #[.string ⟨#[115, 101, 108, 102]⟩, .string ⟨#[109, 101]⟩] 9) = W9 := ⟨_, rfl⟩
  have gX7 : X7.heap[X6.heap.size]? = some (.cells #[.string ⟨#[115, 101, 108, 102]⟩, .string ⟨#[109, 101]⟩] 9 (0, 0)) := by rw [← hX7]; exact heap_alloc_new _ _
  have uX7 : Up X6 X7 := by rw [← hX7]; exact (Up.refl _).alloc _
  have HTP : Hid (TP X7 m (tab.take 9)) := HTP.out.up uX7
  have HUP : Hid (Up w0 X7) := HUP.out.trans uX7
  have HP1 : Hid (PS X7 (.slice (some ⟨w.heap.size, 0, none⟩) 1 1) [⟨64, 0⟩]) := HP1.out.cp (up_cp uX7)
  have HP2 : Hid (PS X7 (.slice (some ⟨X1.heap.size, 0, none⟩) 2 2) [⟨64, 0⟩, ⟨8, 0⟩]) := HP2.out.cp (up_cp uX7)
  have HSS : Hid (SS X7 (.slice (some ⟨X6.heap.size, 0, none⟩) 2 2) [wself, wme]) := (ss_two (a := wself) (b := wme) gX7)
  go_wp2_with fail
  refine Calls.mono (freeOr_ (some ⟨X6.heap.size, 0, none⟩) 2 2 X7) ?_
  rintro r X8 ⟨f8, rfl, hf8, uX8⟩
  have HTP : Hid (TP X8 m (tab.take 9)) := HTP.out.up uX8
  have HUP : Hid (Up w0 X8) := HUP.out.trans uX8
  have HP1 : Hid (PS X8 (.slice (some ⟨w.heap.size, 0, none⟩) 1 1) [⟨64, 0⟩]) := HP1.out.cp (up_cp uX8)
  have HP2 : Hid (PS X8 (.slice (some ⟨X1.heap.size, 0, none⟩) 2 2) [⟨64, 0⟩, ⟨8, 0⟩]) := HP2.out.cp (up_cp uX8)
  have HX8 : Hid (TxR X8 (.free [wself, wme]) (.func (.func 65) #[] #[.pointer (some ⟨f8, 0, none⟩)])) := hf8 [wself, wme] HSS.out
  clear hf8
  obtain ⟨X9, hX9⟩ : ∃ W9, X8.alloc (.cells #[(.slice (some ⟨w.heap.size, 0, none⟩) 1 1)] 77) = W9 := ⟨_, rfl⟩
  have gX9 : X9.heap[X8.heap.size]? = some (.cells #[(.slice (some ⟨w.heap.size, 0, none⟩) 1 1)] 77 (0, 0)) := by rw [← hX9]; exact heap_alloc_new _ _
  have uX9 : Up X8 X9 := by rw [← hX9]; exact (Up.refl _).alloc _
  have HTP : Hid (TP X9 m (tab.take 9)) := HTP.out.up uX9
  have HUP : Hid (Up w0 X9) := HUP.out.trans uX9
  have HP1 : Hid (PS X9 (.slice (some ⟨w.heap.size, 0, none⟩) 1 1) [⟨64, 0⟩]) := HP1.out.cp (up_cp uX9)
  have HP2 : Hid (PS X9 (.slice (some ⟨X1.heap.size, 0, none⟩) 2 2) [⟨64, 0⟩, ⟨8, 0⟩]) := HP2.out.cp (up_cp uX9)
  have HKV : Hid (KV X9 (tab.getD 9 (0, k0)).2 (.agg #[.int .i64 16, .int .i64 0, .bool false, .int .i64 0, .int .i64 0, (.func (.func 65) #[] #[.pointer (some ⟨f8, 0, none⟩)]), .int .i64 0, (.slice (some ⟨X8.heap.size, 0, none⟩) 1 1)])) := ⟨(.func (.func 65) #[] #[.pointer (some ⟨f8, 0, none⟩)]), (.slice (some ⟨X8.heap.size, 0, none⟩) 1 1), rfl, (HX8.out).cp (up_cp uX9), wy_one gX9 HP1.out⟩
  go_upto_region 6 with (refine wpList_put (w0 := w0) (by rfl) (.tmp 17) (.const (.int .i8 12)) (.tmp 22) (by first | exact .inl rfl | exact .inr rfl) m (tab.take 9) (tab.take 10) 12 (tab.getD 9 (0, k0)).2 (.agg #[.int .i64 16, .int .i64 0, .bool false, .int .i64 0, .int .i64 0, (.func (.func 65) #[] #[.pointer (some ⟨f8, 0, none⟩)]), .int .i64 0, (.slice (some ⟨X8.heap.size, 0, none⟩) 1 1)]) (by rfl) (by rfl) (by rfl) HTP.out (by rfl) (by rfl) HKV.out HUP.out HB.out ?_; intro X10 htp hcp hup; have HTP : Hid (TP X10 m (tab.take 10)) := htp; have HUP : Hid (Up w0 X10) := hup; have HP1 : Hid (PS X10 (.slice (some ⟨w.heap.size, 0, none⟩) 1 1) [⟨64, 0⟩]) := HP1.out.cp hcp; have HP2 : Hid (PS X10 (.slice (some ⟨X1.heap.size, 0, none⟩) 2 2) [⟨64, 0⟩, ⟨8, 0⟩]) := HP2.out.cp hcp; clear htp hcp hup HKV)
  go_wp2_with fail
  refine Calls.mono (three_ 40 X10) ?_
  rintro r X11 ⟨t11, rfl, ht11, uX11⟩
  have HTP : Hid (TP X11 m (tab.take 10)) := HTP.out.up uX11
  have HUP : Hid (Up w0 X11) := HUP.out.trans uX11
  have HP1 : Hid (PS X11 (.slice (some ⟨w.heap.size, 0, none⟩) 1 1) [⟨64, 0⟩]) := HP1.out.cp (up_cp uX11)
  have HP2 : Hid (PS X11 (.slice (some ⟨X1.heap.size, 0, none⟩) 2 2) [⟨64, 0⟩, ⟨8, 0⟩]) := HP2.out.cp (up_cp uX11)
  have HQ11 : Hid (PS X11 (.slice (some ⟨t11, 0, none⟩) 3 3) [⟨64, 0⟩, ⟨8, 0⟩, ⟨40, 0⟩]) := ht11
  obtain ⟨X12, hX12⟩ : ∃ W9, X11.alloc (.cells #[(.slice (some ⟨X1.heap.size, 0, none⟩) 2 2), (.slice (some ⟨t11, 0, none⟩) 3 3)] 77) = W9 := ⟨_, rfl⟩
  have gX12 : X12.heap[X11.heap.size]? = some (.cells #[(.slice (some ⟨X1.heap.size, 0, none⟩) 2 2), (.slice (some ⟨t11, 0, none⟩) 3 3)] 77 (0, 0)) := by rw [← hX12]; exact heap_alloc_new _ _
  have uX12 : Up X11 X12 := by rw [← hX12]; exact (Up.refl _).alloc _
  have HTP : Hid (TP X12 m (tab.take 10)) := HTP.out.up uX12
  have HUP : Hid (Up w0 X12) := HUP.out.trans uX12
  have HP1 : Hid (PS X12 (.slice (some ⟨w.heap.size, 0, none⟩) 1 1) [⟨64, 0⟩]) := HP1.out.cp (up_cp uX12)
  have HP2 : Hid (PS X12 (.slice (some ⟨X1.heap.size, 0, none⟩) 2 2) [⟨64, 0⟩, ⟨8, 0⟩]) := HP2.out.cp (up_cp uX12)
  have HKV : Hid (KV X12 (tab.getD 10 (0, k0)).2 (.agg #[.int .i64 48, .int .i64 0, .bool false, .int .i64 0, .int .i64 0, .nilFunc, .int .i64 0, (.slice (some ⟨X11.heap.size, 0, none⟩) 2 2)])) := ⟨.nilFunc, (.slice (some ⟨X11.heap.size, 0, none⟩) 2 2), rfl, rfl, wy_two gX12 HP2.out ((HQ11.out).cp (up_cp uX12))⟩
  go_upto_region 7 with (refine wpList_put (w0 := w0) (by rfl) (.tmp 23) (.const (.int .i8 13)) (.tmp 28) (by first | exact .inl rfl | exact .inr rfl) m (tab.take 10) (tab.take 11) 13 (tab.getD 10 (0, k0)).2 (.agg #[.int .i64 48, .int .i64 0, .bool false, .int .i64 0, .int .i64 0, .nilFunc, .int .i64 0, (.slice (some ⟨X11.heap.size, 0, none⟩) 2 2)]) (by rfl) (by rfl) (by rfl) HTP.out (by rfl) (by rfl) HKV.out HUP.out HB.out ?_; intro X13 htp hcp hup; have HTP : Hid (TP X13 m (tab.take 11)) := htp; have HUP : Hid (Up w0 X13) := hup; have HP1 : Hid (PS X13 (.slice (some ⟨w.heap.size, 0, none⟩) 1 1) [⟨64, 0⟩]) := HP1.out.cp hcp; have HP2 : Hid (PS X13 (.slice (some ⟨X1.heap.size, 0, none⟩) 2 2) [⟨64, 0⟩, ⟨8, 0⟩]) := HP2.out.cp hcp; clear htp hcp hup HKV)
  go_wp2_with fail
  refine Calls.mono (freeOr_ none 0 0 X13) ?_
  rintro r X14 ⟨f14, rfl, hf14, uX14⟩
  have HTP : Hid (TP X14 m (tab.take 11)) := HTP.out.up uX14
  have HUP : Hid (Up w0 X14) := HUP.out.trans uX14
  have HP1 : Hid (PS X14 (.slice (some ⟨w.heap.size, 0, none⟩) 1 1) [⟨64, 0⟩]) := HP1.out.cp (up_cp uX14)
  have HP2 : Hid (PS X14 (.slice (some ⟨X1.heap.size, 0, none⟩) 2 2) [⟨64, 0⟩, ⟨8, 0⟩]) := HP2.out.cp (up_cp uX14)
  have HX14 : Hid (TxR X14 (.free []) (.func (.func 65) #[] #[.pointer (some ⟨f14, 0, none⟩)])) := hf14 [] (ss_nil _)
  clear hf14
  obtain ⟨X15, hX15⟩ : ∃ W9, X14.alloc (.cells #[.int .i64 8, .int .i64 0] 54) = W9 := ⟨_, rfl⟩
  have gX15 : X15.heap[X14.heap.size]? = some (.cells #[.int .i64 8, .int .i64 0] 54 (0, 0)) := by rw [← hX15]; exact heap_alloc_new _ _
  have uX15 : Up X14 X15 := by rw [← hX15]; exact (Up.refl _).alloc _
  have HTP : Hid (TP X15 m (tab.take 11)) := HTP.out.up uX15
  have HUP : Hid (Up w0 X15) := HUP.out.trans uX15
  have HP1 : Hid (PS X15 (.slice (some ⟨w.heap.size, 0, none⟩) 1 1) [⟨64, 0⟩]) := HP1.out.cp (up_cp uX15)
  have HP2 : Hid (PS X15 (.slice (some ⟨X1.heap.size, 0, none⟩) 2 2) [⟨64, 0⟩, ⟨8, 0⟩]) := HP2.out.cp (up_cp uX15)
  have HPa : Hid (PS X15 (.slice (some ⟨X14.heap.size, 0, none⟩) 1 1) [⟨8, 0⟩]) := ps_one 8 0 gX15
  obtain ⟨X16, hX16⟩ : ∃ W9, X15.alloc (.cells #[(.slice (some ⟨X14.heap.size, 0, none⟩) 1 1)] 77) = W9 := ⟨_, rfl⟩
  have gX16 : X16.heap[X15.heap.size]? = some (.cells #[(.slice (some ⟨X14.heap.size, 0, none⟩) 1 1)] 77 (0, 0)) := by rw [← hX16]; exact heap_alloc_new _ _
  have uX16 : Up X15 X16 := by rw [← hX16]; exact (Up.refl _).alloc _
  have HTP : Hid (TP X16 m (tab.take 11)) := HTP.out.up uX16
  have HUP : Hid (Up w0 X16) := HUP.out.trans uX16
  have HP1 : Hid (PS X16 (.slice (some ⟨w.heap.size, 0, none⟩) 1 1) [⟨64, 0⟩]) := HP1.out.cp (up_cp uX16)
  have HP2 : Hid (PS X16 (.slice (some ⟨X1.heap.size, 0, none⟩) 2 2) [⟨64, 0⟩, ⟨8, 0⟩]) := HP2.out.cp (up_cp uX16)
  have HKV : Hid (KV X16 (tab.getD 11 (0, k0)).2 (.agg #[.int .i64 16, .int .i64 0, .bool false, .int .i64 0, .int .i64 9223372036854775807, (.func (.func 65) #[] #[.pointer (some ⟨f14, 0, none⟩)]), .int .i64 0, (.slice (some ⟨X15.heap.size, 0, none⟩) 1 1)])) := ⟨(.func (.func 65) #[] #[.pointer (some ⟨f14, 0, none⟩)]), (.slice (some ⟨X15.heap.size, 0, none⟩) 1 1), rfl, ((HX14.out).cp (up_cp uX15)).cp (up_cp uX16), wy_one gX16 ((HPa.out).cp (up_cp uX16))⟩
  go_upto_region 8 with (refine wpList_put (w0 := w0) (by rfl) (.tmp 29) (.const (.int .i8 14)) (.tmp 34) (by first | exact .inl rfl | exact .inr rfl) m (tab.take 11) (tab.take 12) 14 (tab.getD 11 (0, k0)).2 (.agg #[.int .i64 16, .int .i64 0, .bool false, .int .i64 0, .int .i64 9223372036854775807, (.func (.func 65) #[] #[.pointer (some ⟨f14, 0, none⟩)]), .int .i64 0, (.slice (some ⟨X15.heap.size, 0, none⟩) 1 1)]) (by rfl) (by rfl) (by rfl) HTP.out (by rfl) (by rfl) HKV.out HUP.out HB.out ?_; intro X17 htp hcp hup; have HTP : Hid (TP X17 m (tab.take 12)) := htp; have HUP : Hid (Up w0 X17) := hup; have HP1 : Hid (PS X17 (.slice (some ⟨w.heap.size, 0, none⟩) 1 1) [⟨64, 0⟩]) := HP1.out.cp hcp; have HP2 : Hid (PS X17 (.slice (some ⟨X1.heap.size, 0, none⟩) 2 2) [⟨64, 0⟩, ⟨8, 0⟩]) := HP2.out.cp hcp; clear htp hcp hup HKV)
  go_wp2_with fail
  refine Calls.mono (freeOr_ none 0 0 X17) ?_
  rintro r X18 ⟨f18, rfl, hf18, uX18⟩
  have HTP : Hid (TP X18 m (tab.take 12)) := HTP.out.up uX18
  have HUP : Hid (Up w0 X18) := HUP.out.trans uX18
  have HP1 : Hid (PS X18 (.slice (some ⟨w.heap.size, 0, none⟩) 1 1) [⟨64, 0⟩]) := HP1.out.cp (up_cp uX18)
  have HP2 : Hid (PS X18 (.slice (some ⟨X1.heap.size, 0, none⟩) 2 2) [⟨64, 0⟩, ⟨8, 0⟩]) := HP2.out.cp (up_cp uX18)
  have HX18 : Hid (TxR X18 (.free []) (.func (.func 65) #[] #[.pointer (some ⟨f18, 0, none⟩)])) := hf18 [] (ss_nil _)
  clear hf18
  obtain ⟨X19, hX19⟩ : ∃ W9, X18.alloc (.cells #[(.slice (some ⟨X1.heap.size, 0, none⟩) 2 2)] 77) = W9 := ⟨_, rfl⟩
  have gX19 : X19.heap[X18.heap.size]? = some (.cells #[(.slice (some ⟨X1.heap.size, 0, none⟩) 2 2)] 77 (0, 0)) := by rw [← hX19]; exact heap_alloc_new _ _
  have uX19 : Up X18 X19 := by rw [← hX19]; exact (Up.refl _).alloc _
  have HTP : Hid (TP X19 m (tab.take 12)) := HTP.out.up uX19
  have HUP : Hid (Up w0 X19) := HUP.out.trans uX19
  have HP1 : Hid (PS X19 (.slice (some ⟨w.heap.size, 0, none⟩) 1 1) [⟨64, 0⟩]) := HP1.out.cp (up_cp uX19)
  have HP2 : Hid (PS X19 (.slice (some ⟨X1.heap.size, 0, none⟩) 2 2) [⟨64, 0⟩, ⟨8, 0⟩]) := HP2.out.cp (up_cp uX19)
  have HKV : Hid (KV X19 (tab.getD 12 (0, k0)).2 (.agg #[.int .i64 16, .int .i64 0, .bool false, .int .i64 0, .int .i64 0, (.func (.func 65) #[] #[.pointer (some ⟨f18, 0, none⟩)]), .int .i64 0, (.slice (some ⟨X18.heap.size, 0, none⟩) 1 1)])) := ⟨(.func (.func 65) #[] #[.pointer (some ⟨f18, 0, none⟩)]), (.slice (some ⟨X18.heap.size, 0, none⟩) 1 1), rfl, (HX18.out).cp (up_cp uX19), wy_one gX19 HP2.out⟩
  go_upto_region 9 with (refine wpList_put (w0 := w0) (by rfl) (.tmp 35) (.const (.int .i8 15)) (.tmp 39) (by first | exact .inl rfl | exact .inr rfl) m (tab.take 12) (tab.take 13) 15 (tab.getD 12 (0, k0)).2 (.agg #[.int .i64 16, .int .i64 0, .bool false, .int .i64 0, .int .i64 0, (.func (.func 65) #[] #[.pointer (some ⟨f18, 0, none⟩)]), .int .i64 0, (.slice (some ⟨X18.heap.size, 0, none⟩) 1 1)]) (by rfl) (by rfl) (by rfl) HTP.out (by rfl) (by rfl) HKV.out HUP.out HB.out ?_; intro X20 htp hcp hup; have HTP : Hid (TP X20 m (tab.take 13)) := htp; have HUP : Hid (Up w0 X20) := hup; have HP1 : Hid (PS X20 (.slice (some ⟨w.heap.size, 0, none⟩) 1 1) [⟨64, 0⟩]) := HP1.out.cp hcp; have HP2 : Hid (PS X20 (.slice (some ⟨X1.heap.size, 0, none⟩) 2 2) [⟨64, 0⟩, ⟨8, 0⟩]) := HP2.out.cp hcp; clear htp hcp hup HKV)
  go_wp2_with fail
  refine Calls.mono (freeOr_ none 0 0 X20) ?_
  rintro r X21 ⟨f21, rfl, hf21, uX21⟩
  have HTP : Hid (TP X21 m (tab.take 13)) := HTP.out.up uX21
  have HUP : Hid (Up w0 X21) := HUP.out.trans uX21
  have HP1 : Hid (PS X21 (.slice (some ⟨w.heap.size, 0, none⟩) 1 1) [⟨64, 0⟩]) := HP1.out.cp (up_cp uX21)
  have HP2 : Hid (PS X21 (.slice (some ⟨X1.heap.size, 0, none⟩) 2 2) [⟨64, 0⟩, ⟨8, 0⟩]) := HP2.out.cp (up_cp uX21)
  have HX21 : Hid (TxR X21 (.free []) (.func (.func 65) #[] #[.pointer (some ⟨f21, 0, none⟩)])) := hf21 [] (ss_nil _)
  clear hf21
  go_wp2_with fail
  refine Calls.mono (three_ 8 X21) ?_
  rintro r X22 ⟨t22, rfl, ht22, uX22⟩
  have HTP : Hid (TP X22 m (tab.take 13)) := HTP.out.up uX22
  have HUP : Hid (Up w0 X22) := HUP.out.trans uX22
  have HP1 : Hid (PS X22 (.slice (some ⟨w.heap.size, 0, none⟩) 1 1) [⟨64, 0⟩]) := HP1.out.cp (up_cp uX22)
  have HP2 : Hid (PS X22 (.slice (some ⟨X1.heap.size, 0, none⟩) 2 2) [⟨64, 0⟩, ⟨8, 0⟩]) := HP2.out.cp (up_cp uX22)
  have HQ22 : Hid (PS X22 (.slice (some ⟨t22, 0, none⟩) 3 3) [⟨64, 0⟩, ⟨8, 0⟩, ⟨8, 0⟩]) := ht22
  obtain ⟨X23, hX23⟩ : ∃ W9, X22.alloc (.cells #[(.slice (some ⟨X1.heap.size, 0, none⟩) 2 2), (.slice (some ⟨t22, 0, none⟩) 3 3)] 77) = W9 := ⟨_, rfl⟩
  have gX23 : X23.heap[X22.heap.size]? = some (.cells #[(.slice (some ⟨X1.heap.size, 0, none⟩) 2 2), (.slice (some ⟨t22, 0, none⟩) 3 3)] 77 (0, 0)) := by rw [← hX23]; exact heap_alloc_new _ _
  have uX23 : Up X22 X23 := by rw [← hX23]; exact (Up.refl _).alloc _
  have HTP : Hid (TP X23 m (tab.take 13)) := HTP.out.up uX23
  have HUP : Hid (Up w0 X23) := HUP.out.trans uX23
  have HP1 : Hid (PS X23 (.slice (some ⟨w.heap.size, 0, none⟩) 1 1) [⟨64, 0⟩]) := HP1.out.cp (up_cp uX23)
  have HP2 : Hid (PS X23 (.slice (some ⟨X1.heap.size, 0, none⟩) 2 2) [⟨64, 0⟩, ⟨8, 0⟩]) := HP2.out.cp (up_cp uX23)
  have HKV : Hid (KV X23 (tab.getD 13 (0, k0)).2 (.agg #[.int .i64 16, .int .i64 0, .bool false, .int .i64 0, .int .i64 0, (.func (.func 65) #[] #[.pointer (some ⟨f21, 0, none⟩)]), .int .i64 0, (.slice (some ⟨X22.heap.size, 0, none⟩) 2 2)])) := ⟨(.func (.func 65) #[] #[.pointer (some ⟨f21, 0, none⟩)]), (.slice (some ⟨X22.heap.size, 0, none⟩) 2 2), rfl, ((HX21.out).cp (up_cp uX22)).cp (up_cp uX23), wy_two gX23 HP2.out ((HQ22.out).cp (up_cp uX23))⟩
  go_upto_region 10 with (refine wpList_put (w0 := w0) (by rfl) (.tmp 40) (.const (.int .i8 16)) (.tmp 46) (by first | exact .inl rfl | exact .inr rfl) m (tab.take 13) (tab.take 14) 16 (tab.getD 13 (0, k0)).2 (.agg #[.int .i64 16, .int .i64 0, .bool false, .int .i64 0, .int .i64 0, (.func (.func 65) #[] #[.pointer (some ⟨f21, 0, none⟩)]), .int .i64 0, (.slice (some ⟨X22.heap.size, 0, none⟩) 2 2)]) (by rfl) (by rfl) (by rfl) HTP.out (by rfl) (by rfl) HKV.out HUP.out HB.out ?_; intro X24 htp hcp hup; have HTP : Hid (TP X24 m (tab.take 14)) := htp; have HUP : Hid (Up w0 X24) := hup; have HP1 : Hid (PS X24 (.slice (some ⟨w.heap.size, 0, none⟩) 1 1) [⟨64, 0⟩]) := HP1.out.cp hcp; have HP2 : Hid (PS X24 (.slice (some ⟨X1.heap.size, 0, none⟩) 2 2) [⟨64, 0⟩, ⟨8, 0⟩]) := HP2.out.cp hcp; clear htp hcp hup HKV)
  have HKV : Hid (KV X24 (tab.getD 14 (0, k0)).2 (.agg #[.int .i64 16, .int .i64 0, .bool false, .int .i64 0, .int .i64 0, .nilFunc, .int .i64 0, .slice none 0 0])) := ⟨.nilFunc, (.slice none 0 0), rfl, rfl, wy_nil _⟩
  go_upto_region 11 with (refine wpList_put (w0 := w0) (by rfl) (.tmp 47) (.const (.int .i8 17)) (.tmp 48) (by first | exact .inl rfl | exact .inr rfl) m (tab.take 14) (tab.take 15) 17 (tab.getD 14 (0, k0)).2 (.agg #[.int .i64 16, .int .i64 0, .bool false, .int .i64 0, .int .i64 0, .nilFunc, .int .i64 0, .slice none 0 0]) (by rfl) (by rfl) (by rfl) HTP.out (by rfl) (by rfl) HKV.out HUP.out HB.out ?_; intro X25 htp hcp hup; have HTP : Hid (TP X25 m (tab.take 15)) := htp; have HUP : Hid (Up w0 X25) := hup; have HP1 : Hid (PS X25 (.slice (some ⟨w.heap.size, 0, none⟩) 1 1) [⟨64, 0⟩]) := HP1.out.cp hcp; have HP2 : Hid (PS X25 (.slice (some ⟨X1.heap.size, 0, none⟩) 2 2) [⟨64, 0⟩, ⟨8, 0⟩]) := HP2.out.cp hcp; clear htp hcp hup HKV)
  have HKV : Hid (KV X25 (tab.getD 15 (0, k0)).2 (.agg #[.int .i64 16, .int .i64 0, .bool false, .int .i64 0, .int .i64 0, .nilFunc, .int .i64 0, .slice none 0 0])) := ⟨.nilFunc, (.slice none 0 0), rfl, rfl, wy_nil _⟩
  go_upto_region 12 with (refine wpList_put (w0 := w0) (by rfl) (.tmp 49) (.const (.int .i8 18)) (.tmp 50) (by first | exact .inl rfl | exact .inr rfl) m (tab.take 15) (tab.take 16) 18 (tab.getD 15 (0, k0)).2 (.agg #[.int .i64 16, .int .i64 0, .bool false, .int .i64 0, .int .i64 0, .nilFunc, .int .i64 0, .slice none 0 0]) (by rfl) (by rfl) (by rfl) HTP.out (by rfl) (by rfl) HKV.out HUP.out HB.out ?_; intro X26 htp hcp hup; have HTP : Hid (TP X26 m (tab.take 16)) := htp; have HUP : Hid (Up w0 X26) := hup; have HP1 : Hid (PS X26 (.slice (some ⟨w.heap.size, 0, none⟩) 1 1) [⟨64, 0⟩]) := HP1.out.cp hcp; have HP2 : Hid (PS X26 (.slice (some ⟨X1.heap.size, 0, none⟩) 2 2) [⟨64, 0⟩, ⟨8, 0⟩]) := HP2.out.cp hcp; clear htp hcp hup HKV)
  obtain ⟨X27, hX27⟩ : ∃ W9, X26.alloc (.cells #[.string ⟨#[104, 105, 116]⟩, .string ⟨#[100, 114, 97, 119]⟩] 9) = W9 := ⟨_, rfl⟩
  have gX27 : X27.heap[X26.heap.size]? = some (.cells #[.string ⟨#[104, 105, 116]⟩, .string ⟨#[100, 114, 97, 119]⟩] 9 (0, 0)) := by rw [← hX27]; exact heap_alloc_new _ _
  have uX27 : Up X26 X27 := by rw [← hX27]; exact (Up.refl _).alloc _
  have HTP : Hid (TP X27 m (tab.take 16)) := HTP.out.up uX27
  have HUP : Hid (Up w0 X27) := HUP.out.trans uX27
  have HP1 : Hid (PS X27 (.slice (some ⟨w.heap.size, 0, none⟩) 1 1) [⟨64, 0⟩]) := HP1.out.cp (up_cp uX27)
  have HP2 : Hid (PS X27 (.slice (some ⟨X1.heap.size, 0, none⟩) 2 2) [⟨64, 0⟩, ⟨8, 0⟩]) := HP2.out.cp (up_cp uX27)
  have HSS : Hid (SS X27 (.slice (some ⟨X26.heap.size, 0, none⟩) 2 2) [whit, wdraw]) := (ss_two (a := whit) (b := wdraw) gX27)
  go_wp2_with fail
  refine Calls.mono (freeOr_ (some ⟨X26.heap.size, 0, none⟩) 2 2 X27) ?_
  rintro r X28 ⟨f28, rfl, hf28, uX28⟩
  have HTP : Hid (TP X28 m (tab.take 16)) := HTP.out.up uX28
  have HUP : Hid (Up w0 X28) := HUP.out.trans uX28
  have HP1 : Hid (PS X28 (.slice (some ⟨w.heap.size, 0, none⟩) 1 1) [⟨64, 0⟩]) := HP1.out.cp (up_cp uX28)
  have HP2 : Hid (PS X28 (.slice (some ⟨X1.heap.size, 0, none⟩) 2 2) [⟨64, 0⟩, ⟨8, 0⟩]) := HP2.out.cp (up_cp uX28)
  have HX28 : Hid (TxR X28 (.free [whit, wdraw]) (.func (.func 65) #[] #[.pointer (some ⟨f28, 0, none⟩)])) := hf28 [whit, wdraw] HSS.out
  clear hf28
  have HKV : Hid (KV X28 (tab.getD 16 (0, k0)).2 (.agg #[.int .i64 16, .int .i64 0, .bool false, .int .i64 1, .int .i64 0, (.func (.func 65) #[] #[.pointer (some ⟨f28, 0, none⟩)]), .int .i64 64, .slice none 0 0])) := ⟨(.func (.func 65) #[] #[.pointer (some ⟨f28, 0, none⟩)]), (.slice none 0 0), rfl, HX28.out, wy_nil _⟩
  go_wp2_with (refine wpList_put (w0 := w0) (by rfl) (.tmp 51) (.const (.int .i8 19)) (.tmp 54) (by first | exact .inl rfl | exact .inr rfl) m (tab.take 16) (tab.take 17) 19 (tab.getD 16 (0, k0)).2 (.agg #[.int .i64 16, .int .i64 0, .bool false, .int .i64 1, .int .i64 0, (.func (.func 65) #[] #[.pointer (some ⟨f28, 0, none⟩)]), .int .i64 64, .slice none 0 0]) (by rfl) (by rfl) (by rfl) HTP.out (by rfl) (by rfl) HKV.out HUP.out HB.out ?_; intro X29 htp hcp hup; have HTP : Hid (TP X29 m (tab.take 17)) := htp; have HUP : Hid (Up w0 X29) := hup; have HP1 : Hid (PS X29 (.slice (some ⟨w.heap.size, 0, none⟩) 1 1) [⟨64, 0⟩]) := HP1.out.cp hcp; have HP2 : Hid (PS X29 (.slice (some ⟨X1.heap.size, 0, none⟩) 2 2) [⟨64, 0⟩, ⟨8, 0⟩]) := HP2.out.cp hcp; clear htp hcp hup HKV)
  refine bodyPost_end (results_none rfl _ _ _) rfl ?_
  rw [HPo.out]
  exact ⟨rfl, HTP.out, HUP.out⟩
end TR
end Go.Proofs.Ytgahdppcdeefaaa
