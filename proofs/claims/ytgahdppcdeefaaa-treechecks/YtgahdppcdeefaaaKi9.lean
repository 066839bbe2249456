/-
  The kinds of items.
-/
import Derived.Test.YtgahdppcdeefaaaKf9
namespace Go.Proofs.Ytgahdppcdeefaaa
open Go.RowKit
attribute [local go_sem ↓] Go.wp_at_zero Go.wp_at_succ
namespace TR
set_option maxRecDepth 100000 in
set_option maxHeartbeats 8000000 in
theorem addItems_ (m : Nat) (w0 w : World) (h : TP w m (tab.take 17)) (hu : Up w0 w) (hb : w0.heap.size ≤ m) : Calls Try.prog 49 #[.map (some m)] w fun e w' => e = .returned (.tuple #[]) ∧ TP w' m (tab.take 25) ∧ Up w0 w' := by
  obtain ⟨Post, hPost⟩ : ∃ P : Ending → World → Prop, P = fun e w' => e = .returned (.tuple #[]) ∧ TP w' m (tab.take 25) ∧ Up w0 w' := ⟨_, rfl⟩
  rw [← hPost]
  have HPo : Hid (Post = fun e w' => e = .returned (.tuple #[]) ∧ TP w' m (tab.take 25) ∧ Up w0 w') := hPost
  clear hPost
  have HTP : Hid (TP w m (tab.take 17)) := h
  have HUP : Hid (Up w0 w) := hu
  have HB : Hid (w0.heap.size ≤ m) := hb
  clear h hu hb
  go_enter Try.func49, Try.ntmps49
  have HKV : Hid (KV w (tab.getD 17 (0, k0)).2 (.agg #[.int .i64 64, .int .i64 8, .bool false, .int .i64 0, .int .i64 9223372036854775807, .nilFunc, .int .i64 0, .slice none 0 0])) := ⟨.nilFunc, (.slice none 0 0), rfl, rfl, wy_nil _⟩
  go_upto_region 1 with (refine wpList_put (w0 := w0) (by rfl) (.tmp 2) (.const (.int .i8 30)) (.tmp 3) (by first | exact .inl rfl | exact .inr rfl) m (tab.take 17) (tab.take 18) 30 (tab.getD 17 (0, k0)).2 (.agg #[.int .i64 64, .int .i64 8, .bool false, .int .i64 0, .int .i64 9223372036854775807, .nilFunc, .int .i64 0, .slice none 0 0]) (by rfl) (by rfl) (by rfl) HTP.out (by rfl) (by rfl) HKV.out HUP.out HB.out ?_; intro X1 htp hcp hup; have HTP : Hid (TP X1 m (tab.take 18)) := htp; have HUP : Hid (Up w0 X1) := hup; clear htp hcp hup HKV)
  have HKV : Hid (KV X1 (tab.getD 18 (0, k0)).2 (.agg #[.int .i64 64, .int .i64 8, .bool false, .int .i64 0, .int .i64 0, .nilFunc, .int .i64 0, .slice none 0 0])) := ⟨.nilFunc, (.slice none 0 0), rfl, rfl, wy_nil _⟩
  go_upto_region 2 with (refine wpList_put (w0 := w0) (by rfl) (.tmp 4) (.const (.int .i8 31)) (.tmp 5) (by first | exact .inl rfl | exact .inr rfl) m (tab.take 18) (tab.take 19) 31 (tab.getD 18 (0, k0)).2 (.agg #[.int .i64 64, .int .i64 8, .bool false, .int .i64 0, .int .i64 0, .nilFunc, .int .i64 0, .slice none 0 0]) (by rfl) (by rfl) (by rfl) HTP.out (by rfl) (by rfl) HKV.out HUP.out HB.out ?_; intro X2 htp hcp hup; have HTP : Hid (TP X2 m (tab.take 19)) := htp; have HUP : Hid (Up w0 X2) := hup; clear htp hcp hup HKV)
  have HKV : Hid (KV X2 (tab.getD 19 (0, k0)).2 (.agg #[.int .i64 64, .int .i64 8, .bool false, .int .i64 0, .int .i64 0, .nilFunc, .int .i64 0, .slice none 0 0])) := ⟨.nilFunc, (.slice none 0 0), rfl, rfl, wy_nil _⟩
  go_upto_region 3 with (refine wpList_put (w0 := w0) (by rfl) (.tmp 6) (.const (.int .i8 32)) (.tmp 7) (by first | exact .inl rfl | exact .inr rfl) m (tab.take 19) (tab.take 20) 32 (tab.getD 19 (0, k0)).2 (.agg #[.int .i64 64, .int .i64 8, .bool false, .int .i64 0, .int .i64 0, .nilFunc, .int .i64 0, .slice none 0 0]) (by rfl) (by rfl) (by rfl) HTP.out (by rfl) (by rfl) HKV.out HUP.out HB.out ?_; intro X3 htp hcp hup; have HTP : Hid (TP X3 m (tab.take 20)) := htp; have HUP : Hid (Up w0 X3) := hup; clear htp hcp hup HKV)
  obtain ⟨X4, hX4⟩ : ∃ W9, X3.alloc (.cells #[.string ⟨#[115, 101, 108, 102]⟩, .string ⟨#[109, 101]⟩] 9) = W9 := ⟨_, rfl⟩
  have gX4 : X4.heap[X3.heap.size]? = some (.cells #[.string ⟨#[115, 101, 108, 102]⟩, .string ⟨#[109, 101]⟩] 9 (0, 0)) := by rw [← hX4]; exact heap_alloc_new _ _
  have uX4 : Up X3 X4 := by rw [← hX4]; exact (Up.refl _).alloc _
  have HTP : Hid (TP X4 m (tab.take 20)) := HTP.out.up uX4
  have HUP : Hid (Up w0 X4) := HUP.out.trans uX4
  have HSS : Hid (SS X4 (.slice (some ⟨X3.heap.size, 0, none⟩) 2 2) [wself, wme]) := (ss_two (a := wself) (b := wme) gX4)
  go_wp2_with fail
  refine Calls.mono (freeOr_ (some ⟨X3.heap.size, 0, none⟩) 2 2 X4) ?_
  rintro r X5 ⟨f5, rfl, hf5, uX5⟩
  have HTP : Hid (TP X5 m (tab.take 20)) := HTP.out.up uX5
  have HUP : Hid (Up w0 X5) := HUP.out.trans uX5
  have HX5 : Hid (TxR X5 (.free [wself, wme]) (.func (.func 65) #[] #[.pointer (some ⟨f5, 0, none⟩)])) := hf5 [wself, wme] HSS.out
  clear hf5
  have HKV : Hid (KV X5 (tab.getD 20 (0, k0)).2 (.agg #[.int .i64 64, .int .i64 8, .bool false, .int .i64 0, .int .i64 0, (.func (.func 65) #[] #[.pointer (some ⟨f5, 0, none⟩)]), .int .i64 0, .slice none 0 0])) := ⟨(.func (.func 65) #[] #[.pointer (some ⟨f5, 0, none⟩)]), (.slice none 0 0), rfl, HX5.out, wy_nil _⟩
  go_upto_region 4 with (refine wpList_put (w0 := w0) (by rfl) (.tmp 8) (.const (.int .i8 33)) (.tmp 11) (by first | exact .inl rfl | exact .inr rfl) m (tab.take 20) (tab.take 21) 33 (tab.getD 20 (0, k0)).2 (.agg #[.int .i64 64, .int .i64 8, .bool false, .int .i64 0, .int .i64 0, (.func (.func 65) #[] #[.pointer (some ⟨f5, 0, none⟩)]), .int .i64 0, .slice none 0 0]) (by rfl) (by rfl) (by rfl) HTP.out (by rfl) (by rfl) HKV.out HUP.out HB.out ?_; intro X6 htp hcp hup; have HTP : Hid (TP X6 m (tab.take 21)) := htp; have HUP : Hid (Up w0 X6) := hup; clear htp hcp hup HKV)
  obtain ⟨X7, hX7⟩ : ∃ W9, X6.alloc (.cells #[.int .i64 64, .int .i64 8] 54) = W9 := ⟨_, rfl⟩
  have gX7 : X7.heap[X6.heap.size]? = some (.cells #[.int .i64 64, .int .i64 8] 54 (0, 0)) := by rw [← hX7]; exact heap_alloc_new _ _
  have uX7 : Up X6 X7 := by rw [← hX7]; exact (Up.refl _).alloc _
  have HTP : Hid (TP X7 m (tab.take 21)) := HTP.out.up uX7
  have HUP : Hid (Up w0 X7) := HUP.out.trans uX7
  have HPa : Hid (PS X7 (.slice (some ⟨X6.heap.size, 0, none⟩) 1 1) [⟨64, 8⟩]) := ps_one 64 8 gX7
  obtain ⟨X8, hX8⟩ : ∃ W9, X7.alloc (.cells #[(.slice (some ⟨X6.heap.size, 0, none⟩) 1 1)] 77) = W9 := ⟨_, rfl⟩
  have gX8 : X8.heap[X7.heap.size]? = some (.cells #[(.slice (some ⟨X6.heap.size, 0, none⟩) 1 1)] 77 (0, 0)) := by rw [← hX8]; exact heap_alloc_new _ _
  have uX8 : Up X7 X8 := by rw [← hX8]; exact (Up.refl _).alloc _
  have HTP : Hid (TP X8 m (tab.take 21)) := HTP.out.up uX8
  have HUP : Hid (Up w0 X8) := HUP.out.trans uX8
  have HKV : Hid (KV X8 (tab.getD 21 (0, k0)).2 (.agg #[.int .i64 64, .int .i64 8, .bool true, .int .i64 0, .int .i64 0, (.func (.func 60) #[] #[]), .int .i64 0, (.slice (some ⟨X7.heap.size, 0, none⟩) 1 1)])) := ⟨(.func (.func 60) #[] #[]), (.slice (some ⟨X7.heap.size, 0, none⟩) 1 1), rfl, rfl, wy_one gX8 ((HPa.out).cp (up_cp uX8))⟩
  go_upto_region 5 with (refine wpList_put (w0 := w0) (by rfl) (.tmp 12) (.const (.int .i8 49)) (.tmp 16) (by first | exact .inl rfl | exact .inr rfl) m (tab.take 21) (tab.take 22) 49 (tab.getD 21 (0, k0)).2 (.agg #[.int .i64 64, .int .i64 8, .bool true, .int .i64 0, .int .i64 0, (.func (.func 60) #[] #[]), .int .i64 0, (.slice (some ⟨X7.heap.size, 0, none⟩) 1 1)]) (by rfl) (by rfl) (by rfl) HTP.out (by rfl) (by rfl) HKV.out HUP.out HB.out ?_; intro X9 htp hcp hup; have HTP : Hid (TP X9 m (tab.take 22)) := htp; have HUP : Hid (Up w0 X9) := hup; clear htp hcp hup HKV)
  go_wp2_with fail
  refine Calls.mono (freeOr_ none 0 0 X9) ?_
  rintro r X10 ⟨f10, rfl, hf10, uX10⟩
  have HTP : Hid (TP X10 m (tab.take 22)) := HTP.out.up uX10
  have HUP : Hid (Up w0 X10) := HUP.out.trans uX10
  have HX10 : Hid (TxR X10 (.free []) (.func (.func 65) #[] #[.pointer (some ⟨f10, 0, none⟩)])) := hf10 [] (ss_nil _)
  clear hf10
  have HKV : Hid (KV X10 (tab.getD 22 (0, k0)).2 (.agg #[.int .i64 64, .int .i64 8, .bool false, .int .i64 1, .int .i64 0, (.func (.func 65) #[] #[.pointer (some ⟨f10, 0, none⟩)]), .int .i64 192, .slice none 0 0])) := ⟨(.func (.func 65) #[] #[.pointer (some ⟨f10, 0, none⟩)]), (.slice none 0 0), rfl, HX10.out, wy_nil _⟩
  go_upto_region 6 with (refine wpList_put (w0 := w0) (by rfl) (.tmp 17) (.const (.int .i8 50)) (.tmp 19) (by first | exact .inl rfl | exact .inr rfl) m (tab.take 22) (tab.take 23) 50 (tab.getD 22 (0, k0)).2 (.agg #[.int .i64 64, .int .i64 8, .bool false, .int .i64 1, .int .i64 0, (.func (.func 65) #[] #[.pointer (some ⟨f10, 0, none⟩)]), .int .i64 192, .slice none 0 0]) (by rfl) (by rfl) (by rfl) HTP.out (by rfl) (by rfl) HKV.out HUP.out HB.out ?_; intro X11 htp hcp hup; have HTP : Hid (TP X11 m (tab.take 23)) := htp; have HUP : Hid (Up w0 X11) := hup; clear htp hcp hup HKV)
  have HKV : Hid (KV X11 (tab.getD 23 (0, k0)).2 (.agg #[.int .i64 128, .int .i64 0, .bool false, .int .i64 0, .int .i64 3, .nilFunc, .int .i64 0, .slice none 0 0])) := ⟨.nilFunc, (.slice none 0 0), rfl, rfl, wy_nil _⟩
  go_upto_region 7 with (refine wpList_put (w0 := w0) (by rfl) (.tmp 20) (.const (.int .i8 51)) (.tmp 21) (by first | exact .inl rfl | exact .inr rfl) m (tab.take 23) (tab.take 24) 51 (tab.getD 23 (0, k0)).2 (.agg #[.int .i64 128, .int .i64 0, .bool false, .int .i64 0, .int .i64 3, .nilFunc, .int .i64 0, .slice none 0 0]) (by rfl) (by rfl) (by rfl) HTP.out (by rfl) (by rfl) HKV.out HUP.out HB.out ?_; intro X12 htp hcp hup; have HTP : Hid (TP X12 m (tab.take 24)) := htp; have HUP : Hid (Up w0 X12) := hup; clear htp hcp hup HKV)
  have HKV : Hid (KV X12 (tab.getD 24 (0, k0)).2 (.agg #[.int .i64 128, .int .i64 0, .bool false, .int .i64 0, .int .i64 0, (.func (.func 47) #[] #[]), .int .i64 0, .slice none 0 0])) := ⟨(.func (.func 47) #[] #[]), (.slice none 0 0), rfl, rfl, wy_nil _⟩
  go_wp2_with (refine wpList_put (w0 := w0) (by rfl) (.tmp 22) (.const (.int .i8 52)) (.tmp 23) (by first | exact .inl rfl | exact .inr rfl) m (tab.take 24) (tab.take 25) 52 (tab.getD 24 (0, k0)).2 (.agg #[.int .i64 128, .int .i64 0, .bool false, .int .i64 0, .int .i64 0, (.func (.func 47) #[] #[]), .int .i64 0, .slice none 0 0]) (by rfl) (by rfl) (by rfl) HTP.out (by rfl) (by rfl) HKV.out HUP.out HB.out ?_; intro X13 htp hcp hup; have HTP : Hid (TP X13 m (tab.take 25)) := htp; have HUP : Hid (Up w0 X13) := hup; clear htp hcp hup HKV)
  refine bodyPost_end (results_none rfl _ _ _) rfl ?_
  rw [HPo.out]
  exact ⟨rfl, HTP.out, HUP.out⟩
end TR
end Go.Proofs.Ytgahdppcdeefaaa
