/-
  The kinds of marks; all kinds.
-/
import Derived.Test.YtgahdppcdeefaaaKj9
namespace Go.Proofs.Ytgahdppcdeefaaa
open Go.RowKit
attribute [local go_sem ↓] Go.wp_at_zero Go.wp_at_succ
namespace TR
set_option maxRecDepth 100000 in
set_option maxHeartbeats 8000000 in
theorem addMarks_ (m : Nat) (w0 w : World) (h : TP w m (tab.take 25)) (hu : Up w0 w) (hb : w0.heap.size ≤ m) : Calls Try.prog 50 #[.map (some m)] w fun e w' => e = .returned (.tuple #[]) ∧ TP w' m (tab.take 40) ∧ Up w0 w' := by
  obtain ⟨Post, hPost⟩ : ∃ P : Ending → World → Prop, P = fun e w' => e = .returned (.tuple #[]) ∧ TP w' m (tab.take 40) ∧ Up w0 w' := ⟨_, rfl⟩
  rw [← hPost]
  have HPo : Hid (Post = fun e w' => e = .returned (.tuple #[]) ∧ TP w' m (tab.take 40) ∧ Up w0 w') := hPost
  clear hPost
  have HTP : Hid (TP w m (tab.take 25)) := h
  have HUP : Hid (Up w0 w) := hu
  have HB : Hid (w0.heap.size ≤ m) := hb
  clear h hu hb
  go_enter Try.func50, Try.ntmps50
  obtain ⟨X0, hX0⟩ : ∃ W9, w.alloc (.cells #[.map (some m)] 46) = W9 := ⟨_, rfl⟩
  have u0 : Up w X0 := by rw [← hX0]; exact (Up.refl _).alloc _
  have HPC : Hid (X0.cell? ⟨w.heap.size, 0, none⟩ = some (.map (some m))) := by unfold Hid; rw [← hX0]; simp only [World.cell?, heap_alloc_new]; rfl
  have HTP : Hid (TP X0 m (tab.take 25)) := HTP.out.up u0
  have HUP : Hid (Up w0 X0) := HUP.out.trans u0
  obtain ⟨Y1, hY1⟩ : ∃ W9, X0.alloc (.cells #[.int .i8 36] 31) = W9 := ⟨_, rfl⟩
  have v1 : Up X0 Y1 := by rw [← hY1]; exact (Up.refl _).alloc _
  have HSO1 : Hid (SO Y1 (.slice (some ⟨X0.heap.size, 0, none⟩) 1 1) [36]) := by
    refine ⟨_, rfl, fun i hi => ?_⟩
    have g9 : Y1.heap[X0.heap.size]? = some (.cells #[.int .i8 36] 31 (0, 0)) := by rw [← hY1]; exact heap_alloc_new _ _
    have hi : i < 1 := hi
    have h9 : i = 0 := by omega
    subst h9
    simp only [World.cell?, g9]; rfl
  have HPC : Hid (Y1.cell? ⟨w.heap.size, 0, none⟩ = some (.map (some m))) := v1.cell HPC.out
  have HTP : Hid (TP Y1 m (tab.take 25)) := HTP.out.up v1
  have HUP : Hid (Up w0 Y1) := HUP.out.trans v1
  go_wp2_with fail
  refine Calls.mono (between_ 1 1 2 _ [36] m w.heap.size (tab.take 25) w0 Y1 HTP.out HPC.out HUP.out HB.out HSO1.out (by decide) (by decide)) ?_
  rintro r Z1 ⟨rfl, htp, hcp, hup⟩
  have HTP : Hid (TP Z1 m (tab.take 26)) := htp
  have HPC : Hid (Z1.cell? ⟨w.heap.size, 0, none⟩ = some (.map (some m))) := hcp _ _ HPC.out
  have HUP : Hid (Up w0 Z1) := hup
  clear htp hcp hup
  obtain ⟨Y2, hY2⟩ : ∃ W9, Z1.alloc (.cells #[.int .i8 37] 31) = W9 := ⟨_, rfl⟩
  have v2 : Up Z1 Y2 := by rw [← hY2]; exact (Up.refl _).alloc _
  have HSO2 : Hid (SO Y2 (.slice (some ⟨Z1.heap.size, 0, none⟩) 1 1) [37]) := by
    refine ⟨_, rfl, fun i hi => ?_⟩
    have g9 : Y2.heap[Z1.heap.size]? = some (.cells #[.int .i8 37] 31 (0, 0)) := by rw [← hY2]; exact heap_alloc_new _ _
    have hi : i < 1 := hi
    have h9 : i = 0 := by omega
    subst h9
    simp only [World.cell?, g9]; rfl
  have HPC : Hid (Y2.cell? ⟨w.heap.size, 0, none⟩ = some (.map (some m))) := v2.cell HPC.out
  have HTP : Hid (TP Y2 m (tab.take 26)) := HTP.out.up v2
  have HUP : Hid (Up w0 Y2) := HUP.out.trans v2
  go_wp2_with fail
  refine Calls.mono (between_ 2 2 3 _ [37] m w.heap.size (tab.take 26) w0 Y2 HTP.out HPC.out HUP.out HB.out HSO2.out (by decide) (by decide)) ?_
  rintro r Z2 ⟨rfl, htp, hcp, hup⟩
  have HTP : Hid (TP Z2 m (tab.take 27)) := htp
  have HPC : Hid (Z2.cell? ⟨w.heap.size, 0, none⟩ = some (.map (some m))) := hcp _ _ HPC.out
  have HUP : Hid (Up w0 Z2) := hup
  clear htp hcp hup
  go_wp2_with fail
  refine Calls.mono (ahead_ 3 34 m w.heap.size (tab.take 27) w0 Z2 HTP.out HPC.out HUP.out HB.out (by decide)) ?_
  rintro r Z3 ⟨rfl, htp, hcp, hup⟩
  have HTP : Hid (TP Z3 m (tab.take 28)) := htp
  have HPC : Hid (Z3.cell? ⟨w.heap.size, 0, none⟩ = some (.map (some m))) := hcp _ _ HPC.out
  have HUP : Hid (Up w0 Z3) := hup
  clear htp hcp hup
  obtain ⟨Y4, hY4⟩ : ∃ W9, Z3.alloc (.cells #[.int .i8 38, .int .i8 39, .int .i8 40, .int .i8 41, .int .i8 42, .int .i8 43] 31) = W9 := ⟨_, rfl⟩
  have v4 : Up Z3 Y4 := by rw [← hY4]; exact (Up.refl _).alloc _
  have HSO4 : Hid (SO Y4 (.slice (some ⟨Z3.heap.size, 0, none⟩) 6 6) [38, 39, 40, 41, 42, 43]) := by
    refine ⟨_, rfl, fun i hi => ?_⟩
    have g9 : Y4.heap[Z3.heap.size]? = some (.cells #[.int .i8 38, .int .i8 39, .int .i8 40, .int .i8 41, .int .i8 42, .int .i8 43] 31 (0, 0)) := by rw [← hY4]; exact heap_alloc_new _ _
    have hi : i < 6 := hi
    have h9 : i = 0 ∨ i = 1 ∨ i = 2 ∨ i = 3 ∨ i = 4 ∨ i = 5 := by omega
    rcases h9 with rfl | rfl | rfl | rfl | rfl | rfl <;> (simp only [World.cell?, g9]; rfl)
  have HPC : Hid (Y4.cell? ⟨w.heap.size, 0, none⟩ = some (.map (some m))) := v4.cell HPC.out
  have HTP : Hid (TP Y4 m (tab.take 28)) := HTP.out.up v4
  have HUP : Hid (Up w0 Y4) := HUP.out.trans v4
  go_wp2_with fail
  refine Calls.mono (between_ 4 5 5 _ [38, 39, 40, 41, 42, 43] m w.heap.size (tab.take 28) w0 Y4 HTP.out HPC.out HUP.out HB.out HSO4.out (by decide) (by decide)) ?_
  rintro r Z4 ⟨rfl, htp, hcp, hup⟩
  have HTP : Hid (TP Z4 m (tab.take 34)) := htp
  have HPC : Hid (Z4.cell? ⟨w.heap.size, 0, none⟩ = some (.map (some m))) := hcp _ _ HPC.out
  have HUP : Hid (Up w0 Z4) := hup
  clear htp hcp hup
  obtain ⟨Y5, hY5⟩ : ∃ W9, Z4.alloc (.cells #[.int .i8 44, .int .i8 45] 31) = W9 := ⟨_, rfl⟩
  have v5 : Up Z4 Y5 := by rw [← hY5]; exact (Up.refl _).alloc _
  have HSO5 : Hid (SO Y5 (.slice (some ⟨Z4.heap.size, 0, none⟩) 2 2) [44, 45]) := by
    refine ⟨_, rfl, fun i hi => ?_⟩
    have g9 : Y5.heap[Z4.heap.size]? = some (.cells #[.int .i8 44, .int .i8 45] 31 (0, 0)) := by rw [← hY5]; exact heap_alloc_new _ _
    have hi : i < 2 := hi
    have h9 : i = 0 ∨ i = 1 := by omega
    rcases h9 with rfl | rfl <;> (simp only [World.cell?, g9]; rfl)
  have HPC : Hid (Y5.cell? ⟨w.heap.size, 0, none⟩ = some (.map (some m))) := v5.cell HPC.out
  have HTP : Hid (TP Y5 m (tab.take 34)) := HTP.out.up v5
  have HUP : Hid (Up w0 Y5) := HUP.out.trans v5
  go_wp2_with fail
  refine Calls.mono (between_ 5 5 6 _ [44, 45] m w.heap.size (tab.take 34) w0 Y5 HTP.out HPC.out HUP.out HB.out HSO5.out (by decide) (by decide)) ?_
  rintro r Z5 ⟨rfl, htp, hcp, hup⟩
  have HTP : Hid (TP Z5 m (tab.take 36)) := htp
  have HPC : Hid (Z5.cell? ⟨w.heap.size, 0, none⟩ = some (.map (some m))) := hcp _ _ HPC.out
  have HUP : Hid (Up w0 Z5) := hup
  clear htp hcp hup
  obtain ⟨Y6, hY6⟩ : ∃ W9, Z5.alloc (.cells #[.int .i8 46, .int .i8 47, .int .i8 48] 31) = W9 := ⟨_, rfl⟩
  have v6 : Up Z5 Y6 := by rw [← hY6]; exact (Up.refl _).alloc _
  have HSO6 : Hid (SO Y6 (.slice (some ⟨Z5.heap.size, 0, none⟩) 3 3) [46, 47, 48]) := by
    refine ⟨_, rfl, fun i hi => ?_⟩
    have g9 : Y6.heap[Z5.heap.size]? = some (.cells #[.int .i8 46, .int .i8 47, .int .i8 48] 31 (0, 0)) := by rw [← hY6]; exact heap_alloc_new _ _
    have hi : i < 3 := hi
    have h9 : i = 0 ∨ i = 1 ∨ i = 2 := by omega
    rcases h9 with rfl | rfl | rfl <;> (simp only [World.cell?, g9]; rfl)
  have HPC : Hid (Y6.cell? ⟨w.heap.size, 0, none⟩ = some (.map (some m))) := v6.cell HPC.out
  have HTP : Hid (TP Y6 m (tab.take 36)) := HTP.out.up v6
  have HUP : Hid (Up w0 Y6) := HUP.out.trans v6
  go_wp2_with fail
  refine Calls.mono (between_ 6 6 7 _ [46, 47, 48] m w.heap.size (tab.take 36) w0 Y6 HTP.out HPC.out HUP.out HB.out HSO6.out (by decide) (by decide)) ?_
  rintro r Z6 ⟨rfl, htp, hcp, hup⟩
  have HTP : Hid (TP Z6 m (tab.take 39)) := htp
  have HPC : Hid (Z6.cell? ⟨w.heap.size, 0, none⟩ = some (.map (some m))) := hcp _ _ HPC.out
  have HUP : Hid (Up w0 Z6) := hup
  clear htp hcp hup
  go_wp2_with fail
  refine Calls.mono (ahead_ 7 35 m w.heap.size (tab.take 39) w0 Z6 HTP.out HPC.out HUP.out HB.out (by decide)) ?_
  rintro r Z7 ⟨rfl, htp, hcp, hup⟩
  have HTP : Hid (TP Z7 m (tab.take 40)) := htp
  have HPC : Hid (Z7.cell? ⟨w.heap.size, 0, none⟩ = some (.map (some m))) := hcp _ _ HPC.out
  have HUP : Hid (Up w0 Z7) := hup
  clear htp hcp hup
  go_wp2_with fail
  refine bodyPost_end (results_none rfl _ _ _) rfl ?_
  rw [HPo.out]
  exact ⟨rfl, HTP.out, HUP.out⟩
theorem run_make0 (w : World) : (Instr.makeMap 46 none).run Try.prog w = .ok (.map (some w.heap.size)) (w.alloc (.map #[] 0)) := by
  simp [Instr.makeMap, newObj, Result.andThen]
  rfl
set_option maxRecDepth 100000 in
set_option maxHeartbeats 8000000 in
theorem kinds_ (w : World) : Calls Try.prog 32 #[] w fun e w' => ∃ m, e = .returned (.map (some m)) ∧ TP w' m tab ∧ Up w w' := by
  obtain ⟨Post, hPost⟩ : ∃ P : Ending → World → Prop, P = fun e w' => ∃ m, e = .returned (.map (some m)) ∧ TP w' m tab ∧ Up w w' := ⟨_, rfl⟩
  rw [← hPost]
  have HPo : Hid (Post = fun e w' => ∃ m, e = .returned (.map (some m)) ∧ TP w' m tab ∧ Up w w') := hPost
  clear hPost
  obtain ⟨X0, hX0⟩ : ∃ W9, w.alloc (.map #[] 0) = W9 := ⟨_, rfl⟩
  have HTP : Hid (TP X0 w.heap.size (tab.take 0)) := by unfold Hid; rw [← hX0]; exact tp_made w
  have HUP : Hid (Up w X0) := by unfold Hid; rw [← hX0]; exact (Up.refl _).alloc _
  have HB : Hid (w.heap.size ≤ w.heap.size) := Nat.le_refl _
  have hmk := run_make0 w
  rw [hX0] at hmk
  have HKV : Hid (KV X0 (tab.getD 0 (0, k0)).2 (.agg #[.int .i64 1, .int .i64 0, .bool false, .int .i64 0, .int .i64 0, .nilFunc, .int .i64 2, .slice none 0 0])) := ⟨.nilFunc, (.slice none 0 0), rfl, rfl, wy_nil _⟩
  go_enter Try.func32, Try.ntmps32
  go_upto_region 2 with (first | (refine wpList_put (w0 := w) (by rfl) (.tmp 2) (.const (.int .i8 1)) (.tmp 3) (by first | exact .inl rfl | exact .inr rfl) w.heap.size (tab.take 0) (tab.take 1) 1 (tab.getD 0 (0, k0)).2 (.agg #[.int .i64 1, .int .i64 0, .bool false, .int .i64 0, .int .i64 0, .nilFunc, .int .i64 2, .slice none 0 0]) (by rfl) (by rfl) (by rfl) HTP.out (by rfl) (by rfl) HKV.out HUP.out HB.out ?_; intro X1 htp hcp hup; have HTP : Hid (TP X1 w.heap.size (tab.take 1)) := htp; have HUP : Hid (Up w X1) := hup; clear htp hcp hup HKV; have HKV : Hid (KV X1 (tab.getD 1 (0, k0)).2 (.agg #[.int .i64 2, .int .i64 0, .bool false, .int .i64 0, .int .i64 0, (.func (.func 47) #[] #[]), .int .i64 4, .slice none 0 0])) := ⟨(.func (.func 47) #[] #[]), (.slice none 0 0), rfl, rfl, wy_nil _⟩) | (refine wpList_put (w0 := w) (by rfl) (.tmp 2) (.const (.int .i8 2)) (.tmp 4) (by first | exact .inl rfl | exact .inr rfl) w.heap.size (tab.take 1) (tab.take 2) 2 (tab.getD 1 (0, k0)).2 (.agg #[.int .i64 2, .int .i64 0, .bool false, .int .i64 0, .int .i64 0, (.func (.func 47) #[] #[]), .int .i64 4, .slice none 0 0]) (by rfl) (by rfl) (by rfl) HTP.out (by rfl) (by rfl) HKV.out HUP.out HB.out ?_; intro X2 htp hcp hup; have HTP : Hid (TP X2 w.heap.size (tab.take 2)) := htp; have HUP : Hid (Up w X2) := hup; clear htp hcp hup HKV; have HKV : Hid (KV X2 (tab.getD 2 (0, k0)).2 (.agg #[.int .i64 4, .int .i64 0, .bool false, .int .i64 0, .int .i64 9223372036854775807, .nilFunc, .int .i64 0, .slice none 0 0])) := ⟨.nilFunc, (.slice none 0 0), rfl, rfl, wy_nil _⟩) | (refine wpList_put (w0 := w) (by rfl) (.tmp 2) (.const (.int .i8 3)) (.tmp 5) (by first | exact .inl rfl | exact .inr rfl) w.heap.size (tab.take 2) (tab.take 3) 3 (tab.getD 2 (0, k0)).2 (.agg #[.int .i64 4, .int .i64 0, .bool false, .int .i64 0, .int .i64 9223372036854775807, .nilFunc, .int .i64 0, .slice none 0 0]) (by rfl) (by rfl) (by rfl) HTP.out (by rfl) (by rfl) HKV.out HUP.out HB.out ?_; intro X3 htp hcp hup; have HTP : Hid (TP X3 w.heap.size (tab.take 3)) := htp; have HUP : Hid (Up w X3) := hup; clear htp hcp hup HKV; have HKV : Hid (KV X3 (tab.getD 3 (0, k0)).2 (.agg #[.int .i64 4, .int .i64 0, .bool false, .int .i64 0, .int .i64 9223372036854775807, .nilFunc, .int .i64 0, .slice none 0 0])) := ⟨.nilFunc, (.slice none 0 0), rfl, rfl, wy_nil _⟩) | (refine wpList_put (w0 := w) (by rfl) (.tmp 2) (.const (.int .i8 4)) (.tmp 6) (by first | exact .inl rfl | exact .inr rfl) w.heap.size (tab.take 3) (tab.take 4) 4 (tab.getD 3 (0, k0)).2 (.agg #[.int .i64 4, .int .i64 0, .bool false, .int .i64 0, .int .i64 9223372036854775807, .nilFunc, .int .i64 0, .slice none 0 0]) (by rfl) (by rfl) (by rfl) HTP.out (by rfl) (by rfl) HKV.out HUP.out HB.out ?_; intro X4 htp hcp hup; have HTP : Hid (TP X4 w.heap.size (tab.take 4)) := htp; have HUP : Hid (Up w X4) := hup; clear htp hcp hup HKV; have HKV : Hid (KV X4 (tab.getD 4 (0, k0)).2 (.agg #[.int .i64 4, .int .i64 0, .bool false, .int .i64 0, .int .i64 9223372036854775807, .nilFunc, .int .i64 0, .slice none 0 0])) := ⟨.nilFunc, (.slice none 0 0), rfl, rfl, wy_nil _⟩) | (refine wpList_put (w0 := w) (by rfl) (.tmp 2) (.const (.int .i8 5)) (.tmp 7) (by first | exact .inl rfl | exact .inr rfl) w.heap.size (tab.take 4) (tab.take 5) 5 (tab.getD 4 (0, k0)).2 (.agg #[.int .i64 4, .int .i64 0, .bool false, .int .i64 0, .int .i64 9223372036854775807, .nilFunc, .int .i64 0, .slice none 0 0]) (by rfl) (by rfl) (by rfl) HTP.out (by rfl) (by rfl) HKV.out HUP.out HB.out ?_; intro X5 htp hcp hup; have HTP : Hid (TP X5 w.heap.size (tab.take 5)) := htp; have HUP : Hid (Up w X5) := hup; clear htp hcp hup HKV; have HKV : Hid (KV X5 (tab.getD 5 (0, k0)).2 (.agg #[.int .i64 4, .int .i64 0, .bool false, .int .i64 0, .int .i64 0, (.func (.func 47) #[] #[]), .int .i64 0, .slice none 0 0])) := ⟨(.func (.func 47) #[] #[]), (.slice none 0 0), rfl, rfl, wy_nil _⟩) | (refine wpList_put (w0 := w) (by rfl) (.tmp 2) (.const (.int .i8 6)) (.tmp 8) (by first | exact .inl rfl | exact .inr rfl) w.heap.size (tab.take 5) (tab.take 6) 6 (tab.getD 5 (0, k0)).2 (.agg #[.int .i64 4, .int .i64 0, .bool false, .int .i64 0, .int .i64 0, (.func (.func 47) #[] #[]), .int .i64 0, .slice none 0 0]) (by rfl) (by rfl) (by rfl) HTP.out (by rfl) (by rfl) HKV.out HUP.out HB.out ?_; intro X6 htp hcp hup; have HTP : Hid (TP X6 w.heap.size (tab.take 6)) := htp; have HUP : Hid (Up w X6) := hup; clear htp hcp hup HKV; obtain ⟨X7, hX7⟩ : ∃ W9, X6.alloc (.cells #[.int .i64 8, .int .i64 0] 54) = W9 := ⟨_, rfl⟩; have gX7 : X7.heap[X6.heap.size]? = some (.cells #[.int .i64 8, .int .i64 0] 54 (0, 0)) := (by rw [← hX7]; exact heap_alloc_new _ _); have uX7 : Up X6 X7 := (by rw [← hX7]; exact (Up.refl _).alloc _); have HTP : Hid (TP X7 w.heap.size (tab.take 6)) := HTP.out.up uX7; have HUP : Hid (Up w X7) := HUP.out.trans uX7; obtain ⟨X8, hX8⟩ : ∃ W9, X7.alloc (.cells #[.int .i64 64, .int .i64 0, .int .i64 8, .int .i64 0] 54) = W9 := ⟨_, rfl⟩; have gX8 : X8.heap[X7.heap.size]? = some (.cells #[.int .i64 64, .int .i64 0, .int .i64 8, .int .i64 0] 54 (0, 0)) := (by rw [← hX8]; exact heap_alloc_new _ _); have uX8 : Up X7 X8 := (by rw [← hX8]; exact (Up.refl _).alloc _); have HTP : Hid (TP X8 w.heap.size (tab.take 6)) := HTP.out.up uX8; have HUP : Hid (Up w X8) := HUP.out.trans uX8; obtain ⟨X9, hX9⟩ : ∃ W9, X8.alloc (.cells #[(.slice (some ⟨X6.heap.size, 0, none⟩) 1 1), (.slice (some ⟨X7.heap.size, 0, none⟩) 2 2)] 77) = W9 := ⟨_, rfl⟩; have gX9 : X9.heap[X8.heap.size]? = some (.cells #[(.slice (some ⟨X6.heap.size, 0, none⟩) 1 1), (.slice (some ⟨X7.heap.size, 0, none⟩) 2 2)] 77 (0, 0)) := (by rw [← hX9]; exact heap_alloc_new _ _); have uX9 : Up X8 X9 := (by rw [← hX9]; exact (Up.refl _).alloc _); have HTP : Hid (TP X9 w.heap.size (tab.take 6)) := HTP.out.up uX9; have HUP : Hid (Up w X9) := HUP.out.trans uX9; have HKV : Hid (KV X9 (tab.getD 6 (0, k0)).2 (.agg #[.int .i64 4, .int .i64 0, .bool false, .int .i64 0, .int .i64 4, .nilFunc, .int .i64 0, (.slice (some ⟨X8.heap.size, 0, none⟩) 2 2)])) := ⟨.nilFunc, (.slice (some ⟨X8.heap.size, 0, none⟩) 2 2), rfl, rfl, wy_two gX9 (((ps_one 8 0 gX7).cp (up_cp uX8)).cp (up_cp uX9)) ((ps_two 64 0 8 0 gX8).cp (up_cp uX9))⟩) | (refine wpList_put (w0 := w) (by rfl) (.tmp 2) (.const (.int .i8 7)) (.tmp 15) (by first | exact .inl rfl | exact .inr rfl) w.heap.size (tab.take 6) (tab.take 7) 7 (tab.getD 6 (0, k0)).2 (.agg #[.int .i64 4, .int .i64 0, .bool false, .int .i64 0, .int .i64 4, .nilFunc, .int .i64 0, (.slice (some ⟨X8.heap.size, 0, none⟩) 2 2)]) (by rfl) (by rfl) (by rfl) HTP.out (by rfl) (by rfl) HKV.out HUP.out HB.out ?_; intro X10 htp hcp hup; have HTP : Hid (TP X10 w.heap.size (tab.take 7)) := htp; have HUP : Hid (Up w X10) := hup; clear htp hcp hup HKV))
  go_wp2_with fail
  refine Calls.mono (addStatements_ w.heap.size w _ HTP.out HUP.out HB.out) ?_
  rintro r Z1 ⟨rfl, htp, hup⟩
  have HTP : Hid (TP Z1 w.heap.size (tab.take 17)) := htp
  have HUP : Hid (Up w Z1) := hup
  clear htp hup
  go_wp2_with fail
  refine Calls.mono (addItems_ w.heap.size w _ HTP.out HUP.out HB.out) ?_
  rintro r Z2 ⟨rfl, htp, hup⟩
  have HTP : Hid (TP Z2 w.heap.size (tab.take 25)) := htp
  have HUP : Hid (Up w Z2) := hup
  clear htp hup
  go_wp2_with fail
  refine Calls.mono (addMarks_ w.heap.size w _ HTP.out HUP.out HB.out) ?_
  rintro r Z3 ⟨rfl, htp, hup⟩
  have HTP : Hid (TP Z3 w.heap.size (tab.take 40)) := htp
  have HUP : Hid (Up w Z3) := hup
  clear htp hup
  go_wp2_with fail
  rw [HPo.out]
  exact ⟨_, rfl, HTP.out, HUP.out⟩
end TR
end Go.Proofs.Ytgahdppcdeefaaa
