/-
  The kinds of marks; all kinds.
-/
import Derived.Test.YtgahdppcdeefaaaKg9
import Derived.Test.YtgahdppcdeefaaaKi9
namespace Go.Proofs.Ytgahdppcdeefaaa
open Go.RowKit
attribute [local go_sem ↓] Go.wp_at_zero Go.wp_at_succ
namespace TR
set_option maxRecDepth 100000 in
set_option maxHeartbeats 8000000 in
theorem ahead_ (r : Nat) (op : Int) (m p : Nat) (T : List (Int × Kd)) (w0 w : World) (h : TP w m T) (hp : w.cell? ⟨p, 0, none⟩ = some (.map (some m))) (hu : Up w0 w) (hb : w0.heap.size ≤ m) (hs : T.lookup op = none) : Calls Try.prog 61 #[.int .i64 (r : Int), .int .i8 op, .pointer (some ⟨p, 0, none⟩)] w fun e w' => e = .returned (.tuple #[]) ∧ TP w' m (T ++ [(op, ahead r)]) ∧ CP w w' ∧ Up w0 w' := by
  obtain ⟨Post, hPost⟩ : ∃ P : Ending → World → Prop, P = fun e w' => e = .returned (.tuple #[]) ∧ TP w' m (T ++ [(op, ahead r)]) ∧ CP w w' ∧ Up w0 w' := ⟨_, rfl⟩
  rw [← hPost]
  have HPo : Hid (Post = fun e w' => e = .returned (.tuple #[]) ∧ TP w' m (T ++ [(op, ahead r)]) ∧ CP w w' ∧ Up w0 w') := hPost
  clear hPost
  obtain ⟨X1, hX1⟩ : ∃ W9, w.alloc (.cells #[.int .i64 64, .int .i64 (r : Int)] 54) = W9 := ⟨_, rfl⟩
  have gX1 : X1.heap[w.heap.size]? = some (.cells #[.int .i64 64, .int .i64 (r : Int)] 54 (0, 0)) := by rw [← hX1]; exact heap_alloc_new _ _
  have uX1 : Up w X1 := by rw [← hX1]; exact (Up.refl _).alloc _
  obtain ⟨X2, hX2⟩ : ∃ W9, X1.alloc (.cells #[(.slice (some ⟨w.heap.size, 0, none⟩) 1 1)] 77) = W9 := ⟨_, rfl⟩
  have gX2 : X2.heap[X1.heap.size]? = some (.cells #[(.slice (some ⟨w.heap.size, 0, none⟩) 1 1)] 77 (0, 0)) := by rw [← hX2]; exact heap_alloc_new _ _
  have uX2 : Up X1 X2 := by rw [← hX2]; exact (Up.refl _).alloc _
  have HKV : Hid (KV X2 (ahead r) (.agg #[.int .i64 64, .int .i64 (r : Int), .bool false, .int .i64 1, .int .i64 0, .nilFunc, .int .i64 0, (.slice (some ⟨X1.heap.size, 0, none⟩) 1 1)])) := ⟨.nilFunc, (.slice (some ⟨X1.heap.size, 0, none⟩) 1 1), rfl, rfl, wy_one gX2 ((ps_one 64 r gX1).cp (up_cp uX2))⟩
  have HTP : Hid (TP X2 m T) := h.up (uX1.trans uX2)
  have HUP : Hid (Up w0 X2) := hu.trans (uX1.trans uX2)
  have HCP : Hid (CP w X2) := up_cp (uX1.trans uX2)
  clear h hu gX1 gX2 uX1 uX2
  go_enter Try.func61, Try.ntmps61
  go_wp2_with (refine wpList_put (w0 := w0) (by rfl) (.tmp 5) (.tmp 6) (.tmp 12) (.inl rfl) m T (T ++ [(op, ahead r)]) op (ahead r) (.agg #[.int .i64 64, .int .i64 (r : Int), .bool false, .int .i64 1, .int .i64 0, .nilFunc, .int .i64 0, (.slice (some ⟨X1.heap.size, 0, none⟩) 1 1)]) (by rfl) (by rfl) (by rfl) HTP.out hs (by rfl) HKV.out HUP.out hb ?_; intro W9 htp hcp hup)
  refine bodyPost_end (results_none rfl _ _ _) rfl ?_
  rw [HPo.out]
  exact ⟨rfl, htp, HCP.out.trans hcp, hup⟩
def SO (W : World) (v : Value) (l : List Int) : Prop := ∃ g, v = .slice (some ⟨g, 0, none⟩) l.length l.length ∧ ∀ i, i < l.length → W.cell? ⟨g, i, none⟩ = some (.int .i8 (l.getD i 0))
set_option maxRecDepth 100000 in
set_option maxHeartbeats 8000000 in
theorem between_ (r a b : Nat) (v : Value) (ops : List Int) (m p : Nat) (T : List (Int × Kd)) (w0 w : World) (h : TP w m T) (hp : w.cell? ⟨p, 0, none⟩ = some (.map (some m))) (hu : Up w0 w) (hb : w0.heap.size ≤ m) (hv : SO w v ops) (hn : ops.length ≤ 1000) (hs : ∀ i, i < ops.length → (T ++ (ops.take i).map fun o => (o, mark r a b)).lookup (ops.getD i 0) = none) : Calls Try.prog 62 #[.int .i64 (r : Int), .int .i64 (a : Int), .int .i64 (b : Int), v, .pointer (some ⟨p, 0, none⟩)] w fun e w' => e = .returned (.tuple #[]) ∧ TP w' m (T ++ ops.map fun o => (o, mark r a b)) ∧ CP w w' ∧ Up w0 w' := by
  obtain ⟨Post, hPost⟩ : ∃ P : Ending → World → Prop, P = fun e w' => e = .returned (.tuple #[]) ∧ TP w' m (T ++ ops.map fun o => (o, mark r a b)) ∧ CP w w' ∧ Up w0 w' := ⟨_, rfl⟩
  rw [← hPost]
  have HPo : Hid (Post = fun e w' => e = .returned (.tuple #[]) ∧ TP w' m (T ++ ops.map fun o => (o, mark r a b)) ∧ CP w w' ∧ Up w0 w') := hPost
  clear hPost
  obtain ⟨g, rfl, hc⟩ := hv
  obtain ⟨n, hN⟩ : ∃ n, n = ops.length := ⟨_, rfl⟩
  have HN : Hid (n = ops.length) := hN
  have HS : Hid (∀ i, i < n → w.cell? ⟨g, i, none⟩ = some (.int .i8 (ops.getD i 0)) ∧ (T ++ (ops.take i).map fun o => (o, mark r a b)).lookup (ops.getD i 0) = none ∧ ops.take (i + 1) = ops.take i ++ [ops.getD i 0]) := fun i hi => ⟨hc i (by omega), hs i (by omega), take_snoc _ _ (by omega)⟩
  have HB : Hid (w0.heap.size ≤ m) := hb
  have HT0 : Hid (TP w m T ∧ Up w0 w) := ⟨h, hu⟩
  have HPC : Hid (w.cell? ⟨p, 0, none⟩ = some (.map (some m))) := hp
  rw [← hN] at hn ⊢
  clear hc hs hb h hu hp hN
  go_enter Try.func62, Try.ntmps62
  go_wp2_with fail
  go_loopw [13] (fun s9 W => ∃ i : Nat, i ≤ n ∧ s9 = .int .i64 i ∧ TP W m (T ++ (ops.take i).map fun o => (o, mark r a b)) ∧ CP w W ∧ Up w0 W) (fun s9 _ => n - (intOf s9).toNat)
  case atStart => exact ⟨0, Nat.zero_le _, rfl, by simpa using HT0.out.1, CP.refl _, HT0.out.2⟩
  case round =>
    obtain ⟨i, hi, rfl, htp, hcp, hup⟩ := hrel
    by_cases hlt : i < n
    · have hlt2 : (i : Int) < (n : Int) := by omega
      have ei : IntKind.i64.wrap ((i : Int) + 1) = ((i + 1 : Nat) : Int) := by rw [IntKind.wrap_i64]; omega
      obtain ⟨hce, hlk, htk⟩ := HS.out i hlt
      have x0 := hcp _ _ hce
      have x1 := hcp _ _ HPC.out
      generalize ops.getD i 0 = op at *
      obtain ⟨T', hT'⟩ : ∃ T', T' = T ++ (ops.take i).map fun o => (o, mark r a b) := ⟨_, rfl⟩
      rw [← hT'] at htp hlk
      have HNX : Hid (T ++ ((ops.take (i + 1)).map fun o => (o, mark r a b)) = T' ++ [(op, mark r a b)]) := by
        unfold Hid
        rw [htk, List.map_append, hT']
        simp
      have hrow : ((a : Int) == (r : Int)) = (r == a) := by
        rw [Bool.eq_iff_iff, beq_iff_eq, beq_iff_eq]
        omega
      obtain ⟨rw9, hrw9⟩ : ∃ x, x = (r == a) := ⟨_, rfl⟩
      have HMK : Hid (mark r a b = ⟨64, r, rw9, 0, 0, .none, 0, [[⟨64, a⟩, ⟨64, b⟩]]⟩) := by rw [hrw9]; rfl
      rw [← hrw9] at hrow
      obtain ⟨X1, hX1⟩ : ∃ W9, wr.alloc (.cells #[.int .i64 64, .int .i64 (a : Int), .int .i64 64, .int .i64 (b : Int)] 54) = W9 := ⟨_, rfl⟩
      have gX1 : X1.heap[wr.heap.size]? = some (.cells #[.int .i64 64, .int .i64 (a : Int), .int .i64 64, .int .i64 (b : Int)] 54 (0, 0)) := by rw [← hX1]; exact heap_alloc_new _ _
      have uX1 : Up wr X1 := by rw [← hX1]; exact (Up.refl _).alloc _
      obtain ⟨X2, hX2⟩ : ∃ W9, X1.alloc (.cells #[(.slice (some ⟨wr.heap.size, 0, none⟩) 2 2)] 77) = W9 := ⟨_, rfl⟩
      have gX2 : X2.heap[X1.heap.size]? = some (.cells #[(.slice (some ⟨wr.heap.size, 0, none⟩) 2 2)] 77 (0, 0)) := by rw [← hX2]; exact heap_alloc_new _ _
      have uX2 : Up X1 X2 := by rw [← hX2]; exact (Up.refl _).alloc _
      have HKV : Hid (KV X2 (mark r a b) (.agg #[.int .i64 64, .int .i64 (r : Int), .bool rw9, .int .i64 0, .int .i64 0, .nilFunc, .int .i64 0, (.slice (some ⟨X1.heap.size, 0, none⟩) 1 1)])) := by
        unfold Hid
        rw [HMK.out]
        exact ⟨.nilFunc, (.slice (some ⟨X1.heap.size, 0, none⟩) 1 1), rfl, rfl, wy_one gX2 ((ps_two 64 a 64 b gX1).cp (up_cp uX2))⟩
      have HTP : Hid (TP X2 m T') := htp.up (uX1.trans uX2)
      have HUP : Hid (Up w0 X2) := hup.trans (uX1.trans uX2)
      have HCP : Hid (CP w X2) := hcp.trans (up_cp (uX1.trans uX2))
      have HLK : Hid (T'.lookup op = none) := hlk
      clear htp hcp hup gX1 gX2 uX1 uX2 hlk htk hce hT' hrw9
      go_wp2_with (refine wpList_put (w0 := w0) (by rfl) (.tmp 17) (.tmp 18) (.tmp 29) (.inl rfl) m T' (T' ++ [(op, mark r a b)]) op (mark r a b) (.agg #[.int .i64 64, .int .i64 (r : Int), .bool rw9, .int .i64 0, .int .i64 0, .nilFunc, .int .i64 0, (.slice (some ⟨X1.heap.size, 0, none⟩) 1 1)]) (by rfl) (by rfl) (by rfl) HTP.out HLK.out (by rfl) HKV.out HUP.out HB.out ?_; intro W9 htp hcp hup; have HZ : Hid (TP W9 m (T' ++ [(op, mark r a b)]) ∧ CP w W9 ∧ Up w0 W9) := ⟨htp, HCP.out.trans hcp, hup⟩; clear htp hcp hup)
      go_roundw
      case rel => exact ⟨i + 1, by omega, by go_num, by rw [HNX.out]; exact HZ.out.1, HZ.out.2.1, HZ.out.2.2⟩
      case measure => simp [intOf]; omega
    · have hlt2 : ¬ (i : Int) < (n : Int) := by omega
      obtain rfl : i = n := by omega
      have HE : Hid (ops.take i = ops) := by unfold Hid; rw [HN.out, List.take_length]
      rw [HE.out] at htp
      have HZ : Hid (TP wr m (T ++ ops.map fun o => (o, mark r a b)) ∧ CP w wr ∧ Up w0 wr) := ⟨htp, hcp, hup⟩
      clear htp hcp hup
      go_wp2_with fail
      refine bodyPost_end (results_none rfl _ _ _) rfl ?_
      rw [HPo.out]
      exact ⟨rfl, HZ.out.1, HZ.out.2.1, HZ.out.2.2⟩
end TR
end Go.Proofs.Ytgahdppcdeefaaa
