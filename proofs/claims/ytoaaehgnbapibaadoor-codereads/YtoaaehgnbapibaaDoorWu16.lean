
/-
  The document's Read: what it answers is what the program's answers.
-/
import Derived.Test.YtoaaehgnbapibaaDoorWt16
namespace Go.Proofs.YtoaaehgnbapibaaDoor
open Go.RowKit
attribute [local go_sem ↓] Go.wp_at_zero Go.wp_at_succ
namespace CD
set_option maxRecDepth 100000 in
set_option maxHeartbeats 16000000 in
theorem rRead_ (v : Value) (B : List Int) (z : Int) (W : World) (hv : BL W v B) (hB : Byt B) (hn : B.length ≤ 4611686018427387904) (hz0 : -9223372036854775808 ≤ z) (hz1 : z ≤ 9223372036854775807) : Calls Tryd.prog 15 #[v, .int .i64 z] W fun e w' => e = .returned (.tuple #[.agg (insv (rd B z).1), .int .i64 (rd B z).2]) ∧ Up W w' := by
  obtain ⟨Post, hPost⟩ : ∃ P : Ending → World → Prop, P = fun e w' => e = .returned (.tuple #[.agg (insv (rd B z).1), .int .i64 (rd B z).2]) ∧ Up W w' := ⟨_, rfl⟩
  rw [← hPost]
  have HPo : Hid (Post = fun e w' => e = .returned (.tuple #[.agg (insv (rd B z).1), .int .i64 (rd B z).2]) ∧ Up W w') := hPost
  clear hPost
  obtain ⟨hz, -⟩ := zero_of_info (P := Tryd.prog) infoIns
  obtain ⟨iI, hiI, y0, y1, y2⟩ := info_parts infoI1
  obtain ⟨ad, c, rfl, hnc, hce⟩ := bl_cells hv
  obtain ⟨n, hN⟩ : ∃ n, n = B.length := ⟨_, rfl⟩
  have HN : Hid (n = B.length) := hN
  rw [← hN] at hn hnc hce ⊢
  have HCE : Hid (n ≠ 0 → ∃ b off, ad = some ⟨b, off, none⟩ ∧ ∀ W', Up W W' → ∀ j, j < n → W'.cell? ⟨b, off + j, none⟩ = some (.int .u8 (B.getD j 0))) := hce
  have HB : Hid (Byt B) := hB
  obtain ⟨W0, hW0⟩ : ∃ W0, W.alloc (.cells (insv zi) 28) = W0 := ⟨_, rfl⟩
  have g6 : W0.heap[W.heap.size]? = some (.cells (insv zi) 28 (0, 0)) := by rw [← hW0]; exact heap_alloc_new _ _
  have HU0 : Hid (Up W W0) := by unfold Hid; rw [← hW0]; exact (Up.refl _).alloc _
  clear hv hB hN hce
  go_enter Tryd.func15, Tryd.ntmps15
  go_upto_region 1 with fail
  try rw [hW0]
  clear hW0 hz
  obtain ⟨r6, hr6⟩ : ∃ r, r = W.heap.size := ⟨_, rfl⟩
  have HR6 : Hid (r6 = W.heap.size) := hr6
  rw [← hr6] at g6 ⊢
  clear hr6
  by_cases hneg : z < 0
  · have HRD : Hid (rd B z = (zi, 1)) := by unfold Hid rd; rw [if_pos (.inl hneg)]
    obtain ⟨W9, hW9⟩ : ∃ W9, W0.setRow r6 (insv zi) = W9 := ⟨_, rfl⟩
    have r9 : W9.heap[r6]? = some (.cells (insv zi) 28 (0, 0)) := by rw [← hW9]; exact setRow_heap _ _ _ _ _ _ g6
    go_wp2_with (first | (refine wpList_buildTo rfl 28 _ rfl (some 20) rfl (insv zi) (by kernel_rfl) ?_) | (refine wpList_store_row rfl 28 (.tmp 4) (.tmp 20) rfl r6 (insv zi) rfl rfl 28 (insv zi) g6 sizeIns rfl (insv_one _) ?_; refine wpList_world hW9 ?_))
    refine bodyPost_ret (v := .tuple #[.agg (insv zi), .int .i64 1]) (res_c1 (p := 4) (q := 5) (ty := 28) rfl _ _ r6 28 (insv zi) (0, 0) _ (.int .i64 1) rfl rfl r9 Tryd.underlying28 rfl sizeIns) rfl ?_
    rw [HPo.out]
    refine ⟨by rw [HRD.out], ?_⟩
    rw [← hW9]
    exact up_setRow HU0.out (by rw [HR6.out]; exact Nat.le_refl _) _
  by_cases hbey : (n : Int) ≤ z
  · have HRD : Hid (rd B z = (zi, 1)) := by unfold Hid rd; rw [if_pos (.inr (by rw [← HN.out]; exact hbey))]
    have hbey2 : ¬ z < (n : Int) := by omega
    obtain ⟨W9, hW9⟩ : ∃ W9, W0.setRow r6 (insv zi) = W9 := ⟨_, rfl⟩
    have r9 : W9.heap[r6]? = some (.cells (insv zi) 28 (0, 0)) := by rw [← hW9]; exact setRow_heap _ _ _ _ _ _ g6
    go_wp2_with (first | (refine wpList_buildTo rfl 28 _ rfl (some 20) rfl (insv zi) (by kernel_rfl) ?_) | (refine wpList_store_row rfl 28 (.tmp 4) (.tmp 20) rfl r6 (insv zi) rfl rfl 28 (insv zi) g6 sizeIns rfl (insv_one _) ?_; refine wpList_world hW9 ?_))
    refine bodyPost_ret (v := .tuple #[.agg (insv zi), .int .i64 1]) (res_c1 (p := 4) (q := 5) (ty := 28) rfl _ _ r6 28 (insv zi) (0, 0) _ (.int .i64 1) rfl rfl r9 Tryd.underlying28 rfl sizeIns) rfl ?_
    rw [HPo.out]
    refine ⟨by rw [HRD.out], ?_⟩
    rw [← hW9]
    exact up_setRow HU0.out (by rw [HR6.out]; exact Nat.le_refl _) _
  obtain ⟨p, rfl⟩ : ∃ p : Nat, z = (p : Int) := ⟨z.toNat, by omega⟩
  have hpn : p < n := by omega
  have hpn2 : (p : Int) < (n : Int) := by omega
  obtain ⟨b, off, rfl, hce⟩ := HCE.out (by omega)
  obtain ⟨d, hd, hd2⟩ : ∃ d : Nat, (d : Int) = B.getD p 0 ∧ d < 256 := ⟨(B.getD p 0).toNat, by have := HB.out.at p; omega, by have := HB.out.at p; omega⟩
  have hx := hce W0 HU0.out p hpn
  rw [← hd] at hx
  have HKO : Hid (ko B p = knd d) := by unfold Hid ko; rw [← hd, Int.toNat_natCast]
  have HD : Hid ((d : Int) = B.getD p 0) := hd
  have HCB : Hid (∀ W', Up W W' → ∀ j, j < n → W'.cell? ⟨b, off + j, none⟩ = some (.int .u8 (B.getD j 0))) := hce
  have HWD : Hid _ := Widths_ d hd2 W0
  have HSZ : Hid _ := rSize_ d hd2
  have HK4 : Hid (knd d ≤ 4) := (rwo_nam d).2.1
  have HZN : Hid (¬ ((p : Int) < 0 ∨ (B.length : Int) ≤ (p : Int))) := by
    unfold Hid
    rw [← HN.out]
    omega
  unfold WdQ at HWD
  generalize hK : knd d = k at HWD HSZ HKO HK4
  clear hK hd hce
  go_wp2_with fail
  refine Calls.mono HWD.out ?_
  rintro e1 W1 ⟨vw, rfl, hrow, u1⟩
  have g6b : W1.heap[r6]? = some (.cells (insv zi) 28 (0, 0)) := u1.heap g6
  have HU1 : Hid (Up W W1) := HU0.out.trans u1
  obtain ⟨wa, wc, rfl⟩ := row_val hrow
  have HRO : Hid _ := hrow
  generalize hwl : (wds k).length = wl at HRO ⊢
  have HWL : Hid ((wds k).length = wl) := hwl
  clear hwl hrow u1 g6 HWD hx
  by_cases hk0 : k = 0
  · have HRD : Hid (rd B (p : Int) = (zi, 40)) := by
      unfold Hid rd
      rw [if_neg HZN.out, if_pos (by rw [Int.toNat_natCast, HKO.out]; exact hk0)]
    rw [show decide (k ≠ 0) = false from decide_eq_false (fun h => h hk0)]
    obtain ⟨W9, hW9⟩ : ∃ W9, W1.setRow r6 (insv zi) = W9 := ⟨_, rfl⟩
    have r9 : W9.heap[r6]? = some (.cells (insv zi) 28 (0, 0)) := by rw [← hW9]; exact setRow_heap _ _ _ _ _ _ g6b
    go_wp2_with (first | (refine wpList_buildTo rfl 28 _ rfl (some 31) rfl (insv zi) (by kernel_rfl) ?_) | (refine wpList_store_row rfl 28 (.tmp 4) (.tmp 31) rfl r6 (insv zi) rfl rfl 28 (insv zi) g6b sizeIns rfl (insv_one _) ?_; refine wpList_world hW9 ?_))
    refine bodyPost_ret (v := .tuple #[.agg (insv zi), .int .i64 40]) (res_c1 (p := 4) (q := 5) (ty := 28) rfl _ _ r6 28 (insv zi) (0, 0) _ (.int .i64 40) rfl rfl r9 Tryd.underlying28 rfl sizeIns) rfl ?_
    rw [HPo.out]
    refine ⟨by rw [HRD.out], ?_⟩
    rw [← hW9]
    exact up_setRow HU1.out (by rw [HR6.out]; exact Nat.le_refl _) _
  rw [show decide (k ≠ 0) = true from decide_eq_true hk0]
  have hx := HCB.out W1 HU1.out p hpn
  rw [← HD.out] at hx
  go_wp2_with fail
  refine Calls.mono (HSZ.out W1) ?_
  rintro e2 W2 ⟨rfl, u2⟩
  have g6c : W2.heap[r6]? = some (.cells (insv zi) 28 (0, 0)) := u2.heap g6b
  have HU2 : Hid (Up W W2) := HU1.out.trans u2
  have hs5 := siz_le k
  have e1 : IntKind.i64.wrap ((p : Int) + ((siz k : Nat) : Int)) = (p : Int) + (siz k : Int) := by rw [IntKind.wrap_i64]; omega
  by_cases hlen : n - p < siz k
  · have hlen2 : (n : Int) < (p : Int) + ((siz k : Nat) : Int) := by omega
    have HRD : Hid (rd B (p : Int) = (zi, 41)) := by
      unfold Hid rd
      rw [if_neg HZN.out, if_neg (by rw [Int.toNat_natCast, HKO.out]; exact hk0), if_pos (by rw [Int.toNat_natCast, HKO.out, ← HN.out]; exact hlen)]
    generalize siz k = sz at hlen hlen2 e1 hs5
    obtain ⟨W9, hW9⟩ : ∃ W9, W2.setRow r6 (insv zi) = W9 := ⟨_, rfl⟩
    have r9 : W9.heap[r6]? = some (.cells (insv zi) 28 (0, 0)) := by rw [← hW9]; exact setRow_heap _ _ _ _ _ _ g6c
    go_wp2_with (first | (refine wpList_buildTo rfl 28 _ rfl (some 42) rfl (insv zi) (by kernel_rfl) ?_) | (refine wpList_store_row rfl 28 (.tmp 4) (.tmp 42) rfl r6 (insv zi) rfl rfl 28 (insv zi) g6c sizeIns rfl (insv_one _) ?_; refine wpList_world hW9 ?_))
    refine bodyPost_ret (v := .tuple #[.agg (insv zi), .int .i64 41]) (res_c1 (p := 4) (q := 5) (ty := 28) rfl _ _ r6 28 (insv zi) (0, 0) _ (.int .i64 41) rfl rfl r9 Tryd.underlying28 rfl sizeIns) rfl ?_
    rw [HPo.out]
    refine ⟨by rw [HRD.out], ?_⟩
    rw [← hW9]
    exact up_setRow HU2.out (by rw [HR6.out]; exact Nat.le_refl _) _
  have hlen2 : ¬ (n : Int) < (p : Int) + ((siz k : Nat) : Int) := by omega
  have HRD : Hid (rd B (p : Int) = (⟨(p : Int), (d : Int), (opn B p k).1, (opn B p k).2.1, (opn B p k).2.2⟩, 0)) := by
    unfold Hid rd
    rw [if_neg HZN.out, if_neg (by rw [Int.toNat_natCast, HKO.out]; exact hk0), if_neg (by rw [Int.toNat_natCast, HKO.out, ← HN.out]; exact hlen), Int.toNat_natCast, HKO.out, HD.out]
  have hk4 : k = 1 ∨ k = 2 ∨ k = 3 ∨ k = 4 := by have := HK4.out; omega
  have HU12 : Hid (Up W1 W2) := u2
  have HBA : Hid (∀ j, 0 ≤ B.getD j 0 ∧ B.getD j 0 < 256) := HB.out.at
  have ep : IntKind.i64.wrap ((p : Int) + 1) = ((p + 1 : Nat) : Int) := by rw [IntKind.wrap_i64]; omega
  clear HKO HK4 HZN HB hx g6b u2
  rcases hk4 with hk | hk | hk | hk
  · subst hk
    have hsz : siz 1 = 1 := rfl
    have hwl : wl = 0 := by rw [← HWL.out]; rfl
    subst hwl
    rw [hsz] at hlen hlen2 e1
    have HQ9 : Hid (opn B p 1 = (0, 0, 0)) := rfl
    go_upto_region 11 with fail
    go_wp2_with fail
    go_loopw [8, 9, 10] (fun s8 s9 s10 V => s10 = .int .i64 0 ∧ s8 = .slice none 0 0 ∧ s9 = .int .i64 ((p + 1 : Nat) : Int) ∧ W2 = V) (fun _ _ _ _ => 0)
    case atStart => exact ⟨rfl, rfl, by first | rfl | (rw [ep]), rfl⟩
    case round =>
      obtain ⟨rfl, rfl, rfl, rfl⟩ := hrel
      have G6V := g6c
      have hx := HCB.out W2 HU2.out p hpn
      rw [← HD.out] at hx
      have HIN : Hid _ := instr0_ (p : Int) d 0 none W2
      have HUZ : Hid (Up W W2) := HU2.out
      have g6d : W2.heap[r6]? = some (.cells (insv zi) 28 (0, 0)) := G6V
      clear G6V
      go_wp2_with fail
      refine Calls.mono HIN.out ?_
      rintro e9 WZ ⟨rfl, uz⟩
      have g6z : WZ.heap[r6]? = some (.cells (insv zi) 28 (0, 0)) := uz.heap g6d
      obtain ⟨WA, hWA⟩ : ∃ X, WZ.setRow r6 #[.int .i64 (p : Int), .int .u8 (d : Int), .int .i64 0, .int .i64 0, .int .i64 0] = X := ⟨_, rfl⟩
      have ra : WA.heap[r6]? = some (.cells #[.int .i64 (p : Int), .int .u8 (d : Int), .int .i64 0, .int .i64 0, .int .i64 0] 28 (0, 0)) := by rw [← hWA]; exact setRow_heap _ _ _ _ _ _ g6z
      go_wp2_with (first | (refine wpList_store_row rfl 28 (.tmp 4) (.tmp 86) rfl r6 #[.int .i64 (p : Int), .int .u8 (d : Int), .int .i64 0, .int .i64 0, .int .i64 0] rfl rfl 28 (insv zi) g6z sizeIns rfl (by simp [Value.oneCell']) ?_; refine wpList_world hWA ?_))
      refine bodyPost_ret (v := .tuple #[.agg #[.int .i64 (p : Int), .int .u8 (d : Int), .int .i64 0, .int .i64 0, .int .i64 0], .int .i64 0]) (res_c1 (p := 4) (q := 5) (ty := 28) rfl _ _ r6 28 #[.int .i64 (p : Int), .int .u8 (d : Int), .int .i64 0, .int .i64 0, .int .i64 0] (0, 0) _ (.int .i64 0) rfl rfl ra Tryd.underlying28 rfl sizeIns) rfl ?_
      rw [HPo.out]
      refine ⟨by rw [HRD.out, HQ9.out]; rfl, ?_⟩
      rw [← hWA]
      exact up_setRow (HUZ.out.trans uz) (by rw [HR6.out]; exact Nat.le_refl _) _
  · subst hk
    have hsz : siz 2 = 2 := rfl
    have hwl : wl = 1 := by rw [← HWL.out]; rfl
    subst hwl
    rw [hsz] at hlen hlen2 e1
    have HQ9 : Hid (opn B p 2 = ((B.getD (p + 1) 0), 0, 0)) := rfl
    obtain ⟨gw, wcx, -, -, hwa⟩ := row_some HRO.out (by decide)
    simp only [Value.slice.injEq] at hwa
    obtain ⟨rfl, -, rfl⟩ := hwa
    have HW0 : Hid (W1.cell? ⟨gw, 0, none⟩ = some (.int .i64 1)) := by
      have h9 := World.ownsRow.cells HRO.out (g := gw) rfl 0 (.int .i64 1) rfl
      unfold Hid
      simpa [Addr.add] using h9
    go_upto_region 11 with fail
    go_wp2_with fail
    go_loopw [8, 9, 10] (fun s8 s9 s10 V => ∃ (j q : Nat) (sa : Option Addr) (sc : Nat), j ≤ 1 ∧ s10 = .int .i64 (j : Int) ∧ s9 = .int .i64 (q : Int) ∧ s8 = .slice sa j sc ∧ (j = 0 → q = p + 1) ∧ (j = 1 → q = p + 2) ∧ V.ownsRow W2.heap.size 3 1 (.slice sa j sc) j (ivl (([(B.getD (p + 1) 0)] : List Int).take j)) ∧ Up W2 V) (fun _ _ s10 _ => 1 - (intOf s10).toNat)
    case atStart => exact ⟨0, p + 1, none, 0, by omega, rfl, by first | rfl | (rw [ep]), rfl, fun h => by omega, fun h => by omega, World.ownsRow_nil _ _ _ _, Up.refl _⟩
    case round =>
      obtain ⟨j, q, sa, sc, hj, rfl, rfl, rfl, q0, q1, hrw, hup⟩ := hrel
      have HRW : Hid (wr.ownsRow W2.heap.size 3 1 (.slice sa j sc) j (ivl (([(B.getD (p + 1) 0)] : List Int).take j))) := hrw
      have HUV : Hid (Up W2 wr) := hup
      clear hrw hup
      have hj4 : j = 0 ∨ j = 1 := by omega
      rcases hj4 with hj4 | hj4
      · subst hj4
        have hq : q = p + 1 := q0 rfl
        have cw : wr.cell? ⟨gw, 0, none⟩ = some (.int .i64 1) := (HU12.out.trans HUV.out).cell HW0.out
        obtain ⟨xa, hxa⟩ : ∃ x, x = (B.getD (p + 1) 0) := ⟨_, rfl⟩
        have cb0 : wr.cell? ⟨b, off + q, none⟩ = some (.int .u8 xa) := by rw [hq, hxa]; exact HCB.out wr (HU2.out.trans HUV.out) (p + 1) (by omega)
        obtain ⟨v0, v1⟩ := HBA.out (p + 1)
        rw [← hxa] at v0 v1
        have lt1 : (((0 : Nat)) : Int) < 1 := by omega
        have lt2 : (q : Int) < (n : Int) := by omega
        have eq : IntKind.i64.wrap ((q : Int) + 1) = ((q + 1 : Nat) : Int) := by rw [IntKind.wrap_i64]; omega
        have ew : IntKind.i64.wrap xa = xa := by rw [IntKind.wrap_i64]; omega
        have HXA : Hid (xa = (B.getD (p + 1) 0)) := hxa
        have HQE : Hid (q = p + 1) := hq
        clear hq hxa
        have HMW : Hid (∀ q u, [.int .i64 xa][q]? = some u → (wr.alloc (.cells #[.int .i64 xa] 3)).cell? ((⟨wr.heap.size, 0, none⟩ : Addr).add q) = some u) := World.news_of_block (cs := #[.int .i64 xa]) (t := 3) (fr := (0, 0)) (heap_alloc_new wr _)
        have HRV : Hid ((wr.alloc (.cells #[.int .i64 xa] 3)).ownsRow W2.heap.size 3 1 (.slice sa 0 sc) 0 (ivl (([(B.getD (p + 1) 0)] : List Int).take 0))) := row_up HRW.out ((Up.refl _).alloc _)
        have HUA : Hid (Up W2 (wr.alloc (.cells #[.int .i64 xa] 3))) := HUV.out.alloc _
        clear q0 q1
        go_upto_region 17 with (at_builtin; go_loud (refine wpList_append_own _ (by rfl) (.tmp 70) (.tmp 72) 72 (by rfl) W2.heap.size 3 iI _ 1 8 Tryd.underlying72 hiI y0 y1 y2 (by rfl) (by decide) (.slice sa 0 sc) 0 (ivl (([(B.getD (p + 1) 0)] : List Int).take 0)) (by rfl) HRV.out ⟨wr.heap.size, 0, none⟩ 1 1 [.int .i64 xa] (by rfl) (by rfl) HMW.out (by simp [Value.oneCell']) (by unfold maxLen; omega) (by omega) HUA.out.size ?_; intro v' V2 hin hg1 _; have HRN : Hid (V2.ownsRow W2.heap.size 3 1 v' (0 + 1) (ivl (([(B.getD (p + 1) 0)] : List Int).take (0 + 1)))) := (by have h9 := hin; rw [HXA.out] at h9; exact h9); have HUN : Hid (Up W2 V2) := Below.grown HUA.out hg1 HUA.out.size (fun k9 hk => (World.ownsRow.lt HRV.out k9 hk).1); obtain ⟨sa2, sc2, hva⟩ : ∃ a c, v' = Value.slice a (0 + 1) c := row_val hin; subst hva; clear hin hg1 HMW HRV))
        have cw : V2.cell? ⟨gw, 0, none⟩ = some (.int .i64 1) := (HU12.out.trans HUN.out).cell HW0.out
        clear cb0
        go_wp2_with fail
        go_roundw
        case rel => exact ⟨1, q + 1, sa2, sc2, by omega, by first | rfl | go_num, by first | rfl | go_num, rfl, fun h => by omega, fun _ => (by have := HQE.out; omega), HRN.out, HUN.out⟩
        case measure => simp [intOf]
      · subst hj4
        clear q0 q1
        obtain ⟨gl, gc, -, -, hsa⟩ := row_some HRW.out (by decide)
        simp only [Value.slice.injEq] at hsa
        obtain ⟨rfl, -, -⟩ := hsa
        have z0 : wr.cell? ⟨gl, 0, none⟩ = some (.int .i64 (B.getD (p + 1) 0)) := by
          have h9 := HRW.out.cells (g := gl) rfl 0 (.int .i64 (B.getD (p + 1) 0)) rfl
          simpa [Addr.add] using h9
        have G6V : wr.heap[r6]? = some (.cells (insv zi) 28 (0, 0)) := HUV.out.heap g6c
        have hx := HCB.out wr (HU2.out.trans HUV.out) p hpn
        rw [← HD.out] at hx
        have HIN : Hid _ := instr1_ (p : Int) d gl sc _ wr z0
        have HUZ : Hid (Up W wr) := (HU2.out.trans HUV.out)
        have g6d : wr.heap[r6]? = some (.cells (insv zi) 28 (0, 0)) := G6V
        clear G6V
        go_wp2_with fail
        refine Calls.mono HIN.out ?_
        rintro e9 WZ ⟨rfl, uz⟩
        have g6z : WZ.heap[r6]? = some (.cells (insv zi) 28 (0, 0)) := uz.heap g6d
        obtain ⟨WA, hWA⟩ : ∃ X, WZ.setRow r6 #[.int .i64 (p : Int), .int .u8 (d : Int), .int .i64 (B.getD (p + 1) 0), .int .i64 0, .int .i64 0] = X := ⟨_, rfl⟩
        have ra : WA.heap[r6]? = some (.cells #[.int .i64 (p : Int), .int .u8 (d : Int), .int .i64 (B.getD (p + 1) 0), .int .i64 0, .int .i64 0] 28 (0, 0)) := by rw [← hWA]; exact setRow_heap _ _ _ _ _ _ g6z
        go_wp2_with (first | (refine wpList_store_row rfl 28 (.tmp 4) (.tmp 86) rfl r6 #[.int .i64 (p : Int), .int .u8 (d : Int), .int .i64 (B.getD (p + 1) 0), .int .i64 0, .int .i64 0] rfl rfl 28 (insv zi) g6z sizeIns rfl (by simp [Value.oneCell']) ?_; refine wpList_world hWA ?_))
        refine bodyPost_ret (v := .tuple #[.agg #[.int .i64 (p : Int), .int .u8 (d : Int), .int .i64 (B.getD (p + 1) 0), .int .i64 0, .int .i64 0], .int .i64 0]) (res_c1 (p := 4) (q := 5) (ty := 28) rfl _ _ r6 28 #[.int .i64 (p : Int), .int .u8 (d : Int), .int .i64 (B.getD (p + 1) 0), .int .i64 0, .int .i64 0] (0, 0) _ (.int .i64 0) rfl rfl ra Tryd.underlying28 rfl sizeIns) rfl ?_
        rw [HPo.out]
        refine ⟨by rw [HRD.out, HQ9.out]; rfl, ?_⟩
        rw [← hWA]
        exact up_setRow (HUZ.out.trans uz) (by rw [HR6.out]; exact Nat.le_refl _) _
  · subst hk
    have hsz : siz 3 = 3 := rfl
    have hwl : wl = 1 := by rw [← HWL.out]; rfl
    subst hwl
    rw [hsz] at hlen hlen2 e1
    have HQ9 : Hid (opn B p 3 = ((256 * (B.getD (p + 1) 0) + (B.getD (p + 2) 0)), 0, 0)) := rfl
    obtain ⟨gw, wcx, -, -, hwa⟩ := row_some HRO.out (by decide)
    simp only [Value.slice.injEq] at hwa
    obtain ⟨rfl, -, rfl⟩ := hwa
    have HW0 : Hid (W1.cell? ⟨gw, 0, none⟩ = some (.int .i64 2)) := by
      have h9 := World.ownsRow.cells HRO.out (g := gw) rfl 0 (.int .i64 2) rfl
      unfold Hid
      simpa [Addr.add] using h9
    go_upto_region 11 with fail
    go_wp2_with fail
    go_loopw [8, 9, 10] (fun s8 s9 s10 V => ∃ (j q : Nat) (sa : Option Addr) (sc : Nat), j ≤ 1 ∧ s10 = .int .i64 (j : Int) ∧ s9 = .int .i64 (q : Int) ∧ s8 = .slice sa j sc ∧ (j = 0 → q = p + 1) ∧ (j = 1 → q = p + 3) ∧ V.ownsRow W2.heap.size 3 1 (.slice sa j sc) j (ivl (([(256 * (B.getD (p + 1) 0) + (B.getD (p + 2) 0))] : List Int).take j)) ∧ Up W2 V) (fun _ _ s10 _ => 1 - (intOf s10).toNat)
    case atStart => exact ⟨0, p + 1, none, 0, by omega, rfl, by first | rfl | (rw [ep]), rfl, fun h => by omega, fun h => by omega, World.ownsRow_nil _ _ _ _, Up.refl _⟩
    case round =>
      obtain ⟨j, q, sa, sc, hj, rfl, rfl, rfl, q0, q1, hrw, hup⟩ := hrel
      have HRW : Hid (wr.ownsRow W2.heap.size 3 1 (.slice sa j sc) j (ivl (([(256 * (B.getD (p + 1) 0) + (B.getD (p + 2) 0))] : List Int).take j))) := hrw
      have HUV : Hid (Up W2 wr) := hup
      clear hrw hup
      have hj4 : j = 0 ∨ j = 1 := by omega
      rcases hj4 with hj4 | hj4
      · subst hj4
        have hq : q = p + 1 := q0 rfl
        have cw : wr.cell? ⟨gw, 0, none⟩ = some (.int .i64 2) := (HU12.out.trans HUV.out).cell HW0.out
        obtain ⟨xa, hxa⟩ : ∃ x, x = (B.getD (p + 1) 0) := ⟨_, rfl⟩
        have cb0 : wr.cell? ⟨b, off + q, none⟩ = some (.int .u8 xa) := by rw [hq, hxa]; exact HCB.out wr (HU2.out.trans HUV.out) (p + 1) (by omega)
        obtain ⟨v0, v1⟩ := HBA.out (p + 1)
        rw [← hxa] at v0 v1
        have lt1 : (((0 : Nat)) : Int) < 1 := by omega
        have lt2 : (q : Int) < (n : Int) := by omega
        have eq : IntKind.i64.wrap ((q : Int) + 2) = ((q + 2 : Nat) : Int) := by rw [IntKind.wrap_i64]; omega
        have ew : IntKind.i64.wrap xa = xa := by rw [IntKind.wrap_i64]; omega
        have HXA : Hid (xa = (B.getD (p + 1) 0)) := hxa
        obtain ⟨xb, hxb⟩ : ∃ x, x = (B.getD (p + 2) 0) := ⟨_, rfl⟩
        obtain ⟨qb, hqb⟩ : ∃ x, x = q + 1 := ⟨_, rfl⟩
        have cb1 : wr.cell? ⟨b, off + qb, none⟩ = some (.int .u8 xb) := by rw [hqb, hq, hxb]; exact HCB.out wr (HU2.out.trans HUV.out) (p + 2) (by omega)
        obtain ⟨v2, v3⟩ := HBA.out (p + 2)
        rw [← hxb] at v2 v3
        have er : IntKind.i64.wrap ((q : Int) + 1) = (qb : Int) := by rw [IntKind.wrap_i64]; omega
        have lt3 : (qb : Int) < (n : Int) := by omega
        have es : IntKind.i64.wrap (256 * xa) = 256 * xa := by rw [IntKind.wrap_i64]; omega
        have et : IntKind.i64.wrap (256 * xa + xb) = 256 * xa + xb := by rw [IntKind.wrap_i64]; omega
        have ew2 : IntKind.i64.wrap xb = xb := by rw [IntKind.wrap_i64]; omega
        have HXB : Hid (xb = (B.getD (p + 2) 0)) := hxb
        clear hqb hxb
        have HQE : Hid (q = p + 1) := hq
        clear hq hxa
        have HMW : Hid (∀ q u, [.int .i64 (256 * xa + xb)][q]? = some u → (wr.alloc (.cells #[.int .i64 (256 * xa + xb)] 3)).cell? ((⟨wr.heap.size, 0, none⟩ : Addr).add q) = some u) := World.news_of_block (cs := #[.int .i64 (256 * xa + xb)]) (t := 3) (fr := (0, 0)) (heap_alloc_new wr _)
        have HRV : Hid ((wr.alloc (.cells #[.int .i64 (256 * xa + xb)] 3)).ownsRow W2.heap.size 3 1 (.slice sa 0 sc) 0 (ivl (([(256 * (B.getD (p + 1) 0) + (B.getD (p + 2) 0))] : List Int).take 0))) := row_up HRW.out ((Up.refl _).alloc _)
        have HUA : Hid (Up W2 (wr.alloc (.cells #[.int .i64 (256 * xa + xb)] 3))) := HUV.out.alloc _
        clear q0 q1
        go_upto_region 17 with (at_builtin; go_loud (refine wpList_append_own _ (by rfl) (.tmp 70) (.tmp 72) 72 (by rfl) W2.heap.size 3 iI _ 1 8 Tryd.underlying72 hiI y0 y1 y2 (by rfl) (by decide) (.slice sa 0 sc) 0 (ivl (([(256 * (B.getD (p + 1) 0) + (B.getD (p + 2) 0))] : List Int).take 0)) (by rfl) HRV.out ⟨wr.heap.size, 0, none⟩ 1 1 [.int .i64 (256 * xa + xb)] (by rfl) (by rfl) HMW.out (by simp [Value.oneCell']) (by unfold maxLen; omega) (by omega) HUA.out.size ?_; intro v' V2 hin hg1 _; have HRN : Hid (V2.ownsRow W2.heap.size 3 1 v' (0 + 1) (ivl (([(256 * (B.getD (p + 1) 0) + (B.getD (p + 2) 0))] : List Int).take (0 + 1)))) := (by have h9 := hin; rw [HXA.out, HXB.out] at h9; exact h9); have HUN : Hid (Up W2 V2) := Below.grown HUA.out hg1 HUA.out.size (fun k9 hk => (World.ownsRow.lt HRV.out k9 hk).1); obtain ⟨sa2, sc2, hva⟩ : ∃ a c, v' = Value.slice a (0 + 1) c := row_val hin; subst hva; clear hin hg1 HMW HRV))
        have cw : V2.cell? ⟨gw, 0, none⟩ = some (.int .i64 2) := (HU12.out.trans HUN.out).cell HW0.out
        clear cb0
        go_wp2_with fail
        go_roundw
        case rel => exact ⟨1, q + 2, sa2, sc2, by omega, by first | rfl | go_num, by first | rfl | go_num, rfl, fun h => by omega, fun _ => (by have := HQE.out; omega), HRN.out, HUN.out⟩
        case measure => simp [intOf]
      · subst hj4
        clear q0 q1
        obtain ⟨gl, gc, -, -, hsa⟩ := row_some HRW.out (by decide)
        simp only [Value.slice.injEq] at hsa
        obtain ⟨rfl, -, -⟩ := hsa
        have z0 : wr.cell? ⟨gl, 0, none⟩ = some (.int .i64 (256 * (B.getD (p + 1) 0) + (B.getD (p + 2) 0))) := by
          have h9 := HRW.out.cells (g := gl) rfl 0 (.int .i64 (256 * (B.getD (p + 1) 0) + (B.getD (p + 2) 0))) rfl
          simpa [Addr.add] using h9
        have G6V : wr.heap[r6]? = some (.cells (insv zi) 28 (0, 0)) := HUV.out.heap g6c
        have hx := HCB.out wr (HU2.out.trans HUV.out) p hpn
        rw [← HD.out] at hx
        have HIN : Hid _ := instr1_ (p : Int) d gl sc _ wr z0
        have HUZ : Hid (Up W wr) := (HU2.out.trans HUV.out)
        have g6d : wr.heap[r6]? = some (.cells (insv zi) 28 (0, 0)) := G6V
        clear G6V
        go_wp2_with fail
        refine Calls.mono HIN.out ?_
        rintro e9 WZ ⟨rfl, uz⟩
        have g6z : WZ.heap[r6]? = some (.cells (insv zi) 28 (0, 0)) := uz.heap g6d
        obtain ⟨WA, hWA⟩ : ∃ X, WZ.setRow r6 #[.int .i64 (p : Int), .int .u8 (d : Int), .int .i64 (256 * (B.getD (p + 1) 0) + (B.getD (p + 2) 0)), .int .i64 0, .int .i64 0] = X := ⟨_, rfl⟩
        have ra : WA.heap[r6]? = some (.cells #[.int .i64 (p : Int), .int .u8 (d : Int), .int .i64 (256 * (B.getD (p + 1) 0) + (B.getD (p + 2) 0)), .int .i64 0, .int .i64 0] 28 (0, 0)) := by rw [← hWA]; exact setRow_heap _ _ _ _ _ _ g6z
        go_wp2_with (first | (refine wpList_store_row rfl 28 (.tmp 4) (.tmp 86) rfl r6 #[.int .i64 (p : Int), .int .u8 (d : Int), .int .i64 (256 * (B.getD (p + 1) 0) + (B.getD (p + 2) 0)), .int .i64 0, .int .i64 0] rfl rfl 28 (insv zi) g6z sizeIns rfl (by simp [Value.oneCell']) ?_; refine wpList_world hWA ?_))
        refine bodyPost_ret (v := .tuple #[.agg #[.int .i64 (p : Int), .int .u8 (d : Int), .int .i64 (256 * (B.getD (p + 1) 0) + (B.getD (p + 2) 0)), .int .i64 0, .int .i64 0], .int .i64 0]) (res_c1 (p := 4) (q := 5) (ty := 28) rfl _ _ r6 28 #[.int .i64 (p : Int), .int .u8 (d : Int), .int .i64 (256 * (B.getD (p + 1) 0) + (B.getD (p + 2) 0)), .int .i64 0, .int .i64 0] (0, 0) _ (.int .i64 0) rfl rfl ra Tryd.underlying28 rfl sizeIns) rfl ?_
        rw [HPo.out]
        refine ⟨by rw [HRD.out, HQ9.out]; rfl, ?_⟩
        rw [← hWA]
        exact up_setRow (HUZ.out.trans uz) (by rw [HR6.out]; exact Nat.le_refl _) _
  · subst hk
    have hsz : siz 4 = 5 := rfl
    have hwl : wl = 3 := by rw [← HWL.out]; rfl
    subst hwl
    rw [hsz] at hlen hlen2 e1
    have HQ9 : Hid (opn B p 4 = ((B.getD (p + 1) 0), (B.getD (p + 2) 0), (256 * (B.getD (p + 3) 0) + (B.getD (p + 4) 0)))) := rfl
    obtain ⟨gw, wcx, -, -, hwa⟩ := row_some HRO.out (by decide)
    simp only [Value.slice.injEq] at hwa
    obtain ⟨rfl, -, rfl⟩ := hwa
    have HW0 : Hid (W1.cell? ⟨gw, 0, none⟩ = some (.int .i64 1)) := by
      have h9 := World.ownsRow.cells HRO.out (g := gw) rfl 0 (.int .i64 1) rfl
      unfold Hid
      simpa [Addr.add] using h9
    have HW1 : Hid (W1.cell? ⟨gw, 1, none⟩ = some (.int .i64 1)) := by
      have h9 := World.ownsRow.cells HRO.out (g := gw) rfl 1 (.int .i64 1) rfl
      unfold Hid
      simpa [Addr.add] using h9
    have HW2 : Hid (W1.cell? ⟨gw, 2, none⟩ = some (.int .i64 2)) := by
      have h9 := World.ownsRow.cells HRO.out (g := gw) rfl 2 (.int .i64 2) rfl
      unfold Hid
      simpa [Addr.add] using h9
    go_upto_region 11 with fail
    go_wp2_with fail
    go_loopw [8, 9, 10] (fun s8 s9 s10 V => ∃ (j q : Nat) (sa : Option Addr) (sc : Nat), j ≤ 3 ∧ s10 = .int .i64 (j : Int) ∧ s9 = .int .i64 (q : Int) ∧ s8 = .slice sa j sc ∧ (j = 0 → q = p + 1) ∧ (j = 1 → q = p + 2) ∧ (j = 2 → q = p + 3) ∧ (j = 3 → q = p + 5) ∧ V.ownsRow W2.heap.size 3 1 (.slice sa j sc) j (ivl (([(B.getD (p + 1) 0), (B.getD (p + 2) 0), (256 * (B.getD (p + 3) 0) + (B.getD (p + 4) 0))] : List Int).take j)) ∧ Up W2 V) (fun _ _ s10 _ => 3 - (intOf s10).toNat)
    case atStart => exact ⟨0, p + 1, none, 0, by omega, rfl, by first | rfl | (rw [ep]), rfl, fun h => by omega, fun h => by omega, fun h => by omega, fun h => by omega, World.ownsRow_nil _ _ _ _, Up.refl _⟩
    case round =>
      obtain ⟨j, q, sa, sc, hj, rfl, rfl, rfl, q0, q1, q2, q3, hrw, hup⟩ := hrel
      have HRW : Hid (wr.ownsRow W2.heap.size 3 1 (.slice sa j sc) j (ivl (([(B.getD (p + 1) 0), (B.getD (p + 2) 0), (256 * (B.getD (p + 3) 0) + (B.getD (p + 4) 0))] : List Int).take j))) := hrw
      have HUV : Hid (Up W2 wr) := hup
      clear hrw hup
      have hj4 : j = 0 ∨ j = 1 ∨ j = 2 ∨ j = 3 := by omega
      rcases hj4 with hj4 | hj4 | hj4 | hj4
      · subst hj4
        have hq : q = p + 1 := q0 rfl
        have cw : wr.cell? ⟨gw, 0, none⟩ = some (.int .i64 1) := (HU12.out.trans HUV.out).cell HW0.out
        obtain ⟨xa, hxa⟩ : ∃ x, x = (B.getD (p + 1) 0) := ⟨_, rfl⟩
        have cb0 : wr.cell? ⟨b, off + q, none⟩ = some (.int .u8 xa) := by rw [hq, hxa]; exact HCB.out wr (HU2.out.trans HUV.out) (p + 1) (by omega)
        obtain ⟨v0, v1⟩ := HBA.out (p + 1)
        rw [← hxa] at v0 v1
        have lt1 : (((0 : Nat)) : Int) < 3 := by omega
        have lt2 : (q : Int) < (n : Int) := by omega
        have eq : IntKind.i64.wrap ((q : Int) + 1) = ((q + 1 : Nat) : Int) := by rw [IntKind.wrap_i64]; omega
        have ew : IntKind.i64.wrap xa = xa := by rw [IntKind.wrap_i64]; omega
        have HXA : Hid (xa = (B.getD (p + 1) 0)) := hxa
        have HQE : Hid (q = p + 1) := hq
        clear hq hxa
        have HMW : Hid (∀ q u, [.int .i64 xa][q]? = some u → (wr.alloc (.cells #[.int .i64 xa] 3)).cell? ((⟨wr.heap.size, 0, none⟩ : Addr).add q) = some u) := World.news_of_block (cs := #[.int .i64 xa]) (t := 3) (fr := (0, 0)) (heap_alloc_new wr _)
        have HRV : Hid ((wr.alloc (.cells #[.int .i64 xa] 3)).ownsRow W2.heap.size 3 1 (.slice sa 0 sc) 0 (ivl (([(B.getD (p + 1) 0), (B.getD (p + 2) 0), (256 * (B.getD (p + 3) 0) + (B.getD (p + 4) 0))] : List Int).take 0))) := row_up HRW.out ((Up.refl _).alloc _)
        have HUA : Hid (Up W2 (wr.alloc (.cells #[.int .i64 xa] 3))) := HUV.out.alloc _
        clear q0 q1 q2 q3
        go_upto_region 17 with (at_builtin; go_loud (refine wpList_append_own _ (by rfl) (.tmp 70) (.tmp 72) 72 (by rfl) W2.heap.size 3 iI _ 1 8 Tryd.underlying72 hiI y0 y1 y2 (by rfl) (by decide) (.slice sa 0 sc) 0 (ivl (([(B.getD (p + 1) 0), (B.getD (p + 2) 0), (256 * (B.getD (p + 3) 0) + (B.getD (p + 4) 0))] : List Int).take 0)) (by rfl) HRV.out ⟨wr.heap.size, 0, none⟩ 1 1 [.int .i64 xa] (by rfl) (by rfl) HMW.out (by simp [Value.oneCell']) (by unfold maxLen; omega) (by omega) HUA.out.size ?_; intro v' V2 hin hg1 _; have HRN : Hid (V2.ownsRow W2.heap.size 3 1 v' (0 + 1) (ivl (([(B.getD (p + 1) 0), (B.getD (p + 2) 0), (256 * (B.getD (p + 3) 0) + (B.getD (p + 4) 0))] : List Int).take (0 + 1)))) := (by have h9 := hin; rw [HXA.out] at h9; exact h9); have HUN : Hid (Up W2 V2) := Below.grown HUA.out hg1 HUA.out.size (fun k9 hk => (World.ownsRow.lt HRV.out k9 hk).1); obtain ⟨sa2, sc2, hva⟩ : ∃ a c, v' = Value.slice a (0 + 1) c := row_val hin; subst hva; clear hin hg1 HMW HRV))
        have cw : V2.cell? ⟨gw, 0, none⟩ = some (.int .i64 1) := (HU12.out.trans HUN.out).cell HW0.out
        clear cb0
        go_wp2_with fail
        go_roundw
        case rel => exact ⟨1, q + 1, sa2, sc2, by omega, by first | rfl | go_num, by first | rfl | go_num, rfl, fun h => by omega, fun _ => (by have := HQE.out; omega), fun h => by omega, fun h => by omega, HRN.out, HUN.out⟩
        case measure => simp [intOf]
      · subst hj4
        have hq : q = p + 2 := q1 rfl
        have cw : wr.cell? ⟨gw, 1, none⟩ = some (.int .i64 1) := (HU12.out.trans HUV.out).cell HW1.out
        obtain ⟨xa, hxa⟩ : ∃ x, x = (B.getD (p + 2) 0) := ⟨_, rfl⟩
        have cb0 : wr.cell? ⟨b, off + q, none⟩ = some (.int .u8 xa) := by rw [hq, hxa]; exact HCB.out wr (HU2.out.trans HUV.out) (p + 2) (by omega)
        obtain ⟨v0, v1⟩ := HBA.out (p + 2)
        rw [← hxa] at v0 v1
        have lt1 : (((1 : Nat)) : Int) < 3 := by omega
        have lt2 : (q : Int) < (n : Int) := by omega
        have eq : IntKind.i64.wrap ((q : Int) + 1) = ((q + 1 : Nat) : Int) := by rw [IntKind.wrap_i64]; omega
        have ew : IntKind.i64.wrap xa = xa := by rw [IntKind.wrap_i64]; omega
        have HXA : Hid (xa = (B.getD (p + 2) 0)) := hxa
        have HQE : Hid (q = p + 2) := hq
        clear hq hxa
        have HMW : Hid (∀ q u, [.int .i64 xa][q]? = some u → (wr.alloc (.cells #[.int .i64 xa] 3)).cell? ((⟨wr.heap.size, 0, none⟩ : Addr).add q) = some u) := World.news_of_block (cs := #[.int .i64 xa]) (t := 3) (fr := (0, 0)) (heap_alloc_new wr _)
        have HRV : Hid ((wr.alloc (.cells #[.int .i64 xa] 3)).ownsRow W2.heap.size 3 1 (.slice sa 1 sc) 1 (ivl (([(B.getD (p + 1) 0), (B.getD (p + 2) 0), (256 * (B.getD (p + 3) 0) + (B.getD (p + 4) 0))] : List Int).take 1))) := row_up HRW.out ((Up.refl _).alloc _)
        have HUA : Hid (Up W2 (wr.alloc (.cells #[.int .i64 xa] 3))) := HUV.out.alloc _
        clear q0 q1 q2 q3
        go_upto_region 17 with (at_builtin; go_loud (refine wpList_append_own _ (by rfl) (.tmp 70) (.tmp 72) 72 (by rfl) W2.heap.size 3 iI _ 1 8 Tryd.underlying72 hiI y0 y1 y2 (by rfl) (by decide) (.slice sa 1 sc) 1 (ivl (([(B.getD (p + 1) 0), (B.getD (p + 2) 0), (256 * (B.getD (p + 3) 0) + (B.getD (p + 4) 0))] : List Int).take 1)) (by rfl) HRV.out ⟨wr.heap.size, 0, none⟩ 1 1 [.int .i64 xa] (by rfl) (by rfl) HMW.out (by simp [Value.oneCell']) (by unfold maxLen; omega) (by omega) HUA.out.size ?_; intro v' V2 hin hg1 _; have HRN : Hid (V2.ownsRow W2.heap.size 3 1 v' (1 + 1) (ivl (([(B.getD (p + 1) 0), (B.getD (p + 2) 0), (256 * (B.getD (p + 3) 0) + (B.getD (p + 4) 0))] : List Int).take (1 + 1)))) := (by have h9 := hin; rw [HXA.out] at h9; exact h9); have HUN : Hid (Up W2 V2) := Below.grown HUA.out hg1 HUA.out.size (fun k9 hk => (World.ownsRow.lt HRV.out k9 hk).1); obtain ⟨sa2, sc2, hva⟩ : ∃ a c, v' = Value.slice a (1 + 1) c := row_val hin; subst hva; clear hin hg1 HMW HRV))
        have cw : V2.cell? ⟨gw, 1, none⟩ = some (.int .i64 1) := (HU12.out.trans HUN.out).cell HW1.out
        clear cb0
        go_wp2_with fail
        go_roundw
        case rel => exact ⟨2, q + 1, sa2, sc2, by omega, by first | rfl | go_num, by first | rfl | go_num, rfl, fun h => by omega, fun h => by omega, fun _ => (by have := HQE.out; omega), fun h => by omega, HRN.out, HUN.out⟩
        case measure => simp [intOf]
      · subst hj4
        have hq : q = p + 3 := q2 rfl
        have cw : wr.cell? ⟨gw, 2, none⟩ = some (.int .i64 2) := (HU12.out.trans HUV.out).cell HW2.out
        obtain ⟨xa, hxa⟩ : ∃ x, x = (B.getD (p + 3) 0) := ⟨_, rfl⟩
        have cb0 : wr.cell? ⟨b, off + q, none⟩ = some (.int .u8 xa) := by rw [hq, hxa]; exact HCB.out wr (HU2.out.trans HUV.out) (p + 3) (by omega)
        obtain ⟨v0, v1⟩ := HBA.out (p + 3)
        rw [← hxa] at v0 v1
        have lt1 : (((2 : Nat)) : Int) < 3 := by omega
        have lt2 : (q : Int) < (n : Int) := by omega
        have eq : IntKind.i64.wrap ((q : Int) + 2) = ((q + 2 : Nat) : Int) := by rw [IntKind.wrap_i64]; omega
        have ew : IntKind.i64.wrap xa = xa := by rw [IntKind.wrap_i64]; omega
        have HXA : Hid (xa = (B.getD (p + 3) 0)) := hxa
        obtain ⟨xb, hxb⟩ : ∃ x, x = (B.getD (p + 4) 0) := ⟨_, rfl⟩
        obtain ⟨qb, hqb⟩ : ∃ x, x = q + 1 := ⟨_, rfl⟩
        have cb1 : wr.cell? ⟨b, off + qb, none⟩ = some (.int .u8 xb) := by rw [hqb, hq, hxb]; exact HCB.out wr (HU2.out.trans HUV.out) (p + 4) (by omega)
        obtain ⟨v2, v3⟩ := HBA.out (p + 4)
        rw [← hxb] at v2 v3
        have er : IntKind.i64.wrap ((q : Int) + 1) = (qb : Int) := by rw [IntKind.wrap_i64]; omega
        have lt3 : (qb : Int) < (n : Int) := by omega
        have es : IntKind.i64.wrap (256 * xa) = 256 * xa := by rw [IntKind.wrap_i64]; omega
        have et : IntKind.i64.wrap (256 * xa + xb) = 256 * xa + xb := by rw [IntKind.wrap_i64]; omega
        have ew2 : IntKind.i64.wrap xb = xb := by rw [IntKind.wrap_i64]; omega
        have HXB : Hid (xb = (B.getD (p + 4) 0)) := hxb
        clear hqb hxb
        have HQE : Hid (q = p + 3) := hq
        clear hq hxa
        have HMW : Hid (∀ q u, [.int .i64 (256 * xa + xb)][q]? = some u → (wr.alloc (.cells #[.int .i64 (256 * xa + xb)] 3)).cell? ((⟨wr.heap.size, 0, none⟩ : Addr).add q) = some u) := World.news_of_block (cs := #[.int .i64 (256 * xa + xb)]) (t := 3) (fr := (0, 0)) (heap_alloc_new wr _)
        have HRV : Hid ((wr.alloc (.cells #[.int .i64 (256 * xa + xb)] 3)).ownsRow W2.heap.size 3 1 (.slice sa 2 sc) 2 (ivl (([(B.getD (p + 1) 0), (B.getD (p + 2) 0), (256 * (B.getD (p + 3) 0) + (B.getD (p + 4) 0))] : List Int).take 2))) := row_up HRW.out ((Up.refl _).alloc _)
        have HUA : Hid (Up W2 (wr.alloc (.cells #[.int .i64 (256 * xa + xb)] 3))) := HUV.out.alloc _
        clear q0 q1 q2 q3
        go_upto_region 17 with (at_builtin; go_loud (refine wpList_append_own _ (by rfl) (.tmp 70) (.tmp 72) 72 (by rfl) W2.heap.size 3 iI _ 1 8 Tryd.underlying72 hiI y0 y1 y2 (by rfl) (by decide) (.slice sa 2 sc) 2 (ivl (([(B.getD (p + 1) 0), (B.getD (p + 2) 0), (256 * (B.getD (p + 3) 0) + (B.getD (p + 4) 0))] : List Int).take 2)) (by rfl) HRV.out ⟨wr.heap.size, 0, none⟩ 1 1 [.int .i64 (256 * xa + xb)] (by rfl) (by rfl) HMW.out (by simp [Value.oneCell']) (by unfold maxLen; omega) (by omega) HUA.out.size ?_; intro v' V2 hin hg1 _; have HRN : Hid (V2.ownsRow W2.heap.size 3 1 v' (2 + 1) (ivl (([(B.getD (p + 1) 0), (B.getD (p + 2) 0), (256 * (B.getD (p + 3) 0) + (B.getD (p + 4) 0))] : List Int).take (2 + 1)))) := (by have h9 := hin; rw [HXA.out, HXB.out] at h9; exact h9); have HUN : Hid (Up W2 V2) := Below.grown HUA.out hg1 HUA.out.size (fun k9 hk => (World.ownsRow.lt HRV.out k9 hk).1); obtain ⟨sa2, sc2, hva⟩ : ∃ a c, v' = Value.slice a (2 + 1) c := row_val hin; subst hva; clear hin hg1 HMW HRV))
        have cw : V2.cell? ⟨gw, 2, none⟩ = some (.int .i64 2) := (HU12.out.trans HUN.out).cell HW2.out
        clear cb0
        go_wp2_with fail
        go_roundw
        case rel => exact ⟨3, q + 2, sa2, sc2, by omega, by first | rfl | go_num, by first | rfl | go_num, rfl, fun h => by omega, fun h => by omega, fun h => by omega, fun _ => (by have := HQE.out; omega), HRN.out, HUN.out⟩
        case measure => simp [intOf]
      · subst hj4
        clear q0 q1 q2 q3
        obtain ⟨gl, gc, -, -, hsa⟩ := row_some HRW.out (by decide)
        simp only [Value.slice.injEq] at hsa
        obtain ⟨rfl, -, -⟩ := hsa
        have z0 : wr.cell? ⟨gl, 0, none⟩ = some (.int .i64 (B.getD (p + 1) 0)) := by
          have h9 := HRW.out.cells (g := gl) rfl 0 (.int .i64 (B.getD (p + 1) 0)) rfl
          simpa [Addr.add] using h9
        have z1 : wr.cell? ⟨gl, 1, none⟩ = some (.int .i64 (B.getD (p + 2) 0)) := by
          have h9 := HRW.out.cells (g := gl) rfl 1 (.int .i64 (B.getD (p + 2) 0)) rfl
          simpa [Addr.add] using h9
        have z2 : wr.cell? ⟨gl, 2, none⟩ = some (.int .i64 (256 * (B.getD (p + 3) 0) + (B.getD (p + 4) 0))) := by
          have h9 := HRW.out.cells (g := gl) rfl 2 (.int .i64 (256 * (B.getD (p + 3) 0) + (B.getD (p + 4) 0))) rfl
          simpa [Addr.add] using h9
        have G6V : wr.heap[r6]? = some (.cells (insv zi) 28 (0, 0)) := HUV.out.heap g6c
        have hx := HCB.out wr (HU2.out.trans HUV.out) p hpn
        rw [← HD.out] at hx
        have HIN : Hid _ := instr3_ (p : Int) d gl sc _ _ _ wr z0 z1 z2
        have HUZ : Hid (Up W wr) := (HU2.out.trans HUV.out)
        have g6d : wr.heap[r6]? = some (.cells (insv zi) 28 (0, 0)) := G6V
        clear G6V
        go_wp2_with fail
        refine Calls.mono HIN.out ?_
        rintro e9 WZ ⟨rfl, uz⟩
        have g6z : WZ.heap[r6]? = some (.cells (insv zi) 28 (0, 0)) := uz.heap g6d
        obtain ⟨WA, hWA⟩ : ∃ X, WZ.setRow r6 #[.int .i64 (p : Int), .int .u8 (d : Int), .int .i64 (B.getD (p + 1) 0), .int .i64 (B.getD (p + 2) 0), .int .i64 (256 * (B.getD (p + 3) 0) + (B.getD (p + 4) 0))] = X := ⟨_, rfl⟩
        have ra : WA.heap[r6]? = some (.cells #[.int .i64 (p : Int), .int .u8 (d : Int), .int .i64 (B.getD (p + 1) 0), .int .i64 (B.getD (p + 2) 0), .int .i64 (256 * (B.getD (p + 3) 0) + (B.getD (p + 4) 0))] 28 (0, 0)) := by rw [← hWA]; exact setRow_heap _ _ _ _ _ _ g6z
        go_wp2_with (first | (refine wpList_store_row rfl 28 (.tmp 4) (.tmp 86) rfl r6 #[.int .i64 (p : Int), .int .u8 (d : Int), .int .i64 (B.getD (p + 1) 0), .int .i64 (B.getD (p + 2) 0), .int .i64 (256 * (B.getD (p + 3) 0) + (B.getD (p + 4) 0))] rfl rfl 28 (insv zi) g6z sizeIns rfl (by simp [Value.oneCell']) ?_; refine wpList_world hWA ?_))
        refine bodyPost_ret (v := .tuple #[.agg #[.int .i64 (p : Int), .int .u8 (d : Int), .int .i64 (B.getD (p + 1) 0), .int .i64 (B.getD (p + 2) 0), .int .i64 (256 * (B.getD (p + 3) 0) + (B.getD (p + 4) 0))], .int .i64 0]) (res_c1 (p := 4) (q := 5) (ty := 28) rfl _ _ r6 28 #[.int .i64 (p : Int), .int .u8 (d : Int), .int .i64 (B.getD (p + 1) 0), .int .i64 (B.getD (p + 2) 0), .int .i64 (256 * (B.getD (p + 3) 0) + (B.getD (p + 4) 0))] (0, 0) _ (.int .i64 0) rfl rfl ra Tryd.underlying28 rfl sizeIns) rfl ?_
        rw [HPo.out]
        refine ⟨by rw [HRD.out, HQ9.out]; rfl, ?_⟩
        rw [← hWA]
        exact up_setRow (HUZ.out.trans uz) (by rw [HR6.out]; exact Nat.le_refl _) _
end CD
end Go.Proofs.YtoaaehgnbapibaaDoor
