
/-
  The law CodeReads.
-/
import Derived.Test.YtoaaehgnbapibaaDoorXc16
import Derived.Test.YtoaaehgnbapibaaDoorXb16
import Derived.Test.YtoaaehgnbapibaaDoorBxd
import Derived.Test.YtoaaehgnbapibaaDoorWo16
namespace Go.Proofs.YtoaaehgnbapibaaDoor
open Go.RowKit
attribute [local go_sem ↓] Go.wp_at_zero Go.wp_at_succ
namespace CD
theorem xor8 (d : Int) (h : 0 ≤ d ∧ d < 256) : 0 ≤ bits .xor .u8 d 8 ∧ bits .xor .u8 d 8 < 256 := by
  have k : ∀ i : Fin 256, 0 ≤ bits .xor .u8 ((i.val : Nat) : Int) 8 ∧ bits .xor .u8 ((i.val : Nat) : Int) 8 < 256 := by decide +kernel
  have h9 := k ⟨d.toNat, by omega⟩
  rw [show ((d.toNat : Nat) : Int) = d by omega] at h9
  exact h9
theorem allG_len (B : List Int) : ∀ (n p : Nat) (L : List Ins), p ≤ B.length → L.length ≤ p → (allG B n p L).1.length ≤ B.length
  | 0, p, L, h1, h2 => by
    show L.length ≤ B.length
    omega
  | n + 1, p, L, h1, h2 => by
    rw [allG]
    by_cases hp : p < B.length
    · rw [if_neg (by omega)]
      by_cases hr : (rd B p).2 ≠ 0
      · rw [if_pos hr]
        exact Nat.zero_le _
      · rw [if_neg hr]
        obtain ⟨h5, h6, h7⟩ := rd_ok (B := B) (p := p) (by simpa using hr)
        exact allG_len B n _ _ h7 (by rw [List.length_append]; show L.length + 1 ≤ _; omega)
    · rw [if_pos hp]
      show L.length ≤ B.length
      omega
theorem allR_len (B : List Int) : (allR B).1.length ≤ B.length := allG_len B _ 0 [] (Nat.zero_le _) (Nat.le_refl _)
set_option maxRecDepth 100000 in
set_option maxHeartbeats 16000000 in
theorem reads_ (vs : Value) (B : List Int) (z : Int) (w0 : World) (hB : BL w0 vs B) (hby : Byt B) (hz : ∀ cap, vs ≠ .slice none 0 (cap + 1)) (hn9 : B.length ≤ 281474976710656) (hz0 : -9223372036854775808 ≤ z) (hz1 : z ≤ 9223372036854775807) (her : TabP w0) : Calls Tryd.prog 4 #[vs, .int .i64 z] w0 fun e w' => e = .returned (.bool true) ∧ Up w0 w' := by
  obtain ⟨Post, hPost⟩ : ∃ P : Ending → World → Prop, P = fun e w' => e = .returned (.bool true) ∧ Up w0 w' := ⟨_, rfl⟩
  rw [← hPost]
  have HPo : Hid (Post = fun e w' => e = .returned (.bool true) ∧ Up w0 w') := hPost
  clear hPost
  have HBY : Hid (Byt B) := hby
  have HBW : Hid (∀ W, Up w0 W → BL W vs B) := fun W u => hB.up u
  have HZ : Hid (∀ cap, vs ≠ .slice none 0 (cap + 1)) := hz
  obtain ⟨a, c, hvb, -, -⟩ := bl_cells hB
  obtain ⟨n, hN⟩ : ∃ n, n = B.length := ⟨_, rfl⟩
  have HN : Hid (n = B.length) := hN
  rw [← hN] at hvb hn9
  subst hvb
  obtain ⟨hzi, -⟩ := zero_of_info (P := Tryd.prog) infoIns
  have HWO : Hid _ := works_ w0 her
  clear hB hby hz her hN
  go_enter Tryd.func4, Tryd.ntmps4
  go_wp2_with fail
  refine Calls.mono HWO.out ?_
  rintro r w ⟨rfl, u0⟩
  have HU0 : Hid (Up w0 w) := u0
  have HBW : Hid (∀ W, Up w W → BL W (.slice a n c) B) := fun W u => HBW.out W (HU0.out.trans u)
  clear HWO u0
  by_cases hbig : 16777216 < n
  · have hb2 : (16777216 : Int) < (n : Int) := by omega
    go_wp2_with fail
    rw [HPo.out]
    exact ⟨rfl, HU0.out⟩
  · have hb2 : ¬ (16777216 : Int) < (n : Int) := by omega
    have HWD : Hid (Calls Tryd.prog 13 #[.slice a n c] w fun e w' => ∃ g, e = .returned (.slice (some ⟨g, 0, none⟩) n (n + 64)) ∧ WB w w' g B ∧ Up w w') := by
      have h9 := wideT_ _ B w (HBW.out w (Up.refl _)) HBY.out HZ.out (by have := HN.out; omega)
      rw [← HN.out] at h9
      exact h9
    go_wp2_with fail
    refine Calls.mono HWD.out ?_
    rintro r W2 ⟨g, rfl, hwb, u⟩
    have HW : Hid (∀ W, Up W2 W → WB w W g B) := fun W x => hwb.up x
    have HG2 : Hid (g < W2.heap.size ∧ w.heap.size ≤ W2.heap.size) := ⟨(oc_start hwb HBY.out).lt, u.size⟩
    have HU : Hid (Up w W2) := u
    have HWL : Hid (∀ W, Up W2 W → BL W (.slice (some ⟨g, 0, none⟩) n (n + 64)) B) := fun W x => by
      have h9 := (HW.out W x).bl HBY.out
      rw [← HN.out] at h9
      exact h9
    have HEQ : Hid (∀ W, Up W2 W → Up w W → Calls Tryd.prog 18 #[.slice (some ⟨g, 0, none⟩) n (n + 64), .slice a n c] W fun e w' => e = .returned (.bool true) ∧ Up W w') := fun W x y => eqT_ _ _ B W (HWL.out W x) (HBW.out W y) HBY.out (fun cap h => by cases h) HZ.out (by have := HN.out; omega)
    have HSP : Hid (∀ W, Up W2 W → Calls Tryd.prog 19 #[.slice (some ⟨g, 0, none⟩) n (n + 64)] W fun e w' => e = .returned (.bool true) ∧ w' = W) := fun W x => by
      have h9 := (HW.out W x).spare
      rw [← HN.out] at h9
      exact SM.spareB g n W (by omega) h9
    have HCU : Hid (∀ W, Up W2 W → Calls Tryd.prog 16 #[.slice (some ⟨g, 0, none⟩) n (n + 64)] W (AllQ B W)) := fun W x => All_ _ B W (HWL.out W x) HBY.out (by have := HN.out; omega)
    have HRC : Hid (∀ W, Up w W → Calls Tryd.prog 17 #[.slice a n c] W (AllQ B W)) := fun W y => rAll_ _ B W (HBW.out W y) HBY.out (by have := HN.out; omega)
    have HRE : Hid (∀ W, Up W2 W → Calls Tryd.prog 14 #[.slice (some ⟨g, 0, none⟩) n (n + 64), .int .i64 z] W fun e w' => e = .returned (.tuple #[.agg (insv (rd B z).1), .int .i64 (rd B z).2]) ∧ Up W w') := fun W x => Read_ _ B z W (HWL.out W x) HBY.out (by have := HN.out; omega) hz0 hz1
    have HRR : Hid (∀ W, Up w W → Calls Tryd.prog 15 #[.slice a n c, .int .i64 z] W fun e w' => e = .returned (.tuple #[.agg (insv (rd B z).1), .int .i64 (rd B z).2]) ∧ Up W w') := fun W x => rRead_ _ B z W (HBW.out W x) HBY.out (by have := HN.out; omega) hz0 hz1
    have HLB : Hid ((allR B).1.length ≤ 16777216) := by have h8 := allR_len B; have h9 := HN.out; unfold Hid; omega
    have HN0 : Hid (¬ 16777216 < n) := hbig
    clear hwb u HWD hbig
    go_wp2_with fail
    refine Calls.mono (HRE.out W2 (Up.refl _)) ?_
    rintro r Xa ⟨rfl, uX⟩
    obtain ⟨x, hx⟩ : ∃ x, x = rd B z := ⟨_, rfl⟩
    rw [← hx]
    obtain ⟨⟨i1, i2, i3, i4, i5⟩, ie⟩ := x
    have hx9 : insv (⟨i1, i2, i3, i4, i5⟩ : Ins) = #[.int .i64 i1, .int .u8 i2, .int .i64 i3, .int .i64 i4, .int .i64 i5] := rfl
    simp only
    rw [hx9]
    obtain ⟨ra, hr8⟩ : ∃ r, r = Xa.heap.size := ⟨_, rfl⟩
    obtain ⟨Xb, hW5⟩ : ∃ X, Xa.alloc (.cells (insv zi) 28) = X := ⟨_, rfl⟩
    have g5 : Xb.heap[ra]? = some (.cells (insv zi) 28 (0, 0)) := by rw [← hW5, hr8]; exact heap_alloc_new _ _
    obtain ⟨Xc, hW6⟩ : ∃ X, Xb.setRow ra #[.int .i64 i1, .int .u8 i2, .int .i64 i3, .int .i64 i4, .int .i64 i5] = X := ⟨_, rfl⟩
    have g6 : Xc.heap[ra]? = some (.cells #[.int .i64 i1, .int .u8 i2, .int .i64 i3, .int .i64 i4, .int .i64 i5] 28 (0, 0)) := by rw [← hW6]; exact setRow_heap _ _ _ _ _ _ g5
    have HGra : Hid (Xc.heap[ra]? = some (.cells #[.int .i64 i1, .int .u8 i2, .int .i64 i3, .int .i64 i4, .int .i64 i5] 28 (0, 0))) := g6
    have HU46 : Hid (Up Xa Xc) := by
      unfold Hid
      rw [← hW6]
      exact up_setRow (by rw [← hW5]; exact (Up.refl _).alloc _) (by rw [hr8]; exact Nat.le_refl _) _
    go_upto_region 6 with (first | (refine wpList_store_row rfl 28 (.tmp 7) (.tmp 41) (by first | rfl | (rw [hr8]; rfl)) ra #[.int .i64 i1, .int .u8 i2, .int .i64 i3, .int .i64 i4, .int .i64 i5] (by first | rfl | (rw [hr8]; rfl)) (by rfl) 28 (insv zi) (by first | exact g5 | (rw [hW5]; exact g5)) sizeIns rfl (by simp [Value.oneCell']) ?_; refine wpList_world (by first | exact hW6 | (rw [hW5]; exact hW6)) ?_))
    try rw [← hr8]
    try simp only [Act.put]
    have HX : Hid (Up W2 Xc) := uX.trans HU46.out
    have HU : Hid (Up w Xc) := HU.out.trans HX.out
    have hxi := hx
    clear hr8 hW5 g5 hW6 HU46 g6 uX HRE hx9
    go_wp2_with fail
    refine Calls.mono (HRR.out Xc HU.out) ?_
    rintro r Ya ⟨rfl, uY⟩
    obtain ⟨x, hx⟩ : ∃ x, x = rd B z := ⟨_, rfl⟩
    rw [← hx]
    obtain ⟨⟨j1, j2, j3, j4, j5⟩, je⟩ := x
    have hx9 : insv (⟨j1, j2, j3, j4, j5⟩ : Ins) = #[.int .i64 j1, .int .u8 j2, .int .i64 j3, .int .i64 j4, .int .i64 j5] := rfl
    simp only
    rw [hx9]
    obtain ⟨rb, hr8⟩ : ∃ r, r = Ya.heap.size := ⟨_, rfl⟩
    obtain ⟨Yb, hW5⟩ : ∃ X, Ya.alloc (.cells (insv zi) 28) = X := ⟨_, rfl⟩
    have g5 : Yb.heap[rb]? = some (.cells (insv zi) 28 (0, 0)) := by rw [← hW5, hr8]; exact heap_alloc_new _ _
    obtain ⟨Yc, hW6⟩ : ∃ X, Yb.setRow rb #[.int .i64 j1, .int .u8 j2, .int .i64 j3, .int .i64 j4, .int .i64 j5] = X := ⟨_, rfl⟩
    have g6 : Yc.heap[rb]? = some (.cells #[.int .i64 j1, .int .u8 j2, .int .i64 j3, .int .i64 j4, .int .i64 j5] 28 (0, 0)) := by rw [← hW6]; exact setRow_heap _ _ _ _ _ _ g5
    have HGrb : Hid (Yc.heap[rb]? = some (.cells #[.int .i64 j1, .int .u8 j2, .int .i64 j3, .int .i64 j4, .int .i64 j5] 28 (0, 0))) := g6
    have HU46 : Hid (Up Ya Yc) := by
      unfold Hid
      rw [← hW6]
      exact up_setRow (by rw [← hW5]; exact (Up.refl _).alloc _) (by rw [hr8]; exact Nat.le_refl _) _
    go_upto_region 7 with (first | (refine wpList_store_row rfl 28 (.tmp 9) (.tmp 47) (by first | rfl | (rw [hr8]; rfl)) rb #[.int .i64 j1, .int .u8 j2, .int .i64 j3, .int .i64 j4, .int .i64 j5] (by first | rfl | (rw [hr8]; rfl)) (by rfl) 28 (insv zi) (by first | exact g5 | (rw [hW5]; exact g5)) sizeIns rfl (by simp [Value.oneCell']) ?_; refine wpList_world (by first | exact hW6 | (rw [hW5]; exact hW6)) ?_))
    try rw [← hr8]
    try simp only [Act.put]
    have HX : Hid (Up W2 Yc) := HX.out.trans (uY.trans HU46.out)
    have HSY : Hid (W2.heap.size ≤ Yc.heap.size) := HX.out.size
    have HGra : Hid (Yc.heap[ra]? = some (.cells #[.int .i64 i1, .int .u8 i2, .int .i64 i3, .int .i64 i4, .int .i64 i5] 28 (0, 0))) := (uY.trans HU46.out).heap HGra.out
    have HU : Hid (Up w Yc) := HU.out.trans (uY.trans HU46.out)
    have HXY : Hid ((⟨⟨i1, i2, i3, i4, i5⟩, ie⟩ : Ins × Int) = ⟨⟨j1, j2, j3, j4, j5⟩, je⟩) := hxi.trans hx.symm
    clear hr8 hW5 g5 hW6 HU46 g6 uY HRR hx9 hx hxi
    obtain ⟨rfl, rfl, rfl, rfl, rfl, rfl⟩ : i1 = j1 ∧ i2 = j2 ∧ i3 = j3 ∧ i4 = j4 ∧ i5 = j5 ∧ ie = je := by
      have h9 := HXY.out
      simp only [Prod.mk.injEq, Ins.mk.injEq] at h9
      exact ⟨h9.1.1, h9.1.2.1, h9.1.2.2.1, h9.1.2.2.2.1, h9.1.2.2.2.2, h9.2⟩
    clear HXY
    have hq := instrSame i1 i2 i3 i4 i5
    have q0 : (ie != ie) = false := by simp
    obtain ⟨LB, hE0⟩ : ∃ L, L = (allR B).1 := ⟨_, rfl⟩
    obtain ⟨eE, hE⟩ : ∃ L, L = (allR B).2.1 := ⟨_, rfl⟩
    obtain ⟨eA, hA⟩ : ∃ L, L = (allR B).2.2 := ⟨_, rfl⟩
    unfold AllQ at HCU HRC
    rw [← hE0] at HLB
    simp only [← hE0, ← hE, ← hA] at HCU HRC
    clear hE0 hE hA
    have q1 : (eE != eE) = false := by simp
    have q2 : (eA != eA) = false := by simp
    go_wp2_with fail
    refine Calls.mono (HCU.out Yc HX.out) ?_
    rintro r W3 ⟨va, rfl, hra, u3⟩
    have HX3 : Hid (Up Yc W3) := u3
    have HU : Hid (Up w W3) := HU.out.trans u3
    have HX : Hid (Up W2 W3) := HX.out.trans u3
    have HRA : Hid (W3.ownsRow Yc.heap.size 28 5 va LB.length (ivs LB)) := hra
    have HS3 : Hid (W2.heap.size ≤ W3.heap.size ∧ W2.heap.size ≤ Yc.heap.size) := ⟨HX.out.size, HSY.out⟩
    clear hra u3
    go_wp2_with fail
    refine Calls.mono (HCU.out W3 HX.out) ?_
    rintro r W4 ⟨vb, rfl, hrb, u4⟩
    have HX : Hid (Up W2 W4) := HX.out.trans u4
    have HX3 : Hid (Up Yc W4) := HX3.out.trans u4
    have HU : Hid (Up w W4) := HU.out.trans u4
    have HAL : Hid (∀ k, va.ownBlock = some k → Yc.heap.size ≤ k ∧ k < W3.heap.size) := World.ownsRow.lt HRA.out
    have HBL : Hid (∀ k, vb.ownBlock = some k → W3.heap.size ≤ k ∧ k < W4.heap.size) := World.ownsRow.lt hrb
    have HS40 : Hid (W3.heap.size ≤ W4.heap.size) := u4.size
    have HRA : Hid (W4.ownsRow Yc.heap.size 28 5 va LB.length (ivs LB)) := row_up HRA.out u4
    have HRB : Hid (W4.ownsRow W3.heap.size 28 5 vb LB.length (ivs LB)) := hrb
    clear hrb u4
    go_wp2_with fail
    refine Calls.mono (HRC.out W4 HU.out) ?_
    rintro r W5 ⟨vw, rfl, hrw, u5⟩
    have HX : Hid (Up W2 W5) := HX.out.trans u5
    have HX3 : Hid (Up Yc W5) := HX3.out.trans u5
    have HU : Hid (Up w W5) := HU.out.trans u5
    have HS4 : Hid (W4.heap.size ≤ W5.heap.size ∧ W3.heap.size ≤ W4.heap.size) := ⟨u5.size, HS40.out⟩
    have HRA : Hid (W5.ownsRow Yc.heap.size 28 5 va LB.length (ivs LB)) := row_up HRA.out u5
    have HRB : Hid (W5.ownsRow W3.heap.size 28 5 vb LB.length (ivs LB)) := row_up HRB.out u5
    have HRW : Hid (W5.ownsRow W4.heap.size 28 5 vw LB.length (ivs LB)) := hrw
    have HQ1 : Hid (∀ W, Up W5 W → Calls Tryd.prog 20 #[va, vw] W fun e w' => e = .returned (.bool true) ∧ Up W w') := fun W x => eqIns_ _ _ LB W (own_il (row_up HRA.out x)) (own_il (row_up HRW.out x)) (by have := HLB.out; omega)
    have HQ2 : Hid (∀ W, Up W5 W → Calls Tryd.prog 20 #[vb, vw] W fun e w' => e = .returned (.bool true) ∧ Up W w') := fun W x => eqIns_ _ _ LB W (own_il (row_up HRB.out x)) (own_il (row_up HRW.out x)) (by have := HLB.out; omega)
    clear hrw u5 HRC HCU
    go_wp2_with fail
    refine Calls.mono (HEQ.out W5 HX.out HU.out) ?_
    rintro r Wa ⟨rfl, ua⟩
    have HY : Hid (Up W5 Wa) := ua
    clear ua HEQ
    go_wp2_with fail
    refine Calls.mono (HSP.out Wa (HX.out.trans HY.out)) ?_
    rintro r Wd ⟨rfl, hwd⟩
    obtain rfl := hwd.symm
    clear hwd HSP
    have ga : Wa.heap[ra]? = _ := (HX3.out.trans HY.out).heap HGra.out
    have gb0 : Wa.heap[rb]? = _ := (HX3.out.trans HY.out).heap HGrb.out
    go_wp2_with (first | (refine wpList_load_rowG (by rfl) 28 (.tmp 7) (by rfl) ra (by rfl) 28 #[.int .i64 i1, .int .u8 i2, .int .i64 i3, .int .i64 i4, .int .i64 i5] (0, 0) _ ga Tryd.underlying28 (by rfl) sizeIns ?_) | (refine wpList_load_rowG (by rfl) 28 (.tmp 9) (by rfl) rb (by rfl) 28 #[.int .i64 i1, .int .u8 i2, .int .i64 i3, .int .i64 i4, .int .i64 i5] (0, 0) _ gb0 Tryd.underlying28 (by rfl) sizeIns ?_))
    refine Calls.mono (HQ1.out Wa HY.out) ?_
    rintro r Wb ⟨rfl, ub⟩
    have HY : Hid (Up W5 Wb) := HY.out.trans ub
    clear ub HQ1 ga gb0 hq
    go_wp2_with fail
    refine Calls.mono (HQ2.out Wb HY.out) ?_
    rintro r W6 ⟨rfl, uc⟩
    have HY : Hid (Up W5 W6) := HY.out.trans uc
    clear uc HQ2
    have HOC0 : Hid (OC w g n B W6) := by
      have h9 := oc_start (HW.out W6 (HX.out.trans HY.out)) HBY.out
      rw [← HN.out] at h9
      exact h9
    have HRA : Hid (W6.ownsRow Yc.heap.size 28 5 va LB.length (ivs LB)) := row_up HRA.out HY.out
    have HRB : Hid (W6.ownsRow W3.heap.size 28 5 vb LB.length (ivs LB)) := row_up HRB.out HY.out
    have HS5 : Hid (W5.heap.size ≤ W6.heap.size) := HY.out.size
    have HU : Hid (Up w W6) := HU.out.trans HY.out
    clear HY HX HX3 HW HRW HGra HGrb HWL
    go_wp2_with fail
    go_loopw [21] (fun s21 W => ∃ (i : Nat) (C : List Int), i ≤ n ∧ s21 = .int .i64 i ∧ OC w g n C W ∧ Kg g W6 W ∧ Up w W) (fun s21 _ => n - (intOf s21).toNat)
    case atStart => exact ⟨0, B, Nat.zero_le _, rfl, HOC0.out, Kg.refl _ _, HU.out⟩
    case round =>
      clear HOC0 HU
      obtain ⟨i, C, hi, rfl, hoc, hkg, hup⟩ := hrel
      have HOC : Hid (OC w g n C wr) := hoc
      have HK : Hid (Kg g W6 wr) := hkg
      have HU : Hid (Up w wr) := hup
      have hng := HN0.out
      clear hoc hkg hup
      by_cases hlt : i < n
      · have hlt2 : (i : Int) < (n : Int) := by omega
        have ei : IntKind.i64.wrap ((i : Int) + 1) = ((i + 1 : Nat) : Int) := by rw [IntKind.wrap_i64]; omega
        have x1 := HOC.out.cell hlt
        have f1 := HOC.out.frozen i
        have HOC2 : Hid (OC w g n (C.set i (bits .xor .u8 (C.getD i 0) 8)) (wr.setCell ⟨g, i, none⟩ (.int .u8 (bits .xor .u8 (C.getD i 0) 8)))) := HOC.out.set hlt (xor8 _ (HOC.out.byt.at i))
        have HK2 : Hid (Kg g W6 (wr.setCell ⟨g, i, none⟩ (.int .u8 (bits .xor .u8 (C.getD i 0) 8)))) := HK.out.set _ _
        have HU2 : Hid (Up w (wr.setCell ⟨g, i, none⟩ (.int .u8 (bits .xor .u8 (C.getD i 0) 8)))) := Below.setCell HU.out HOC.out.le _
        generalize C.getD i 0 = d at *
        go_wp2_with fail
        go_roundw
        case rel => exact ⟨i + 1, _, by omega, by go_num, HOC2.out, HK2.out, HU2.out⟩
        case measure => simp [intOf]; omega
      · have hlt2 : ¬ (i : Int) < (n : Int) := by omega
        have HCA0 : Hid (∀ W, BL W (.slice (some ⟨g, 0, none⟩) n (n + 64)) C → Calls Tryd.prog 16 #[.slice (some ⟨g, 0, none⟩) n (n + 64)] W (AllQ C W)) := fun W h => All_ _ C W h HOC.out.byt (by have := HOC.out.len; omega)
        have HLC : Hid ((allR C).1.length ≤ 16777216) := by have h8 := allR_len C; have h9 := HOC.out.len; unfold Hid; omega
        have HRA : Hid (wr.ownsRow Yc.heap.size 28 5 va LB.length (ivs LB)) := row_kg HRA.out HK.out (Nat.lt_of_lt_of_le HG2.out.1 HS3.out.2)
        have HRB : Hid (wr.ownsRow W3.heap.size 28 5 vb LB.length (ivs LB)) := row_kg HRB.out HK.out (Nat.lt_of_lt_of_le HG2.out.1 HS3.out.1)
        obtain ⟨h5, hh5⟩ : ∃ h, h = W3.heap.size := ⟨_, rfl⟩
        obtain ⟨h6, hh6⟩ : ∃ h, h = wr.heap.size := ⟨_, rfl⟩
        have HSA : Hid ((∀ g, va.ownBlock = some g → g < h5) ∧ (∀ g, vb.ownBlock = some g → h5 ≤ g ∧ g < h6)) := by
          have h8 := HK.out.1
          have h7 := HS5.out
          have h6' := HS4.out
          exact ⟨fun g hg => by have := HAL.out g hg; omega, fun g hg => by have := HBL.out g hg; omega⟩
        have HW60 : Hid (w.heap.size ≤ h6) := by
          have h9 := HU.out.size
          unfold Hid
          omega
        have HH0 : Hid (h5 ≤ h6) := by
          have h8 := HK.out.1
          have h7 := HS5.out
          have h6' := HS4.out
          unfold Hid
          omega
        have HCR0 : Hid (∀ (u : Value) (W : World), BL W u C → Calls Tryd.prog 17 #[u] W (AllQ C W)) := fun u W h => rAll_ u C W h HOC.out.byt (by have := HOC.out.len; omega)
        clear hh5 HK HAL HBL
        obtain ⟨LC, hE0⟩ : ∃ L, L = (allR C).1 := ⟨_, rfl⟩
        obtain ⟨eC, hE⟩ : ∃ L, L = (allR C).2.1 := ⟨_, rfl⟩
        obtain ⟨eB, hA⟩ : ∃ L, L = (allR C).2.2 := ⟨_, rfl⟩
        unfold AllQ at HCA0 HCR0
        rw [← hE0] at HLC
        simp only [← hE0, ← hE, ← hA] at HCA0 HCR0
        clear hE0 hE hA
        have q3 : (eC == eC) = true := by simp
        have HCP0 : Hid (∀ V1, Up wr V1 → Calls Tryd.prog 21 #[.slice (some ⟨g, 0, none⟩) n (n + 64)] V1 fun e w' => ∃ u, e = .returned u ∧ w'.ownsRow V1.heap.size 5 1 u C.length (bvs C) ∧ Up V1 w') := fun V1 v1 => copyT_ _ C V1 ((HOC.out.up v1).bl (by omega)) HOC.out.byt (fun cap h => by cases h) (by have := HOC.out.len; omega)
        have HWL : Hid (∀ W, Up wr W → BL W (.slice (some ⟨g, 0, none⟩) n (n + 64)) C) := fun W x => (HOC.out.up x).bl (by omega)
        have HCA : Hid (∀ W, BL W (.slice (some ⟨g, 0, none⟩) n (n + 64)) C → Calls Tryd.prog 16 #[.slice (some ⟨g, 0, none⟩) n (n + 64)] W fun e w' => ∃ lv, e = .returned (.tuple #[lv, .int .i64 eC, .int .i64 eB]) ∧ w'.ownsRow W.heap.size 28 5 lv LC.length (ivs LC) ∧ Up W w') := fun W h => HCA0.out W h
        clear HCA0
        go_wp2_with fail
        refine Calls.mono (HCP0.out wr (Up.refl _)) ?_
        rintro r V1 ⟨uu, rfl, hru, v1⟩
        have HX : Hid (Up wr V1) := v1
        have HU : Hid (Up w V1) := HU.out.trans v1
        have HUU : Hid (∀ W, Up V1 W → BL W uu C) := fun W x => BL.up (own_bl8 hru) x
        clear hru v1 HCP0
        go_wp2_with fail
        refine Calls.mono (HCA.out V1 (HWL.out V1 HX.out)) ?_
        rintro r V2 ⟨vc, rfl, hrc, v2⟩
        have HW6 : Hid (h6 ≤ V1.heap.size) := by unfold Hid; rw [hh6]; exact HX.out.size
        have HY2 : Hid (Up V1 V2) := v2
        have HX : Hid (Up wr V2) := HX.out.trans v2
        have HU : Hid (Up w V2) := HU.out.trans v2
        have HRC1 : Hid (V2.ownsRow h6 28 5 vc LC.length (ivs LC)) := BG.own_low hrc HW6.out
        clear hrc v2 HCA
        go_wp2_with fail
        refine Calls.mono (HCR0.out uu V2 (HUU.out V2 HY2.out)) ?_
        rintro r V3 ⟨vo, rfl, hro, v3⟩
        have HX : Hid (Up wr V3) := HX.out.trans v3
        have HU : Hid (Up w V3) := HU.out.trans v3
        have HRC1 : Hid (V3.ownsRow h6 28 5 vc LC.length (ivs LC)) := row_up HRC1.out v3
        have HQ3 : Hid (∀ W, Up V3 W → Calls Tryd.prog 20 #[vc, vo] W fun e w' => e = .returned (.bool true) ∧ Up W w') := fun W x => eqIns_ _ _ LC W (own_il (row_up HRC1.out x)) (own_il (row_up hro x)) (by have := HLC.out; omega)
        clear hro v3 HCR0 HUU HY2 HWL
        go_wp2_with fail
        refine Calls.mono (HQ3.out V3 (Up.refl _)) ?_
        rintro r V5 ⟨rfl, v5⟩
        have HX : Hid (Up wr V5) := HX.out.trans v5
        have HU : Hid (Up w V5) := HU.out.trans v5
        have HR5 : Hid (V5.ownsRow w.heap.size 28 5 va LB.length (ivs LB) ∧ V5.ownsRow w.heap.size 28 5 vb LB.length (ivs LB) ∧ V5.ownsRow w.heap.size 28 5 vc LC.length (ivs LC)) := ⟨BG.own_low (row_up HRA.out HX.out) (Nat.le_trans HG2.out.2 HS3.out.2), BG.own_low (row_up HRB.out HX.out) (Nat.le_trans HG2.out.2 HS3.out.1), BG.own_low (row_up HRC1.out v5) HW60.out⟩
        have HSEP : Hid ((∀ g, va.ownBlock = some g → g < h5) ∧ (∀ g, vb.ownBlock = some g → h5 ≤ g ∧ g < h6) ∧ (∀ g, vc.ownBlock = some g → h6 ≤ g)) := ⟨HSA.out.1, HSA.out.2, fun g hg => (World.ownsRow.lt HRC1.out g hg).1⟩
        clear v5 HQ3 HX HRA HRB HRC1 HOC HSA
        obtain ⟨gb, hgb⟩ : ∃ g, g = V5.heap.size := ⟨_, rfl⟩
        obtain ⟨V6, hV6⟩ : ∃ W, W = V5.alloc (.cells #[.slice none 0 0, .slice none 0 0, .slice none 0 0, .slice none 0 0, .slice none 0 0, .slice none 0 0, .slice none 0 0, .slice none 0 0, .slice none 0 0, .slice none 0 0, .slice none 0 0, .slice none 0 0, .slice none 0 0, .slice none 0 0, .slice none 0 0, .slice none 0 0, .slice none 0 0, .slice none 0 0, .slice none 0 0, .slice none 0 0, .slice none 0 0] 61) := ⟨_, rfl⟩
        have HB0 : Hid (BG.BagG V6 w.heap.size gb (gb + 1) (fun _ => .slice none 0 0) (fun _ => [])) := by
          unfold Hid
          rw [hgb, hV6]
          exact BG.bagG_start _ _
        have u6 : Up V5 V6 := by rw [hV6]; exact (Up.refl _).alloc _
        have HR6 : Hid (∀ W, Below gb V6 W → W.ownsRow w.heap.size 28 5 va LB.length (ivs LB) ∧ W.ownsRow w.heap.size 28 5 vb LB.length (ivs LB) ∧ W.ownsRow w.heap.size 28 5 vc LC.length (ivs LC)) := fun W x => by
          obtain ⟨r1, r2, r3⟩ := HR5.out
          refine ⟨BG.own_block (row_up r1 u6) fun g hg => x.block g ?_, BG.own_block (row_up r2 u6) fun g hg => x.block g ?_, BG.own_block (row_up r3 u6) fun g hg => x.block g ?_⟩
          · have := r1.lt g hg; omega
          · have := r2.lt g hg; omega
          · have := r3.lt g hg; omega
        have HG : Hid (w.heap.size ≤ gb ∧ ∀ g, (va.ownBlock = some g → g < h5 ∧ g < gb) ∧ (vb.ownBlock = some g → h5 ≤ g ∧ g < h6 ∧ g < gb) ∧ (vc.ownBlock = some g → h6 ≤ g ∧ g < gb)) := by
          obtain ⟨r1, r2, r3⟩ := HR5.out
          obtain ⟨s1, s2, s3⟩ := HSEP.out
          rw [hgb]
          exact ⟨HU.out.size, fun g => ⟨fun h => ⟨s1 g h, (r1.lt g h).2⟩, fun h => ⟨(s2 g h).1, (s2 g h).2, (r2.lt g h).2⟩, fun h => ⟨s3 g h, (r3.lt g h).2⟩⟩⟩
        have HU6 : Hid (Up w V6) := HU.out.trans u6
        have HXZ : Hid (LB.length ≤ 4294967296 ∧ LC.length ≤ 4294967296) := ⟨by have h9 := HLB.out; omega, by have h9 := HLC.out; omega⟩
        have HH : Hid (h5 ≤ h6) := HH0.out
        clear u6 HR5 HU HSEP
        go_wp2_with fail
        rw [← hV6, ← hgb]
        clear hV6 hgb
        refine Calls.mono (BG.addInstrs_ gb (gb + 1) w.heap.size _ _ va LB.length V6 HB0.out ⟨⟨_, (HR6.out V6 (Below.refl _ _)).1⟩, HXZ.out.1, fun g hg => ⟨((HG.out.2 g).1 hg).2, fun h => by obtain ⟨p, hp, -⟩ := h; exact absurd hp (Nat.not_lt_zero _)⟩⟩) ?_
        rintro e V7 ⟨rfl, f7, L7, d1, d2, d3, -, d5⟩
        have HB7 : Hid (BG.BagG V7 w.heap.size gb (gb + 1) f7 L7) := d1
        have HD7 : Hid (Below gb V6 V7) := d2
        have HK7 : Hid (∀ g, BG.Blks (L7 11) g → g < h5) := fun g hg => by
          rcases d3 11 g hg with h | h
          · obtain ⟨p, hp, -⟩ := h; exact absurd hp (Nat.not_lt_zero _)
          · exact ((HG.out.2 g).1 h.2).1
        have HJ7 : Hid (∀ j, j ∉ [11] → L7 j = []) := d5
        clear d1 d2 d3 d5 HB0
        go_wp2_with fail
        refine Calls.mono (BG.addInstrs_ gb (gb + 1) w.heap.size _ _ vb LB.length V7 HB7.out ⟨⟨_, (HR6.out V7 HD7.out).2.1⟩, HXZ.out.1, fun g hg => ⟨((HG.out.2 g).2.1 hg).2.2, fun h => by have := HK7.out g h; have := (HG.out.2 g).2.1 hg; omega⟩⟩) ?_
        rintro e V8 ⟨rfl, f8, L8, d1, d2, d3, -, d5⟩
        have HB8 : Hid (BG.BagG V8 w.heap.size gb (gb + 1) f8 L8) := d1
        have HD8 : Hid (Below gb V6 V8) := Below.trans HD7.out d2
        have HK8 : Hid (∀ g, BG.Blks (L8 11) g → g < h6) := fun g hg => by
          rcases d3 11 g hg with h | h
          · have := HK7.out g h; have := HH.out; omega
          · have := (HG.out.2 g).2.1 h.2; omega
        have HJ8 : Hid (∀ j, j ∉ [11] → L8 j = []) := fun j hj => (d5 j hj).trans (HJ7.out j hj)
        clear d1 d2 d3 d5 HB7 HD7 HK7 HJ7
        go_wp2_with fail
        refine Calls.mono (BG.addInstrs_ gb (gb + 1) w.heap.size _ _ vc LC.length V8 HB8.out ⟨⟨_, (HR6.out V8 HD8.out).2.2⟩, HXZ.out.2, fun g hg => ⟨((HG.out.2 g).2.2 hg).2, fun h => by have := HK8.out g h; have := (HG.out.2 g).2.2 hg; omega⟩⟩) ?_
        rintro e V9 ⟨rfl, f9, L9, d1, d2, -, -, d5⟩
        have HB9 : Hid (BG.BagG V9 w.heap.size gb (gb + 1) f9 L9) := d1
        have HD9 : Hid (Below w.heap.size w V9) := Below.trans HU6.out ((Below.trans HD8.out d2).mono HG.out.1)
        have HJ9 : Hid (∀ k, k < 21 → k ≠ 11 → L9 k = []) := fun j _ h1 => (d5 j (by simp; omega)).trans (HJ8.out j (by simp; omega))
        clear d1 d2 d5 HB8 HD8 HK8 HJ8
        go_wp2_with fail
        refine Calls.mono (BG.apartBxd_ V9 w.heap.size gb (gb + 1) f9 L9 HB9.out HG.out.1 HJ9.out) ?_
        rintro e V10 ⟨rfl, d1⟩
        have HD10 : Hid (Up w V10) := Below.trans HD9.out d1
        clear d1 HD9 HB9 HJ9
        go_wp2_with fail
        rw [HPo.out]
        exact ⟨rfl, HU0.out.trans HD10.out⟩
end CD
end Go.Proofs.YtoaaehgnbapibaaDoor
