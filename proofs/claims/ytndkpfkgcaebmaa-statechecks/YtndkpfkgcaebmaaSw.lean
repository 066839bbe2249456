/-
  StateWheres: the law's walk.
-/
import Derived.Test.YtndkpfkgcaebmaaTi
import Derived.Test.YtndkpfkgcaebmaaEq
import Derived.Test.YtndkpfkgcaebmaaSq
import Derived.Test.YtndkpfkgcaebmaaWk
namespace Go.Proofs.Ytndkpfkgcaebmaa
open Go.RowKit
attribute [local go_sem ↓] Go.wp_at_zero Go.wp_at_succ

namespace ST
theorem eqS_refl (s : Stt) : eqS s s = true := by simp [eqS]
theorem whV_is (r : Option (Nat × Nat)) : ∃ (z i : Int) (b : Bool), whV r = .tuple #[.int .i64 z, .int .i64 i, .bool b] := ⟨_, _, _, rfl⟩
set_option maxRecDepth 100000 in
set_option maxHeartbeats 8000000 in
theorem wheres (v : Value) (s : Stt) (c : Int) (w : World) (hs : StL w v s) (hf : Far s) :
    Calls Try.prog 4 #[v, .int .i64 c] w fun e w' => e = .returned (.bool true) ∧ Up w w' := by
  obtain ⟨Post, hPost⟩ : ∃ P : Ending → World → Prop, P = fun e w' => e = .returned (.bool true) ∧ Up w w' := ⟨_, rfl⟩
  rw [← hPost]
  have HP : Hid (Post = fun e w' => e = .returned (.bool true) ∧ Up w w') := hPost
  have HS : Hid (StL w v s) := hs
  have HL : Hid _ := long_ v s _ (hs.up ((Up.refl w).alloc (.cells v.cells 27))) hf
  obtain ⟨vp, vc, vz, rfl, -, h2, -⟩ := hs
  obtain ⟨a2, k2, rfl, -, -⟩ := lc_at h2
  clear hPost h2 hf
  by_cases hlong : 2147483647 < lenS s
  · rw [decide_eq_true hlong] at HL
    unfold sv at HL ⊢
    clear HS hlong
    go_enter Try.func4, Try.ntmps4
    go_wp2_with fail
    refine Calls.mono HL.out ?_
    rintro e w1 ⟨rfl, u1⟩
    have HU : Hid (Up w w1) := ((Up.refl w).alloc _).trans u1
    clear HL u1
    go_wp2
    rw [HP.out]
    exact ⟨rfl, HU.out⟩
  · rw [decide_eq_false hlong] at HL
    have hlen : lenS s ≤ 2147483647 := by omega
    have HSm : Hid (Small s ∧ ThingsOk s) := ⟨small_of hlen, thingsOk s (small_of hlen) (by unfold lenS at hlen; omega)⟩
    have hmm : s.cs.length ≤ 2147483647 := by unfold lenS at hlen; omega
    clear hlong hlen
    have HSV : Hid (∀ x y z, sv x y z s = .agg #[x, y, z, .int .i32 s.turn, .int .i64 s.whose, .int .i8 s.fin, .int .i64 s.winner]) := fun _ _ _ => rfl
    unfold sv at HL HS ⊢
    obtain ⟨m, hm⟩ : ∃ m, m = s.cs.length := ⟨_, rfl⟩
    rw [← hm] at HL HS hmm ⊢
    clear hm
    generalize s.turn = tu at HSV HL HS ⊢
    generalize s.whose = wo at HSV HL HS ⊢
    generalize s.fin = fi at HSV HL HS ⊢
    generalize s.winner = wi at HSV HL HS ⊢
    go_enter Try.func4, Try.ntmps4
    go_wp2_with fail
    refine Calls.mono HL.out ?_
    rintro e w1 ⟨rfl, u1⟩
    have hb1 : w1.heap[w.heap.size]? = some (.cells #[vp, .slice a2 m k2, vz, .int .i32 tu, .int .i64 wo, .int .i8 fi, .int .i64 wi] 27 (0, 0)) := u1.heap (heap_alloc_new w _)
    have HB1 : Hid (w1.heap[w.heap.size]? = some (.cells #[vp, .slice a2 m k2, vz, .int .i32 tu, .int .i64 wo, .int .i8 fi, .int .i64 wi] 27 (0, 0))) := hb1
    have HU1 : Hid (Up w w1) := ((Up.refl w).alloc _).trans u1
    obtain ⟨y0, y1, y2, y3, y4, y5, y6⟩ := seven_cells hb1
    clear HL u1 hb1
    go_wp2_with fail
    refine Calls.mono (wideState_ _ s w1 (HS.out.up HU1.out) HSm.out.1) ?_
    rintro e w2 ⟨x, rfl, hx, u2⟩
    have HX : Hid (WS w1.heap.size w2 x s) := hx
    obtain ⟨xp, xc, xz, rfl, hx1, hx2, hx3⟩ := hx
    obtain ⟨xa1, xk1, rfl⟩ := WP.val hx1
    obtain ⟨xa2, xk2, rfl⟩ := WC.val hx2
    obtain ⟨xa3, xk3, rfl⟩ := WZ.val hx3
    clear hx1 hx2 hx3
    obtain ⟨n1, hn1⟩ : ∃ n, n = s.ps.length := ⟨_, rfl⟩
    obtain ⟨n2, hn2⟩ : ∃ n, n = s.cs.length := ⟨_, rfl⟩
    obtain ⟨n3, hn3⟩ : ∃ n, n = s.zs.length := ⟨_, rfl⟩
    rw [← hn1, ← hn2, ← hn3] at HX ⊢
    clear hn1 hn2 hn3
    have HB2 : Hid (w2.heap[w.heap.size]? = some (.cells #[vp, .slice a2 m k2, vz, .int .i32 tu, .int .i64 wo, .int .i8 fi, .int .i64 wi] 27 (0, 0))) := u2.heap HB1.out
    have HU2 : Hid (Up w w2) := HU1.out.trans u2
    rw [HSV.out] at HX ⊢
    clear u2 HB1 HU1 y0 y1 y2 y3 y4 y5 y6 HSV
    go_wp2_with fail
    obtain ⟨W3, hW3⟩ : ∃ W, W = w2.alloc (.cells #[.slice xa1 n1 xk1, .slice xa2 n2 xk2, .slice xa3 n3 xk3, .int .i32 tu, .int .i64 wo, .int .i8 fi, .int .i64 wi] 27) := ⟨_, rfl⟩
    have hb3 : W3.heap[w2.heap.size]? = some (.cells #[.slice xa1 n1 xk1, .slice xa2 n2 xk2, .slice xa3 n3 xk3, .int .i32 tu, .int .i64 wo, .int .i8 fi, .int .i64 wi] 27 (0, 0)) := by rw [hW3]; exact heap_alloc_new w2 _
    have hu3 : Up w2 W3 := by rw [hW3]; exact (Up.refl _).alloc _
    rw [← hW3]
    have HY : Hid (∀ W, Up W3 W → W.heap[w.heap.size]? = some (.cells #[vp, .slice a2 m k2, vz, .int .i32 tu, .int .i64 wo, .int .i8 fi, .int .i64 wi] 27 (0, 0)) ∧ W.heap[w2.heap.size]? = some (.cells #[.slice xa1 n1 xk1, .slice xa2 n2 xk2, .slice xa3 n3 xk3, .int .i32 tu, .int .i64 wo, .int .i8 fi, .int .i64 wi] 27 (0, 0)) ∧ StL W (.agg #[vp, .slice a2 m k2, vz, .int .i32 tu, .int .i64 wo, .int .i8 fi, .int .i64 wi]) s ∧ WS w1.heap.size W (.agg #[.slice xa1 n1 xk1, .slice xa2 n2 xk2, .slice xa3 n3 xk3, .int .i32 tu, .int .i64 wo, .int .i8 fi, .int .i64 wi]) s ∧ Up w W) := fun W u =>
      ⟨u.heap (hu3.heap HB2.out), u.heap hb3, HS.out.up (HU2.out.trans (hu3.trans u)), HX.out.up (hu3.trans u), HU2.out.trans (hu3.trans u)⟩
    clear hb3 hu3 hW3 HB2 HU2 HX HS
    obtain ⟨z8, i8, t8, hwv⟩ := whV_is (whereOf s c)
    have HV1 : Hid (∀ W, Up W3 W → Calls Try.prog 15 #[.agg #[.slice xa1 n1 xk1, .slice xa2 n2 xk2, .slice xa3 n3 xk3, .int .i32 tu, .int .i64 wo, .int .i8 fi, .int .i64 wi], .int .i64 c] W fun e w' => e = .returned (.tuple #[.int .i64 z8, .int .i64 i8, .bool t8]) ∧ Up W w') := fun W u => by
      rw [← hwv]; exact where_ _ s c W (HY.out W u).2.2.2.1.sl HSm.out.1
    have HV2 : Hid (∀ W, Up W3 W → Calls Try.prog 16 #[.agg #[vp, .slice a2 m k2, vz, .int .i32 tu, .int .i64 wo, .int .i8 fi, .int .i64 wi], .int .i64 c] W fun e w' => e = .returned (.tuple #[.int .i64 z8, .int .i64 i8, .bool t8]) ∧ Up W w') := fun W u => by
      rw [← hwv]; exact rwhere_ _ s c W (HY.out W u).2.2.1 HSm.out.1 HSm.out.2
    clear hwv
    go_loopw [6, 7, 8, 9, 10, 11, 12] (fun s6 s7 s8 s9 s10 s11 s12 W => ∃ d : Int, -1 ≤ d ∧ d ≤ 301 ∧ s6 = .int .i64 d ∧ Up W3 W) (fun s6 s7 s8 s9 s10 s11 s12 _ => (301 - intOf s6).toNat)
    case atStart => exact ⟨-1, by omega, by omega, rfl, Up.refl _⟩
    case round =>
      obtain ⟨d, hd1, hd2, rfl, hu⟩ := hrel
      have HU : Hid (Up W3 wr) := hu
      obtain ⟨hk1, hk2, -, -, -⟩ := HY.out wr hu
      obtain ⟨y0, y1, y2, y3, y4, y5, y6⟩ := seven_cells hk1
      obtain ⟨x0, x1, x2, x3, x4, x5, x6⟩ := seven_cells hk2
      clear hk1 hk2 hu
      by_cases hdm : d ≤ (m : Int)
      · by_cases hd3 : d ≤ 300
        · obtain ⟨z9, i9, t9, hwv⟩ := whV_is (whereOf s d)
          have HW1 : Hid (∀ W, Up W3 W → Calls Try.prog 15 #[.agg #[.slice xa1 n1 xk1, .slice xa2 n2 xk2, .slice xa3 n3 xk3, .int .i32 tu, .int .i64 wo, .int .i8 fi, .int .i64 wi], .int .i64 d] W fun e w' => e = .returned (.tuple #[.int .i64 z9, .int .i64 i9, .bool t9]) ∧ Up W w') := fun W u => by
            rw [← hwv]; exact where_ _ s d W (HY.out W u).2.2.2.1.sl HSm.out.1
          have HW2 : Hid (∀ W, Up W3 W → Calls Try.prog 16 #[.agg #[vp, .slice a2 m k2, vz, .int .i32 tu, .int .i64 wo, .int .i8 fi, .int .i64 wi], .int .i64 d] W fun e w' => e = .returned (.tuple #[.int .i64 z9, .int .i64 i9, .bool t9]) ∧ Up W w') := fun W u => by
            rw [← hwv]; exact rwhere_ _ s d W (HY.out W u).2.2.1 HSm.out.1 HSm.out.2
          clear hwv
          by_cases hd0 : d < 0
          · have hd9 : d = -1 := by omega
            subst hd9
            go_wp2_with fail
            refine Calls.mono (HW1.out _ HU.out) ?_
            rintro e w4 ⟨rfl, u4⟩
            have HU4 : Hid (Up W3 w4) := HU.out.trans u4
            obtain ⟨hk1, hk2, -, -, -⟩ := HY.out w4 HU4.out
            obtain ⟨y0, y1, y2, y3, y4, y5, y6⟩ := seven_cells hk1
            clear u4 hk1 hk2 HW1 HU x0 x1 x2 x3 x4 x5 x6
            go_wp2_with fail
            refine Calls.mono (HW2.out _ HU4.out) ?_
            rintro e w5 ⟨rfl, u5⟩
            have HU5 : Hid (Up W3 w5) := HU4.out.trans u5
            clear u5 HU4 HW2 y0 y1 y2 y3 y4 y5 y6
            go_wp2_with fail
            go_roundw
            case rel => exact ⟨0, by omega, by omega, rfl, HU5.out⟩
            case measure => simp [intOf]
          · go_wp2_with fail
            refine Calls.mono (HW1.out _ HU.out) ?_
            rintro e w4 ⟨rfl, u4⟩
            have HU4 : Hid (Up W3 w4) := HU.out.trans u4
            obtain ⟨hk1, hk2, -, -, -⟩ := HY.out w4 HU4.out
            obtain ⟨y0, y1, y2, y3, y4, y5, y6⟩ := seven_cells hk1
            clear u4 hk1 hk2 HW1 HU x0 x1 x2 x3 x4 x5 x6
            go_wp2_with fail
            refine Calls.mono (HW2.out _ HU4.out) ?_
            rintro e w5 ⟨rfl, u5⟩
            have HU5 : Hid (Up W3 w5) := HU4.out.trans u5
            clear u5 HU4 HW2 y0 y1 y2 y3 y4 y5 y6
            go_wp2_with fail
            go_roundw
            case rel => exact ⟨d + 1, by omega, by omega, by go_num, HU5.out⟩
            case measure => simp [intOf]; omega
        · go_wp2_with fail
          refine Calls.mono (HV1.out _ HU.out) ?_
          rintro e w4 ⟨rfl, u4⟩
          have HU4 : Hid (Up W3 w4) := HU.out.trans u4
          obtain ⟨hk1, hk2, -, -, -⟩ := HY.out w4 HU4.out
          clear y0 y1 y2 y3 y4 y5 y6 x0 x1 x2 x3 x4 x5 x6
          obtain ⟨y0, y1, y2, y3, y4, y5, y6⟩ := seven_cells hk1
          clear u4 hk1 hk2 HV1 HU
          go_wp2_with fail
          refine Calls.mono (HV2.out _ HU4.out) ?_
          rintro e w5 ⟨rfl, u5⟩
          have HU5 : Hid (Up W3 w5) := HU4.out.trans u5
          obtain ⟨hk1, hk2, -, -, -⟩ := HY.out w5 HU5.out
          clear y0 y1 y2 y3 y4 y5 y6
          obtain ⟨y0, y1, y2, y3, y4, y5, y6⟩ := seven_cells hk1
          obtain ⟨x0, x1, x2, x3, x4, x5, x6⟩ := seven_cells hk2
          clear u5 hk1 hk2 HV2 HU4
          go_wp2_with fail
          refine Calls.mono (eqState_ _ _ s s w5 (HY.out w5 HU5.out).2.2.2.1.sl (HY.out w5 HU5.out).2.2.1 HSm.out.1 (eqS_refl s)) ?_
          rintro e w6 ⟨rfl, u6⟩
          have HU6 : Hid (Up W3 w6) := HU5.out.trans u6
          obtain ⟨hk1, hk2, -, -, -⟩ := HY.out w6 HU6.out
          clear y0 y1 y2 y3 y4 y5 y6 x0 x1 x2 x3 x4 x5 x6
          obtain ⟨x0, x1, x2, x3, x4, x5, x6⟩ := seven_cells hk2
          clear u6 hk1 hk2 HU5
          go_wp2_with fail
          refine Calls.mono (spareState_ w1.heap.size _ s w6 (HY.out w6 HU6.out).2.2.2.1 HSm.out.1) ?_
          rintro e w7 ⟨rfl, u7⟩
          have HU7 : Hid (Up W3 w7) := HU6.out.trans u7
          clear u7 HU6 x0 x1 x2 x3 x4 x5 x6
          go_wp2_with fail
          refine Calls.mono (works_ w7) ?_
          rintro e w8 ⟨rfl, u8⟩
          have HU8 : Hid (Up w w8) := (HY.out w7 HU7.out).2.2.2.2.trans u8
          clear u8 HU7
          go_wp2
          rw [HP.out]
          exact ⟨rfl, HU8.out⟩
      · go_wp2_with fail
        refine Calls.mono (HV1.out _ HU.out) ?_
        rintro e w4 ⟨rfl, u4⟩
        have HU4 : Hid (Up W3 w4) := HU.out.trans u4
        obtain ⟨hk1, hk2, -, -, -⟩ := HY.out w4 HU4.out
        clear y0 y1 y2 y3 y4 y5 y6 x0 x1 x2 x3 x4 x5 x6
        obtain ⟨y0, y1, y2, y3, y4, y5, y6⟩ := seven_cells hk1
        clear u4 hk1 hk2 HV1 HU
        go_wp2_with fail
        refine Calls.mono (HV2.out _ HU4.out) ?_
        rintro e w5 ⟨rfl, u5⟩
        have HU5 : Hid (Up W3 w5) := HU4.out.trans u5
        obtain ⟨hk1, hk2, -, -, -⟩ := HY.out w5 HU5.out
        clear y0 y1 y2 y3 y4 y5 y6
        obtain ⟨y0, y1, y2, y3, y4, y5, y6⟩ := seven_cells hk1
        obtain ⟨x0, x1, x2, x3, x4, x5, x6⟩ := seven_cells hk2
        clear u5 hk1 hk2 HV2 HU4
        go_wp2_with fail
        refine Calls.mono (eqState_ _ _ s s w5 (HY.out w5 HU5.out).2.2.2.1.sl (HY.out w5 HU5.out).2.2.1 HSm.out.1 (eqS_refl s)) ?_
        rintro e w6 ⟨rfl, u6⟩
        have HU6 : Hid (Up W3 w6) := HU5.out.trans u6
        obtain ⟨hk1, hk2, -, -, -⟩ := HY.out w6 HU6.out
        clear y0 y1 y2 y3 y4 y5 y6 x0 x1 x2 x3 x4 x5 x6
        obtain ⟨x0, x1, x2, x3, x4, x5, x6⟩ := seven_cells hk2
        clear u6 hk1 hk2 HU5
        go_wp2_with fail
        refine Calls.mono (spareState_ w1.heap.size _ s w6 (HY.out w6 HU6.out).2.2.2.1 HSm.out.1) ?_
        rintro e w7 ⟨rfl, u7⟩
        have HU7 : Hid (Up W3 w7) := HU6.out.trans u7
        clear u7 HU6 x0 x1 x2 x3 x4 x5 x6
        go_wp2_with fail
        refine Calls.mono (works_ w7) ?_
        rintro e w8 ⟨rfl, u8⟩
        have HU8 : Hid (Up w w8) := (HY.out w7 HU7.out).2.2.2.2.trans u8
        clear u8 HU7
        go_wp2
        rw [HP.out]
        exact ⟨rfl, HU8.out⟩
end ST
end Go.Proofs.Ytndkpfkgcaebmaa
