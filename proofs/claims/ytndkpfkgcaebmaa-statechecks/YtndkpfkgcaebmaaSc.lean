/-
  StateChecks: the law's walk.
-/
import Derived.Test.YtndkpfkgcaebmaaSw
import Derived.Test.YtndkpfkgcaebmaaWn
import Derived.Test.YtndkpfkgcaebmaaEq
import Derived.Test.YtndkpfkgcaebmaaSq
import Derived.Test.YtndkpfkgcaebmaaWk
namespace Go.Proofs.Ytndkpfkgcaebmaa
open Go.RowKit
attribute [local go_sem ↓] Go.wp_at_zero Go.wp_at_succ

namespace ST
theorem ckV_is (r : Option Nat) : ∃ (e a : Int), ckV r = .tuple #[.int .i64 e, .int .i64 a] := ⟨_, _, rfl⟩
set_option maxRecDepth 100000 in
set_option maxHeartbeats 8000000 in
theorem checks (v : Value) (s : Stt) (w : World) (hs : StL w v s) (hf : Far s) :
    Calls Try.prog 3 #[v] w fun e w' => e = .returned (.bool true) ∧ Up w w' := by
  obtain ⟨Post, hPost⟩ : ∃ P : Ending → World → Prop, P = fun e w' => e = .returned (.bool true) ∧ Up w w' := ⟨_, rfl⟩
  rw [← hPost]
  have HP : Hid (Post = fun e w' => e = .returned (.bool true) ∧ Up w w') := hPost
  have HS : Hid (StL w v s) := hs
  have HL : Hid _ := long_ v s _ (hs.up ((Up.refl w).alloc (.cells v.cells 27))) hf
  obtain ⟨vp, vc, vz, rfl, -, h2, -⟩ := hs
  obtain ⟨a2, k2, rfl, -, -⟩ := lc_at h2
  clear hPost h2 hf
  by_cases hlong : 2147483647 < lenS s
  · rw [decide_eq_true hlong] at HL
    unfold sv at HL ⊢
    clear HS hlong
    go_enter Try.func3, Try.ntmps3
    go_wp2_with fail
    refine Calls.mono HL.out ?_
    rintro e w1 ⟨rfl, u1⟩
    have HU : Hid (Up w w1) := ((Up.refl w).alloc _).trans u1
    clear HL u1
    go_wp2
    rw [HP.out]
    exact ⟨rfl, HU.out⟩
  · rw [decide_eq_false hlong] at HL
    have hlen : lenS s ≤ 2147483647 := by omega
    have HSm : Hid (Small s ∧ ThingsOk s ∧ (flat s).length ≤ 4294967296) := ⟨small_of hlen, thingsOk s (small_of hlen) (by unfold lenS at hlen; omega), by unfold lenS at hlen; omega⟩
    have hmm : s.cs.length ≤ 2147483647 := by unfold lenS at hlen; omega
    have hzz : s.zs.length ≤ 2147483647 := by unfold lenS at hlen; omega
    clear hlong hlen
    have HSV : Hid (∀ x y z, sv x y z s = .agg #[x, y, z, .int .i32 s.turn, .int .i64 s.whose, .int .i8 s.fin, .int .i64 s.winner]) := fun _ _ _ => rfl
    unfold sv at HL HS ⊢
    obtain ⟨m, hm⟩ : ∃ m, m = s.cs.length := ⟨_, rfl⟩
    obtain ⟨nz, hnz⟩ : ∃ m, m = s.zs.length := ⟨_, rfl⟩
    obtain ⟨np, hnp⟩ : ∃ m, m = s.ps.length := ⟨_, rfl⟩
    have HN : Hid (m = s.cs.length ∧ nz = s.zs.length ∧ np = s.ps.length) := ⟨hm, hnz, hnp⟩
    rw [← hm] at HL HS hmm ⊢
    rw [← hnz] at hzz
    clear hm hnz hnp
    generalize s.turn = tu at HSV HL HS ⊢
    generalize s.whose = wo at HSV HL HS ⊢
    generalize s.fin = fi at HSV HL HS ⊢
    generalize s.winner = wi at HSV HL HS ⊢
    go_enter Try.func3, Try.ntmps3
    go_wp2_with fail
    refine Calls.mono HL.out ?_
    rintro e w1 ⟨rfl, u1⟩
    have hb1 : w1.heap[w.heap.size]? = some (.cells #[vp, .slice a2 m k2, vz, .int .i32 tu, .int .i64 wo, .int .i8 fi, .int .i64 wi] 27 (0, 0)) := u1.heap (heap_alloc_new w _)
    have HB1 : Hid (w1.heap[w.heap.size]? = some (.cells #[vp, .slice a2 m k2, vz, .int .i32 tu, .int .i64 wo, .int .i8 fi, .int .i64 wi] 27 (0, 0))) := hb1
    have HU1 : Hid (Up w w1) := ((Up.refl w).alloc _).trans u1
    obtain ⟨y0, y1, y2, y3, y4, y5, y6⟩ := seven_cells hb1
    clear HL u1 hb1
    go_wp2_with fail
    refine Calls.mono (wideState_ _ s w1 (HS.out.up HU1.out) HSm.out.1) ?_
    rintro e w2 ⟨x, rfl, hx, u2⟩
    have HX : Hid (WS w1.heap.size w2 x s) := hx
    have HU2 : Hid (Up w w2) := HU1.out.trans u2
    have HB2 : Hid (w2.heap[w.heap.size]? = some (.cells #[vp, .slice a2 m k2, vz, .int .i32 tu, .int .i64 wo, .int .i8 fi, .int .i64 wi] 27 (0, 0))) := u2.heap HB1.out
    obtain ⟨gP, gC, gZ, vs, hxv, hks⟩ := ks_of hx HB2.out HU2.out HU1.out.size
    have HK2 : Hid _ := hks
    rw [HSV.out, ← HN.out.1, ← HN.out.2.1, ← HN.out.2.2] at hxv
    subst hxv
    have HSV2 : Hid (∀ s2, Small s → KS w s2 w2.heap.size #[.slice (some ⟨gP, 0, none⟩) np (np + 64), .slice (some ⟨gC, 0, none⟩) m (m + 64), .slice (some ⟨gZ, 0, none⟩) nz (nz + 64), .int .i32 tu, .int .i64 wo, .int .i8 fi, .int .i64 wi] gP gC gZ vs s → ∃ s3, StL s2 (.agg #[.slice (some ⟨gP, 0, none⟩) np (np + 64), .slice (some ⟨gC, 0, none⟩) m (m + 64), .slice (some ⟨gZ, 0, none⟩) nz (nz + 64), .int .i32 tu, .int .i64 wo, .int .i8 fi, .int .i64 wi]) s3 ∧ Small s3 ∧ (flat s3).length = (flat s).length) := fun W hs hk => by
      have := hk.state hs
      rw [HSV.out, ← HN.out.1, ← HN.out.2.1, ← HN.out.2.2] at this
      exact this
    clear u2 HB1 HU1 y0 y1 y2 y3 y4 y5 y6 HSV hx hks
    go_wp2_with fail
    obtain ⟨W3, hW3⟩ : ∃ W, W = w2.alloc (.cells #[.slice (some ⟨gP, 0, none⟩) np (np + 64), .slice (some ⟨gC, 0, none⟩) m (m + 64), .slice (some ⟨gZ, 0, none⟩) nz (nz + 64), .int .i32 tu, .int .i64 wo, .int .i8 fi, .int .i64 wi] 27) := ⟨_, rfl⟩
    have hb3 : W3.heap[w2.heap.size]? = some (.cells #[.slice (some ⟨gP, 0, none⟩) np (np + 64), .slice (some ⟨gC, 0, none⟩) m (m + 64), .slice (some ⟨gZ, 0, none⟩) nz (nz + 64), .int .i32 tu, .int .i64 wo, .int .i8 fi, .int .i64 wi] 27 (0, 0)) := by rw [hW3]; exact heap_alloc_new w2 _
    have hu3 : Up w2 W3 := by rw [hW3]; exact (Up.refl _).alloc _
    rw [← hW3]
    have HY : Hid (∀ W, Up W3 W → W.heap[w.heap.size]? = some (.cells #[vp, .slice a2 m k2, vz, .int .i32 tu, .int .i64 wo, .int .i8 fi, .int .i64 wi] 27 (0, 0)) ∧ W.heap[w2.heap.size]? = some (.cells #[.slice (some ⟨gP, 0, none⟩) np (np + 64), .slice (some ⟨gC, 0, none⟩) m (m + 64), .slice (some ⟨gZ, 0, none⟩) nz (nz + 64), .int .i32 tu, .int .i64 wo, .int .i8 fi, .int .i64 wi] 27 (0, 0)) ∧ StL W (.agg #[vp, .slice a2 m k2, vz, .int .i32 tu, .int .i64 wo, .int .i8 fi, .int .i64 wi]) s ∧ WS w1.heap.size W (.agg #[.slice (some ⟨gP, 0, none⟩) np (np + 64), .slice (some ⟨gC, 0, none⟩) m (m + 64), .slice (some ⟨gZ, 0, none⟩) nz (nz + 64), .int .i32 tu, .int .i64 wo, .int .i8 fi, .int .i64 wi]) s ∧ Up w W) := fun W u =>
      ⟨u.heap (hu3.heap HB2.out), u.heap hb3, HS.out.up (HU2.out.trans (hu3.trans u)), HX.out.up (hu3.trans u), HU2.out.trans (hu3.trans u)⟩
    have HK3 : Hid (∀ W, Up W3 W → KS w W w2.heap.size #[.slice (some ⟨gP, 0, none⟩) np (np + 64), .slice (some ⟨gC, 0, none⟩) m (m + 64), .slice (some ⟨gZ, 0, none⟩) nz (nz + 64), .int .i32 tu, .int .i64 wo, .int .i8 fi, .int .i64 wi] gP gC gZ vs s) := fun W u => ⟨u.heap hb3, (KS.up HK2.out (hu3.trans u)).2⟩
    clear hb3 hu3 HB2 HU2 HX HS HK2
    obtain ⟨e9, t9, hck⟩ := ckV_is (ff s)
    have HC1 : Hid (∀ W, Up W3 W → Calls Try.prog 9 #[.agg #[.slice (some ⟨gP, 0, none⟩) np (np + 64), .slice (some ⟨gC, 0, none⟩) m (m + 64), .slice (some ⟨gZ, 0, none⟩) nz (nz + 64), .int .i32 tu, .int .i64 wo, .int .i8 fi, .int .i64 wi]] W fun e w' => e = .returned (.tuple #[.int .i64 e9, .int .i64 t9]) ∧ Up W w') := fun W u => by
      rw [← hck]; exact check_ _ s W (HY.out W u).2.2.2.1.sl HSm.out.1
    have HC2 : Hid (∀ W, Up W3 W → Calls Try.prog 10 #[.agg #[vp, .slice a2 m k2, vz, .int .i32 tu, .int .i64 wo, .int .i8 fi, .int .i64 wi]] W fun e w' => e = .returned (.tuple #[.int .i64 e9, .int .i64 t9]) ∧ Up W w') := fun W u => by
      rw [← hck]; exact rcheck_ _ s W (HY.out W u).2.2.1 HSm.out.2.1
    clear hck
    obtain ⟨hk1, hk2, -, -, -⟩ := HY.out W3 (Up.refl _)
    obtain ⟨x0, x1, x2, x3, x4, x5, x6⟩ := seven_cells hk2
    clear hk1 hk2 hW3
    go_wp2_with fail
    refine Calls.mono (HC1.out _ (Up.refl _)) ?_
    rintro e w4 ⟨rfl, u4⟩
    have HU4 : Hid (Up W3 w4) := u4
    obtain ⟨hk1, hk2, -, -, -⟩ := HY.out w4 HU4.out
    obtain ⟨y0, y1, y2, y3, y4, y5, y6⟩ := seven_cells hk1
    clear u4 hk1 hk2 HC1 x0 x1 x2 x3 x4 x5 x6
    go_wp2_with fail
    refine Calls.mono (HC2.out _ HU4.out) ?_
    rintro e w5 ⟨rfl, u5⟩
    have HU5 : Hid (Up W3 w5) := HU4.out.trans u5
    obtain ⟨hk1, hk2, -, -, -⟩ := HY.out w5 HU5.out
    clear y0 y1 y2 y3 y4 y5 y6
    obtain ⟨y0, y1, y2, y3, y4, y5, y6⟩ := seven_cells hk1
    obtain ⟨x0, x1, x2, x3, x4, x5, x6⟩ := seven_cells hk2
    clear u5 hk1 hk2 HC2 HU4
    go_wp2_with fail
    refine Calls.mono (eqState_ _ _ s s w5 (HY.out w5 HU5.out).2.2.2.1.sl (HY.out w5 HU5.out).2.2.1 HSm.out.1 (eqS_refl s)) ?_
    rintro e w6 ⟨rfl, u6⟩
    have HU6 : Hid (Up W3 w6) := HU5.out.trans u6
    obtain ⟨hk1, hk2, -, -, -⟩ := HY.out w6 HU6.out
    clear y0 y1 y2 y3 y4 y5 y6 x0 x1 x2 x3 x4 x5 x6
    obtain ⟨x0, x1, x2, x3, x4, x5, x6⟩ := seven_cells hk2
    clear u6 hk1 hk2 HU5
    go_wp2_with fail
    refine Calls.mono (spareState_ w1.heap.size _ s w6 (HY.out w6 HU6.out).2.2.2.1 HSm.out.1) ?_
    rintro e w7 ⟨rfl, u7⟩
    have HK7 : Hid _ := HK3.out w7 (HU6.out.trans u7)
    clear u7 HU6 x0 x1 x2 x3 x4 x5 x6 HY HK3
    obtain ⟨b, hb⟩ : ∃ b, b = w2.heap.size := ⟨_, rfl⟩
    rw [← hb] at HK7 HSV2 ⊢
    clear hb
    go_wp2_with fail
    go_loopw [8] (fun s8 W => ∃ i : Nat, i ≤ m ∧ s8 = .int .i64 i ∧ KS w W b #[.slice (some ⟨gP, 0, none⟩) np (np + 64), .slice (some ⟨gC, 0, none⟩) m (m + 64), .slice (some ⟨gZ, 0, none⟩) nz (nz + 64), .int .i32 tu, .int .i64 wo, .int .i8 fi, .int .i64 wi] gP gC gZ vs s) (fun s8 _ => m - (intOf s8).toNat)
    case atStart => exact ⟨0, Nat.zero_le _, rfl, HK7.out⟩
    case round =>
      obtain ⟨i, hi, rfl, hk⟩ := hrel
      clear HK7
      have HK : Hid _ := hk
      obtain ⟨x0, x1, x2, x3, x4, x5, x6⟩ := seven_cells hk.1
      clear hk
      by_cases hlt : i < m
      · have hlt2 : (i : Int) < (m : Int) := by omega
        obtain ⟨cs, hcs⟩ := HK.out.2.2.1
        obtain ⟨q1, q2⟩ := hcs.own i (by rw [← HN.out.1]; exact hlt)
        generalize (cs.getD i dc).owner = ow at q1
        have HPut : Hid (∀ nq y, KS w ((wr.drewN nq).setCell ⟨gC, i * 6 + 1, none⟩ (.int .i64 y)) b #[.slice (some ⟨gP, 0, none⟩) np (np + 64), .slice (some ⟨gC, 0, none⟩) m (m + 64), .slice (some ⟨gZ, 0, none⟩) nz (nz + 64), .int .i32 tu, .int .i64 wo, .int .i8 fi, .int .i64 wi] gP gC gZ vs s) := fun nq y => KS.card (KS.up HK.out ((Up.refl _).drewN nq)) i (by rw [← HN.out.1]; exact hlt) y
        clear hcs HK
        go_wp2_with fail
        refine TailR.wp_region_seq 12 (by kernel_rfl) (by kernel_rfl) ?_
        simp only [List.take_succ_cons, List.take_zero, List.drop_succ_cons, List.drop_zero]
        repeat (go_big_quiet_step (fail))
        refine wpQuiet_nil ?_
        intro _ hw'
        obtain ⟨nq, hw''⟩ := hw'
        subst hw''
        go_wp2_with fail
        go_roundw
        case rel => exact ⟨i + 1, by omega, by go_num, HPut.out _ _⟩
        case measure => simp [intOf]; omega
      · have hlt2 : ¬ (i : Int) < (m : Int) := by omega
        go_wp2_with fail
        have HK7 : Hid _ := HK.out
        clear HK x0 x1 x2 x3 x4 x5 x6
        go_loopw [9, 10] (fun s9 s10 W => ∃ i : Nat, i ≤ nz ∧ s9 = .int .i64 i ∧ KS w W b #[.slice (some ⟨gP, 0, none⟩) np (np + 64), .slice (some ⟨gC, 0, none⟩) m (m + 64), .slice (some ⟨gZ, 0, none⟩) nz (nz + 64), .int .i32 tu, .int .i64 wo, .int .i8 fi, .int .i64 wi] gP gC gZ vs s) (fun s9 _ _ => nz - (intOf s9).toNat)
        case atStart => exact ⟨0, Nat.zero_le _, rfl, HK7.out⟩
        case round =>
          clear HK7 hlt2 hlt hi
          obtain ⟨i, hi, rfl, hk⟩ := hrel
          have HK : Hid _ := hk
          obtain ⟨x0, x1, x2, x3, x4, x5, x6⟩ := seven_cells hk.1
          clear hk
          by_cases hlt : i < nz
          · have hlt2 : (i : Int) < (nz : Int) := by omega
            have hiz : i < s.zs.length := by rw [← HN.out.2.1]; exact hlt
            have hLb : (s.zs.getD i []).length ≤ 4294967296 := HSm.out.1.2.2.2 i hiz
            obtain ⟨g, hg0, hgv, -⟩ := HK.out.2.2.2.2.1 i hiz
            have HRow : Hid (∀ W, KS w W b #[.slice (some ⟨gP, 0, none⟩) np (np + 64), .slice (some ⟨gC, 0, none⟩) m (m + 64), .slice (some ⟨gZ, 0, none⟩) nz (nz + 64), .int .i32 tu, .int .i64 wo, .int .i8 fi, .int .i64 wi] gP gC gZ vs s → W.cell? ⟨gZ, i, none⟩ = some (.slice (some ⟨g, 0, none⟩) (s.zs.getD i []).length ((s.zs.getD i []).length + 64)) ∧ AI W g (s.zs.getD i []).length) := fun W h => by
              obtain ⟨g', -, hgv', ha⟩ := h.2.2.2.2.1 i hiz
              rw [hgv] at hgv'
              cases hgv'
              refine ⟨?_, ha⟩
              have h4 := h.2.2.2.1
              have : vs[i]? = some (vs.getD i nl) := by rw [List.getD_eq_getElem?_getD, List.getElem?_eq_getElem (by omega)]; rfl
              have hc : W.cell? ⟨gZ, i, none⟩ = vs[i]? := by simp [World.cell?, h4.1]
              rw [hc, this, hgv]
            clear hgv hiz
            generalize (s.zs.getD i []).length = L at hLb HRow
            go_wp2_with fail
            go_loopw [10] (fun s10 W => ∃ k : Nat, k ≤ L ∧ s10 = .int .i64 k ∧ KS w W b #[.slice (some ⟨gP, 0, none⟩) np (np + 64), .slice (some ⟨gC, 0, none⟩) m (m + 64), .slice (some ⟨gZ, 0, none⟩) nz (nz + 64), .int .i32 tu, .int .i64 wo, .int .i8 fi, .int .i64 wi] gP gC gZ vs s) (fun s10 _ => L - (intOf s10).toNat)
            case atStart => exact ⟨0, Nat.zero_le _, rfl, HK.out⟩
            case round =>
              clear HK x0 x1 x2 x3 x4 x5 x6
              obtain ⟨k, hkL, rfl, hk⟩ := hrel
              have HK : Hid _ := hk
              obtain ⟨x0, x1, x2, x3, x4, x5, x6⟩ := seven_cells hk.1
              obtain ⟨r1, hai⟩ := HRow.out wr hk
              clear hk
              by_cases hlt3 : 2 * k + 1 < L
              · have hlt4 : 2 * (k : Int) + 1 < (L : Int) := by omega
                obtain ⟨⟨ya, q1⟩, q2⟩ := hai.at k (by omega)
                obtain ⟨⟨yb, q3⟩, q4⟩ := hai.at (L - 1 - k) (by omega)
                have hw1 : IntKind.i64.wrap ((L : Int) - 1) = (L : Int) - 1 := by rw [IntKind.wrap_i64]; omega
                have hw2 : IntKind.i64.wrap ((L : Int) - 1 - (k : Int)) = (L : Int) - 1 - (k : Int) := by rw [IntKind.wrap_i64]; omega
                have hw3 : (0 : Int) ≤ (L : Int) - 1 - (k : Int) := by omega
                have hw4 : (L : Int) - 1 - (k : Int) < (L : Int) := by omega
                have hw5 : ((L : Int) - 1 - (k : Int)).toNat = L - 1 - k := by omega
                have hw6 : (k : Int) < (L : Int) := by omega
                have HPut : Hid (∀ nq y, KS w ((wr.drewN nq).setCell ⟨g, k, none⟩ (.int .i64 y)) b #[.slice (some ⟨gP, 0, none⟩) np (np + 64), .slice (some ⟨gC, 0, none⟩) m (m + 64), .slice (some ⟨gZ, 0, none⟩) nz (nz + 64), .int .i32 tu, .int .i64 wo, .int .i8 fi, .int .i64 wi] gP gC gZ vs s) := fun nq y => KS.row (KS.up HK.out ((Up.refl _).drewN nq)) (hai.keep (fun _ h => ((Up.refl wr).drewN nq).heap h)) hg0 y
                clear hai HK q4
                go_wp2_with fail
                refine TailR.wp_region_seq 23 (by kernel_rfl) (by kernel_rfl) ?_
                simp only [List.take_succ_cons, List.take_zero, List.drop_succ_cons, List.drop_zero]
                repeat (go_big_quiet_step (fail))
                refine wpQuiet_nil ?_
                intro _ hw'
                obtain ⟨nq, hw''⟩ := hw'
                subst hw''
                go_wp2_with fail
                go_roundw
                case rel => exact ⟨k + 1, by omega, by go_num, HPut.out _ _⟩
                case measure => simp [intOf]; omega
              · have hlt4 : ¬ 2 * (k : Int) + 1 < (L : Int) := by omega
                go_wp2_with fail
                go_roundw
                case rel => exact ⟨i + 1, by omega, by go_num, HK.out⟩
                case measure => simp [intOf]; omega
          · have hlt2 : ¬ (i : Int) < (nz : Int) := by omega
            obtain ⟨s3, hs3, hsm3, hfl3⟩ := HSV2.out wr HSm.out.1 HK.out
            have HS3 : Hid _ := hs3
            have HM3 : Hid (Small s3 ∧ ThingsOk s3) := ⟨hsm3, thingsOk s3 hsm3 (by rw [hfl3]; exact HSm.out.2.2)⟩
            have HU : Hid (Up w wr) := HK.out.2.2.2.2.2.1
            have HBx : Hid _ := HK.out.1
            obtain ⟨e8, t8, hck⟩ := ckV_is (ff s3)
            have HC1 : Hid _ := check_ _ s3 wr hs3 hsm3
            have HC2 : Hid (∀ W v, StL W v s3 → Calls Try.prog 10 #[v] W fun e w' => e = .returned (.tuple #[.int .i64 e8, .int .i64 t8]) ∧ Up W w') := fun W v h => by rw [← hck]; exact rcheck_ v s3 W h HM3.out.2
            rw [hck] at HC1
            clear hs3 hsm3 hfl3 hck HK HSV2
            go_wp2_with fail
            refine Calls.mono HC1.out ?_
            rintro e w8 ⟨rfl, u8⟩
            have HU8 : Hid (Up wr w8) := u8
            clear x0 x1 x2 x3 x4 x5 x6 HC1
            obtain ⟨x0, x1, x2, x3, x4, x5, x6⟩ := seven_cells (u8.heap HBx.out)
            clear u8
            go_wp2_with fail
            refine Calls.mono (copyState_ _ s3 w8 (StL.up HS3.out HU8.out) HM3.out.1) ?_
            rintro e w9 ⟨v9, rfl, hv9, u9⟩
            have HV9 : Hid (StL w9 v9 s3) := hv9.sl
            have HU9 : Hid (Up w w9) := HU.out.trans (HU8.out.trans u9)
            clear hv9 u9 HU8 HU x0 x1 x2 x3 x4 x5 x6
            go_wp2_with fail
            refine Calls.mono (HC2.out _ _ HV9.out) ?_
            rintro e w10 ⟨rfl, u10⟩
            have HU10 : Hid (Up w w10) := HU9.out.trans u10
            clear u10 HU9
            go_wp2_with fail
            refine Calls.mono (works_ w10) ?_
            rintro e w11 ⟨rfl, u11⟩
            have HU11 : Hid (Up w w11) := HU10.out.trans u11
            clear u11 HU10
            go_wp2
            rw [HP.out]
            exact ⟨rfl, HU11.out⟩
end ST
end Go.Proofs.Ytndkpfkgcaebmaa
