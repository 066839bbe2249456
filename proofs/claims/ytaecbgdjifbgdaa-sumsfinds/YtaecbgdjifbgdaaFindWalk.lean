/-
  The stage's theorem, walked: a change of 32 bits at most that stand together is found.
-/
import Derived.Test.YtaecbgdjifbgdaaRefBurst
import Derived.Test.YtaecbgdjifbgdaaTurn
namespace Go.Proofs.Ytaecbgdjifbgdaa
open Go.RowKit

set_option maxHeartbeats 400000 in
theorem longJ (n : Int) (w : World) : Calls Try.prog 9 #[.int .i64 n] w fun e w' => e = .returned (.bool (decide (2147483647 < n))) ∧ w' = w := by
  go_enter Try.func9, Try.ntmps9
  go_wp2
  go_ret
  exact ⟨rfl, rfl⟩
set_option maxHeartbeats 400000 in
theorem findLong (a : Option Addr) (len cap : Nat) (At : Int) (B : Nat) (w : World) (gl : len ≤ 140737488351232) (hm : 2147483647 < len + 4) :
    Calls Try.prog 8 #[.slice a len cap, .agg #[.int .i64 At, .int .u32 B]] w fun e w' => e = .returned (.bool true) ∧ Up w w' := by
  have hd : decide ((2147483647 : Int) < (len : Int) + 4) = true := decide_eq_true (by omega)
  go_enter Try.func8, Try.ntmps8
  go_wp2_with fail
  refine (longJ _ _).mono ?_
  rintro e w1 ⟨rfl, rfl⟩
  rw [hd]
  go_wp2
  go_ret
  exact ⟨rfl, (Up.refl _).alloc _⟩
set_option maxHeartbeats 4000000 in
set_option maxRecDepth 100000 in
theorem findWalk (a : Option Addr) (n cap : Nat) (zs : List Nat) (At : Int) (B : Nat) (w : World) (hl : zs.length = n) (h : Lies w (.slice a n cap) zs) (hb : Bys zs) (hm : n + 4 ≤ 2147483647) (hB : B < 4294967296) :
    Calls Try.prog 8 #[.slice a n cap, .agg #[.int .i64 At, .int .u32 B]] w fun e w' => e = .returned (.bool true) ∧ Up w w' := by
  have HH0 : Hid (Lies w (.slice a n cap) zs) := h
  have HB : Hid (Bys zs) := hb
  have HL : Hid (zs.length = n) := hl
  clear h hb hl
  have hd : decide ((2147483647 : Int) < (n : Int) + 4) = false := decide_eq_false (by omega)
  go_enter Try.func8, Try.ntmps8
  go_wp2_with fail
  refine (longJ _ _).mono ?_
  rintro e w1 ⟨rfl, rfl⟩
  rw [hd]
  clear hd
  have z0 : Up w (w.alloc (.cells #[.int .i64 At, .int .u32 (B : Int)] 43)) := (Up.refl w).alloc _
  have HH : Hid (Lies (w.alloc (.cells #[.int .i64 At, .int .u32 (B : Int)] 43)) (.slice a n cap) zs) := HH0.out.up z0
  have cA : Hid ((w.alloc (.cells #[.int .i64 At, .int .u32 (B : Int)] 43)).cell? ⟨w.heap.size, 0, none⟩ = some (.int .i64 At)) := by unfold Hid; simp
  have cB : Hid ((w.alloc (.cells #[.int .i64 At, .int .u32 (B : Int)] 43)).cell? ⟨w.heap.size, 1, none⟩ = some (.int .u32 (B : Int))) := by unfold Hid; simp
  clear HH0
  generalize w.alloc (.cells #[.int .i64 At, .int .u32 (B : Int)] 43) = O at *
  go_wp2_with fail
  refine (laidB _ zs _ HH.out HB.out (by rw [HL.out]; omega)).mono ?_
  rintro e w1 ⟨u1, rfl, o1, y1⟩
  have hlw : (zs ++ four (crc 0 zs)).length = n + 4 := by rw [List.length_append, HL.out]; rfl
  have hbw : Bys (zs ++ four (crc 0 zs)) := Bys.of fun d hd => (List.mem_append.1 hd).elim (HB.out.mem d) ((four_bys _).mem d)
  have hcw : crc 0 (zs ++ four (crc 0 zs)) = 558161692 := crc_laid zs HB.out
  obtain ⟨g1, cap1, rfl, _, _, on1⟩ := o1.form hlw (by omega)
  have N1 : Hid (Lies w1 (.slice (some ⟨g1, 0, none⟩) (n + 4) cap1) (zs ++ four (crc 0 zs))) := by
    have := on1.lies (n + 4) (Nat.le_refl _) cap1
    rw [List.take_of_length_le (by rw [hlw]; exact Nat.le_refl _)] at this
    exact this
  clear o1 on1
  generalize zs ++ four (crc 0 zs) = WH at *
  have WL : Hid (WH.length = n + 4) := hlw
  have WB : Hid (Bys WH) := hbw
  have WC : Hid (crc 0 WH = 558161692) := hcw
  clear hlw hbw hcw
  go_wp2_with fail
  refine (copyB _ WH _ N1.out (by rw [WL.out]; omega)).mono ?_
  rintro e w2 ⟨u2, rfl, o2, y2⟩
  have N2 : Hid (Lies w2 u2 WH) := o2.lies
  clear o2
  go_wp2_with fail
  refine (crcs u2 WH _ N2.out (by rw [WL.out]; omega) WB.out).mono ?_
  rintro e w3 ⟨rfl, y3⟩
  rw [WC.out]
  have v3 := y2.trans y3
  have z3o := y1.trans v3
  have k0 := z3o.cell cA.out
  have k1 := z3o.cell cB.out
  clear y1 y2 y3 N2
  go_wp2_with fail
  refine (turnB (some ⟨g1, 0, none⟩) (n + 4) cap1 WH At B _ WL.out (N1.out.up v3) WB.out (by omega) (by omega) hB).mono ?_
  rintro e w4 ⟨g2, cap2, ys, p2, j2, V2, rfl, hc2, hj2, hT2, hO2, y4⟩
  have M1 : Hid (Lies w4 (.slice (some ⟨g2, 0, none⟩) (n + 4) cap2) ys) := by
    have := hO2.lies (n + 4) (Nat.le_refl _) cap2
    rw [List.take_of_length_le (by rw [hO2.len]; exact Nat.le_refl _)] at this
    exact this
  have MN : Hid (Lies w4 (.slice (some ⟨g2, 0, none⟩) n cap2) (ys.take n)) := hO2.lies n (by omega) cap2
  have ML : Hid (ys.length = n + 4) := hO2.len
  have MB : Hid (Bys ys) := hT2.2.1
  have hiff : Hid (crc 0 ys = crc 0 WH ↔ ys = WH) := hT2.crc hj2
  have HBR : Hid (∀ x y : Int, BR WH ys x y → 0 ≤ y ∧ y ≤ 32 ∧ (y = 0 ↔ WH = ys)) := fun x y g => hT2.burst hj2 WB.out g
  have v4 := v3.trans y4
  have z4o := z3o.trans y4
  clear hT2 hO2 hj2 y4 k0 k1 v3 z3o
  go_wp2_with fail
  refine (copyB _ WH _ (N1.out.up v4) (by rw [WL.out]; omega)).mono ?_
  rintro e w5 ⟨u5, rfl, o5, y5⟩
  have N5 : Hid (Lies w5 u5 WH) := o5.lies
  clear o5
  go_wp2_with fail
  refine (copyB _ ys _ (M1.out.up y5) (by rw [ML.out]; omega)).mono ?_
  rintro e w6 ⟨u6, rfl, o6, y6⟩
  have N6 : Hid (Lies w6 u6 ys) := o6.lies
  clear o6
  go_wp2_with fail
  refine (burstB u5 u6 WH ys _ (N5.out.up y6) N6.out WB.out MB.out (by rw [WL.out]; omega)).mono ?_
  rintro e w7 ⟨bx, by', rfl, hbr, y7⟩
  obtain ⟨r1, r2, r3⟩ := HBR.out bx by' hbr
  clear hbr HBR N5 N6
  have m7 := y5.trans (y6.trans y7)
  have v7 := v4.trans m7
  have z7o := z4o.trans m7
  clear y5 y6 y7 v4 z4o
  by_cases hsame : WH = ys
  · have hy0 : by' = 0 := r3.2 hsame
    subst hy0
    have hdd : decide (WH = ys) = true := decide_eq_true hsame
    have HD : Hid (decide (WH = ys) = true) := hdd
    clear hdd hsame r1 r2 r3 hiff MN
    go_wp2_with fail
    refine (eqB _ _ WH ys _ (N1.out.up v7) (M1.out.up m7) (by rw [WL.out]; omega)).mono ?_
    rintro e w8 ⟨rfl, y8⟩
    rw [HD.out]
    have z8o := z7o.trans y8
    have z8 := z0.trans z8o
    clear y8 m7 v7 z7o N1 M1 HD
    by_cases hn0 : n = 0
    · subst hn0
      go_wp2_with fail
      refine (works _).mono ?_
      rintro e v9 ⟨rfl, x9⟩
      go_wp2
      go_ret
      exact ⟨rfl, z8.trans x9⟩
    · have hn1 : ((n : Int) == 0) = false := by simp; omega
      have k0 := (z8o).cell cA.out
      have k1 := (z8o).cell cB.out
      go_wp2_with fail
      refine (turnB a n cap zs At B _ HL.out (HH.out.up z8o) HB.out (by omega) (by omega) hB).mono ?_
      rintro e v1 ⟨g3, cap3, xs, p3, j3, V3, rfl, hc3, hj3, hT3, hO3, x1⟩
      have N1 : Hid (Lies v1 (.slice (some ⟨g3, 0, none⟩) n cap3) xs) := by
        have := hO3.lies n (Nat.le_refl _) cap3
        rw [List.take_of_length_le (by rw [hO3.len]; exact Nat.le_refl _)] at this
        exact this
      have NL : Hid (xs.length = n) := hO3.len
      have NB : Hid (Bys xs) := hT3.2.1
      have hiff := hT3.crc hj3
      obtain ⟨E, hE⟩ : ∃ E, E = decide (xs = zs) := ⟨_, rfl⟩
      have hEE : (((crc 0 xs : Nat) : Int) == ((crc 0 zs : Nat) : Int)) = E := by
        rw [hE]
        by_cases e : xs = zs
        · subst e; simp
        · have : ¬ crc 0 xs = crc 0 zs := fun q => e (hiff.1 q)
          rw [decide_eq_false e]
          exact beq_eq_false_iff_ne.2 (by omega)
      have HE : Hid (E = decide (xs = zs)) := hE
      clear hE hiff hT3 hO3 hj3 hc3 k0 k1
      have x1o := (z8o).trans x1
      go_wp2_with fail
      refine (eqB _ _ xs zs _ N1.out (HH.out.up x1o) (by rw [NL.out]; omega)).mono ?_
      rintro e v2 ⟨rfl, x2⟩
      rw [← HE.out]
      go_wp2_with fail
      refine (crcs _ xs _ (N1.out.up x2) (by rw [NL.out]; omega) NB.out).mono ?_
      rintro e v3 ⟨rfl, x3⟩
      go_wp2_with fail
      refine (copyB _ zs _ (HH.out.up (x1o.trans (x2.trans x3))) (by rw [HL.out]; omega)).mono ?_
      rintro e v4 ⟨u4, rfl, o4, x4⟩
      have N4 : Hid (Lies v4 u4 zs) := o4.lies
      clear o4
      go_wp2_with fail
      refine (crcs u4 zs _ N4.out (by rw [HL.out]; omega) HB.out).mono ?_
      rintro e v5 ⟨rfl, x5⟩
      generalize crc 0 xs = C1 at *
      generalize crc 0 zs = C2 at *
      have hEb : (E == E) = true := by simp
      go_wp2_with fail
      refine (works _).mono ?_
      rintro e v6 ⟨rfl, x6⟩
      go_wp2
      go_ret
      exact ⟨rfl, (((z8.trans x1).trans x2).trans x3).trans ((x4.trans x5).trans x6)⟩
  · have hy1 : ¬ by' = 0 := fun e => hsame (r3.1 e)
    have hy2 : (by' == 0) = false := beq_eq_false_iff_ne.2 hy1
    have hy3 : 0 < by' := by omega
    have hdd : decide (WH = ys) = false := decide_eq_false hsame
    have HD : Hid (decide (WH = ys) = false) := hdd
    have HNE : Hid (¬ WH = ys) := hsame
    clear hdd hsame r3 hy1
    go_wp2_with fail
    refine (eqB _ _ WH ys _ (N1.out.up v7) (M1.out.up m7) (by rw [WL.out]; omega)).mono ?_
    rintro e w8 ⟨rfl, y8⟩
    rw [HD.out]
    have m8 := m7.trans y8
    have z8o := z7o.trans y8
    clear y8 m7 v7 z7o N1 HD
    have htl : (ys.take n).length = n := by rw [List.length_take, ML.out]; omega
    have HTL : Hid ((ys.take n).length = n) := htl
    have HTB : Hid (Bys (ys.take n)) := MB.out.take n
    have HNO : Hid (decide (ys.take n ++ four (crc 0 (ys.take n)) = ys) = false) := by
      refine decide_eq_false fun e => HNE.out ?_
      have h1 := crc_laid (ys.take n) HTB.out
      have h2 : crc 0 (ys.take n ++ four (crc 0 (ys.take n))) = 558161692 := h1
      rw [e] at h2
      exact (hiff.out.1 (by rw [h2, WC.out])).symm
    clear htl
    have hnc : (n : Int) ≤ (cap2 : Int) := by omega
    have hnc2 : n ≤ cap2 := by omega
    go_wp2_with fail
    refine (laidB _ (ys.take n) _ (MN.out.up m8) HTB.out (by rw [HTL.out]; omega)).mono ?_
    rintro e w9 ⟨u9, rfl, o9, y9⟩
    have N9 : Hid (Lies w9 u9 (ys.take n ++ four (crc 0 (ys.take n)))) := o9.lies
    have hl9 : (ys.take n ++ four (crc 0 (ys.take n))).length = n + 4 := by rw [List.length_append, HTL.out]; rfl
    have HL9 : Hid ((ys.take n ++ four (crc 0 (ys.take n))).length = n + 4) := hl9
    clear o9 hl9
    go_wp2_with fail
    refine (eqB _ _ (ys.take n ++ four (crc 0 (ys.take n))) ys _ N9.out (M1.out.up (m8.trans y9)) (by rw [HL9.out]; omega)).mono ?_
    rintro e w10 ⟨rfl, y10⟩
    rw [HNO.out]
    have z10o := z8o.trans (y9.trans y10)
    have z10 := z0.trans z10o
    clear y9 y10 m8 z8o N9 HL9 HNO HTB HTL MN M1 hiff
    by_cases hn0 : n = 0
    · subst hn0
      go_wp2_with fail
      refine (works _).mono ?_
      rintro e v9 ⟨rfl, x9⟩
      go_wp2
      go_ret
      exact ⟨rfl, z10.trans x9⟩
    · have hn1 : ((n : Int) == 0) = false := by simp; omega
      have k0 := (z10o).cell cA.out
      have k1 := (z10o).cell cB.out
      go_wp2_with fail
      refine (turnB a n cap zs At B _ HL.out (HH.out.up z10o) HB.out (by omega) (by omega) hB).mono ?_
      rintro e v1 ⟨g3, cap3, xs, p3, j3, V3, rfl, hc3, hj3, hT3, hO3, x1⟩
      have N1 : Hid (Lies v1 (.slice (some ⟨g3, 0, none⟩) n cap3) xs) := by
        have := hO3.lies n (Nat.le_refl _) cap3
        rw [List.take_of_length_le (by rw [hO3.len]; exact Nat.le_refl _)] at this
        exact this
      have NL : Hid (xs.length = n) := hO3.len
      have NB : Hid (Bys xs) := hT3.2.1
      have hiff := hT3.crc hj3
      obtain ⟨E, hE⟩ : ∃ E, E = decide (xs = zs) := ⟨_, rfl⟩
      have hEE : (((crc 0 xs : Nat) : Int) == ((crc 0 zs : Nat) : Int)) = E := by
        rw [hE]
        by_cases e : xs = zs
        · subst e; simp
        · have : ¬ crc 0 xs = crc 0 zs := fun q => e (hiff.1 q)
          rw [decide_eq_false e]
          exact beq_eq_false_iff_ne.2 (by omega)
      have HE : Hid (E = decide (xs = zs)) := hE
      clear hE hiff hT3 hO3 hj3 hc3 k0 k1
      have x1o := (z10o).trans x1
      go_wp2_with fail
      refine (eqB _ _ xs zs _ N1.out (HH.out.up x1o) (by rw [NL.out]; omega)).mono ?_
      rintro e v2 ⟨rfl, x2⟩
      rw [← HE.out]
      go_wp2_with fail
      refine (crcs _ xs _ (N1.out.up x2) (by rw [NL.out]; omega) NB.out).mono ?_
      rintro e v3 ⟨rfl, x3⟩
      go_wp2_with fail
      refine (copyB _ zs _ (HH.out.up (x1o.trans (x2.trans x3))) (by rw [HL.out]; omega)).mono ?_
      rintro e v4 ⟨u4, rfl, o4, x4⟩
      have N4 : Hid (Lies v4 u4 zs) := o4.lies
      clear o4
      go_wp2_with fail
      refine (crcs u4 zs _ N4.out (by rw [HL.out]; omega) HB.out).mono ?_
      rintro e v5 ⟨rfl, x5⟩
      generalize crc 0 xs = C1 at *
      generalize crc 0 zs = C2 at *
      have hEb : (E == E) = true := by simp
      go_wp2_with fail
      refine (works _).mono ?_
      rintro e v6 ⟨rfl, x6⟩
      go_wp2
      go_ret
      exact ⟨rfl, (((z10.trans x1).trans x2).trans x3).trans ((x4.trans x5).trans x6)⟩
end Go.Proofs.Ytaecbgdjifbgdaa
