/-
  Is, Order and Back beside the document's: the law walked.
-/
import Derived.Test.YtehkjgnhjhdclaaOr1
import Derived.Test.YtehkjgnhjhdclaaOr2
namespace Go.Proofs.Ytehkjgnhjhdclaa
open Go.RowKit
attribute [local go_sem ↓] Go.wp_at_zero Go.wp_at_succ

namespace OD
open IN AP CU
theorem ordL_len (xs zs : List Int) : (ordL xs zs).length ≤ zs.length := by
  unfold ordL; split
  · rw [ol_len]; exact Nat.le_refl _
  · simp
theorem bk_getL (zs : List Int) : ((bk zs).getD []).length ≤ zs.length := by
  cases h : bk zs with
  | none => simp
  | some b => have := bk_len zs _ _ _ b h; simp at this; show b.length ≤ _; omega
set_option maxRecDepth 100000 in
set_option maxHeartbeats 8000000 in
theorem ordersMain (v u : Value) (xs zs : List Int) (w : World) (hv : LiesI w v xs) (hu : LiesI w u zs) (hn : xs.length ≤ 140737488355328) (hm : zs.length ≤ 140737488355328) :
    Calls Try.prog 4 #[v, u] w (CPost w) := by
  obtain ⟨Post, hPost⟩ : ∃ P : Ending → World → Prop, P = CPost w := ⟨_, rfl⟩
  rw [← hPost]
  have HPo : Hid (Post = CPost w) := hPost
  have HV : Hid (LiesI w v xs) := hv
  have HZ : Hid (LiesI w u zs) := hu
  obtain ⟨va, vcap, hve, -⟩ := hv
  obtain ⟨ua, ucap, hue, -⟩ := hu
  obtain ⟨n, hn0⟩ : ∃ n, n = xs.length := ⟨_, rfl⟩
  obtain ⟨m, hm0⟩ : ∃ m, m = zs.length := ⟨_, rfl⟩
  have HN : Hid (n = xs.length) := hn0
  have HM : Hid (m = zs.length) := hm0
  rw [← hn0] at hve hn
  rw [← hm0] at hue hm
  subst hve hue
  clear hPost hn0 hm0
  by_cases hbig : 4096 < n + m
  · have hbig2 : (4096 : Int) < (n : Int) + (m : Int) := by omega
    go_enter Try.func4, Try.ntmps4
    go_wp2_with fail
    refine (works _).mono ?_
    rintro e w1 ⟨rfl, u1⟩
    have HU1 : Hid (Up w w1) := u1
    clear u1
    go_wp2
    rw [HPo.out]
    exact ⟨rfl, HU1.out⟩
  · have hbig2 : ¬ (4096 : Int) < (n : Int) + (m : Int) := by omega
    have hnb : xs.length ≤ 4096 := by rw [← HN.out]; omega
    have hmb : zs.length ≤ 4096 := by rw [← HM.out]; omega
    go_enter Try.func4, Try.ntmps4
    go_wp2_with fail
    refine (works _).mono ?_
    rintro e w1 ⟨rfl, u1⟩
    have HU1 : Hid (Up w w1) := u1
    clear u1
    go_wp2_with fail
    refine (wide_ _ xs w1 (HV.out.up HU1.out) (by omega)).mono ?_
    rintro e w2 ⟨rfl, hw2, u2⟩
    obtain ⟨gw, hgw⟩ : ∃ gw, gw = w1.heap.size := ⟨_, rfl⟩
    rw [← hgw] at hw2 ⊢
    have HW2 : Hid (Wide w2 gw xs) := hw2
    have HU2 : Hid (Up w w2) := HU1.out.trans u2
    rw [← HN.out]
    clear hw2 u2 hgw HU1
    go_wp2_with fail
    refine (wide_ _ zs w2 (HZ.out.up HU2.out) (by omega)).mono ?_
    rintro e w3 ⟨rfl, hw3, u3⟩
    obtain ⟨gz, hgz⟩ : ∃ gz, gz = w2.heap.size := ⟨_, rfl⟩
    rw [← hgz] at hw3 ⊢
    have HWZ : Hid (Wide w3 gz zs) := hw3
    have HWX : Hid (Wide w3 gw xs) := HW2.out.up u3
    have HU3 : Hid (Up w w3) := HU2.out.trans u3
    rw [← HM.out]
    clear hw3 u3 hgz HW2 HU2
    have HLX : Hid (∀ W, Up w3 W → LiesI W (.slice (some ⟨gw, 0, none⟩) n (n + 5)) xs) := fun W hW => by
      have := (HWX.out.up hW).lies (n + 5)
      rw [← HN.out] at this
      exact this
    have HLZ : Hid (∀ W, Up w3 W → LiesI W (.slice (some ⟨gz, 0, none⟩) m (m + 5)) zs) := fun W hW => by
      have := (HWZ.out.up hW).lies (m + 5)
      rw [← HM.out] at this
      exact this
    have HKX : Hid (∀ W, Up w3 W → Calls Try.prog 18 #[.slice (some ⟨gw, 0, none⟩) n (n + 5), .slice va n vcap] W fun e w' => e = .returned (.bool true) ∧ ∃ m, w' = W.drewN m) := fun W hW => by
      have := kept_ (.slice va n vcap) gw xs W (HWX.out.up hW) (HV.out.up (HU3.out.trans hW)) (by omega)
      rw [← HN.out] at this
      exact this
    have HKZ : Hid (∀ W, Up w3 W → Calls Try.prog 18 #[.slice (some ⟨gz, 0, none⟩) m (m + 5), .slice ua m ucap] W fun e w' => e = .returned (.bool true) ∧ ∃ m, w' = W.drewN m) := fun W hW => by
      have := kept_ (.slice ua m ucap) gz zs W (HWZ.out.up hW) (HZ.out.up (HU3.out.trans hW)) (by omega)
      rw [← HM.out] at this
      exact this
    obtain ⟨io, hio⟩ : ∃ io, io = (bk zs).isSome := ⟨_, rfl⟩
    obtain ⟨oo, hoo⟩ : ∃ oo, oo = ordOk xs zs := ⟨_, rfl⟩
    obtain ⟨bl, hbl⟩ : ∃ bl, bl = (bk zs).getD [] := ⟨_, rfl⟩
    have HIO : Hid (io = (bk zs).isSome ∧ oo = ordOk xs zs ∧ bl = (bk zs).getD []) := ⟨hio, hoo, hbl⟩
    have lb := bk_getL zs
    rw [← hbl] at lb
    have lo := ordL_len xs zs
    clear hio hoo hbl
    go_wp2_with fail
    refine (is_ _ zs w3 (HLZ.out w3 (Up.refl _)) (by omega)).mono ?_
    rintro e w4 ⟨rfl, u4⟩
    rw [← HIO.out.1]
    have HU4 : Hid (Up w3 w4) := u4
    clear u4
    go_wp2_with fail
    refine (order_ _ _ xs zs w4 (HLX.out w4 HU4.out) (HLZ.out w4 HU4.out) (by omega) (by omega)).mono ?_
    rintro e w5 ⟨v5, rfl, ho5, u5⟩
    rw [← HIO.out.2.1]
    have HO5 : Hid (Own w4.heap.size w5 v5 (ordL xs zs)) := ho5
    have HU5 : Hid (Up w4 w5) := u5
    have HU35 : Hid (Up w3 w5) := HU4.out.trans u5
    clear ho5 u5
    go_wp2_with fail
    refine (back_ _ zs w5 (HLZ.out w5 HU35.out) (by omega)).mono ?_
    rintro e w6 ⟨v6, rfl, ho6, u6⟩
    rw [← HIO.out.1]
    have HO6 : Hid (Own w5.heap.size w6 v6 bl) := by unfold Hid; rw [HIO.out.2.2]; exact ho6
    have HU6 : Hid (Up w5 w6) := u6
    have HU36 : Hid (Up w3 w6) := HU35.out.trans u6
    clear ho6 u6
    go_wp2_with fail
    refine (rorder_ _ _ xs zs w6 (HV.out.up (HU3.out.trans HU36.out)) (HZ.out.up (HU3.out.trans HU36.out)) (by omega) (by omega)).mono ?_
    rintro e w7 ⟨v7, rfl, hl7, u7⟩
    rw [← HIO.out.2.1]
    have HL7 : Hid (LiesI w7 v7 (ordL xs zs)) := hl7
    have HU7 : Hid (Up w6 w7) := u7
    have HU37 : Hid (Up w3 w7) := HU36.out.trans u7
    clear hl7 u7
    go_wp2_with fail
    refine (rback_ _ zs w7 (HZ.out.up (HU3.out.trans HU37.out)) (by omega)).mono ?_
    rintro e w8 ⟨v8, rfl, hl8, u8⟩
    rw [← HIO.out.1]
    have HL8 : Hid (LiesI w8 v8 bl) := by unfold Hid; rw [HIO.out.2.2]; exact hl8
    have HU8 : Hid (Up w7 w8) := u8
    have HU38 : Hid (Up w3 w8) := HU37.out.trans u8
    clear hl8 u8
    have eio : (io == io) = true := by simp
    have eoo : (oo == oo) = true := by simp
    go_wp2_with fail
    refine (ris_ _ zs w8 (HZ.out.up (HU3.out.trans HU38.out)) (by omega)).mono ?_
    rintro e w9 ⟨rfl, u9⟩
    rw [← HIO.out.1]
    have HU9 : Hid (Up w8 w9) := u9
    have HU39 : Hid (Up w3 w9) := HU38.out.trans u9
    clear u9
    go_wp2_with fail
    refine (same_ v5 v7 (ordL xs zs) w9 ((HO5.out.up ((((HU6.out.trans HU7.out)).trans HU8.out).trans HU9.out)).lies) (HL7.out.up (HU8.out.trans HU9.out)) (by omega)).mono ?_
    rintro e w10 ⟨rfl, m10, h10⟩
    have HU10 : Hid (Up w9 w10) := by unfold Hid; rw [h10]; exact (Up.refl _).drewN _
    have HU310 : Hid (Up w3 w10) := HU39.out.trans HU10.out
    clear h10
    go_wp2_with fail
    refine (same_ v6 v8 bl w10 ((HO6.out.up ((((HU7.out)).trans HU8.out).trans (HU9.out.trans HU10.out))).lies) (HL8.out.up (HU9.out.trans HU10.out)) (by omega)).mono ?_
    rintro e w11 ⟨rfl, m11, h11⟩
    have HU11 : Hid (Up w10 w11) := by unfold Hid; rw [h11]; exact (Up.refl _).drewN _
    have HU311 : Hid (Up w3 w11) := HU310.out.trans HU11.out
    clear h11
    go_wp2_with fail
    refine (HKX.out w11 HU311.out).mono ?_
    rintro e w12 ⟨rfl, m12, h12⟩
    have HU12 : Hid (Up w11 w12) := by unfold Hid; rw [h12]; exact (Up.refl _).drewN _
    have HU312 : Hid (Up w3 w12) := HU311.out.trans HU12.out
    clear h12
    go_wp2_with fail
    refine (HKZ.out w12 HU312.out).mono ?_
    rintro e w13 ⟨rfl, m13, h13⟩
    have HU13 : Hid (Up w12 w13) := by unfold Hid; rw [h13]; exact (Up.refl _).drewN _
    have HU313 : Hid (Up w3 w13) := HU312.out.trans HU13.out
    have HU613 : Hid (Up w6 w13) := ((((((HU7.out.trans HU8.out).trans HU9.out).trans HU10.out).trans HU11.out).trans HU12.out).trans HU13.out)
    clear h13
    go_wp2_with fail
    refine (order_ _ _ xs zs w13 (HLX.out w13 HU313.out) (HLZ.out w13 HU313.out) (by omega) (by omega)).mono ?_
    rintro e w14 ⟨v14, rfl, ho14, u14⟩
    rw [← HIO.out.2.1]
    have HO14 : Hid (Own w13.heap.size w14 v14 (ordL xs zs)) := ho14
    have HU14 : Hid (Up w13 w14) := u14
    have HU314 : Hid (Up w3 w14) := HU313.out.trans u14
    clear ho14 u14
    go_wp2_with fail
    refine (back_ _ zs w14 (HLZ.out w14 HU314.out) (by omega)).mono ?_
    rintro e w15 ⟨v15, rfl, ho15, u15⟩
    rw [← HIO.out.1]
    have HO15 : Hid (Own w14.heap.size w15 v15 bl) := by unfold Hid; rw [HIO.out.2.2]; exact ho15
    have HU15 : Hid (Up w14 w15) := u15
    have HU315 : Hid (Up w3 w15) := HU314.out.trans u15
    clear ho15 u15
    obtain ⟨a5, k5, e5, -⟩ := HO5.out.lies
    obtain ⟨a6, k6, e6, -⟩ := HO6.out.lies
    obtain ⟨a14, k14, e14, -⟩ := HO14.out.lies
    obtain ⟨a15, k15, e15, -⟩ := HO15.out.lies
    subst e5 e6 e14 e15
    obtain ⟨w16, hw16⟩ : ∃ w16, w16 = w15.alloc (.cells #[.slice a5 (ordL xs zs).length k5, .slice a6 bl.length k6, .slice a14 (ordL xs zs).length k14, .slice a15 bl.length k15] 22) := ⟨_, rfl⟩
    have HU16 : Hid (Up w15 w16) := by unfold Hid; rw [hw16]; exact (Up.refl _).alloc _
    have HAP : Hid (Calls Try.prog 19 #[.slice (some ⟨w15.heap.size, 0, none⟩) 4 4] w16 fun e w' => e = .returned (.bool true) ∧ Below w3.heap.size w16 w') := by
      have s4 := HU4.out.size
      have s5 := HU5.out.size
      have s6 := HU6.out.size
      have s613 := HU613.out.size
      have s14 := HU14.out.size
      have s15 := HU15.out.size
      have s16 := HU16.out.size
      have U616 : Up w6 w16 := (((HU613.out.trans HU14.out).trans HU15.out).trans HU16.out)
      have b3 := fun g h => HO5.out.block g h
      have b4 := fun g h => HO6.out.block g h
      have b12 := fun g h => HO14.out.block g h
      have b13 := fun g h => HO15.out.block g h
      have hp4 : ∀ p, p < 4 → p = 0 ∨ p = 1 ∨ p = 2 ∨ p = 3 := fun p hp => by omega
      refine apart_ w15.heap.size w3.heap.size [(.slice a5 (ordL xs zs).length k5, (ordL xs zs).length), (.slice a6 bl.length k6, bl.length), (.slice a14 (ordL xs zs).length k14, (ordL xs zs).length), (.slice a15 bl.length k15, bl.length)] w16 ?_ (by simp) ?_ ?_ ?_ (by omega) ?_
      · unfold Arr; rw [hw16]; exact heap_alloc_new w15 _
      · intro p hp
        rw [if_neg (Nat.not_lt_zero p)]
        rcases hp4 p hp with rfl | rfl | rfl | rfl
        · exact (HO5.out.up (HU6.out.trans U616)).part 0
        · exact (HO6.out.up U616).part 1
        · exact (HO14.out.up (HU15.out.trans HU16.out)).part 2
        · exact (HO15.out.up HU16.out).part 3
      · intro p q g hp hq hne h1 h2
        rcases hp4 p hp with rfl | rfl | rfl | rfl <;> rcases hp4 q hq with rfl | rfl | rfl | rfl
        · exact absurd rfl hne
        · have x1 := b3 g h1; have x2 := b4 g h2; omega
        · have x1 := b3 g h1; have x2 := b12 g h2; omega
        · have x1 := b3 g h1; have x2 := b13 g h2; omega
        · have x1 := b4 g h1; have x2 := b3 g h2; omega
        · exact absurd rfl hne
        · have x1 := b4 g h1; have x2 := b12 g h2; omega
        · have x1 := b4 g h1; have x2 := b13 g h2; omega
        · have x1 := b12 g h1; have x2 := b3 g h2; omega
        · have x1 := b12 g h1; have x2 := b4 g h2; omega
        · exact absurd rfl hne
        · have x1 := b12 g h1; have x2 := b13 g h2; omega
        · have x1 := b13 g h1; have x2 := b3 g h2; omega
        · have x1 := b13 g h1; have x2 := b4 g h2; omega
        · have x1 := b13 g h1; have x2 := b12 g h2; omega
        · exact absurd rfl hne
      · intro p g hp h1
        rcases hp4 p hp with rfl | rfl | rfl | rfl
        · have x1 := b3 g h1; omega
        · have x1 := b4 g h1; omega
        · have x1 := b12 g h1; omega
        · have x1 := b13 g h1; omega
      · intro p hp
        rcases hp4 p hp with rfl | rfl | rfl | rfl
        · show (ordL xs zs).length ≤ _; omega
        · show bl.length ≤ _; omega
        · show (ordL xs zs).length ≤ _; omega
        · show bl.length ≤ _; omega
    go_wp2_with fail
    rw [← hw16]
    clear hw16
    refine Calls.mono HAP.out ?_
    rintro e w17 ⟨rfl, hb17⟩
    have HU317 : Hid (Up w3 w17) := Below.trans (HU315.out.trans HU16.out) hb17
    clear hb17
    go_wp2_with fail
    refine (HKX.out w17 HU317.out).mono ?_
    rintro e w18 ⟨rfl, m18, h18⟩
    have HU18 : Hid (Up w17 w18) := by unfold Hid; rw [h18]; exact (Up.refl _).drewN _
    have HU318 : Hid (Up w3 w18) := HU317.out.trans HU18.out
    clear h18
    go_wp2_with fail
    refine (HKZ.out w18 HU318.out).mono ?_
    rintro e w19 ⟨rfl, m19, h19⟩
    have HU19 : Hid (Up w18 w19) := by unfold Hid; rw [h19]; exact (Up.refl _).drewN _
    clear h19
    go_wp2
    rw [HPo.out]
    exact ⟨rfl, (HU3.out.trans HU318.out).trans HU19.out⟩
end OD
end Go.Proofs.Ytehkjgnhjhdclaa
