/-
  The law on sums where the three lists hold together at most 2^24 numbers: the call walks its three loops and answers true; nothing that was there is written.
-/
import Derived.Test.YthanbiblikkimabRound
import Derived.Deep.QuietTactic
import Derived.BigQuiet
import Derived.WalkSmall
namespace Go.Proofs.Ythanbiblikkimab
open Go.RowKit
theorem Up.drewN {a w : World} (h : Up a w) (n : Nat) : Up a (w.drewN n) := below_drewN h n
set_option maxHeartbeats 1000000 in
set_option maxRecDepth 100000 in
theorem walkSmall (a0 : Option Addr) (len0 cap0 : Nat) (zl : List Int) (a1 : Option Addr) (len1 cap1 : Nat) (zm : List Int) (a2 : Option Addr) (len2 cap2 : Nat) (zn : List Int) (w : World)
    (hl : Lies .i8 w (.slice a0 len0 cap0) zl) (el : zl.length = len0) (bl : ∀ i, -128 ≤ zl.getD i 0 ∧ zl.getD i 0 ≤ 127)
    (hm : Lies .i32 w (.slice a1 len1 cap1) zm) (em : zm.length = len1) (bm : ∀ i, -2147483648 ≤ zm.getD i 0 ∧ zm.getD i 0 ≤ 2147483647)
    (hn : Lies .i64 w (.slice a2 len2 cap2) zn) (en : zn.length = len2) (bn : ∀ i, -9223372036854775808 ≤ zn.getD i 0 ∧ zn.getD i 0 ≤ 9223372036854775807)
    (hs : len0 + len1 + len2 ≤ 16777216) :
    Calls Try.prog 4 #[.slice a0 len0 cap0, .slice a1 len1 cap1, .slice a2 len2 cap2] w fun e w' => e = .returned (.bool true) ∧ Up w w' := by
  have EL : Hid (zl.length = len0) := el
  have EM : Hid (zm.length = len1) := em
  have EN : Hid (zn.length = len2) := en
  have BL : Hid (∀ i, -128 ≤ zl.getD i 0 ∧ zl.getD i 0 ≤ 127) := bl
  have BM : Hid (∀ i, -2147483648 ≤ zm.getD i 0 ∧ zm.getD i 0 ≤ 2147483647) := bm
  have BN : Hid (∀ i, -9223372036854775808 ≤ zn.getD i 0 ∧ zn.getD i 0 ≤ 9223372036854775807) := bn
  clear el em en bl bm bn
  obtain ⟨i8, hi8, z80, z81, z82⟩ := info_parts Try.info26
  obtain ⟨i64, hi64, z60, z61, z62⟩ := info_parts Try.info2
  have hd : decide ((16777216 : Int) < (len0 : Int) + (len1 : Int) + (len2 : Int)) = false := by simp; omega
  go_enter Try.func4, Try.ntmps4
  go_wp2_with fail
  refine (works _).mono ?_
  rintro e wa ⟨rfl, up⟩
  go_wp2_with (at_make; refine wpList_make_full _ rfl _ _ 50 rfl w.heap.size 26 i8 (.int .i8 0) 1 Try.underlying50 hi8 z80 z81 .i64 .i64 _ _ (len0 + 4) rfl rfl (by omega) (by omega) (by rw [z82]; omega) (by unfold maxLen; omega) (by exact up.size) ?_; intro w1 hin hg1)
  have hup : Up w w1 := Below.grown up hg1 up.size (fun k hk => by cases hk)
  have hgw : w.heap.size ≤ wa.heap.size := up.size
  have hg2 : wa.heap.size < w1.heap.size := (hin.lt _ rfl).2
  have hin0 : w1.ownsRow w.heap.size 26 1 (.slice (some ⟨wa.heap.size, 0, none⟩) (len0 + 4) (len0 + 4)) (len0 + 4) (inL zl 0 (len0 + 4)) := by
    rw [Nat.mul_one] at hin
    rw [inL_zero, ← toList_madeCells_one]
    exact hin
  clear hin hg1 up
  generalize wa.heap.size = g at *
  clear wa
  go_loopw [8, 11] (fun va i wr => ∃ k : Nat, k ≤ len0 + 4 ∧ i = .int .i64 k ∧ wr.ownsRow w.heap.size 26 1 (.slice (some ⟨g, 0, none⟩) (len0 + 4) (len0 + 4)) (len0 + 4) (inL zl k (len0 + 4)) ∧ wr.ownsRow (g + 1) 2 1 va (zl.take k).length ((zl.take k).map (Value.int .i64)) ∧ Up w wr)
    (fun _ i _ => len0 + 4 - (intOf i).toNat)
  case atStart => exact ⟨0, Nat.zero_le _, rfl, hin0, World.ownsRow_nil _ _ _ _, hup⟩
  case round =>
    obtain ⟨k, hk, rfl, hin, hown, hu⟩ := hrel
    clear hin0 hup hg2
    have hgr : g < wr.heap.size := (hin.lt _ rfl).2
    by_cases hlt : k < len0 + 4
    · have hki : (k : Int) < (len0 : Int) + 4 := by omega
      have f1 := hin.frozenAt k
      have c1 : wr.cell? ⟨g, k, none⟩ = some (.int .i8 0) := by
        rw [hin.cellAt k (by omega)]; unfold inL; simp [hlt]
      by_cases hl0 : k < len0
      · have hlz : k < zl.length := by rw [EL.out]; exact hl0
        obtain ⟨b, off, hx, hcell⟩ := lies_slice hl (by omega)
        have hc := hu.cell (hcell k hlz)
        have hbw : b < w.heap.size := World.block_lt_of_cell? w ⟨b, off + k, none⟩ (hcell k hlz)
        subst hx
        clear hcell
        obtain ⟨e1, e2⟩ := BL.out k
        have hbg : ¬ g = b := by omega
        have HM1 : Hid (((inL zl k (len0 + 4)).set k (.int .i8 91)).set k (.int .i8 (zl.getD k 0)) = inL zl (k + 1) (len0 + 4)) := inL_less zl k _ hlz _
        have HM2 : Hid ((zl.take k).map (Value.int .i64) ++ [.int .i64 (zl.getD k 0)] = (zl.take (k + 1)).map (Value.int .i64)) := map_take_snoc .i64 zl k hlz
        have HM3 : Hid ((zl.take (k + 1)).length = (zl.take k).length + 1) := take_len_succ zl k hlz
        have hln : (zl.take k).length ≤ 16777216 := by have := List.length_take_le k zl; omega
        generalize zl.getD k 0 = z at *
        have hli : (k : Int) < (len0 : Int) := by omega
        obtain ⟨hI, hO, hU⟩ := two_stores (k := k) (.int .i8 91) (.int .i8 z) hin hown hu hgw
        rw [HM1.out] at hI
        clear hin hown hu HM1
        generalize zl.take k = ts at *
        go_wp2_with (at_builtin; refine wpList_append_own _ rfl (.tmp 50) (.tmp 56) 52 rfl (g + 1) 2 i64 (.int .i64 0) 1 8 Try.underlying52 hi64 z60 z61 z62 rfl (by decide) _ _ _ rfl (hO.alloc _) ⟨wr.heap.size, 0, none⟩ 1 1 [.int .i64 z] rfl rfl ?c1 ?c2 ?c3 ?c4 ?c5 ?_)
        case c1 =>
          intro j u hj
          match j, hj with
          | 0, hj => simp at hj; subst hj; exact cell_fresh _ _ _ _ (by simp)
        case c2 => intro u hu; simp at hu; subst hu; rfl
        case c3 => unfold maxLen; omega
        case c4 => omega
        case c5 => simp; omega
        intro v' w' hown' hgrow _
        have R := app_keep hI hO hU hgw hgrow
        rw [HM2.out] at hown'
        rw [← HM3.out] at hown'
        obtain ⟨R1, R2⟩ := R
        clear hI hO hU hgrow HM2 HM3 hc c1 f1
        go_wp2
        go_roundw
        case rel => exact ⟨k + 1, by omega, by go_num, R1, hown', R2⟩
        case measure => simp [intOf]; omega
      · have hlz : ¬ k < zl.length := by rw [EL.out]; exact hl0
        have hli : ¬ (k : Int) < (len0 : Int) := by omega
        obtain ⟨hI, hO, hU⟩ := one_store (k := k) (.int .i8 91) hin hown hu hgw
        rw [inL_more zl k _ hlz] at hI
        rw [← take_past zl k hlz] at hO
        clear hin hown hu
        go_wp2
        go_roundw
        case rel => exact ⟨k + 1, by omega, by go_num, hI, hO, hU⟩
        case measure => simp [intOf]; omega
    · obtain rfl : k = len0 + 4 := by omega
      rw [List.take_of_length_le (by rw [EL.out]; omega)] at hown
      have hA : Lies .i64 wr u8 zl := lies_own hown
      have HIN : Hid (∀ j, j < len0 + 4 → wr.cell? ⟨g, j, none⟩ = some (.int .i8 (if j < zl.length then zl.getD j 0 else 91))) := lies_in hin
      clear hown hin hlt hk hgr hgw
      obtain ⟨wo, ho⟩ : ∃ wo : World, wo = wr := ⟨_, rfl⟩
      rw [← ho] at hA HIN hu ⊢
      clear ho wr
      go_wp2_with fail
      go_loopw [9, 12] (fun vb i wr => ∃ k : Nat, k ≤ len1 ∧ i = .int .i64 k ∧ wr.ownsRow wo.heap.size 2 1 vb (zm.take k).length ((zm.take k).map (Value.int .i64)) ∧ Up wo wr)
        (fun _ i _ => len1 - (intOf i).toNat)
      case atStart => exact ⟨0, Nat.zero_le _, rfl, World.ownsRow_nil _ _ _ _, Up.refl _⟩
      case round =>
        obtain ⟨k, hk, rfl, hown, huo⟩ := hrel
        by_cases hlt : k < len1
        · have hki : (k : Int) < (len1 : Int) := by omega
          have hlz : k < zm.length := by rw [EM.out]; exact hlt
          obtain ⟨b, off, hx, hcell⟩ := lies_slice hm (by omega)
          have hc := huo.cell (hu.cell (hcell k hlz))
          subst hx
          clear hcell
          obtain ⟨e1, e2⟩ := BM.out k
          have HM2 : Hid ((zm.take k).map (Value.int .i64) ++ [.int .i64 (zm.getD k 0)] = (zm.take (k + 1)).map (Value.int .i64)) := map_take_snoc .i64 zm k hlz
          have HM3 : Hid ((zm.take (k + 1)).length = (zm.take k).length + 1) := take_len_succ zm k hlz
          have hln : (zm.take k).length ≤ 16777216 := by have := List.length_take_le k zm; omega
          have hsz : wo.heap.size ≤ wr.heap.size := huo.size
          generalize zm.getD k 0 = z at *
          generalize zm.take k = ts at *
          go_wp2_with (at_builtin; refine wpList_append_own _ rfl (.tmp 64) (.tmp 70) 52 rfl wo.heap.size 2 i64 (.int .i64 0) 1 8 Try.underlying52 hi64 z60 z61 z62 rfl (by decide) _ _ _ rfl (hown.alloc _) ⟨wr.heap.size, 0, none⟩ 1 1 [.int .i64 z] rfl rfl ?d1 ?d2 ?d3 ?d4 ?d5 ?_)
          case d1 =>
            intro j u hj
            match j, hj with
            | 0, hj => simp at hj; subst hj; exact cell_fresh _ _ _ _ (by simp)
          case d2 => intro u hu; simp at hu; subst hu; rfl
          case d3 => unfold maxLen; omega
          case d4 => omega
          case d5 => simp; omega
          intro v' w' hown' hgrow _
          have R := app_up hown huo (Nat.le_refl _) hgrow
          rw [HM2.out] at hown'
          rw [← HM3.out] at hown'
          clear hown huo hgrow HM2 HM3 hc hsz
          go_wp2
          go_roundw
          case rel => first | exact ⟨k + 1, by omega, by go_num, hown', R⟩ | ((repeat apply Exists.intro); exact ⟨⟨k + 1, by omega, by go_num, hown', R⟩, rfl⟩)
          case measure => simp [intOf]; omega
        · obtain rfl : k = len1 := by omega
          rw [List.take_of_length_le (by rw [EM.out]; omega)] at hown
          have hB : Lies .i64 wr u9 zm := lies_own hown
          have hA2 := hA.up huo
          have HI2 : Hid (∀ j, j < len0 + 4 → wr.cell? ⟨g, j, none⟩ = some (.int .i8 (if j < zl.length then zl.getD j 0 else 91))) := fun j hj => huo.cell (HIN.out j hj)
          have hu2 := hu.trans huo
          clear hown hA HIN hu huo hlt hk
          obtain ⟨wp, ho⟩ : ∃ wp : World, wp = wr := ⟨_, rfl⟩
          rw [← ho] at hB hA2 HI2 hu2 ⊢
          clear ho wr
          have hX : Lies .i8 wp (.slice (some ⟨g, 0, none⟩) len0 (len0 + 4)) zl := lies_cut EL.out (by omega) HI2.out
          go_wp2_with fail
          refine (sumL8 (.slice (some ⟨g, 0, none⟩) len0 (len0 + 4)) zl _ hX (by rw [EL.out]; unfold maxLen; omega) BL.out).mono ?_
          rintro e v ⟨rfl, rfl⟩
          obtain ⟨s1, s2⟩ := sum8_bd zl
          obtain ⟨s3, s4⟩ := sum32_bd zm
          obtain ⟨s5, s6⟩ := sum64_bd zn
          go_wp2_with fail
          go_loopw [14] (fun i wr => ∃ j : Nat, j ≤ len0 + 4 ∧ i = .int .i64 j ∧ Up v wr)
            (fun i _ => len0 + 4 - (intOf i).toNat)
          case atStart => exact ⟨0, Nat.zero_le _, rfl, Up.refl _⟩
          case round =>
            obtain ⟨j, hj, rfl, hv⟩ := hrel
            by_cases hlt : j < len0 + 4
            · have hki : (j : Int) < (len0 : Int) + 4 := by omega
              by_cases hl0 : j < len0
              · have hlz : j < zl.length := by rw [EL.out]; exact hl0
                obtain ⟨b, off, hx, hcell⟩ := lies_slice hl (by omega)
                have hS : wr.cell? ⟨g, j, none⟩ = some (.int .i8 (zl.getD j 0)) ∧ wr.cell? ⟨b, off + j, none⟩ = some (.int .i8 (zl.getD j 0)) ∧ Up v wr :=
                  ⟨by have := hv.cell (HI2.out j hlt); rw [if_pos hlz] at this; exact this, hv.cell (hu2.cell (hcell j hlz)), hv⟩
                subst hx
                clear hcell hv
                have hli : (j : Int) < (len0 : Int) := by omega
                have hlj : decide ((j : Int) < (len0 : Int)) = true := by simp; omega
                have hlg : decide (len0 ≤ j) = false := by simp; omega
                generalize zl.getD j 0 = z at *
                have hzz : (z != z) = false := by simp
                go_wp2_with fail
                obtain ⟨d0, d1, hv⟩ := hS
                go_quiet (fail)
                go_wp2
                go_roundw
                case rel => first | exact ⟨j + 1, by omega, by go_num, Up.drewN hv _⟩ | ((repeat apply Exists.intro); exact ⟨⟨j + 1, by omega, by go_num, Up.drewN hv _⟩, rfl⟩)
                case measure => simp [intOf]; omega
              · have hlz : ¬ j < zl.length := by rw [EL.out]; exact hl0
                have hS : wr.cell? ⟨g, j, none⟩ = some (.int .i8 91) ∧ Up v wr :=
                  ⟨by have := hv.cell (HI2.out j hlt); rw [if_neg hlz] at this; exact this, hv⟩
                clear hv
                have hli : ¬ (j : Int) < (len0 : Int) := by omega
                have hlj : decide ((j : Int) < (len0 : Int)) = false := by simp; omega
                have hlg : decide (len0 ≤ j) = true := by simp; omega
                go_wp2_with fail
                obtain ⟨d0, hv⟩ := hS
                go_quiet (fail)
                go_wp2
                go_roundw
                case rel => first | exact ⟨j + 1, by omega, by go_num, Up.drewN hv _⟩ | ((repeat apply Exists.intro); exact ⟨⟨j + 1, by omega, by go_num, Up.drewN hv _⟩, rfl⟩)
                case measure => simp [intOf]; omega
            · obtain rfl : j = len0 + 4 := by omega
              have k1 : IntKind.i64.wrap (sum8 zl) = sum8 zl := IntWalk.i64_in _ ⟨by omega, by omega⟩
              have k2 : IntKind.i64.wrap (sum32 zm) = sum32 zm := IntWalk.i64_in _ ⟨by omega, by omega⟩
              have q1 : (sum8 zl == sum8 zl) = true := by simp
              have q2 : (sum32 zm == sum32 zm) = true := by simp
              have q3 : (sum64 zn == sum64 zn) = true := by simp
              have hU := hu2.trans hv
              have hA3 := hA2.up hv
              have hB3 := hB.up hv
              clear HI2 hX hlt hj hA2 hB
              have BL3 : ∀ i, -128 ≤ zl.getD i 0 ∧ zl.getD i 0 ≤ 127 := BL.out
              have HL : Hid (zl.length ≤ maxLen) := by unfold Hid maxLen; rw [EL.out]; omega
              have HMm : Hid (zm.length ≤ maxLen) := by unfold Hid maxLen; rw [EM.out]; omega
              have HN : Hid (zn.length ≤ maxLen) := by unfold Hid maxLen; rw [EN.out]; omega
              have HL8 : Hid (∀ i, -128 ≤ zl.getD i 0 ∧ zl.getD i 0 ≤ 127) := BL3
              clear BL3
              go_wp2_with fail
              refine (refOf8 _).mono ?_
              rintro e x1 ⟨rfl, y1⟩
              go_wp2_with fail
              refine (refSum8 u8 zl _ (hA3.up y1) HL.out HL8.out).mono ?_
              rintro e x2 ⟨rfl, y2⟩
              go_wp2_with fail
              refine (sumL32 _ zm _ ((hm.up hU).up (y1.trans y2)) HMm.out BM.out).mono ?_
              rintro e x3 ⟨rfl, rfl⟩
              go_wp2_with fail
              refine (refOf32 _).mono ?_
              rintro e x4 ⟨rfl, y4⟩
              go_wp2_with fail
              refine (refSum32 u9 zm _ (hB3.up ((y1.trans y2).trans y4)) HMm.out BM.out).mono ?_
              rintro e x5 ⟨rfl, y5⟩
              have hN5 := hn.up (hU.trans (((y1.trans y2).trans y4).trans y5))
              have hU5 := hU.trans (((y1.trans y2).trans y4).trans y5)
              go_wp2_with fail
              refine (sumL64 _ zn _ hN5 HN.out BN.out).mono ?_
              rintro e x6 ⟨rfl, rfl⟩
              go_wp2_with fail
              refine (refOf64 _).mono ?_
              rintro e x7 ⟨rfl, y7⟩
              go_wp2_with fail
              refine (refSum64 _ zn _ (hN5.up y7) HN.out BN.out).mono ?_
              rintro e x8 ⟨rfl, y8⟩
              go_wp2
              go_ret
              exact ⟨rfl, hU5.trans (y7.trans y8)⟩
end Go.Proofs.Ythanbiblikkimab
