
/-
  TokensPlaces and TokensLines: the laws' walks.
-/
import Derived.Test.YtibdnklkcgafkaaDoorLu8
import Derived.Test.YtibdnklkcgafkaaDoorWk8
namespace Go.Proofs.YtibdnklkcgafkaaDoor
open Go.RowKit
attribute [local go_sem ↓] Go.wp_at_zero Go.wp_at_succ
namespace TK
set_option maxRecDepth 100000 in
set_option maxHeartbeats 8000000 in
theorem tplaces (vb : Value) (B : List Int) (w : World) (hB : BL w vb B) (hby : Byt B) (hz : ∀ cap, vb ≠ .slice none 0 (cap + 1)) (her : ER w) : Calls Tryd.prog 8 #[vb] w fun e w' => e = .returned (.bool true) ∧ Up w w' := by
  obtain ⟨Post, hPost⟩ : ∃ P : Ending → World → Prop, P = fun e w' => e = .returned (.bool true) ∧ Up w w' := ⟨_, rfl⟩
  rw [← hPost]
  have HPo : Hid (Post = fun e w' => e = .returned (.bool true) ∧ Up w w') := hPost
  clear hPost
  have HBY : Hid (Byt B) := hby
  have HBW : Hid (∀ W, Up w W → BL W vb B) := fun W u => hB.up u
  have HZ : Hid (∀ cap, vb ≠ .slice none 0 (cap + 1)) := hz
  have HER : Hid (ER w) := her
  obtain ⟨a, c, hvb, -, hce⟩ := bl_cells hB
  obtain ⟨n, hN⟩ : ∃ n, n = B.length := ⟨_, rfl⟩
  have HN : Hid (n = B.length) := hN
  rw [← hN] at hvb hce
  have HC : Hid (n ≠ 0 → ∃ b off, a = some ⟨b, off, none⟩ ∧ ∀ W, Up w W → ∀ j, j < n → W.cell? ⟨b, off + j, none⟩ = some (.int .u8 (B.getD j 0))) := fun h0 => by
    obtain ⟨b, off, h1, h2⟩ := hce h0
    exact ⟨b, off, h1, fun W u j hj => h2 W u j (by omega)⟩
  subst hvb
  clear hB hby hz her hN hce
  go_enter Tryd.func8, Tryd.ntmps8
  go_wp2_with fail
  refine Calls.mono (SM.longB n w) ?_
  rintro r W1 ⟨rfl, hw1⟩
  obtain rfl := hw1.symm
  clear hw1
  by_cases hbig : 2147483647 < n
  · rw [decide_eq_true hbig]
    go_wp2_with fail
    rw [HPo.out]
    exact ⟨rfl, Up.refl _⟩
  · rw [decide_eq_false hbig]
    go_wp2_with fail
    go_loopw [3, 4, 5] (fun s3 s4 s5 W => ∃ (i : Nat) (y : Int × Int), i ≤ n + 1 ∧ (1 ≤ y.1 ∧ y.1 ≤ 1 + i ∧ 1 ≤ y.2 ∧ y.2 ≤ 1 + i) ∧ (i ≤ n → y = ln (B.take i)) ∧ s3 = .int .i64 y.1 ∧ s4 = .int .i64 y.2 ∧ s5 = .int .i64 i ∧ Up w W) (fun _ _ s5 _ => n + 1 - (intOf s5).toNat)
    case atStart => exact ⟨0, (1, 1), Nat.zero_le _, by decide, fun _ => rfl, rfl, rfl, rfl, Up.refl _⟩
    case round =>
      obtain ⟨i, y, hi, hyb, hy, rfl, rfl, rfl, hu⟩ := hrel
      have HU : Hid (Up w wr) := hu
      clear hu
      obtain ⟨y1, y2⟩ := y
      simp only at hyb
      by_cases hle : i ≤ n
      · have hle2 : (i : Int) ≤ (n : Int) := by omega
        by_cases h2k : i < 2000
        · have h2i : (i : Int) < 2000 := by omega
          have HY : Hid ((y1, y2) = ln (B.take i)) := hy hle
          have HCP : Hid (Calls Tryd.prog 16 #[.slice a n c] wr fun e w' => ∃ u, e = .returned u ∧ w'.ownsRow wr.heap.size 5 1 u B.length (bvs B) ∧ Up wr w') := copyT_ _ B wr (HBW.out wr HU.out) HBY.out HZ.out (by have := HN.out; omega)
          have HLN : Hid (∀ v W, LV W v B → Calls Tryd.prog 20 #[v, .int .i64 (i : Int)] W fun e w' => e = .returned (.tuple #[.int .i64 y1, .int .i64 y2]) ∧ Up W w') := fun v W h9 => by
            have h8 := line_ v B i W h9 HBY.out (by have := HN.out; omega)
            rw [lnA_in (by have := HN.out; omega), ← HY.out] at h8
            exact h8
          have ei : IntKind.i64.wrap ((i : Int) + 1) = ((i + 1 : Nat) : Int) := by rw [IntKind.wrap_i64]; omega
          have q1 : (y1 != y1) = false := by simp
          have q2 : (y2 != y2) = false := by simp
          have e1 : IntKind.i64.wrap (y1 + 1) = y1 + 1 := by rw [IntKind.wrap_i64]; omega
          have e2 : IntKind.i64.wrap (y2 + 1) = y2 + 1 := by rw [IntKind.wrap_i64]; omega
          have e3 : wrap64 (y1 + 1) = y1 + 1 := by rw [← w64e]; exact e1
          have e4 : wrap64 (y2 + 1) = y2 + 1 := by rw [← w64e]; exact e2
          clear hy
          go_wp2_with fail
          refine Calls.mono HCP.out ?_
          rintro r W2 ⟨u, rfl, hrow, u2⟩
          have HL2 : Hid (Calls Tryd.prog 20 #[u, .int .i64 (i : Int)] W2 fun e w' => e = .returned (.tuple #[.int .i64 y1, .int .i64 y2]) ∧ Up W2 w') := HLN.out u W2 (own_lv hrow)
          have HU : Hid (Up w W2) := HU.out.trans u2
          clear hrow u2 HCP
          go_wp2_with fail
          refine Calls.mono HL2.out ?_
          rintro r W3 ⟨rfl, u3⟩
          have HU : Hid (Up w W3) := HU.out.trans u3
          clear u3 HL2 HLN
          by_cases hlt : i < n
          · have hlt2 : (i : Int) < (n : Int) := by omega
            obtain ⟨b, off, rfl, hcc⟩ := HC.out (by omega)
            have hx := hcc W3 HU.out i hlt
            have HST : Hid (ln (B.take (i + 1)) = lnS (y1, y2) (B.getD i 0)) := by unfold Hid; rw [HY.out]; exact ln_step (by have := HN.out; omega)
            clear hcc
            generalize B.getD i 0 = d at *
            by_cases hd : d = 10
            · have H1 : Hid ((y1 + 1, (1 : Int)) = ln (B.take (i + 1))) := by unfold Hid; rw [HST.out, hd]; rfl
              subst hd
              clear HST
              go_wp2_with fail
              go_roundw
              case rel => exact ⟨i + 1, (y1 + 1, 1), by omega, ⟨by simp; omega, by simp; omega, by simp, by simp; omega⟩, fun _ => H1.out, rfl, rfl, by go_num, HU.out⟩
              case measure => simp [intOf]; omega
            · have hd2 : (d == 10) = false := by simpa using hd
              have H1 : Hid ((y1, y2 + 1) = ln (B.take (i + 1))) := by unfold Hid; rw [HST.out]; unfold lnS; rw [if_neg hd]
              clear HST
              go_wp2_with fail
              go_roundw
              case rel => exact ⟨i + 1, (y1, y2 + 1), by omega, ⟨by simp; omega, by simp; omega, by simp; omega, by simp; omega⟩, fun _ => H1.out, rfl, rfl, by go_num, HU.out⟩
              case measure => simp [intOf]; omega
          · have hlt2 : ¬ (i : Int) < (n : Int) := by omega
            go_wp2_with fail
            go_roundw
            case rel => exact ⟨i + 1, (y1, y2 + 1), by omega, ⟨by simp; omega, by simp; omega, by simp; omega, by simp; omega⟩, fun h9 => by omega, rfl, rfl, by go_num, HU.out⟩
            case measure => simp [intOf]; omega
        · have h2i : ¬ (i : Int) < 2000 := by omega
          clear hy
          go_wp2_with fail
          refine Calls.mono (works_ wr (HER.out.up HU.out)) ?_
          rintro r W2 ⟨rfl, u2⟩
          go_wp2_with fail
          rw [HPo.out]
          exact ⟨rfl, HU.out.trans u2⟩
      · have hle2 : ¬ (i : Int) ≤ (n : Int) := by omega
        clear hy
        go_wp2_with fail
        refine Calls.mono (works_ wr (HER.out.up HU.out)) ?_
        rintro r W2 ⟨rfl, u2⟩
        go_wp2_with fail
        rw [HPo.out]
        exact ⟨rfl, HU.out.trans u2⟩
set_option maxRecDepth 100000 in
set_option maxHeartbeats 8000000 in
theorem tlines (vb : Value) (B : List Int) (k : Int) (w : World) (hB : BL w vb B) (hby : Byt B) (hz : ∀ cap, vb ≠ .slice none 0 (cap + 1)) (her : ER w) : Calls Tryd.prog 4 #[vb, .int .i64 k] w fun e w' => e = .returned (.bool true) ∧ Up w w' := by
  obtain ⟨Post, hPost⟩ : ∃ P : Ending → World → Prop, P = fun e w' => e = .returned (.bool true) ∧ Up w w' := ⟨_, rfl⟩
  rw [← hPost]
  have HPo : Hid (Post = fun e w' => e = .returned (.bool true) ∧ Up w w') := hPost
  clear hPost
  have HBY : Hid (Byt B) := hby
  have HBW : Hid (∀ W, Up w W → BL W vb B) := fun W u => hB.up u
  have HZ : Hid (∀ cap, vb ≠ .slice none 0 (cap + 1)) := hz
  have HER : Hid (ER w) := her
  obtain ⟨a, c, hvb, -, hce⟩ := bl_cells hB
  obtain ⟨n, hN⟩ : ∃ n, n = B.length := ⟨_, rfl⟩
  have HN : Hid (n = B.length) := hN
  rw [← hN] at hvb hce
  have HC : Hid (n ≠ 0 → ∃ b off, a = some ⟨b, off, none⟩ ∧ ∀ W, Up w W → ∀ j, j < n → W.cell? ⟨b, off + j, none⟩ = some (.int .u8 (B.getD j 0))) := fun h0 => by
    obtain ⟨b, off, h1, h2⟩ := hce h0
    exact ⟨b, off, h1, fun W u j hj => h2 W u j (by omega)⟩
  subst hvb
  clear hB hby hz her hN hce
  go_enter Tryd.func4, Tryd.ntmps4
  go_wp2_with fail
  refine Calls.mono (SM.longB n w) ?_
  rintro r W1 ⟨rfl, hw1⟩
  obtain rfl := hw1.symm
  clear hw1 HC
  by_cases hbig : 2147483647 < n
  · rw [decide_eq_true hbig]
    go_wp2_with fail
    rw [HPo.out]
    exact ⟨rfl, Up.refl _⟩
  · rw [decide_eq_false hbig]
    have HWD : Hid (Calls Tryd.prog 10 #[.slice a n c] w fun e w' => ∃ g, e = .returned (.slice (some ⟨g, 0, none⟩) n (n + 64)) ∧ WB w w' g B ∧ Up w w') := by
      have h9 := wideT_ _ B w (HBW.out w (Up.refl _)) HBY.out HZ.out (by have := HN.out; omega)
      rw [← HN.out] at h9
      exact h9
    go_wp2_with fail
    refine Calls.mono HWD.out ?_
    rintro r W2 ⟨g, rfl, hwb, u⟩
    have HW : Hid (∀ W, Up W2 W → WB w W g B) := fun W x => hwb.up x
    have HU : Hid (Up w W2) := u
    have HLI : Hid (∀ (k : Int) W, Up W2 W → Calls Tryd.prog 20 #[.slice (some ⟨g, 0, none⟩) n (n + 64), .int .i64 k] W fun e w' => e = .returned (.tuple #[.int .i64 (lnA B k).1, .int .i64 (lnA B k).2]) ∧ Up W w') := fun k W x => by
      have h9 := (HW.out W x).lv HBY.out
      rw [← HN.out] at h9
      exact line_ _ B k W h9 HBY.out (by have := HN.out; omega)
    have HRL : Hid (∀ (k : Int) W, Up w W → Calls Tryd.prog 21 #[.slice a n c, .int .i64 k] W fun e w' => e = .returned (.tuple #[.int .i64 (lnA B k).1, .int .i64 (lnA B k).2]) ∧ w' = W) := fun k W x => rline_ _ B k W (HBW.out W x) (by have := HN.out; omega)
    have HEQ : Hid (∀ W, Up W2 W → Up w W → Calls Tryd.prog 14 #[.slice (some ⟨g, 0, none⟩) n (n + 64), .slice a n c] W fun e w' => e = .returned (.bool true) ∧ Up W w') := fun W x y => by
      have h9 := (HW.out W x).bl HBY.out
      rw [← HN.out] at h9
      exact eqT_ _ _ B W h9 (HBW.out W y) HBY.out (fun cap h => by cases h) HZ.out (by have := HN.out; omega)
    have HSP : Hid (∀ W, Up W2 W → Calls Tryd.prog 15 #[.slice (some ⟨g, 0, none⟩) n (n + 64)] W fun e w' => e = .returned (.bool true) ∧ w' = W) := fun W x => by
      have h9 := (HW.out W x).spare
      rw [← HN.out] at h9
      exact SM.spareB g n W (by omega) h9
    have HOUT : Hid (lnA B ((n : Int) + 1) = (0, 0)) := lnA_out (.inr (by have := HN.out; omega))
    have en : IntKind.i64.wrap ((n : Int) + 1) = (n : Int) + 1 := by rw [IntKind.wrap_i64]; omega
    clear hwb u HWD HW hbig
    go_wp2_with fail
    refine Calls.mono (HLI.out k W2 (Up.refl _)) ?_
    rintro r W3 ⟨rfl, u⟩
    have HX : Hid (Up W2 W3) := u
    have HU : Hid (Up w W3) := HU.out.trans u
    clear u
    go_wp2_with fail
    refine Calls.mono (HRL.out k W3 HU.out) ?_
    rintro r W4 ⟨rfl, hw⟩
    obtain rfl := hw.symm
    clear hw
    go_wp2_with fail
    refine Calls.mono (HLI.out (n : Int) W3 HX.out) ?_
    rintro r W4 ⟨rfl, u⟩
    have HX : Hid (Up W2 W4) := HX.out.trans u
    have HU : Hid (Up w W4) := HU.out.trans u
    clear u
    go_wp2_with fail
    refine Calls.mono (HRL.out (n : Int) W4 HU.out) ?_
    rintro r W5 ⟨rfl, hw⟩
    obtain rfl := hw.symm
    clear hw
    go_wp2_with fail
    refine Calls.mono (HLI.out ((n : Int) + 1) W4 HX.out) ?_
    rintro r W5 ⟨rfl, u⟩
    have HX : Hid (Up W2 W5) := HX.out.trans u
    have HU : Hid (Up w W5) := HU.out.trans u
    rw [HOUT.out]
    clear u HOUT HLI HRL en
    generalize lnA B k = y at *
    generalize lnA B (n : Int) = z at *
    obtain ⟨y1, y2⟩ := y
    obtain ⟨z1, z2⟩ := z
    have t1 : (y1 == y1) = true := by simp
    have t2 : (y2 == y2) = true := by simp
    have t3 : (z1 == z1) = true := by simp
    have t4 : (z2 == z2) = true := by simp
    go_wp2_with fail
    refine Calls.mono (HEQ.out W5 HX.out HU.out) ?_
    rintro r W6 ⟨rfl, u⟩
    have HX : Hid (Up W2 W6) := HX.out.trans u
    have HU : Hid (Up w W6) := HU.out.trans u
    clear u
    go_wp2_with fail
    refine Calls.mono (HSP.out W6 HX.out) ?_
    rintro r W7 ⟨rfl, hw⟩
    obtain rfl := hw.symm
    clear hw
    go_wp2_with fail
    refine Calls.mono (works_ W6 (HER.out.up HU.out)) ?_
    rintro r W7 ⟨rfl, u⟩
    have HU : Hid (Up w W7) := HU.out.trans u
    clear u
    go_wp2_with fail
    rw [HPo.out]
    exact ⟨rfl, HU.out⟩
end TK
end Go.Proofs.YtibdnklkcgafkaaDoor
