/-
  The document's row, given what its two kids answer.
-/
import Derived.Test.YtgahdppcdeefaaaPq9
import Derived.Test.YtgahdppcdeefaaaSk9
import Derived.Deep.RegionHeld3
namespace Go.Proofs.Ytgahdppcdeefaaa
open Go.RowKit
attribute [local go_sem ↓] Go.wp_at_zero Go.wp_at_succ
namespace TR
set_option maxRecDepth 100000 in
set_option maxHeartbeats 16000000 in
theorem placed_ (v : Value) (l : List Nd) (p d : Nat) (want : Int) (w : World) (R : Nat → Nat) (b : Nd) (hv : NLs w v l) (hp : p < l.length) (hb : l.getD p dn = b) (hd : d ≤ 1000000000000) (H : ∀ W, Up w W → Calls Try.prog 30 #[v, .int .i64 (p : Int), .int .i64 ((d + par b.op want : Nat) : Int)] W fun e w' => e = .returned (.int .i64 ((R (d + par b.op want) : Nat) : Int)) ∧ Up W w') : Calls Try.prog 45 #[v, .int .i64 (p : Int), .int .i64 (d : Int), .int .i64 want] w (fun e w' => e = .returned (.int .i64 ((R (d + par b.op want) : Nat) : Int)) ∧ Up w w') := by
  obtain ⟨Post, hPost⟩ : ∃ P : Ending → World → Prop, P = fun e w' => e = .returned (.int .i64 ((R (d + par b.op want) : Nat) : Int)) ∧ Up w w' := ⟨_, rfl⟩
  rw [← hPost]
  have HPo : Hid (Post = fun e w' => e = .returned (.int .i64 ((R (d + par b.op want) : Nat) : Int)) ∧ Up w w') := hPost
  clear hPost
  obtain ⟨a, c, rfl, hc, hcell⟩ := nl_at hv
  obtain ⟨bk, off, rfl, hce⟩ := hcell (by omega)
  have x0 : w.cell? ⟨bk, off + p * 7, none⟩ = some (.int .i8 b.op) := by rw [← hb]; exact hce w (Up.refl _) p hp 0 _ rfl
  obtain ⟨n, hN⟩ : ∃ n, n = l.length := ⟨_, rfl⟩
  rw [← hN] at hp hc H ⊢
  have hp2 : (p : Int) < (n : Int) := by omega
  have HH : Hid (∀ W, Up w W → Calls Try.prog 30 #[.slice (some ⟨bk, off, none⟩) n c, .int .i64 (p : Int), .int .i64 ((d + par b.op want : Nat) : Int)] W fun e w' => e = .returned (.int .i64 ((R (d + par b.op want) : Nat) : Int)) ∧ Up W w') := H
  clear hcell hce hv hN hb H
  generalize b.op = o at *
  have ed : IntKind.i64.wrap ((d : Int) + 1) = ((d + 1 : Nat) : Int) := by rw [IntKind.wrap_i64]; omega
  have ed2 : wrap64 ((d : Int) + 1) = ((d + 1 : Nat) : Int) := by first | (unfold wrap64; omega) | (show IntKind.i64.wrap _ = _; exact ed)
  go_enter Try.func45, Try.ntmps45
  go_wp2_with fail
  refine Calls.mono (expr_ o w) ?_
  rintro e w1 ⟨rfl, hw⟩
  obtain rfl := hw.symm
  clear hw
  by_cases hq : rExpr o = true
  · rw [hq]
    go_wp2_with fail
    refine Calls.mono (rank_ o w) ?_
    rintro e w1 ⟨rfl, hw⟩
    obtain rfl := hw.symm
    clear hw
    by_cases hr : rRank o < want
    · have HP : Hid (par o want = 1) := by
        unfold Hid par
        rw [hq, decide_eq_true hr]
        rfl
      rw [HP.out] at HPo HH
      go_wp2_with fail
      refine Calls.mono (HH.out w (Up.refl _)) ?_
      rintro e w1 ⟨rfl, hu⟩
      go_wp2_with fail
      rw [HPo.out]
      exact ⟨rfl, hu⟩
    · have HP : Hid (par o want = 0) := by
        unfold Hid par
        rw [hq, decide_eq_false hr]
        rfl
      rw [HP.out] at HPo HH
      go_wp2_with fail
      refine Calls.mono (HH.out w (Up.refl _)) ?_
      rintro e w1 ⟨rfl, hu⟩
      go_wp2_with fail
      rw [HPo.out]
      exact ⟨rfl, hu⟩
  · have HP : Hid (par o want = 0) := by
      unfold Hid par
      rw [Bool.not_eq_true] at hq
      rw [hq]
      rfl
    rw [HP.out] at HPo HH
    rw [Bool.not_eq_true] at hq
    rw [hq]
    go_wp2_with fail
    refine Calls.mono (HH.out w (Up.refl _)) ?_
    rintro e w1 ⟨rfl, hu⟩
    go_wp2_with fail
    rw [HPo.out]
    exact ⟨rfl, hu⟩
set_option maxRecDepth 100000 in
set_option maxHeartbeats 16000000 in
theorem chain_ (v : Value) (l : List Nd) (p m d : Nat) (w : World) (R : Nat → Nat) (b : Nd) (hv : NLs w v l) (hp : p + m < l.length) (hm : 1 ≤ m) (hf : ∀ i, i < m → (l.getD (p + i) dn).op = 49) (hb : l.getD (p + m) dn = b) (h49 : b.op ≠ 49) (hn : l.length ≤ 1000000) (hd : d ≤ 100000000000) (hR : R (d + par b.op 8) ≤ 1000000000000) (H : ∀ W, Up w W → Calls Try.prog 30 #[v, .int .i64 ((p + m : Nat) : Int), .int .i64 ((d + par b.op 8 : Nat) : Int)] W fun e w' => e = .returned (.int .i64 ((R (d + par b.op 8) : Nat) : Int)) ∧ Up W w') : Calls Try.prog 41 #[v, .int .i64 (p : Int), .int .i64 (d : Int)] w (fun e w' => e = .returned (.int .i64 ((max (d + m - 1) (R (d + par b.op 8)) : Nat) : Int)) ∧ Up w w') := by
  obtain ⟨Post, hPost⟩ : ∃ P : Ending → World → Prop, P = fun e w' => e = .returned (.int .i64 ((max (d + m - 1) (R (d + par b.op 8)) : Nat) : Int)) ∧ Up w w' := ⟨_, rfl⟩
  rw [← hPost]
  have HPo : Hid (Post = fun e w' => e = .returned (.int .i64 ((max (d + m - 1) (R (d + par b.op 8)) : Nat) : Int)) ∧ Up w w') := hPost
  clear hPost
  have HPL : Hid (∀ W, Up w W → Calls Try.prog 45 #[v, .int .i64 ((p + m : Nat) : Int), .int .i64 (d : Int), .int .i64 8] W fun e w' => e = .returned (.int .i64 ((R (d + par b.op 8) : Nat) : Int)) ∧ Up W w') := fun W hu => placed_ v l (p + m) d 8 W R b (hv.up hu) hp hb (by omega) (fun W2 hu2 => H W2 (hu.trans hu2))
  obtain ⟨a, c, rfl, hc, hcell⟩ := nl_at hv
  obtain ⟨bk, off, rfl, hce⟩ := hcell (by omega)
  obtain ⟨n, hN⟩ : ∃ n, n = l.length := ⟨_, rfl⟩
  have HC1 : Hid (∀ i, i < m → w.cell? ⟨bk, off + (p + i) * 7, none⟩ = some (.int .i8 49)) := fun i hi => by
    rw [← hf i hi]
    exact hce w (Up.refl _) (p + i) (by omega) 0 _ rfl
  have HC2 : Hid (w.cell? ⟨bk, off + (p + m) * 7, none⟩ = some (.int .i8 b.op)) := by
    unfold Hid
    rw [← hb]
    exact hce w (Up.refl _) (p + m) hp 0 _ rfl
  rw [← hN] at hp hn hc HPL ⊢
  clear hcell hce hv hN hb H hf
  generalize R (d + par b.op 8) = y at *
  generalize b.op = o at *
  go_enter Try.func41, Try.ntmps41
  go_wp2_with fail
  go_loopw [1, 7] (fun s1 s7 W => ∃ i : Nat, i ≤ m ∧ s1 = .int .i64 ((p + i : Nat) : Int) ∧ s7 = .int .i64 (i : Int) ∧ W = w) (fun s1 _ _ => p + m - (intOf s1).toNat)
  case atStart => exact ⟨0, Nat.zero_le _, rfl, rfl, rfl⟩
  case round =>
    obtain ⟨i, hi, rfl, rfl, rfl⟩ := hrel
    have hpi : (((p + i : Nat) : Int)) < (n : Int) := by omega
    by_cases hlt : i < m
    · have x1 := HC1.out i hlt
      have e1 : IntKind.i64.wrap ((i : Int) + 1) = ((i + 1 : Nat) : Int) := by rw [IntKind.wrap_i64]; omega
      have e2 : IntKind.i64.wrap (((p + i : Nat) : Int) + 1) = ((p + (i + 1) : Nat) : Int) := by rw [IntKind.wrap_i64]; omega
      obtain ⟨q, hq⟩ : ∃ q, q = p + i := ⟨_, rfl⟩
      rw [← hq] at x1 e2 hpi ⊢
      have HQ : Hid (q = p + i) := hq
      clear hq
      go_wp2_with fail
      go_roundw
      case rel => exact ⟨i + 1, hlt, by first | rfl | go_num | (congr 1; omega), by go_num, by first | trivial | rfl⟩
      case measure => have hq := HQ.out; simp [intOf]; omega
    · obtain rfl : i = m := by omega
      have x1 := HC2.out
      have e3 : (o == 49) = false := by simpa using h49
      have HPL2 := HPL.out wr (Up.refl _)
      obtain ⟨q, hq⟩ : ∃ q, q = p + i := ⟨_, rfl⟩
      rw [← hq] at x1 hpi HPL2 ⊢
      have HPL3 : Hid (Calls Try.prog 45 #[.slice (some ⟨bk, off, none⟩) n c, .int .i64 (q : Int), .int .i64 (d : Int), .int .i64 8] wr fun e w' => e = .returned (.int .i64 (y : Int)) ∧ Up wr w') := HPL2
      have e4 : IntKind.i64.wrap ((d : Int) + (i : Int)) = ((d + i : Nat) : Int) := by rw [IntKind.wrap_i64]; omega
      have e5 : IntKind.i64.wrap (((d + i : Nat) : Int) - 1) = ((d + i - 1 : Nat) : Int) := by rw [IntKind.wrap_i64]; omega
      clear HPL2 hq
      go_wp2_with fail
      refine Calls.mono HPL3.out ?_
      rintro e w1 ⟨rfl, hu⟩
      go_wp2_with fail
      all_goals rw [HPo.out]
      all_goals (refine ⟨?_, hu⟩; congr 2; first | omega | (rw [Nat.max_def]; split <;> omega))
end TR
end Go.Proofs.Ytgahdppcdeefaaa
namespace Go.Proofs.Ytgahdppcdeefaaa
open Go.RowKit
attribute [local go_sem ↓] Go.wp_at_zero Go.wp_at_succ
namespace TR
set_option maxRecDepth 100000 in
set_option maxHeartbeats 16000000 in
theorem row_lt (v : Value) (l : List Nd) (p q1 q2 d m M1 M2 : Nat) (w : World) (a b : Nd) (hv : NLs w v l) (hp : p < l.length) (h1 : q1 < l.length) (h2 : q2 < l.length) (ha : l.getD p dn = a) (hb : l.getD q1 dn = b) (hk : kds l (p : Int) = [(q1 : Int), (q2 : Int)]) (hn : l.length ≤ 1000000) (hd : d ≤ 100000000000) (hm : m ≤ 1000000) (hM1 : M1 ≤ 1000000000000) (hM : d < M1)
    (HR : rRank b.op = rRank a.op → ∀ W, Up w W → Calls Try.prog 44 #[v, .int .i64 (q1 : Int), .int .i64 (d : Int)] W fun e w' => e = .returned (.tuple #[.int .i64 (M1 : Int), .int .i64 (m : Int)]) ∧ Up W w')
    (HO : ¬ rRank b.op = rRank a.op → m = 0 ∧ ∀ W, Up w W → Calls Try.prog 45 #[v, .int .i64 (q1 : Int), .int .i64 (d : Int), .int .i64 (rWants a.op 0)] W fun e w' => e = .returned (.int .i64 (M1 : Int)) ∧ Up W w')
    (HC : ∀ W, Up w W → Calls Try.prog 45 #[v, .int .i64 (q2 : Int), .int .i64 ((d + m : Nat) : Int), .int .i64 (rWants a.op 1)] W fun e w' => e = .returned (.int .i64 (M2 : Int)) ∧ Up W w') :
    Calls Try.prog 44 #[v, .int .i64 (p : Int), .int .i64 (d : Int)] w (fun e w' => e = .returned (.tuple #[.int .i64 ((max M1 M2 : Nat) : Int), .int .i64 ((m + 1 : Nat) : Int)]) ∧ Up w w') := by
  obtain ⟨Post, hPost⟩ : ∃ P : Ending → World → Prop, P = fun e w' => e = .returned (.tuple #[.int .i64 ((max M1 M2 : Nat) : Int), .int .i64 ((m + 1 : Nat) : Int)]) ∧ Up w w' := ⟨_, rfl⟩
  rw [← hPost]
  have HPo : Hid (Post = fun e w' => e = .returned (.tuple #[.int .i64 ((max M1 M2 : Nat) : Int), .int .i64 ((m + 1 : Nat) : Int)]) ∧ Up w w') := hPost
  clear hPost
  have HKD : Hid (∀ W, Up w W → Calls Try.prog 40 #[v, .int .i64 (p : Int)] W (CpN W fun W' v' => W'.ownsRow W.heap.size 3 1 v' (kds l p).length (ivn (kds l p)))) := fun W hu => rkids_ v l p W (hv.up hu) hn (by omega)
  rw [hk] at HKD
  obtain ⟨ad, c, rfl, hc, hcell⟩ := nl_at hv
  obtain ⟨bk, off, rfl, hce⟩ := hcell (by omega)
  have HA : Hid (∀ W, Up w W → W.cell? ⟨bk, off + p * 7, none⟩ = some (.int .i8 a.op)) := fun W hu => by
    rw [← ha]
    exact hce W hu p hp 0 _ rfl
  have HB : Hid (∀ W, Up w W → W.cell? ⟨bk, off + q1 * 7, none⟩ = some (.int .i8 b.op)) := fun W hu => by
    rw [← hb]
    exact hce W hu q1 h1 0 _ rfl
  obtain ⟨n, hN⟩ : ∃ n, n = l.length := ⟨_, rfl⟩
  rw [← hN] at hp h1 h2 hn hc HKD HR HO HC ⊢
  have hp2 : (p : Int) < (n : Int) := by omega
  have hmd : ¬ (M1 : Int) ≤ (d : Int) := by omega
  have h12 : (q1 : Int) < (n : Int) := by omega
  have h22 : (q2 : Int) < (n : Int) := by omega
  have HRO : Hid (rRank b.op = rRank a.op → ∀ W, Up w W → Calls Try.prog 44 #[.slice (some ⟨bk, off, none⟩) n c, .int .i64 (q1 : Int), .int .i64 (d : Int)] W fun e w' => e = .returned (.tuple #[.int .i64 (M1 : Int), .int .i64 (m : Int)]) ∧ Up W w') := HR
  have HOP : Hid (¬ rRank b.op = rRank a.op → m = 0 ∧ ∀ W, Up w W → Calls Try.prog 45 #[.slice (some ⟨bk, off, none⟩) n c, .int .i64 (q1 : Int), .int .i64 (d : Int), .int .i64 (rWants a.op 0)] W fun e w' => e = .returned (.int .i64 (M1 : Int)) ∧ Up W w') := HO
  have HCO : Hid (∀ W, Up w W → Calls Try.prog 45 #[.slice (some ⟨bk, off, none⟩) n c, .int .i64 (q2 : Int), .int .i64 ((d + m : Nat) : Int), .int .i64 (rWants a.op 1)] W fun e w' => e = .returned (.int .i64 (M2 : Int)) ∧ Up W w') := HC
  clear hcell hce hv hN ha hb hk HR HO HC
  generalize a.op = oa at *
  generalize b.op = ob at *
  go_enter Try.func44, Try.ntmps44
  go_wp2_with fail
  refine Calls.mono (HKD.out _ (Up.refl _)) ?_
  rintro e w1 ⟨vk, rfl, hrow, hu1⟩
  obtain ⟨g, ck, hg1, hg2, rfl⟩ := row_some hrow (by simp)
  have y0 : w1.cell? ⟨g, 0, none⟩ = some (.int .i64 (q1 : Int)) := (hrow.cellAt 0 (by simp)).trans rfl
  have y1 : w1.cell? ⟨g, 1, none⟩ = some (.int .i64 (q2 : Int)) := (hrow.cellAt 1 (by simp)).trans rfl
  have HY : Hid (∀ W, Up w1 W → W.cell? ⟨g, 1, none⟩ = some (.int .i64 (q2 : Int))) := fun W hu => hu.cell y1
  have HU1 : Hid (Up w w1) := hu1
  have xa := HA.out w1 hu1
  have xb := HB.out w1 hu1
  have hck : 2 ≤ ck := hg2
  clear hrow hu1 hg1 hg2 y1
  simp only [List.length_cons, List.length_nil] at *
  go_wp2_with fail
  refine Calls.mono (rank_ oa w1) ?_
  rintro e w2 ⟨rfl, hw⟩
  obtain rfl := hw.symm
  clear hw
  go_wp2_with fail
  refine Calls.mono (rank_ ob w1) ?_
  rintro e w2 ⟨rfl, hw⟩
  obtain rfl := hw.symm
  clear hw
  by_cases hr : rRank ob = rRank oa
  · have HRC := HRO.out hr w1 HU1.out
    have HRC2 : Hid (Calls Try.prog 44 #[.slice (some ⟨bk, off, none⟩) n c, .int .i64 (q1 : Int), .int .i64 (d : Int)] w1 fun e w' => e = .returned (.tuple #[.int .i64 (M1 : Int), .int .i64 (m : Int)]) ∧ Up w1 w') := HRC
    clear HRC
    go_wp2_with fail
    refine Calls.mono HRC2.out ?_
    rintro e w2 ⟨rfl, hu2⟩
    have HU2 : Hid (Up w w2) := HU1.out.trans hu2
    have xa2 := HA.out w2 HU2.out
    have y2 := HY.out w2 hu2
    clear hu2 xa xb y0
    go_upto_region 11 with fail
    clear HRO HOP HB
    have ec : IntKind.i64.wrap ((d : Int) + (m : Int)) = (d : Int) + (m : Int) := by rw [IntKind.wrap_i64]; omega
    have ec1 : IntKind.i64.wrap ((m : Int) + 1) = (m : Int) + 1 := by rw [IntKind.wrap_i64]; omega
    have HS0 : Hid (w2.drew.cell? ⟨bk, off + p * 7, none⟩ = some (.int .i8 oa) ∧ w2.drew.cell? ⟨g, 1, none⟩ = some (.int .i64 (q2 : Int)) ∧ Hid (Up w w2.drew)) := ⟨by simpa using xa2, by simpa using y2, HU2.out.drew⟩
    have HKp : Hid (∀ W W', (W.cell? ⟨bk, off + p * 7, none⟩ = some (.int .i8 oa) ∧ W.cell? ⟨g, 1, none⟩ = some (.int .i64 (q2 : Int)) ∧ Hid (Up w W)) → Up W W' → (W'.cell? ⟨bk, off + p * 7, none⟩ = some (.int .i8 oa) ∧ W'.cell? ⟨g, 1, none⟩ = some (.int .i64 (q2 : Int)) ∧ Hid (Up w W'))) := fun W W' h u => ⟨u.cell h.1, u.cell h.2.1, h.2.2.out.trans u⟩
    have HWa : Hid (∀ W, (W.cell? ⟨bk, off + p * 7, none⟩ = some (.int .i8 oa) ∧ W.cell? ⟨g, 1, none⟩ = some (.int .i64 (q2 : Int)) ∧ Hid (Up w W)) → Calls Try.prog 46 #[.int .i8 oa, .int .i64 1] W fun e w' => e = .returned (.int .i64 (rWants oa 1)) ∧ Up W w') := fun W _ => Calls.mono (wants_ oa 1 W (by decide) (by decide)) (fun e w' h => ⟨h.1, by rw [h.2]; exact Up.refl _⟩)
    have HPl : Hid (∀ W, (W.cell? ⟨bk, off + p * 7, none⟩ = some (.int .i8 oa) ∧ W.cell? ⟨g, 1, none⟩ = some (.int .i64 (q2 : Int)) ∧ Hid (Up w W)) → Calls Try.prog 45 #[.slice (some ⟨bk, off, none⟩) n c, .int .i64 (q2 : Int), .int .i64 ((d : Int) + (m : Int)), .int .i64 (rWants oa 1)] W fun e w' => e = .returned (.int .i64 (M2 : Int)) ∧ Up W w') := fun W h => by
      have h9 := HCO.out W h.2.2.out
      rw [show (((d + m : Nat) : Int)) = (d : Int) + (m : Int) by omega] at h9
      exact h9
    clear xa2 y2
    by_cases hmx : (M2 : Int) ≤ (M1 : Int)
    · go_region_held3 (fun W' => W'.cell? ⟨bk, off + p * 7, none⟩ = some (.int .i8 oa) ∧ W'.cell? ⟨g, 1, none⟩ = some (.int .i64 (q2 : Int)) ∧ Hid (Up w W'))
        (first | exact HS0.out | assumption | (refine HKp.out _ _ ?_ hu9; assumption))
        (first
          | (go_at_call 46; with_reducible refine Calls.mono (HWa.out _ (by assumption)) ?_; rintro e w' ⟨rfl, hu9⟩)
          | (go_at_call 45; with_reducible refine Calls.mono (HPl.out _ (by assumption)) ?_; rintro e w' ⟨rfl, hu9⟩))
      rename_i hZ
      have HUF := hZ.2.2
      go_wp2_with fail
      rw [HPo.out]
      have e9 : ((max M1 M2 : Nat) : Int) = (M1 : Int) := by omega
      have e10 : ((m + 1 : Nat) : Int) = (m : Int) + 1 := by omega
      rw [e9, e10]
      exact ⟨rfl, HUF.out⟩
    · go_region_held3 (fun W' => W'.cell? ⟨bk, off + p * 7, none⟩ = some (.int .i8 oa) ∧ W'.cell? ⟨g, 1, none⟩ = some (.int .i64 (q2 : Int)) ∧ Hid (Up w W'))
        (first | exact HS0.out | assumption | (refine HKp.out _ _ ?_ hu9; assumption))
        (first
          | (go_at_call 46; with_reducible refine Calls.mono (HWa.out _ (by assumption)) ?_; rintro e w' ⟨rfl, hu9⟩)
          | (go_at_call 45; with_reducible refine Calls.mono (HPl.out _ (by assumption)) ?_; rintro e w' ⟨rfl, hu9⟩))
      rename_i hZ
      have HUF := hZ.2.2
      go_wp2_with fail
      rw [HPo.out]
      have e9 : ((max M1 M2 : Nat) : Int) = (M2 : Int) := by omega
      have e10 : ((m + 1 : Nat) : Int) = (m : Int) + 1 := by omega
      rw [e9, e10]
      exact ⟨rfl, HUF.out⟩
  · obtain ⟨hm0, hpl⟩ := HOP.out hr
    subst hm0
    have HPL2 : Hid (Calls Try.prog 45 #[.slice (some ⟨bk, off, none⟩) n c, .int .i64 (q1 : Int), .int .i64 (d : Int), .int .i64 (rWants oa 0)] w1 fun e w' => e = .returned (.int .i64 (M1 : Int)) ∧ Up w1 w') := hpl w1 HU1.out
    clear hpl
    go_wp2_with fail
    refine Calls.mono (wants_ oa 0 w1 (by decide) (by decide)) ?_
    rintro e w2 ⟨rfl, hw⟩
    obtain rfl := hw.symm
    clear hw
    go_wp2_with fail
    refine Calls.mono HPL2.out ?_
    rintro e w2 ⟨rfl, hu2⟩
    have HU2 : Hid (Up w w2) := HU1.out.trans hu2
    have xa2 := HA.out w2 HU2.out
    have y2 := HY.out w2 hu2
    clear hu2 xa xb y0
    go_upto_region 11 with fail
    clear HRO HOP HB
    have ec : IntKind.i64.wrap ((d : Int)) = (d : Int) := by rw [IntKind.wrap_i64]; omega
    have ec1 : IntKind.i64.wrap (0 + 1) = 0 + 1 := by rw [IntKind.wrap_i64]; omega
    have HS0 : Hid (w2.drew.cell? ⟨bk, off + p * 7, none⟩ = some (.int .i8 oa) ∧ w2.drew.cell? ⟨g, 1, none⟩ = some (.int .i64 (q2 : Int)) ∧ Hid (Up w w2.drew)) := ⟨by simpa using xa2, by simpa using y2, HU2.out.drew⟩
    have HKp : Hid (∀ W W', (W.cell? ⟨bk, off + p * 7, none⟩ = some (.int .i8 oa) ∧ W.cell? ⟨g, 1, none⟩ = some (.int .i64 (q2 : Int)) ∧ Hid (Up w W)) → Up W W' → (W'.cell? ⟨bk, off + p * 7, none⟩ = some (.int .i8 oa) ∧ W'.cell? ⟨g, 1, none⟩ = some (.int .i64 (q2 : Int)) ∧ Hid (Up w W'))) := fun W W' h u => ⟨u.cell h.1, u.cell h.2.1, h.2.2.out.trans u⟩
    have HWa : Hid (∀ W, (W.cell? ⟨bk, off + p * 7, none⟩ = some (.int .i8 oa) ∧ W.cell? ⟨g, 1, none⟩ = some (.int .i64 (q2 : Int)) ∧ Hid (Up w W)) → Calls Try.prog 46 #[.int .i8 oa, .int .i64 1] W fun e w' => e = .returned (.int .i64 (rWants oa 1)) ∧ Up W w') := fun W _ => Calls.mono (wants_ oa 1 W (by decide) (by decide)) (fun e w' h => ⟨h.1, by rw [h.2]; exact Up.refl _⟩)
    have HPl : Hid (∀ W, (W.cell? ⟨bk, off + p * 7, none⟩ = some (.int .i8 oa) ∧ W.cell? ⟨g, 1, none⟩ = some (.int .i64 (q2 : Int)) ∧ Hid (Up w W)) → Calls Try.prog 45 #[.slice (some ⟨bk, off, none⟩) n c, .int .i64 (q2 : Int), .int .i64 ((d : Int)), .int .i64 (rWants oa 1)] W fun e w' => e = .returned (.int .i64 (M2 : Int)) ∧ Up W w') := fun W h => by
      have h9 := HCO.out W h.2.2.out
      rw [show (((d + 0 : Nat) : Int)) = (d : Int) by omega] at h9
      exact h9
    clear xa2 y2
    by_cases hmx : (M2 : Int) ≤ (M1 : Int)
    · go_region_held3 (fun W' => W'.cell? ⟨bk, off + p * 7, none⟩ = some (.int .i8 oa) ∧ W'.cell? ⟨g, 1, none⟩ = some (.int .i64 (q2 : Int)) ∧ Hid (Up w W'))
        (first | exact HS0.out | assumption | (refine HKp.out _ _ ?_ hu9; assumption))
        (first
          | (go_at_call 46; with_reducible refine Calls.mono (HWa.out _ (by assumption)) ?_; rintro e w' ⟨rfl, hu9⟩)
          | (go_at_call 45; with_reducible refine Calls.mono (HPl.out _ (by assumption)) ?_; rintro e w' ⟨rfl, hu9⟩))
      rename_i hZ
      have HUF := hZ.2.2
      go_wp2_with fail
      rw [HPo.out]
      have e9 : ((max M1 M2 : Nat) : Int) = (M1 : Int) := by omega
      have e10 : ((0 + 1 : Nat) : Int) = 0 + 1 := by omega
      rw [e9, e10]
      exact ⟨rfl, HUF.out⟩
    · go_region_held3 (fun W' => W'.cell? ⟨bk, off + p * 7, none⟩ = some (.int .i8 oa) ∧ W'.cell? ⟨g, 1, none⟩ = some (.int .i64 (q2 : Int)) ∧ Hid (Up w W'))
        (first | exact HS0.out | assumption | (refine HKp.out _ _ ?_ hu9; assumption))
        (first
          | (go_at_call 46; with_reducible refine Calls.mono (HWa.out _ (by assumption)) ?_; rintro e w' ⟨rfl, hu9⟩)
          | (go_at_call 45; with_reducible refine Calls.mono (HPl.out _ (by assumption)) ?_; rintro e w' ⟨rfl, hu9⟩))
      rename_i hZ
      have HUF := hZ.2.2
      go_wp2_with fail
      rw [HPo.out]
      have e9 : ((max M1 M2 : Nat) : Int) = (M2 : Int) := by omega
      have e10 : ((0 + 1 : Nat) : Int) = 0 + 1 := by omega
      rw [e9, e10]
      exact ⟨rfl, HUF.out⟩
set_option maxRecDepth 100000 in
set_option maxHeartbeats 16000000 in
theorem row_eq (v : Value) (l : List Nd) (p q1 q2 d m M2 : Nat) (w : World) (a b : Nd) (hv : NLs w v l) (hp : p < l.length) (h1 : q1 < l.length) (h2 : q2 < l.length) (ha : l.getD p dn = a) (hb : l.getD q1 dn = b) (hk : kds l (p : Int) = [(q1 : Int), (q2 : Int)]) (hn : l.length ≤ 1000000) (hd : d ≤ 100000000000) (hm : m ≤ 1000000)
    (HR : rRank b.op = rRank a.op → ∀ W, Up w W → Calls Try.prog 44 #[v, .int .i64 (q1 : Int), .int .i64 (d : Int)] W fun e w' => e = .returned (.tuple #[.int .i64 (d : Int), .int .i64 (m : Int)]) ∧ Up W w')
    (HO : ¬ rRank b.op = rRank a.op → m = 0 ∧ ∀ W, Up w W → Calls Try.prog 45 #[v, .int .i64 (q1 : Int), .int .i64 (d : Int), .int .i64 (rWants a.op 0)] W fun e w' => e = .returned (.int .i64 (d : Int)) ∧ Up W w')
    (HC : ∀ W, Up w W → Calls Try.prog 45 #[v, .int .i64 (q2 : Int), .int .i64 ((d + m : Nat) : Int), .int .i64 (rWants a.op 1)] W fun e w' => e = .returned (.int .i64 (M2 : Int)) ∧ Up W w') :
    Calls Try.prog 44 #[v, .int .i64 (p : Int), .int .i64 (d : Int)] w (fun e w' => e = .returned (.tuple #[.int .i64 ((max d M2 : Nat) : Int), .int .i64 ((m + 1 : Nat) : Int)]) ∧ Up w w') := by
  obtain ⟨Post, hPost⟩ : ∃ P : Ending → World → Prop, P = fun e w' => e = .returned (.tuple #[.int .i64 ((max d M2 : Nat) : Int), .int .i64 ((m + 1 : Nat) : Int)]) ∧ Up w w' := ⟨_, rfl⟩
  rw [← hPost]
  have HPo : Hid (Post = fun e w' => e = .returned (.tuple #[.int .i64 ((max d M2 : Nat) : Int), .int .i64 ((m + 1 : Nat) : Int)]) ∧ Up w w') := hPost
  clear hPost
  have HKD : Hid (∀ W, Up w W → Calls Try.prog 40 #[v, .int .i64 (p : Int)] W (CpN W fun W' v' => W'.ownsRow W.heap.size 3 1 v' (kds l p).length (ivn (kds l p)))) := fun W hu => rkids_ v l p W (hv.up hu) hn (by omega)
  rw [hk] at HKD
  obtain ⟨ad, c, rfl, hc, hcell⟩ := nl_at hv
  obtain ⟨bk, off, rfl, hce⟩ := hcell (by omega)
  have HA : Hid (∀ W, Up w W → W.cell? ⟨bk, off + p * 7, none⟩ = some (.int .i8 a.op)) := fun W hu => by
    rw [← ha]
    exact hce W hu p hp 0 _ rfl
  have HB : Hid (∀ W, Up w W → W.cell? ⟨bk, off + q1 * 7, none⟩ = some (.int .i8 b.op)) := fun W hu => by
    rw [← hb]
    exact hce W hu q1 h1 0 _ rfl
  obtain ⟨n, hN⟩ : ∃ n, n = l.length := ⟨_, rfl⟩
  rw [← hN] at hp h1 h2 hn hc HKD HR HO HC ⊢
  have hp2 : (p : Int) < (n : Int) := by omega
  have h12 : (q1 : Int) < (n : Int) := by omega
  have h22 : (q2 : Int) < (n : Int) := by omega
  have HRO : Hid (rRank b.op = rRank a.op → ∀ W, Up w W → Calls Try.prog 44 #[.slice (some ⟨bk, off, none⟩) n c, .int .i64 (q1 : Int), .int .i64 (d : Int)] W fun e w' => e = .returned (.tuple #[.int .i64 (d : Int), .int .i64 (m : Int)]) ∧ Up W w') := HR
  have HOP : Hid (¬ rRank b.op = rRank a.op → m = 0 ∧ ∀ W, Up w W → Calls Try.prog 45 #[.slice (some ⟨bk, off, none⟩) n c, .int .i64 (q1 : Int), .int .i64 (d : Int), .int .i64 (rWants a.op 0)] W fun e w' => e = .returned (.int .i64 (d : Int)) ∧ Up W w') := HO
  have HCO : Hid (∀ W, Up w W → Calls Try.prog 45 #[.slice (some ⟨bk, off, none⟩) n c, .int .i64 (q2 : Int), .int .i64 ((d + m : Nat) : Int), .int .i64 (rWants a.op 1)] W fun e w' => e = .returned (.int .i64 (M2 : Int)) ∧ Up W w') := HC
  clear hcell hce hv hN ha hb hk HR HO HC
  generalize a.op = oa at *
  generalize b.op = ob at *
  go_enter Try.func44, Try.ntmps44
  go_wp2_with fail
  refine Calls.mono (HKD.out _ (Up.refl _)) ?_
  rintro e w1 ⟨vk, rfl, hrow, hu1⟩
  obtain ⟨g, ck, hg1, hg2, rfl⟩ := row_some hrow (by simp)
  have y0 : w1.cell? ⟨g, 0, none⟩ = some (.int .i64 (q1 : Int)) := (hrow.cellAt 0 (by simp)).trans rfl
  have y1 : w1.cell? ⟨g, 1, none⟩ = some (.int .i64 (q2 : Int)) := (hrow.cellAt 1 (by simp)).trans rfl
  have HY : Hid (∀ W, Up w1 W → W.cell? ⟨g, 1, none⟩ = some (.int .i64 (q2 : Int))) := fun W hu => hu.cell y1
  have HU1 : Hid (Up w w1) := hu1
  have xa := HA.out w1 hu1
  have xb := HB.out w1 hu1
  have hck : 2 ≤ ck := hg2
  clear hrow hu1 hg1 hg2 y1
  simp only [List.length_cons, List.length_nil] at *
  go_wp2_with fail
  refine Calls.mono (rank_ oa w1) ?_
  rintro e w2 ⟨rfl, hw⟩
  obtain rfl := hw.symm
  clear hw
  go_wp2_with fail
  refine Calls.mono (rank_ ob w1) ?_
  rintro e w2 ⟨rfl, hw⟩
  obtain rfl := hw.symm
  clear hw
  by_cases hr : rRank ob = rRank oa
  · have HRC := HRO.out hr w1 HU1.out
    have HRC2 : Hid (Calls Try.prog 44 #[.slice (some ⟨bk, off, none⟩) n c, .int .i64 (q1 : Int), .int .i64 (d : Int)] w1 fun e w' => e = .returned (.tuple #[.int .i64 (d : Int), .int .i64 (m : Int)]) ∧ Up w1 w') := HRC
    clear HRC
    go_wp2_with fail
    refine Calls.mono HRC2.out ?_
    rintro e w2 ⟨rfl, hu2⟩
    have HU2 : Hid (Up w w2) := HU1.out.trans hu2
    have xa2 := HA.out w2 HU2.out
    have y2 := HY.out w2 hu2
    clear hu2 xa xb y0
    go_upto_region 11 with fail
    clear HRO HOP HB
    have ec : IntKind.i64.wrap ((d : Int) + (m : Int)) = (d : Int) + (m : Int) := by rw [IntKind.wrap_i64]; omega
    have ec1 : IntKind.i64.wrap ((m : Int) + 1) = (m : Int) + 1 := by rw [IntKind.wrap_i64]; omega
    have HS0 : Hid (w2.drew.cell? ⟨bk, off + p * 7, none⟩ = some (.int .i8 oa) ∧ w2.drew.cell? ⟨g, 1, none⟩ = some (.int .i64 (q2 : Int)) ∧ Hid (Up w w2.drew)) := ⟨by simpa using xa2, by simpa using y2, HU2.out.drew⟩
    have HKp : Hid (∀ W W', (W.cell? ⟨bk, off + p * 7, none⟩ = some (.int .i8 oa) ∧ W.cell? ⟨g, 1, none⟩ = some (.int .i64 (q2 : Int)) ∧ Hid (Up w W)) → Up W W' → (W'.cell? ⟨bk, off + p * 7, none⟩ = some (.int .i8 oa) ∧ W'.cell? ⟨g, 1, none⟩ = some (.int .i64 (q2 : Int)) ∧ Hid (Up w W'))) := fun W W' h u => ⟨u.cell h.1, u.cell h.2.1, h.2.2.out.trans u⟩
    have HWa : Hid (∀ W, (W.cell? ⟨bk, off + p * 7, none⟩ = some (.int .i8 oa) ∧ W.cell? ⟨g, 1, none⟩ = some (.int .i64 (q2 : Int)) ∧ Hid (Up w W)) → Calls Try.prog 46 #[.int .i8 oa, .int .i64 1] W fun e w' => e = .returned (.int .i64 (rWants oa 1)) ∧ Up W w') := fun W _ => Calls.mono (wants_ oa 1 W (by decide) (by decide)) (fun e w' h => ⟨h.1, by rw [h.2]; exact Up.refl _⟩)
    have HPl : Hid (∀ W, (W.cell? ⟨bk, off + p * 7, none⟩ = some (.int .i8 oa) ∧ W.cell? ⟨g, 1, none⟩ = some (.int .i64 (q2 : Int)) ∧ Hid (Up w W)) → Calls Try.prog 45 #[.slice (some ⟨bk, off, none⟩) n c, .int .i64 (q2 : Int), .int .i64 ((d : Int) + (m : Int)), .int .i64 (rWants oa 1)] W fun e w' => e = .returned (.int .i64 (M2 : Int)) ∧ Up W w') := fun W h => by
      have h9 := HCO.out W h.2.2.out
      rw [show (((d + m : Nat) : Int)) = (d : Int) + (m : Int) by omega] at h9
      exact h9
    clear xa2 y2
    by_cases hmx : (M2 : Int) ≤ (d : Int)
    · go_region_held3 (fun W' => W'.cell? ⟨bk, off + p * 7, none⟩ = some (.int .i8 oa) ∧ W'.cell? ⟨g, 1, none⟩ = some (.int .i64 (q2 : Int)) ∧ Hid (Up w W'))
        (first | exact HS0.out | assumption | (refine HKp.out _ _ ?_ hu9; assumption))
        (first
          | (go_at_call 46; with_reducible refine Calls.mono (HWa.out _ (by assumption)) ?_; rintro e w' ⟨rfl, hu9⟩)
          | (go_at_call 45; with_reducible refine Calls.mono (HPl.out _ (by assumption)) ?_; rintro e w' ⟨rfl, hu9⟩))
      rename_i hZ
      have HUF := hZ.2.2
      go_wp2_with fail
      rw [HPo.out]
      have e9 : ((max d M2 : Nat) : Int) = (d : Int) := by omega
      have e10 : ((m + 1 : Nat) : Int) = (m : Int) + 1 := by omega
      rw [e9, e10]
      exact ⟨rfl, HUF.out⟩
    · go_region_held3 (fun W' => W'.cell? ⟨bk, off + p * 7, none⟩ = some (.int .i8 oa) ∧ W'.cell? ⟨g, 1, none⟩ = some (.int .i64 (q2 : Int)) ∧ Hid (Up w W'))
        (first | exact HS0.out | assumption | (refine HKp.out _ _ ?_ hu9; assumption))
        (first
          | (go_at_call 46; with_reducible refine Calls.mono (HWa.out _ (by assumption)) ?_; rintro e w' ⟨rfl, hu9⟩)
          | (go_at_call 45; with_reducible refine Calls.mono (HPl.out _ (by assumption)) ?_; rintro e w' ⟨rfl, hu9⟩))
      rename_i hZ
      have HUF := hZ.2.2
      go_wp2_with fail
      rw [HPo.out]
      have e9 : ((max d M2 : Nat) : Int) = (M2 : Int) := by omega
      have e10 : ((m + 1 : Nat) : Int) = (m : Int) + 1 := by omega
      rw [e9, e10]
      exact ⟨rfl, HUF.out⟩
  · obtain ⟨hm0, hpl⟩ := HOP.out hr
    subst hm0
    have HPL2 : Hid (Calls Try.prog 45 #[.slice (some ⟨bk, off, none⟩) n c, .int .i64 (q1 : Int), .int .i64 (d : Int), .int .i64 (rWants oa 0)] w1 fun e w' => e = .returned (.int .i64 (d : Int)) ∧ Up w1 w') := hpl w1 HU1.out
    clear hpl
    go_wp2_with fail
    refine Calls.mono (wants_ oa 0 w1 (by decide) (by decide)) ?_
    rintro e w2 ⟨rfl, hw⟩
    obtain rfl := hw.symm
    clear hw
    go_wp2_with fail
    refine Calls.mono HPL2.out ?_
    rintro e w2 ⟨rfl, hu2⟩
    have HU2 : Hid (Up w w2) := HU1.out.trans hu2
    have xa2 := HA.out w2 HU2.out
    have y2 := HY.out w2 hu2
    clear hu2 xa xb y0
    go_upto_region 11 with fail
    clear HRO HOP HB
    have ec : IntKind.i64.wrap ((d : Int)) = (d : Int) := by rw [IntKind.wrap_i64]; omega
    have ec1 : IntKind.i64.wrap (0 + 1) = 0 + 1 := by rw [IntKind.wrap_i64]; omega
    have HS0 : Hid (w2.drew.cell? ⟨bk, off + p * 7, none⟩ = some (.int .i8 oa) ∧ w2.drew.cell? ⟨g, 1, none⟩ = some (.int .i64 (q2 : Int)) ∧ Hid (Up w w2.drew)) := ⟨by simpa using xa2, by simpa using y2, HU2.out.drew⟩
    have HKp : Hid (∀ W W', (W.cell? ⟨bk, off + p * 7, none⟩ = some (.int .i8 oa) ∧ W.cell? ⟨g, 1, none⟩ = some (.int .i64 (q2 : Int)) ∧ Hid (Up w W)) → Up W W' → (W'.cell? ⟨bk, off + p * 7, none⟩ = some (.int .i8 oa) ∧ W'.cell? ⟨g, 1, none⟩ = some (.int .i64 (q2 : Int)) ∧ Hid (Up w W'))) := fun W W' h u => ⟨u.cell h.1, u.cell h.2.1, h.2.2.out.trans u⟩
    have HWa : Hid (∀ W, (W.cell? ⟨bk, off + p * 7, none⟩ = some (.int .i8 oa) ∧ W.cell? ⟨g, 1, none⟩ = some (.int .i64 (q2 : Int)) ∧ Hid (Up w W)) → Calls Try.prog 46 #[.int .i8 oa, .int .i64 1] W fun e w' => e = .returned (.int .i64 (rWants oa 1)) ∧ Up W w') := fun W _ => Calls.mono (wants_ oa 1 W (by decide) (by decide)) (fun e w' h => ⟨h.1, by rw [h.2]; exact Up.refl _⟩)
    have HPl : Hid (∀ W, (W.cell? ⟨bk, off + p * 7, none⟩ = some (.int .i8 oa) ∧ W.cell? ⟨g, 1, none⟩ = some (.int .i64 (q2 : Int)) ∧ Hid (Up w W)) → Calls Try.prog 45 #[.slice (some ⟨bk, off, none⟩) n c, .int .i64 (q2 : Int), .int .i64 ((d : Int)), .int .i64 (rWants oa 1)] W fun e w' => e = .returned (.int .i64 (M2 : Int)) ∧ Up W w') := fun W h => by
      have h9 := HCO.out W h.2.2.out
      rw [show (((d + 0 : Nat) : Int)) = (d : Int) by omega] at h9
      exact h9
    clear xa2 y2
    by_cases hmx : (M2 : Int) ≤ (d : Int)
    · go_region_held3 (fun W' => W'.cell? ⟨bk, off + p * 7, none⟩ = some (.int .i8 oa) ∧ W'.cell? ⟨g, 1, none⟩ = some (.int .i64 (q2 : Int)) ∧ Hid (Up w W'))
        (first | exact HS0.out | assumption | (refine HKp.out _ _ ?_ hu9; assumption))
        (first
          | (go_at_call 46; with_reducible refine Calls.mono (HWa.out _ (by assumption)) ?_; rintro e w' ⟨rfl, hu9⟩)
          | (go_at_call 45; with_reducible refine Calls.mono (HPl.out _ (by assumption)) ?_; rintro e w' ⟨rfl, hu9⟩))
      rename_i hZ
      have HUF := hZ.2.2
      go_wp2_with fail
      rw [HPo.out]
      have e9 : ((max d M2 : Nat) : Int) = (d : Int) := by omega
      have e10 : ((0 + 1 : Nat) : Int) = 0 + 1 := by omega
      rw [e9, e10]
      exact ⟨rfl, HUF.out⟩
    · go_region_held3 (fun W' => W'.cell? ⟨bk, off + p * 7, none⟩ = some (.int .i8 oa) ∧ W'.cell? ⟨g, 1, none⟩ = some (.int .i64 (q2 : Int)) ∧ Hid (Up w W'))
        (first | exact HS0.out | assumption | (refine HKp.out _ _ ?_ hu9; assumption))
        (first
          | (go_at_call 46; with_reducible refine Calls.mono (HWa.out _ (by assumption)) ?_; rintro e w' ⟨rfl, hu9⟩)
          | (go_at_call 45; with_reducible refine Calls.mono (HPl.out _ (by assumption)) ?_; rintro e w' ⟨rfl, hu9⟩))
      rename_i hZ
      have HUF := hZ.2.2
      go_wp2_with fail
      rw [HPo.out]
      have e9 : ((max d M2 : Nat) : Int) = (M2 : Int) := by omega
      have e10 : ((0 + 1 : Nat) : Int) = 0 + 1 := by omega
      rw [e9, e10]
      exact ⟨rfl, HUF.out⟩
end TR
end Go.Proofs.Ytgahdppcdeefaaa
