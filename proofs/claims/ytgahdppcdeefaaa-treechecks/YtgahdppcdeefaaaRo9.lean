
/-
  The document's row, given what its two kids answer.
-/
import Derived.Test.YtgahdppcdeefaaaPl9
import Derived.Deep.RegionHeld3
namespace Go.Proofs.Ytgahdppcdeefaaa
open Go.RowKit
attribute [local go_sem ↓] Go.wp_at_zero Go.wp_at_succ
namespace TR
set_option maxRecDepth 100000 in
set_option maxHeartbeats 16000000 in
theorem row_lt (v : Value) (l : List Nd) (p q1 q2 d m M1 M2 : Nat) (w : World) (a b : Nd) (hv : NLs w v l) (hp : p < l.length) (h1 : q1 < l.length) (h2 : q2 < l.length) (ha : l.getD p dn = a) (hb : l.getD q1 dn = b) (hk : kds l (p : Int) = [(q1 : Int), (q2 : Int)]) (hn : l.length ≤ 1000000) (hd : d ≤ 100000000000) (hm : m ≤ 1000000) (hM1 : M1 ≤ 1000000000000) (hM : d < M1)
    (HR : rRank b.op = rRank a.op → ∀ W, Up w W → Calls Try.prog 44 #[v, .int .i64 (q1 : Int), .int .i64 (d : Int)] W fun e w' => e = .returned (.tuple #[.int .i64 (M1 : Int), .int .i64 (m : Int)]) ∧ Up W w')
    (HO : ¬ rRank b.op = rRank a.op → m = 0 ∧ ∀ W, Up w W → Calls Try.prog 45 #[v, .int .i64 (q1 : Int), .int .i64 (d : Int), .int .i64 (rWants a.op 0)] W fun e w' => e = .returned (.int .i64 (M1 : Int)) ∧ Up W w')
    (HC : ∀ W, Up w W → Calls Try.prog 45 #[v, .int .i64 (q2 : Int), .int .i64 ((d + m : Nat) : Int), .int .i64 (rWants a.op 1)] W fun e w' => e = .returned (.int .i64 (M2 : Int)) ∧ Up W w') :
    Calls Try.prog 44 #[v, .int .i64 (p : Int), .int .i64 (d : Int)] w (fun e w' => e = .returned (.tuple #[.int .i64 ((max M1 M2 : Nat) : Int), .int .i64 ((m + 1 : Nat) : Int)]) ∧ Up w w') := by
  obtain ⟨Post, hPost⟩ : ∃ P : Ending → World → Prop, P = fun e w' => e = .returned (.tuple #[.int .i64 ((max M1 M2 : Nat) : Int), .int .i64 ((m + 1 : Nat) : Int)]) ∧ Up w w' := ⟨_, rfl⟩
  rw [← hPost]
  have HPo : Hid (Post = fun e w' => e = .returned (.tuple #[.int .i64 ((max M1 M2 : Nat) : Int), .int .i64 ((m + 1 : Nat) : Int)]) ∧ Up w w') := hPost
  clear hPost
  have HKD : Hid (∀ W, Up w W → Calls Try.prog 40 #[v, .int .i64 (p : Int)] W (CpN W fun W' v' => W'.ownsRow W.heap.size 3 1 v' (kds l p).length (ivn (kds l p)))) := fun W hu => rkids_ v l p W (hv.up hu) hn (by omega)
  rw [hk] at HKD
  obtain ⟨ad, c, rfl, hc, hcell⟩ := nl_at hv
  obtain ⟨bk, off, rfl, hce⟩ := hcell (by omega)
  have HA : Hid (∀ W, Up w W → W.cell? ⟨bk, off + p * 7, none⟩ = some (.int .i8 a.op)) := fun W hu => by
    rw [← ha]
    exact hce W hu p hp 0 _ rfl
  have HB : Hid (∀ W, Up w W → W.cell? ⟨bk, off + q1 * 7, none⟩ = some (.int .i8 b.op)) := fun W hu => by
    rw [← hb]
    exact hce W hu q1 h1 0 _ rfl
  obtain ⟨n, hN⟩ : ∃ n, n = l.length := ⟨_, rfl⟩
  rw [← hN] at hp h1 h2 hn hc HKD HR HO HC ⊢
  have hp2 : (p : Int) < (n : Int) := by omega
  have hmd : ¬ (M1 : Int) ≤ (d : Int) := by omega
  have h12 : (q1 : Int) < (n : Int) := by omega
  have h22 : (q2 : Int) < (n : Int) := by omega
  have HRO : Hid (rRank b.op = rRank a.op → ∀ W, Up w W → Calls Try.prog 44 #[.slice (some ⟨bk, off, none⟩) n c, .int .i64 (q1 : Int), .int .i64 (d : Int)] W fun e w' => e = .returned (.tuple #[.int .i64 (M1 : Int), .int .i64 (m : Int)]) ∧ Up W w') := HR
  have HOP : Hid (¬ rRank b.op = rRank a.op → m = 0 ∧ ∀ W, Up w W → Calls Try.prog 45 #[.slice (some ⟨bk, off, none⟩) n c, .int .i64 (q1 : Int), .int .i64 (d : Int), .int .i64 (rWants a.op 0)] W fun e w' => e = .returned (.int .i64 (M1 : Int)) ∧ Up W w') := HO
  have HCO : Hid (∀ W, Up w W → Calls Try.prog 45 #[.slice (some ⟨bk, off, none⟩) n c, .int .i64 (q2 : Int), .int .i64 ((d + m : Nat) : Int), .int .i64 (rWants a.op 1)] W fun e w' => e = .returned (.int .i64 (M2 : Int)) ∧ Up W w') := HC
  clear hcell hce hv hN ha hb hk HR HO HC
  generalize a.op = oa at *
  generalize b.op = ob at *
  go_enter Try.func44, Try.ntmps44
  go_wp2_with fail
  refine Calls.mono (HKD.out _ (Up.refl _)) ?_
  rintro e w1 ⟨vk, rfl, hrow, hu1⟩
  obtain ⟨g, ck, hg1, hg2, rfl⟩ := row_some hrow (by simp)
  have y0 : w1.cell? ⟨g, 0, none⟩ = some (.int .i64 (q1 : Int)) := (hrow.cellAt 0 (by simp)).trans rfl
  have y1 : w1.cell? ⟨g, 1, none⟩ = some (.int .i64 (q2 : Int)) := (hrow.cellAt 1 (by simp)).trans rfl
  have HY : Hid (∀ W, Up w1 W → W.cell? ⟨g, 1, none⟩ = some (.int .i64 (q2 : Int))) := fun W hu => hu.cell y1
  have HU1 : Hid (Up w w1) := hu1
  have xa := HA.out w1 hu1
  have xb := HB.out w1 hu1
  have hck : 2 ≤ ck := hg2
  clear hrow hu1 hg1 hg2 y1
  simp only [List.length_cons, List.length_nil] at *
  go_wp2_with fail
  refine Calls.mono (rank_ oa w1) ?_
  rintro e w2 ⟨rfl, hw⟩
  obtain rfl := hw.symm
  clear hw
  go_wp2_with fail
  refine Calls.mono (rank_ ob w1) ?_
  rintro e w2 ⟨rfl, hw⟩
  obtain rfl := hw.symm
  clear hw
  by_cases hr : rRank ob = rRank oa
  · have HRC := HRO.out hr w1 HU1.out
    have HRC2 : Hid (Calls Try.prog 44 #[.slice (some ⟨bk, off, none⟩) n c, .int .i64 (q1 : Int), .int .i64 (d : Int)] w1 fun e w' => e = .returned (.tuple #[.int .i64 (M1 : Int), .int .i64 (m : Int)]) ∧ Up w1 w') := HRC
    clear HRC
    go_wp2_with fail
    refine Calls.mono HRC2.out ?_
    rintro e w2 ⟨rfl, hu2⟩
    have HU2 : Hid (Up w w2) := HU1.out.trans hu2
    have xa2 := HA.out w2 HU2.out
    have y2 := HY.out w2 hu2
    clear hu2 xa xb y0
    go_upto_region 11 with fail
    clear HRO HOP HB
    have ec : IntKind.i64.wrap ((d : Int) + (m : Int)) = (d : Int) + (m : Int) := by rw [IntKind.wrap_i64]; omega
    have ec1 : IntKind.i64.wrap ((m : Int) + 1) = (m : Int) + 1 := by rw [IntKind.wrap_i64]; omega
    have HS0 : Hid (w2.drew.cell? ⟨bk, off + p * 7, none⟩ = some (.int .i8 oa) ∧ w2.drew.cell? ⟨g, 1, none⟩ = some (.int .i64 (q2 : Int)) ∧ Hid (Up w w2.drew)) := ⟨by simpa using xa2, by simpa using y2, HU2.out.drew⟩
    have HKp : Hid (∀ W W', (W.cell? ⟨bk, off + p * 7, none⟩ = some (.int .i8 oa) ∧ W.cell? ⟨g, 1, none⟩ = some (.int .i64 (q2 : Int)) ∧ Hid (Up w W)) → Up W W' → (W'.cell? ⟨bk, off + p * 7, none⟩ = some (.int .i8 oa) ∧ W'.cell? ⟨g, 1, none⟩ = some (.int .i64 (q2 : Int)) ∧ Hid (Up w W'))) := fun W W' h u => ⟨u.cell h.1, u.cell h.2.1, h.2.2.out.trans u⟩
    have HWa : Hid (∀ W, (W.cell? ⟨bk, off + p * 7, none⟩ = some (.int .i8 oa) ∧ W.cell? ⟨g, 1, none⟩ = some (.int .i64 (q2 : Int)) ∧ Hid (Up w W)) → Calls Try.prog 46 #[.int .i8 oa, .int .i64 1] W fun e w' => e = .returned (.int .i64 (rWants oa 1)) ∧ Up W w') := fun W _ => Calls.mono (wants_ oa 1 W (by decide) (by decide)) (fun e w' h => ⟨h.1, by rw [h.2]; exact Up.refl _⟩)
    have HPl : Hid (∀ W, (W.cell? ⟨bk, off + p * 7, none⟩ = some (.int .i8 oa) ∧ W.cell? ⟨g, 1, none⟩ = some (.int .i64 (q2 : Int)) ∧ Hid (Up w W)) → Calls Try.prog 45 #[.slice (some ⟨bk, off, none⟩) n c, .int .i64 (q2 : Int), .int .i64 ((d : Int) + (m : Int)), .int .i64 (rWants oa 1)] W fun e w' => e = .returned (.int .i64 (M2 : Int)) ∧ Up W w') := fun W h => by
      have h9 := HCO.out W h.2.2.out
      rw [show (((d + m : Nat) : Int)) = (d : Int) + (m : Int) by omega] at h9
      exact h9
    clear xa2 y2
    by_cases hmx : (M2 : Int) ≤ (M1 : Int)
    · go_region_held3 (fun W' => W'.cell? ⟨bk, off + p * 7, none⟩ = some (.int .i8 oa) ∧ W'.cell? ⟨g, 1, none⟩ = some (.int .i64 (q2 : Int)) ∧ Hid (Up w W'))
        (first | exact HS0.out | assumption | (refine HKp.out _ _ ?_ hu9; assumption))
        (first
          | (go_at_call 46; with_reducible refine Calls.mono (HWa.out _ (by assumption)) ?_; rintro e w' ⟨rfl, hu9⟩)
          | (go_at_call 45; with_reducible refine Calls.mono (HPl.out _ (by assumption)) ?_; rintro e w' ⟨rfl, hu9⟩))
      rename_i hZ
      have HUF := hZ.2.2
      go_wp2_with fail
      rw [HPo.out]
      have e9 : ((max M1 M2 : Nat) : Int) = (M1 : Int) := by omega
      have e10 : ((m + 1 : Nat) : Int) = (m : Int) + 1 := by omega
      rw [e9, e10]
      exact ⟨rfl, HUF.out⟩
    · go_region_held3 (fun W' => W'.cell? ⟨bk, off + p * 7, none⟩ = some (.int .i8 oa) ∧ W'.cell? ⟨g, 1, none⟩ = some (.int .i64 (q2 : Int)) ∧ Hid (Up w W'))
        (first | exact HS0.out | assumption | (refine HKp.out _ _ ?_ hu9; assumption))
        (first
          | (go_at_call 46; with_reducible refine Calls.mono (HWa.out _ (by assumption)) ?_; rintro e w' ⟨rfl, hu9⟩)
          | (go_at_call 45; with_reducible refine Calls.mono (HPl.out _ (by assumption)) ?_; rintro e w' ⟨rfl, hu9⟩))
      rename_i hZ
      have HUF := hZ.2.2
      go_wp2_with fail
      rw [HPo.out]
      have e9 : ((max M1 M2 : Nat) : Int) = (M2 : Int) := by omega
      have e10 : ((m + 1 : Nat) : Int) = (m : Int) + 1 := by omega
      rw [e9, e10]
      exact ⟨rfl, HUF.out⟩
  · obtain ⟨hm0, hpl⟩ := HOP.out hr
    subst hm0
    have HPL2 : Hid (Calls Try.prog 45 #[.slice (some ⟨bk, off, none⟩) n c, .int .i64 (q1 : Int), .int .i64 (d : Int), .int .i64 (rWants oa 0)] w1 fun e w' => e = .returned (.int .i64 (M1 : Int)) ∧ Up w1 w') := hpl w1 HU1.out
    clear hpl
    go_wp2_with fail
    refine Calls.mono (wants_ oa 0 w1 (by decide) (by decide)) ?_
    rintro e w2 ⟨rfl, hw⟩
    obtain rfl := hw.symm
    clear hw
    go_wp2_with fail
    refine Calls.mono HPL2.out ?_
    rintro e w2 ⟨rfl, hu2⟩
    have HU2 : Hid (Up w w2) := HU1.out.trans hu2
    have xa2 := HA.out w2 HU2.out
    have y2 := HY.out w2 hu2
    clear hu2 xa xb y0
    go_upto_region 11 with fail
    clear HRO HOP HB
    have ec : IntKind.i64.wrap ((d : Int)) = (d : Int) := by rw [IntKind.wrap_i64]; omega
    have ec1 : IntKind.i64.wrap (0 + 1) = 0 + 1 := by rw [IntKind.wrap_i64]; omega
    have HS0 : Hid (w2.drew.cell? ⟨bk, off + p * 7, none⟩ = some (.int .i8 oa) ∧ w2.drew.cell? ⟨g, 1, none⟩ = some (.int .i64 (q2 : Int)) ∧ Hid (Up w w2.drew)) := ⟨by simpa using xa2, by simpa using y2, HU2.out.drew⟩
    have HKp : Hid (∀ W W', (W.cell? ⟨bk, off + p * 7, none⟩ = some (.int .i8 oa) ∧ W.cell? ⟨g, 1, none⟩ = some (.int .i64 (q2 : Int)) ∧ Hid (Up w W)) → Up W W' → (W'.cell? ⟨bk, off + p * 7, none⟩ = some (.int .i8 oa) ∧ W'.cell? ⟨g, 1, none⟩ = some (.int .i64 (q2 : Int)) ∧ Hid (Up w W'))) := fun W W' h u => ⟨u.cell h.1, u.cell h.2.1, h.2.2.out.trans u⟩
    have HWa : Hid (∀ W, (W.cell? ⟨bk, off + p * 7, none⟩ = some (.int .i8 oa) ∧ W.cell? ⟨g, 1, none⟩ = some (.int .i64 (q2 : Int)) ∧ Hid (Up w W)) → Calls Try.prog 46 #[.int .i8 oa, .int .i64 1] W fun e w' => e = .returned (.int .i64 (rWants oa 1)) ∧ Up W w') := fun W _ => Calls.mono (wants_ oa 1 W (by decide) (by decide)) (fun e w' h => ⟨h.1, by rw [h.2]; exact Up.refl _⟩)
    have HPl : Hid (∀ W, (W.cell? ⟨bk, off + p * 7, none⟩ = some (.int .i8 oa) ∧ W.cell? ⟨g, 1, none⟩ = some (.int .i64 (q2 : Int)) ∧ Hid (Up w W)) → Calls Try.prog 45 #[.slice (some ⟨bk, off, none⟩) n c, .int .i64 (q2 : Int), .int .i64 ((d : Int)), .int .i64 (rWants oa 1)] W fun e w' => e = .returned (.int .i64 (M2 : Int)) ∧ Up W w') := fun W h => by
      have h9 := HCO.out W h.2.2.out
      rw [show (((d + 0 : Nat) : Int)) = (d : Int) by omega] at h9
      exact h9
    clear xa2 y2
    by_cases hmx : (M2 : Int) ≤ (M1 : Int)
    · go_region_held3 (fun W' => W'.cell? ⟨bk, off + p * 7, none⟩ = some (.int .i8 oa) ∧ W'.cell? ⟨g, 1, none⟩ = some (.int .i64 (q2 : Int)) ∧ Hid (Up w W'))
        (first | exact HS0.out | assumption | (refine HKp.out _ _ ?_ hu9; assumption))
        (first
          | (go_at_call 46; with_reducible refine Calls.mono (HWa.out _ (by assumption)) ?_; rintro e w' ⟨rfl, hu9⟩)
          | (go_at_call 45; with_reducible refine Calls.mono (HPl.out _ (by assumption)) ?_; rintro e w' ⟨rfl, hu9⟩))
      rename_i hZ
      have HUF := hZ.2.2
      go_wp2_with fail
      rw [HPo.out]
      have e9 : ((max M1 M2 : Nat) : Int) = (M1 : Int) := by omega
      have e10 : ((0 + 1 : Nat) : Int) = 0 + 1 := by omega
      rw [e9, e10]
      exact ⟨rfl, HUF.out⟩
    · go_region_held3 (fun W' => W'.cell? ⟨bk, off + p * 7, none⟩ = some (.int .i8 oa) ∧ W'.cell? ⟨g, 1, none⟩ = some (.int .i64 (q2 : Int)) ∧ Hid (Up w W'))
        (first | exact HS0.out | assumption | (refine HKp.out _ _ ?_ hu9; assumption))
        (first
          | (go_at_call 46; with_reducible refine Calls.mono (HWa.out _ (by assumption)) ?_; rintro e w' ⟨rfl, hu9⟩)
          | (go_at_call 45; with_reducible refine Calls.mono (HPl.out _ (by assumption)) ?_; rintro e w' ⟨rfl, hu9⟩))
      rename_i hZ
      have HUF := hZ.2.2
      go_wp2_with fail
      rw [HPo.out]
      have e9 : ((max M1 M2 : Nat) : Int) = (M2 : Int) := by omega
      have e10 : ((0 + 1 : Nat) : Int) = 0 + 1 := by omega
      rw [e9, e10]
      exact ⟨rfl, HUF.out⟩
set_option maxRecDepth 100000 in
set_option maxHeartbeats 16000000 in
theorem row_eq (v : Value) (l : List Nd) (p q1 q2 d m M2 : Nat) (w : World) (a b : Nd) (hv : NLs w v l) (hp : p < l.length) (h1 : q1 < l.length) (h2 : q2 < l.length) (ha : l.getD p dn = a) (hb : l.getD q1 dn = b) (hk : kds l (p : Int) = [(q1 : Int), (q2 : Int)]) (hn : l.length ≤ 1000000) (hd : d ≤ 100000000000) (hm : m ≤ 1000000)
    (HR : rRank b.op = rRank a.op → ∀ W, Up w W → Calls Try.prog 44 #[v, .int .i64 (q1 : Int), .int .i64 (d : Int)] W fun e w' => e = .returned (.tuple #[.int .i64 (d : Int), .int .i64 (m : Int)]) ∧ Up W w')
    (HO : ¬ rRank b.op = rRank a.op → m = 0 ∧ ∀ W, Up w W → Calls Try.prog 45 #[v, .int .i64 (q1 : Int), .int .i64 (d : Int), .int .i64 (rWants a.op 0)] W fun e w' => e = .returned (.int .i64 (d : Int)) ∧ Up W w')
    (HC : ∀ W, Up w W → Calls Try.prog 45 #[v, .int .i64 (q2 : Int), .int .i64 ((d + m : Nat) : Int), .int .i64 (rWants a.op 1)] W fun e w' => e = .returned (.int .i64 (M2 : Int)) ∧ Up W w') :
    Calls Try.prog 44 #[v, .int .i64 (p : Int), .int .i64 (d : Int)] w (fun e w' => e = .returned (.tuple #[.int .i64 ((max d M2 : Nat) : Int), .int .i64 ((m + 1 : Nat) : Int)]) ∧ Up w w') := by
  obtain ⟨Post, hPost⟩ : ∃ P : Ending → World → Prop, P = fun e w' => e = .returned (.tuple #[.int .i64 ((max d M2 : Nat) : Int), .int .i64 ((m + 1 : Nat) : Int)]) ∧ Up w w' := ⟨_, rfl⟩
  rw [← hPost]
  have HPo : Hid (Post = fun e w' => e = .returned (.tuple #[.int .i64 ((max d M2 : Nat) : Int), .int .i64 ((m + 1 : Nat) : Int)]) ∧ Up w w') := hPost
  clear hPost
  have HKD : Hid (∀ W, Up w W → Calls Try.prog 40 #[v, .int .i64 (p : Int)] W (CpN W fun W' v' => W'.ownsRow W.heap.size 3 1 v' (kds l p).length (ivn (kds l p)))) := fun W hu => rkids_ v l p W (hv.up hu) hn (by omega)
  rw [hk] at HKD
  obtain ⟨ad, c, rfl, hc, hcell⟩ := nl_at hv
  obtain ⟨bk, off, rfl, hce⟩ := hcell (by omega)
  have HA : Hid (∀ W, Up w W → W.cell? ⟨bk, off + p * 7, none⟩ = some (.int .i8 a.op)) := fun W hu => by
    rw [← ha]
    exact hce W hu p hp 0 _ rfl
  have HB : Hid (∀ W, Up w W → W.cell? ⟨bk, off + q1 * 7, none⟩ = some (.int .i8 b.op)) := fun W hu => by
    rw [← hb]
    exact hce W hu q1 h1 0 _ rfl
  obtain ⟨n, hN⟩ : ∃ n, n = l.length := ⟨_, rfl⟩
  rw [← hN] at hp h1 h2 hn hc HKD HR HO HC ⊢
  have hp2 : (p : Int) < (n : Int) := by omega
  have h12 : (q1 : Int) < (n : Int) := by omega
  have h22 : (q2 : Int) < (n : Int) := by omega
  have HRO : Hid (rRank b.op = rRank a.op → ∀ W, Up w W → Calls Try.prog 44 #[.slice (some ⟨bk, off, none⟩) n c, .int .i64 (q1 : Int), .int .i64 (d : Int)] W fun e w' => e = .returned (.tuple #[.int .i64 (d : Int), .int .i64 (m : Int)]) ∧ Up W w') := HR
  have HOP : Hid (¬ rRank b.op = rRank a.op → m = 0 ∧ ∀ W, Up w W → Calls Try.prog 45 #[.slice (some ⟨bk, off, none⟩) n c, .int .i64 (q1 : Int), .int .i64 (d : Int), .int .i64 (rWants a.op 0)] W fun e w' => e = .returned (.int .i64 (d : Int)) ∧ Up W w') := HO
  have HCO : Hid (∀ W, Up w W → Calls Try.prog 45 #[.slice (some ⟨bk, off, none⟩) n c, .int .i64 (q2 : Int), .int .i64 ((d + m : Nat) : Int), .int .i64 (rWants a.op 1)] W fun e w' => e = .returned (.int .i64 (M2 : Int)) ∧ Up W w') := HC
  clear hcell hce hv hN ha hb hk HR HO HC
  generalize a.op = oa at *
  generalize b.op = ob at *
  go_enter Try.func44, Try.ntmps44
  go_wp2_with fail
  refine Calls.mono (HKD.out _ (Up.refl _)) ?_
  rintro e w1 ⟨vk, rfl, hrow, hu1⟩
  obtain ⟨g, ck, hg1, hg2, rfl⟩ := row_some hrow (by simp)
  have y0 : w1.cell? ⟨g, 0, none⟩ = some (.int .i64 (q1 : Int)) := (hrow.cellAt 0 (by simp)).trans rfl
  have y1 : w1.cell? ⟨g, 1, none⟩ = some (.int .i64 (q2 : Int)) := (hrow.cellAt 1 (by simp)).trans rfl
  have HY : Hid (∀ W, Up w1 W → W.cell? ⟨g, 1, none⟩ = some (.int .i64 (q2 : Int))) := fun W hu => hu.cell y1
  have HU1 : Hid (Up w w1) := hu1
  have xa := HA.out w1 hu1
  have xb := HB.out w1 hu1
  have hck : 2 ≤ ck := hg2
  clear hrow hu1 hg1 hg2 y1
  simp only [List.length_cons, List.length_nil] at *
  go_wp2_with fail
  refine Calls.mono (rank_ oa w1) ?_
  rintro e w2 ⟨rfl, hw⟩
  obtain rfl := hw.symm
  clear hw
  go_wp2_with fail
  refine Calls.mono (rank_ ob w1) ?_
  rintro e w2 ⟨rfl, hw⟩
  obtain rfl := hw.symm
  clear hw
  by_cases hr : rRank ob = rRank oa
  · have HRC := HRO.out hr w1 HU1.out
    have HRC2 : Hid (Calls Try.prog 44 #[.slice (some ⟨bk, off, none⟩) n c, .int .i64 (q1 : Int), .int .i64 (d : Int)] w1 fun e w' => e = .returned (.tuple #[.int .i64 (d : Int), .int .i64 (m : Int)]) ∧ Up w1 w') := HRC
    clear HRC
    go_wp2_with fail
    refine Calls.mono HRC2.out ?_
    rintro e w2 ⟨rfl, hu2⟩
    have HU2 : Hid (Up w w2) := HU1.out.trans hu2
    have xa2 := HA.out w2 HU2.out
    have y2 := HY.out w2 hu2
    clear hu2 xa xb y0
    go_upto_region 11 with fail
    clear HRO HOP HB
    have ec : IntKind.i64.wrap ((d : Int) + (m : Int)) = (d : Int) + (m : Int) := by rw [IntKind.wrap_i64]; omega
    have ec1 : IntKind.i64.wrap ((m : Int) + 1) = (m : Int) + 1 := by rw [IntKind.wrap_i64]; omega
    have HS0 : Hid (w2.drew.cell? ⟨bk, off + p * 7, none⟩ = some (.int .i8 oa) ∧ w2.drew.cell? ⟨g, 1, none⟩ = some (.int .i64 (q2 : Int)) ∧ Hid (Up w w2.drew)) := ⟨by simpa using xa2, by simpa using y2, HU2.out.drew⟩
    have HKp : Hid (∀ W W', (W.cell? ⟨bk, off + p * 7, none⟩ = some (.int .i8 oa) ∧ W.cell? ⟨g, 1, none⟩ = some (.int .i64 (q2 : Int)) ∧ Hid (Up w W)) → Up W W' → (W'.cell? ⟨bk, off + p * 7, none⟩ = some (.int .i8 oa) ∧ W'.cell? ⟨g, 1, none⟩ = some (.int .i64 (q2 : Int)) ∧ Hid (Up w W'))) := fun W W' h u => ⟨u.cell h.1, u.cell h.2.1, h.2.2.out.trans u⟩
    have HWa : Hid (∀ W, (W.cell? ⟨bk, off + p * 7, none⟩ = some (.int .i8 oa) ∧ W.cell? ⟨g, 1, none⟩ = some (.int .i64 (q2 : Int)) ∧ Hid (Up w W)) → Calls Try.prog 46 #[.int .i8 oa, .int .i64 1] W fun e w' => e = .returned (.int .i64 (rWants oa 1)) ∧ Up W w') := fun W _ => Calls.mono (wants_ oa 1 W (by decide) (by decide)) (fun e w' h => ⟨h.1, by rw [h.2]; exact Up.refl _⟩)
    have HPl : Hid (∀ W, (W.cell? ⟨bk, off + p * 7, none⟩ = some (.int .i8 oa) ∧ W.cell? ⟨g, 1, none⟩ = some (.int .i64 (q2 : Int)) ∧ Hid (Up w W)) → Calls Try.prog 45 #[.slice (some ⟨bk, off, none⟩) n c, .int .i64 (q2 : Int), .int .i64 ((d : Int) + (m : Int)), .int .i64 (rWants oa 1)] W fun e w' => e = .returned (.int .i64 (M2 : Int)) ∧ Up W w') := fun W h => by
      have h9 := HCO.out W h.2.2.out
      rw [show (((d + m : Nat) : Int)) = (d : Int) + (m : Int) by omega] at h9
      exact h9
    clear xa2 y2
    by_cases hmx : (M2 : Int) ≤ (d : Int)
    · go_region_held3 (fun W' => W'.cell? ⟨bk, off + p * 7, none⟩ = some (.int .i8 oa) ∧ W'.cell? ⟨g, 1, none⟩ = some (.int .i64 (q2 : Int)) ∧ Hid (Up w W'))
        (first | exact HS0.out | assumption | (refine HKp.out _ _ ?_ hu9; assumption))
        (first
          | (go_at_call 46; with_reducible refine Calls.mono (HWa.out _ (by assumption)) ?_; rintro e w' ⟨rfl, hu9⟩)
          | (go_at_call 45; with_reducible refine Calls.mono (HPl.out _ (by assumption)) ?_; rintro e w' ⟨rfl, hu9⟩))
      rename_i hZ
      have HUF := hZ.2.2
      go_wp2_with fail
      rw [HPo.out]
      have e9 : ((max d M2 : Nat) : Int) = (d : Int) := by omega
      have e10 : ((m + 1 : Nat) : Int) = (m : Int) + 1 := by omega
      rw [e9, e10]
      exact ⟨rfl, HUF.out⟩
    · go_region_held3 (fun W' => W'.cell? ⟨bk, off + p * 7, none⟩ = some (.int .i8 oa) ∧ W'.cell? ⟨g, 1, none⟩ = some (.int .i64 (q2 : Int)) ∧ Hid (Up w W'))
        (first | exact HS0.out | assumption | (refine HKp.out _ _ ?_ hu9; assumption))
        (first
          | (go_at_call 46; with_reducible refine Calls.mono (HWa.out _ (by assumption)) ?_; rintro e w' ⟨rfl, hu9⟩)
          | (go_at_call 45; with_reducible refine Calls.mono (HPl.out _ (by assumption)) ?_; rintro e w' ⟨rfl, hu9⟩))
      rename_i hZ
      have HUF := hZ.2.2
      go_wp2_with fail
      rw [HPo.out]
      have e9 : ((max d M2 : Nat) : Int) = (M2 : Int) := by omega
      have e10 : ((m + 1 : Nat) : Int) = (m : Int) + 1 := by omega
      rw [e9, e10]
      exact ⟨rfl, HUF.out⟩
  · obtain ⟨hm0, hpl⟩ := HOP.out hr
    subst hm0
    have HPL2 : Hid (Calls Try.prog 45 #[.slice (some ⟨bk, off, none⟩) n c, .int .i64 (q1 : Int), .int .i64 (d : Int), .int .i64 (rWants oa 0)] w1 fun e w' => e = .returned (.int .i64 (d : Int)) ∧ Up w1 w') := hpl w1 HU1.out
    clear hpl
    go_wp2_with fail
    refine Calls.mono (wants_ oa 0 w1 (by decide) (by decide)) ?_
    rintro e w2 ⟨rfl, hw⟩
    obtain rfl := hw.symm
    clear hw
    go_wp2_with fail
    refine Calls.mono HPL2.out ?_
    rintro e w2 ⟨rfl, hu2⟩
    have HU2 : Hid (Up w w2) := HU1.out.trans hu2
    have xa2 := HA.out w2 HU2.out
    have y2 := HY.out w2 hu2
    clear hu2 xa xb y0
    go_upto_region 11 with fail
    clear HRO HOP HB
    have ec : IntKind.i64.wrap ((d : Int)) = (d : Int) := by rw [IntKind.wrap_i64]; omega
    have ec1 : IntKind.i64.wrap (0 + 1) = 0 + 1 := by rw [IntKind.wrap_i64]; omega
    have HS0 : Hid (w2.drew.cell? ⟨bk, off + p * 7, none⟩ = some (.int .i8 oa) ∧ w2.drew.cell? ⟨g, 1, none⟩ = some (.int .i64 (q2 : Int)) ∧ Hid (Up w w2.drew)) := ⟨by simpa using xa2, by simpa using y2, HU2.out.drew⟩
    have HKp : Hid (∀ W W', (W.cell? ⟨bk, off + p * 7, none⟩ = some (.int .i8 oa) ∧ W.cell? ⟨g, 1, none⟩ = some (.int .i64 (q2 : Int)) ∧ Hid (Up w W)) → Up W W' → (W'.cell? ⟨bk, off + p * 7, none⟩ = some (.int .i8 oa) ∧ W'.cell? ⟨g, 1, none⟩ = some (.int .i64 (q2 : Int)) ∧ Hid (Up w W'))) := fun W W' h u => ⟨u.cell h.1, u.cell h.2.1, h.2.2.out.trans u⟩
    have HWa : Hid (∀ W, (W.cell? ⟨bk, off + p * 7, none⟩ = some (.int .i8 oa) ∧ W.cell? ⟨g, 1, none⟩ = some (.int .i64 (q2 : Int)) ∧ Hid (Up w W)) → Calls Try.prog 46 #[.int .i8 oa, .int .i64 1] W fun e w' => e = .returned (.int .i64 (rWants oa 1)) ∧ Up W w') := fun W _ => Calls.mono (wants_ oa 1 W (by decide) (by decide)) (fun e w' h => ⟨h.1, by rw [h.2]; exact Up.refl _⟩)
    have HPl : Hid (∀ W, (W.cell? ⟨bk, off + p * 7, none⟩ = some (.int .i8 oa) ∧ W.cell? ⟨g, 1, none⟩ = some (.int .i64 (q2 : Int)) ∧ Hid (Up w W)) → Calls Try.prog 45 #[.slice (some ⟨bk, off, none⟩) n c, .int .i64 (q2 : Int), .int .i64 ((d : Int)), .int .i64 (rWants oa 1)] W fun e w' => e = .returned (.int .i64 (M2 : Int)) ∧ Up W w') := fun W h => by
      have h9 := HCO.out W h.2.2.out
      rw [show (((d + 0 : Nat) : Int)) = (d : Int) by omega] at h9
      exact h9
    clear xa2 y2
    by_cases hmx : (M2 : Int) ≤ (d : Int)
    · go_region_held3 (fun W' => W'.cell? ⟨bk, off + p * 7, none⟩ = some (.int .i8 oa) ∧ W'.cell? ⟨g, 1, none⟩ = some (.int .i64 (q2 : Int)) ∧ Hid (Up w W'))
        (first | exact HS0.out | assumption | (refine HKp.out _ _ ?_ hu9; assumption))
        (first
          | (go_at_call 46; with_reducible refine Calls.mono (HWa.out _ (by assumption)) ?_; rintro e w' ⟨rfl, hu9⟩)
          | (go_at_call 45; with_reducible refine Calls.mono (HPl.out _ (by assumption)) ?_; rintro e w' ⟨rfl, hu9⟩))
      rename_i hZ
      have HUF := hZ.2.2
      go_wp2_with fail
      rw [HPo.out]
      have e9 : ((max d M2 : Nat) : Int) = (d : Int) := by omega
      have e10 : ((0 + 1 : Nat) : Int) = 0 + 1 := by omega
      rw [e9, e10]
      exact ⟨rfl, HUF.out⟩
    · go_region_held3 (fun W' => W'.cell? ⟨bk, off + p * 7, none⟩ = some (.int .i8 oa) ∧ W'.cell? ⟨g, 1, none⟩ = some (.int .i64 (q2 : Int)) ∧ Hid (Up w W'))
        (first | exact HS0.out | assumption | (refine HKp.out _ _ ?_ hu9; assumption))
        (first
          | (go_at_call 46; with_reducible refine Calls.mono (HWa.out _ (by assumption)) ?_; rintro e w' ⟨rfl, hu9⟩)
          | (go_at_call 45; with_reducible refine Calls.mono (HPl.out _ (by assumption)) ?_; rintro e w' ⟨rfl, hu9⟩))
      rename_i hZ
      have HUF := hZ.2.2
      go_wp2_with fail
      rw [HPo.out]
      have e9 : ((max d M2 : Nat) : Int) = (M2 : Int) := by omega
      have e10 : ((0 + 1 : Nat) : Int) = 0 + 1 := by omega
      rw [e9, e10]
      exact ⟨rfl, HUF.out⟩
end TR
end Go.Proofs.Ytgahdppcdeefaaa
