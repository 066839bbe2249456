
/-
  Copies, wide lists; the document's line and column.
-/
import Derived.Test.YtjjikeehifndhaaDoorLn8
namespace Go.Proofs.YtjjikeehifndhaaDoor
open Go.RowKit
attribute [local go_sem ↓] Go.wp_at_zero Go.wp_at_succ
namespace TK
def bts (l : List Int) : List Nat := l.map Int.toNat
theorem bts_len (l : List Int) : (bts l).length = l.length := by simp [bts]
theorem bts_getD {l : List Int} (hl : Byt l) (i : Nat) (h : i < l.length) : ((bts l).getD i 0 : Int) = l.getD i 0 := by
  have h1 := hl l[i] (List.getElem_mem h)
  simp [bts, List.getD, h]
  omega
theorem bts_bys {l : List Int} (hl : Byt l) : SM.Bys (bts l) := SM.Bys.of fun c hc => by
  obtain ⟨z, hz, rfl⟩ := List.mem_map.1 hc
  have := hl z hz
  omega
theorem bts_bv {l : List Int} (hl : Byt l) : (bts l).map SM.bv = bvs l := by
  unfold bts bvs
  rw [List.map_map]
  refine List.map_congr_left fun z hz => ?_
  have := hl z hz
  show Value.int .u8 ((z.toNat : Nat) : Int) = _
  congr 1
  omega
theorem BL.lies {W : World} {v : Value} {l : List Int} (h : BL W v l) (hl : Byt l) (hz : ∀ cap, v ≠ .slice none 0 (cap + 1)) : SM.Lies W v (bts l) := by
  obtain ⟨-, a, cap, rfl, hcap, hc⟩ := h
  have hbl : (bts l).length = l.length := bts_len l
  refine ⟨a, cap, by rw [hbl], fun ha => ?_, fun hn => ?_⟩
  · subst ha
    by_cases h0 : l.length = 0
    · cases cap with
      | zero => rfl
      | succ c => exact absurd (by rw [h0]) (hz c)
    · obtain ⟨b, off, hb, -⟩ := hc h0
      cases hb
  · rw [hbl] at hn
    obtain ⟨b, off, rfl, hcell⟩ := hc hn
    refine ⟨b, off, rfl, fun i hi => ?_⟩
    rw [hbl] at hi
    rw [hcell i (by omega), bvs_at hi, bts_getD hl i hi]
theorem copyT_ (v : Value) (B : List Int) (w : World) (h : BL w v B) (hl : Byt B) (hz : ∀ cap, v ≠ .slice none 0 (cap + 1)) (hn : B.length ≤ 4294967296) : Calls Tryd.prog 16 #[v] w fun e w' => ∃ u, e = .returned u ∧ w'.ownsRow w.heap.size 5 1 u B.length (bvs B) ∧ Up w w' := by
  refine Calls.mono (SM.copyB v (bts B) w (h.lies hl hz) (by rw [bts_len]; exact hn)) ?_
  rintro e w' ⟨u, h1, h2, h3⟩
  refine ⟨u, h1, ?_, h3⟩
  unfold SM.Owns at h2
  rw [bts_len, bts_bv hl] at h2
  exact h2
/- a list with 64 marks behind it -/
def WB (w W : World) (g : Nat) (B : List Int) : Prop := SM.Row W w.heap.size g (SM.fillL (bts B) (B.length + 64) (B.length + 64))
theorem wideT_ (v : Value) (B : List Int) (w : World) (h : BL w v B) (hl : Byt B) (hz : ∀ cap, v ≠ .slice none 0 (cap + 1)) (hn : B.length ≤ 2147483647) : Calls Tryd.prog 10 #[v] w fun e w' => ∃ g, e = .returned (.slice (some ⟨g, 0, none⟩) B.length (B.length + 64)) ∧ WB w w' g B ∧ Up w w' := by
  have h9 := SM.wideB v (bts B) w (h.lies hl hz) (bts_bys hl) (by rw [bts_len]; exact hn)
  rw [bts_len] at h9
  exact h9
theorem WB.up {w W W' : World} {g : Nat} {B : List Int} (h : WB w W g B) (u : Up W W') : WB w W' g B := SM.Row.up h u
theorem WB.ba {w W : World} {g : Nat} {B : List Int} (h : WB w W g B) (hl : Byt B) : BA W g 0 B := fun W' u j hj => by
  have h1 := SM.Row.cell (WB.up h u) j (by rw [SM.fillL_len]; omega)
  rw [SM.fillL_at _ _ _ _ (by omega), if_pos (by omega), if_pos (by rw [bts_len]; omega), bts_getD hl j hj] at h1
  rw [Nat.zero_add]
  exact h1
theorem WB.lv {w W : World} {g : Nat} {B : List Int} (h : WB w W g B) (hl : Byt B) : LV W (.slice (some ⟨g, 0, none⟩) B.length (B.length + 64)) B := .inr ⟨g, 0, _, rfl, by omega, h.ba hl⟩
theorem WB.bl {w W : World} {g : Nat} {B : List Int} (h : WB w W g B) (hl : Byt B) : BL W (.slice (some ⟨g, 0, none⟩) B.length (B.length + 64)) B := ba_bl (h.ba hl) (by omega)
theorem WB.spare {w W : World} {g : Nat} {B : List Int} (h : WB w W g B) : ∀ j, B.length ≤ j → j < B.length + 64 → W.cell? ⟨g, j, none⟩ = some (.int .u8 (SM.mark j : Nat)) := fun j h1 h2 => by
  rw [SM.Row.cell h j (by rw [SM.fillL_len]; omega), SM.fillL_at _ _ _ _ h2, if_pos h2, if_neg (by rw [bts_len]; omega)]
theorem eqT_ (v u : Value) (B : List Int) (w : World) (hv : BL w v B) (hu : BL w u B) (hl : Byt B) (hz : ∀ cap, v ≠ .slice none 0 (cap + 1)) (hz2 : ∀ cap, u ≠ .slice none 0 (cap + 1)) (hn : B.length ≤ 9223372036854775807) : Calls Tryd.prog 14 #[v, u] w fun e w' => e = .returned (.bool true) ∧ Up w w' := by
  have h8 := SM.eqB v u (bts B) (bts B) w (hv.lies hl hz) (hu.lies hl hz2) (by rw [bts_len]; exact hn)
  rw [decide_eq_true rfl] at h8
  exact h8
set_option maxRecDepth 100000 in
set_option maxHeartbeats 8000000 in
theorem rline_ (v : Value) (B : List Int) (k : Int) (w : World) (hv : BL w v B) (hn : B.length ≤ 4611686018427387904) :
    Calls Tryd.prog 21 #[v, .int .i64 k] w fun e w' => e = .returned (.tuple #[.int .i64 (lnA B k).1, .int .i64 (lnA B k).2]) ∧ w' = w := by
  obtain ⟨Post, hPost⟩ : ∃ P : Ending → World → Prop, P = fun e w' => e = .returned (.tuple #[.int .i64 (lnA B k).1, .int .i64 (lnA B k).2]) ∧ w' = w := ⟨_, rfl⟩
  rw [← hPost]
  have HPo : Hid (Post = fun e w' => e = .returned (.tuple #[.int .i64 (lnA B k).1, .int .i64 (lnA B k).2]) ∧ w' = w) := hPost
  clear hPost
  obtain ⟨n, hN⟩ : ∃ n, n = B.length := ⟨_, rfl⟩
  have HN : Hid (n = B.length) := hN
  obtain ⟨a, c, hvv, -, hce⟩ := bl_cells hv
  rw [← hN] at hvv hce hn
  have HC : Hid (n ≠ 0 → ∃ b off, a = some ⟨b, off, none⟩ ∧ ∀ j, j < n → w.cell? ⟨b, off + j, none⟩ = some (.int .u8 (B.getD j 0))) := fun h0 => by
    obtain ⟨b, off, h1, h2⟩ := hce h0
    exact ⟨b, off, h1, fun j hj => h2 w (Up.refl _) j (by omega)⟩
  subst hvv
  clear hv hce
  by_cases h0 : k < 0
  · have HR : Hid (lnA B k = (0, 0)) := lnA_out (.inl h0)
    clear hN
    go_enter Tryd.func21, Tryd.ntmps21
    go_wp2_with fail
    rw [HPo.out]
    exact ⟨by rw [HR.out] <;> rfl, rfl⟩
  · by_cases h1 : (n : Int) < k
    · have HR : Hid (lnA B k = (0, 0)) := lnA_out (.inr (by omega))
      clear hN
      go_enter Tryd.func21, Tryd.ntmps21
      go_wp2_with fail
      rw [HPo.out]
      exact ⟨by rw [HR.out] <;> rfl, rfl⟩
    · obtain ⟨q, rfl⟩ : ∃ q : Nat, k = q := ⟨k.toNat, by omega⟩
      have hq : q ≤ n := by omega
      have HR : Hid (lnA B q = ln (B.take q)) := lnA_in (by omega)
      clear hN
      go_enter Tryd.func21, Tryd.ntmps21
      go_wp2_with fail
      go_loopw [6, 7, 8] (fun s6 s7 s8 W => ∃ i : Nat, i ≤ q ∧ s6 = .int .i64 (ln (B.take i)).1 ∧ s7 = .int .i64 (ln (B.take i)).2 ∧ s8 = .int .i64 i ∧ W = w) (fun _ _ s8 _ => q - (intOf s8).toNat)
      case atStart => exact ⟨0, Nat.zero_le _, rfl, rfl, rfl, rfl⟩
      case round =>
        obtain ⟨i, hi, rfl, rfl, rfl, rfl⟩ := hrel
        have hin := ln_in (B := B) i (by have := HN.out; omega)
        by_cases hlt : i < q
        · have hlt2 : (i : Int) < (q : Int) := by omega
          have hin2 : (i : Int) < (n : Int) := by omega
          obtain ⟨b, off, rfl, hcc⟩ := HC.out (by omega)
          have hx := hcc i (by omega)
          have ei : IntKind.i64.wrap ((i : Int) + 1) = ((i + 1 : Nat) : Int) := by rw [IntKind.wrap_i64]; omega
          have HST : Hid (ln (B.take (i + 1)) = lnS (ln (B.take i)) (B.getD i 0)) := ln_step (by have := HN.out; omega)
          clear hcc
          generalize B.getD i 0 = d at *
          generalize ln (B.take i) = y at *
          obtain ⟨y1, y2⟩ := y
          simp only at hin
          by_cases hd : d = 10
          · have H1 : Hid (ln (B.take (i + 1)) = (y1 + 1, 1)) := by unfold Hid; rw [HST.out, hd]; rfl
            subst hd
            have e1 : IntKind.i64.wrap (y1 + 1) = y1 + 1 := by rw [IntKind.wrap_i64]; omega
            have e2 : IntKind.i64.wrap (y2 + 1) = y2 + 1 := by rw [IntKind.wrap_i64]; omega
            have e3 : wrap64 (y1 + 1) = y1 + 1 := by rw [← w64e]; exact e1
            have e4 : wrap64 (y2 + 1) = y2 + 1 := by rw [← w64e]; exact e2
            clear HST hin
            go_wp2_with fail
            go_roundw
            case rel => exact ⟨i + 1, by omega, by rw [H1.out], by rw [H1.out], by go_num, by trivial⟩
            case measure => simp [intOf]; omega
          · have hd2 : (d == 10) = false := by simpa using hd
            have H1 : Hid (ln (B.take (i + 1)) = (y1, y2 + 1)) := by unfold Hid; rw [HST.out]; unfold lnS; rw [if_neg hd]
            have e2 : IntKind.i64.wrap (y2 + 1) = y2 + 1 := by rw [IntKind.wrap_i64]; omega
            have e4 : wrap64 (y2 + 1) = y2 + 1 := by rw [← w64e]; exact e2
            clear HST hin
            go_wp2_with fail
            go_roundw
            case rel => exact ⟨i + 1, by omega, by rw [H1.out], by rw [H1.out], by go_num, by trivial⟩
            case measure => simp [intOf]; omega
        · have hlt2 : ¬ (i : Int) < (q : Int) := by omega
          obtain rfl : i = q := by omega
          generalize ln (B.take i) = y at *
          clear hin
          go_wp2_with fail
          rw [HPo.out]
          exact ⟨by rw [HR.out] <;> rfl, by trivial⟩
end TK
end Go.Proofs.YtjjikeehifndhaaDoor
