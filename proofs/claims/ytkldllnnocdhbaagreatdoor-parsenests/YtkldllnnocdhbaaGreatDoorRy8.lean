/-
  The document's classes of bytes, names, texts, marks.
-/
import Derived.Test.YtkldllnnocdhbaaGreatDoorLn8
import Derived.Test.YtkldllnnocdhbaaGreatDoorKt8
import Derived.Test.YtkldllnnocdhbaaGreatDoorTv8
namespace Go.Proofs.YtkldllnnocdhbaaGreatDoor
open Go.RowKit
attribute [local go_sem ↓] Go.wp_at_zero Go.wp_at_succ
namespace TK
def bts (l : List Int) : List Nat := l.map Int.toNat
theorem bts_len (l : List Int) : (bts l).length = l.length := by simp [bts]
theorem bts_getD {l : List Int} (hl : Byt l) (i : Nat) (h : i < l.length) : ((bts l).getD i 0 : Int) = l.getD i 0 := by
  have h1 := hl l[i] (List.getElem_mem h)
  simp [bts, List.getD, h]
  omega
theorem bts_bys {l : List Int} (hl : Byt l) : SM.Bys (bts l) := SM.Bys.of fun c hc => by
  obtain ⟨z, hz, rfl⟩ := List.mem_map.1 hc
  have := hl z hz
  omega
theorem bts_bv {l : List Int} (hl : Byt l) : (bts l).map SM.bv = bvs l := by
  unfold bts bvs
  rw [List.map_map]
  refine List.map_congr_left fun z hz => ?_
  have := hl z hz
  show Value.int .u8 ((z.toNat : Nat) : Int) = _
  congr 1
  omega
theorem BL.lies {W : World} {v : Value} {l : List Int} (h : BL W v l) (hl : Byt l) (hz : ∀ cap, v ≠ .slice none 0 (cap + 1)) : SM.Lies W v (bts l) := by
  obtain ⟨-, a, cap, rfl, hcap, hc⟩ := h
  have hbl : (bts l).length = l.length := bts_len l
  refine ⟨a, cap, by rw [hbl], fun ha => ?_, fun hn => ?_⟩
  · subst ha
    by_cases h0 : l.length = 0
    · cases cap with
      | zero => rfl
      | succ c => exact absurd (by rw [h0]) (hz c)
    · obtain ⟨b, off, hb, -⟩ := hc h0
      cases hb
  · rw [hbl] at hn
    obtain ⟨b, off, rfl, hcell⟩ := hc hn
    refine ⟨b, off, rfl, fun i hi => ?_⟩
    rw [hbl] at hi
    rw [hcell i (by omega), bvs_at hi, bts_getD hl i hi]
/- a list with 64 marks behind it -/
def WB (w W : World) (g : Nat) (B : List Int) : Prop := SM.Row W w.heap.size g (SM.fillL (bts B) (B.length + 64) (B.length + 64))
theorem WB.up {w W W' : World} {g : Nat} {B : List Int} (h : WB w W g B) (u : Up W W') : WB w W' g B := SM.Row.up h u
theorem WB.ba {w W : World} {g : Nat} {B : List Int} (h : WB w W g B) (hl : Byt B) : BA W g 0 B := fun W' u j hj => by
  have h1 := SM.Row.cell (WB.up h u) j (by rw [SM.fillL_len]; omega)
  rw [SM.fillL_at _ _ _ _ (by omega), if_pos (by omega), if_pos (by rw [bts_len]; omega), bts_getD hl j hj] at h1
  rw [Nat.zero_add]
  exact h1
theorem WB.lv {w W : World} {g : Nat} {B : List Int} (h : WB w W g B) (hl : Byt B) : LV W (.slice (some ⟨g, 0, none⟩) B.length (B.length + 64)) B := .inr ⟨g, 0, _, rfl, by omega, h.ba hl⟩
theorem WB.bl {w W : World} {g : Nat} {B : List Int} (h : WB w W g B) (hl : Byt B) : BL W (.slice (some ⟨g, 0, none⟩) B.length (B.length + 64)) B := ba_bl (h.ba hl) (by omega)
theorem WB.spare {w W : World} {g : Nat} {B : List Int} (h : WB w W g B) : ∀ j, B.length ≤ j → j < B.length + 64 → W.cell? ⟨g, j, none⟩ = some (.int .u8 (SM.mark j : Nat)) := fun j h1 h2 => by
  rw [SM.Row.cell h j (by rw [SM.fillL_len]; omega), SM.fillL_at _ _ _ _ h2, if_pos h2, if_neg (by rw [bts_len]; omega)]
end TK
end Go.Proofs.YtkldllnnocdhbaaGreatDoor
namespace Go.Proofs.YtkldllnnocdhbaaGreatDoor
open Go.RowKit
attribute [local go_sem ↓] Go.wp_at_zero Go.wp_at_succ
namespace TK
theorem val_take {D : List Int} {i : Nat} (hi : i < D.length) : val (D.take (i + 1)) = 10 * val (D.take i) + (D.getD i 0 - 48) := by
  rw [List.take_add_one, List.getElem?_eq_getElem hi, List.getD_eq_getElem?_getD, List.getElem?_eq_getElem hi]
  exact val_app _ _
theorem val_more {D : List Int} (hd : ∀ c ∈ D, dig c = true) (i : Nat) : val (D.take i) ≤ val D := by
  have h := vfr_ge (D.drop i) (val (D.take i)) (val_nn fun c hc => hd c (List.mem_of_mem_take hc)) (fun c hc => hd c (List.mem_of_mem_drop hc))
  have e : vfr (val (D.take i)) (D.drop i) = val D := by
    unfold vfr val
    rw [← List.foldl_append, List.take_append_drop]
  omega
set_option maxRecDepth 100000 in
set_option maxHeartbeats 8000000 in
theorem rvalue_ (v : Value) (D : List Int) (w : World) (hv : BL w v D) (hd : ∀ c ∈ D, dig c = true) (hn : D.length ≤ 65536) :
    Calls Tryz.prog 87 #[v] w fun e w' => e = .returned (.tuple #[.int .i64 (if 9223372036854775807 < val D then 0 else val D), .bool (decide (val D ≤ 9223372036854775807))]) ∧ w' = w := by
  obtain ⟨Post, hPost⟩ : ∃ P : Ending → World → Prop, P = fun e w' => e = .returned (.tuple #[.int .i64 (if 9223372036854775807 < val D then 0 else val D), .bool (decide (val D ≤ 9223372036854775807))]) ∧ w' = w := ⟨_, rfl⟩
  rw [← hPost]
  have HPo : Hid (Post = fun e w' => e = .returned (.tuple #[.int .i64 (if 9223372036854775807 < val D then 0 else val D), .bool (decide (val D ≤ 9223372036854775807))]) ∧ w' = w) := hPost
  clear hPost
  obtain ⟨n, hN⟩ : ∃ n, n = D.length := ⟨_, rfl⟩
  have HN : Hid (n = D.length) := hN
  have HD : Hid (∀ c ∈ D, dig c = true) := hd
  obtain ⟨a, c, hvv, -, hce⟩ := bl_cells hv
  rw [← hN] at hvv hce hn
  have HC : Hid (n ≠ 0 → ∃ b off, a = some ⟨b, off, none⟩ ∧ ∀ j, j < n → w.cell? ⟨b, off + j, none⟩ = some (.int .u8 (D.getD j 0))) := fun h0 => by
    obtain ⟨b, off, h1, h2⟩ := hce h0
    exact ⟨b, off, h1, fun j hj => h2 w (Up.refl _) j (by omega)⟩
  subst hvv
  clear hv hce hN hd
  go_enter Tryz.func87, Tryz.ntmps87
  go_wp2_with fail
  go_loopw [4, 5] (fun s4 s5 W => ∃ (i : Nat) (N : Int), i ≤ n ∧ N = val (D.take i) ∧ 0 ≤ N ∧ N ≤ 9223372036854775807 ∧ s4 = .int .i64 N ∧ s5 = .int .i64 i ∧ W = w) (fun _ s5 _ => n - (intOf s5).toNat)
  case atStart => exact ⟨0, 0, Nat.zero_le _, rfl, by omega, by omega, rfl, rfl, rfl⟩
  case round =>
    obtain ⟨i, N, hi, hNv, hN0, hN1, rfl, rfl, rfl⟩ := hrel
    by_cases hlt : i < n
    · have hlt2 : (i : Int) < (n : Int) := by omega
      obtain ⟨b, off, rfl, hcc⟩ := HC.out (by omega)
      have hx := hcc i (by omega)
      have ei : IntKind.i64.wrap ((i : Int) + 1) = ((i + 1 : Nat) : Int) := by rw [IntKind.wrap_i64]; omega
      have hdg : dig (D.getD i 0) = true := by
        have h9 : i < D.length := by have := HN.out; omega
        rw [List.getD_eq_getElem?_getD, List.getElem?_eq_getElem h9]
        exact HD.out _ (List.getElem_mem h9)
      unfold dig at hdg
      simp only [Bool.and_eq_true, decide_eq_true_eq] at hdg
      have HS : Hid (val (D.take (i + 1)) = 10 * N + (D.getD i 0 - 48)) := by unfold Hid; rw [hNv]; exact val_take (by have := HN.out; omega)
      have HM : Hid (val (D.take (i + 1)) ≤ val D) := val_more HD.out _
      clear hcc hNv
      generalize D.getD i 0 = d at *
      obtain ⟨x, rfl⟩ : ∃ x, d = x + 48 := ⟨d - 48, by omega⟩
      have hx0 : 0 ≤ x := by omega
      have hx9 : x < 10 := by omega
      rw [show x + 48 - 48 = x by omega] at HS
      have e1 : IntKind.u8.wrap (x + 48 - 48) = x := by rw [IntKind.wrap_u8]; omega
      have e2 : IntKind.i64.wrap x = x := by rw [IntKind.wrap_i64]; omega
      have e3 : IntKind.i64.wrap (9223372036854775807 - x) = 9223372036854775807 - x := by rw [IntKind.wrap_i64]; omega
      have e4 : IntKind.i64.wrap ((9223372036854775807 - x).tdiv 10) = (9223372036854775807 - x) / 10 := by rw [Int.tdiv_eq_ediv_of_nonneg (by omega), IntKind.wrap_i64]; omega
      by_cases hbig : (9223372036854775807 - x) / 10 < N
      · have HV : Hid (9223372036854775807 < val D) := by have h1 := HS.out; have h2 := HM.out; unfold Hid; omega
        clear HS HM hdg
        go_wp2_with fail
        rw [HPo.out]
        refine ⟨?_, rfl⟩
        rw [if_pos HV.out, decide_eq_false (by have := HV.out; omega)] <;> rfl
      · have e5 : IntKind.i64.wrap (10 * N) = 10 * N := by rw [IntKind.wrap_i64]; omega
        have e6 : IntKind.i64.wrap (10 * N + x) = 10 * N + x := by rw [IntKind.wrap_i64]; omega
        clear HM hdg
        go_wp2_with fail
        go_roundw
        case rel => exact ⟨i + 1, 10 * N + x, by omega, HS.out.symm, by omega, by omega, by go_num, by go_num, trivial⟩
        case measure => simp [intOf] <;> omega
    · have hlt2 : ¬ (i : Int) < (n : Int) := by omega
      obtain rfl : i = n := by omega
      have HV : Hid (N = val D) := by unfold Hid; rw [hNv, HN.out, List.take_length]
      clear hNv
      go_wp2_with fail
      rw [HPo.out]
      refine ⟨?_, rfl⟩
      have h9 : ¬ 9223372036854775807 < val D := by have := HV.out; omega
      rw [if_neg h9, decide_eq_true (by omega), HV.out] <;> rfl
end TK
end Go.Proofs.YtkldllnnocdhbaaGreatDoor
namespace Go.Proofs.YtkldllnnocdhbaaGreatDoor
open Go.RowKit
attribute [local go_sem ↓] Go.wp_at_zero Go.wp_at_succ
namespace TK
set_option maxRecDepth 100000 in
set_option maxHeartbeats 8000000 in
theorem small_ (c : Int) (w : World) : Calls Tryz.prog 59 #[.int .u8 c] w fun e w' => e = .returned (.bool (sml c)) ∧ w' = w := by
  obtain ⟨k, hk⟩ : ∃ k, k = sml c := ⟨_, rfl⟩
  rw [← hk]
  have HK : Hid (k = sml c) := hk
  clear hk
  go_enter Tryz.func59, Tryz.ntmps59
  go_wp2
  all_goals go_ret
  all_goals refine ⟨?_, rfl⟩
  all_goals rw [HK.out]
  all_goals unfold sml
  all_goals simp_all
  all_goals try omega
set_option maxRecDepth 100000 in
set_option maxHeartbeats 8000000 in
theorem digit_ (c : Int) (w : World) : Calls Tryz.prog 61 #[.int .u8 c] w fun e w' => e = .returned (.bool (dig c)) ∧ w' = w := by
  obtain ⟨k, hk⟩ : ∃ k, k = dig c := ⟨_, rfl⟩
  rw [← hk]
  have HK : Hid (k = dig c) := hk
  clear hk
  go_enter Tryz.func61, Tryz.ntmps61
  go_wp2
  all_goals go_ret
  all_goals refine ⟨?_, rfl⟩
  all_goals rw [HK.out]
  all_goals unfold dig
  all_goals simp_all
  all_goals try omega
set_option maxRecDepth 100000 in
set_option maxHeartbeats 8000000 in
theorem rblank_ (c : Int) (w : World) : Calls Tryz.prog 57 #[.int .u8 c] w fun e w' => e = .returned (.bool (blk c)) ∧ w' = w := by
  obtain ⟨k, hk⟩ : ∃ k, k = blk c := ⟨_, rfl⟩
  rw [← hk]
  have HK : Hid (k = blk c) := hk
  clear hk
  go_enter Tryz.func57, Tryz.ntmps57
  go_wp2
  all_goals go_ret
  all_goals refine ⟨?_, rfl⟩
  all_goals rw [HK.out]
  all_goals unfold blk
  all_goals simp_all
  all_goals try omega
set_option maxRecDepth 100000 in
set_option maxHeartbeats 8000000 in
theorem part_ (c : Int) (w : World) : Calls Tryz.prog 86 #[.int .u8 c] w fun e w' => e = .returned (.bool (prt c)) ∧ w' = w := by
  have HS : Hid (Calls Tryz.prog 59 #[.int .u8 c] w fun e w' => e = .returned (.bool (sml c)) ∧ w' = w) := small_ c w
  have HD : Hid (Calls Tryz.prog 61 #[.int .u8 c] w fun e w' => e = .returned (.bool (dig c)) ∧ w' = w) := digit_ c w
  have hgr : grt c = (decide (65 ≤ c) && decide (c ≤ 90)) := rfl
  unfold prt
  rw [hgr]
  clear hgr
  generalize sml c = a at *
  generalize dig c = d at *
  cases a with
  | true =>
    go_enter Tryz.func86, Tryz.ntmps86
    go_wp2_with fail
    refine Calls.mono HS.out ?_
    rintro r W1 ⟨rfl, hw⟩
    obtain rfl := hw.symm
    go_wp2
    go_ret
    exact ⟨by simp <;> first | rfl | omega, rfl⟩
  | false =>
    by_cases hg : 65 ≤ c ∧ c ≤ 90
    · have g1 : 65 ≤ c := hg.1
      have g2 : c ≤ 90 := hg.2
      rw [decide_eq_true g1, decide_eq_true g2]
      go_enter Tryz.func86, Tryz.ntmps86
      go_wp2_with fail
      refine Calls.mono HS.out ?_
      rintro r W1 ⟨rfl, hw⟩
      obtain rfl := hw.symm
      go_wp2
      go_ret
      exact ⟨by simp <;> first | rfl | omega, rfl⟩
    · have hgb : (decide (65 ≤ c) && decide (c ≤ 90)) = false := by simpa using fun h1 => by omega
      rw [hgb]
      cases d with
      | true =>
        go_enter Tryz.func86, Tryz.ntmps86
        go_wp2_with fail
        refine Calls.mono HS.out ?_
        rintro r W1 ⟨rfl, hw⟩
        obtain rfl := hw.symm
        by_cases g1 : 65 ≤ c
        · have g2 : ¬ c ≤ 90 := fun h => hg ⟨g1, h⟩
          go_wp2_with fail
          refine Calls.mono HD.out ?_
          rintro r W1 ⟨rfl, hw⟩
          obtain rfl := hw.symm
          go_wp2
          go_ret
          exact ⟨by simp <;> first | rfl | omega, rfl⟩
        · go_wp2_with fail
          refine Calls.mono HD.out ?_
          rintro r W1 ⟨rfl, hw⟩
          obtain rfl := hw.symm
          go_wp2
          go_ret
          exact ⟨by simp <;> first | rfl | omega, rfl⟩
      | false =>
        go_enter Tryz.func86, Tryz.ntmps86
        go_wp2_with fail
        refine Calls.mono HS.out ?_
        rintro r W1 ⟨rfl, hw⟩
        obtain rfl := hw.symm
        by_cases g1 : 65 ≤ c
        · have g2 : ¬ c ≤ 90 := fun h => hg ⟨g1, h⟩
          go_wp2_with fail
          refine Calls.mono HD.out ?_
          rintro r W1 ⟨rfl, hw⟩
          obtain rfl := hw.symm
          go_wp2
          go_ret
          exact ⟨by simp <;> first | rfl | omega, rfl⟩
        · go_wp2_with fail
          refine Calls.mono HD.out ?_
          rintro r W1 ⟨rfl, hw⟩
          obtain rfl := hw.symm
          go_wp2
          go_ret
          exact ⟨by simp <;> first | rfl | omega, rfl⟩
theorem all_at {f : Int → Bool} {l : List Int} (h : ∀ i, i < l.length → f (l.getD i 0) = true) : l.all f = true := by
  rw [List.all_eq_true]
  intro x hx
  obtain ⟨i, hi, rfl⟩ := List.getElem_of_mem hx
  have h9 := h i hi
  rw [List.getD_eq_getElem?_getD, List.getElem?_eq_getElem hi] at h9
  exact h9
theorem not_all_at {f : Int → Bool} {l : List Int} {i : Nat} (hi : i < l.length) (h : f (l.getD i 0) = false) : l.all f = false := by
  cases h9 : l.all f with
  | false => rfl
  | true =>
    rw [List.all_eq_true] at h9
    have h8 := h9 (l[i]'hi) (List.getElem_mem hi)
    rw [List.getD_eq_getElem?_getD, List.getElem?_eq_getElem hi] at h
    simp only [Option.getD_some] at h
    rw [h8] at h
    cases h
set_option maxRecDepth 100000 in
set_option maxHeartbeats 8000000 in
theorem rname_ (l : List Int) (w : World) (hl : Byt l) (hn : l.length ≤ 281474976710656) : Calls Tryz.prog 65 #[.string (strOfNums l)] w fun e w' => e = .returned (.bool (okN l)) ∧ w' = w := by
  obtain ⟨Post, hPost⟩ : ∃ P : Ending → World → Prop, P = fun e w' => e = .returned (.bool (okN l)) ∧ w' = w := ⟨_, rfl⟩
  rw [← hPost]
  have HPo : Hid (Post = fun e w' => e = .returned (.bool (okN l)) ∧ w' = w) := hPost
  clear hPost
  obtain ⟨s, hs⟩ : ∃ s, s = strOfNums l := ⟨_, rfl⟩
  have hsz : s.size = l.length := by rw [hs, strOfNums_size]
  have HBT : Hid (∀ i, i < l.length → ∃ d : Nat, (d : Int) = l.getD i 0 ∧ ∀ h : i < s.size, (s[i]'h).toNat = d) := fun i hi => by
    have h1 := hl.at i
    refine ⟨(l.getD i 0).toNat, by omega, fun h => ?_⟩
    subst hs
    have h2 := nums_at hl hi h
    omega
  rw [← hs]
  obtain ⟨n, hN⟩ : ∃ n, n = l.length := ⟨_, rfl⟩
  have HN : Hid (n = l.length) := hN
  rw [← hN] at hsz hn HBT
  clear hs hN hl
  have HPA : Hid (∀ c, Calls Tryz.prog 86 #[.int .u8 c] w fun e w' => e = .returned (.bool (prt c)) ∧ w' = w) := fun c => part_ c w
  by_cases h0 : n < 1
  · have h0b : (n : Int) < 1 := by omega
    have HQ : Hid (okN l = false) := by
      unfold Hid okN
      rw [decide_eq_false (show ¬ l ≠ [] from fun h9 => h9 (List.eq_nil_of_length_eq_zero (by have := HN.out; omega)))]
      rfl
    go_enter Tryz.func65, Tryz.ntmps65
    go_wp2_with fail
    rw [HPo.out]
    exact ⟨by rw [HQ.out] <;> rfl, rfl⟩
  · have h0b : ¬ (n : Int) < 1 := by omega
    have HNE : Hid (l ≠ []) := fun h9 => by have := HN.out; rw [h9] at this; simp at this; omega
    by_cases hbig : 32 < n
    · have e1 : (32 : Int) < (n : Int) := by omega
      have HQ : Hid (okN l = false) := by unfold Hid okN; rw [decide_eq_false (show ¬ l.length ≤ 32 by have := HN.out; omega)]; simp
      go_enter Tryz.func65, Tryz.ntmps65
      go_wp2_with fail
      rw [HPo.out]
      exact ⟨by rw [HQ.out] <;> rfl, rfl⟩
    · have e1 : ¬ (32 : Int) < (n : Int) := by omega
      have h0n : 0 < n := by omega
      obtain ⟨d, hd, hx0⟩ := HBT.out 0 h0n
      have HSM : Hid (Calls Tryz.prog 59 #[.int .u8 (d : Int)] w fun e w' => e = .returned (.bool (sml (d : Int))) ∧ w' = w) := small_ _ w
      have HQ0 : Hid (okN l = (sml (d : Int) && l.all prt)) := by
        unfold Hid okN
        rw [decide_eq_true HNE.out, decide_eq_true (show l.length ≤ 32 by have := HN.out; omega), Bool.true_and, Bool.true_and, ← hd]
      clear hd
      cases hsd : sml (d : Int) with
      | false =>
        rw [hsd] at HSM HQ0
        clear hsd
        go_enter Tryz.func65, Tryz.ntmps65
        go_wp2_with fail
        refine Calls.mono HSM.out ?_
        rintro r W1 ⟨rfl, hw⟩
        obtain rfl := hw.symm
        go_wp2_with fail
        rw [HPo.out]
        exact ⟨by rw [HQ0.out] <;> rfl, by trivial⟩
      | true =>
        rw [hsd, Bool.true_and] at HQ0
        rw [hsd] at HSM
        clear hsd
        go_enter Tryz.func65, Tryz.ntmps65
        go_wp2_with fail
        refine Calls.mono HSM.out ?_
        rintro r W1 ⟨rfl, hw⟩
        obtain rfl := hw.symm
        clear hw hx0 HSM
        go_wp2_with fail
        go_loopw [3] (fun s3 W => ∃ i : Nat, i ≤ n ∧ s3 = .int .i64 i ∧ (∀ j, j < i → prt (l.getD j 0) = true) ∧ W = w) (fun s3 _ => n - (intOf s3).toNat)
        case atStart => exact ⟨0, Nat.zero_le _, rfl, fun j hj => by omega, rfl⟩
        case round =>
          obtain ⟨i, hi, rfl, hj, rfl⟩ := hrel
          have HJ : Hid (∀ j, j < i → prt (l.getD j 0) = true) := hj
          clear hj
          by_cases hlt : i < n
          · have hlt2 : (i : Int) < (n : Int) := by omega
            obtain ⟨d2, hd2, hx⟩ := HBT.out i hlt
            have ei : IntKind.i64.wrap ((i : Int) + 1) = ((i + 1 : Nat) : Int) := by rw [IntKind.wrap_i64]; omega
            have HD2 : Hid ((d2 : Int) = l.getD i 0) := hd2
            clear hd2
            go_wp2_with fail
            refine Calls.mono (HPA.out _) ?_
            rintro r W1 ⟨rfl, hw⟩
            obtain rfl := hw.symm
            clear hw
            cases hpp : prt (d2 : Int) with
            | true =>
              have HJ2 : Hid (∀ j, j < i + 1 → prt (l.getD j 0) = true) := fun j hj => by
                by_cases e : j = i
                · subst e; rw [← HD2.out]; exact hpp
                · exact HJ.out j (by omega)
              clear hpp
              go_wp2_with fail
              go_roundw
              case rel => exact ⟨i + 1, by omega, by go_num, HJ2.out, by trivial⟩
              case measure => simp [intOf]; omega
            | false =>
              have HQ : Hid (okN l = false) := by unfold Hid; rw [HQ0.out]; exact not_all_at (i := i) (by have := HN.out; omega) (by rw [← HD2.out]; exact hpp)
              clear hpp
              go_wp2_with fail
              rw [HPo.out]
              exact ⟨by rw [HQ.out] <;> rfl, by trivial⟩
          · have hlt2 : ¬ (i : Int) < (n : Int) := by omega
            have HQ : Hid (okN l = true) := by unfold Hid; rw [HQ0.out]; exact all_at (fun j hj => HJ.out j (by have := HN.out; omega))
            go_wp2_with fail
            rw [HPo.out]
            exact ⟨by rw [HQ.out] <;> rfl, by trivial⟩
set_option maxRecDepth 100000 in
set_option maxHeartbeats 8000000 in
theorem rsays_ (l : List Int) (w : World) (hl : Byt l) (hn : l.length ≤ 281474976710656) : Calls Tryz.prog 66 #[.string (strOfNums l)] w fun e w' => e = .returned (.bool (okT l)) ∧ w' = w := by
  obtain ⟨Post, hPost⟩ : ∃ P : Ending → World → Prop, P = fun e w' => e = .returned (.bool (okT l)) ∧ w' = w := ⟨_, rfl⟩
  rw [← hPost]
  have HPo : Hid (Post = fun e w' => e = .returned (.bool (okT l)) ∧ w' = w) := hPost
  clear hPost
  obtain ⟨s, hs⟩ : ∃ s, s = strOfNums l := ⟨_, rfl⟩
  have hsz : s.size = l.length := by rw [hs, strOfNums_size]
  have HBT : Hid (∀ i, i < l.length → ∃ d : Nat, (d : Int) = l.getD i 0 ∧ ∀ h : i < s.size, (s[i]'h).toNat = d) := fun i hi => by
    have h1 := hl.at i
    refine ⟨(l.getD i 0).toNat, by omega, fun h => ?_⟩
    subst hs
    have h2 := nums_at hl hi h
    omega
  rw [← hs]
  obtain ⟨n, hN⟩ : ∃ n, n = l.length := ⟨_, rfl⟩
  have HN : Hid (n = l.length) := hN
  rw [← hN] at hsz hn HBT
  clear hs hN hl
  go_enter Tryz.func66, Tryz.ntmps66
  go_wp2_with fail
  go_loopw [3] (fun s3 W => ∃ i : Nat, i ≤ n ∧ s3 = .int .i64 i ∧ (∀ j, j < i → pln (l.getD j 0) = true) ∧ W = w) (fun s3 _ => n - (intOf s3).toNat)
  case atStart => exact ⟨0, Nat.zero_le _, rfl, fun j hj => by omega, rfl⟩
  case round =>
    obtain ⟨i, hi, rfl, hj, rfl⟩ := hrel
    have HJ : Hid (∀ j, j < i → pln (l.getD j 0) = true) := hj
    clear hj
    by_cases hlt : i < n
    · have hlt2 : (i : Int) < (n : Int) := by omega
      obtain ⟨d2, hd2, hx⟩ := HBT.out i hlt
      have ei : IntKind.i64.wrap ((i : Int) + 1) = ((i + 1 : Nat) : Int) := by rw [IntKind.wrap_i64]; omega
      have HD2 : Hid ((d2 : Int) = l.getD i 0) := hd2
      clear hd2
      by_cases hpp : 32 ≤ (d2 : Int) ∧ (d2 : Int) ≤ 126
      · have p1 : ¬ (d2 : Int) < 32 := by omega
        have p2 : ¬ (126 : Int) < (d2 : Int) := by omega
        have HJ2 : Hid (∀ j, j < i + 1 → pln (l.getD j 0) = true) := fun j hj => by
          by_cases e : j = i
          · subst e; rw [← HD2.out]; unfold pln; simp only [Bool.and_eq_true, decide_eq_true_eq]; exact hpp
          · exact HJ.out j (by omega)
        clear hpp
        go_wp2_with fail
        go_roundw
        case rel => exact ⟨i + 1, by omega, by go_num, HJ2.out, by trivial⟩
        case measure => simp [intOf]; omega
      · have HQ : Hid (okT l = false) := by
          unfold Hid okT
          rw [not_all_at (f := pln) (i := i) (by have := HN.out; omega) (by
            rw [← HD2.out]
            unfold pln
            rw [Bool.eq_false_iff]
            intro h9
            simp only [Bool.and_eq_true, decide_eq_true_eq] at h9
            exact hpp h9)]
          simp
        by_cases p1 : (d2 : Int) < 32
        · go_wp2_with fail
          rw [HPo.out]
          exact ⟨by rw [HQ.out] <;> rfl, by trivial⟩
        · have p2 : (126 : Int) < (d2 : Int) := by omega
          go_wp2_with fail
          rw [HPo.out]
          exact ⟨by rw [HQ.out] <;> rfl, by trivial⟩
    · have hlt2 : ¬ (i : Int) < (n : Int) := by omega
      have HQ : Hid (okT l = decide ((n : Int) ≤ 64)) := by
        unfold Hid okT
        rw [all_at (f := pln) (fun j hj => HJ.out j (by have := HN.out; omega)), Bool.and_true, HN.out]
        exact decide_eq_decide.2 (by omega)
      go_wp2_with fail
      rw [HPo.out]
      exact ⟨by rw [HQ.out] <;> rfl, by trivial⟩
theorem byt_inj : ∀ {a b : List Int}, Byt a → Byt b → a.map (fun n => UInt8.ofNat n.toNat) = b.map (fun n => UInt8.ofNat n.toNat) → a = b
  | [], [], _, _, _ => rfl
  | [], _ :: _, _, _, h => by cases h
  | _ :: _, [], _, _, h => by cases h
  | x :: a, y :: b, h1, h2, h => by
    rw [List.map_cons, List.map_cons, List.cons.injEq] at h
    have hx := h1 x (by simp)
    have hy := h2 y (by simp)
    have h3 := (u8_is hx _).1 h.1
    rw [UInt8.toNat_ofNat'] at h3
    rw [byt_inj (fun c hc => h1 c (by simp [hc])) (fun c hc => h2 c (by simp [hc])) h.2]
    congr 1
    omega
def ms : List (List Int) := [[61, 61], [33, 61], [60, 61], [62, 61], [38, 38], [124, 124], [123], [125], [40], [41], [59], [44], [46], [61], [33], [60], [62], [43], [45], [42], [47], [37]]
theorem ms_any {l : List Int} (hl : Byt l) : mrk l = decide (l ∈ ms) := by
  rw [Bool.eq_iff_iff, decide_eq_true_iff]
  unfold ms
  match l, hl with
  | [], _ => simp [mrk]
  | [a], _ =>
    simp only [mrk, sgl, List.mem_cons, List.cons.injEq, reduceCtorEq, and_true, and_false, false_or, or_false, List.not_mem_nil]
    simp
    omega
  | [a, b], _ =>
    simp only [mrk, two, List.mem_cons, List.cons.injEq, reduceCtorEq, and_true, and_false, or_false, List.not_mem_nil]
    simp
    omega
  | a :: b :: c :: r, _ => simp [mrk]
set_option maxRecDepth 100000 in
set_option maxHeartbeats 8000000 in
theorem rmarks_ (w : World) : Calls Tryz.prog 88 #[] w fun e w' => e = .returned (.slice (some ⟨w.heap.size, 0, none⟩) 22 22) ∧ w' = w.alloc (.cells #[.string ⟨#[61, 61]⟩, .string ⟨#[33, 61]⟩, .string ⟨#[60, 61]⟩, .string ⟨#[62, 61]⟩, .string ⟨#[38, 38]⟩, .string ⟨#[124, 124]⟩, .string ⟨#[123]⟩, .string ⟨#[125]⟩, .string ⟨#[40]⟩, .string ⟨#[41]⟩, .string ⟨#[59]⟩, .string ⟨#[44]⟩, .string ⟨#[46]⟩, .string ⟨#[61]⟩, .string ⟨#[33]⟩, .string ⟨#[60]⟩, .string ⟨#[62]⟩, .string ⟨#[43]⟩, .string ⟨#[45]⟩, .string ⟨#[42]⟩, .string ⟨#[47]⟩, .string ⟨#[37]⟩] 9) := by
  go_enter Tryz.func88, Tryz.ntmps88
  go_wp2
  go_ret
  exact ⟨rfl, rfl⟩
theorem ms_cell (w W : World) (u : Up (w.alloc (.cells #[.string ⟨#[61, 61]⟩, .string ⟨#[33, 61]⟩, .string ⟨#[60, 61]⟩, .string ⟨#[62, 61]⟩, .string ⟨#[38, 38]⟩, .string ⟨#[124, 124]⟩, .string ⟨#[123]⟩, .string ⟨#[125]⟩, .string ⟨#[40]⟩, .string ⟨#[41]⟩, .string ⟨#[59]⟩, .string ⟨#[44]⟩, .string ⟨#[46]⟩, .string ⟨#[61]⟩, .string ⟨#[33]⟩, .string ⟨#[60]⟩, .string ⟨#[62]⟩, .string ⟨#[43]⟩, .string ⟨#[45]⟩, .string ⟨#[42]⟩, .string ⟨#[47]⟩, .string ⟨#[37]⟩] 9)) W) (i : Nat) (hi : i < 22) : W.cell? ⟨w.heap.size, i, none⟩ = some (.string (strOfNums (ms.getD i []))) := by
  have h9 := u.heap (heap_alloc_new w (.cells #[.string ⟨#[61, 61]⟩, .string ⟨#[33, 61]⟩, .string ⟨#[60, 61]⟩, .string ⟨#[62, 61]⟩, .string ⟨#[38, 38]⟩, .string ⟨#[124, 124]⟩, .string ⟨#[123]⟩, .string ⟨#[125]⟩, .string ⟨#[40]⟩, .string ⟨#[41]⟩, .string ⟨#[59]⟩, .string ⟨#[44]⟩, .string ⟨#[46]⟩, .string ⟨#[61]⟩, .string ⟨#[33]⟩, .string ⟨#[60]⟩, .string ⟨#[62]⟩, .string ⟨#[43]⟩, .string ⟨#[45]⟩, .string ⟨#[42]⟩, .string ⟨#[47]⟩, .string ⟨#[37]⟩] 9))
  simp only [World.cell?, h9]
  have h8 : ∀ j : Fin 22, (#[.string ⟨#[61, 61]⟩, .string ⟨#[33, 61]⟩, .string ⟨#[60, 61]⟩, .string ⟨#[62, 61]⟩, .string ⟨#[38, 38]⟩, .string ⟨#[124, 124]⟩, .string ⟨#[123]⟩, .string ⟨#[125]⟩, .string ⟨#[40]⟩, .string ⟨#[41]⟩, .string ⟨#[59]⟩, .string ⟨#[44]⟩, .string ⟨#[46]⟩, .string ⟨#[61]⟩, .string ⟨#[33]⟩, .string ⟨#[60]⟩, .string ⟨#[62]⟩, .string ⟨#[43]⟩, .string ⟨#[45]⟩, .string ⟨#[42]⟩, .string ⟨#[47]⟩, .string ⟨#[37]⟩] : Array Value)[j.1]? = some (.string (strOfNums (ms.getD j.1 []))) := by
    intro j
    obtain ⟨j, hj⟩ := j
    match j, hj with
    | 0, _ => rfl
    | 1, _ => rfl
    | 2, _ => rfl
    | 3, _ => rfl
    | 4, _ => rfl
    | 5, _ => rfl
    | 6, _ => rfl
    | 7, _ => rfl
    | 8, _ => rfl
    | 9, _ => rfl
    | 10, _ => rfl
    | 11, _ => rfl
    | 12, _ => rfl
    | 13, _ => rfl
    | 14, _ => rfl
    | 15, _ => rfl
    | 16, _ => rfl
    | 17, _ => rfl
    | 18, _ => rfl
    | 19, _ => rfl
    | 20, _ => rfl
    | 21, _ => rfl
    | j + 22, hj => omega
  exact h8 ⟨i, hi⟩
set_option maxRecDepth 100000 in
set_option maxHeartbeats 8000000 in
theorem rmark_ (l : List Int) (w : World) (hl : Byt l) : Calls Tryz.prog 67 #[.string (strOfNums l)] w fun e w' => e = .returned (.bool (mrk l)) ∧ Up w w' := by
  obtain ⟨Post, hPost⟩ : ∃ P : Ending → World → Prop, P = fun e w' => e = .returned (.bool (mrk l)) ∧ Up w w' := ⟨_, rfl⟩
  rw [← hPost]
  have HPo : Hid (Post = fun e w' => e = .returned (.bool (mrk l)) ∧ Up w w') := hPost
  clear hPost
  have HM : Hid (mrk l = decide (l ∈ ms)) := ms_any hl
  have HSL : Hid (∀ i, i < 22 → ((strOfNums (ms.getD i [])).toList = (strOfNums l).toList ↔ ms.getD i [] = l)) := fun i hi => by
    rw [nums_list, nums_list]
    refine ⟨fun h9 => ?_, fun h9 => by rw [h9]⟩
    have hmb : Byt (ms.getD i []) := by
      have h8 : ∀ j : Fin 22, ∀ c ∈ ms.getD j.1 [], 0 ≤ c ∧ c < 256 := by decide
      exact h8 ⟨i, hi⟩
    exact byt_inj hmb hl h9
  obtain ⟨W0, hW0⟩ : ∃ W, w.alloc (.cells #[.string ⟨#[61, 61]⟩, .string ⟨#[33, 61]⟩, .string ⟨#[60, 61]⟩, .string ⟨#[62, 61]⟩, .string ⟨#[38, 38]⟩, .string ⟨#[124, 124]⟩, .string ⟨#[123]⟩, .string ⟨#[125]⟩, .string ⟨#[40]⟩, .string ⟨#[41]⟩, .string ⟨#[59]⟩, .string ⟨#[44]⟩, .string ⟨#[46]⟩, .string ⟨#[61]⟩, .string ⟨#[33]⟩, .string ⟨#[60]⟩, .string ⟨#[62]⟩, .string ⟨#[43]⟩, .string ⟨#[45]⟩, .string ⟨#[42]⟩, .string ⟨#[47]⟩, .string ⟨#[37]⟩] 9) = W := ⟨_, rfl⟩
  have HW : Hid (∀ i, i < 22 → W0.cell? ⟨w.heap.size, i, none⟩ = some (.string (strOfNums (ms.getD i [])))) := fun i hi => ms_cell w W0 (by rw [hW0]; exact Up.refl _) i hi
  have HU : Hid (Up w W0) := by unfold Hid; rw [← hW0]; exact (Up.refl _).alloc _
  have HMK : Hid (Calls Tryz.prog 88 #[] w fun e w' => e = .returned (.slice (some ⟨w.heap.size, 0, none⟩) 22 22) ∧ w' = W0) := by rw [← hW0]; exact rmarks_ w
  obtain ⟨s, hs⟩ : ∃ s, strOfNums l = s := ⟨_, rfl⟩
  rw [hs] at HSL ⊢
  clear hl hW0 hs
  go_enter Tryz.func67, Tryz.ntmps67
  go_wp2_with fail
  refine Calls.mono HMK.out ?_
  rintro r W1 ⟨rfl, hw⟩
  obtain rfl := hw.symm
  clear hw HMK
  go_wp2_with fail
  go_loopw [4] (fun s4 W => ∃ i : Nat, i ≤ 22 ∧ s4 = .int .i64 i ∧ (∀ j, j < i → ms.getD j [] ≠ l) ∧ W = W0) (fun s4 _ => 22 - (intOf s4).toNat)
  case atStart => exact ⟨0, Nat.zero_le _, rfl, fun j hj => by omega, rfl⟩
  case round =>
    obtain ⟨i, hi, rfl, hj, rfl⟩ := hrel
    have HJ : Hid (∀ j, j < i → ms.getD j [] ≠ l) := hj
    clear hj
    by_cases hlt : i < 22
    · have hlt2 : (i : Int) < 22 := by omega
      have hx := HW.out i hlt
      have hiff := HSL.out i hlt
      have ei : IntKind.i64.wrap ((i : Int) + 1) = ((i + 1 : Nat) : Int) := by rw [IntKind.wrap_i64]; omega
      have HIN : Hid (ms.getD i [] = l → l ∈ ms) := fun h9 => by
        rw [← h9, List.getD_eq_getElem?_getD, List.getElem?_eq_getElem (show i < ms.length from hlt)]
        exact List.getElem_mem _
      have HJ2 : Hid (ms.getD i [] ≠ l → ∀ j, j < i + 1 → ms.getD j [] ≠ l) := fun h9 j hj => by
        by_cases e : j = i
        · subst e; exact h9
        · exact HJ.out j (by omega)
      generalize strOfNums (ms.getD i []) = si at *
      by_cases he : si.toList = s.toList
      · have HQ : Hid (mrk l = true) := by unfold Hid; rw [HM.out]; exact decide_eq_true (HIN.out (hiff.1 he))
        have he2 : (si.toList == s.toList) = true := by simpa using he
        clear hiff he
        go_wp2_with fail
        rw [HPo.out]
        exact ⟨by rw [HQ.out] <;> rfl, HU.out⟩
      · have HJ3 : Hid (∀ j, j < i + 1 → ms.getD j [] ≠ l) := HJ2.out (fun h9 => he (hiff.2 h9))
        have he2 : (si.toList == s.toList) = false := by simpa using he
        clear hiff
        go_wp2_with fail
        go_roundw
        case rel => exact ⟨i + 1, by omega, by go_num, HJ3.out, by trivial⟩
        case measure => simp [intOf]; omega
    · have hlt2 : ¬ (i : Int) < 22 := by omega
      have HQ : Hid (mrk l = false) := by
        unfold Hid
        rw [HM.out]
        refine decide_eq_false (fun h9 => ?_)
        obtain ⟨j, hj, h8⟩ := List.getElem_of_mem h9
        have hj2 : j < 22 := hj
        refine HJ.out j (by omega) ?_
        rw [List.getD_eq_getElem?_getD, List.getElem?_eq_getElem hj]
        exact h8
      go_wp2_with fail
      rw [HPo.out]
      exact ⟨by rw [HQ.out] <;> rfl, HU.out⟩
end TK
end Go.Proofs.YtkldllnnocdhbaaGreatDoor
