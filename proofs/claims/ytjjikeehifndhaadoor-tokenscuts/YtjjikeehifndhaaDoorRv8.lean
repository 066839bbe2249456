
/-
  The number that digits say, by the document.
-/
import Derived.Test.YtjjikeehifndhaaDoorTs8
import Derived.Test.YtjjikeehifndhaaDoorLu8
namespace Go.Proofs.YtjjikeehifndhaaDoor
open Go.RowKit
attribute [local go_sem ↓] Go.wp_at_zero Go.wp_at_succ
namespace TK
theorem val_take {D : List Int} {i : Nat} (hi : i < D.length) : val (D.take (i + 1)) = 10 * val (D.take i) + (D.getD i 0 - 48) := by
  rw [List.take_add_one, List.getElem?_eq_getElem hi, List.getD_eq_getElem?_getD, List.getElem?_eq_getElem hi]
  exact val_app _ _
theorem val_more {D : List Int} (hd : ∀ c ∈ D, dig c = true) (i : Nat) : val (D.take i) ≤ val D := by
  have h := vfr_ge (D.drop i) (val (D.take i)) (val_nn fun c hc => hd c (List.mem_of_mem_take hc)) (fun c hc => hd c (List.mem_of_mem_drop hc))
  have e : vfr (val (D.take i)) (D.drop i) = val D := by
    unfold vfr val
    rw [← List.foldl_append, List.take_append_drop]
  omega
set_option maxRecDepth 100000 in
set_option maxHeartbeats 8000000 in
theorem rvalue_ (v : Value) (D : List Int) (w : World) (hv : BL w v D) (hd : ∀ c ∈ D, dig c = true) (hn : D.length ≤ 65536) :
    Calls Tryd.prog 95 #[v] w fun e w' => e = .returned (.tuple #[.int .i64 (if 9223372036854775807 < val D then 0 else val D), .bool (decide (val D ≤ 9223372036854775807))]) ∧ w' = w := by
  obtain ⟨Post, hPost⟩ : ∃ P : Ending → World → Prop, P = fun e w' => e = .returned (.tuple #[.int .i64 (if 9223372036854775807 < val D then 0 else val D), .bool (decide (val D ≤ 9223372036854775807))]) ∧ w' = w := ⟨_, rfl⟩
  rw [← hPost]
  have HPo : Hid (Post = fun e w' => e = .returned (.tuple #[.int .i64 (if 9223372036854775807 < val D then 0 else val D), .bool (decide (val D ≤ 9223372036854775807))]) ∧ w' = w) := hPost
  clear hPost
  obtain ⟨n, hN⟩ : ∃ n, n = D.length := ⟨_, rfl⟩
  have HN : Hid (n = D.length) := hN
  have HD : Hid (∀ c ∈ D, dig c = true) := hd
  obtain ⟨a, c, hvv, -, hce⟩ := bl_cells hv
  rw [← hN] at hvv hce hn
  have HC : Hid (n ≠ 0 → ∃ b off, a = some ⟨b, off, none⟩ ∧ ∀ j, j < n → w.cell? ⟨b, off + j, none⟩ = some (.int .u8 (D.getD j 0))) := fun h0 => by
    obtain ⟨b, off, h1, h2⟩ := hce h0
    exact ⟨b, off, h1, fun j hj => h2 w (Up.refl _) j (by omega)⟩
  subst hvv
  clear hv hce hN hd
  go_enter Tryd.func95, Tryd.ntmps95
  go_wp2_with fail
  go_loopw [4, 5] (fun s4 s5 W => ∃ (i : Nat) (N : Int), i ≤ n ∧ N = val (D.take i) ∧ 0 ≤ N ∧ N ≤ 9223372036854775807 ∧ s4 = .int .i64 N ∧ s5 = .int .i64 i ∧ W = w) (fun _ s5 _ => n - (intOf s5).toNat)
  case atStart => exact ⟨0, 0, Nat.zero_le _, rfl, by omega, by omega, rfl, rfl, rfl⟩
  case round =>
    obtain ⟨i, N, hi, hNv, hN0, hN1, rfl, rfl, rfl⟩ := hrel
    by_cases hlt : i < n
    · have hlt2 : (i : Int) < (n : Int) := by omega
      obtain ⟨b, off, rfl, hcc⟩ := HC.out (by omega)
      have hx := hcc i (by omega)
      have ei : IntKind.i64.wrap ((i : Int) + 1) = ((i + 1 : Nat) : Int) := by rw [IntKind.wrap_i64]; omega
      have hdg : dig (D.getD i 0) = true := by
        have h9 : i < D.length := by have := HN.out; omega
        rw [List.getD_eq_getElem?_getD, List.getElem?_eq_getElem h9]
        exact HD.out _ (List.getElem_mem h9)
      unfold dig at hdg
      simp only [Bool.and_eq_true, decide_eq_true_eq] at hdg
      have HS : Hid (val (D.take (i + 1)) = 10 * N + (D.getD i 0 - 48)) := by unfold Hid; rw [hNv]; exact val_take (by have := HN.out; omega)
      have HM : Hid (val (D.take (i + 1)) ≤ val D) := val_more HD.out _
      clear hcc hNv
      generalize D.getD i 0 = d at *
      obtain ⟨x, rfl⟩ : ∃ x, d = x + 48 := ⟨d - 48, by omega⟩
      have hx0 : 0 ≤ x := by omega
      have hx9 : x < 10 := by omega
      rw [show x + 48 - 48 = x by omega] at HS
      have e1 : IntKind.u8.wrap (x + 48 - 48) = x := by rw [IntKind.wrap_u8]; omega
      have e2 : IntKind.i64.wrap x = x := by rw [IntKind.wrap_i64]; omega
      have e3 : IntKind.i64.wrap (9223372036854775807 - x) = 9223372036854775807 - x := by rw [IntKind.wrap_i64]; omega
      have e4 : IntKind.i64.wrap ((9223372036854775807 - x).tdiv 10) = (9223372036854775807 - x) / 10 := by rw [Int.tdiv_eq_ediv_of_nonneg (by omega), IntKind.wrap_i64]; omega
      by_cases hbig : (9223372036854775807 - x) / 10 < N
      · have HV : Hid (9223372036854775807 < val D) := by have h1 := HS.out; have h2 := HM.out; unfold Hid; omega
        clear HS HM hdg
        go_wp2_with fail
        rw [HPo.out]
        refine ⟨?_, rfl⟩
        rw [if_pos HV.out, decide_eq_false (by have := HV.out; omega)] <;> rfl
      · have e5 : IntKind.i64.wrap (10 * N) = 10 * N := by rw [IntKind.wrap_i64]; omega
        have e6 : IntKind.i64.wrap (10 * N + x) = 10 * N + x := by rw [IntKind.wrap_i64]; omega
        clear HM hdg
        go_wp2_with fail
        go_roundw
        case rel => exact ⟨i + 1, 10 * N + x, by omega, HS.out.symm, by omega, by omega, by go_num, by go_num, trivial⟩
        case measure => simp [intOf] <;> omega
    · have hlt2 : ¬ (i : Int) < (n : Int) := by omega
      obtain rfl : i = n := by omega
      have HV : Hid (N = val D) := by unfold Hid; rw [hNv, HN.out, List.take_length]
      clear hNv
      go_wp2_with fail
      rw [HPo.out]
      refine ⟨?_, rfl⟩
      have h9 : ¬ 9223372036854775807 < val D := by have := HV.out; omega
      rw [if_neg h9, decide_eq_true (by omega), HV.out] <;> rfl
end TK
end Go.Proofs.YtjjikeehifndhaaDoor
