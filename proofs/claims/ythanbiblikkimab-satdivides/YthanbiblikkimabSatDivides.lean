/- The law SatDivides returns true for every two int64: a number is its quotient times the divisor and the rest, the rest is nearer to nought than the divisor and on the number's side; no conditions. -/
import Derived.Test.YthanbiblikkimabRows
import Derived.WalkKit
import Derived.ProofKit
import Derived.OpenShut
import Derived.Test.YthanbiblikkimabSum
import Derived.Below
import Derived.ChangeOld
namespace Go.Proofs.Ythanbiblikkimab.satDivides
open Go.ChangeShapes Go.WideShapes Go.ChangeAt Go.RowKit
set_option linter.unusedVariables false      -- a walk need not use every 'w<i>' (that an integer argument fits its kind)

theorem own : ownKnob Try.prog.godebug = none := by kernel_rfl

theorem facts (a b : Int) (h0 : ¬ b = 0) : a.tdiv b * b + a.tmod b = a ∧ (a.tmod b).natAbs < b.natAbs ∧ (a.tmod b).natAbs ≤ a.natAbs ∧ (0 ≤ a → 0 ≤ a.tmod b) ∧ (a ≤ 0 → a.tmod b ≤ 0) := by
  refine ⟨?_, tmod_bd a b h0, ?_, ?_, ?_⟩
  · have e := Int.mul_tdiv_add_tmod a b
    rw [Int.mul_comm] at e
    exact e
  · rw [Int.natAbs_tmod]; exact Nat.mod_le _ _
  · intro h; exact Int.tmod_nonneg b h
  · intro h
    have := Int.tmod_nonneg (a := -a) b (by omega)
    rw [Int.neg_tmod] at this
    omega
theorem walk0 (a : Int) (a1 : -9223372036854775808 ≤ a) (a2 : a ≤ 9223372036854775807) (w : World) :
    Calls Try.prog 7 #[.int .i64 a, .int .i64 0] w fun e w' => e = .returned (.bool true) ∧ Up w w' := by
  have z1 : div64VI64 a 0 = 0 := if_pos rfl
  have z2 : rem64VI64 a 0 = 0 := if_pos rfl
  go_enter Try.func7, Try.ntmps7
  go_wp2_with fail
  refine (works _).mono ?_
  rintro e wa ⟨rfl, up⟩
  go_wp2_with fail
  refine (divI64 a 0 _ a1 a2 (by decide) (by decide)).mono ?_
  rintro e wb ⟨rfl, rfl⟩
  rw [z1, nz_no]
  go_wp2_with fail
  refine (remI64 a 0 _ a1 a2 (by decide) (by decide)).mono ?_
  rintro e wb ⟨rfl, rfl⟩
  rw [z2, nz_no]
  go_wp2
  go_ret
  exact ⟨rfl, up⟩
set_option maxRecDepth 100000 in
theorem walk1 (w : World) :
    Calls Try.prog 7 #[.int .i64 (-9223372036854775808), .int .i64 (-1)] w fun e w' => e = .returned (.bool true) ∧ Up w w' := by
  have z1 : div64VI64 (-9223372036854775808) (-1) = 9223372036854775807 := by decide
  have z2 : rem64VI64 (-9223372036854775808) (-1) = 0 := by decide
  go_enter Try.func7, Try.ntmps7
  go_wp2_with fail
  refine (works _).mono ?_
  rintro e wa ⟨rfl, up⟩
  go_wp2_with fail
  refine (divI64 (-9223372036854775808) (-1) _ (by decide) (by decide) (by decide) (by decide)).mono ?_
  rintro e wb ⟨rfl, rfl⟩
  rw [z1, nz_yes (-1) (by decide)]
  go_wp2_with fail
  refine (remI64 (-9223372036854775808) (-1) _ (by decide) (by decide) (by decide) (by decide)).mono ?_
  rintro e wb ⟨rfl, rfl⟩
  rw [z2, nz_yes (-1) (by decide)]
  go_wp2
  go_ret
  exact ⟨rfl, up⟩
set_option maxHeartbeats 1000000 in
theorem walk2 (a b q r : Int) (a1 : -9223372036854775808 ≤ a) (a2 : a ≤ 9223372036854775807) (b1 : -9223372036854775808 ≤ b) (b2 : b ≤ 9223372036854775807)
    (hb : ¬ b = 0) (hl : -9223372036854775808 < a ∨ ¬ b = -1) (hq : div64VI64 a b = q) (hr : rem64VI64 a b = r)
    (f1 : (q * b + r == a) = true) (f2 : r = 0 ∨ (0 < r ∧ 0 < a ∧ 0 < b ∧ r < b) ∨ (0 < r ∧ 0 < a ∧ b < 0 ∧ b < -r) ∨ (r < 0 ∧ a < 0 ∧ b < 0 ∧ b < r) ∨ (r < 0 ∧ a < 0 ∧ 0 < b ∧ -r < b))
    (q1 : -9223372036854775808 ≤ q * b) (q2 : q * b ≤ 9223372036854775807) (r3 : -9223372036854775808 ≤ q * b + r) (r4 : q * b + r ≤ 9223372036854775807) (r1 : -9223372036854775807 ≤ r) (r2 : r ≤ 9223372036854775807) (w : World) :
    Calls Try.prog 7 #[.int .i64 a, .int .i64 b] w fun e w' => e = .returned (.bool true) ∧ Up w w' := by
  have HQ : Hid (div64VI64 a b = q) := hq
  have HR : Hid (rem64VI64 a b = r) := hr
  clear hq hr
  have hb0 : (b == 0) = false := by simpa using hb
  go_enter Try.func7, Try.ntmps7
  go_wp2_with fail
  refine (works _).mono ?_
  rintro e wa ⟨rfl, up⟩
  go_wp2_with fail
  refine (divI64 a b _ a1 a2 b1 b2).mono ?_
  rintro e wb ⟨rfl, rfl⟩
  rw [HQ.out, nz_yes b hb]
  go_wp2_with fail
  refine (remI64 a b _ a1 a2 b1 b2).mono ?_
  rintro e wb ⟨rfl, rfl⟩
  rw [HR.out, nz_yes b hb]
  clear HQ HR
  have HL : Hid (-9223372036854775808 < a ∨ ¬ b = -1) := hl
  have HF : Hid (r = 0 ∨ (0 < r ∧ 0 < a ∧ 0 < b ∧ r < b) ∨ (0 < r ∧ 0 < a ∧ b < 0 ∧ b < -r) ∨ (r < 0 ∧ a < 0 ∧ b < 0 ∧ b < r) ∨ (r < 0 ∧ a < 0 ∧ 0 < b ∧ -r < b)) := f2
  clear hl f2
  by_cases hl : -9223372036854775808 < a
  · clear HL
    rcases HF.out with f | ⟨g1, g2, g3, g4⟩ | ⟨g1, g2, g3, g4⟩ | ⟨g1, g2, g3, g4⟩ | ⟨g1, g2, g3, g4⟩
    · clear HF
      subst f
      have f0 : (q * b == a) = true := by simpa using f1
      clear f1
      go_wp2
      go_ret
      exact ⟨rfl, up⟩
    all_goals
      clear HF
      go_wp2
      go_ret
      exact ⟨rfl, up⟩
  · have hm : ¬ b = -1 := by rcases HL.out with h | h <;> omega
    have hl0 : (b == -1) = false := by simpa using hm
    obtain rfl : a = -9223372036854775808 := by omega
    clear HL
    rcases HF.out with f | ⟨g1, g2, g3, g4⟩ | ⟨g1, g2, g3, g4⟩ | ⟨g1, g2, g3, g4⟩ | ⟨g1, g2, g3, g4⟩
    · clear HF
      subst f
      have f0 : (q * b == -9223372036854775808) = true := by simpa using f1
      clear f1
      go_wp2
      go_ret
      exact ⟨rfl, up⟩
    · omega
    · omega
    all_goals
      clear HF
      go_wp2
      go_ret
      exact ⟨rfl, up⟩
theorem walk (a0 : Int) (a1 : Int) (w0 : (Lit.int .i64 a0).wf = true) (w1 : (Lit.int .i64 a1).wf = true) (w : World) :
    Calls Try.prog 7 #[.int .i64 a0, .int .i64 a1] w fun e w' => e = .returned (.bool true) ∧ Up w w' := by
  obtain ⟨x1, x2⟩ := bounds_i64 w0
  obtain ⟨y1, y2⟩ := bounds_i64 w1
  by_cases hb : a1 = 0
  · subst hb; exact walk0 a0 x1 x2 w
  by_cases hl : a0 = -9223372036854775808 ∧ a1 = -1
  · obtain ⟨rfl, rfl⟩ := hl; exact walk1 w
  obtain ⟨f1, f2, f3, f4, f5⟩ := facts a0 a1 hb
  have hq : div64VI64 a0 a1 = a0.tdiv a1 := by
    unfold div64VI64; rw [if_neg hb]
    by_cases hn : a1 = -1
    · subst hn
      have : a0.tdiv (-1) = -a0 := by rw [Int.tdiv_neg, Int.tdiv_one]
      rw [this]; exact cut64_in _ (by omega) (by omega)
    · obtain ⟨u1, u2⟩ := quo64_in a0 a1 x1 x2 hb hn
      exact cut64_in _ u1 u2
  have hr : rem64VI64 a0 a1 = a0.tmod a1 := if_neg hb
  generalize a0.tdiv a1 = q at *
  generalize a0.tmod a1 = r at *
  exact walk2 a0 a1 q r x1 x2 y1 y2 hb (by omega) hq hr (by simpa using f1) (by omega) (by omega) (by omega) (by omega) (by omega) (by omega) (by omega) w

set_option maxRecDepth 100000 in
theorem lifted (os : Os) (started : os.Started) (H : Type) (enc : TypeId × Value → H) :
    ReturnsInHanded {} Try.checked os 7 .any (Rows.satDividesSpec.pre6 enc Try.prog Try.f7 Rows.satDividesRow.domain false) (Rows.satDividesSpec.post enc Try.prog Try.f7 false true false false) := by
  refine returnsInHanded_of_change (C := Try.checked) own started (by kernel_rfl) Try.func7
    (ChangeSpec.witness6 (enc := enc) (C := Try.checked) false ⟨#[], #[.int .i64 0, .int .i64 0], []⟩ 8 (by kernel_rfl) (by kernel_rfl) (by kernel_rfl) (by kernel_rfl)) ?_
  intro W base args ds gs before hval0 hW hcnd _
  have hval : ∀ (j : Nat) t v, Try.f7.params[j]? = some t → args[j]? = some v → Value.okWide Try.prog W .any base t v := hval0
  have hW' := hW
  obtain ⟨p, q, hA0, hV, rfl, hfz, hnd⟩ := hW
  have hA : DataW.TrodAll enc Try.prog W 0 (fun _ => true) true Try.f7.params.toList args.toList ds p := hA0
  rw [Try.params7] at hA hval
  obtain ⟨v0, vs0, d0, ds0, p0, q0, hargs, rfl, rfl, h0, r0⟩ := trodAll_cons hA
  obtain ⟨v1, vs1, d1, ds1, p1, q1, rfl, rfl, rfl, h1, r1⟩ := trodAll_cons r0
  obtain ⟨rfl, rfl, rfl⟩ := trodAll_nil r1
  obtain rfl : args = #[v0, v1] := by cases args; simp_all
  obtain ⟨rfl, rfl⟩ := trodVars_none hV
  obtain ⟨a0, rfl, rfl, rfl, w0⟩ := open_int Try.underlying2 (hval 0 2 v0 rfl rfl) h0
  obtain ⟨a1, rfl, rfl, rfl, w1⟩ := open_int Try.underlying2 (hval 1 2 v1 rfl rfl) h1
  clear hA0 hval0
  simp only [List.append_nil] at hW'
  refine (walk a0 a1 w0 w1 W).mono fun e W' ⟨he, hg⟩ => ?_
  subst he
  exact ⟨_, rfl, _, _, _, [], _, [], hW', (trodAll_cons_mk (shut_bool Try.underlying4 _) trodAll_mk0), (trodAll_cons_mk (shut_int Try.underlying2 w0) (trodAll_cons_mk (shut_int Try.underlying2 w1) trodAll_mk0)), rfl, Below.frame hg _, fun h => by cases h⟩

theorem over : Rows.satDividesRow.holds Try.pinned (OpenSpec.ofChange Rows.satDividesSpec) :=
  OpenClaim.holds_of_wide 7 Try.f7 rfl rfl rfl rfl rfl rfl rfl ⟨rfl, rfl, rfl, rfl, rfl⟩ rfl rfl rfl rfl rfl (by kernel_rfl) Try.func7 (by kernel_rfl)
    (of_decide_eq_true (by kernel_rfl)) (by unfold Func.isWrapper; first | (rw [if_pos (by decide +kernel)]; kernel_rfl) | (rw [if_neg (by decide +kernel)]; exact ⟨rfl, rfl⟩))
    (fun os started H enc _ => lifted os started H enc)

theorem proved : Rows.SatDividesSaid :=
  over
end Go.Proofs.Ythanbiblikkimab.satDivides
namespace Go.Proofs.Ythanbiblikkimab
theorem satDivides_holds : Rows.SatDividesSaid := satDivides.proved
#print axioms satDivides_holds
end Go.Proofs.Ythanbiblikkimab
