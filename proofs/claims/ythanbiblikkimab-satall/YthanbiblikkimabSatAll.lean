/- The law SatAll returns true: of int8 every two numbers, by plain reckoning; a closed statement, no conditions. -/
import Derived.Test.YthanbiblikkimabRows
import Derived.WalkKit
import Derived.ProofKit
import Derived.OpenShut
import Derived.Test.YthanbiblikkimabSum
import Derived.Below
import Derived.ChangeOld
import Derived.Deep.RegionHeld3
namespace Go.Proofs.Ythanbiblikkimab.satAll
open Go.ChangeShapes Go.WideShapes Go.ChangeAt Go.RowKit
set_option linter.unusedVariables false      -- a walk need not use every 'w<i>' (that an integer argument fits its kind)

theorem own : ownKnob Try.prog.godebug = none := by kernel_rfl

theorem bneSelf (x : Int) : (x != x) = false := by simp
theorem prod (x y : Int) (x1 : -128 ≤ x) (x2 : x ≤ 127) (y1 : -128 ≤ y) (y2 : y ≤ 127) : -16384 ≤ x * y ∧ x * y ≤ 16384 := by
  have h : (x * y).natAbs ≤ 128 * 128 := by rw [Int.natAbs_mul]; exact Nat.mul_le_mul (by omega) (by omega)
  omega
theorem quoBd (x y : Int) (x1 : -128 ≤ x) (x2 : x ≤ 127) : -128 ≤ x.tdiv y ∧ x.tdiv y ≤ 128 := by
  have t := tdiv_abs x y
  have h : x.natAbs / y.natAbs ≤ x.natAbs := Nat.div_le_self _ _
  omega
set_option maxHeartbeats 400000 in
theorem lawCut (a : Int) (w : World) :
    Calls Try.prog 35 #[.int .i64 a] w fun e w' => e = .returned (.int .i64 (cut8 a)) ∧ w' = w := by
  go_enter Try.func35, Try.ntmps35
  go_wp2
  all_goals (go_ret; refine ⟨ret_int ?_, rfl⟩)
  all_goals (unfold cut8 cutI; omega)
set_option maxHeartbeats 4000000 in
set_option maxRecDepth 100000 in
theorem walk (w : World) :
    Calls Try.prog 5 #[] w fun e w' => e = .returned (.bool true) ∧ Up w w' := by
  go_enter Try.func5, Try.ntmps5
  go_wp2_with fail
  refine (works _).mono ?_
  rintro e wa ⟨rfl, up⟩
  go_wp2_with fail
  go_loop [1, 2] (fun k i => ∃ a : Int, -128 ≤ a ∧ a ≤ 128 ∧ i = .int .i64 a ∧ k = .bool true) (fun _ i => (128 - intOf i).toNat)
  case atStart => exact ⟨-128, by decide, by decide, rfl, rfl⟩
  case round =>
    obtain ⟨a, a1, a2, rfl, rfl⟩ := hrel
    by_cases hlt : a < 128
    · have hmx : (if a < -a then -a else a) = (a.natAbs : Int) := by split <;> omega
      have g1 := bneSelf (cut8 (-a))
      have g2 := bneSelf (cut8 a.natAbs)
      obtain ⟨p1, p2⟩ := cut8_bd (-a)
      obtain ⟨p3, p4⟩ := cut8_bd a.natAbs
      go_wp2_with fail
      refine (negI8 a _ (by omega) (by omega)).mono ?_
      rintro e v ⟨rfl, rfl⟩
      go_wp2_with fail
      refine (lawCut (-a) _).mono ?_
      rintro e v ⟨rfl, rfl⟩
      go_wp2_with fail
      refine (absI8 a _ (by omega) (by omega)).mono ?_
      rintro e v ⟨rfl, rfl⟩
      go_wp2_with fail
      refine (lawCut a.natAbs _).mono ?_
      rintro e v ⟨rfl, rfl⟩
      clear g1 g2 p1 p2 p3 p4
      go_wp2_with fail
      go_loop [1, 4] (fun k i => ∃ b : Int, -128 ≤ b ∧ b ≤ 128 ∧ i = .int .i64 b ∧ k = .bool true) (fun _ i => (128 - intOf i).toNat)
      case atStart => exact ⟨-128, by decide, by decide, rfl, rfl⟩
      case round =>
        obtain ⟨b, b1, b2, rfl, rfl⟩ := hrel
        by_cases hlt2 : b < 128
        · have g1 := bneSelf (cut8 (a + b))
          have g2 := bneSelf (cut8 (a - b))
          have g3 := bneSelf (cut8 (a * b))
          obtain ⟨p1, p2⟩ := cut8_bd (a + b)
          obtain ⟨p3, p4⟩ := cut8_bd (a - b)
          obtain ⟨p5, p6⟩ := cut8_bd (a * b)
          obtain ⟨p7, p8⟩ := prod a b (by omega) (by omega) (by omega) (by omega)
          go_wp2_with fail
          refine (addI8 a b _ (by omega) (by omega) (by omega) (by omega)).mono ?_
          rintro e v ⟨rfl, rfl⟩
          go_wp2_with fail
          refine (lawCut (a + b) _).mono ?_
          rintro e v ⟨rfl, rfl⟩
          go_wp2_with fail
          refine (subI8 a b _ (by omega) (by omega) (by omega) (by omega)).mono ?_
          rintro e v ⟨rfl, rfl⟩
          go_wp2_with fail
          refine (lawCut (a - b) _).mono ?_
          rintro e v ⟨rfl, rfl⟩
          go_wp2_with fail
          refine (mulI8 a b _ (by omega) (by omega) (by omega) (by omega)).mono ?_
          rintro e v ⟨rfl, rfl⟩
          go_wp2_with fail
          refine (lawCut (a * b) _).mono ?_
          rintro e v ⟨rfl, rfl⟩
          clear g1 g2 g3 p1 p2 p3 p4 p5 p6 p7 p8
          go_wp2_with fail
          refine (divI8 a b _ (by omega) (by omega) (by omega) (by omega)).mono ?_
          rintro e v ⟨rfl, rfl⟩
          go_wp2_with fail
          refine (remI8 a b _ (by omega) (by omega) (by omega) (by omega)).mono ?_
          rintro e v ⟨rfl, rfl⟩
          by_cases hb : b = 0
          · subst hb
            rw [show div8VI8 a 0 = 0 from if_pos rfl, show rem8VI8 a 0 = 0 from if_pos rfl, nz_no]
            go_wp2
            go_round
            case rel => exact ⟨1, by decide, by decide, by go_num, rfl⟩
            case measure => simp [intOf]
          · have hb0 : (b == 0) = false := by simpa using hb
            rw [show div8VI8 a b = cut8 (a.tdiv b) from if_neg hb, show rem8VI8 a b = a.tmod b from if_neg hb, nz_yes b hb]
            have g1 := bneSelf (cut8 (a.tdiv b))
            have g2 := bneSelf (a.tmod b)
            obtain ⟨p1, p2⟩ := cut8_bd (a.tdiv b)
            obtain ⟨p3, p4⟩ := quoBd a b (by omega) (by omega)
            obtain ⟨p5, p6⟩ := rem8_in a b (by omega) (by omega) hb
            go_wp2_with fail
            refine (lawCut (a.tdiv b) _).mono ?_
            rintro e v ⟨rfl, rfl⟩
            go_wp2
            go_round
            case rel => exact ⟨b + 1, by omega, by omega, by go_num, rfl⟩
            case measure => simp [intOf]; omega
        · go_wp2
          go_round
          case rel => exact ⟨a + 1, by omega, by omega, by go_num, rfl⟩
          case measure => simp [intOf]; omega
    · go_wp2
      go_ret
      exact ⟨rfl, up⟩

set_option maxRecDepth 100000 in
theorem lifted (os : Os) (started : os.Started) (H : Type) (enc : TypeId × Value → H) :
    ReturnsInHanded {} Try.checked os 5 .any (Rows.satAllSpec.pre6 enc Try.prog Try.f5 Rows.satAllRow.domain false) (Rows.satAllSpec.post enc Try.prog Try.f5 false true false false) := by
  refine returnsInHanded_of_change (C := Try.checked) own started (by kernel_rfl) Try.func5
    (ChangeSpec.witness6 (enc := enc) (C := Try.checked) false ⟨#[], #[], []⟩ 8 (by kernel_rfl) (by kernel_rfl) (by kernel_rfl) (by kernel_rfl)) ?_
  intro W base args ds gs before hval0 hW hcnd _
  have hval : ∀ (j : Nat) t v, Try.f5.params[j]? = some t → args[j]? = some v → Value.okWide Try.prog W .any base t v := hval0
  have hW' := hW
  obtain ⟨p, q, hA0, hV, rfl, hfz, hnd⟩ := hW
  have hA : DataW.TrodAll enc Try.prog W 0 (fun _ => true) true Try.f5.params.toList args.toList ds p := hA0
  rw [Try.params5] at hA hval
  obtain ⟨rfl, rfl, rfl⟩ := trodAll_none hA
  obtain ⟨rfl, rfl⟩ := trodVars_none hV
  clear hA0 hval0
  simp only [List.append_nil] at hW'
  refine (walk  W).mono fun e W' ⟨he, hg⟩ => ?_
  subst he
  exact ⟨_, rfl, _, _, _, [], _, [], hW', (trodAll_cons_mk (shut_bool Try.underlying4 _) trodAll_mk0), rfl, rfl, Below.frame hg _, fun h => by cases h⟩

theorem over : Rows.satAllRow.holds Try.pinned (OpenSpec.ofChange Rows.satAllSpec) :=
  OpenClaim.holds_of_wide 5 Try.f5 rfl rfl rfl rfl rfl rfl rfl ⟨rfl, rfl, rfl, rfl, rfl⟩ rfl rfl rfl rfl rfl (by kernel_rfl) Try.func5 (by kernel_rfl)
    (of_decide_eq_true (by kernel_rfl)) (by unfold Func.isWrapper; first | (rw [if_pos (by decide +kernel)]; kernel_rfl) | (rw [if_neg (by decide +kernel)]; exact ⟨rfl, rfl⟩))
    (fun os started H enc _ => lifted os started H enc)

theorem proved : Rows.SatAllSaid :=
  over
end Go.Proofs.Ythanbiblikkimab.satAll
namespace Go.Proofs.Ythanbiblikkimab
theorem satAll_holds : Rows.SatAllSaid := satAll.proved
#print axioms satAll_holds
end Go.Proofs.Ythanbiblikkimab
