/- The law SatLarge returns true for every three int32: each call of package sat answers as the document does; no conditions. -/
import Derived.Test.YthanbiblikkimaaRows
import Derived.WalkKit
import Derived.ProofKit
import Derived.OpenShut
import Derived.Test.YthanbiblikkimaaEnds
import Derived.Below
import Derived.ChangeOld
import Derived.Deep.RegionHeld3
namespace Go.Proofs.Ythanbiblikkimaa.satLarge
open Go.ChangeShapes Go.WideShapes Go.ChangeAt Go.RowKit
set_option linter.unusedVariables false      -- a walk need not use every 'w<i>' (that an integer argument fits its kind)

theorem own : ownKnob Try.prog.godebug = none := by kernel_rfl

theorem divSame (a b : Int) : div32VI32 a b = div32 a b := rfl
theorem remSame (a b : Int) : rem32VI32 a b = remI a b := rfl
set_option maxHeartbeats 4000000 in
set_option maxRecDepth 100000 in
theorem walk (a0 : Int) (a1 : Int) (a2 : Int) (w0 : (Lit.int .i32 a0).wf = true) (w1 : (Lit.int .i32 a1).wf = true) (w2 : (Lit.int .i32 a2).wf = true) (w : World) :
    Calls Try.prog 5 #[.int .i32 a0, .int .i32 a1, .int .i32 a2] w fun e w' => e = .returned (.bool true) ∧ Up w w' := by
  obtain ⟨x1, x2⟩ := bounds_i32 w0
  obtain ⟨y1, y2⟩ := bounds_i32 w1
  obtain ⟨z1, z2⟩ := bounds_i32 w2
  clear w0 w1 w2
  obtain ⟨p1, p2⟩ := cut32_bd (a0 + a1)
  obtain ⟨p3, p4⟩ := cut32_bd (a0 - a1)
  obtain ⟨p5, p6⟩ := cut32_bd (a0 * a1)
  obtain ⟨p7, p8⟩ := cut32_bd (-a0)
  obtain ⟨p9, p10⟩ := cut32_bd a0.natAbs
  obtain ⟨p11, p12⟩ := div32_bd a0 a1
  obtain ⟨p13, p14⟩ := remI_bd32 a0 a1 y1 y2
  have p15 : -2147483648 ≤ max a1 (min a0 a2) := by omega
  have p16 : max a1 (min a0 a2) ≤ 2147483647 := by omega
  have k1 : IntKind.i64.wrap (cut32 (a0 + a1)) = cut32 (a0 + a1) := IntWalk.i64_in _ ⟨by omega, by omega⟩
  have k2 : IntKind.i64.wrap (cut32 (a0 - a1)) = cut32 (a0 - a1) := IntWalk.i64_in _ ⟨by omega, by omega⟩
  have k3 : IntKind.i64.wrap (cut32 (a0 * a1)) = cut32 (a0 * a1) := IntWalk.i64_in _ ⟨by omega, by omega⟩
  have k4 : IntKind.i64.wrap (cut32 (-a0)) = cut32 (-a0) := IntWalk.i64_in _ ⟨by omega, by omega⟩
  have k5 : IntKind.i64.wrap (cut32 a0.natAbs) = cut32 a0.natAbs := IntWalk.i64_in _ ⟨by omega, by omega⟩
  have k6 : IntKind.i64.wrap (max a1 (min a0 a2)) = max a1 (min a0 a2) := IntWalk.i64_in _ ⟨by omega, by omega⟩
  have k7 : IntKind.i64.wrap (a2) = a2 := IntWalk.i64_in _ ⟨by omega, by omega⟩
  have q1 : (cut32 (a0 + a1) == cut32 (a0 + a1)) = true := by simp
  have q2 : (cut32 (a0 - a1) == cut32 (a0 - a1)) = true := by simp
  have q3 : (cut32 (a0 * a1) == cut32 (a0 * a1)) = true := by simp
  have q4 : (cut32 (-a0) == cut32 (-a0)) = true := by simp
  have q5 : (cut32 a0.natAbs == cut32 a0.natAbs) = true := by simp
  have q6 : (max a1 (min a0 a2) == max a1 (min a0 a2)) = true := by simp
  go_enter Try.func5, Try.ntmps5
  go_wp2_with fail
  refine (works _).mono ?_
  rintro e wa ⟨rfl, up⟩
  go_wp2_with fail
  refine (refOf32 _).mono ?_
  rintro e wb ⟨rfl, up1⟩
  go_wp2_with fail
  have hS : (wb.alloc (.cells #[.int .i64 (-2147483648), .int .i64 2147483647] 25)).cell? ⟨wb.heap.size, 0, none⟩ = some (.int .i64 (-2147483648)) ∧ (wb.alloc (.cells #[.int .i64 (-2147483648), .int .i64 2147483647] 25)).cell? ⟨wb.heap.size, 1, none⟩ = some (.int .i64 2147483647) ∧ Up w (wb.alloc (.cells #[.int .i64 (-2147483648), .int .i64 2147483647] 25)) :=
    ⟨by simp, by simp, (up.trans up1).alloc _⟩
  clear up up1
  generalize wb.alloc (.cells #[.int .i64 (-2147483648), .int .i64 2147483647] 25) = we at *
  generalize wb.heap.size = be at *
  clear wa wb
  refine (divI32 a0 a1 _ x1 x2 y1 y2).mono ?_
  rintro e v ⟨rfl, rfl⟩
  rw [divSame]
  obtain ⟨c0, c1, c2⟩ := hS
  go_wp2_with fail
  refine (remI32 a0 a1 _ x1 x2 y1 y2).mono ?_
  rintro e v ⟨rfl, rfl⟩
  rw [remSame]
  go_wp2_with fail
  refine (refDiv32 a0 a1 _ x1 x2 y1 y2).mono ?_
  rintro e vc ⟨rfl, up⟩
  have hS := keepE up ⟨c0, c1, c2⟩
  clear up c0 c1 c2
  obtain ⟨c0, c1, c2⟩ := hS
  go_wp2_with fail
  refine (refRem a0 a1 _ (by omega) (by omega)).mono ?_
  rintro e v ⟨rfl, rfl⟩
  go_wp2_with fail
  have hS := And.intro c0 (And.intro c1 c2)
  clear c0 c1 c2
  go_region_held3 (fun v => v.cell? ⟨be, 0, none⟩ = some (.int .i64 (-2147483648)) ∧ v.cell? ⟨be, 1, none⟩ = some (.int .i64 2147483647) ∧ Up w v) (first | assumption | exact keepD (by assumption) | exact keepE up (by assumption))
    (first
      | (go_at_call 37; refine (addI32 a0 a1 _ x1 x2 y1 y2).mono ?_; rintro e v ⟨rfl, rfl⟩)
      | (go_at_call 16; refine (refAdd32 a0 a1 _ x1 x2 y1 y2).mono ?_; rintro e v ⟨rfl, up⟩)
      | (go_at_call 38; refine (subI32 a0 a1 _ x1 x2 y1 y2).mono ?_; rintro e v ⟨rfl, rfl⟩)
      | (go_at_call 18; refine (refSub32 a0 a1 _ x1 x2 y1 y2).mono ?_; rintro e v ⟨rfl, up⟩)
      | (go_at_call 39; refine (mulI32 a0 a1 _ x1 x2 y1 y2).mono ?_; rintro e v ⟨rfl, rfl⟩)
      | (go_at_call 20; refine (refMul32 a0 a1 _ x1 x2 y1 y2).mono ?_; rintro e v ⟨rfl, up⟩))
  go_wp2_with fail
  go_region_held3 (fun v => v.cell? ⟨be, 0, none⟩ = some (.int .i64 (-2147483648)) ∧ v.cell? ⟨be, 1, none⟩ = some (.int .i64 2147483647) ∧ Up w v) (first | assumption | exact keepD (by assumption) | exact keepE up (by assumption))
    (first
      | (go_at_call 40; refine (negI32 a0 _ x1 x2).mono ?_; rintro e v ⟨rfl, rfl⟩)
      | (go_at_call 22; refine (refNeg32 a0 _ x1 x2).mono ?_; rintro e v ⟨rfl, up⟩)
      | (go_at_call 41; refine (absI32 a0 _ x1 x2).mono ?_; rintro e v ⟨rfl, rfl⟩)
      | (go_at_call 24; refine (refAbs32 a0 _ x1 x2).mono ?_; rintro e v ⟨rfl, up⟩)
      | (go_at_call 42; refine (clampI32 a0 a1 a2 _).mono ?_; rintro e v ⟨rfl, rfl⟩)
      | (go_at_call 26; refine (refClamp a0 a1 a2 _).mono ?_; rintro e v ⟨rfl, rfl⟩))
  rename_i hZ
  obtain ⟨_, _, upZ⟩ := hZ
  go_wp2
  go_ret
  exact ⟨rfl, by first | exact upZ | exact upZ.drew⟩

set_option maxRecDepth 100000 in
theorem lifted (os : Os) (started : os.Started) (H : Type) (enc : TypeId × Value → H) :
    ReturnsInHanded {} Try.checked os 5 .any (Rows.satLargeSpec.pre6 enc Try.prog Try.f5 Rows.satLargeRow.domain false) (Rows.satLargeSpec.post enc Try.prog Try.f5 false true false false) := by
  refine returnsInHanded_of_change (C := Try.checked) own started (by kernel_rfl) Try.func5
    (ChangeSpec.witness6 (enc := enc) (C := Try.checked) false ⟨#[], #[.int .i32 0, .int .i32 0, .int .i32 0], []⟩ 8 (by kernel_rfl) (by kernel_rfl) (by kernel_rfl) (by kernel_rfl)) ?_
  intro W base args ds gs before hval0 hW hcnd _
  have hval : ∀ (j : Nat) t v, Try.f5.params[j]? = some t → args[j]? = some v → Value.okWide Try.prog W .any base t v := hval0
  have hW' := hW
  obtain ⟨p, q, hA0, hV, rfl, hfz, hnd⟩ := hW
  have hA : DataW.TrodAll enc Try.prog W 0 (fun _ => true) true Try.f5.params.toList args.toList ds p := hA0
  rw [Try.params5] at hA hval
  obtain ⟨v0, vs0, d0, ds0, p0, q0, hargs, rfl, rfl, h0, r0⟩ := trodAll_cons hA
  obtain ⟨v1, vs1, d1, ds1, p1, q1, rfl, rfl, rfl, h1, r1⟩ := trodAll_cons r0
  obtain ⟨v2, vs2, d2, ds2, p2, q2, rfl, rfl, rfl, h2, r2⟩ := trodAll_cons r1
  obtain ⟨rfl, rfl, rfl⟩ := trodAll_nil r2
  obtain rfl : args = #[v0, v1, v2] := by cases args; simp_all
  obtain ⟨rfl, rfl⟩ := trodVars_none hV
  obtain ⟨a0, rfl, rfl, rfl, w0⟩ := open_int Try.underlying21 (hval 0 21 v0 rfl rfl) h0
  obtain ⟨a1, rfl, rfl, rfl, w1⟩ := open_int Try.underlying21 (hval 1 21 v1 rfl rfl) h1
  obtain ⟨a2, rfl, rfl, rfl, w2⟩ := open_int Try.underlying21 (hval 2 21 v2 rfl rfl) h2
  clear hA0 hval0
  simp only [List.append_nil] at hW'
  refine (walk a0 a1 a2 w0 w1 w2 W).mono fun e W' ⟨he, hg⟩ => ?_
  subst he
  exact ⟨_, rfl, _, _, _, [], _, [], hW', (trodAll_cons_mk (shut_bool Try.underlying4 _) trodAll_mk0), (trodAll_cons_mk (shut_int Try.underlying21 w0) (trodAll_cons_mk (shut_int Try.underlying21 w1) (trodAll_cons_mk (shut_int Try.underlying21 w2) trodAll_mk0))), rfl, Below.frame hg _, fun h => by cases h⟩

theorem over : Rows.satLargeRow.holds Try.pinned (OpenSpec.ofChange Rows.satLargeSpec) :=
  OpenClaim.holds_of_wide 5 Try.f5 rfl rfl rfl rfl rfl rfl rfl ⟨rfl, rfl, rfl, rfl, rfl⟩ rfl rfl rfl rfl rfl (by kernel_rfl) Try.func5 (by kernel_rfl)
    (of_decide_eq_true (by kernel_rfl)) (by unfold Func.isWrapper; first | (rw [if_pos (by decide +kernel)]; kernel_rfl) | (rw [if_neg (by decide +kernel)]; exact ⟨rfl, rfl⟩))
    (fun os started H enc _ => lifted os started H enc)

theorem proved : Rows.SatLargeSaid :=
  over
end Go.Proofs.Ythanbiblikkimaa.satLarge
namespace Go.Proofs.Ythanbiblikkimaa
theorem satLarge_holds : Rows.SatLargeSaid := satLarge.proved
#print axioms satLarge_holds
end Go.Proofs.Ythanbiblikkimaa
