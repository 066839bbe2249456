/- The law SatTo returns true for every int64: To from every kind to every other one answers as the document does; no conditions. -/
import Derived.Test.YthanbiblikkimabRows
import Derived.WalkKit
import Derived.ProofKit
import Derived.OpenShut
import Derived.Test.YthanbiblikkimabEnds
import Derived.Below
import Derived.ChangeOld
import Derived.Deep.RegionHeld3
namespace Go.Proofs.Ythanbiblikkimab.satTo
open Go.ChangeShapes Go.WideShapes Go.ChangeAt Go.RowKit
set_option linter.unusedVariables false      -- a walk need not use every 'w<i>' (that an integer argument fits its kind)

theorem own : ownKnob Try.prog.godebug = none := by kernel_rfl

theorem keep3 {w0 v v' : World} {b c d : Nat} {x y z t p q : Value} (k : Up v v') (h : v.cell? ⟨b, 0, none⟩ = some x ∧ v.cell? ⟨b, 1, none⟩ = some y ∧ v.cell? ⟨c, 0, none⟩ = some z ∧ v.cell? ⟨c, 1, none⟩ = some t ∧ v.cell? ⟨d, 0, none⟩ = some p ∧ v.cell? ⟨d, 1, none⟩ = some q ∧ Up w0 v) :
    v'.cell? ⟨b, 0, none⟩ = some x ∧ v'.cell? ⟨b, 1, none⟩ = some y ∧ v'.cell? ⟨c, 0, none⟩ = some z ∧ v'.cell? ⟨c, 1, none⟩ = some t ∧ v'.cell? ⟨d, 0, none⟩ = some p ∧ v'.cell? ⟨d, 1, none⟩ = some q ∧ Up w0 v' := by
  have one : ∀ (n o : Nat) (u : Value), v.cell? ⟨n, o, none⟩ = some u → v'.cell? ⟨n, o, none⟩ = some u := fun n o u hu => by
    have hb : n < v.heap.size := World.block_lt_of_cell? v ⟨n, o, none⟩ hu
    rw [Below.cell k (p := ⟨n, o, none⟩) hb]; exact hu
  exact ⟨one _ _ _ h.1, one _ _ _ h.2.1, one _ _ _ h.2.2.1, one _ _ _ h.2.2.2.1, one _ _ _ h.2.2.2.2.1, one _ _ _ h.2.2.2.2.2.1, h.2.2.2.2.2.2.trans k⟩
theorem keep3D {w0 v : World} {b c d : Nat} {x y z t p q : Value} (h : v.cell? ⟨b, 0, none⟩ = some x ∧ v.cell? ⟨b, 1, none⟩ = some y ∧ v.cell? ⟨c, 0, none⟩ = some z ∧ v.cell? ⟨c, 1, none⟩ = some t ∧ v.cell? ⟨d, 0, none⟩ = some p ∧ v.cell? ⟨d, 1, none⟩ = some q ∧ Up w0 v) :
    v.drew.cell? ⟨b, 0, none⟩ = some x ∧ v.drew.cell? ⟨b, 1, none⟩ = some y ∧ v.drew.cell? ⟨c, 0, none⟩ = some z ∧ v.drew.cell? ⟨c, 1, none⟩ = some t ∧ v.drew.cell? ⟨d, 0, none⟩ = some p ∧ v.drew.cell? ⟨d, 1, none⟩ = some q ∧ Up w0 v.drew :=
  ⟨h.1, h.2.1, h.2.2.1, h.2.2.2.1, h.2.2.2.2.1, h.2.2.2.2.2.1, h.2.2.2.2.2.2.drew⟩
theorem cutcut (x : Int) : cut8 (cut16 x) = cut8 x ∧ cut8 (cut32 x) = cut8 x ∧ cut16 (cut32 x) = cut16 x := by unfold cut8 cut16 cut32 cutI; omega
theorem beqSelf (x : Int) : (x == x) = true := by simp
set_option maxHeartbeats 4000000 in
set_option maxRecDepth 100000 in
theorem walk (a0 : Int) (w0 : (Lit.int .i64 a0).wf = true) (w : World) :
    Calls Try.prog 3 #[.int .i64 a0] w fun e w' => e = .returned (.bool true) ∧ Up w w' := by
  obtain ⟨x1, x2⟩ := bounds_i64 w0
  clear w0
  obtain ⟨p1, p2⟩ := cut8_bd a0
  obtain ⟨p3, p4⟩ := cut16_bd a0
  obtain ⟨p5, p6⟩ := cut32_bd a0
  obtain ⟨m1, m2, m3⟩ := cutcut a0
  have n1 := cut16_in (cut16 a0) p3 p4
  have n2 := cut32_in (cut32 a0) p5 p6
  have n3 := cut8_in (cut8 a0) p1 p2
  have n4 := cut32_in (cut16 a0) (by omega) (by omega)
  have n5 := cut16_in (cut8 a0) (by omega) (by omega)
  have n6 := cut64_in a0 x1 x2
  have n7 := cut64_in (cut32 a0) (by omega) (by omega)
  have n8 := cut64_in (cut16 a0) (by omega) (by omega)
  have n9 := cut64_in (cut8 a0) (by omega) (by omega)
  have k1 : IntKind.i64.wrap (cut8 a0) = cut8 a0 := IntWalk.i64_in _ ⟨by omega, by omega⟩
  have k2 : IntKind.i64.wrap (cut16 a0) = cut16 a0 := IntWalk.i64_in _ ⟨by omega, by omega⟩
  have k3 : IntKind.i64.wrap (cut32 a0) = cut32 a0 := IntWalk.i64_in _ ⟨by omega, by omega⟩
  have g1 := beqSelf (cut8 a0)
  have g2 := beqSelf (cut16 a0)
  have g3 := beqSelf (cut32 a0)
  have g4 := beqSelf a0
  go_enter Try.func3, Try.ntmps3
  go_wp2_with fail
  refine (works _).mono ?_
  rintro e wa ⟨rfl, up⟩
  go_wp2_with fail
  refine (refOf8 _).mono ?_
  rintro e wb ⟨rfl, up1⟩
  go_wp2_with fail
  refine (refOf16 _).mono ?_
  rintro e wc ⟨rfl, up2⟩
  go_wp2_with fail
  refine (refOf32 _).mono ?_
  rintro e wd ⟨rfl, up3⟩
  go_wp2_with fail
  have hS : (wd.alloc (.cells #[.int .i64 (-2147483648), .int .i64 2147483647] 24)).cell? ⟨wb.heap.size, 0, none⟩ = some (.int .i64 (-128)) ∧ (wd.alloc (.cells #[.int .i64 (-2147483648), .int .i64 2147483647] 24)).cell? ⟨wb.heap.size, 1, none⟩ = some (.int .i64 127) ∧ (wd.alloc (.cells #[.int .i64 (-2147483648), .int .i64 2147483647] 24)).cell? ⟨wc.heap.size, 0, none⟩ = some (.int .i64 (-32768)) ∧ (wd.alloc (.cells #[.int .i64 (-2147483648), .int .i64 2147483647] 24)).cell? ⟨wc.heap.size, 1, none⟩ = some (.int .i64 32767) ∧ (wd.alloc (.cells #[.int .i64 (-2147483648), .int .i64 2147483647] 24)).cell? ⟨wd.heap.size, 0, none⟩ = some (.int .i64 (-2147483648)) ∧ (wd.alloc (.cells #[.int .i64 (-2147483648), .int .i64 2147483647] 24)).cell? ⟨wd.heap.size, 1, none⟩ = some (.int .i64 2147483647) ∧ Up w (wd.alloc (.cells #[.int .i64 (-2147483648), .int .i64 2147483647] 24)) := by
    have u1 : Up (wb.alloc (.cells #[.int .i64 (-128), .int .i64 127] 24)) (wd.alloc (.cells #[.int .i64 (-2147483648), .int .i64 2147483647] 24)) := ((up2.alloc (.cells #[.int .i64 (-32768), .int .i64 32767] 24)).trans up3).alloc _
    have u2 : Up (wc.alloc (.cells #[.int .i64 (-32768), .int .i64 32767] 24)) (wd.alloc (.cells #[.int .i64 (-2147483648), .int .i64 2147483647] 24)) := up3.alloc _
    have hb : wb.heap.size < (wb.alloc (.cells #[.int .i64 (-128), .int .i64 127] 24)).heap.size := by simp
    have hc : wc.heap.size < (wc.alloc (.cells #[.int .i64 (-32768), .int .i64 32767] 24)).heap.size := by simp
    refine ⟨?_, ?_, ?_, ?_, by simp, by simp, (((up.trans up1).alloc _).trans u1)⟩
    · rw [Below.cell u1 (p := ⟨wb.heap.size, 0, none⟩) hb]; simp
    · rw [Below.cell u1 (p := ⟨wb.heap.size, 1, none⟩) hb]; simp
    · rw [Below.cell u2 (p := ⟨wc.heap.size, 0, none⟩) hc]; simp
    · rw [Below.cell u2 (p := ⟨wc.heap.size, 1, none⟩) hc]; simp
  clear up up1 up2 up3
  generalize wd.alloc (.cells #[.int .i64 (-2147483648), .int .i64 2147483647] 24) = we at *
  generalize wb.heap.size = b8 at *
  generalize wc.heap.size = b16 at *
  generalize wd.heap.size = b32 at *
  clear wa wb wc wd
  go_region_held3 (fun v => v.cell? ⟨b8, 0, none⟩ = some (.int .i64 (-128)) ∧ v.cell? ⟨b8, 1, none⟩ = some (.int .i64 127) ∧ v.cell? ⟨b16, 0, none⟩ = some (.int .i64 (-32768)) ∧ v.cell? ⟨b16, 1, none⟩ = some (.int .i64 32767) ∧ v.cell? ⟨b32, 0, none⟩ = some (.int .i64 (-2147483648)) ∧ v.cell? ⟨b32, 1, none⟩ = some (.int .i64 2147483647) ∧ Up w v) (first | assumption | exact keep3D (by assumption) | exact keep3 up (by assumption))
    (first
      | (go_at_call 10; refine (toI8I64 a0 _ x1 x2).mono ?_; rintro e v ⟨rfl, rfl⟩)
      | (go_at_call 12; refine (toI16I64 a0 _ x1 x2).mono ?_; rintro e v ⟨rfl, rfl⟩)
      | (go_at_call 13; refine (toI32I64 a0 _ x1 x2).mono ?_; rintro e v ⟨rfl, rfl⟩)
      | (go_at_call 14; refine (toI64I64 a0 _ x1 x2).mono ?_; rintro e v ⟨rfl, rfl⟩; rw [n6])
      | (go_at_call 15; refine (toInI64 a0 _ x1 x2).mono ?_; rintro e v ⟨rfl, rfl⟩; rw [n6])
      | (go_at_call 16; refine (toOwI64 a0 _ x1 x2).mono ?_; rintro e v ⟨rfl, rfl⟩)
      | (go_at_call 11; with_reducible refine (refCut8 a0 _).mono ?_; rintro e v ⟨rfl, up⟩)
      | (go_at_call 11; with_reducible refine (refCut16 a0 _).mono ?_; rintro e v ⟨rfl, up⟩)
      | (go_at_call 11; with_reducible refine (refCut32 a0 _).mono ?_; rintro e v ⟨rfl, up⟩))
  rename_i hZ
  obtain ⟨c0, c1, c2, c3, c4, c5, c6⟩ := hZ
  go_wp2_with fail
  refine (refCut32 a0 _).mono ?_
  rintro e v ⟨rfl, up⟩
  have hS := keep3 up ⟨c0, c1, c2, c3, c4, c5, c6⟩
  clear up c0 c1 c2 c3 c4 c5 c6
  obtain ⟨c0, c1, c2, c3, c4, c5, c6⟩ := hS
  go_wp2_with fail
  refine (refCut16 a0 _).mono ?_
  rintro e v ⟨rfl, up⟩
  have hS := keep3 up ⟨c0, c1, c2, c3, c4, c5, c6⟩
  clear up c0 c1 c2 c3 c4 c5 c6
  obtain ⟨c0, c1, c2, c3, c4, c5, c6⟩ := hS
  go_wp2_with fail
  refine (refCut8 a0 _).mono ?_
  rintro e v ⟨rfl, up⟩
  have hS := keep3 up ⟨c0, c1, c2, c3, c4, c5, c6⟩
  clear up c0 c1 c2 c3 c4 c5 c6
  obtain ⟨c0, c1, c2, c3, c4, c5, c6⟩ := hS
  go_wp2_with fail
  have hS := And.intro c0 (And.intro c1 (And.intro c2 (And.intro c3 (And.intro c4 (And.intro c5 c6)))))
  clear c0 c1 c2 c3 c4 c5 c6
  go_region_held3 (fun v => v.cell? ⟨b8, 0, none⟩ = some (.int .i64 (-128)) ∧ v.cell? ⟨b8, 1, none⟩ = some (.int .i64 127) ∧ v.cell? ⟨b16, 0, none⟩ = some (.int .i64 (-32768)) ∧ v.cell? ⟨b16, 1, none⟩ = some (.int .i64 32767) ∧ v.cell? ⟨b32, 0, none⟩ = some (.int .i64 (-2147483648)) ∧ v.cell? ⟨b32, 1, none⟩ = some (.int .i64 2147483647) ∧ Up w v) (first | assumption | exact keep3D (by assumption) | exact keep3 up (by assumption))
    (first
      | (go_at_call 17; refine (toI8I32 (cut32 a0) _ p5 p6).mono ?_; rintro e v ⟨rfl, rfl⟩; rw [m2])
      | (go_at_call 18; refine (toOwI32 (cut32 a0) _ p5 p6).mono ?_; rintro e v ⟨rfl, rfl⟩; rw [m3])
      | (go_at_call 19; refine (toI64I32 (cut32 a0) _ p5 p6).mono ?_; rintro e v ⟨rfl, rfl⟩; rw [n7])
      | (go_at_call 20; refine (toInI32 (cut32 a0) _ p5 p6).mono ?_; rintro e v ⟨rfl, rfl⟩; rw [n7])
      | (go_at_call 21; refine (toI32I32 (cut32 a0) _ p5 p6).mono ?_; rintro e v ⟨rfl, rfl⟩; rw [n2])
      | (go_at_call 11; with_reducible refine (refCut8 a0 _).mono ?_; rintro e v ⟨rfl, up⟩)
      | (go_at_call 11; with_reducible refine (refCut16 a0 _).mono ?_; rintro e v ⟨rfl, up⟩))
  rename_i hZ
  have hS := hZ
  clear hZ
  go_wp2_with fail
  go_region_held3 (fun v => v.cell? ⟨b8, 0, none⟩ = some (.int .i64 (-128)) ∧ v.cell? ⟨b8, 1, none⟩ = some (.int .i64 127) ∧ v.cell? ⟨b16, 0, none⟩ = some (.int .i64 (-32768)) ∧ v.cell? ⟨b16, 1, none⟩ = some (.int .i64 32767) ∧ v.cell? ⟨b32, 0, none⟩ = some (.int .i64 (-2147483648)) ∧ v.cell? ⟨b32, 1, none⟩ = some (.int .i64 2147483647) ∧ Up w v) (first | assumption | exact keep3D (by assumption) | exact keep3 up (by assumption))
    (first
      | (go_at_call 22; refine (toI8I16 (cut16 a0) _ p3 p4).mono ?_; rintro e v ⟨rfl, rfl⟩; rw [m1])
      | (go_at_call 23; refine (toI64I16 (cut16 a0) _ p3 p4).mono ?_; rintro e v ⟨rfl, rfl⟩; rw [n8])
      | (go_at_call 24; refine (toI32Ow (cut16 a0) _ p3 p4).mono ?_; rintro e v ⟨rfl, rfl⟩; rw [n4])
      | (go_at_call 25; refine (toI8Ow (cut16 a0) _ p3 p4).mono ?_; rintro e v ⟨rfl, rfl⟩; rw [m1])
      | (go_at_call 11; with_reducible refine (refCut8 a0 _).mono ?_; rintro e v ⟨rfl, up⟩))
  rename_i hZ
  obtain ⟨_, _, _, _, _, _, upZ⟩ := hZ
  go_wp2_with fail
  refine (toI16I8 (cut8 a0) _ p1 p2).mono ?_
  rintro e v ⟨rfl, rfl⟩
  rw [n5]
  go_wp2_with fail
  refine (toInI8 (cut8 a0) _ p1 p2).mono ?_
  rintro e v ⟨rfl, rfl⟩
  rw [n9]
  go_wp2_with fail
  refine (toI8I8 (cut8 a0) _ p1 p2).mono ?_
  rintro e v ⟨rfl, rfl⟩
  rw [n3]
  go_wp2_with fail
  refine (toI8In a0 _ x1 x2).mono ?_
  rintro e v ⟨rfl, rfl⟩
  go_wp2
  go_ret
  exact ⟨rfl, by first | exact upZ | exact upZ.drew⟩

set_option maxRecDepth 100000 in
theorem lifted (os : Os) (started : os.Started) (H : Type) (enc : TypeId × Value → H) :
    ReturnsInHanded {} Try.checked os 3 .any (Rows.satToSpec.pre6 enc Try.prog Try.f3 Rows.satToRow.domain false) (Rows.satToSpec.post enc Try.prog Try.f3 false true false false) := by
  refine returnsInHanded_of_change (C := Try.checked) own started (by kernel_rfl) Try.func3
    (ChangeSpec.witness6 (enc := enc) (C := Try.checked) false ⟨#[], #[.int .i64 0], []⟩ 8 (by kernel_rfl) (by kernel_rfl) (by kernel_rfl) (by kernel_rfl)) ?_
  intro W base args ds gs before hval0 hW hcnd _
  have hval : ∀ (j : Nat) t v, Try.f3.params[j]? = some t → args[j]? = some v → Value.okWide Try.prog W .any base t v := hval0
  have hW' := hW
  obtain ⟨p, q, hA0, hV, rfl, hfz, hnd⟩ := hW
  have hA : DataW.TrodAll enc Try.prog W 0 (fun _ => true) true Try.f3.params.toList args.toList ds p := hA0
  rw [Try.params3] at hA hval
  obtain ⟨v0, vs0, d0, ds0, p0, q0, hargs, rfl, rfl, h0, r0⟩ := trodAll_cons hA
  obtain ⟨rfl, rfl, rfl⟩ := trodAll_nil r0
  obtain rfl : args = #[v0] := by cases args; simp_all
  obtain ⟨rfl, rfl⟩ := trodVars_none hV
  obtain ⟨a0, rfl, rfl, rfl, w0⟩ := open_int Try.underlying2 (hval 0 2 v0 rfl rfl) h0
  clear hA0 hval0
  simp only [List.append_nil] at hW'
  refine (walk a0 w0 W).mono fun e W' ⟨he, hg⟩ => ?_
  subst he
  exact ⟨_, rfl, _, _, _, [], _, [], hW', (trodAll_cons_mk (shut_bool Try.underlying4 _) trodAll_mk0), (trodAll_cons_mk (shut_int Try.underlying2 w0) trodAll_mk0), rfl, Below.frame hg _, fun h => by cases h⟩

theorem over : Rows.satToRow.holds Try.pinned (OpenSpec.ofChange Rows.satToSpec) :=
  OpenClaim.holds_of_wide 3 Try.f3 rfl rfl rfl rfl rfl rfl rfl ⟨rfl, rfl, rfl, rfl, rfl⟩ rfl rfl rfl rfl rfl (by kernel_rfl) Try.func3 (by kernel_rfl)
    (of_decide_eq_true (by kernel_rfl)) (by unfold Func.isWrapper; first | (rw [if_pos (by decide +kernel)]; kernel_rfl) | (rw [if_neg (by decide +kernel)]; exact ⟨rfl, rfl⟩))
    (fun os started H enc _ => lifted os started H enc)

theorem proved : Rows.SatToSaid :=
  over
end Go.Proofs.Ythanbiblikkimab.satTo
namespace Go.Proofs.Ythanbiblikkimab
theorem satTo_holds : Rows.SatToSaid := satTo.proved
#print axioms satTo_holds
end Go.Proofs.Ythanbiblikkimab
