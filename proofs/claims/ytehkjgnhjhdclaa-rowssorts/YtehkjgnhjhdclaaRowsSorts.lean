/- The law RowsSorts returns true for every list of pairs and every list of cuts: what is put into a heap in pieces comes out rising, those alike in the order in which they came, and nothing else; no conditions. -/
import Derived.Test.YtehkjgnhjhdclaaRows
import Derived.WalkKit
import Derived.ProofKit
import Derived.OpenShut
import Derived.ShutString
import Derived.ChangeOld
import Derived.Below
import Derived.Test.YtehkjgnhjhdclaaSorts
import Derived.Test.YtehkjgnhjhdclaaOpenL
namespace Go.Proofs.Ytehkjgnhjhdclaa.rowsSorts
open Go.ChangeShapes Go.WideShapes Go.ChangeAt Go.RowKit
open Go.ChangeMaps (open_string shut_string)

theorem own : ownKnob Try.prog.godebug = none := by kernel_rfl
theorem laidOut : laidOutB Try.prog = true := by kernel_rfl

theorem walk {W : World} (v : Value) (ps : List PX) (hv : PL W v ps) (hr : ∀ x ∈ ps, -128 ≤ x.1 ∧ x.1 ≤ 127) (hl : ps.length ≤ maxLen) (u : Value) (zs : List Int) (hu : LiesI W u zs) (hz : ∀ i, i < zs.length → -9223372036854775808 ≤ zs.getD i 0 ∧ zs.getD i 0 ≤ 9223372036854775807) (hm : zs.length ≤ maxLen) (w : World) (e : w = W) :
    Calls Try.prog 8 #[v, u] w fun e w' => e = .returned (.bool true) ∧ Below w.heap.size w w' := by
  subst e
  unfold maxLen at hl hm
  by_cases h : ps.length ≤ 1024 ∧ zs.length ≤ 1024
  · exact sortsMain v u ps zs w hv hu h.1 h.2 hr hz
  · obtain ⟨a1, k1, e1, -, -⟩ := hv
    obtain ⟨a2, k2, e2, -⟩ := hu
    exact sortsLong v u ps.length zs.length a1 a2 k1 k2 w e1 e2 (by omega) (by omega) (by omega)

set_option maxRecDepth 100000 in
theorem lifted (os : Os) (started : os.Started) (H : Type) (enc : TypeId × Value → H) :
    ReturnsInHanded {} Try.checked os 8 .any (Rows.rowsSortsSpec.pre6 enc Try.prog Try.f8 Rows.rowsSortsRow.domain false) (Rows.rowsSortsSpec.post enc Try.prog Try.f8 false true false false) := by
  refine returnsInHanded_of_change (C := Try.checked) own started (by kernel_rfl) Try.func8
    (ChangeSpec.witness6 (enc := enc) (C := Try.checked) false ⟨#[], #[.slice none 0 0, .slice none 0 0], []⟩ 8 (by kernel_rfl) (by kernel_rfl) (by kernel_rfl) (by kernel_rfl)) ?_
  intro W base args ds gs before hval0 hW hcnd _
  have hval : ∀ (j : Nat) t v, Try.f8.params[j]? = some t → args[j]? = some v → Value.okWide Try.prog W .any base t v := hval0
  have hW' := hW
  obtain ⟨p, q, hA0, hV, rfl, hfz, hnd⟩ := hW
  have hA : DataW.TrodAll enc Try.prog W 0 (fun _ => true) true Try.f8.params.toList args.toList ds p := hA0
  rw [Try.params8] at hA hval
  obtain ⟨v0, vs0, d0, ds0, p0, q0, hargs, rfl, rfl, h0, r0⟩ := trodAll_cons hA
  obtain ⟨v1, vs1, d1, ds1, p1, q1, rfl, rfl, rfl, h1, r1⟩ := trodAll_cons r0
  obtain ⟨rfl, rfl, rfl⟩ := trodAll_nil r1
  obtain rfl : args = #[v0, v1] := by cases args; simp_all
  obtain ⟨rfl, rfl⟩ := trodVars_none hV
  have k0 := h0
  have lt0 : ∀ x ∈ p0, x.block < W.heap.size := by obtain ⟨m, hm⟩ := k0; exact DataW.trod_lt m _ _ _ hm
  obtain ⟨z0, w0, y0, x0⟩ := open_pl (hval 0 79 v0 rfl rfl) h0
  have k1 := h1
  have lt1 : ∀ x ∈ p1, x.block < W.heap.size := by obtain ⟨m, hm⟩ := k1; exact DataW.trod_lt m _ _ _ hm
  obtain ⟨z1, w1, y1, x1⟩ := open_il (hval 1 22 v1 rfl rfl) h1
  clear hA0 hval0
  refine (walk v0 z0 w0 y0 x0 v1 z1 w1 y1 x1 W rfl).mono fun e W' ⟨he, bel⟩ => ?_
  subst he
  exact ⟨_, rfl, _, _, _, [], _, [], hW', trodAll_mk1 (shut_bool Try.underlying4 _), (trodAll_cons_mk (Below.trod laidOut (by kernel_rfl) (of_decide_eq_true (by kernel_rfl)) k0 bel lt0) (trodAll_cons_mk (Below.trod laidOut (by kernel_rfl) (of_decide_eq_true (by kernel_rfl)) k1 bel lt1) trodAll_mk0)), rfl, bel.frame _, fun h => by cases h⟩

theorem over : Rows.rowsSortsRow.holds Try.pinned (OpenSpec.ofChange Rows.rowsSortsSpec) :=
  OpenClaim.holds_of_wide 8 Try.f8 rfl rfl rfl rfl rfl rfl rfl ⟨rfl, rfl, rfl, rfl, rfl⟩ rfl rfl rfl rfl rfl (by kernel_rfl) Try.func8 (by kernel_rfl)
    (of_decide_eq_true (by kernel_rfl)) (by unfold Func.isWrapper; first | (rw [if_pos (by decide +kernel)]; kernel_rfl) | (rw [if_neg (by decide +kernel)]; exact ⟨rfl, rfl⟩))
    (fun os started H enc _ => lifted os started H enc)

theorem proved : Rows.RowsSortsSaid := over
end Go.Proofs.Ytehkjgnhjhdclaa.rowsSorts
namespace Go.Proofs.Ytehkjgnhjhdclaa
theorem rowsSorts_holds : Rows.RowsSortsSaid := rowsSorts.proved
#print axioms rowsSorts_holds
end Go.Proofs.Ytehkjgnhjhdclaa
