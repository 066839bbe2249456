/- The law DiceBelow returns true for every seed and every n: a number below n is one, it is the draw's share of n, cut, and a share is from 0 to below 1 and made of 53 bits; no conditions. -/
import Derived.Test.YtilmkijbohjinaaRows
import Derived.WalkKit
import Derived.ProofKit
import Derived.OpenShut
import Derived.Test.YtilmkijbohjinaaLive
import Derived.Below
import Derived.ChangeOld
import Derived.Deep.RegionHeld3
namespace Go.Proofs.Ytilmkijbohjinaa.diceBelow
open Go.ChangeShapes Go.WideShapes Go.ChangeAt Go.RowKit
set_option linter.unusedVariables false      -- a walk need not use every 'w<i>' (that an integer argument fits its kind)

theorem own : ownKnob Try.prog.godebug = none := by kernel_rfl

set_option maxHeartbeats 1000000 in
theorem walkLow (s : Nat) (n : Int) (w : World) (h : n < 1) :
    Calls Try.prog 6 #[.int .u64 s, .int .i64 n] w fun e w' => e = .returned (.bool true) ∧ Up w w' := by
  have e1 : (((mx (stp s) : Nat) : Int) == ((mx (stp s) : Nat) : Int)) = true := by simp
  go_enter Try.func6, Try.ntmps6
  go_wp2_with fail
  refine (new s w).mono ?_
  rintro e w1 ⟨rfl, rfl⟩
  have d1 := Die.new w s
  have u1 := (Up.refl w).alloc (.cells #[.int .u64 s, .bool true] 55)
  unfold dieA
  generalize w.alloc (.cells #[.int .u64 s, .bool true] 55) = W1 at *
  go_wp2_with fail
  refine (next w.heap.size s _ d1).mono ?_
  rintro e w2 ⟨rfl, rfl⟩
  have u2 := up_fresh u1 (Nat.le_refl _) 0 (.int .u64 (stp s : Nat))
  generalize W1.setCell ⟨w.heap.size, 0, none⟩ (.int .u64 (stp s : Nat)) = W2 at *
  clear d1 u1
  go_wp2_with fail
  refine (new s W2).mono ?_
  rintro e w3 ⟨rfl, rfl⟩
  have d3 := Die.new W2 s
  have u3 := u2.alloc (.cells #[.int .u64 s, .bool true] 55)
  have hsz := u2.size
  unfold dieA
  generalize W2.alloc (.cells #[.int .u64 s, .bool true] 55) = W3 at *
  generalize W2.heap.size = b at *
  go_wp2_with fail
  refine (below0 b n _ h).mono ?_
  rintro e w4 ⟨rfl, rfl⟩
  go_wp2_with fail
  refine (next b s _ d3).mono ?_
  rintro e w5 ⟨rfl, rfl⟩
  have u5 := up_fresh u3 hsz 0 (.int .u64 (stp s : Nat))
  generalize w4.setCell ⟨b, 0, none⟩ (.int .u64 (stp s : Nat)) = W5 at *
  go_wp2_with fail
  refine (lives _).mono ?_
  rintro e w6 ⟨rfl, u6⟩
  go_wp2
  go_ret
  exact ⟨rfl, u5.trans u6⟩
set_option maxHeartbeats 2000000 in
theorem walkUp (s n : Nat) (w : World) (h1 : 1 ≤ n) (h2 : n < 9223372036854775808) :
    Calls Try.prog 6 #[.int .u64 s, .int .i64 n] w fun e w' => e = .returned (.bool true) ∧ Up w w' := by
  have hm := mx_lt (stp s)
  obtain ⟨q, hqe⟩ : ∃ q, q = mx (stp s) / 2048 := ⟨_, rfl⟩
  have hq : q < 9007199254740992 := by omega
  have eq1 : ((mx (stp s) : Nat) : Int) / 2048 = (q : Int) := by omega
  have HS : Hid (shr s = share q) := by unfold Hid shr; rw [hqe]
  have hkb := hiP_below (x := mx (stp s)) (y := n) hm (by omega)
  have HQ : Hid (q < 9007199254740992) := hq
  clear hqe
  have hmul := fun (w : World) (t : TypeId) => run_float_arith (P := Try.prog) w .mul t .f64 _ _ _ (mul53 q hq)
  have hcnv := fun (w : World) => run_convert_float_int (P := Try.prog) w 48 22 .f64 .u64 _ _ rfl Try.underlying22 (whole q hq)
  have hsame := flt_same q hq
  have hpos := share_pos q hq
  have hone := share_one q hq
  have hfl : floatOfInt .f64 (q : Int) = flt q := rfl
  unfold two53 at hmul
  generalize flt q = fq at *
  have e2 : ((Ieee.double.order fq fq) == some .eq) = true := by rw [hsame]; rfl
  clear hsame
  generalize share q = sq at *
  have e3 : IntKind.u64.wrap (n : Int) = (n : Int) := wrapN n (by omega)
  obtain ⟨k, hk⟩ : ∃ k, k = hiP (mx (stp s)) n := ⟨_, rfl⟩
  rw [← hk] at hkb
  have HK : Hid (hiP (mx (stp s)) n = k) := hk.symm
  clear hk
  have e4 : IntKind.i64.wrap (k : Int) = (k : Int) := IntWalk.i64_in _ ⟨by omega, by omega⟩
  have e5 : ((k : Int) == (k : Int)) = true := by simp
  have e6 : ((q : Int) == (q : Int)) = true := by simp
  have e7 : (k : Int) < (n : Int) := by omega
  go_enter Try.func6, Try.ntmps6
  go_wp2_with fail
  refine (new s w).mono ?_
  rintro e w1 ⟨rfl, rfl⟩
  have d1 := Die.new w s
  have u1 := (Up.refl w).alloc (.cells #[.int .u64 s, .bool true] 55)
  unfold dieA
  generalize w.alloc (.cells #[.int .u64 s, .bool true] 55) = W1 at *
  go_wp2_with fail
  refine (next w.heap.size s _ d1).mono ?_
  rintro e w2 ⟨rfl, rfl⟩
  have u2 := up_fresh u1 (Nat.le_refl _) 0 (.int .u64 (stp s : Nat))
  generalize W1.setCell ⟨w.heap.size, 0, none⟩ (.int .u64 (stp s : Nat)) = W2 at *
  clear d1 u1
  go_wp2_with fail
  refine (new s W2).mono ?_
  rintro e w3 ⟨rfl, rfl⟩
  have d3 := Die.new W2 s
  have u3 := u2.alloc (.cells #[.int .u64 s, .bool true] 55)
  have hsz := u2.size
  unfold dieA
  generalize W2.alloc (.cells #[.int .u64 s, .bool true] 55) = W3 at *
  generalize W2.heap.size = b at *
  go_wp2_with fail
  refine (below b s n _ d3 h1 h2).mono ?_
  rintro e w4 ⟨rfl, rfl⟩
  rw [HK.out]
  have u4 := up_fresh u3 hsz 0 (.int .u64 (stp s : Nat))
  generalize W3.setCell ⟨b, 0, none⟩ (.int .u64 (stp s : Nat)) = W4 at *
  clear d3 u3 u2
  go_wp2_with fail
  refine (product (mx (stp s)) n hm (by omega) _).mono ?_
  rintro e w5 ⟨rfl, rfl⟩
  rw [HK.out]
  generalize loP (mx (stp s)) n = lo at *
  go_wp2_with fail
  refine (new s w5).mono ?_
  rintro e w6 ⟨rfl, rfl⟩
  have d6 := Die.new w5 s
  have u6 := u4.alloc (.cells #[.int .u64 s, .bool true] 55)
  have hsz6 := u4.size
  unfold dieA
  generalize w5.alloc (.cells #[.int .u64 s, .bool true] 55) = W6 at *
  generalize w5.heap.size = b6 at *
  go_wp2_with fail
  refine (shareD b6 s _ d6).mono ?_
  rintro e w7 ⟨rfl, rfl⟩
  rw [HS.out]
  have u7 := up_fresh u6 hsz6 0 (.int .u64 (stp s : Nat))
  generalize W6.setCell ⟨b6, 0, none⟩ (.int .u64 (stp s : Nat)) = W7 at *
  clear d6 u6 u4
  generalize mx (stp s) = x at *
  have hpos' : (FloatKind.f64.format.order sq 0 == some .gt || FloatKind.f64.format.order sq 0 == some .eq) = true := hpos
  have hone' : (FloatKind.f64.format.order sq 4607182418800017408 == some .lt) = true := hone
  have e2' : (FloatKind.f64.format.order fq fq == some .eq) = true := e2
  go_wp2_with fail
  refine (lives _).mono ?_
  rintro e w8 ⟨rfl, u8⟩
  go_wp2
  go_ret
  exact ⟨rfl, u7.trans u8⟩
theorem walk (a0 : Int) (a1 : Int) (w0 : (Lit.int .u64 a0).wf = true) (w1 : (Lit.int .i64 a1).wf = true) (w : World) :
    Calls Try.prog 6 #[.int .u64 a0, .int .i64 a1] w fun e w' => e = .returned (.bool true) ∧ Below w.heap.size w w' := by
  obtain ⟨x1, x2⟩ := bounds_u64 w0
  obtain ⟨y1, y2⟩ := bounds_i64 w1
  obtain ⟨a, rfl⟩ := Int.eq_ofNat_of_zero_le x1
  by_cases h : a1 < 1
  · exact walkLow a a1 w h
  · obtain ⟨n, rfl⟩ := Int.eq_ofNat_of_zero_le (show 0 ≤ a1 by omega)
    exact walkUp a n w (by omega) (by omega)

set_option maxRecDepth 100000 in
theorem lifted (os : Os) (started : os.Started) (H : Type) (enc : TypeId × Value → H) :
    ReturnsInHanded {} Try.checked os 6 .any (Rows.diceBelowSpec.pre6 enc Try.prog Try.f6 Rows.diceBelowRow.domain false) (Rows.diceBelowSpec.post enc Try.prog Try.f6 false true false false) := by
  refine returnsInHanded_of_change (C := Try.checked) own started (by kernel_rfl) Try.func6
    (ChangeSpec.witness6 (enc := enc) (C := Try.checked) false ⟨#[], #[.int .u64 0, .int .i64 0], []⟩ 8 (by kernel_rfl) (by kernel_rfl) (by kernel_rfl) (by kernel_rfl)) ?_
  intro W base args ds gs before hval0 hW hcnd _
  have hval : ∀ (j : Nat) t v, Try.f6.params[j]? = some t → args[j]? = some v → Value.okWide Try.prog W .any base t v := hval0
  have hW' := hW
  obtain ⟨p, q, hA0, hV, rfl, hfz, hnd⟩ := hW
  have hA : DataW.TrodAll enc Try.prog W 0 (fun _ => true) true Try.f6.params.toList args.toList ds p := hA0
  rw [Try.params6] at hA hval
  obtain ⟨v0, vs0, d0, ds0, p0, q0, hargs, rfl, rfl, h0, r0⟩ := trodAll_cons hA
  obtain ⟨v1, vs1, d1, ds1, p1, q1, rfl, rfl, rfl, h1, r1⟩ := trodAll_cons r0
  obtain ⟨rfl, rfl, rfl⟩ := trodAll_nil r1
  obtain rfl : args = #[v0, v1] := by cases args; simp_all
  obtain ⟨rfl, rfl⟩ := trodVars_none hV
  obtain ⟨a0, rfl, rfl, rfl, w0⟩ := open_int Try.underlying22 (hval 0 22 v0 rfl rfl) h0
  obtain ⟨a1, rfl, rfl, rfl, w1⟩ := open_int Try.underlying2 (hval 1 2 v1 rfl rfl) h1
  clear hA0 hval0
  simp only [List.append_nil] at hW'
  refine (walk a0 a1 w0 w1 W).mono fun e W' ⟨he, hg⟩ => ?_
  subst he
  exact ⟨_, rfl, _, _, _, [], _, [], hW', (trodAll_cons_mk (shut_bool Try.underlying4 _) trodAll_mk0), (trodAll_cons_mk (shut_int Try.underlying22 w0) (trodAll_cons_mk (shut_int Try.underlying2 w1) trodAll_mk0)), rfl, Below.frame hg _, fun h => by cases h⟩

theorem over : Rows.diceBelowRow.holds Try.pinned (OpenSpec.ofChange Rows.diceBelowSpec) :=
  OpenClaim.holds_of_wide 6 Try.f6 rfl rfl rfl rfl rfl rfl rfl ⟨rfl, rfl, rfl, rfl, rfl⟩ rfl rfl rfl rfl rfl (by kernel_rfl) Try.func6 (by kernel_rfl)
    (of_decide_eq_true (by kernel_rfl)) (by unfold Func.isWrapper; first | (rw [if_pos (by decide +kernel)]; kernel_rfl) | (rw [if_neg (by decide +kernel)]; exact ⟨rfl, rfl⟩))
    (fun os started H enc _ => lifted os started H enc)

theorem proved : Rows.DiceBelowSaid :=
  over
end Go.Proofs.Ytilmkijbohjinaa.diceBelow
namespace Go.Proofs.Ytilmkijbohjinaa
theorem diceBelow_holds : Rows.DiceBelowSaid := diceBelow.proved
#print axioms diceBelow_holds
end Go.Proofs.Ytilmkijbohjinaa
