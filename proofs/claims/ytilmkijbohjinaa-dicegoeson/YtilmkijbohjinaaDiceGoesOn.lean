/- The law DiceGoesOn returns true for every seed and every k: the draws of a seed are the first draws of the seeds that follow; no conditions. -/
import Derived.Test.YtilmkijbohjinaaRows
import Derived.WalkKit
import Derived.ProofKit
import Derived.OpenShut
import Derived.Test.YtilmkijbohjinaaLive
import Derived.Below
import Derived.ChangeOld
import Derived.Deep.RegionHeld3
namespace Go.Proofs.Ytilmkijbohjinaa.diceGoesOn
open Go.ChangeShapes Go.WideShapes Go.ChangeAt Go.RowKit
set_option linter.unusedVariables false      -- a walk need not use every 'w<i>' (that an integer argument fits its kind)

theorem own : ownKnob Try.prog.godebug = none := by kernel_rfl

theorem walkLow (s : Nat) (k : Int) (w : World) (h : k < 0 ∨ 300 < k) :
    Calls Try.prog 5 #[.int .u64 s, .int .i64 k] w fun e w' => e = .returned (.bool true) ∧ Up w w' := by
  rcases h with h | h
  · go_enter Try.func5, Try.ntmps5
    go_wp2_with fail
    refine (lives _).mono ?_
    rintro e w5 ⟨rfl, u5⟩
    go_wp2
    go_ret
    exact ⟨rfl, u5⟩
  · have h0 : ¬ k < 0 := by omega
    go_enter Try.func5, Try.ntmps5
    go_wp2_with fail
    refine (lives _).mono ?_
    rintro e w5 ⟨rfl, u5⟩
    go_wp2
    go_ret
    exact ⟨rfl, u5⟩
theorem far (s i : Nat) : IntKind.u64.wrap ((s : Int) + IntKind.u64.wrap ((i : Int) * 11400714819323198485)) = (((s + i * 11400714819323198485) % 18446744073709551616 : Nat) : Int) := by
  rw [IntKind.wrap_u64, IntKind.wrap_u64]; omega
def pl (s i : Nat) : Nat := (s + i * 11400714819323198485) % 18446744073709551616
theorem pl_step (s i : Nat) : stp (pl s i) = pl s (i + 1) := by
  unfold stp pl; omega
attribute [irreducible] pl
set_option maxHeartbeats 1000000 in
theorem walkUp (s n : Nat) (w : World) (hs : s < 18446744073709551616) (hn : n ≤ 300) :
    Calls Try.prog 5 #[.int .u64 s, .int .i64 n] w fun e w' => e = .returned (.bool true) ∧ Up w w' := by
  go_enter Try.func5, Try.ntmps5
  go_wp2_with fail
  refine (new s w).mono ?_
  rintro e w1 ⟨rfl, rfl⟩
  have HD : Hid (Die (w.alloc (.cells #[.int .u64 s, .bool true] 55)) w.heap.size (pl s 0) ∧ Up w (w.alloc (.cells #[.int .u64 s, .bool true] 55))) := by
    refine ⟨?_, (Up.refl w).alloc _⟩
    have : pl s 0 = s := by unfold pl; omega
    rw [this]
    exact Die.new w s
  unfold dieA
  go_wp2_with fail
  go_loopw [6] (fun i wr => ∃ k : Nat, k ≤ n + 1 ∧ i = .int .i64 k ∧ Die wr w.heap.size (pl s k) ∧ Up w wr) (fun i _ => n + 1 - (intOf i).toNat)
  case atStart => exact ⟨0, Nat.zero_le _, rfl, HD.out⟩
  case round =>
    obtain ⟨k, hk, rfl, hd, hu⟩ := hrel
    clear HD
    by_cases hlt : k ≤ n
    · have hki : (k : Int) ≤ (n : Int) := by omega
      have e1 : IntKind.u64.wrap (k : Int) = (k : Int) := wrapN k (by omega)
      have e2 : IntKind.u64.wrap ((s : Int) + IntKind.u64.wrap ((k : Int) * 11400714819323198485)) = ((pl s k : Nat) : Int) := by unfold pl; exact far s k
      have HD : Hid (Die wr w.heap.size (pl s k) ∧ Up w wr) := ⟨hd, hu⟩
      clear hd
      go_wp2_with fail
      refine (new (pl s k) wr).mono ?_
      rintro e w2 ⟨rfl, rfl⟩
      have d2 := Die.new wr (pl s k)
      have d1 := HD.out.1.up ((Up.refl wr).alloc (.cells #[.int .u64 (pl s k : Nat), .bool true] 55))
      have u2 := HD.out.2.alloc (.cells #[.int .u64 (pl s k : Nat), .bool true] 55)
      have hsz := HD.out.2.size
      have hne : w.heap.size ≠ wr.heap.size := by have := (Array.getElem?_eq_some_iff.1 HD.out.1).1; omega
      clear HD
      generalize wr.alloc (.cells #[.int .u64 (pl s k : Nat), .bool true] 55) = W2 at *
      unfold dieA
      go_wp2_with fail
      refine (next wr.heap.size (pl s k) _ d2).mono ?_
      rintro e w3 ⟨rfl, rfl⟩
      have d3 : Die (W2.setCell ⟨wr.heap.size, 0, none⟩ (.int .u64 (stp (pl s k) : Nat))) w.heap.size (pl s k) := by
        unfold Die; rw [Below.heap_setCell _ _ _ _ hne]; exact d1
      have u3 := up_fresh u2 hsz 0 (.int .u64 (stp (pl s k) : Nat))
      clear d1 d2 u2
      generalize W2.setCell ⟨wr.heap.size, 0, none⟩ (.int .u64 (stp (pl s k) : Nat)) = W3 at *
      go_wp2_with fail
      refine (next w.heap.size (pl s k) _ d3).mono ?_
      rintro e w4 ⟨rfl, rfl⟩
      have d4 := d3.set (stp (pl s k))
      have u4 := up_fresh u3 (Nat.le_refl _) 0 (.int .u64 (stp (pl s k) : Nat))
      generalize hX : mx (stp (pl s k)) = x at *
      rw [pl_step] at d4 u4 ⊢
      clear d3 u3 hX
      generalize W3.setCell ⟨w.heap.size, 0, none⟩ (.int .u64 (pl s (k + 1) : Nat)) = W4 at *
      have e3 : ((x : Int) == (x : Int)) = true := by simp
      go_wp2
      go_roundw
      case rel => first | exact ⟨k + 1, by omega, by go_num, d4, u4⟩ | ((repeat apply Exists.intro); exact ⟨⟨k + 1, by omega, by go_num, d4, u4⟩, rfl⟩)
      case measure => simp [intOf]; omega
    · have hki : ¬ (k : Int) ≤ (n : Int) := by omega
      clear hd
      go_wp2_with fail
      refine (lives _).mono ?_
      rintro e w5 ⟨rfl, u5⟩
      go_wp2
      go_ret
      exact ⟨rfl, hu.trans u5⟩
theorem walk (a0 : Int) (a1 : Int) (w0 : (Lit.int .u64 a0).wf = true) (w1 : (Lit.int .i64 a1).wf = true) (w : World) :
    Calls Try.prog 5 #[.int .u64 a0, .int .i64 a1] w fun e w' => e = .returned (.bool true) ∧ Below w.heap.size w w' := by
  obtain ⟨x1, x2⟩ := bounds_u64 w0
  obtain ⟨a, rfl⟩ := Int.eq_ofNat_of_zero_le x1
  by_cases h : a1 < 0 ∨ 300 < a1
  · exact walkLow a a1 w h
  · obtain ⟨n, rfl⟩ := Int.eq_ofNat_of_zero_le (show 0 ≤ a1 by omega)
    exact walkUp a n w (by omega) (by omega)

set_option maxRecDepth 100000 in
theorem lifted (os : Os) (started : os.Started) (H : Type) (enc : TypeId × Value → H) :
    ReturnsInHanded {} Try.checked os 5 .any (Rows.diceGoesOnSpec.pre6 enc Try.prog Try.f5 Rows.diceGoesOnRow.domain false) (Rows.diceGoesOnSpec.post enc Try.prog Try.f5 false true false false) := by
  refine returnsInHanded_of_change (C := Try.checked) own started (by kernel_rfl) Try.func5
    (ChangeSpec.witness6 (enc := enc) (C := Try.checked) false ⟨#[], #[.int .u64 0, .int .i64 0], []⟩ 8 (by kernel_rfl) (by kernel_rfl) (by kernel_rfl) (by kernel_rfl)) ?_
  intro W base args ds gs before hval0 hW hcnd _
  have hval : ∀ (j : Nat) t v, Try.f5.params[j]? = some t → args[j]? = some v → Value.okWide Try.prog W .any base t v := hval0
  have hW' := hW
  obtain ⟨p, q, hA0, hV, rfl, hfz, hnd⟩ := hW
  have hA : DataW.TrodAll enc Try.prog W 0 (fun _ => true) true Try.f5.params.toList args.toList ds p := hA0
  rw [Try.params5] at hA hval
  obtain ⟨v0, vs0, d0, ds0, p0, q0, hargs, rfl, rfl, h0, r0⟩ := trodAll_cons hA
  obtain ⟨v1, vs1, d1, ds1, p1, q1, rfl, rfl, rfl, h1, r1⟩ := trodAll_cons r0
  obtain ⟨rfl, rfl, rfl⟩ := trodAll_nil r1
  obtain rfl : args = #[v0, v1] := by cases args; simp_all
  obtain ⟨rfl, rfl⟩ := trodVars_none hV
  obtain ⟨a0, rfl, rfl, rfl, w0⟩ := open_int Try.underlying22 (hval 0 22 v0 rfl rfl) h0
  obtain ⟨a1, rfl, rfl, rfl, w1⟩ := open_int Try.underlying3 (hval 1 3 v1 rfl rfl) h1
  clear hA0 hval0
  simp only [List.append_nil] at hW'
  refine (walk a0 a1 w0 w1 W).mono fun e W' ⟨he, hg⟩ => ?_
  subst he
  exact ⟨_, rfl, _, _, _, [], _, [], hW', (trodAll_cons_mk (shut_bool Try.underlying4 _) trodAll_mk0), (trodAll_cons_mk (shut_int Try.underlying22 w0) (trodAll_cons_mk (shut_int Try.underlying3 w1) trodAll_mk0)), rfl, Below.frame hg _, fun h => by cases h⟩

theorem over : Rows.diceGoesOnRow.holds Try.pinned (OpenSpec.ofChange Rows.diceGoesOnSpec) :=
  OpenClaim.holds_of_wide 5 Try.f5 rfl rfl rfl rfl rfl rfl rfl ⟨rfl, rfl, rfl, rfl, rfl⟩ rfl rfl rfl rfl rfl (by kernel_rfl) Try.func5 (by kernel_rfl)
    (of_decide_eq_true (by kernel_rfl)) (by unfold Func.isWrapper; first | (rw [if_pos (by decide +kernel)]; kernel_rfl) | (rw [if_neg (by decide +kernel)]; exact ⟨rfl, rfl⟩))
    (fun os started H enc _ => lifted os started H enc)

theorem proved : Rows.DiceGoesOnSaid :=
  over
end Go.Proofs.Ytilmkijbohjinaa.diceGoesOn
namespace Go.Proofs.Ytilmkijbohjinaa
theorem diceGoesOn_holds : Rows.DiceGoesOnSaid := diceGoesOn.proved
#print axioms diceGoesOn_holds
end Go.Proofs.Ytilmkijbohjinaa
