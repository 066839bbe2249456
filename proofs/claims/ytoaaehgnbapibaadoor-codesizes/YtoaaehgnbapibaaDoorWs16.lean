
/-
  CodeSizes: the law's walk.
-/
import Derived.Test.YtoaaehgnbapibaaDoorWr16
namespace Go.Proofs.YtoaaehgnbapibaaDoor
open Go.RowKit
attribute [local go_sem ↓] Go.wp_at_zero Go.wp_at_succ
namespace CD
set_option maxRecDepth 100000 in
set_option maxHeartbeats 8000000 in
theorem sizes_ (W : World) (hT : TabP W) : Calls Tryd.prog 3 #[] W fun e w' => e = .returned (.bool true) ∧ Up W w' := by
  obtain ⟨Post, hPost⟩ : ∃ P : Ending → World → Prop, P = fun e w' => e = .returned (.bool true) ∧ Up W w' := ⟨_, rfl⟩
  rw [← hPost]
  have HPo : Hid (Post = fun e w' => e = .returned (.bool true) ∧ Up W w') := hPost
  clear hPost
  have HTP : Hid (TabP W) := hT
  clear hT
  go_enter Tryd.func3, Tryd.ntmps3
  go_wp2_with fail
  go_loopw [1] (fun s1 V => ∃ i : Nat, i ≤ 256 ∧ s1 = .int .i64 (i : Int) ∧ Up W V) (fun s1 _ => 256 - (intOf s1).toNat)
  case atStart => exact ⟨0, by omega, rfl, Up.refl _⟩
  case round =>
    obtain ⟨i, hi, rfl, hup⟩ := hrel
    have HU : Hid (Up W wr) := hup
    clear hup
    by_cases hlt : i < 256
    · have hlt2 : (i : Int) < 256 := by omega
      have ei : IntKind.u8.wrap (i : Int) = (i : Int) := by rw [IntKind.wrap_u8]; omega
      have en : IntKind.i64.wrap ((i : Int) + 1) = ((i + 1 : Nat) : Int) := by rw [IntKind.wrap_i64]; omega
      have H1 : Hid _ := Size_ i hlt wr
      go_wp2_with fail
      refine Calls.mono H1.out ?_
      rintro e1 W1 ⟨rfl, u1⟩
      have H2 : Hid _ := rSize_ i hlt W1
      go_wp2_with fail
      refine Calls.mono H2.out ?_
      rintro e1 W2 ⟨rfl, u2⟩
      generalize siz (knd i) = sz
      have H3 : Hid _ := Name_ i hlt W2
      go_wp2_with fail
      refine Calls.mono H3.out ?_
      rintro e1 W3 ⟨rfl, u3⟩
      have H4 : Hid _ := rName_ i hlt W3
      go_wp2_with fail
      refine Calls.mono H4.out ?_
      rintro e1 W4 ⟨rfl, u4⟩
      generalize strOfNums (nam i) = s
      have HU4 : Hid (Up W W4) := HU.out.trans (u1.trans (u2.trans (u3.trans u4)))
      clear H1 H2 H3 H4 u1 u2 u3 u4
      go_wp2_with fail
      go_roundw
      case rel => exact ⟨i + 1, by omega, by first | rfl | go_num, HU4.out⟩
      case measure => simp [intOf]; omega
    · have hlt2 : ¬ (i : Int) < 256 := by omega
      have HW : Hid _ := works_ wr (HTP.out.up HU.out)
      go_wp2_with fail
      refine Calls.mono HW.out ?_
      rintro e1 W5 ⟨rfl, u5⟩
      go_wp2_with fail
      rw [HPo.out]
      exact ⟨rfl, HU.out.trans u5⟩
end CD
end Go.Proofs.YtoaaehgnbapibaaDoor
