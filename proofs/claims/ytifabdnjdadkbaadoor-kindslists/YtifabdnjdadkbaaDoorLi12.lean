
/-
  Some names are known.
-/
import Derived.Test.YtifabdnjdadkbaaDoorWd12
namespace Go.Proofs.YtifabdnjdadkbaaDoor
open Go.RowKit
attribute [local go_sem ↓] Go.wp_at_zero Go.wp_at_succ
namespace KD
theorem fneq (k : FuncId) (W : World) : (binOp .neq 53 (.func (.func k) #[] #[]) .nilFunc).run Tryd.prog W = .ok (.bool true) W := by kernel_rfl
theorem feql (k : FuncId) (W : World) : (binOp .eql 53 (.func (.func k) #[] #[]) .nilFunc).run Tryd.prog W = .ok (.bool false) W := by kernel_rfl
theorem fnd_cards : fnd fieldsL ⟨#[99, 97, 114, 100, 115]⟩ = some 10 := by decide +kernel
theorem fnd_shuffle : fnd effectsL ⟨#[115, 104, 117, 102, 102, 108, 101]⟩ = some 8 := by decide +kernel
theorem wd_draw : wd ⟨#[100, 114, 97, 119]⟩ = true := by decide +kernel
set_option maxRecDepth 100000 in
set_option maxHeartbeats 8000000 in
theorem lives_ (w : World) : Calls Tryd.prog 12 #[] w fun e w' => e = .returned (.bool true) ∧ Up w w' := by
  obtain ⟨Post, hPost⟩ : ∃ P : Ending → World → Prop, P = fun e w' => e = .returned (.bool true) ∧ Up w w' := ⟨_, rfl⟩
  rw [← hPost]
  have HP : Hid (∀ W, Up w W → Post (.returned (.bool true)) W) := fun W h => by rw [hPost]; exact ⟨rfl, h⟩
  clear hPost
  have HF : Hid (Calls Tryd.prog 50 #[.string ⟨#[99, 97, 114, 100, 115]⟩] w fun e w' => ∃ g, e = .returned (.tuple #[.int .i64 10, .agg #[.string ⟨#[99, 97, 114, 100, 115]⟩, .slice (some ⟨g, 0, none⟩) 1 1, .int .i8 6, .func (.func 28) #[] #[]], .bool true]) ∧ Up w w') := (field_ _ w).mono fun e w' ⟨h1, h2⟩ => by
    unfold FdR at h1
    rw [fnd_cards] at h1
    obtain ⟨g, h1, _⟩ := h1
    exact ⟨g, h1, h2⟩
  have HE : Hid (∀ W, Calls Tryd.prog 51 #[.string ⟨#[115, 104, 117, 102, 102, 108, 101]⟩] W fun e w' => ∃ g, e = .returned (.tuple #[.int .i64 8, .agg #[.string ⟨#[115, 104, 117, 102, 102, 108, 101]⟩, .slice (some ⟨g, 0, none⟩) 1 1, .int .i8 0, .func (.func 28) #[] #[]], .bool true]) ∧ Up W w') := fun W => (effect_ _ W).mono fun e w' ⟨h1, h2⟩ => by
    unfold FdR at h1
    rw [fnd_shuffle] at h1
    obtain ⟨g, h1, _⟩ := h1
    exact ⟨g, h1, h2⟩
  have HG : Hid (∀ W, Calls Tryd.prog 28 #[.int .i64 7] W fun e w' => e = .returned (.int .i64 8) ∧ w' = W) := fun W => each_ 7 W
  have HW : Hid (∀ W, Calls Tryd.prog 19 #[.string ⟨#[100, 114, 97, 119]⟩] W fun e w' => e = .returned (.bool true) ∧ w' = W) := fun W => by
    have h9 := word_ ⟨#[100, 114, 97, 119]⟩ W
    rw [wd_draw] at h9
    exact h9
  have HL : Hid (∀ W, Calls Tryd.prog 21 #[] W fun e w' => ∃ b, e = .returned (.slice (some ⟨b, 0, none⟩) 9 9) ∧ Up W w') := fun W => (funcs_ W).mono fun e w' ⟨h1, h2⟩ => ⟨_, h1, by rw [h2]; exact allocs_up _ _⟩
  have hfn := fneq 28
  go_enter Tryd.func12, Tryd.ntmps12
  go_wp2_with fail
  refine HF.out.mono ?_
  rintro r W1 ⟨g, rfl, u1⟩
  have HU : Hid (Up w W1) := u1
  clear u1 HF
  go_wp2_with fail
  refine (HE.out _).mono ?_
  rintro r W2 ⟨g2, rfl, u2⟩
  have HU2 : Hid (Up w W2) := (HU.out.alloc _).trans u2
  have g0 := u2.heap (heap_alloc_new W1 (.cells #[.string ⟨#[99, 97, 114, 100, 115]⟩, .slice (some ⟨g, 0, none⟩) 1 1, .int .i8 6, .func (.func 28) #[] #[]] 55))
  have u3 : Up W2 (W2.alloc (.cells #[.string ⟨#[115, 104, 117, 102, 102, 108, 101]⟩, .slice (some ⟨g2, 0, none⟩) 1 1, .int .i8 0, .func (.func 28) #[] #[]] 55)) := (Up.refl _).alloc _
  obtain ⟨p, hp⟩ : ∃ p, p = W1.heap.size := ⟨_, rfl⟩
  rw [← hp] at g0
  have g1 := u3.heap g0
  have HU3 : Hid (Up w (W2.alloc (.cells #[.string ⟨#[115, 104, 117, 102, 102, 108, 101]⟩, .slice (some ⟨g2, 0, none⟩) 1 1, .int .i8 0, .func (.func 28) #[] #[]] 55))) := HU2.out.trans u3
  have x2 : (W2.alloc (.cells #[.string ⟨#[115, 104, 117, 102, 102, 108, 101]⟩, .slice (some ⟨g2, 0, none⟩) 1 1, .int .i8 0, .func (.func 28) #[] #[]] 55)).cell? ⟨p, 2, none⟩ = some (.int .i8 6) := by simp [World.cell?, g1]
  have x3 : (W2.alloc (.cells #[.string ⟨#[115, 104, 117, 102, 102, 108, 101]⟩, .slice (some ⟨g2, 0, none⟩) 1 1, .int .i8 0, .func (.func 28) #[] #[]] 55)).cell? ⟨p, 3, none⟩ = some (.func (.func 28) #[] #[]) := by simp [World.cell?, g1]
  clear u2 u3 g0 g1 HE HU HU2
  rw [← hp]
  clear hp
  go_wp2_with fail
  refine (HG.out _).mono ?_
  rintro r W3 ⟨rfl, hw⟩
  obtain rfl := hw.symm
  clear hw HG
  go_wp2_with fail
  refine (HW.out _).mono ?_
  rintro r W3 ⟨rfl, hw⟩
  obtain rfl := hw.symm
  clear hw HW
  go_wp2_with fail
  refine (HL.out _).mono ?_
  rintro r W3 ⟨b, rfl, u⟩
  have HU4 : Hid (Up w W3) := HU3.out.trans u
  clear u HU3 x2 x3
  go_wp2_with fail
  exact HP.out _ HU4.out
end KD
end Go.Proofs.YtifabdnjdadkbaaDoor
