
/-
  A short source is cut.
-/
import Derived.Test.YtjjikeehifndhaaDoorEt8
import Derived.Lib.SlBytesConst
namespace Go.Proofs.YtjjikeehifndhaaDoor
open Go.RowKit
attribute [local go_sem ↓] Go.wp_at_zero Go.wp_at_succ
namespace TK
def sA : List Int := [99, 97, 114, 100, 32, 34, 70, 111, 120, 34]
def sB : List Int := [97, 32, 35, 32, 98]
def sW : List Tok := [⟨1, [99, 97, 114, 100], 0, 0⟩, ⟨3, [70, 111, 120], 0, 5⟩, ⟨0, [], 0, 10⟩]
theorem sA_cut : cuL sA = sW ∧ cuE sA = 0 ∧ cuA sA = 0 := by decide +kernel
theorem sB_cut : cuE sB = 21 ∧ cuA sB = 2 := by decide +kernel
theorem sA_byt : Byt sA := by unfold Byt; decide
theorem sB_byt : Byt sB := by unfold Byt; decide
theorem bl_const (W : World) (l : List Int) (k : Nat) : BL (W.alloc (.cells (bvs l).toArray 5 (k, k + 1))) (.slice (some ⟨W.heap.size, 0, none⟩) l.length l.length) l := by
  refine ⟨by simp [bvs], _, _, rfl, Nat.le_refl _, fun _ => ⟨W.heap.size, 0, rfl, fun j _ => ?_⟩⟩
  rw [World.cell?_alloc_mark]
  simp
theorem tl_want (W : World) : TLs (W.alloc (.cells #[.int .i8 1, .string ⟨#[99, 97, 114, 100]⟩, .int .i64 0, .int .i64 0, .int .i8 3, .string ⟨#[70, 111, 120]⟩, .int .i64 0, .int .i64 5, .int .i8 0, .string ⟨#[]⟩, .int .i64 0, .int .i64 10] 63)) (.slice (some ⟨W.heap.size, 0, none⟩) 3 3) sW :=
  lc_row (cs := tvs sW) (heap_alloc_new W _) rfl 3 (Nat.le_refl _)
set_option maxRecDepth 100000 in
set_option maxHeartbeats 8000000 in
theorem works_ (w : World) (her : ER w) : Calls Tryd.prog 19 #[] w fun e w' => e = .returned (.bool true) ∧ Up w w' := by
  obtain ⟨Post, hPost⟩ : ∃ P : Ending → World → Prop, P = fun e w' => e = .returned (.bool true) ∧ Up w w' := ⟨_, rfl⟩
  rw [← hPost]
  have HPo : Hid (Post = fun e w' => e = .returned (.bool true) ∧ Up w w') := hPost
  clear hPost
  have kc := fun (w : World) (C : Array Value) (n c : Nat) => Lib.run_convert_bytes_const (P := Tryd.prog) w 22 5 C n c Tryd.underlying22 Tryd.underlying5
  have HA : Hid (∀ W, ER W → Calls Tryd.prog 11 #[.slice (some ⟨W.heap.size, 0, none⟩) 10 10] (W.alloc (.cells #[.int .u8 99, .int .u8 97, .int .u8 114, .int .u8 100, .int .u8 32, .int .u8 34, .int .u8 70, .int .u8 111, .int .u8 120, .int .u8 34] 5 (10, 11))) fun e w' => ∃ ad cp, e = .returned (.tuple #[.slice ad 3 cp, .int .i64 0, .int .i64 0]) ∧ TLs w' (.slice ad 3 cp) sW ∧ Up W w') := fun W h9 => by
    refine Calls.mono (cut_ _ sA _ (bl_const W sA 10) sA_byt (h9.up ((Up.refl _).alloc _))) ?_
    rintro e w' ⟨v, h1, h2, h3⟩
    rw [sA_cut.1] at h2
    rw [sA_cut.2.1, sA_cut.2.2] at h1
    obtain ⟨ad, cp, hv⟩ := row_val h2
    subst hv
    exact ⟨ad, cp, h1, own_tl h2, ((Up.refl _).alloc _).trans h3⟩
  have HB : Hid (∀ W, ER W → Calls Tryd.prog 11 #[.slice (some ⟨W.heap.size, 0, none⟩) 5 5] (W.alloc (.cells #[.int .u8 97, .int .u8 32, .int .u8 35, .int .u8 32, .int .u8 98] 5 (5, 6))) fun e w' => ∃ v, e = .returned (.tuple #[v, .int .i64 21, .int .i64 2]) ∧ Up W w') := fun W h9 => by
    refine Calls.mono (cut_ _ sB _ (bl_const W sB 5) sB_byt (h9.up ((Up.refl _).alloc _))) ?_
    rintro e w' ⟨v, h1, h2, h3⟩
    rw [sB_cut.1, sB_cut.2] at h1
    exact ⟨v, h1, ((Up.refl _).alloc _).trans h3⟩
  have HER : Hid (ER w) := her
  clear her
  go_enter Tryd.func19, Tryd.ntmps19
  go_wp2_with fail
  refine Calls.mono (HA.out w HER.out) ?_
  rintro r W1 ⟨ad, cp, rfl, hT, u1⟩
  have HT : Hid (TLs W1 (.slice ad 3 cp) sW ∧ Up w W1) := ⟨hT, u1⟩
  clear hT u1
  go_wp2_with fail
  refine Calls.mono (HB.out W1 (HER.out.up HT.out.2)) ?_
  rintro r W2 ⟨v, rfl, u2⟩
  have HEQ : Hid (Calls Tryd.prog 13 #[.slice ad 3 cp, .slice (some ⟨W2.heap.size, 0, none⟩) 3 3] (W2.alloc (.cells #[.int .i8 1, .string ⟨#[99, 97, 114, 100]⟩, .int .i64 0, .int .i64 0, .int .i8 3, .string ⟨#[70, 111, 120]⟩, .int .i64 0, .int .i64 5, .int .i8 0, .string ⟨#[]⟩, .int .i64 0, .int .i64 10] 63)) fun e w' => e = .returned (.bool true) ∧ Up (W2.alloc (.cells #[.int .i8 1, .string ⟨#[99, 97, 114, 100]⟩, .int .i64 0, .int .i64 0, .int .i8 3, .string ⟨#[70, 111, 120]⟩, .int .i64 0, .int .i64 5, .int .i8 0, .string ⟨#[]⟩, .int .i64 0, .int .i64 10] 63)) w') := eqTok_ _ _ sW _ ((HT.out.1.up u2).up ((Up.refl _).alloc _)) (tl_want W2) (by decide)
  have HU : Hid (Up w W2) := HT.out.2.trans u2
  clear u2 HT
  go_wp2_with fail
  refine Calls.mono HEQ.out ?_
  rintro r W3 ⟨rfl, u3⟩
  have HU : Hid (Up w W3) := (HU.out.alloc _).trans u3
  clear u3 HEQ
  go_wp2_with fail
  rw [HPo.out]
  exact ⟨rfl, HU.out⟩
end TK
end Go.Proofs.YtjjikeehifndhaaDoor
