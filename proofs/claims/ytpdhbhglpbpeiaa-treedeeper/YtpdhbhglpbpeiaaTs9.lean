
/-
  TreeSames' walk.
-/
import Derived.Test.YtpdhbhglpbpeiaaNg9
import Derived.Test.YtpdhbhglpbpeiaaOp9
namespace Go.Proofs.Ytpdhbhglpbpeiaa
open Go.RowKit
attribute [local go_sem ↓] Go.wp_at_zero Go.wp_at_succ
namespace TR
theorem ok_byt {l : List Nd} (h : ∀ t ∈ l, NdOk t) : ∀ a ∈ l, Byt a.text := fun a ha => (h a ha).1
theorem ok_len {l : List Nd} (h : ∀ t ∈ l, NdOk t) : ∀ a ∈ l, a.text.length ≤ 281474976710656 := fun a ha => (h a ha).2.1
theorem ok_kid {l : List Nd} (h : ∀ t ∈ l, NdOk t) : ∀ a ∈ l, a.kids ≤ 9223372036854775807 := fun a ha => (h a ha).2.2.2.2.2.2.2.2
set_option maxRecDepth 100000 in
set_option maxHeartbeats 8000000 in
theorem tsames (v0 v1 : Value) (a b : List Nd) (w : World) (h0 : NLs w v0 a) (k0 : ∀ t ∈ a, NdOk t) (n0 : a.length ≤ 140737488355328) (h1 : NLs w v1 b) (k1 : ∀ t ∈ b, NdOk t) (n1 : b.length ≤ 140737488355328) : Calls Try.prog 4 #[v0, v1] w fun e w' => e = .returned (.bool true) ∧ Up w w' := by
  obtain ⟨Post, hPost⟩ : ∃ P : Ending → World → Prop, P = fun e w' => e = .returned (.bool true) ∧ Up w w' := ⟨_, rfl⟩
  rw [← hPost]
  have HPo : Hid (Post = fun e w' => e = .returned (.bool true) ∧ Up w w') := hPost
  clear hPost
  have HB0 : Hid (Calls Try.prog 8 #[v0] w (BeyR a w)) := beyond_ v0 a w h0 n0 (ok_len k0)
  have HB1 : Hid (Calls Try.prog 8 #[v1] w (BeyR b w)) := beyond_ v1 b w h1 n1 (ok_len k1)
  have HA : Hid (NLs w v0 a ∧ ∀ t ∈ a, NdOk t) := ⟨h0, k0⟩
  have HB : Hid (NLs w v1 b ∧ ∀ t ∈ b, NdOk t) := ⟨h1, k1⟩
  clear h0 k0 n0 h1 k1 n1
  go_enter Try.func4, Try.ntmps4
  go_wp2_with fail
  refine Calls.mono HB0.out ?_
  rintro e w1 ⟨⟨x, rfl, hx⟩, rfl⟩
  clear HB0
  cases x with
  | true =>
    go_wp2_with fail
    rw [HPo.out]
    exact ⟨rfl, Up.refl _⟩
  | false =>
    have HLA : Hid (a.length ≤ 65536) := hx rfl
    clear hx
    go_wp2_with fail
    refine Calls.mono HB1.out ?_
    rintro e w2 ⟨⟨x, rfl, hx⟩, rfl⟩
    clear HB1
    cases x with
    | true =>
      go_wp2_with fail
      rw [HPo.out]
      exact ⟨rfl, Up.refl _⟩
    | false =>
      have HLB : Hid (b.length ≤ 65536) := hx rfl
      clear hx
      have hla : a.length ≤ 4294967296 := Nat.le_trans HLA.out (by decide)
      have hlb : b.length ≤ 4294967296 := Nat.le_trans HLB.out (by decide)
      have HLL : Hid (a.length ≤ 4294967296 ∧ b.length ≤ 4294967296) := ⟨hla, hlb⟩
      clear hla hlb
      go_wp2_with fail
      refine Calls.mono (wideN_ v0 a w2 HA.out.1 HLL.out.1) ?_
      rintro e w3 ⟨x, rfl, hx, u3⟩
      have HX : Hid (WN w2.heap.size w3 x a) := hx
      have HU3 : Hid (Up w2 w3) := u3
      clear hx u3
      go_wp2_with fail
      refine Calls.mono (wideN_ v1 b w3 (HB.out.1.up HU3.out) HLL.out.2) ?_
      rintro e w4 ⟨y, rfl, hy, u4⟩
      have HY : Hid (WN w3.heap.size w4 y b) := hy
      have HX4 : Hid (WN w2.heap.size w4 x a) := HX.out.up u4
      have HU4 : Hid (Up w2 w4) := HU3.out.trans u4
      clear hy u4 HX HU3
      go_wp2_with fail
      refine Calls.mono (same_ x y a b w4 HX4.out.nl HY.out.nl HLL.out.1 HLL.out.2 (ok_byt HA.out.2) (ok_byt HB.out.2)) ?_
      rintro e w5 ⟨rfl, u5⟩
      have HU5 : Hid (Up w2 w5) := HU4.out.trans u5
      have HX5 : Hid (WN w2.heap.size w5 x a) := HX4.out.up u5
      have HY5 : Hid (WN w3.heap.size w5 y b) := HY.out.up u5
      clear u5 HX4 HY HU4
      go_wp2_with fail
      refine Calls.mono (rsame_ v0 v1 a b w5 (HA.out.1.up HU5.out) (HB.out.1.up HU5.out) HLL.out.1 HLL.out.2 (ok_byt HA.out.2) (ok_byt HB.out.2)) ?_
      rintro e w6 ⟨rfl, u6⟩
      have HU6 : Hid (Up w2 w6) := HU5.out.trans u6
      have HX6 : Hid (WN w2.heap.size w6 x a) := HX5.out.up u6
      have HY6 : Hid (WN w3.heap.size w6 y b) := HY5.out.up u6
      clear u6 HX5 HY5 HU5
      generalize sam a b = sb
      have hsb : (sb == sb) = true := by simp
      go_wp2_with fail
      refine Calls.mono (eqN_ x v0 a w6 HX6.out.nl (HA.out.1.up HU6.out) HLL.out.1) ?_
      rintro e w7 ⟨rfl, u7⟩
      have HU7 : Hid (Up w2 w7) := HU6.out.trans u7
      have HX7 : Hid (WN w2.heap.size w7 x a) := HX6.out.up u7
      have HY7 : Hid (WN w3.heap.size w7 y b) := HY6.out.up u7
      clear u7 HX6 HY6 HU6
      go_wp2_with fail
      refine Calls.mono (eqN_ y v1 b w7 HY7.out.nl (HB.out.1.up HU7.out) HLL.out.2) ?_
      rintro e w8 ⟨rfl, u8⟩
      have HU8 : Hid (Up w2 w8) := HU7.out.trans u8
      have HX8 : Hid (WN w2.heap.size w8 x a) := HX7.out.up u8
      have HY8 : Hid (WN w3.heap.size w8 y b) := HY7.out.up u8
      clear u8 HX7 HY7 HU7
      go_wp2_with fail
      refine Calls.mono (spareN_ w2.heap.size x a w8 HX8.out HLL.out.1) ?_
      rintro e w9 ⟨rfl, u9⟩
      have HU9 : Hid (Up w2 w9) := HU8.out.trans u9
      have HY9 : Hid (WN w3.heap.size w9 y b) := HY8.out.up u9
      clear u9 HX8 HY8 HU8
      go_wp2_with fail
      refine Calls.mono (spareN_ w3.heap.size y b w9 HY9.out HLL.out.2) ?_
      rintro e wa ⟨rfl, ua⟩
      have HUa : Hid (Up w2 wa) := HU9.out.trans ua
      clear ua HY9 HU9
      go_wp2_with fail
      refine Calls.mono (lives_ wa) ?_
      rintro e wb ⟨rfl, ub⟩
      have HUb : Hid (Up w2 wb) := HUa.out.trans ub
      clear ub HUa
      go_wp2_with fail
      rw [HPo.out]
      exact ⟨rfl, HUb.out⟩
end TR
end Go.Proofs.Ytpdhbhglpbpeiaa
