/-
  The two ends lie in a new block while the calls are made; the document's contracts, kind by kind.
-/
import Derived.Test.YthanbiblikkimabRef
namespace Go.Proofs.Ythanbiblikkimab
open Go.RowKit

theorem keepE {w0 v v' : World} {b : Nat} {x y : Value} (k : Up v v') (h : v.cell? ⟨b, 0, none⟩ = some x ∧ v.cell? ⟨b, 1, none⟩ = some y ∧ Up w0 v) : v'.cell? ⟨b, 0, none⟩ = some x ∧ v'.cell? ⟨b, 1, none⟩ = some y ∧ Up w0 v' := by
  have hb : b < v.heap.size := World.block_lt_of_cell? v ⟨b, 0, none⟩ h.1
  exact ⟨by rw [Below.cell k (p := ⟨b, 0, none⟩) hb]; exact h.1, by rw [Below.cell k (p := ⟨b, 1, none⟩) hb]; exact h.2.1, h.2.2.trans k⟩
theorem keepD {w0 v : World} {b : Nat} {x y : Value} (h : v.cell? ⟨b, 0, none⟩ = some x ∧ v.cell? ⟨b, 1, none⟩ = some y ∧ Up w0 v) : v.drew.cell? ⟨b, 0, none⟩ = some x ∧ v.drew.cell? ⟨b, 1, none⟩ = some y ∧ Up w0 v.drew :=
  ⟨h.1, h.2.1, h.2.2.drew⟩

theorem refAdd8 (a b : Int) (w : World) (a1 : -128 ≤ a) (a2 : a ≤ 127) (b1 : -128 ≤ b) (b2 : b ≤ 127) :
    Calls Try.prog 57 #[.int .i64 a, .int .i64 b, .agg #[.int .i64 (-128), .int .i64 127]] w fun e w' => e = .returned (.int .i64 (cut8 (a + b))) ∧ Up w w' :=
  refAdd a b (-128) 127 w (by decide) (by decide) (by decide) (by decide) a1 a2 b1 b2
theorem refCut8 (a : Int) (w : World) :
    Calls Try.prog 11 #[.int .i64 a, .agg #[.int .i64 (-128), .int .i64 127]] w fun e w' => e = .returned (.int .i64 (cut8 a)) ∧ Up w w' :=
  refCut a (-128) 127 w
theorem refAdd16 (a b : Int) (w : World) (a1 : -32768 ≤ a) (a2 : a ≤ 32767) (b1 : -32768 ≤ b) (b2 : b ≤ 32767) :
    Calls Try.prog 57 #[.int .i64 a, .int .i64 b, .agg #[.int .i64 (-32768), .int .i64 32767]] w fun e w' => e = .returned (.int .i64 (cut16 (a + b))) ∧ Up w w' :=
  refAdd a b (-32768) 32767 w (by decide) (by decide) (by decide) (by decide) a1 a2 b1 b2
theorem refCut16 (a : Int) (w : World) :
    Calls Try.prog 11 #[.int .i64 a, .agg #[.int .i64 (-32768), .int .i64 32767]] w fun e w' => e = .returned (.int .i64 (cut16 a)) ∧ Up w w' :=
  refCut a (-32768) 32767 w
theorem refAdd32 (a b : Int) (w : World) (a1 : -2147483648 ≤ a) (a2 : a ≤ 2147483647) (b1 : -2147483648 ≤ b) (b2 : b ≤ 2147483647) :
    Calls Try.prog 57 #[.int .i64 a, .int .i64 b, .agg #[.int .i64 (-2147483648), .int .i64 2147483647]] w fun e w' => e = .returned (.int .i64 (cut32 (a + b))) ∧ Up w w' :=
  refAdd a b (-2147483648) 2147483647 w (by decide) (by decide) (by decide) (by decide) a1 a2 b1 b2
theorem refCut32 (a : Int) (w : World) :
    Calls Try.prog 11 #[.int .i64 a, .agg #[.int .i64 (-2147483648), .int .i64 2147483647]] w fun e w' => e = .returned (.int .i64 (cut32 a)) ∧ Up w w' :=
  refCut a (-2147483648) 2147483647 w
theorem refAdd64 (a b : Int) (w : World) (a1 : -9223372036854775808 ≤ a) (a2 : a ≤ 9223372036854775807) (b1 : -9223372036854775808 ≤ b) (b2 : b ≤ 9223372036854775807) :
    Calls Try.prog 57 #[.int .i64 a, .int .i64 b, .agg #[.int .i64 (-9223372036854775808), .int .i64 9223372036854775807]] w fun e w' => e = .returned (.int .i64 (cut64 (a + b))) ∧ Up w w' :=
  refAdd a b (-9223372036854775808) 9223372036854775807 w (by decide) (by decide) (by decide) (by decide) a1 a2 b1 b2
theorem refCut64 (a : Int) (w : World) :
    Calls Try.prog 11 #[.int .i64 a, .agg #[.int .i64 (-9223372036854775808), .int .i64 9223372036854775807]] w fun e w' => e = .returned (.int .i64 (cut64 a)) ∧ Up w w' :=
  refCut a (-9223372036854775808) 9223372036854775807 w
end Go.Proofs.Ythanbiblikkimab
