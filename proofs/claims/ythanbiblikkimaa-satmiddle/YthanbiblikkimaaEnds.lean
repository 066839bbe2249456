/-
  The two ends lie in a new block while the calls are made; the document's contracts, kind by kind.
-/
import Derived.Test.YthanbiblikkimaaRef
namespace Go.Proofs.Ythanbiblikkimaa
open Go.RowKit

theorem keepE {w0 v v' : World} {b : Nat} {x y : Value} (k : Up v v') (h : v.cell? ⟨b, 0, none⟩ = some x ∧ v.cell? ⟨b, 1, none⟩ = some y ∧ Up w0 v) : v'.cell? ⟨b, 0, none⟩ = some x ∧ v'.cell? ⟨b, 1, none⟩ = some y ∧ Up w0 v' := by
  have hb : b < v.heap.size := World.block_lt_of_cell? v ⟨b, 0, none⟩ h.1
  exact ⟨by rw [Below.cell k (p := ⟨b, 0, none⟩) hb]; exact h.1, by rw [Below.cell k (p := ⟨b, 1, none⟩) hb]; exact h.2.1, h.2.2.trans k⟩
theorem keepD {w0 v : World} {b : Nat} {x y : Value} (h : v.cell? ⟨b, 0, none⟩ = some x ∧ v.cell? ⟨b, 1, none⟩ = some y ∧ Up w0 v) : v.drew.cell? ⟨b, 0, none⟩ = some x ∧ v.drew.cell? ⟨b, 1, none⟩ = some y ∧ Up w0 v.drew :=
  ⟨h.1, h.2.1, h.2.2.drew⟩

theorem refAdd8 (a b : Int) (w : World) (a1 : -128 ≤ a) (a2 : a ≤ 127) (b1 : -128 ≤ b) (b2 : b ≤ 127) :
    Calls Try.prog 16 #[.int .i64 a, .int .i64 b, .agg #[.int .i64 (-128), .int .i64 127]] w fun e w' => e = .returned (.int .i64 (cut8 (a + b))) ∧ Up w w' :=
  refAdd a b (-128) 127 w (by decide) (by decide) (by decide) (by decide) a1 a2 b1 b2
theorem refSub8 (a b : Int) (w : World) (a1 : -128 ≤ a) (a2 : a ≤ 127) (b1 : -128 ≤ b) (b2 : b ≤ 127) :
    Calls Try.prog 18 #[.int .i64 a, .int .i64 b, .agg #[.int .i64 (-128), .int .i64 127]] w fun e w' => e = .returned (.int .i64 (cut8 (a - b))) ∧ Up w w' :=
  refSub a b (-128) 127 w (by decide) (by decide) (by decide) (by decide) a1 a2 b1 b2
theorem refMul8 (a b : Int) (w : World) (a1 : -128 ≤ a) (a2 : a ≤ 127) (b1 : -128 ≤ b) (b2 : b ≤ 127) :
    Calls Try.prog 20 #[.int .i64 a, .int .i64 b, .agg #[.int .i64 (-128), .int .i64 127]] w fun e w' => e = .returned (.int .i64 (cut8 (a * b))) ∧ Up w w' :=
  refMul a b (-128) 127 w (by decide) (by decide) (by decide) (by decide) a1 a2 b1 b2
theorem refNeg8 (a : Int) (w : World) (a1 : -128 ≤ a) (a2 : a ≤ 127) :
    Calls Try.prog 22 #[.int .i64 a, .agg #[.int .i64 (-128), .int .i64 127]] w fun e w' => e = .returned (.int .i64 (cut8 (-a))) ∧ Up w w' :=
  refNeg a (-128) 127 w (by decide) (by decide) (by decide) (by decide) a1 a2
theorem refAbs8 (a : Int) (w : World) (a1 : -128 ≤ a) (a2 : a ≤ 127) :
    Calls Try.prog 24 #[.int .i64 a, .agg #[.int .i64 (-128), .int .i64 127]] w fun e w' => e = .returned (.int .i64 (cut8 a.natAbs)) ∧ Up w w' :=
  refAbs a (-128) 127 w (by decide) (by decide) (by decide) (by decide) a1 a2
def div8 (a b : Int) : Int := if b = 0 then 0 else cut8 (a.tdiv b)
theorem div8_bd (a b : Int) : -128 ≤ div8 a b ∧ div8 a b ≤ 127 := by
  unfold div8; split
  · decide
  · exact cut8_bd _
theorem remI_bd8 (a b : Int) (b1 : -128 ≤ b) (b2 : b ≤ 127) : -128 ≤ remI a b ∧ remI a b ≤ 127 := by
  unfold remI; split
  · decide
  · exact rem8_in a b b1 b2 ‹_›
theorem refDiv8 (a b : Int) (w : World) (a1 : -128 ≤ a) (a2 : a ≤ 127) (b1 : -128 ≤ b) (b2 : b ≤ 127) :
    Calls Try.prog 13 #[.int .i64 a, .int .i64 b, .agg #[.int .i64 (-128), .int .i64 127]] w fun e w' => e = .returned (.tuple #[.int .i64 (div8 a b), .bool (nz b)]) ∧ Up w w' :=
  refDiv a b (-128) 127 w (by decide) (by decide) (by decide) (by decide) a1 a2 b1 b2
theorem refAdd16 (a b : Int) (w : World) (a1 : -32768 ≤ a) (a2 : a ≤ 32767) (b1 : -32768 ≤ b) (b2 : b ≤ 32767) :
    Calls Try.prog 16 #[.int .i64 a, .int .i64 b, .agg #[.int .i64 (-32768), .int .i64 32767]] w fun e w' => e = .returned (.int .i64 (cut16 (a + b))) ∧ Up w w' :=
  refAdd a b (-32768) 32767 w (by decide) (by decide) (by decide) (by decide) a1 a2 b1 b2
theorem refSub16 (a b : Int) (w : World) (a1 : -32768 ≤ a) (a2 : a ≤ 32767) (b1 : -32768 ≤ b) (b2 : b ≤ 32767) :
    Calls Try.prog 18 #[.int .i64 a, .int .i64 b, .agg #[.int .i64 (-32768), .int .i64 32767]] w fun e w' => e = .returned (.int .i64 (cut16 (a - b))) ∧ Up w w' :=
  refSub a b (-32768) 32767 w (by decide) (by decide) (by decide) (by decide) a1 a2 b1 b2
theorem refMul16 (a b : Int) (w : World) (a1 : -32768 ≤ a) (a2 : a ≤ 32767) (b1 : -32768 ≤ b) (b2 : b ≤ 32767) :
    Calls Try.prog 20 #[.int .i64 a, .int .i64 b, .agg #[.int .i64 (-32768), .int .i64 32767]] w fun e w' => e = .returned (.int .i64 (cut16 (a * b))) ∧ Up w w' :=
  refMul a b (-32768) 32767 w (by decide) (by decide) (by decide) (by decide) a1 a2 b1 b2
theorem refNeg16 (a : Int) (w : World) (a1 : -32768 ≤ a) (a2 : a ≤ 32767) :
    Calls Try.prog 22 #[.int .i64 a, .agg #[.int .i64 (-32768), .int .i64 32767]] w fun e w' => e = .returned (.int .i64 (cut16 (-a))) ∧ Up w w' :=
  refNeg a (-32768) 32767 w (by decide) (by decide) (by decide) (by decide) a1 a2
theorem refAbs16 (a : Int) (w : World) (a1 : -32768 ≤ a) (a2 : a ≤ 32767) :
    Calls Try.prog 24 #[.int .i64 a, .agg #[.int .i64 (-32768), .int .i64 32767]] w fun e w' => e = .returned (.int .i64 (cut16 a.natAbs)) ∧ Up w w' :=
  refAbs a (-32768) 32767 w (by decide) (by decide) (by decide) (by decide) a1 a2
def div16 (a b : Int) : Int := if b = 0 then 0 else cut16 (a.tdiv b)
theorem div16_bd (a b : Int) : -32768 ≤ div16 a b ∧ div16 a b ≤ 32767 := by
  unfold div16; split
  · decide
  · exact cut16_bd _
theorem remI_bd16 (a b : Int) (b1 : -32768 ≤ b) (b2 : b ≤ 32767) : -32768 ≤ remI a b ∧ remI a b ≤ 32767 := by
  unfold remI; split
  · decide
  · exact rem16_in a b b1 b2 ‹_›
theorem refDiv16 (a b : Int) (w : World) (a1 : -32768 ≤ a) (a2 : a ≤ 32767) (b1 : -32768 ≤ b) (b2 : b ≤ 32767) :
    Calls Try.prog 13 #[.int .i64 a, .int .i64 b, .agg #[.int .i64 (-32768), .int .i64 32767]] w fun e w' => e = .returned (.tuple #[.int .i64 (div16 a b), .bool (nz b)]) ∧ Up w w' :=
  refDiv a b (-32768) 32767 w (by decide) (by decide) (by decide) (by decide) a1 a2 b1 b2
theorem refAdd32 (a b : Int) (w : World) (a1 : -2147483648 ≤ a) (a2 : a ≤ 2147483647) (b1 : -2147483648 ≤ b) (b2 : b ≤ 2147483647) :
    Calls Try.prog 16 #[.int .i64 a, .int .i64 b, .agg #[.int .i64 (-2147483648), .int .i64 2147483647]] w fun e w' => e = .returned (.int .i64 (cut32 (a + b))) ∧ Up w w' :=
  refAdd a b (-2147483648) 2147483647 w (by decide) (by decide) (by decide) (by decide) a1 a2 b1 b2
theorem refSub32 (a b : Int) (w : World) (a1 : -2147483648 ≤ a) (a2 : a ≤ 2147483647) (b1 : -2147483648 ≤ b) (b2 : b ≤ 2147483647) :
    Calls Try.prog 18 #[.int .i64 a, .int .i64 b, .agg #[.int .i64 (-2147483648), .int .i64 2147483647]] w fun e w' => e = .returned (.int .i64 (cut32 (a - b))) ∧ Up w w' :=
  refSub a b (-2147483648) 2147483647 w (by decide) (by decide) (by decide) (by decide) a1 a2 b1 b2
theorem refMul32 (a b : Int) (w : World) (a1 : -2147483648 ≤ a) (a2 : a ≤ 2147483647) (b1 : -2147483648 ≤ b) (b2 : b ≤ 2147483647) :
    Calls Try.prog 20 #[.int .i64 a, .int .i64 b, .agg #[.int .i64 (-2147483648), .int .i64 2147483647]] w fun e w' => e = .returned (.int .i64 (cut32 (a * b))) ∧ Up w w' :=
  refMul a b (-2147483648) 2147483647 w (by decide) (by decide) (by decide) (by decide) a1 a2 b1 b2
theorem refNeg32 (a : Int) (w : World) (a1 : -2147483648 ≤ a) (a2 : a ≤ 2147483647) :
    Calls Try.prog 22 #[.int .i64 a, .agg #[.int .i64 (-2147483648), .int .i64 2147483647]] w fun e w' => e = .returned (.int .i64 (cut32 (-a))) ∧ Up w w' :=
  refNeg a (-2147483648) 2147483647 w (by decide) (by decide) (by decide) (by decide) a1 a2
theorem refAbs32 (a : Int) (w : World) (a1 : -2147483648 ≤ a) (a2 : a ≤ 2147483647) :
    Calls Try.prog 24 #[.int .i64 a, .agg #[.int .i64 (-2147483648), .int .i64 2147483647]] w fun e w' => e = .returned (.int .i64 (cut32 a.natAbs)) ∧ Up w w' :=
  refAbs a (-2147483648) 2147483647 w (by decide) (by decide) (by decide) (by decide) a1 a2
def div32 (a b : Int) : Int := if b = 0 then 0 else cut32 (a.tdiv b)
theorem div32_bd (a b : Int) : -2147483648 ≤ div32 a b ∧ div32 a b ≤ 2147483647 := by
  unfold div32; split
  · decide
  · exact cut32_bd _
theorem remI_bd32 (a b : Int) (b1 : -2147483648 ≤ b) (b2 : b ≤ 2147483647) : -2147483648 ≤ remI a b ∧ remI a b ≤ 2147483647 := by
  unfold remI; split
  · decide
  · exact rem32_in a b b1 b2 ‹_›
theorem refDiv32 (a b : Int) (w : World) (a1 : -2147483648 ≤ a) (a2 : a ≤ 2147483647) (b1 : -2147483648 ≤ b) (b2 : b ≤ 2147483647) :
    Calls Try.prog 13 #[.int .i64 a, .int .i64 b, .agg #[.int .i64 (-2147483648), .int .i64 2147483647]] w fun e w' => e = .returned (.tuple #[.int .i64 (div32 a b), .bool (nz b)]) ∧ Up w w' :=
  refDiv a b (-2147483648) 2147483647 w (by decide) (by decide) (by decide) (by decide) a1 a2 b1 b2
theorem refAdd64 (a b : Int) (w : World) (a1 : -9223372036854775808 ≤ a) (a2 : a ≤ 9223372036854775807) (b1 : -9223372036854775808 ≤ b) (b2 : b ≤ 9223372036854775807) :
    Calls Try.prog 16 #[.int .i64 a, .int .i64 b, .agg #[.int .i64 (-9223372036854775808), .int .i64 9223372036854775807]] w fun e w' => e = .returned (.int .i64 (cut64 (a + b))) ∧ Up w w' :=
  refAdd a b (-9223372036854775808) 9223372036854775807 w (by decide) (by decide) (by decide) (by decide) a1 a2 b1 b2
theorem refSub64 (a b : Int) (w : World) (a1 : -9223372036854775808 ≤ a) (a2 : a ≤ 9223372036854775807) (b1 : -9223372036854775808 ≤ b) (b2 : b ≤ 9223372036854775807) :
    Calls Try.prog 18 #[.int .i64 a, .int .i64 b, .agg #[.int .i64 (-9223372036854775808), .int .i64 9223372036854775807]] w fun e w' => e = .returned (.int .i64 (cut64 (a - b))) ∧ Up w w' :=
  refSub a b (-9223372036854775808) 9223372036854775807 w (by decide) (by decide) (by decide) (by decide) a1 a2 b1 b2
theorem refMul64 (a b : Int) (w : World) (a1 : -9223372036854775808 ≤ a) (a2 : a ≤ 9223372036854775807) (b1 : -9223372036854775808 ≤ b) (b2 : b ≤ 9223372036854775807) :
    Calls Try.prog 20 #[.int .i64 a, .int .i64 b, .agg #[.int .i64 (-9223372036854775808), .int .i64 9223372036854775807]] w fun e w' => e = .returned (.int .i64 (cut64 (a * b))) ∧ Up w w' :=
  refMul a b (-9223372036854775808) 9223372036854775807 w (by decide) (by decide) (by decide) (by decide) a1 a2 b1 b2
theorem refNeg64 (a : Int) (w : World) (a1 : -9223372036854775808 ≤ a) (a2 : a ≤ 9223372036854775807) :
    Calls Try.prog 22 #[.int .i64 a, .agg #[.int .i64 (-9223372036854775808), .int .i64 9223372036854775807]] w fun e w' => e = .returned (.int .i64 (cut64 (-a))) ∧ Up w w' :=
  refNeg a (-9223372036854775808) 9223372036854775807 w (by decide) (by decide) (by decide) (by decide) a1 a2
theorem refAbs64 (a : Int) (w : World) (a1 : -9223372036854775808 ≤ a) (a2 : a ≤ 9223372036854775807) :
    Calls Try.prog 24 #[.int .i64 a, .agg #[.int .i64 (-9223372036854775808), .int .i64 9223372036854775807]] w fun e w' => e = .returned (.int .i64 (cut64 a.natAbs)) ∧ Up w w' :=
  refAbs a (-9223372036854775808) 9223372036854775807 w (by decide) (by decide) (by decide) (by decide) a1 a2
def div64 (a b : Int) : Int := if b = 0 then 0 else cut64 (a.tdiv b)
theorem div64_bd (a b : Int) : -9223372036854775808 ≤ div64 a b ∧ div64 a b ≤ 9223372036854775807 := by
  unfold div64; split
  · decide
  · exact cut64_bd _
theorem remI_bd64 (a b : Int) (b1 : -9223372036854775808 ≤ b) (b2 : b ≤ 9223372036854775807) : -9223372036854775808 ≤ remI a b ∧ remI a b ≤ 9223372036854775807 := by
  unfold remI; split
  · decide
  · exact rem64_in a b b1 b2 ‹_›
theorem refDiv64 (a b : Int) (w : World) (a1 : -9223372036854775808 ≤ a) (a2 : a ≤ 9223372036854775807) (b1 : -9223372036854775808 ≤ b) (b2 : b ≤ 9223372036854775807) :
    Calls Try.prog 13 #[.int .i64 a, .int .i64 b, .agg #[.int .i64 (-9223372036854775808), .int .i64 9223372036854775807]] w fun e w' => e = .returned (.tuple #[.int .i64 (div64 a b), .bool (nz b)]) ∧ Up w w' :=
  refDiv a b (-9223372036854775808) 9223372036854775807 w (by decide) (by decide) (by decide) (by decide) a1 a2 b1 b2
end Go.Proofs.Ythanbiblikkimaa
