/-
  A turn that came in: two numbers.
-/
import Derived.Test.YtaecbgdjifbgdaaOpen
import Derived.WalkKit
import Derived.ProofKit
import Derived.OpenShut
import Derived.ChangeOld
namespace Go.Proofs.Ytaecbgdjifbgdaa
open Go.ChangeShapes Go.WideShapes Go.ChangeAt Go.RowKit

theorem cells43 : Try.prog.cellsOf 43 = 2 := by kernel_rfl
theorem cells3 : Try.prog.cellsOf 3 = 1 := by kernel_rfl
theorem cells23 : Try.prog.cellsOf 23 = 1 := by kernel_rfl
theorem open_turn {H : Type} {enc : TypeId × Value → H} {W : World} {fuel : Nat} {c0 c1 : Value} {x : DataW H × List MemPlace} (hf : DataW.trod enc Try.prog W 0 (fun _ => true) true fuel 43 [c0, c1] = some x) :
    ∃ At Bi : Int, c0 = .int .i64 At ∧ c1 = .int .u32 Bi ∧ (Lit.int .u32 Bi).wf = true := by
  obtain ⟨y0, y1, m, _, _, hy0, hy1⟩ := trod_struct2 Try.underlying43 hf
  obtain ⟨a, e0, _, _⟩ := DataW.trod_int Try.underlying3 hy0
  obtain ⟨b, e1, _, wb⟩ := DataW.trod_int Try.underlying23 hy1
  rw [cells3] at e0
  rw [cells23] at e1
  simp at e0 e1
  exact ⟨a, b, e0, e1, wb⟩
theorem open_turn2 {H : Type} {enc : TypeId × Value → H} {W : World} {base : Nat} {v1 : Value} {d1 : DataW H} {p1 : List MemPlace} (hv : Value.okWide Try.prog W .any base 43 v1) (h1 : DataW.Trod enc Try.prog W 0 (fun _ => true) true 43 v1 d1 p1) :
    ∃ At Bi : Int, v1 = .agg #[.int .i64 At, .int .u32 Bi] ∧ (Lit.int .u32 Bi).wf = true := by
  obtain ⟨cs, rfl, hsc⟩ := okWide_struct Try.underlying43 hv
  rw [cells43] at hsc
  obtain ⟨l⟩ := cs
  obtain ⟨fuel, hf⟩ := h1
  match l, hsc, hf with
  | [c0, c1], _, hf =>
    obtain ⟨a, b, rfl, rfl, wb⟩ := open_turn (c0 := c0) (c1 := c1) hf
    exact ⟨a, b, rfl, wb⟩
end Go.Proofs.Ytaecbgdjifbgdaa
