/-
  ParseNests: the sources of kind 3: reckoned.
-/
import Derived.Test.YtkldllnnocdhbaaGreatDoorNy10
namespace Go.Proofs.YtkldllnnocdhbaaGreatDoor
namespace TP
theorem nk3a : ((List.range 64).all fun i => nok 3 i) = true := by decide +kernel
theorem nk3b : ((List.range 32).all fun i => nok 3 (64 + i)) = true := by decide +kernel
theorem nk3c : ((List.range 32).all fun i => nok 3 (96 + i)) = true := by decide +kernel
theorem nk3 {k : Nat} (h : k < 128) : nok 3 k = true := by
  by_cases h1 : k < 64
  · exact List.all_eq_true.1 nk3a k (List.mem_range.2 h1)
  by_cases h2 : k < 96
  · have h3 := List.all_eq_true.1 nk3b (k - 64) (List.mem_range.2 (by omega))
    rw [show 64 + (k - 64) = k by omega] at h3
    exact h3
  · have h3 := List.all_eq_true.1 nk3c (k - 96) (List.mem_range.2 (by omega))
    rw [show 96 + (k - 96) = k by omega] at h3
    exact h3
end TP
end Go.Proofs.YtkldllnnocdhbaaGreatDoor
