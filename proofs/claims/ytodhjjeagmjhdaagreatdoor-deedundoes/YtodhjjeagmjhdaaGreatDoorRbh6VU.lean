/-
  The document's Behind.
-/
import Derived.Test.YtodhjjeagmjhdaaGreatDoorRmv6VU
import Derived.Test.YtodhjjeagmjhdaaGreatDoorRsh6VU
import Derived.Test.YtodhjjeagmjhdaaGreatDoorRpl6VU
import Derived.Test.YtodhjjeagmjhdaaGreatDoorPr6TvPw6U
import Derived.Deep.Cut
namespace Go.Proofs.YtodhjjeagmjhdaaGreatDoor
open Go.RowKit
attribute [local go_sem ↓] Go.wp_at_zero Go.wp_at_succ
namespace DE
open Go.Proofs.YtodhjjeagmjhdaaGreatDoor.ST
theorem evc_at {W : World} {a : Nat} {A : Array Value} {t : TypeId} (h : W.heap[a]? = some (.cells A t (0, 0))) : ∀ j, W.cell? ⟨a, j, none⟩ = A[j]? := fun j => by simp [World.cell?, h]
end DE
end Go.Proofs.YtodhjjeagmjhdaaGreatDoor
