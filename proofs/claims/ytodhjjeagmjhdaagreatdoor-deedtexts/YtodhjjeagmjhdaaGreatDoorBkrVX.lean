/-
  The bag's lists of lists lie apart.
-/
import Derived.Test.YtodhjjeagmjhdaaGreatDoorBkmVX
namespace Go.Proofs.YtodhjjeagmjhdaaGreatDoor.BG
open Go.RowKit
attribute [local go_sem ↓] Go.wp_at_zero Go.wp_at_succ
end Go.Proofs.YtodhjjeagmjhdaaGreatDoor.BG
