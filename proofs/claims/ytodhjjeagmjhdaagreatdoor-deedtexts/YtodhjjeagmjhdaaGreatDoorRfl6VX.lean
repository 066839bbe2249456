/-
  The document's field and set.
-/
import Derived.Test.YtodhjjeagmjhdaaGreatDoorSzTvRl6X
import Derived.Test.YtodhjjeagmjhdaaGreatDoorRp6VX
namespace Go.Proofs.YtodhjjeagmjhdaaGreatDoor
open Go.RowKit
attribute [local go_sem ↓] Go.wp_at_zero Go.wp_at_succ
namespace DE
open Go.Proofs.YtodhjjeagmjhdaaGreatDoor.ST
end DE
end Go.Proofs.YtodhjjeagmjhdaaGreatDoor
