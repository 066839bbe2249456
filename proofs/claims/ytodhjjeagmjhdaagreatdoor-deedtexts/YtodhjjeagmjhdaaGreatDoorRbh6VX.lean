/-
  The document's Behind.
-/
import Derived.Test.YtodhjjeagmjhdaaGreatDoorRmv6VX
import Derived.Test.YtodhjjeagmjhdaaGreatDoorRsh6VX
import Derived.Test.YtodhjjeagmjhdaaGreatDoorRpl6VX
namespace Go.Proofs.YtodhjjeagmjhdaaGreatDoor
open Go.RowKit
attribute [local go_sem ↓] Go.wp_at_zero Go.wp_at_succ
namespace DE
open Go.Proofs.YtodhjjeagmjhdaaGreatDoor.ST
end DE
end Go.Proofs.YtodhjjeagmjhdaaGreatDoor
