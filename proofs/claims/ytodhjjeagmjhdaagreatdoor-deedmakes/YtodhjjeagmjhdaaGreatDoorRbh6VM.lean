/-
  The document's Behind.
-/
import Derived.Test.YtodhjjeagmjhdaaGreatDoorRmv6VM
import Derived.Test.YtodhjjeagmjhdaaGreatDoorRsh6VM
import Derived.Test.YtodhjjeagmjhdaaGreatDoorRpl6VM
import Derived.Test.YtodhjjeagmjhdaaGreatDoorPr6TvPw6M
import Derived.Deep.Cut
namespace Go.Proofs.YtodhjjeagmjhdaaGreatDoor
open Go.RowKit
attribute [local go_sem ↓] Go.wp_at_zero Go.wp_at_succ
namespace DE
open Go.Proofs.YtodhjjeagmjhdaaGreatDoor.ST
end DE
end Go.Proofs.YtodhjjeagmjhdaaGreatDoor
