/- Rf, Sk6, Ror6 -/
import Derived.Test.YtodhjjeagmjhdaaGreatDoorSzTvRl6X
namespace Go.Proofs.YtodhjjeagmjhdaaGreatDoor
open Go.RowKit
attribute [local go_sem ↓] Go.wp_at_zero Go.wp_at_succ
namespace ST
end ST
namespace DE
open Go.Proofs.YtodhjjeagmjhdaaGreatDoor.ST
end DE
end Go.Proofs.YtodhjjeagmjhdaaGreatDoor
