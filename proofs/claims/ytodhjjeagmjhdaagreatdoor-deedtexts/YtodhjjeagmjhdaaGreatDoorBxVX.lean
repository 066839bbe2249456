/-
  The whole bag of states' lists: apart.
-/
import Derived.Test.YtodhjjeagmjhdaaGreatDoorBbTvBwX
import Derived.Test.YtodhjjeagmjhdaaGreatDoorBkpVX
import Derived.Test.YtodhjjeagmjhdaaGreatDoorBkcVX
import Derived.Test.YtodhjjeagmjhdaaGreatDoorBkrVX
namespace Go.Proofs.YtodhjjeagmjhdaaGreatDoor.BG
open Go.RowKit
end Go.Proofs.YtodhjjeagmjhdaaGreatDoor.BG
