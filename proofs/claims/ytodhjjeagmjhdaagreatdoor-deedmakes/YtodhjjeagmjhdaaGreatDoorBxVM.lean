/-
  The whole bag of states' lists: apart.
-/
import Derived.Test.YtodhjjeagmjhdaaGreatDoorBbTvBwM
import Derived.Test.YtodhjjeagmjhdaaGreatDoorBkpVM
import Derived.Test.YtodhjjeagmjhdaaGreatDoorBkcVM
import Derived.Test.YtodhjjeagmjhdaaGreatDoorBkrVM
namespace Go.Proofs.YtodhjjeagmjhdaaGreatDoor.BG
open Go.RowKit
end Go.Proofs.YtodhjjeagmjhdaaGreatDoor.BG
