/-
  Cells of one element stored one behind the other.
-/
import Derived.Test.YtodhjjeagmjhdaaGreatDoorBkiVX
namespace Go.Proofs.YtodhjjeagmjhdaaGreatDoor.BG
open Go.RowKit
end Go.Proofs.YtodhjjeagmjhdaaGreatDoor.BG
