/-
  Do the marks behind a list stand?
-/
import Derived.Test.YtabflfcdndioiabGreatDoorWsToRa
namespace Go.Proofs.YtabflfcdndioiabGreatDoor
open Go.RowKit
attribute [local go_sem ↓] Go.wp_at_zero Go.wp_at_succ

namespace ST
end ST
end Go.Proofs.YtabflfcdndioiabGreatDoor
