/-
  The bag's lists of players lie apart.
-/
import Derived.Test.YtodhjjeagmjhdaaGreatDoorBksVX
namespace Go.Proofs.YtodhjjeagmjhdaaGreatDoor.BG
open Go.RowKit
attribute [local go_sem ↓] Go.wp_at_zero Go.wp_at_succ
theorem infoP : (Tryz.prog.info? 97).map (fun i=>(i.zero,i.size,i.bytes)) = some (some (.agg #[.int .i32 0,.int .i32 0,.bool false]),3,12) := by kernel_rfl
end Go.Proofs.YtodhjjeagmjhdaaGreatDoor.BG
