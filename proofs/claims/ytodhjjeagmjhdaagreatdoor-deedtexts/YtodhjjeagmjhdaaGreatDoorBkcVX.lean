/-
  The bag's lists of cards lie apart.
-/
import Derived.Test.YtodhjjeagmjhdaaGreatDoorBksVX
namespace Go.Proofs.YtodhjjeagmjhdaaGreatDoor.BG
open Go.RowKit
attribute [local go_sem ↓] Go.wp_at_zero Go.wp_at_succ
theorem infoC : (Tryz.prog.info? 95).map (fun i=>(i.zero,i.size,i.bytes)) = some (some (.agg #[.int .i64 0,.int .i64 0,.int .i32 0,.int .i32 0,.int .i32 0,.int .i32 0]),6,32) := by kernel_rfl
end Go.Proofs.YtodhjjeagmjhdaaGreatDoor.BG
