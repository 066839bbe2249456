/-
  The program's Same of two states that are the same.
-/
import Derived.Test.YtmpamcdobhiipaaGreatDoorSzToEs
import Derived.Test.YtmpamcdobhiipaaGreatDoorIm7ToTc
namespace Go.Proofs.YtmpamcdobhiipaaGreatDoor
open Go.RowKit
attribute [local go_sem ↓] Go.wp_at_zero Go.wp_at_succ

namespace ST
def hv (s : Stt) : Value := .agg #[.int .i32 s.turn, .int .i64 s.whose, .int .i8 s.fin, .int .i64 s.winner]
def hdB (a b : Stt) : Bool := decide (a.turn = b.turn) && decide (a.whose = b.whose) && decide (a.fin = b.fin) && decide (a.winner = b.winner)
def samB (a b : Stt) : Bool := decide (a.ps = b.ps) && (decide (a.cs = b.cs) && (decide (a.zs = b.zs) && hdB a b))
end ST
end Go.Proofs.YtmpamcdobhiipaaGreatDoor
