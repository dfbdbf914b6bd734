/-
  Layer 8, the program: the sectors that have a place, told one by one, and collected.
-/
import Derived.RangeFuncBox
import Derived.RangeFuncLeaves
import Derived.Shelf.Abstract
import Derived.WalkKit
import Derived.OwnWalkIn
import Derived.TacticsInMore
import Derived.LoopNIn
import Derived.LoopIn
import Derived.Maps.OwnIn
import Derived.Maps.AppendAt
import Derived.Test.YtegamnaahipedaaLiveMath
import Derived.Test.YtegamnaahipedaaReplayNews
namespace Go.Proofs.Ytegamnaahipedaa.Live
open Go.RowKit Go.Shelf Go.Proofs.Ytegamnaahipedaa.Replay
attribute [local go_sem] Oper.semAt_some

theorem info_int8 : (Try.prog.info? 3).map (fun i => (i.zero, i.size, i.bytes)) = some (some (.int .i64 0), 1, 8) := by kernel_rfl
end Go.Proofs.Ytegamnaahipedaa.Live
