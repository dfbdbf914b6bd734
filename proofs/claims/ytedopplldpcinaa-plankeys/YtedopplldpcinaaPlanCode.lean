/-
  Layer 12: awake and same, of the program.
-/
import Derived.Test.YtedopplldpcinaaPlanProgA
import Derived.Test.YtedopplldpcinaaPlanProgB
import Derived.Test.YtedopplldpcinaaPlanProgC
import Derived.Test.YtedopplldpcinaaPlanAwakeAll
namespace Go.Proofs.Ytedopplldpcinaa.Plan
open Go.RowKit Go.Proofs.Ytedopplldpcinaa.Nand Go.Proofs.Ytedopplldpcinaa.Scan Go.Proofs.Ytedopplldpcinaa.Live Go.Proofs.Ytedopplldpcinaa.Replay
theorem awake (w : World) : Calls Try.prog 5 #[] w fun e w' => e = .returned (.bool true) ∧ Mem w w' := lawAwake codeMoves codeTwin codeHas w
end Go.Proofs.Ytedopplldpcinaa.Plan
