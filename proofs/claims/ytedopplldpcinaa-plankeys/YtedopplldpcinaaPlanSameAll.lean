/-
  PlanSame, PlanLawSame: in one text (merge.json).
-/
import Derived.Test.YtedopplldpcinaaPlanLow
import Derived.Test.YtedopplldpcinaaTagDecAll
import Derived.Test.YtedopplldpcinaaPlanMovesAll
/-
  Layer 12: two rows of writes that are the same, by the document. (After ScanSame.)
-/
namespace Go.Proofs.Ytedopplldpcinaa.Plan
open Go.RowKit Go.Proofs.Ytedopplldpcinaa.Nand Go.Proofs.Ytedopplldpcinaa.Scan

theorem recEq_self (k s : Int) (ks vs : List Int) : Tag.recEq k s ks vs k s ks vs = true := by simp [Tag.recEq]
end Go.Proofs.Ytedopplldpcinaa.Plan
/-
  Layer 12, the statements' own: is what is to be written what the document says? (By mk_plansame.py.)
-/
namespace Go.Proofs.Ytedopplldpcinaa.Plan
open Go.RowKit Go.Proofs.Ytedopplldpcinaa.Nand Go.Proofs.Ytedopplldpcinaa.Scan Go.Proofs.Ytedopplldpcinaa.Live Go.Proofs.Ytedopplldpcinaa.Replay

end Go.Proofs.Ytedopplldpcinaa.Plan
