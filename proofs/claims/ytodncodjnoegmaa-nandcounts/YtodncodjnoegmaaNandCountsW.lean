/-
  Layer 5: the walk of NandCounts.
-/
import Derived.Test.YtodncodjnoegmaaNandCounts
import Derived.Test.YtodncodjnoegmaaNandCode5
import Derived.Test.YtodncodjnoegmaaNandCode6
import Derived.Test.YtodncodjnoegmaaNandDone
namespace Go.Proofs.Ytodncodjnoegmaa.Nand
open Go.RowKit

theorem nandCounts_walk (v : Value) (ss : List StepT) (a1 : Int) (w : World) (hs : StepsAt (fun g => g < w.heap.size) w v ss) (hok : ∀ s ∈ ss, StepOk s) (w1 : (Lit.int .u8 a1).wf = true) :
    Calls Try.prog 9 #[v, .int .u8 a1] w fun e w' => e = .returned (.bool true) ∧ Below w.heap.size w w' :=
  nandCounts_walk0 newSpec_nand readSpec_nand progSpec_nand eraseSpec_nand onSpec_nand _ v ss a1 w hs hok (bounds_u8 w1).1 (bounds_u8 w1).2
end Go.Proofs.Ytodncodjnoegmaa.Nand
