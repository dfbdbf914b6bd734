/-
  Layer 5: the walk of NandReads.
-/
import Derived.Test.YtodncodjnoegmaaNandReads
import Derived.Test.YtodncodjnoegmaaNandCode5
import Derived.Test.YtodncodjnoegmaaNandCode6
import Derived.Test.YtodncodjnoegmaaNandDone
namespace Go.Proofs.Ytodncodjnoegmaa.Nand
open Go.RowKit

theorem nandReads_walk (v : Value) (ss : List StepT) (a1 a2 : Int) (w : World) (hs : StepsAt (fun g => g < w.heap.size) w v ss) (hok : ∀ s ∈ ss, StepOk s) (w1 : (Lit.int .u8 a1).wf = true) (w2 : (Lit.int .u8 a2).wf = true) :
    Calls Try.prog 6 #[v, .int .u8 a1, .int .u8 a2] w fun e w' => e = .returned (.bool true) ∧ Below w.heap.size w w' :=
  nandReads_walk0 newSpec_nand readSpec_nand progSpec_nand eraseSpec_nand onSpec_nand _ v ss a1 a2 w hs hok (bounds_u8 w1).1 (bounds_u8 w1).2 (bounds_u8 w2).1 (bounds_u8 w2).2
end Go.Proofs.Ytodncodjnoegmaa.Nand
