/-
  Layer 5: the walk of NandAny.
-/
import Derived.Test.YtodncodjnoegmaaNandAny
import Derived.Test.YtodncodjnoegmaaNandCode5
import Derived.Test.YtodncodjnoegmaaNandCode6
import Derived.Test.YtodncodjnoegmaaNandDone
namespace Go.Proofs.Ytodncodjnoegmaa.Nand
open Go.RowKit

theorem nandAny_walk (vb : Value) (bs : List BlockT) (br off : Bool) (ops b p : Int) (pg : PageT) (f : FateT) (w : World) (hb : BlocksAt (fun g => g < w.heap.size) w vb bs) (_w1 : (Lit.int .i64 b).wf = true) (_w2 : (Lit.int .i64 p).wf = true) :
    Calls Try.prog 4 #[chipV vb br off ops, .int .i64 b, .int .i64 p, pageV pg, fateV f] w fun e w' => e = .returned (.bool true) ∧ Below w.heap.size w w' :=
  nandAny_walk0 newSpec_nand readSpec_nand progSpec_nand eraseSpec_nand onSpec_nand _ vb bs br off ops b p pg f w hb
end Go.Proofs.Ytodncodjnoegmaa.Nand
