/-
  Layer 10, the program: it answers what any right program answers; and what is told of a chip is what the document says.
-/
import Derived.Test.YtlgofanenkbgoaaStatesWearC
import Derived.Test.YtlgofanenkbgoaaStatesPickC
import Derived.Test.YtlgofanenkbgoaaStatesAwake
namespace Go.Proofs.Ytlgofanenkbgoaa.States
open Go.RowKit
theorem awake (w : World) : Calls Try.prog 9 #[] w fun e w' => e = .returned (.bool true) ∧ Mem w w' := lawAwake codeState codeMany codePick codeWear w
theorem same (S : Nat → Prop) (vb : Value) (bs : List Nand.BlockT) (br off : Bool) (ops o : Int) (w : World) (hb : Nand.BlocksAt S w vb bs) (hl : bs.length ≤ 1000) :
    Calls Try.prog 10 #[Nand.chipV vb br off ops, .int .i64 o] w fun e w' => e = .returned (.bool true) ∧ Mem w w' := lawSame codeState codeMany codePick codeWear S vb bs br off ops o w hb hl
end Go.Proofs.Ytlgofanenkbgoaa.States
