/-
  Layer 5: the walk of NandNew.
-/
import Derived.Test.YtodncodjnoegmaaNandNew
import Derived.Test.YtodncodjnoegmaaNandCode5
import Derived.Test.YtodncodjnoegmaaNandCode6
namespace Go.Proofs.Ytodncodjnoegmaa.Nand
open Go.RowKit

theorem nandNew_walk (a0 : Int) (a1 : Int) (a2 : Option Addr) (len2 cap2 : Nat) (z2 : List Int) (a3 : Int) (a4 : Int) (a5 : Option Addr) (len5 cap5 : Nat) (z5 : List Int) (w : World) (_w0 : (Lit.int .i64 a0).wf = true) (_w1 : (Lit.int .i64 a1).wf = true) (w2 : IsRow .i64 w a2 len2 cap2 z2) (w3 : (Lit.int .u8 a3).wf = true) (w4 : (Lit.int .u8 a4).wf = true) (w5 : IsRow .u8 w a5 len5 cap5 z5) :
    Calls Try.prog 3 #[.int .i64 a0, .int .i64 a1, .slice a2 len2 cap2, .int .u8 a3, .int .u8 a4, .slice a5 len5 cap5] w fun e w' => e = .returned (.bool true) ∧ Below w.heap.size w w' := by
  obtain ⟨h2, _⟩ := Ints.of_row w2
  obtain ⟨h5, hwf⟩ := Ints.of_row w5
  have b3 := bounds_u8 w3
  have b4 := bounds_u8 w4
  exact nandNew_walk0 newSpec_nand readSpec_nand progSpec_nand eraseSpec_nand a0 a1 _ _ a3 a4 _ _ w h2 h5 (fun z hz => bounds_u8 (hwf z hz)) b3.1 b3.2 b4.1 b4.2
end Go.Proofs.Ytodncodjnoegmaa.Nand
