/-
  Layer 9, the program: Put, Find, Drop.
-/
import Derived.Test.YtmkfinjhbhfaeaaIndexHaving
import Derived.Test.YtmkfinjhbhfaeaaIndexFind
import Derived.Test.YtmkfinjhbhfaeaaIndexPutC
namespace Go.Proofs.Ytmkfinjhbhfaeaa.Index
theorem codeFind : FindSpec 14 := codeFind_of having
theorem codeDrop : DropSpec 12 := codeDrop_of having
end Go.Proofs.Ytmkfinjhbhfaeaa.Index
