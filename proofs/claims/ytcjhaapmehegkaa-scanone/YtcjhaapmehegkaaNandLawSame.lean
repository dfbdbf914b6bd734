/-
  Layer 5: what is done to a chip is what the document says.
-/
import Derived.Test.YtcjhaapmehegkaaNandSpec
namespace Go.Proofs.Ytcjhaapmehegkaa.Nand
open Go.RowKit

end Go.Proofs.Ytcjhaapmehegkaa.Nand
