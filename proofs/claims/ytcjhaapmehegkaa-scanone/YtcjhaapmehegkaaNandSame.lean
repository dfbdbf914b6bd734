/-
  Layer 5: two chips that are the same.
-/
import Derived.Test.YtcjhaapmehegkaaNandReads1
import Derived.Deep.QuietTactic
import Derived.BigQuiet
namespace Go.Proofs.Ytcjhaapmehegkaa.Nand
open Go.RowKit

end Go.Proofs.Ytcjhaapmehegkaa.Nand
