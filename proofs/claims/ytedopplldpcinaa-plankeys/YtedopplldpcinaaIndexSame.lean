/-
  Layer 9: slots that are compared; whether two lists are the same.
-/
import Derived.Test.YtedopplldpcinaaIndexRefs2
import Derived.Laws.StructEq
import Derived.BigQuiet
namespace Go.Proofs.Ytedopplldpcinaa.Index
open Go.RowKit Go.Proofs.Ytedopplldpcinaa.Scan

theorem eqSlotIn (x0 x1 x2 y0 y1 y2 : Int) (w : World) : (Op.equalIn 10000 102 (.agg #[.int .i64 x0, .int .i64 x1, .int .i64 x2]) (.agg #[.int .i64 y0, .int .i64 y1, .int .i64 y2])).run Try.prog w = .ok (decide (x0 = y0 ∧ x1 = y1 ∧ x2 = y2)) w := by
  have u3 := Try.underlying3
  have a3 := Try.isAgg3
  have z3 := Try.sizeOf3
  have hS : Try.prog.underlying 102 = some (.struct (Try.prog.fieldsOf 102)) := by kernel_rfl
  have hp : Try.prog.stoodInHeld 102 = false := by kernel_rfl
  rw [show (10000 : Nat) = 9999 + 1 from rfl, run_equalIn_agg w 9999 102 _ _ hS hp]
  simp only [Program.fieldsOf, Try.underlying102]
  go_simp
  by_cases h1 : x0 = y0 <;> by_cases h2 : x1 = y1 <;> by_cases h3 : x2 = y2 <;> simp [h1, h2, h3]
end Go.Proofs.Ytedopplldpcinaa.Index
