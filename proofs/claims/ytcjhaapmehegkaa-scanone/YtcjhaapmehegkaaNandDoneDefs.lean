/-
  Layer 5: a chip behind a step by the document: what it is.
-/
import Derived.Test.YtcjhaapmehegkaaNandLawSame
namespace Go.Proofs.Ytcjhaapmehegkaa.Nand
open Go.RowKit

def doneP (bs : List BlockT) (s : StepT) : Int := if s.2.1 % 5 < bs.length ∧ s.2.2.1 < 220 then (bs.getD (s.2.1 % 5).toNat default).2.1 else s.2.2.1 % 6
def doneC (c : ChipT) (s : StepT) : ChipT × Int :=
  if s.1 % 4 = 0 then erase c (s.2.1 % 5) (fateOf s) else program c (s.2.1 % 5) (doneP c.1 s) (false, s.2.2.2.2.1, s.2.2.2.2.2) (fateOf s)
def turnOn (c : ChipT) : ChipT := (c.1, c.2.1, false, c.2.2.2)
def doneR (c : ChipT) (s : StepT) : ChipT := if s.1 % 3 = 0 then turnOn (doneC c s).1 else (doneC c s).1
theorem done_few {c : ChipT} (h : Few c.1) (s : StepT) : Few (doneR c s).1 := by
  have h1 : Few (doneC c s).1.1 := by
    unfold doneC
    split
    · exact erase_few h _ _
    · exact program_few h _ _ _ _
  unfold doneR
  split
  · exact h1
  · exact h1
end Go.Proofs.Ytcjhaapmehegkaa.Nand
