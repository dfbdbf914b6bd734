/-
  No cell of these rows narrows 'for every input' (looked for: loops, veiled, ifaces, maps, wideKeys, modest, calm, conditions, laid).
  DERIVED. THE GIVEN ROWS OF THIS SEAT. 4 by the template 'for every input the law returns true; each argument reads behind the call as it read before'; 0 by the template 'total and deterministic' (their statements: YtedopplldpcinaaGreatTotals.lean).
  GIVEN WITH THE SEED: the statements are not yours to turn. If you find one false, say at which input.
  Laid BY PROGRAM, IN A SANDBOX (cutbox-rows.mjs): the forced cells as the released guide's own fill.sh prints them over the translation e13aad6dcbfd6ca1… (all of the seat's roots in one cut). By AI agents, Wed Nov 11 2026. No macro, syntax, notation, axiom, sorry.
-/
import Derived.Test.YtedopplldpcinaaGreatChecked
import GoSem.Claim
import GoSem.ClaimJoined
import GoSem.ClaimMapViews
import Derived.JoinedTies
import Derived.KernelRfl
namespace Go.Proofs.YtedopplldpcinaaGreat
/- THE CELL 'sum', in the pinned program and in every row, IS THE sha256 OF THE DUMP (.gsa) THAT YtedopplldpcinaaGreatProg.lean LOADS. Nothing in Lean hashes anything: it is a label: what it is worth is what the hold of that sum in a sandbox is worth. -/
noncomputable def Tryz.pinned : Pinned := { name := "ytedopplldpcinaagreat", sum := "e13aad6dcbfd6ca19dc376675d6d4212bfc8061dae1b941aa5119bcc2fe526a7", checked := Tryz.checked }
namespace Rows
def none {H : Type} : Left H := { results := [], args := [] }

/-- 'clinkerlaw12.PlanAny': WHATEVER THE INPUT: true; the input reads as it did. -/
def planAnySpec : ChangeSpec := { name := "planAny", fn := fun _ => fun
  | [d1, d2, d3, d4, d5] => { results := [.lit (.bool true)], args := [d1, d2, d3, d4, d5] }
  | _ => none }
def planAnyRow : OpenClaim := { program := "ytedopplldpcinaagreat", sum := "e13aad6dcbfd6ca19dc376675d6d4212bfc8061dae1b941aa5119bcc2fe526a7", func := "clinker/clinkerlaw12.PlanAny", spec := "planAny", unfollowed := true, recurses := true, apart := false }
def PlanAnySaid : Prop := planAnyRow.holds Tryz.pinned (OpenSpec.ofChange planAnySpec)

/-- ITS FALSE NEIGHBOUR: 'it returns false'. Refute it at one input. -/
def planAnyWrong : ChangeSpec := { name := "planAny", fn := fun _ => fun
  | [d1, d2, d3, d4, d5] => { results := [.lit (.bool false)], args := [d1, d2, d3, d4, d5] }
  | _ => none }
def PlanAnyWrongFalsely : Prop := planAnyRow.holds Tryz.pinned (OpenSpec.ofChange planAnyWrong)

/-- 'clinkerlaw12.PlanMade': WHATEVER THE INPUT: true; the input reads as it did. -/
def planMadeSpec : ChangeSpec := { name := "planMade", fn := fun _ => fun
  | [d1, d2, d3, d4, d5] => { results := [.lit (.bool true)], args := [d1, d2, d3, d4, d5] }
  | _ => none }
def planMadeRow : OpenClaim := { program := "ytedopplldpcinaagreat", sum := "e13aad6dcbfd6ca19dc376675d6d4212bfc8061dae1b941aa5119bcc2fe526a7", func := "clinker/clinkerlaw12.PlanMade", spec := "planMade", unfollowed := true, recurses := true, apart := false }
def PlanMadeSaid : Prop := planMadeRow.holds Tryz.pinned (OpenSpec.ofChange planMadeSpec)

/-- ITS FALSE NEIGHBOUR: 'it returns false'. Refute it at one input. -/
def planMadeWrong : ChangeSpec := { name := "planMade", fn := fun _ => fun
  | [d1, d2, d3, d4, d5] => { results := [.lit (.bool false)], args := [d1, d2, d3, d4, d5] }
  | _ => none }
def PlanMadeWrongFalsely : Prop := planMadeRow.holds Tryz.pinned (OpenSpec.ofChange planMadeWrong)

/-- 'clinkerlaw12.PlanTables': WHATEVER THE INPUT: true; the input reads as it did. -/
def planTablesSpec : ChangeSpec := { name := "planTables", fn := fun _ => fun
  | [d1, d2, d3, d4, d5] => { results := [.lit (.bool true)], args := [d1, d2, d3, d4, d5] }
  | _ => none }
def planTablesRow : OpenClaim := { program := "ytedopplldpcinaagreat", sum := "e13aad6dcbfd6ca19dc376675d6d4212bfc8061dae1b941aa5119bcc2fe526a7", func := "clinker/clinkerlaw12.PlanTables", spec := "planTables", unfollowed := true, recurses := true, apart := false }
def PlanTablesSaid : Prop := planTablesRow.holds Tryz.pinned (OpenSpec.ofChange planTablesSpec)

/-- ITS FALSE NEIGHBOUR: 'it returns false'. Refute it at one input. -/
def planTablesWrong : ChangeSpec := { name := "planTables", fn := fun _ => fun
  | [d1, d2, d3, d4, d5] => { results := [.lit (.bool false)], args := [d1, d2, d3, d4, d5] }
  | _ => none }
def PlanTablesWrongFalsely : Prop := planTablesRow.holds Tryz.pinned (OpenSpec.ofChange planTablesWrong)

/-- 'clinkerlaw12.PlanParts': WHATEVER THE INPUT: true; the input reads as it did. -/
def planPartsSpec : ChangeSpec := { name := "planParts", fn := fun _ => fun
  | [d1, d2, d3, d4] => { results := [.lit (.bool true)], args := [d1, d2, d3, d4] }
  | _ => none }
def planPartsRow : OpenClaim := { program := "ytedopplldpcinaagreat", sum := "e13aad6dcbfd6ca19dc376675d6d4212bfc8061dae1b941aa5119bcc2fe526a7", func := "clinker/clinkerlaw12.PlanParts", spec := "planParts", unfollowed := true, recurses := true, apart := false }
def PlanPartsSaid : Prop := planPartsRow.holds Tryz.pinned (OpenSpec.ofChange planPartsSpec)

/-- ITS FALSE NEIGHBOUR: 'it returns false'. Refute it at one input. -/
def planPartsWrong : ChangeSpec := { name := "planParts", fn := fun _ => fun
  | [d1, d2, d3, d4] => { results := [.lit (.bool false)], args := [d1, d2, d3, d4] }
  | _ => none }
def PlanPartsWrongFalsely : Prop := planPartsRow.holds Tryz.pinned (OpenSpec.ofChange planPartsWrong)

/- THE SECOND FORM. 'bulk': how many values and letters a reading holds, each counted each time it is reached (what is shared counts as often as it is met; a slice's spare places count too). A statement '..UptoSaid' is the law's where the arguments, and the package variables that the reading takes, are together of bulk at most 1048576: NARROWER than '..Said'. Prove '..Said' where nothing that the law and all that it calls make is longer than what came in: it says more and counts as full. Else prove '..UptoSaid'. A law counts once. -/
mutual
def uptoBulk {H : Type} : DataW H → Nat
  | .lit (.string bytes) => bytes.length + 1
  | .lit _ => 1
  | .nil => 1
  | .ptr d => uptoBulk d + 1
  | .slice elems spare => uptoBulkAll elems + uptoBulkAll spare + 1
  | .agg parts => uptoBulkAll parts + 1
  | .iface _ d => uptoBulk d + 1
  | .map entries => uptoBulkEntries entries + 1
  | .held _ => 1
def uptoBulkAll {H : Type} : List (DataW H) → Nat
  | [] => 0
  | d :: r => uptoBulk d + uptoBulkAll r
def uptoBulkEntries {H : Type} : List (Lit × DataW H) → Nat
  | [] => 0
  | x :: r => uptoBulkEntry x + uptoBulkEntries r
def uptoBulkEntry {H : Type} : Lit × DataW H → Nat
  | (.string bytes, d) => bytes.length + uptoBulk d + 1
  | (_, d) => uptoBulk d + 1
 end
def uptoSmall : (H : Type) → List (DataW H) → Bool := fun _ ds => decide (uptoBulkAll ds ≤ 1048576)
def OpenSpec.upto (s : _root_.Go.ChangeSpec) : _root_.Go.OpenSpec := { _root_.Go.OpenSpec.ofChange s with cond := some uptoSmall }

/-- 'clinkerlaw12.PlanAny', WHERE WHAT IT READS IS OF BULK AT MOST 1048576: true; the input reads as it did. -/
def planAnyUptoRow : OpenClaim := { program := "ytedopplldpcinaagreat", sum := "e13aad6dcbfd6ca19dc376675d6d4212bfc8061dae1b941aa5119bcc2fe526a7", func := "clinker/clinkerlaw12.PlanAny", spec := "planAny", unfollowed := true, recurses := true, apart := false, narrowed := true }
def PlanAnyUptoSaid : Prop := planAnyUptoRow.holds Tryz.pinned (OpenSpec.upto planAnySpec)

/-- 'clinkerlaw12.PlanMade', WHERE WHAT IT READS IS OF BULK AT MOST 1048576: true; the input reads as it did. -/
def planMadeUptoRow : OpenClaim := { program := "ytedopplldpcinaagreat", sum := "e13aad6dcbfd6ca19dc376675d6d4212bfc8061dae1b941aa5119bcc2fe526a7", func := "clinker/clinkerlaw12.PlanMade", spec := "planMade", unfollowed := true, recurses := true, apart := false, narrowed := true }
def PlanMadeUptoSaid : Prop := planMadeUptoRow.holds Tryz.pinned (OpenSpec.upto planMadeSpec)

/-- 'clinkerlaw12.PlanTables', WHERE WHAT IT READS IS OF BULK AT MOST 1048576: true; the input reads as it did. -/
def planTablesUptoRow : OpenClaim := { program := "ytedopplldpcinaagreat", sum := "e13aad6dcbfd6ca19dc376675d6d4212bfc8061dae1b941aa5119bcc2fe526a7", func := "clinker/clinkerlaw12.PlanTables", spec := "planTables", unfollowed := true, recurses := true, apart := false, narrowed := true }
def PlanTablesUptoSaid : Prop := planTablesUptoRow.holds Tryz.pinned (OpenSpec.upto planTablesSpec)

/-- 'clinkerlaw12.PlanParts', WHERE WHAT IT READS IS OF BULK AT MOST 1048576: true; the input reads as it did. -/
def planPartsUptoRow : OpenClaim := { program := "ytedopplldpcinaagreat", sum := "e13aad6dcbfd6ca19dc376675d6d4212bfc8061dae1b941aa5119bcc2fe526a7", func := "clinker/clinkerlaw12.PlanParts", spec := "planParts", unfollowed := true, recurses := true, apart := false, narrowed := true }
def PlanPartsUptoSaid : Prop := planPartsUptoRow.holds Tryz.pinned (OpenSpec.upto planPartsSpec)

end Rows
end Go.Proofs.YtedopplldpcinaaGreat
