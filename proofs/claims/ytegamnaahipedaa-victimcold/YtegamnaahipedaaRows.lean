/-
  No cell of these rows narrows 'for every input' (looked for: loops, veiled, ifaces, maps, wideKeys, modest, calm, conditions, laid).
  DERIVED. THE GIVEN ROWS OF THIS SEAT. 6 by the template 'for every input the law returns true; each argument reads behind the call as it read before'; 0 by the template 'total and deterministic' (their statements: YtegamnaahipedaaTotals.lean).
  GIVEN WITH THE SEED: the statements are not yours to turn. If you find one false, say at which input.
  Laid BY PROGRAM, IN A SANDBOX (cutbox-rows.mjs): the forced cells as the released guide's own fill.sh prints them over the translation cee61607b62ede1d… (all of the seat's roots in one cut). By AI agents, Wed Nov 11 2026. No macro, syntax, notation, axiom, sorry.
-/
import Derived.Test.YtegamnaahipedaaChecked
import GoSem.Claim
import GoSem.ClaimJoined
import GoSem.ClaimMapViews
import Derived.JoinedTies
import Derived.KernelRfl
namespace Go.Proofs.Ytegamnaahipedaa
/- THE CELL 'sum', in the pinned program and in every row, IS THE sha256 OF THE DUMP (.gsa) THAT YtegamnaahipedaaProg.lean LOADS. Nothing in Lean hashes anything: it is a label: what it is worth is what the hold of that sum in a sandbox is worth. -/
noncomputable def Try.pinned : Pinned := { name := "ytegamnaahipedaa", sum := "cee61607b62ede1d6e1ddba7ad62bff9868ab58117ab30dad9cd364c1c44724a", checked := Try.checked }
namespace Rows
def none {H : Type} : Left H := { results := [], args := [] }

/-- 'clinkerlaw11.VictimAny': WHATEVER THE INPUT: true; the input reads as it did. -/
def victimAnySpec : ChangeSpec := { name := "victimAny", fn := fun _ => fun
  | [d1, d2, d3, d4] => { results := [.lit (.bool true)], args := [d1, d2, d3, d4] }
  | _ => none }
def victimAnyRow : OpenClaim := { program := "ytegamnaahipedaa", sum := "cee61607b62ede1d6e1ddba7ad62bff9868ab58117ab30dad9cd364c1c44724a", func := "clinker/clinkerlaw11.VictimAny", spec := "victimAny", unfollowed := true, recurses := true, apart := false }
def VictimAnySaid : Prop := victimAnyRow.holds Try.pinned (OpenSpec.ofChange victimAnySpec)

/-- ITS FALSE NEIGHBOUR: 'it returns false'. Refute it at one input. -/
def victimAnyWrong : ChangeSpec := { name := "victimAny", fn := fun _ => fun
  | [d1, d2, d3, d4] => { results := [.lit (.bool false)], args := [d1, d2, d3, d4] }
  | _ => none }
def VictimAnyWrongFalsely : Prop := victimAnyRow.holds Try.pinned (OpenSpec.ofChange victimAnyWrong)

/-- 'clinkerlaw11.VictimMade': WHATEVER THE INPUT: true; the input reads as it did. -/
def victimMadeSpec : ChangeSpec := { name := "victimMade", fn := fun _ => fun
  | [d1, d2, d3, d4, d5] => { results := [.lit (.bool true)], args := [d1, d2, d3, d4, d5] }
  | _ => none }
def victimMadeRow : OpenClaim := { program := "ytegamnaahipedaa", sum := "cee61607b62ede1d6e1ddba7ad62bff9868ab58117ab30dad9cd364c1c44724a", func := "clinker/clinkerlaw11.VictimMade", spec := "victimMade", unfollowed := true, recurses := true, apart := false }
def VictimMadeSaid : Prop := victimMadeRow.holds Try.pinned (OpenSpec.ofChange victimMadeSpec)

/-- ITS FALSE NEIGHBOUR: 'it returns false'. Refute it at one input. -/
def victimMadeWrong : ChangeSpec := { name := "victimMade", fn := fun _ => fun
  | [d1, d2, d3, d4, d5] => { results := [.lit (.bool false)], args := [d1, d2, d3, d4, d5] }
  | _ => none }
def VictimMadeWrongFalsely : Prop := victimMadeRow.holds Try.pinned (OpenSpec.ofChange victimMadeWrong)

/-- 'clinkerlaw11.VictimFewest': WHATEVER THE INPUT: true; the input reads as it did. -/
def victimFewestSpec : ChangeSpec := { name := "victimFewest", fn := fun _ => fun
  | [d1, d2, d3] => { results := [.lit (.bool true)], args := [d1, d2, d3] }
  | _ => none }
def victimFewestRow : OpenClaim := { program := "ytegamnaahipedaa", sum := "cee61607b62ede1d6e1ddba7ad62bff9868ab58117ab30dad9cd364c1c44724a", func := "clinker/clinkerlaw11.VictimFewest", spec := "victimFewest", unfollowed := true, recurses := true, apart := false }
def VictimFewestSaid : Prop := victimFewestRow.holds Try.pinned (OpenSpec.ofChange victimFewestSpec)

/-- ITS FALSE NEIGHBOUR: 'it returns false'. Refute it at one input. -/
def victimFewestWrong : ChangeSpec := { name := "victimFewest", fn := fun _ => fun
  | [d1, d2, d3] => { results := [.lit (.bool false)], args := [d1, d2, d3] }
  | _ => none }
def VictimFewestWrongFalsely : Prop := victimFewestRow.holds Try.pinned (OpenSpec.ofChange victimFewestWrong)

/-- 'clinkerlaw11.VictimCold': WHATEVER THE INPUT: true; the input reads as it did. -/
def victimColdSpec : ChangeSpec := { name := "victimCold", fn := fun _ => fun
  | [d1, d2, d3, d4] => { results := [.lit (.bool true)], args := [d1, d2, d3, d4] }
  | _ => none }
def victimColdRow : OpenClaim := { program := "ytegamnaahipedaa", sum := "cee61607b62ede1d6e1ddba7ad62bff9868ab58117ab30dad9cd364c1c44724a", func := "clinker/clinkerlaw11.VictimCold", spec := "victimCold", unfollowed := true, recurses := true, apart := false }
def VictimColdSaid : Prop := victimColdRow.holds Try.pinned (OpenSpec.ofChange victimColdSpec)

/-- ITS FALSE NEIGHBOUR: 'it returns false'. Refute it at one input. -/
def victimColdWrong : ChangeSpec := { name := "victimCold", fn := fun _ => fun
  | [d1, d2, d3, d4] => { results := [.lit (.bool false)], args := [d1, d2, d3, d4] }
  | _ => none }
def VictimColdWrongFalsely : Prop := victimColdRow.holds Try.pinned (OpenSpec.ofChange victimColdWrong)

/-- 'clinkerlaw11.VictimRest': WHATEVER THE INPUT: true; the input reads as it did. -/
def victimRestSpec : ChangeSpec := { name := "victimRest", fn := fun _ => fun
  | [d1, d2, d3] => { results := [.lit (.bool true)], args := [d1, d2, d3] }
  | _ => none }
def victimRestRow : OpenClaim := { program := "ytegamnaahipedaa", sum := "cee61607b62ede1d6e1ddba7ad62bff9868ab58117ab30dad9cd364c1c44724a", func := "clinker/clinkerlaw11.VictimRest", spec := "victimRest", unfollowed := true, recurses := true, apart := false }
def VictimRestSaid : Prop := victimRestRow.holds Try.pinned (OpenSpec.ofChange victimRestSpec)

/-- ITS FALSE NEIGHBOUR: 'it returns false'. Refute it at one input. -/
def victimRestWrong : ChangeSpec := { name := "victimRest", fn := fun _ => fun
  | [d1, d2, d3] => { results := [.lit (.bool false)], args := [d1, d2, d3] }
  | _ => none }
def VictimRestWrongFalsely : Prop := victimRestRow.holds Try.pinned (OpenSpec.ofChange victimRestWrong)

/-- 'clinkerlaw11.VictimNever': WHATEVER THE INPUT: true; the input reads as it did. -/
def victimNeverSpec : ChangeSpec := { name := "victimNever", fn := fun _ => fun
  | [d1, d2, d3, d4] => { results := [.lit (.bool true)], args := [d1, d2, d3, d4] }
  | _ => none }
def victimNeverRow : OpenClaim := { program := "ytegamnaahipedaa", sum := "cee61607b62ede1d6e1ddba7ad62bff9868ab58117ab30dad9cd364c1c44724a", func := "clinker/clinkerlaw11.VictimNever", spec := "victimNever", unfollowed := true, recurses := true, apart := false }
def VictimNeverSaid : Prop := victimNeverRow.holds Try.pinned (OpenSpec.ofChange victimNeverSpec)

/-- ITS FALSE NEIGHBOUR: 'it returns false'. Refute it at one input. -/
def victimNeverWrong : ChangeSpec := { name := "victimNever", fn := fun _ => fun
  | [d1, d2, d3, d4] => { results := [.lit (.bool false)], args := [d1, d2, d3, d4] }
  | _ => none }
def VictimNeverWrongFalsely : Prop := victimNeverRow.holds Try.pinned (OpenSpec.ofChange victimNeverWrong)

/- THE SECOND FORM. 'bulk': how many values and letters a reading holds, each counted each time it is reached (what is shared counts as often as it is met; a slice's spare places count too). A statement '..UptoSaid' is the law's where the arguments, and the package variables that the reading takes, are together of bulk at most 1048576: NARROWER than '..Said'. Prove '..Said' where nothing that the law and all that it calls make is longer than what came in: it says more and counts as full. Else prove '..UptoSaid'. A law counts once. -/
mutual
def uptoBulk {H : Type} : DataW H → Nat
  | .lit (.string bytes) => bytes.length + 1
  | .lit _ => 1
  | .nil => 1
  | .ptr d => uptoBulk d + 1
  | .slice elems spare => uptoBulkAll elems + uptoBulkAll spare + 1
  | .agg parts => uptoBulkAll parts + 1
  | .iface _ d => uptoBulk d + 1
  | .map entries => uptoBulkEntries entries + 1
  | .held _ => 1
def uptoBulkAll {H : Type} : List (DataW H) → Nat
  | [] => 0
  | d :: r => uptoBulk d + uptoBulkAll r
def uptoBulkEntries {H : Type} : List (Lit × DataW H) → Nat
  | [] => 0
  | x :: r => uptoBulkEntry x + uptoBulkEntries r
def uptoBulkEntry {H : Type} : Lit × DataW H → Nat
  | (.string bytes, d) => bytes.length + uptoBulk d + 1
  | (_, d) => uptoBulk d + 1
 end
def uptoSmall : (H : Type) → List (DataW H) → Bool := fun _ ds => decide (uptoBulkAll ds ≤ 1048576)
def OpenSpec.upto (s : _root_.Go.ChangeSpec) : _root_.Go.OpenSpec := { _root_.Go.OpenSpec.ofChange s with cond := some uptoSmall }

/-- 'clinkerlaw11.VictimAny', WHERE WHAT IT READS IS OF BULK AT MOST 1048576: true; the input reads as it did. -/
def victimAnyUptoRow : OpenClaim := { program := "ytegamnaahipedaa", sum := "cee61607b62ede1d6e1ddba7ad62bff9868ab58117ab30dad9cd364c1c44724a", func := "clinker/clinkerlaw11.VictimAny", spec := "victimAny", unfollowed := true, recurses := true, apart := false, narrowed := true }
def VictimAnyUptoSaid : Prop := victimAnyUptoRow.holds Try.pinned (OpenSpec.upto victimAnySpec)

/-- 'clinkerlaw11.VictimMade', WHERE WHAT IT READS IS OF BULK AT MOST 1048576: true; the input reads as it did. -/
def victimMadeUptoRow : OpenClaim := { program := "ytegamnaahipedaa", sum := "cee61607b62ede1d6e1ddba7ad62bff9868ab58117ab30dad9cd364c1c44724a", func := "clinker/clinkerlaw11.VictimMade", spec := "victimMade", unfollowed := true, recurses := true, apart := false, narrowed := true }
def VictimMadeUptoSaid : Prop := victimMadeUptoRow.holds Try.pinned (OpenSpec.upto victimMadeSpec)

/-- 'clinkerlaw11.VictimFewest', WHERE WHAT IT READS IS OF BULK AT MOST 1048576: true; the input reads as it did. -/
def victimFewestUptoRow : OpenClaim := { program := "ytegamnaahipedaa", sum := "cee61607b62ede1d6e1ddba7ad62bff9868ab58117ab30dad9cd364c1c44724a", func := "clinker/clinkerlaw11.VictimFewest", spec := "victimFewest", unfollowed := true, recurses := true, apart := false, narrowed := true }
def VictimFewestUptoSaid : Prop := victimFewestUptoRow.holds Try.pinned (OpenSpec.upto victimFewestSpec)

/-- 'clinkerlaw11.VictimCold', WHERE WHAT IT READS IS OF BULK AT MOST 1048576: true; the input reads as it did. -/
def victimColdUptoRow : OpenClaim := { program := "ytegamnaahipedaa", sum := "cee61607b62ede1d6e1ddba7ad62bff9868ab58117ab30dad9cd364c1c44724a", func := "clinker/clinkerlaw11.VictimCold", spec := "victimCold", unfollowed := true, recurses := true, apart := false, narrowed := true }
def VictimColdUptoSaid : Prop := victimColdUptoRow.holds Try.pinned (OpenSpec.upto victimColdSpec)

/-- 'clinkerlaw11.VictimRest', WHERE WHAT IT READS IS OF BULK AT MOST 1048576: true; the input reads as it did. -/
def victimRestUptoRow : OpenClaim := { program := "ytegamnaahipedaa", sum := "cee61607b62ede1d6e1ddba7ad62bff9868ab58117ab30dad9cd364c1c44724a", func := "clinker/clinkerlaw11.VictimRest", spec := "victimRest", unfollowed := true, recurses := true, apart := false, narrowed := true }
def VictimRestUptoSaid : Prop := victimRestUptoRow.holds Try.pinned (OpenSpec.upto victimRestSpec)

/-- 'clinkerlaw11.VictimNever', WHERE WHAT IT READS IS OF BULK AT MOST 1048576: true; the input reads as it did. -/
def victimNeverUptoRow : OpenClaim := { program := "ytegamnaahipedaa", sum := "cee61607b62ede1d6e1ddba7ad62bff9868ab58117ab30dad9cd364c1c44724a", func := "clinker/clinkerlaw11.VictimNever", spec := "victimNever", unfollowed := true, recurses := true, apart := false, narrowed := true }
def VictimNeverUptoSaid : Prop := victimNeverUptoRow.holds Try.pinned (OpenSpec.upto victimNeverSpec)

end Rows
end Go.Proofs.Ytegamnaahipedaa
