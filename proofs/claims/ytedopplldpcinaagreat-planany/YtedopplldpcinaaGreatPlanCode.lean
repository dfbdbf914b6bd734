/-
  Layer 12: awake and same, of the program.
-/
import Derived.Test.YtedopplldpcinaaGreatPlanProgA
import Derived.Test.YtedopplldpcinaaGreatPlanProgB
import Derived.Test.YtedopplldpcinaaGreatPlanProgC
import Derived.Test.YtedopplldpcinaaGreatPlanAwakeAll
namespace Go.Proofs.YtedopplldpcinaaGreat.Plan
open Go.RowKit Go.Proofs.YtedopplldpcinaaGreat.Nand Go.Proofs.YtedopplldpcinaaGreat.Scan Go.Proofs.YtedopplldpcinaaGreat.Live Go.Proofs.YtedopplldpcinaaGreat.Replay
theorem awake (w : World) : Calls Tryz.prog 7 #[] w fun e w' => e = .returned (.bool true) ∧ Mem w w' := lawAwake codeMoves codeTwin codeHas w
theorem same (S : Nat → Prop) (vb : Value) (bs : List BlockT) (br off : Bool) (ops : Int) (t : TableT) (om ob : Option Addr) (cm cb : Nat) (b : Int) (d : ByteArray) (s : Int) (w : World) (hb : BlocksAt S w vb bs)
    (hi1 : IntsIn S w (.slice om t.1.length cm) t.1) (hi2 : IntsIn S w (.slice ob t.2.length cb) t.2) (hl1 : t.1.length ≤ 1000) (hl2 : t.2.length ≤ 1000) (hwf : WfT t) (hds : DataS bs) (hdd : d.size ≤ maxLen) :
    Calls Tryz.prog 8 #[chipV vb br off ops, .agg #[.slice om t.1.length cm, .slice ob t.2.length cb], .int .i64 b, .string d, .int .i64 s] w fun e w' => e = .returned (.bool true) ∧ Mem w w' :=
  lawSame codeMoves codeTwin codeHas S vb bs br off ops t om ob cm cb b d s w hb hi1 hi2 hl1 hl2 hwf hds hdd
end Go.Proofs.YtedopplldpcinaaGreat.Plan
