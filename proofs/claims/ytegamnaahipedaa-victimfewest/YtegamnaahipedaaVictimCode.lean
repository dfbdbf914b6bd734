/-
  Layer 11: awake and same, of the program.
-/
import Derived.Test.YtegamnaahipedaaVictimC
import Derived.Test.YtegamnaahipedaaVictimAwake
namespace Go.Proofs.Ytegamnaahipedaa.Victim
open Go.RowKit Go.Proofs.Ytegamnaahipedaa.Nand Go.Proofs.Ytegamnaahipedaa.States Go.Proofs.Ytegamnaahipedaa.Live Go.Proofs.Ytegamnaahipedaa.Replay
theorem awake (w : World) : Calls Try.prog 9 #[] w fun e w' => e = .returned (.bool true) ∧ Mem w w' := lawAwake codeVictim codeCold codeRest w
theorem same (S : Nat → Prop) (vb : Value) (bs : List BlockT) (br off : Bool) (ops : Int) (t : TableT) (om ob : Option Addr) (cm cb : Nat) (o most : Int) (w : World) (hb : BlocksAt S w vb bs) (hl : bs.length ≤ 1000)
    (hi1 : Ints .i64 w (.slice om t.1.length cm) t.1) (hi2 : Ints .i64 w (.slice ob t.2.length cb) t.2) (hl1 : t.1.length ≤ 1000) (hl2 : t.2.length ≤ 1000) (hwf : WfT t) (her : ∀ b ∈ bs, 0 ≤ b.2.2.1 ∧ b.2.2.1 ≤ 1099511627776) :
    Calls Try.prog 10 #[chipV vb br off ops, .agg #[.slice om t.1.length cm, .slice ob t.2.length cb], .int .i64 o, .int .i64 most] w fun e w' => e = .returned (.bool true) ∧ Mem w w' :=
  lawSame codeVictim codeCold codeRest S vb bs br off ops t om ob cm cb o most w hb hl hi1 hi2 hl1 hl2 hwf her
end Go.Proofs.Ytegamnaahipedaa.Victim
