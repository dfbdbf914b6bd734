/-
  Layer 7: the walk of ReplayNew.
-/
import Derived.Test.YtbibkheiagglbaaReplayAwake
namespace Go.Proofs.Ytbibkheiagglbaa.Replay
open Go.RowKit Go.Proofs.Ytbibkheiagglbaa.Scan Go.Proofs.Ytbibkheiagglbaa.Nand

set_option maxHeartbeats 1000000 in
set_option maxRecDepth 100000 in
theorem replayNew_walk (a0 : Int) (_w0 : (Lit.int .i64 a0).wf = true) (w : World) :
    Calls Try.prog 3 #[.int .i64 a0] w fun e w' => e = .returned (.bool true) ∧ Mem w w' := by
  go_enter Try.func3, Try.ntmps3
  go_wp2_with fail
  refine (awake _).mono ?_
  rintro e w1 ⟨rfl, m1⟩
  go_wp2_with fail
  refine (codeNew a0 _).mono ?_
  rintro e w2 ⟨⟨v2, rfl, ht⟩, m2⟩
  go_wp2_with fail
  refine (refNew7 a0 _).mono ?_
  rintro e w3 ⟨⟨v3, rfl, hu⟩, m3⟩
  go_wp2_with fail
  refine (refSame7 _ _ _ _ _ _ _ (ht.mem m3) hu).mono ?_
  rintro e w4 ⟨rfl, m4⟩
  rw [decide_eq_true (rfl : newT a0 = newT a0)]
  go_wp2_with fail
  go_ret
  exact ⟨rfl, m1.trans (m2.trans (m3.trans m4))⟩
end Go.Proofs.Ytbibkheiagglbaa.Replay
