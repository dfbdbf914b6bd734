/-
  Layer 8: the walk of LiveAny.
-/
import Derived.Test.YtamngecgkkgnpaaLiveAwake
import Derived.Test.YtamngecgkkgnpaaLiveOpens
namespace Go.Proofs.Ytamngecgkkgnpaa.Live
open Go.RowKit Go.Proofs.Ytamngecgkkgnpaa.Replay Go.Proofs.Ytamngecgkkgnpaa.Scan

set_option maxHeartbeats 4000000 in
set_option maxRecDepth 100000 in
theorem liveAny_walk (t : TableT) (om ob : Option Addr) (cm cb : Nat) (p b : Int) (w : World) (h1 : Ints .i64 w (.slice om t.1.length cm) t.1) (h2 : Ints .i64 w (.slice ob t.2.length cb) t.2) (hw : WfT t) (wp : (Lit.int .i64 p).wf = true) (_ : (Lit.int .i64 b).wf = true) :
    Calls Try.prog 3 #[.agg #[.slice om t.1.length cm, .slice ob t.2.length cb], .int .i64 p, .int .i64 b] w fun e w' => e = .returned (.bool true) ∧ Mem w w' := by
  have hT := Blk.new w #[.slice om t.1.length cm, .slice ob t.2.length cb] 24
  have hm : Mem w (w.alloc (.cells #[.slice om t.1.length cm, .slice ob t.2.length cb] 24)) := (Mem.refl w).alloc _
  have HW := hide hw
  have HP := hide (lit_wfZ wp)
  clear hw wp
  replace h1 := h1.mem hm
  replace h2 := h2.mem hm
  go_enter Try.func3, Try.ntmps3
  go_wp2_with fail
  generalize hW : w.alloc (.cells #[.slice om t.1.length cm, .slice ob t.2.length cb] 24) = W at *
  clear hW
  refine (awake _).mono ?_
  rintro e w1 ⟨rfl, m1⟩
  have x0 := (hT.mem m1).cell (j := 0) rfl
  have x1 := (hT.mem m1).cell (j := 1) rfl
  by_cases l1 : 300 < t.1.length
  · have l1' : (300 : Int) < (t.1.length : Int) := by omega
    go_wp2_with fail
    go_ret
    exact ⟨rfl, hm.trans m1⟩
  · have l1' : (t.1.length : Int) ≤ 300 := by omega
    by_cases l2 : 300 < t.2.length
    · have l2' : (300 : Int) < (t.2.length : Int) := by omega
      go_wp2_with fail
      go_ret
      exact ⟨rfl, hm.trans m1⟩
    · have l2' : (t.2.length : Int) ≤ 300 := by omega
      have hl1 : t.1.length ≤ 1000 := by omega
      have hl2 : t.2.length ≤ 1000 := by omega
      go_wp2_with fail
      refine (lawSame t om ob cm cb p b _ (h1.mem m1) (h2.mem m1) hl1 hl2 HW.out HP.out).mono ?_
      rintro e w2 ⟨rfl, m2⟩
      go_wp2_with fail
      go_ret
      exact ⟨rfl, hm.trans (m1.trans m2)⟩
end Go.Proofs.Ytamngecgkkgnpaa.Live
