/-
  What any right program answers: 'awake' of the statements of layer 1 is true.
-/
import Derived.Test.YtmchpcancpmccaaCrcBytes
namespace Go.Proofs.Ytmchpcancpmccaa.Crc
open Go.RowKit

set_option maxHeartbeats 400000 in
theorem awake (w : World) :
    Calls Try.prog 8 #[] w fun e w' => e = .returned (.bool true) ∧ Mem w w' := by
  go_enter Try.func8, Try.ntmps8
  go_wp2_with fail
  refine (crcSum _ _ (by decide)).mono ?_
  rintro e w' ⟨rfl, rfl⟩
  rw [show sum _ = 3421780262 from sum_digits]
  go_wp2_with fail
  refine (crcSum _ _ (by decide)).mono ?_
  rintro e w' ⟨rfl, rfl⟩
  rw [show sum _ = 0 from sum_nil]
  go_wp2_with fail
  refine (crcPrint _ _ (by decide)).mono ?_
  rintro e w' ⟨rfl, rfl⟩
  rw [show sum _ = 3421780262 from sum_digits]
  go_wp2_with fail
  refine (crcBytes_yes 67305985 _ (by decide)).mono ?_
  rintro e w' ⟨rfl, hg⟩
  go_wp2_with fail
  refine (crcBytes_no (-1) _ (by decide)).mono ?_
  rintro e w' ⟨rfl, rfl⟩
  go_wp2_with fail
  go_ret
  exact ⟨rfl, hg⟩
end Go.Proofs.Ytmchpcancpmccaa.Crc
