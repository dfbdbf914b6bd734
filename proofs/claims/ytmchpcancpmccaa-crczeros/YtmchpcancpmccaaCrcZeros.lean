/-
  The walk of CrcZeros.
-/
import Derived.Test.YtmchpcancpmccaaCrcAwake
import Derived.Deep.QuietTactic
import Derived.BigQuiet
import Derived.OpenShut
namespace Go.Proofs.Ytmchpcancpmccaa.Crc
open Go.RowKit
set_option linter.unusedVariables false

def zeroCells : Array Value := Array.replicate 200 (.int .u8 0)
def zeroText : ByteArray := ⟨(List.replicate 200 0).toArray⟩
theorem zeroText_size : zeroText.size = 200 := by decide +kernel
theorem make200 (w : World) : (Instr.makeSlice 27 (.int .i64 200) (.int .i64 200)).run Try.prog w = .ok (.slice (some ⟨w.heap.size, 0, none⟩) 200 200) (w.alloc (.cells zeroCells 5)) := by kernel_rfl
theorem convN (w : World) (N : Nat) : (convert 27 9 (.slice (some ⟨w.heap.size, 0, none⟩) N N)).run Try.prog (w.alloc (.cells (Array.replicate N (.int .u8 0)) 5)) = .ok (.string ⟨(List.replicate N 0).toArray⟩) (w.alloc (.cells (Array.replicate N (.int .u8 0)) 5)) := by
  refine (run_convert_bytes_arg _ 27 5 Try.underlying27 Try.underlying5 w.heap.size 0 N N (List.replicate N 0) (by simp) ?_ 9 Try.underlying9).trans ?_
  · intro i hi
    rw [World.cell?_alloc_mark]
    simp [List.getD, hi]
  · have : strOfNums (List.replicate N 0) = ⟨(List.replicate N 0).toArray⟩ := by unfold strOfNums; simp
    rw [this]
theorem conv200 (w : World) : (convert 27 9 (.slice (some ⟨w.heap.size, 0, none⟩) 200 200)).run Try.prog (w.alloc (.cells zeroCells 5)) = .ok (.string zeroText) (w.alloc (.cells zeroCells 5)) := convN w 200
theorem takeN (N n : Nat) (h : n ≤ N) : List.take n (ByteArray.mk (List.replicate N 0).toArray).data.toList = List.replicate n 0 := by
  simp [Nat.min_eq_left h]
theorem zeros_take (n : Nat) (h : n ≤ 200) : List.take n zeroText.data.toList = List.replicate n 0 := by
  unfold zeroText; exact takeN 200 n h
theorem zeros_fin (n m : Nat) : ((((sum (List.take (n % 200) zeroText.data.toList) : Nat) : Int) == ((sum (List.take (m % 200) zeroText.data.toList) : Nat) : Int)) == ((n : Int) % 200 == (m : Int) % 200)) = true := by
  rw [zeros_take _ (by omega), zeros_take _ (by omega)]
  have h := zeros_iff (n % 200) (m % 200) (by omega) (by omega)
  generalize sum (List.replicate (n % 200) 0) = x at *
  generalize sum (List.replicate (m % 200) 0) = y at *
  by_cases hx : x = y
  · have e1 : ((x : Int) == (y : Int)) = true := by rw [beq_iff_eq]; omega
    have e2 : ((n : Int) % 200 == (m : Int) % 200) = true := by have := h.1 hx; rw [beq_iff_eq]; omega
    rw [e1, e2]; rfl
  · have e1 : ((x : Int) == (y : Int)) = false := by rw [beq_eq_false_iff_ne]; omega
    have e2 : ((n : Int) % 200 == (m : Int) % 200) = false := by rw [beq_eq_false_iff_ne]; intro e; exact hx (h.2 (by omega))
    rw [e1, e2]; rfl

set_option maxHeartbeats 400000 in
theorem crcZeros_walk (a0 : Int) (a1 : Int) (w0 : (Lit.int .u8 a0).wf = true) (w1 : (Lit.int .u8 a1).wf = true) (w : World) :
    Calls Try.prog 7 #[.int .u8 a0, .int .u8 a1] w fun e w' => e = .returned (.bool true) ∧ Mem w w' := by
  have hb0 : 0 ≤ a0 ∧ a0 ≤ 255 := bounds_u8 w0
  have hb1 : 0 ≤ a1 ∧ a1 ≤ 255 := bounds_u8 w1
  obtain ⟨n, rfl⟩ := Int.eq_ofNat_of_zero_le hb0.1
  obtain ⟨m, rfl⟩ := Int.eq_ofNat_of_zero_le hb1.1
  have k1 := make200
  have k2 := conv200
  have k3 := zeroText_size
  go_enter Try.func7, Try.ntmps7
  go_wp2_with fail
  refine (awake _).mono ?_
  rintro e w' ⟨rfl, hg⟩
  go_wp2_with fail
  go_quiet ((go_at_call 9; exact Calls.quiet_of_same (crcSum _ _ (by simp [maxLen]; omega))))
  go_wp2
  go_ret
  exact ⟨ret_bool (zeros_fin n m), (hg.alloc _).drewN _⟩
end Go.Proofs.Ytmchpcancpmccaa.Crc
