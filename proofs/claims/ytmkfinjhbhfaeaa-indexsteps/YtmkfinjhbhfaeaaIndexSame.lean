/-
  Layer 9: slots that are compared; whether two lists are the same.
-/
import Derived.Test.YtmkfinjhbhfaeaaIndexRefs2
import Derived.Laws.StructEq
import Derived.BigQuiet
namespace Go.Proofs.Ytmkfinjhbhfaeaa.Index
open Go.RowKit Go.Proofs.Ytmkfinjhbhfaeaa.Scan

theorem eqSlotIn (x0 x1 x2 y0 y1 y2 : Int) (w : World) : (Op.equalIn 10000 42 (.agg #[.int .i64 x0, .int .i64 x1, .int .i64 x2]) (.agg #[.int .i64 y0, .int .i64 y1, .int .i64 y2])).run Try.prog w = .ok (decide (x0 = y0 ∧ x1 = y1 ∧ x2 = y2)) w := by
  have u3 := Try.underlying3
  have a3 := Try.isAgg3
  have z3 := Try.sizeOf3
  have hS : Try.prog.underlying 42 = some (.struct (Try.prog.fieldsOf 42)) := by kernel_rfl
  have hp : Try.prog.stoodInHeld 42 = false := by kernel_rfl
  rw [show (10000 : Nat) = 9999 + 1 from rfl, run_equalIn_agg w 9999 42 _ _ hS hp]
  simp only [Program.fieldsOf, Try.underlying42]
  go_simp
  by_cases h1 : x0 = y0 <;> by_cases h2 : x1 = y1 <;> by_cases h3 : x2 = y2 <;> simp [h1, h2, h3]
set_option maxHeartbeats 1000000 in
set_option maxRecDepth 100000 in
/-- two that are the same -/
theorem refSame9 (S S' : Nat → Prop) (va vb : Value) (l : List SlotT) (w : World) (ha : SlotsAt S w va l) (hb : SlotsAt S' w vb l) :
    Calls Try.prog 16 #[va, vb] w fun e w' => e = .returned (.bool true) ∧ Mem w w' := by
  obtain ⟨oa, ca, rfl⟩ := ha.shape
  obtain ⟨ob, cb, rfl⟩ := hb.shape
  have hal := ha.1
  unfold maxLen at hal
  go_enter Try.func16, Try.ntmps16
  go_wp2_with fail
  go_loopw [5] (fun i wr => ∃ k : Nat, k ≤ l.length ∧ i = .int .i64 k ∧ Mem w wr) (fun i _ => l.length - (intOf i).toNat)
  case atStart => exact ⟨0, Nat.zero_le _, rfl, Mem.refl _⟩
  case round =>
    obtain ⟨k, hk, rfl, hmr⟩ := hrel
    by_cases hlt : k < l.length
    · have hlt' : (k : Int) < (l.length : Int) := by omega
      have hk0 : (0 : Int) ≤ (k : Int) := by omega
      obtain ⟨ab, ao, rfl, _, hca⟩ := (ha.mem hmr).at (by omega)
      obtain ⟨bb, bo, rfl, _, hcb⟩ := (hb.mem hmr).at (by omega)
      obtain ⟨c0, c1, c2⟩ := hca k hlt
      obtain ⟨d0, d1, d2⟩ := hcb k hlt
      clear hca hcb
      generalize slot l k = s at *
      obtain ⟨x0, x1, x2⟩ := s
      simp only [] at c0 c1 c2 d0 d1 d2
      have hne : ∀ w', (Op.equalIn 10000 42 (.agg #[.int .i64 x0, .int .i64 x1, .int .i64 x2]) (.agg #[.int .i64 x0, .int .i64 x1, .int .i64 x2])).run Try.prog w' = .ok true w' := fun w' => by rw [eqSlotIn]; simp
      go_wp2_with fail
      go_quiet (fail)
      have m2 := hmr.trans ((Mem.refl wr).drewN nq)
      go_wp2_with fail
      go_roundw
      case rel => exact ⟨k + 1, by omega, by go_num, m2⟩
      case measure => simp [intOf]; omega
    · have hke : k = l.length := by omega
      subst hke
      have hlt' : ¬ ((l.length : Int) < (l.length : Int)) := by omega
      go_wp2_with fail
      go_ret
      exact ⟨rfl, hmr⟩
end Go.Proofs.Ytmkfinjhbhfaeaa.Index
