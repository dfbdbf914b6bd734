/-
  Layer 9: what any right program answers; the laws' comparison.
-/
import Derived.Test.YtmkfinjhbhfaeaaIndexSame
import Derived.Test.YtmkfinjhbhfaeaaIndexCode
import Derived.Test.YtmkfinjhbhfaeaaLowWalks
namespace Go.Proofs.Ytmkfinjhbhfaeaa.Index
open Go.RowKit Go.Proofs.Ytmkfinjhbhfaeaa.Scan

def lA : List SlotT := [(0, 0, 0), (1, 5, 7), (0, 0, 0), (0, 0, 0)]
def mA : List SlotT := [(0, 0, 0), (1, 5, 7), (1, 5, 8), (0, 0, 0)]
def nA : List SlotT := [(0, 0, 0), (2, 0, 0), (1, 5, 8), (0, 0, 0)]
theorem aw1 : putT (emptyT 4) 5 7 = (lA, 0) := by decide
theorem aw2 : putT lA 5 8 = (mA, 0) := by decide
theorem aw3 : dropT mA 5 7 = nA := by decide
theorem aw4 : putT [] 1 1 = ([], 40) := by decide
theorem aw5 : putT lA (-1) 1 = ([], 1) := by decide
theorem aw6 : findT mA 5 = [7, 8] := by decide
theorem aw7 : findT nA 5 = [8] := by decide
set_option maxHeartbeats 4000000 in
set_option maxRecDepth 100000 in
theorem awake (w : World) : Calls Try.prog 8 #[] w fun e w' => e = .returned (.bool true) ∧ Mem w w' := by
  have hmk : (Instr.makeSlice 22 (.int .i64 4) (.int .i64 4)).run Try.prog w = .ok (.slice (some ⟨w.heap.size, 0, none⟩) 4 4) (w.alloc (.cells (madeCells #[.int .i64 0, .int .i64 0, .int .i64 0] (4 * 3)) 42)) := run_makeSlots 4 (by decide) w
  have hR := made_slots w 4
  have ma : Mem w (w.alloc (.cells (madeCells #[.int .i64 0, .int .i64 0, .int .i64 0] (4 * 3)) 42)) := (Mem.refl w).alloc _
  generalize hW : w.alloc (.cells (madeCells #[.int .i64 0, .int .i64 0, .int .i64 0] (4 * 3)) 42) = W at *
  have hs0 := hR.slots (S := fun _ => True) (by simp [empty_len, maxLen]) trivial 4
  rw [empty_len] at hs0
  go_enter Try.func8, Try.ntmps8
  go_wp2_with fail
  clear hW hmk hR
  refine (codePut _ _ (emptyT 4) 5 7 _ hs0 (by decide)).mono ?_
  rintro e w1 ⟨⟨v1, rfl, h1⟩, m1⟩
  rw [aw1] at h1 ⊢
  obtain ⟨o1, c1, rfl⟩ := h1.shape
  replace m1 := ma.trans m1
  clear hs0 ma
  go_wp2_with fail
  refine (codePut _ _ lA 5 8 _ h1 (by decide)).mono ?_
  rintro e w2 ⟨⟨v2, rfl, h2⟩, m2⟩
  rw [aw2] at h2 ⊢
  obtain ⟨o2, c2, rfl⟩ := h2.shape
  replace h1 := h1.mem m2
  replace m2 := m1.trans m2
  clear m1
  go_wp2_with fail
  refine (codeDrop _ _ mA 5 7 _ h2 (by decide)).mono ?_
  rintro e w3 ⟨⟨v3, rfl, h3⟩, m3⟩
  rw [aw3] at h3
  obtain ⟨o3, c3, rfl⟩ := h3.shape
  replace h1 := h1.mem m3
  replace h2 := h2.mem m3
  replace m3 := m2.trans m3
  clear m2
  go_wp2_with fail
  refine (codePut (fun _ => True) _ [] 1 1 _ (SlotsAt.nil _ _ _ _) (by decide)).mono ?_
  rintro e w4 ⟨⟨v4, rfl, h4⟩, m4⟩
  rw [aw4] at h4 ⊢
  obtain ⟨o4, c4, rfl⟩ := h4.shape
  replace h1 := h1.mem m4
  replace h2 := h2.mem m4
  replace h3 := h3.mem m4
  replace m4 := m3.trans m4
  clear m3 h4
  go_wp2_with fail
  refine (codePut _ _ lA (-1) 1 _ h1 (by decide)).mono ?_
  rintro e w5 ⟨⟨v5, rfl, h5⟩, m5⟩
  rw [aw5] at h5 ⊢
  obtain ⟨o5, c5, rfl⟩ := h5.shape
  replace h2 := h2.mem m5
  replace h3 := h3.mem m5
  replace m5 := m4.trans m5
  clear m4 h5 h1
  go_wp2_with fail
  refine (codeFind _ _ mA 5 _ h2 (by decide)).mono ?_
  rintro e w6 ⟨⟨v6, rfl, h6⟩, m6⟩
  rw [aw6] at h6
  obtain ⟨o6, c6, rfl⟩ := h6.ints.shape
  replace h3 := h3.mem m6
  replace m6 := m5.trans m6
  have k6 := Ints.lit .i64 w6 [7, 8] 3 (by simp [maxLen])
  have ma6 := (Mem.refl w6).alloc (.cells ([7, 8].map (Value.int .i64)).toArray 3)
  have j6 := h6.ints.mem ma6
  replace h3 := h3.mem ma6
  clear m5 h2 h6
  go_wp2_with fail
  refine (Pack.refSame _ _ [7, 8] [7, 8] _ j6 k6).mono ?_
  rintro e w7 ⟨rfl, n7⟩
  rw [show decide (([7, 8] : List Int) = [7, 8]) = true from by decide]
  have q7 := Mem.quiet n7
  have m7 := (m6.trans ma6).trans q7
  replace h3 := h3.mem q7
  clear m6 ma6 j6 k6 n7 q7
  go_wp2_with fail
  refine (codeFind _ _ nA 5 _ h3 (by decide)).mono ?_
  rintro e w8 ⟨⟨v8, rfl, h8⟩, m8⟩
  rw [aw7] at h8
  obtain ⟨o8, c8, rfl⟩ := h8.ints.shape
  replace h3 := h3.mem m8
  replace m8 := m7.trans m8
  have k8 := Ints.lit .i64 w8 [8] 3 (by simp [maxLen])
  have ma8 := (Mem.refl w8).alloc (.cells ([8].map (Value.int .i64)).toArray 3)
  have j8 := h8.ints.mem ma8
  replace h3 := h3.mem ma8
  clear m7 h8
  go_wp2_with fail
  refine (Pack.refSame _ _ [8] [8] _ j8 k8).mono ?_
  rintro e w9 ⟨rfl, n9⟩
  rw [show decide (([8] : List Int) = [8]) = true from by decide]
  have q9 := Mem.quiet n9
  have m9 := (m8.trans ma8).trans q9
  replace h3 := h3.mem q9
  clear m8 ma8 j8 k8 n9 q9
  obtain ⟨ab, ao, rfl, _, hc⟩ := h3.at (by decide)
  obtain ⟨d0, d1, d2⟩ := hc 1 (by decide)
  rw [show slot nA 1 = (2, 0, 0) from rfl] at d0 d1 d2
  simp only [] at d0 d1 d2
  have hne : ∀ w', (Op.equalIn 10000 42 (.agg #[.int .i64 2, .int .i64 0, .int .i64 0]) (.agg #[.int .i64 2, .int .i64 0, .int .i64 0])).run Try.prog w' = .ok true w' := fun w' => by rw [eqSlotIn]; simp
  have hln : nA.length = 4 := rfl
  rw [hln]
  clear h3 hc hln
  go_wp2_with fail
  go_ret
  exact ⟨rfl, m9⟩
end Go.Proofs.Ytmkfinjhbhfaeaa.Index
