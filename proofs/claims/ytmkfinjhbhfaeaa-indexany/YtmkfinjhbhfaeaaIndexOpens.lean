/-
  Layer 9: slots and steps that come in: what is read of them.
-/
import Derived.Test.YtmkfinjhbhfaeaaRowOpens
import Derived.Test.YtmkfinjhbhfaeaaIndexMem
namespace Go.Proofs.Ytmkfinjhbhfaeaa.Index
open Go.RowKit Go.ChangeShapes Go.WideShapes Go.ChangeAt Go.Proofs.Ytmkfinjhbhfaeaa.Nand

variable {H : Type} {enc : TypeId × Value → H} {w : World}
theorem three_of {cs : List Value} (h : cs.length = 3) : ∃ c0 c1 c2, cs = [c0, c1, c2] := by
  match cs, h with
  | [c0, c1, c2], _ => exact ⟨c0, c1, c2, rfl⟩
theorem slot_at {ss : List SlotT} {i : Nat} (h : i < ss.length) : slot ss i = ss[i] := by simp [slot, h]
theorem open_slots {fuel : Nat} {v : Value} {x : DataW H × List MemPlace} (h : DataW.trod enc Try.prog w 0 (fun _ => true) true fuel 22 [v] = some x) : ∃ ss, SlotsAt (fun g => g < w.heap.size) w v ss := by
  have ci : Try.prog.cellsOf 3 = 1 := by kernel_rfl
  have cp : Try.prog.cellsOf 42 = 3 := by kernel_rfl
  rcases open_row Try.underlying22 cp (by decide) h with rfl | ⟨a, len, cap, n, rfl, hl, hg⟩
  · exact ⟨[], SlotsAt.nil _ _ _ _⟩
  · obtain ⟨ss, hpl, hps⟩ := choose_list (α := SlotT) (Q := fun i s => a = ⟨a.block, a.off, none⟩ ∧ a.block < w.heap.size ∧ cells3 w a.block a.off i s) len (by
      intro i hi
      obtain ⟨ha, hlt, cs, y, h1, h2, h3⟩ := hg i hi
      obtain ⟨c0, c1, c2, rfl⟩ := three_of h1
      obtain ⟨xs, n', _, _, _, hxl, hf⟩ := DataW.trod_struct Try.underlying42 h3
      have t0 := hf 0 _ rfl
      have t1 := hf 1 _ rfl
      have t2 := hf 2 _ rfl
      have hxl' : xs.length = 3 := hxl
      rw [List.getElem?_eq_getElem (by omega)] at t0 t1 t2
      have t0' : DataW.trod enc Try.prog w 0 (fun _ => true) true n' 3 [c0] = some xs[0] := by simpa [ci] using t0
      have t1' : DataW.trod enc Try.prog w 0 (fun _ => true) true n' 3 [c1] = some xs[1] := by simpa [ci] using t1
      have t2' : DataW.trod enc Try.prog w 0 (fun _ => true) true n' 3 [c2] = some xs[2] := by simpa [ci] using t2
      obtain ⟨k0, e0, _⟩ := DataW.trod_int Try.underlying3 t0'
      obtain ⟨k1, e1, _⟩ := DataW.trod_int Try.underlying3 t1'
      obtain ⟨k2, e2, _⟩ := DataW.trod_int Try.underlying3 t2'
      obtain rfl : c0 = .int .i64 k0 := by simpa using e0
      obtain rfl : c1 = .int .i64 k1 := by simpa using e1
      obtain rfl : c2 = .int .i64 k2 := by simpa using e2
      exact ⟨(k0, k1, k2), ha, hlt, h2 0 (by decide), h2 1 (by decide), h2 2 (by decide)⟩)
    refine ⟨ss, by omega, ?_⟩
    by_cases h0 : ss.length = 0
    · have : ss = [] := List.length_eq_zero_iff.1 h0
      subst this
      simp at hpl
      subst hpl
      exact .inl ⟨rfl, _, _, rfl⟩
    · have hp0 := hps 0 (by omega)
      exact .inr ⟨a.block, a.off, cap, by rw [hpl]; exact congrArg (fun z => Value.slice (some z) len cap) hp0.1, by omega, hp0.2.1, fun i hi => by rw [slot_at hi]; exact (hps i hi).2.2⟩
/-- what is dropped, or put: whether, the fingerprint, the place -/
abbrev StepT := Bool × Int × Int
def StepOk (s : StepT) : Prop := (0 ≤ s.2.1 ∧ s.2.1 ≤ 255) ∧ 0 ≤ s.2.2 ∧ s.2.2 ≤ 255
def StepsAt (w : World) (v : Value) (ss : List StepT) : Prop :=
  ∃ oa cap, v = .slice oa ss.length cap ∧ ss.length ≤ maxLen ∧ ∀ i (h : i < ss.length), ∃ g off, oa = some ⟨g, off, none⟩ ∧ w.cell? ⟨g, off + i * 3, none⟩ = some (.bool ss[i].1) ∧ w.cell? ⟨g, off + i * 3 + 1, none⟩ = some (.int .u8 ss[i].2.1) ∧ w.cell? ⟨g, off + i * 3 + 2, none⟩ = some (.int .u8 ss[i].2.2) ∧ StepOk ss[i]
theorem StepsAt.mem {w w' : World} {v : Value} {ss : List StepT} (h : StepsAt w v ss) (m : Mem w w') : StepsAt w' v ss := by
  obtain ⟨oa, cap, hv, hl, hc⟩ := h
  refine ⟨oa, cap, hv, hl, fun i hi => ?_⟩
  obtain ⟨g, off, e, h0, h1, h2, h3⟩ := hc i hi
  exact ⟨g, off, e, (Below.cell m (p := ⟨g, off + i * 3, none⟩) (World.block_lt_of_cell? w _ h0)).trans h0, (Below.cell m (p := ⟨g, off + i * 3 + 1, none⟩) (World.block_lt_of_cell? w _ h1)).trans h1, (Below.cell m (p := ⟨g, off + i * 3 + 2, none⟩) (World.block_lt_of_cell? w _ h2)).trans h2, h3⟩
theorem open_steps {fuel : Nat} {v : Value} {x : DataW H × List MemPlace} (h : DataW.trod enc Try.prog w 0 (fun _ => true) true fuel 25 [v] = some x) : ∃ ss, StepsAt w v ss := by
  have cu : Try.prog.cellsOf 5 = 1 := by kernel_rfl
  have cb : Try.prog.cellsOf 4 = 1 := by kernel_rfl
  have cp : Try.prog.cellsOf 27 = 3 := by kernel_rfl
  rcases open_row Try.underlying25 cp (by decide) h with rfl | ⟨a, len, cap, n, rfl, hl, hg⟩
  · exact ⟨[], none, 0, rfl, by simp, fun i h => by simp at h⟩
  · obtain ⟨ss, hpl, hps⟩ := choose_list (α := StepT) (Q := fun i s => a = ⟨a.block, a.off, none⟩ ∧ w.cell? ⟨a.block, a.off + i * 3, none⟩ = some (.bool s.1) ∧ w.cell? ⟨a.block, a.off + i * 3 + 1, none⟩ = some (.int .u8 s.2.1) ∧ w.cell? ⟨a.block, a.off + i * 3 + 2, none⟩ = some (.int .u8 s.2.2) ∧ StepOk s) len (by
      intro i hi
      obtain ⟨ha, hlt, cs, y, h1, h2, h3⟩ := hg i hi
      obtain ⟨c0, c1, c2, rfl⟩ := three_of h1
      obtain ⟨xs, n', _, _, _, hxl, hf⟩ := DataW.trod_struct Try.underlying27 h3
      have t0 := hf 0 _ rfl
      have t1 := hf 1 _ rfl
      have t2 := hf 2 _ rfl
      have hxl' : xs.length = 3 := hxl
      rw [List.getElem?_eq_getElem (by omega)] at t0 t1 t2
      have t0' : DataW.trod enc Try.prog w 0 (fun _ => true) true n' 4 [c0] = some xs[0] := by simpa [cb] using t0
      have t1' : DataW.trod enc Try.prog w 0 (fun _ => true) true n' 5 [c1] = some xs[1] := by simpa [cu] using t1
      have t2' : DataW.trod enc Try.prog w 0 (fun _ => true) true n' 5 [c2] = some xs[2] := by simpa [cu] using t2
      obtain ⟨b, e0, _⟩ := DataW.trod_bool Try.underlying4 t0'
      obtain ⟨k1, e1, _, q1⟩ := DataW.trod_int Try.underlying5 t1'
      obtain ⟨k2, e2, _, q2⟩ := DataW.trod_int Try.underlying5 t2'
      obtain rfl : c0 = .bool b := by simpa using e0
      obtain rfl : c1 = .int .u8 k1 := by simpa using e1
      obtain rfl : c2 = .int .u8 k2 := by simpa using e2
      exact ⟨(b, k1, k2), ha, h2 0 (by decide), h2 1 (by decide), h2 2 (by decide), u8_range q1, u8_range q2⟩)
    refine ⟨ss, some a, cap, by rw [hpl], by omega, fun i hi => ?_⟩
    obtain ⟨ha, h0, h1, h2, h3⟩ := hps i hi
    exact ⟨a.block, a.off, by rw [← ha], h0, h1, h2, h3⟩
end Go.Proofs.Ytmkfinjhbhfaeaa.Index
