/-
  Layer 10, the program: Many.
-/
import Derived.RangeFuncBox
import Derived.Maps.AppendAt
import Derived.Test.YtlgofanenkbgoaaStatesIter
namespace Go.Proofs.Ytlgofanenkbgoaa.States
open Go.RowKit Go.Shelf Go.Proofs.Ytlgofanenkbgoaa.Nand
attribute [local go_sem] Oper.semAt_some

theorem in_stops (n Bc Bo Bs : Nat) (hn : 1 ≤ n) (oa : Option Addr) (ca : Nat) (bs : List BlockT) (br off : Bool) (ops o s : Int) (S S' : Nat → Prop) (hS : ∀ k, S' k → S k) (hSc : S Bc) (hSo : S Bo) (hSs : S Bs) (hlen : bs.length ≤ 1000) (w0 : World) (hc : Blk w0 Bc 24 #[.slice oa bs.length ca, .bool br, .bool off, .int .i64 ops]) (ho : w0.cell? ⟨Bo, 0, none⟩ = some (.int .i64 o)) (hs : w0.cell? ⟨Bs, 0, none⟩ = some (.int .i64 s)) (hb : BlocksAt S' w0 (.slice oa bs.length ca) bs) :
    SeqStopsK Fence.wide n Try.prog 34 #[.pointer (some ⟨Bc, 0, none⟩), .pointer (some ⟨Bo, 0, none⟩), .pointer (some ⟨Bs, 0, none⟩)] (fun x : Nat => #[Value.int .i64 (x : Int)]) (KeepsIn S) (fun ys => ys = insN bs o s bs.length) (fun _ => True) bs.length w0 := fun t J Jx W hW hJ _ hY h0 =>
  in1 n t Bc Bo Bs _ hn oa ca bs br off ops o s S S' hS hSc hSo hSs hlen w0 hc ho hs hb J Jx hJ (fun pre x W h1 h2 _ => hY pre x W h1 h2) W (KeepsIn.mem hW) h0
set_option maxRecDepth 100000 in
theorem codeIn (oa : Option Addr) (n ca : Nat) (br off : Bool) (ops o s : Int) (w : World) : Calls Try.prog 25 #[.agg #[.slice oa n ca, .bool br, .bool off, .int .i64 ops], .int .i64 o, .int .i64 s] w fun e w' => e = .returned (.func (.func 34) #[] #[.pointer (some ⟨w.heap.size, 0, none⟩), .pointer (some ⟨w.heap.size + 1, 0, none⟩), .pointer (some ⟨w.heap.size + 1 + 1, 0, none⟩)]) ∧ w' = ((w.alloc (.cells #[.slice oa n ca, .bool br, .bool off, .int .i64 ops] 24)).alloc (.cells #[.int .i64 o] 3)).alloc (.cells #[.int .i64 s] 3) := by
  go_enter Try.func25, Try.ntmps25
  go_wp2_with fail
  go_ret
  simp
set_option maxRecDepth 100000 in
set_option maxHeartbeats 4000000 in
theorem codeMany : ManySpec 13 := by
  intro S vb bs br off ops o s w hb hl
  obtain ⟨oa, ca, rfl⟩ := hb.shape
  refine (callsIn_wide (n := 6)).1 ?_
  have w25 : Fence.wide.fn 25 := trivial
  have b0 := Blk.new w #[.slice oa bs.length ca, .bool br, .bool off, .int .i64 ops] 24
  have m1 : Mem w (w.alloc (.cells #[.slice oa bs.length ca, .bool br, .bool off, .int .i64 ops] 24)) := (Mem.refl w).alloc _
  simp only [chipV]
  refine callsIn_of_wp_marks Try.func13 rfl trivial ?_ rfl
  simp only [Try.ntmps13, List.size_toArray, List.length_cons, List.length_nil, Nat.reduceAdd, Nat.reduceSub, Array.replicate_succ, Array.replicate_zero, List.push_toArray, List.append_toArray, List.nil_append, List.cons_append]
  have c0 := b0.cell (j := 0) rfl
  have c1 := b0.cell (j := 1) rfl
  have c2 := b0.cell (j := 2) rfl
  have c3 := b0.cell (j := 3) rfl
  gi_wp2_with (gi_at_call 25; refine (callsIn_wide.2 (codeIn _ _ _ _ _ _ _ _ _)).mono ?_; rintro e w' ⟨rfl, rfl⟩)
  obtain ⟨w1, hw1⟩ : ∃ w1, w.alloc (.cells #[.slice oa bs.length ca, .bool br, .bool off, .int .i64 ops] 24) = w1 := ⟨_, rfl⟩
  have s1 : w1.heap.size = w.heap.size + 1 := by rw [← hw1]; simp
  rw [hw1] at m1
  clear b0 c0 c1 c2 c3
  rw [hw1]
  clear hw1
  obtain ⟨w2, hw2⟩ : ∃ w2, w1.alloc (.cells #[.int .i64 0] 3) = w2 := ⟨_, rfl⟩
  have s2 : w2.heap.size = w.heap.size + 2 := by rw [← hw2]; simp [s1]
  have m2 : Mem w1 w2 := by rw [← hw2]; exact (Mem.refl w1).alloc _
  have b1 : Boxed w2 (w.heap.size + 1) 3 (.int .i64 0) := by rw [← hw2, ← s1]; exact Boxed.new _ _ _
  rw [hw2]
  clear hw2
  obtain ⟨w3, hw3⟩ : ∃ w3, w2.alloc (.cells #[.slice oa bs.length ca, .bool br, .bool off, .int .i64 ops] 24) = w3 := ⟨_, rfl⟩
  have s3 : w3.heap.size = w.heap.size + 3 := by rw [← hw3]; simp [s2]
  have m3 : Mem w2 w3 := by rw [← hw3]; exact (Mem.refl w2).alloc _
  have b2 : Blk w3 (w.heap.size + 1 + 1) 24 #[.slice oa bs.length ca, .bool br, .bool off, .int .i64 ops] := by rw [← hw3, show w.heap.size + 1 + 1 = w2.heap.size by omega]; exact Blk.new _ _ _
  rw [hw3]
  clear hw3
  obtain ⟨w4, hw4⟩ : ∃ w4, w3.alloc (.cells #[.int .i64 o] 3) = w4 := ⟨_, rfl⟩
  have s4 : w4.heap.size = w.heap.size + 4 := by rw [← hw4]; simp [s3]
  have m4 : Mem w3 w4 := by rw [← hw4]; exact (Mem.refl w3).alloc _
  have b3 : Blk w4 (w.heap.size + 1 + 1 + 1) 3 #[.int .i64 o] := by rw [← hw4, show w.heap.size + 1 + 1 + 1 = w3.heap.size by omega]; exact Blk.new _ _ _
  rw [hw4]
  clear hw4
  obtain ⟨w5, hw5⟩ : ∃ w5, w4.alloc (.cells #[.int .i64 s] 3) = w5 := ⟨_, rfl⟩
  have s5 : w5.heap.size = w.heap.size + 5 := by rw [← hw5]; simp [s4]
  have m5 : Mem w4 w5 := by rw [← hw5]; exact (Mem.refl w4).alloc _
  have b4 : Blk w5 (w.heap.size + 1 + 1 + 1 + 1) 3 #[.int .i64 s] := by rw [← hw5, show w.heap.size + 1 + 1 + 1 + 1 = w4.heap.size by omega]; exact Blk.new _ _ _
  rw [hw5]
  clear hw5
  replace b3 := b3.mem m5
  have m35 := m4.trans m5
  replace b2 := b2.mem m35
  have m25 := m3.trans m35
  replace b1 : Boxed w5 (w.heap.size + 1) 3 (.int .i64 0) := (m25.block _ b1.lt).trans b1
  have m05 := m1.trans (m2.trans m25)
  have hb5 := ((hb.mono (S' := fun k => k < w.heap.size) (fun g _ hl => hl)).mem m05).mono (S' := fun k => k < w5.heap.size ∧ k ≠ w.heap.size + 1) (fun g hg hl => ⟨hl, by omega⟩)
  clear s1 s2 s3 s4 m1 m2 m3 m4 m5 m35 m25
  refine wpIn_rangeFunc_ownG rfl (by decide) (gf := 34) (lb := #[.pointer (some ⟨w.heap.size + 1 + 1, 0, none⟩), .pointer (some ⟨w.heap.size + 1 + 1 + 1, 0, none⟩), .pointer (some ⟨w.heap.size + 1 + 1 + 1 + 1, 0, none⟩)]) rfl trivial (enters_of Try.func34 (by kernel_rfl) rfl)
    (in_stops 5 (w.heap.size + 1 + 1) (w.heap.size + 1 + 1 + 1) (w.heap.size + 1 + 1 + 1 + 1) (by decide) oa ca bs br off ops o s (fun k => k < w5.heap.size ∧ k ≠ w.heap.size + 1) (fun k => k < w5.heap.size ∧ k ≠ w.heap.size + 1) (fun _ h => h) (by show _ < _ ∧ _; omega) (by show _ < _ ∧ _; omega) (by show _ < _ ∧ _; omega) hl w5 b2 (b3.cell (j := 0) rfl) (b4.cell (j := 0) rfl) hb5)
    (fun h k => KeepsIn.trans h k) (fun X k o o' hk _ _ _ => KeepsIn.turned (by show ¬ (_ < _ ∧ _); omega) o') (Below.refl _ _) (fun _ => rfl)
    (fun pre X => Boxed X (w.heap.size + 1) 3 (.int .i64 (pre.length : Nat)) ∧ Below w.heap.size w X)
    (fun _ _ _ => False)
    (OwnFrom.and (Own.from (boxed_own (w.heap.size + 1) 3 (fun (pre : List Nat) => .int .i64 (pre.length : Nat))) _) (ownFrom_below (Nat.le_refl _) (by omega)))
    (fun _ _ _ _ _ hs _ _ => hs)
    ⟨b1, m05⟩
    (fun x => { tmps := #[.agg #[.slice oa bs.length ca, .bool br, .bool off, .int .i64 ops], .int .i64 o, .int .i64 s, .pointer (some ⟨w.heap.size, 0, none⟩), undef, undef, .int .i64 0, .pointer (some ⟨w.heap.size + 1, 0, none⟩), .agg #[.slice oa bs.length ca, .bool br, .bool off, .int .i64 ops], .int .i64 o, .int .i64 s, .func (.func 34) #[] #[.pointer (some ⟨w.heap.size + 1 + 1, 0, none⟩), .pointer (some ⟨w.heap.size + 1 + 1 + 1, 0, none⟩), .pointer (some ⟨w.heap.size + 1 + 1 + 1 + 1, 0, none⟩)], .int .i64 (x : Nat), undef, undef, undef], defers := [] }) ?assign ?body ?done ?stop
  case assign =>
    intro l x X K hK
    gi_wp2
    simpa using hK
  case body =>
    rintro l pre x X ⟨hv, hB⟩ hlt
    have hc := hv.cell
    have hf := hv.frozen
    have hsz := hB.size
    have hn : (pre.length : Int) + 1 ≤ 1001 := by omega
    gi_wp2
    refine ⟨(KeepsOthers.setCell _ _ _).from _, KeepsIn.setCell (by show ¬ (_ < _ ∧ _); simp) _, ?_, hB.setCell (p := ⟨w.heap.size + 1, 0, none⟩) (by show w.heap.size ≤ w.heap.size + 1; omega) _⟩
    have h2 := hv.set (.int .i64 ((pre ++ [x]).length : Nat))
    simpa using h2
  case done =>
    rintro D ys X hD rfl ⟨hv, hB⟩ hK
    have hc := hv.cell
    have HE : Hid (((insN bs o s bs.length).length : Int) = (manyT bs o s : Int)) := by show _ = _; rw [ins_len]; rfl
    gi_wp2
    refine ⟨by simp, .inl ⟨_, _, rfl, run_takeDeferred hK, ?_⟩⟩
    refine ⟨_, results_tmp rfl _ _ _, ?_, hB.trans (belowK_b (w := w) (Nat.le_refl _) X D _ _ (by omega) hK rfl rfl)⟩
    exact ret_int HE.out
  case stop =>
    rintro D c pre X _ _ h _
    exact h.elim
end Go.Proofs.Ytlgofanenkbgoaa.States
