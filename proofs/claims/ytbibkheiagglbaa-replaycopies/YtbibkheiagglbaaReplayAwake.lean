/-
  Layer 7: what any right program answers.
-/
import Derived.Test.YtbibkheiagglbaaReplayFold
namespace Go.Proofs.Ytbibkheiagglbaa.Replay
open Go.RowKit Go.Proofs.Ytbibkheiagglbaa.Scan Go.Proofs.Ytbibkheiagglbaa.Nand

theorem aw_new : newT 4 = ([-1, -1, -1, -1], [-1, -1, -1, -1]) := by decide
theorem aw_one : applyT ([-1, -1, -1, -1], [-1, -1, -1, -1]) (5, 1, 0, [3], []) = ([-1, -1, -1, 5], [-1, -1, -1, 5]) := by decide
theorem aw_two : applyT ([-1, -1, -1, 5], [-1, -1, -1, 5]) (6, 2, 0, [3], [-1]) = ([-1, -1, -1, -1], [-1, -1, -1, 6]) := by decide
/-- two rows that were just written out -/
theorem TabV.lit (w : World) (l m : List Int) (hl : l.length ≤ 1000) (hm : m.length ≤ 1000) :
    TabV (fun _ => True) ((w.alloc (.cells (l.map (Value.int .i64)).toArray 3)).alloc (.cells (m.map (Value.int .i64)).toArray 3)) (.agg #[.slice (some ⟨w.heap.size, 0, none⟩) l.length l.length, .slice (some ⟨w.heap.size + 1, 0, none⟩) m.length m.length]) (l, m) := by
  have h1 := (Ints.lit .i64 w l 3 (by unfold maxLen; omega)).mem ((Mem.refl _).alloc (.cells (m.map (Value.int .i64)).toArray 3))
  have h2 := Ints.lit .i64 (w.alloc (.cells (l.map (Value.int .i64)).toArray 3)) m 3 (by unfold maxLen; omega)
  rw [show (w.alloc (.cells (l.map (Value.int .i64)).toArray 3)).heap.size = w.heap.size + 1 by simp] at h2
  exact ⟨_, _, _, _, rfl, (IntsIn.of_ints h1).mono fun _ _ _ => trivial, (IntsIn.of_ints h2).mono fun _ _ _ => trivial⟩
theorem BlocksAt.none (w : World) : BlocksAt (fun _ => True) w (.slice none 0 0) [] := by
  unfold BlocksAt
  simp [maxLen]
set_option maxHeartbeats 2000000 in
set_option maxRecDepth 100000 in
theorem awake (w : World) : Calls Try.prog 11 #[] w fun e w' => e = .returned (.bool true) ∧ Mem w w' := by
  go_enter Try.func11, Try.ntmps11
  go_wp2_with fail
  refine (codeNew 4 _).mono ?_
  rintro e w1 ⟨⟨v1, rfl, ht⟩, m1⟩
  rw [aw_new] at ht
  obtain ⟨om, cm, ob, cb, rfl, i1, i2⟩ := ht
  replace i1 := i1.ints
  replace i2 := i2.ints
  have ma : Mem w1 (w1.alloc (.cells #[.int .i64 3] 3)) := (Mem.refl w1).alloc _
  have hk : Ints .i64 (w1.alloc (.cells #[.int .i64 3] 3)) (.slice (some ⟨w1.heap.size, 0, none⟩) 1 1) [3] := Ints.lit .i64 w1 [3] 3 (by simp [maxLen])
  have i1' := i1.mem ma
  have i2' := i2.mem ma
  have m1' := m1.trans ma
  clear i1 i2 ma
  go_wp2_with fail
  generalize w1.alloc (.cells #[.int .i64 3] 3) = W1 at *
  refine (codeApply ([-1, -1, -1, -1], [-1, -1, -1, -1]) om ob cm cb 5 1 0 _ none 1 0 [3] [] W1 i1' i2' (by decide) (by decide) hk (Ints.nil _ _ _ _)).mono ?_
  rintro e w2 ⟨⟨v2, rfl, ht⟩, m2⟩
  rw [aw_one] at ht
  obtain ⟨om2, cm2, ob2, cb2, rfl, i1, i2⟩ := ht
  replace i1 := i1.ints
  replace i2 := i2.ints
  clear i1' i2' hk
  have ma : Mem w2 (((w2.alloc (.cells #[.slice om2 4 cm2, .slice ob2 4 cb2] 26)).alloc (.cells #[.int .i64 3] 3)).alloc (.cells #[.int .i64 (-1)] 3)) := (((Mem.refl w2).alloc _).alloc _).alloc _
  have hX : Blk (((w2.alloc (.cells #[.slice om2 4 cm2, .slice ob2 4 cb2] 26)).alloc (.cells #[.int .i64 3] 3)).alloc (.cells #[.int .i64 (-1)] 3)) w2.heap.size 26 #[.slice om2 4 cm2, .slice ob2 4 cb2] := ((Blk.new w2 _ _).alloc _).alloc _
  have hk : Ints .i64 (((w2.alloc (.cells #[.slice om2 4 cm2, .slice ob2 4 cb2] 26)).alloc (.cells #[.int .i64 3] 3)).alloc (.cells #[.int .i64 (-1)] 3)) (.slice (some ⟨w2.heap.size + 1, 0, none⟩) 1 1) [3] := by
    have h := (Ints.lit .i64 (w2.alloc (.cells #[.slice om2 4 cm2, .slice ob2 4 cb2] 26)) [3] 3 (by simp [maxLen])).mem ((Mem.refl _).alloc (.cells #[.int .i64 (-1)] 3))
    rw [show (w2.alloc (.cells #[.slice om2 4 cm2, .slice ob2 4 cb2] 26)).heap.size = w2.heap.size + 1 by simp] at h
    exact h
  have hv : Ints .i64 (((w2.alloc (.cells #[.slice om2 4 cm2, .slice ob2 4 cb2] 26)).alloc (.cells #[.int .i64 3] 3)).alloc (.cells #[.int .i64 (-1)] 3)) (.slice (some ⟨w2.heap.size + 1 + 1, 0, none⟩) 1 1) [-1] := by
    have h := Ints.lit .i64 ((w2.alloc (.cells #[.slice om2 4 cm2, .slice ob2 4 cb2] 26)).alloc (.cells #[.int .i64 3] 3)) [-1] 3 (by simp [maxLen])
    rw [show ((w2.alloc (.cells #[.slice om2 4 cm2, .slice ob2 4 cb2] 26)).alloc (.cells #[.int .i64 3] 3)).heap.size = w2.heap.size + 1 + 1 by simp] at h
    exact h
  have i1' := i1.mem ma
  have i2' := i2.mem ma
  have m2' := m1'.trans (m2.trans ma)
  clear i1 i2 ma m2 m1'
  go_wp2_with fail
  generalize ((w2.alloc (.cells #[.slice om2 4 cm2, .slice ob2 4 cb2] 26)).alloc (.cells #[.int .i64 3] 3)).alloc (.cells #[.int .i64 (-1)] 3) = W2 at *
  generalize w2.heap.size = B1 at *
  refine (codeApply ([-1, -1, -1, 5], [-1, -1, -1, 5]) om2 ob2 cm2 cb2 6 2 0 _ _ 1 1 [3] [-1] W2 i1' i2' (by decide) (by decide) hk hv).mono ?_
  rintro e w3 ⟨⟨v3, rfl, ht⟩, m3⟩
  rw [aw_two] at ht
  obtain ⟨om3, cm3, ob3, cb3, rfl, i1, i2⟩ := ht
  replace i1 := i1.ints
  replace i2 := i2.ints
  have ma : Mem w3 (w3.alloc (.cells #[.slice om3 4 cm3, .slice ob3 4 cb3] 26)) := (Mem.refl w3).alloc _
  have hY := Blk.new w3 #[.slice om3 4 cm3, .slice ob3 4 cb3] 26
  have hX2 := hX.mem (m3.trans ma)
  have q1 := i1'.mem (m3.trans ma)
  have q2 := i2'.mem (m3.trans ma)
  have r1 := i1.mem ma
  have r2 := i2.mem ma
  have m3' := m2'.trans (m3.trans ma)
  clear i1 i2 i1' i2' ma m3 hk hv hX m2'
  go_wp2_with fail
  generalize w3.alloc (.cells #[.slice om3 4 cm3, .slice ob3 4 cb3] 26) = W3 at *
  generalize w3.heap.size = B2 at *
  refine (codeReplay (fun _ => True) (.slice none 0 0) [] false false 0 4 W3 (BlocksAt.none W3) ⟨by simp, by simp⟩ (by simp)).mono ?_
  rintro e w4 ⟨⟨v4, rfl, ht⟩, m4⟩
  obtain ⟨om4, cm4, ob4, cb4, rfl, _, _⟩ := ht
  generalize (foldT (allC []) (newT 4)).1.length = n1 at *
  generalize (foldT (allC []) (newT 4)).2.length = n2 at *
  have hsq : seqT (allC []) 0 = 0 := rfl
  rw [hsq]
  have ma : Mem w4 (((w4.alloc (.cells #[.slice om4 n1 cm4, .slice ob4 n2 cb4] 26)).alloc (.cells #[.int .i64 (-1), .int .i64 (-1), .int .i64 (-1), .int .i64 5] 3)).alloc (.cells #[.int .i64 (-1), .int .i64 (-1), .int .i64 (-1), .int .i64 5] 3)) := (((Mem.refl w4).alloc _).alloc _).alloc _
  have hX3 := hX2.mem (m4.trans ma)
  have hY3 := hY.mem (m4.trans ma)
  have s1 := q1.mem (m4.trans ma)
  have s2 := q2.mem (m4.trans ma)
  have t1 := r1.mem (m4.trans ma)
  have t2 := r2.mem (m4.trans ma)
  have m5 := m3'.trans (m4.trans ma)
  have x0 := (hX2.mem (m4.trans ((Mem.refl w4).alloc (.cells #[.slice om4 n1 cm4, .slice ob4 n2 cb4] 26)))).cell (j := 0) rfl
  have x1 := (hX2.mem (m4.trans ((Mem.refl w4).alloc (.cells #[.slice om4 n1 cm4, .slice ob4 n2 cb4] 26)))).cell (j := 1) rfl
  have hl := TabV.lit (w4.alloc (.cells #[.slice om4 n1 cm4, .slice ob4 n2 cb4] 26)) [-1, -1, -1, 5] [-1, -1, -1, 5] (by decide) (by decide)
  rw [show (w4.alloc (.cells #[.slice om4 n1 cm4, .slice ob4 n2 cb4] 26)).heap.size = w4.heap.size + 1 by simp] at hl
  replace hl : TabV (fun _ => True) (((w4.alloc (.cells #[.slice om4 n1 cm4, .slice ob4 n2 cb4] 26)).alloc (.cells #[.int .i64 (-1), .int .i64 (-1), .int .i64 (-1), .int .i64 5] 3)).alloc (.cells #[.int .i64 (-1), .int .i64 (-1), .int .i64 (-1), .int .i64 5] 3)) (.agg #[.slice (some ⟨w4.heap.size + 1, 0, none⟩) 4 4, .slice (some ⟨w4.heap.size + 1 + 1, 0, none⟩) 4 4]) ([-1, -1, -1, 5], [-1, -1, -1, 5]) := hl
  clear q1 q2 r1 r2 hX2 hY m3' ma m4
  go_wp2_with fail
  generalize ((w4.alloc (.cells #[.slice om4 n1 cm4, .slice ob4 n2 cb4] 26)).alloc (.cells #[.int .i64 (-1), .int .i64 (-1), .int .i64 (-1), .int .i64 5] 3)).alloc (.cells #[.int .i64 (-1), .int .i64 (-1), .int .i64 (-1), .int .i64 5] 3) = W5 at *
  refine (refSame7 _ _ (fun _ => True) (fun _ => True) ([-1, -1, -1, 5], [-1, -1, -1, 5]) ([-1, -1, -1, 5], [-1, -1, -1, 5]) W5 ⟨om2, cm2, ob2, cb2, rfl, (IntsIn.of_ints s1).mono fun _ _ _ => trivial, (IntsIn.of_ints s2).mono fun _ _ _ => trivial⟩ hl).mono ?_
  rintro e w6 ⟨rfl, n6⟩
  rw [show decide ((([-1, -1, -1, 5], [-1, -1, -1, 5]) : TableT) = ([-1, -1, -1, 5], [-1, -1, -1, 5])) = true from by decide]
  have y0 := (hY3.mem n6).cell (j := 0) rfl
  have y1 := (hY3.mem n6).cell (j := 1) rfl
  have hl := TabV.lit w6 [-1, -1, -1, -1] [-1, -1, -1, 6] (by decide) (by decide)
  replace hl : TabV (fun _ => True) ((w6.alloc (.cells #[.int .i64 (-1), .int .i64 (-1), .int .i64 (-1), .int .i64 (-1)] 3)).alloc (.cells #[.int .i64 (-1), .int .i64 (-1), .int .i64 (-1), .int .i64 6] 3)) (.agg #[.slice (some ⟨w6.heap.size, 0, none⟩) 4 4, .slice (some ⟨w6.heap.size + 1, 0, none⟩) 4 4]) ([-1, -1, -1, -1], [-1, -1, -1, 6]) := hl
  have ma : Mem w6 ((w6.alloc (.cells #[.int .i64 (-1), .int .i64 (-1), .int .i64 (-1), .int .i64 (-1)] 3)).alloc (.cells #[.int .i64 (-1), .int .i64 (-1), .int .i64 (-1), .int .i64 6] 3)) := ((Mem.refl w6).alloc _).alloc _
  have t3 := t1.mem (n6.trans ma)
  have t4 := t2.mem (n6.trans ma)
  have m6 := m5.trans (n6.trans ma)
  clear t1 t2 s1 s2 hX3 hY3 m5 n6 ma
  go_wp2_with fail
  generalize (w6.alloc (.cells #[.int .i64 (-1), .int .i64 (-1), .int .i64 (-1), .int .i64 (-1)] 3)).alloc (.cells #[.int .i64 (-1), .int .i64 (-1), .int .i64 (-1), .int .i64 6] 3) = W6 at *
  refine (refSame7 _ _ (fun _ => True) (fun _ => True) ([-1, -1, -1, -1], [-1, -1, -1, 6]) ([-1, -1, -1, -1], [-1, -1, -1, 6]) W6 ⟨om3, cm3, ob3, cb3, rfl, (IntsIn.of_ints t3).mono fun _ _ _ => trivial, (IntsIn.of_ints t4).mono fun _ _ _ => trivial⟩ hl).mono ?_
  rintro e w7 ⟨rfl, n7⟩
  rw [show decide ((([-1, -1, -1, -1], [-1, -1, -1, 6]) : TableT) = ([-1, -1, -1, -1], [-1, -1, -1, 6])) = true from by decide]
  go_wp2_with fail
  go_ret
  exact ⟨rfl, m6.trans n7⟩
theorem row_len {k : IntKind} {w : World} {a : Option Addr} {len cap : Nat} {zs : List Int} (h : IsRow k w a len cap zs) : (zs.take len).length = len ∧ len ≤ cap := by
  rcases h with ⟨rfl, rfl, rfl, rfl⟩ | ⟨x, rfl, hl, hm, hz, _⟩
  · exact ⟨rfl, Nat.le_refl _⟩
  · exact ⟨by rw [List.length_take]; omega, hl⟩
theorem wf_u8 {n : Int} (h : (Lit.int .u8 n).wf = true) : 0 ≤ n ∧ n ≤ 255 := by
  simp [Lit.wf, IntKind.min, IntKind.max, IntKind.signed, IntKind.bits] at h
  omega
theorem wf_u16 {n : Int} (h : (Lit.int .u16 n).wf = true) : 0 ≤ n ∧ n ≤ 65535 := by
  simp [Lit.wf, IntKind.min, IntKind.max, IntKind.signed, IntKind.bits] at h
  omega
end Go.Proofs.Ytbibkheiagglbaa.Replay
