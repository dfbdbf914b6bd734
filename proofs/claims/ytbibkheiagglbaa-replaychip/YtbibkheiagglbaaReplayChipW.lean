/-
  Layer 7: the walk of ReplayChip.
-/
import Derived.Test.YtbibkheiagglbaaReplayAwake
import Derived.Test.YtbibkheiagglbaaScanMadeC
namespace Go.Proofs.Ytbibkheiagglbaa.Replay
open Go.RowKit Go.Proofs.Ytbibkheiagglbaa.Scan Go.Proofs.Ytbibkheiagglbaa.Nand

set_option maxHeartbeats 4000000 in
set_option maxRecDepth 100000 in
theorem replayChip_walk (a0 : Option Addr) (len0 cap0 : Nat) (z0 : List Int) (a1 : Int) (a2 : Int) (a3 : Int) (w : World) (w0 : IsRow .u16 w a0 len0 cap0 z0) (w1 : (Lit.int .u8 a1).wf = true) (w2 : (Lit.int .u8 a2).wf = true) (_w3 : (Lit.int .i64 a3).wf = true) :
    Calls Try.prog 6 #[.slice a0 len0 cap0, .int .u8 a1, .int .u8 a2, .int .i64 a3] w fun e w' => e = .returned (.bool true) ∧ Mem w w' := by
  obtain ⟨hz, hwf⟩ := Ints.of_row w0
  obtain ⟨hl1, hl2⟩ := row_len w0
  have HZ : Hid (∀ x ∈ z0.take len0, 0 ≤ x ∧ x ≤ 65535) := fun x h => wf_u16 (hwf x h)
  clear hwf w0
  generalize z0.take len0 = z at *
  subst hl1
  have hb1 := wf_u8 w1
  have hb2 := wf_u8 w2
  clear w1 w2
  obtain ⟨n1, rfl⟩ := Int.eq_ofNat_of_zero_le hb1.1
  obtain ⟨n2, rfl⟩ := Int.eq_ofNat_of_zero_le hb2.1
  obtain ⟨N, hN⟩ : ∃ N : Nat, 1 + (n1 : Int) % 5 = (N : Int) := ⟨1 + n1 % 5, by omega⟩
  obtain ⟨M, hM⟩ : ∃ M : Nat, 1 + (n2 : Int) % 6 = (M : Int) := ⟨1 + n2 % 6, by omega⟩
  obtain ⟨at', hat⟩ : ∃ a : Nat, (n1 : Int) % 65 = (a : Int) := ⟨n1 % 65, by omega⟩
  have hN1 : 1 ≤ N ∧ N ≤ 5 := by omega
  have hM1 : 1 ≤ M ∧ M ≤ 6 := by omega
  go_enter Try.func6, Try.ntmps6
  go_wp2_with fail
  (try rw [hN])
  (try rw [hM])
  refine (lawMade06 a0 cap0 z N M _ hz hl2 HZ.out hN1.1 (by omega) hM1.1 (by omega)).mono ?_
  rintro e w1 ⟨⟨v1, bs, br, off, ops, rfl, hb, hI⟩, m1⟩
  have HF := hide (few_inv hI (by omega) (by omega))
  have HSZ : Hid (∀ b ∈ bs, ∀ p ∈ b.1, p.2.2.size ≤ maxLen) := hI.2.2
  clear hz HZ hI hN hM hl2
  obtain ⟨oc, cc, rfl⟩ := hb.shape
  simp only [chipV]
  have ha : Mem w1 (w1.alloc (.cells #[.slice oc bs.length cc, .bool br, .bool off, .int .i64 ops] 42)) := (Mem.refl w1).alloc _
  have hX := Blk.new w1 #[.slice oc bs.length cc, .bool br, .bool off, .int .i64 ops] 42
  have hm := m1.trans ha
  replace hb := hb.mem ha
  clear m1 ha
  go_wp2_with fail
  generalize hW : w1.alloc (.cells #[.slice oc bs.length cc, .bool br, .bool off, .int .i64 ops] 42) = W1 at *
  generalize w1.heap.size = Bc at *
  clear hW
  have HQ := hide (rfl : seqT (allC bs) 0 = seqT (allC bs) 0)
  have HG1 := hide (rfl : foldT (allC bs) (newT a3) = foldT (allC bs) (newT a3))
  have HG2 := hide (rfl : foldT (allC bs) (newT at') = foldT (allC bs) (newT at'))
  revert HQ HG1 HG2
  generalize hq : seqT (allC bs) 0 = sq
  generalize ht1 : foldT (allC bs) (newT a3) = t1
  generalize ht2 : foldT (allC bs) (newT at') = t2
  intro _ _ _
  have HQ := hide hq
  have HG1 := hide ht1
  have HG2 := hide ht2
  clear hq ht1 ht2
  have hb1 := hb
  have hX1 := hX
  refine (codeReplay _ _ bs br off ops a3 _ hb1 HF.out HSZ.out).mono ?_
  rintro e w2 ⟨⟨v2, rfl, ht⟩, m2⟩
  rw [HQ.out]
  rw [HG1.out] at ht
  obtain ⟨oa2, ca2, ob2, cb2, rfl, _, _⟩ := id ht
  have ma := (Mem.refl w2).alloc (.cells #[.slice oa2 t1.1.length ca2, .slice ob2 t1.2.length cb2] 26)
  have hT2 := TabAt.of (Blk.new w2 #[.slice oa2 t1.1.length ca2, .slice ob2 t1.2.length cb2] 26) (ht.mem ma)
  have mm := m2.trans ma
  have hb2 := hb1.mem mm
  have hX2 := hX1.mem mm
  have hm2 := hm.trans mm
  have c0 := hX2.cell (j := 0) rfl
  have c1 := hX2.cell (j := 1) rfl
  have c2 := hX2.cell (j := 2) rfl
  have c3 := hX2.cell (j := 3) rfl
  clear ht ma mm m2
  go_wp2_with fail
  generalize hW : w2.alloc (.cells #[.slice oa2 t1.1.length ca2, .slice ob2 t1.2.length cb2] 26) = W2 at *
  generalize w2.heap.size = B2 at *
  clear hW c0 c1 c2 c3
  refine (refReplay _ _ bs br off ops a3 _ hb2 HF.out HSZ.out).mono ?_
  rintro e w3 ⟨⟨v3, rfl, ht⟩, m3⟩
  rw [HQ.out]
  rw [HG1.out] at ht
  obtain ⟨oa3, ca3, ob3, cb3, rfl, _, _⟩ := id ht
  have ma := (Mem.refl w3).alloc (.cells #[.slice oa3 t1.1.length ca3, .slice ob3 t1.2.length cb3] 26)
  have hT3 := TabAt.of (Blk.new w3 #[.slice oa3 t1.1.length ca3, .slice ob3 t1.2.length cb3] 26) (ht.mem ma)
  have mm := m3.trans ma
  have hb3 := hb2.mem mm
  have hX3 := hX2.mem mm
  have hm3 := hm2.trans mm
  replace hT2 := hT2.mem mm
  have c0 := hX3.cell (j := 0) rfl
  have c1 := hX3.cell (j := 1) rfl
  have c2 := hX3.cell (j := 2) rfl
  have c3 := hX3.cell (j := 3) rfl
  clear ht ma mm m3
  go_wp2_with fail
  generalize hW : w3.alloc (.cells #[.slice oa3 t1.1.length ca3, .slice ob3 t1.2.length cb3] 26) = W3 at *
  generalize w3.heap.size = B3 at *
  clear hW c0 c1 c2 c3
  (try rw [hat])
  refine (codeReplay _ _ bs br off ops at' _ hb3 HF.out HSZ.out).mono ?_
  rintro e w4 ⟨⟨v4, rfl, ht⟩, m4⟩
  rw [HQ.out]
  rw [HG2.out] at ht
  obtain ⟨oa4, ca4, ob4, cb4, rfl, _, _⟩ := id ht
  have ma := (Mem.refl w4).alloc (.cells #[.slice oa4 t2.1.length ca4, .slice ob4 t2.2.length cb4] 26)
  have hT4 := TabAt.of (Blk.new w4 #[.slice oa4 t2.1.length ca4, .slice ob4 t2.2.length cb4] 26) (ht.mem ma)
  have mm := m4.trans ma
  have hb4 := hb3.mem mm
  have hX4 := hX3.mem mm
  have hm4 := hm3.trans mm
  replace hT2 := hT2.mem mm
  replace hT3 := hT3.mem mm
  have c0 := hX4.cell (j := 0) rfl
  have c1 := hX4.cell (j := 1) rfl
  have c2 := hX4.cell (j := 2) rfl
  have c3 := hX4.cell (j := 3) rfl
  clear ht ma mm m4
  go_wp2_with fail
  generalize hW : w4.alloc (.cells #[.slice oa4 t2.1.length ca4, .slice ob4 t2.2.length cb4] 26) = W4 at *
  generalize w4.heap.size = B4 at *
  clear hW c0 c1 c2 c3
  (try rw [hat])
  refine (refReplay _ _ bs br off ops at' _ hb4 HF.out HSZ.out).mono ?_
  rintro e w5 ⟨⟨v5, rfl, ht⟩, m5⟩
  rw [HQ.out]
  rw [HG2.out] at ht
  obtain ⟨oa5, ca5, ob5, cb5, rfl, _, _⟩ := id ht
  have ma := (Mem.refl w5).alloc (.cells #[.slice oa5 t2.1.length ca5, .slice ob5 t2.2.length cb5] 26)
  have hT5 := TabAt.of (Blk.new w5 #[.slice oa5 t2.1.length ca5, .slice ob5 t2.2.length cb5] 26) (ht.mem ma)
  have mm := m5.trans ma
  have hb5 := hb4.mem mm
  have hX5 := hX4.mem mm
  have hm5 := hm4.trans mm
  replace hT2 := hT2.mem mm
  replace hT3 := hT3.mem mm
  replace hT4 := hT4.mem mm
  have c0 := hX5.cell (j := 0) rfl
  have c1 := hX5.cell (j := 1) rfl
  have c2 := hX5.cell (j := 2) rfl
  have c3 := hX5.cell (j := 3) rfl
  clear ht ma mm m5
  go_wp2_with fail
  generalize hW : w5.alloc (.cells #[.slice oa5 t2.1.length ca5, .slice ob5 t2.2.length cb5] 26) = W5 at *
  generalize w5.heap.size = B5 at *
  clear hW c0 c1 c2 c3
  refine (awake _).mono ?_
  rintro e w6 ⟨rfl, n6⟩
  obtain ⟨pa, qa, pb, qb, d2, e2, f2⟩ := id (hT2.mem n6)
  obtain ⟨ra, sa, rb, sb, d3, e3, f3⟩ := id (hT3.mem n6)
  have x0 := d2.cell (j := 0) rfl
  have x1 := d2.cell (j := 1) rfl
  have x2 := d3.cell (j := 0) rfl
  have x3 := d3.cell (j := 1) rfl
  go_wp2_with fail
  refine (refSame7 _ _ _ _ t1 t1 _ ⟨pa, qa, pb, qb, rfl, e2, f2⟩ ⟨ra, sa, rb, sb, rfl, e3, f3⟩).mono ?_
  rintro e w7 ⟨rfl, n7⟩
  rw [decide_eq_true (rfl : t1 = t1)]
  clear x0 x1 x2 x3
  obtain ⟨pa, qa, pb, qb, d4, e4, f4⟩ := id (hT4.mem (n6.trans n7))
  obtain ⟨ra, sa, rb, sb, d5, e5, f5⟩ := id (hT5.mem (n6.trans n7))
  have x0 := d4.cell (j := 0) rfl
  have x1 := d4.cell (j := 1) rfl
  have x2 := d5.cell (j := 0) rfl
  have x3 := d5.cell (j := 1) rfl
  go_wp2_with fail
  refine (refSame7 _ _ _ _ t2 t2 _ ⟨pa, qa, pb, qb, rfl, e4, f4⟩ ⟨ra, sa, rb, sb, rfl, e5, f5⟩).mono ?_
  rintro e w8 ⟨rfl, n8⟩
  rw [decide_eq_true (rfl : t2 = t2)]
  go_wp2_with fail
  go_ret
  exact ⟨rfl, hm5.trans (n6.trans (n7.trans n8))⟩
end Go.Proofs.Ytbibkheiagglbaa.Replay
