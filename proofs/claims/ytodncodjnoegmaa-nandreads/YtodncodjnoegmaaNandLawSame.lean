/-
  Layer 5: what is done to a chip is what the document says.
-/
import Derived.Test.YtodncodjnoegmaaNandSpec
namespace Go.Proofs.Ytodncodjnoegmaa.Nand
open Go.RowKit

set_option maxHeartbeats 4000000 in
set_option maxRecDepth 100000 in
theorem lawSame (hRead : ReadSpec 21) (hProg : ProgSpec 18) (hErase : EraseSpec 19) (hOn : OnSpec 20)
    (S : Nat → Prop) (vb : Value) (bs : List BlockT) (br off : Bool) (ops b p : Int) (pg : PageT) (f : FateT) (w : World) (hb : BlocksAt S w vb bs) (hf : Few bs) :
    Calls Try.prog 15 #[chipV vb br off ops, .int .i64 b, .int .i64 p, pageV pg, fateV f] w fun e w' => e = .returned (.bool true) ∧ Mem w w' := by
  obtain ⟨oa, ca, rfl⟩ := hb.shape
  obtain ⟨W0, hW0⟩ : ∃ W, W = ((w.alloc (.cells #[.slice oa bs.length ca, .bool br, .bool off, .int .i64 ops] 27)).alloc (.cells #[.bool pg.1, .string pg.2.1, .string pg.2.2] 34)).alloc (.cells #[.int .i64 f.1, .string f.2.1, .string f.2.2.1, .int .i64 f.2.2.2] 36) := ⟨_, rfl⟩
  have hm : Mem w W0 := by rw [hW0]; exact (((Mem.refl w).alloc _).alloc _).alloc _
  have hC : Blk W0 w.heap.size 27 #[.slice oa bs.length ca, .bool br, .bool off, .int .i64 ops] := by rw [hW0]; exact ((Blk.new w _ _).alloc _).alloc _
  have hP : Blk W0 (w.heap.size + 1) 34 #[.bool pg.1, .string pg.2.1, .string pg.2.2] := by rw [hW0]; exact (blk_second w _ _ _).alloc _
  have hF : Blk W0 (w.heap.size + 1 + 1) 36 #[.int .i64 f.1, .string f.2.1, .string f.2.2.1, .int .i64 f.2.2.2] := by
    have := blk_second (w.alloc (.cells #[.slice oa bs.length ca, .bool br, .bool off, .int .i64 ops] 27)) (.cells #[.bool pg.1, .string pg.2.1, .string pg.2.2] 34) #[.int .i64 f.1, .string f.2.1, .string f.2.2.1, .int .i64 f.2.2.2] 36
    rw [alloc_size, ← hW0] at this; exact this
  have hW := hide hW0
  clear hW0
  replace hb := hb.mem hm
  go_enter Try.func15, Try.ntmps15
  go_wp2_with fail
  rw [← hW.out]
  clear hW
  generalize hq : readC bs off b p = q
  have HQ := hide hq
  clear hq
  obtain ⟨⟨rw', rd, rt⟩, re⟩ := q
  refine (hRead S _ bs br off ops b p _ hb).mono ?_
  rintro e w1 ⟨rfl, m1⟩
  rw [HQ.out]
  simp only [pageV]
  have ha : Mem w1 (w1.alloc (.cells #[.bool rw', .string rd, .string rt] 34)) := (Mem.refl w1).alloc _
  have hX1 := Blk.new w1 #[.bool rw', .string rd, .string rt] 34
  have n1 := m1.trans ha
  replace hC := hC.mem n1
  replace hP := hP.mem n1
  replace hF := hF.mem n1
  replace hb := hb.mem n1
  replace hm := hm.trans n1
  clear m1 ha n1
  have c0 := hC.cell (j := 0) rfl
  have c1 := hC.cell (j := 1) rfl
  have c2 := hC.cell (j := 2) rfl
  have c3 := hC.cell (j := 3) rfl
  have p0 := hP.cell (j := 0) rfl
  have p1 := hP.cell (j := 1) rfl
  have p2 := hP.cell (j := 2) rfl
  have k0 := hF.cell (j := 0) rfl
  have k1 := hF.cell (j := 1) rfl
  have k2 := hF.cell (j := 2) rfl
  have k3 := hF.cell (j := 3) rfl
  go_wp2_with fail
  clear c0 c1 c2 c3 p0 p1 p2 k0 k1 k2 k3
  generalize hg1 : w1.alloc (.cells #[.bool rw', .string rd, .string rt] 34) = W1 at *
  generalize w1.heap.size = B1 at *
  clear hg1
  refine (refRead S _ bs br off ops b p _ hb).mono ?_
  rintro e w2 ⟨rfl, m1⟩
  rw [HQ.out]
  simp only [pageV]
  have ha : Mem w2 (w2.alloc (.cells #[.bool rw', .string rd, .string rt] 34)) := (Mem.refl w2).alloc _
  have hX2 := Blk.new w2 #[.bool rw', .string rd, .string rt] 34
  have n1 := m1.trans ha
  replace hC := hC.mem n1
  replace hP := hP.mem n1
  replace hF := hF.mem n1
  replace hX1 := hX1.mem n1
  replace hb := hb.mem n1
  replace hm := hm.trans n1
  clear m1 ha n1
  have c0 := hC.cell (j := 0) rfl
  have c1 := hC.cell (j := 1) rfl
  have c2 := hC.cell (j := 2) rfl
  have c3 := hC.cell (j := 3) rfl
  have p0 := hP.cell (j := 0) rfl
  have p1 := hP.cell (j := 1) rfl
  have p2 := hP.cell (j := 2) rfl
  have k0 := hF.cell (j := 0) rfl
  have k1 := hF.cell (j := 1) rfl
  have k2 := hF.cell (j := 2) rfl
  have k3 := hF.cell (j := 3) rfl
  go_wp2_with fail
  clear c0 c1 c2 c3 p0 p1 p2 k0 k1 k2 k3
  generalize hg2 : w2.alloc (.cells #[.bool rw', .string rd, .string rt] 34) = W2 at *
  generalize w2.heap.size = B2 at *
  clear hg2
  clear HQ
  generalize hq : program (bs, br, off, ops) b p pg f = q
  have HQ := hide hq
  clear hq
  obtain ⟨⟨bs1, br1, of1, op1⟩, e1⟩ := q
  refine (hProg S _ bs br off ops b p pg f _ hb hf).mono ?_
  rintro e w3 ⟨hr, m1⟩
  rw [HQ.out] at hr
  obtain ⟨v3, rfl, hb3⟩ := hr
  obtain ⟨o3, c3', rfl⟩ := hb3.shape
  have ha : Mem w3 (w3.alloc (.cells #[.slice o3 bs1.length c3', .bool br1, .bool of1, .int .i64 op1] 27)) := (Mem.refl w3).alloc _
  have hX3 := Blk.new w3 #[.slice o3 bs1.length c3', .bool br1, .bool of1, .int .i64 op1] 27
  have n1 := m1.trans ha
  replace hb3 := hb3.mem ha
  replace hC := hC.mem n1
  replace hP := hP.mem n1
  replace hF := hF.mem n1
  replace hX1 := hX1.mem n1
  replace hX2 := hX2.mem n1
  replace hb := hb.mem n1
  replace hm := hm.trans n1
  clear m1 ha n1
  have c0 := hC.cell (j := 0) rfl
  have c1 := hC.cell (j := 1) rfl
  have c2 := hC.cell (j := 2) rfl
  have c3 := hC.cell (j := 3) rfl
  have p0 := hP.cell (j := 0) rfl
  have p1 := hP.cell (j := 1) rfl
  have p2 := hP.cell (j := 2) rfl
  have k0 := hF.cell (j := 0) rfl
  have k1 := hF.cell (j := 1) rfl
  have k2 := hF.cell (j := 2) rfl
  have k3 := hF.cell (j := 3) rfl
  simp only [chipV]
  go_wp2_with fail
  clear c0 c1 c2 c3 p0 p1 p2 k0 k1 k2 k3
  generalize hg3 : w3.alloc (.cells #[.slice o3 bs1.length c3', .bool br1, .bool of1, .int .i64 op1] 27) = W3 at *
  generalize w3.heap.size = B3 at *
  clear hg3
  refine (progSpec_ref S _ bs br off ops b p pg f _ hb hf).mono ?_
  rintro e w4 ⟨hr, m1⟩
  rw [HQ.out] at hr
  obtain ⟨v4, rfl, hb4⟩ := hr
  obtain ⟨o4, c4', rfl⟩ := hb4.shape
  have ha : Mem w4 (w4.alloc (.cells #[.slice o4 bs1.length c4', .bool br1, .bool of1, .int .i64 op1] 27)) := (Mem.refl w4).alloc _
  have hX4 := Blk.new w4 #[.slice o4 bs1.length c4', .bool br1, .bool of1, .int .i64 op1] 27
  have n1 := m1.trans ha
  replace hb4 := hb4.mem ha
  replace hC := hC.mem n1
  replace hP := hP.mem n1
  replace hF := hF.mem n1
  replace hX1 := hX1.mem n1
  replace hX2 := hX2.mem n1
  replace hX3 := hX3.mem n1
  replace hb := hb.mem n1
  replace hb3 := hb3.mem n1
  replace hm := hm.trans n1
  clear m1 ha n1
  have c0 := hC.cell (j := 0) rfl
  have c1 := hC.cell (j := 1) rfl
  have c2 := hC.cell (j := 2) rfl
  have c3 := hC.cell (j := 3) rfl
  have p0 := hP.cell (j := 0) rfl
  have p1 := hP.cell (j := 1) rfl
  have p2 := hP.cell (j := 2) rfl
  have k0 := hF.cell (j := 0) rfl
  have k1 := hF.cell (j := 1) rfl
  have k2 := hF.cell (j := 2) rfl
  have k3 := hF.cell (j := 3) rfl
  simp only [chipV]
  go_wp2_with fail
  clear c0 c1 c2 c3 p0 p1 p2 k0 k1 k2 k3
  generalize hg4 : w4.alloc (.cells #[.slice o4 bs1.length c4', .bool br1, .bool of1, .int .i64 op1] 27) = W4 at *
  generalize w4.heap.size = B4 at *
  clear hg4
  clear HQ
  generalize hq : erase (bs, br, off, ops) b f = q
  have HQ := hide hq
  clear hq
  obtain ⟨⟨bs2, br2, of2, op2⟩, e2⟩ := q
  refine (hErase S _ bs br off ops b f _ hb hf).mono ?_
  rintro e w5 ⟨hr, m1⟩
  rw [HQ.out] at hr
  obtain ⟨v5, rfl, hb5⟩ := hr
  obtain ⟨o5, c5', rfl⟩ := hb5.shape
  have ha : Mem w5 (w5.alloc (.cells #[.slice o5 bs2.length c5', .bool br2, .bool of2, .int .i64 op2] 27)) := (Mem.refl w5).alloc _
  have hX5 := Blk.new w5 #[.slice o5 bs2.length c5', .bool br2, .bool of2, .int .i64 op2] 27
  have n1 := m1.trans ha
  replace hb5 := hb5.mem ha
  replace hC := hC.mem n1
  replace hP := hP.mem n1
  replace hF := hF.mem n1
  replace hX1 := hX1.mem n1
  replace hX2 := hX2.mem n1
  replace hX3 := hX3.mem n1
  replace hX4 := hX4.mem n1
  replace hb := hb.mem n1
  replace hb3 := hb3.mem n1
  replace hb4 := hb4.mem n1
  replace hm := hm.trans n1
  clear m1 ha n1
  have c0 := hC.cell (j := 0) rfl
  have c1 := hC.cell (j := 1) rfl
  have c2 := hC.cell (j := 2) rfl
  have c3 := hC.cell (j := 3) rfl
  have p0 := hP.cell (j := 0) rfl
  have p1 := hP.cell (j := 1) rfl
  have p2 := hP.cell (j := 2) rfl
  have k0 := hF.cell (j := 0) rfl
  have k1 := hF.cell (j := 1) rfl
  have k2 := hF.cell (j := 2) rfl
  have k3 := hF.cell (j := 3) rfl
  simp only [chipV]
  go_wp2_with fail
  clear c0 c1 c2 c3 p0 p1 p2 k0 k1 k2 k3
  generalize hg5 : w5.alloc (.cells #[.slice o5 bs2.length c5', .bool br2, .bool of2, .int .i64 op2] 27) = W5 at *
  generalize w5.heap.size = B5 at *
  clear hg5
  refine (eraseSpec_ref S _ bs br off ops b f _ hb hf).mono ?_
  rintro e w6 ⟨hr, m1⟩
  rw [HQ.out] at hr
  obtain ⟨v6, rfl, hb6⟩ := hr
  obtain ⟨o6, c6', rfl⟩ := hb6.shape
  have ha : Mem w6 (w6.alloc (.cells #[.slice o6 bs2.length c6', .bool br2, .bool of2, .int .i64 op2] 27)) := (Mem.refl w6).alloc _
  have hX6 := Blk.new w6 #[.slice o6 bs2.length c6', .bool br2, .bool of2, .int .i64 op2] 27
  have n1 := m1.trans ha
  replace hb6 := hb6.mem ha
  replace hC := hC.mem n1
  replace hP := hP.mem n1
  replace hF := hF.mem n1
  replace hX1 := hX1.mem n1
  replace hX2 := hX2.mem n1
  replace hX3 := hX3.mem n1
  replace hX4 := hX4.mem n1
  replace hX5 := hX5.mem n1
  replace hb := hb.mem n1
  replace hb3 := hb3.mem n1
  replace hb4 := hb4.mem n1
  replace hb5 := hb5.mem n1
  replace hm := hm.trans n1
  clear m1 ha n1
  have c0 := hC.cell (j := 0) rfl
  have c1 := hC.cell (j := 1) rfl
  have c2 := hC.cell (j := 2) rfl
  have c3 := hC.cell (j := 3) rfl
  have p0 := hP.cell (j := 0) rfl
  have p1 := hP.cell (j := 1) rfl
  have p2 := hP.cell (j := 2) rfl
  have k0 := hF.cell (j := 0) rfl
  have k1 := hF.cell (j := 1) rfl
  have k2 := hF.cell (j := 2) rfl
  have k3 := hF.cell (j := 3) rfl
  simp only [chipV]
  go_wp2_with fail
  clear c0 c1 c2 c3 p0 p1 p2 k0 k1 k2 k3
  generalize hg6 : w6.alloc (.cells #[.slice o6 bs2.length c6', .bool br2, .bool of2, .int .i64 op2] 27) = W6 at *
  generalize w6.heap.size = B6 at *
  clear hg6
  clear HQ
  have HS : Hid (∀ w', Mem W6 w' → w'.cell? ⟨B1, 0, none⟩ = some (.bool rw') ∧ w'.cell? ⟨B1, 1, none⟩ = some (.string rd) ∧ w'.cell? ⟨B1, 2, none⟩ = some (.string rt) ∧ w'.cell? ⟨B2, 0, none⟩ = some (.bool rw') ∧ w'.cell? ⟨B2, 1, none⟩ = some (.string rd) ∧ w'.cell? ⟨B2, 2, none⟩ = some (.string rt) ∧ w'.cell? ⟨B3, 0, none⟩ = some (.slice o3 bs1.length c3') ∧ w'.cell? ⟨B3, 1, none⟩ = some (.bool br1) ∧ w'.cell? ⟨B3, 2, none⟩ = some (.bool of1) ∧ w'.cell? ⟨B3, 3, none⟩ = some (.int .i64 op1) ∧ w'.cell? ⟨B4, 0, none⟩ = some (.slice o4 bs1.length c4') ∧ w'.cell? ⟨B4, 1, none⟩ = some (.bool br1) ∧ w'.cell? ⟨B4, 2, none⟩ = some (.bool of1) ∧ w'.cell? ⟨B4, 3, none⟩ = some (.int .i64 op1) ∧ w'.cell? ⟨B5, 0, none⟩ = some (.slice o5 bs2.length c5') ∧ w'.cell? ⟨B5, 1, none⟩ = some (.bool br2) ∧ w'.cell? ⟨B5, 2, none⟩ = some (.bool of2) ∧ w'.cell? ⟨B5, 3, none⟩ = some (.int .i64 op2) ∧ w'.cell? ⟨B6, 0, none⟩ = some (.slice o6 bs2.length c6') ∧ w'.cell? ⟨B6, 1, none⟩ = some (.bool br2) ∧ w'.cell? ⟨B6, 2, none⟩ = some (.bool of2) ∧ w'.cell? ⟨B6, 3, none⟩ = some (.int .i64 op2) ∧ w'.cell? ⟨w.heap.size, 0, none⟩ = some (.slice oa bs.length ca) ∧ w'.cell? ⟨w.heap.size, 1, none⟩ = some (.bool br) ∧ w'.cell? ⟨w.heap.size, 2, none⟩ = some (.bool off) ∧ w'.cell? ⟨w.heap.size, 3, none⟩ = some (.int .i64 ops)) := fun w' h => ⟨(hX1.mem h).cell (j := 0) rfl, (hX1.mem h).cell (j := 1) rfl, (hX1.mem h).cell (j := 2) rfl, (hX2.mem h).cell (j := 0) rfl, (hX2.mem h).cell (j := 1) rfl, (hX2.mem h).cell (j := 2) rfl, (hX3.mem h).cell (j := 0) rfl, (hX3.mem h).cell (j := 1) rfl, (hX3.mem h).cell (j := 2) rfl, (hX3.mem h).cell (j := 3) rfl, (hX4.mem h).cell (j := 0) rfl, (hX4.mem h).cell (j := 1) rfl, (hX4.mem h).cell (j := 2) rfl, (hX4.mem h).cell (j := 3) rfl, (hX5.mem h).cell (j := 0) rfl, (hX5.mem h).cell (j := 1) rfl, (hX5.mem h).cell (j := 2) rfl, (hX5.mem h).cell (j := 3) rfl, (hX6.mem h).cell (j := 0) rfl, (hX6.mem h).cell (j := 1) rfl, (hX6.mem h).cell (j := 2) rfl, (hX6.mem h).cell (j := 3) rfl, (hC.mem h).cell (j := 0) rfl, (hC.mem h).cell (j := 1) rfl, (hC.mem h).cell (j := 2) rfl, (hC.mem h).cell (j := 3) rfl⟩
  have HA : Hid (∀ w', Mem W6 w' → BlocksAt S w' (.slice oa bs.length ca) bs) := fun w' h => hb.mem h
  have H3 := hide (fun (w' : World) (h : Mem W6 w') => hb3.mem h)
  have H4 := hide (fun (w' : World) (h : Mem W6 w') => hb4.mem h)
  have H5 := hide (fun (w' : World) (h : Mem W6 w') => hb5.mem h)
  have H6 := hide (fun (w' : World) (h : Mem W6 w') => hb6.mem h)
  have N0 : Hid (Mem W6 W6.drew) := Mem.drew (Mem.refl W6)
  have q0 : (re == re) = true := by simp
  have q1 : (e1 == e1) = true := by simp
  have q2 : (e2 == e2) = true := by simp
  clear hX1 hX2 hX3 hX4 hX5 hX6 hC hP hF hb hb3 hb4 hb5 hb6
  go_region_held3 (fun w' => w'.cell? ⟨B1, 0, none⟩ = some (.bool rw') ∧ w'.cell? ⟨B1, 1, none⟩ = some (.string rd) ∧ w'.cell? ⟨B1, 2, none⟩ = some (.string rt) ∧ w'.cell? ⟨B2, 0, none⟩ = some (.bool rw') ∧ w'.cell? ⟨B2, 1, none⟩ = some (.string rd) ∧ w'.cell? ⟨B2, 2, none⟩ = some (.string rt) ∧ w'.cell? ⟨B3, 0, none⟩ = some (.slice o3 bs1.length c3') ∧ w'.cell? ⟨B3, 1, none⟩ = some (.bool br1) ∧ w'.cell? ⟨B3, 2, none⟩ = some (.bool of1) ∧ w'.cell? ⟨B3, 3, none⟩ = some (.int .i64 op1) ∧ w'.cell? ⟨B4, 0, none⟩ = some (.slice o4 bs1.length c4') ∧ w'.cell? ⟨B4, 1, none⟩ = some (.bool br1) ∧ w'.cell? ⟨B4, 2, none⟩ = some (.bool of1) ∧ w'.cell? ⟨B4, 3, none⟩ = some (.int .i64 op1) ∧ w'.cell? ⟨B5, 0, none⟩ = some (.slice o5 bs2.length c5') ∧ w'.cell? ⟨B5, 1, none⟩ = some (.bool br2) ∧ w'.cell? ⟨B5, 2, none⟩ = some (.bool of2) ∧ w'.cell? ⟨B5, 3, none⟩ = some (.int .i64 op2) ∧ w'.cell? ⟨B6, 0, none⟩ = some (.slice o6 bs2.length c6') ∧ w'.cell? ⟨B6, 1, none⟩ = some (.bool br2) ∧ w'.cell? ⟨B6, 2, none⟩ = some (.bool of2) ∧ w'.cell? ⟨B6, 3, none⟩ = some (.int .i64 op2) ∧ w'.cell? ⟨w.heap.size, 0, none⟩ = some (.slice oa bs.length ca) ∧ w'.cell? ⟨w.heap.size, 1, none⟩ = some (.bool br) ∧ w'.cell? ⟨w.heap.size, 2, none⟩ = some (.bool off) ∧ w'.cell? ⟨w.heap.size, 3, none⟩ = some (.int .i64 ops))
    (first
      | with_reducible exact HS.out _ N5.out
      | with_reducible exact HS.out _ N4.out
      | with_reducible exact HS.out _ N3.out
      | with_reducible exact HS.out _ N2.out
      | with_reducible exact HS.out _ N1.out
      | with_reducible exact HS.out _ N0.out)
    (first
      | (have N9 := N4.out; go_at_call 14; refine (refSame _ _ _ _ bs br false ops _ (HB7.out.mem M8.out) HB8.out).mono ?_; rintro e w11 ⟨rfl, n5⟩; have N5 := hide (Mem.trans N4.out n5))
      | (have N9 := N3.out; go_at_call 22; refine (onSpec_ref S _ bs br off ops _ (HA.out _ N3.out) hf).mono ?_; rintro e w10 ⟨⟨v8, rfl, hb8⟩, n4⟩; have N4 := hide (Mem.trans N3.out n4); have HB8 := hide hb8; have M8 := hide n4; obtain ⟨o8, c8, rfl⟩ := hb8.shape; clear hb8 n4)
      | (have N9 := N2.out; go_at_call 20; refine (hOn S _ bs br off ops _ (HA.out _ N2.out) hf).mono ?_; rintro e w9 ⟨⟨v7, rfl, hb7⟩, n3⟩; have N3 := hide (Mem.trans N2.out n3); have HB7 := hide hb7; obtain ⟨o7, c7, rfl⟩ := hb7.shape; clear hb7 n3)
      | (have N9 := N1.out; go_at_call 14; refine (refSame _ _ _ _ bs2 br2 of2 op2 _ (H5.out _ N1.out) (H6.out _ N1.out)).mono ?_; rintro e w8 ⟨rfl, n2⟩; have N2 := hide (Mem.trans N1.out n2); clear n2)
      | (have N9 := N0.out; go_at_call 14; refine (refSame _ _ _ _ bs1 br1 of1 op1 _ (H3.out _ N0.out) (H4.out _ N0.out)).mono ?_; rintro e w7 ⟨rfl, n1⟩; have N1 := hide (Mem.trans N0.out n1); clear n1))
  all_goals (
    go_wp2_with fail
    go_ret
    exact ⟨rfl, hm.trans N5.out⟩)
end Go.Proofs.Ytodncodjnoegmaa.Nand
