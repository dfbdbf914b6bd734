/-
  PlanAwMath, PlanAwake: in one text (merge.json).
-/
import Derived.Test.YtedopplldpcinaaPlanRefAll
import Derived.Test.YtedopplldpcinaaReplayRefAll
import Derived.Test.YtedopplldpcinaaReplayOf
import Derived.Test.YtedopplldpcinaaNandNewAll
import Derived.Test.YtedopplldpcinaaPlanSameAll
/-
  Layer 12: the chip of 'awake', and what it tells.
-/
namespace Go.Proofs.Ytedopplldpcinaa.Plan
open Go.RowKit Go.Proofs.Ytedopplldpcinaa.Nand Go.Proofs.Ytedopplldpcinaa.Scan Go.Proofs.Ytedopplldpcinaa.Live Go.Proofs.Ytedopplldpcinaa.Replay Go.Proofs.Ytedopplldpcinaa.Tag

def awPg : PageT := mkPage ⟨#[97, 98]⟩ (enc 1 0 [1, 4] [] [97, 98])
def awC : ChipT := (Nand.program ((newC 1 2 []).1.1, (newC 1 2 []).1.2.1, (newC 1 2 []).1.2.2.1, (newC 1 2 []).1.2.2.2) 0 0 awPg (0, ⟨#[]⟩, ⟨#[]⟩, 0)).1
def awT : TableT := ([-1, 0, -1, -1, 0], [-1, 0, -1, -1, 0])
theorem aw_tells : foldT (allC awC.1) (newT 5) = awT := by decide +kernel
theorem aw_facts : movesT awC.1 awT 0 = [(⟨#[97, 98]⟩, 1, 0, [1, 4], [])] ∧ twinT awC.1 awT ⟨#[97, 98]⟩ = 0 ∧ twinT awC.1 awT ⟨#[120]⟩ = -1 ∧ hasD awC.1 awT 4 = ⟨#[97, 98]⟩ ∧ hasD awC.1 awT 0 = ⟨#[]⟩ := by decide +kernel
theorem aw_few : Few (newC 1 2 []).1.1 ∧ Few awC.1 := by constructor <;> (unfold Few; decide +kernel)
theorem aw_sized : ∀ b ∈ awC.1, ∀ p ∈ b.1, p.2.2.size ≤ maxLen := by decide +kernel
theorem aw_data : DataS awC.1 := by unfold DataS; decide +kernel
theorem aw_wf : WfT awT := by constructor <;> (intro z hz; simp [awT] at hz; rcases hz with rfl | rfl | rfl | rfl | rfl <;> (unfold wfZ; omega))
end Go.Proofs.Ytedopplldpcinaa.Plan
/-
  Layer 12, the statements' own: what any right program answers.
-/
namespace Go.Proofs.Ytedopplldpcinaa.Plan
open Go.RowKit Go.Proofs.Ytedopplldpcinaa.Nand Go.Proofs.Ytedopplldpcinaa.Scan Go.Proofs.Ytedopplldpcinaa.Live Go.Proofs.Ytedopplldpcinaa.Replay Go.Proofs.Ytedopplldpcinaa.Tag

set_option maxHeartbeats 4000000 in
set_option maxRecDepth 100000 in
theorem lawAwake (cM : MovesSpec 14) (cT : TwinSpec 8) (cH : HasSpec 10) (w : World) :
    Calls Try.prog 5 #[] w fun e w' => e = .returned (.bool true) ∧ Mem w w' := by
  obtain ⟨f2, f3, f4, f5, f6⟩ := aw_facts
  obtain ⟨hfewN, hfewC⟩ := aw_few
  have HTL := hide aw_tells
  have HSZ := hide aw_sized
  have HDS := hide aw_data
  have HQ : Hid (awC = (Nand.program ((newC 1 2 []).1.1, (newC 1 2 []).1.2.1, (newC 1 2 []).1.2.2.1, (newC 1 2 []).1.2.2.2) 0 0 awPg (0, ⟨#[]⟩, ⟨#[]⟩, 0)).1) := rfl
  have HPG : Hid (mkPage ⟨#[97, 98]⟩ (enc 1 0 [1, 4] [] [97, 98]) = awPg) := rfl
  have hfN := hide hfewN
  have hl1 : awC.1.length = 1 := by decide +kernel
  have hl0 : (newC 1 2 []).1.1.length = 1 := by decide +kernel
  clear hfewN
  go_enter Try.func5, Try.ntmps5
  go_wp2_with fail
  refine (refNew 1 2 _ [] w (Ints.nil _ _ _ _) (by decide)).mono ?_
  rintro e w1 ⟨⟨v1, rfl, hb1⟩, m1⟩
  obtain ⟨o1, c1, rfl⟩ := hb1.shape
  generalize newC 1 2 [] = nc at *
  obtain ⟨⟨bs1, br1, of1, op1⟩, en⟩ := nc
  simp only [chipV] at hb1 HQ hfN hl0 ⊢
  generalize awC = ac at *
  obtain ⟨bs2, br2, of2, op2⟩ := ac
  simp only [] at f2 f3 f4 f5 f6 HTL HSZ HDS hl1 hfewC
  generalize hpe : (Nand.program (bs1, br1, of1, op1) 0 0 awPg (0, ⟨#[]⟩, ⟨#[]⟩, 0)).2 = pe
  have HPE := hide hpe
  clear hpe
  rw [hl0] at hb1 ⊢
  have ma : Mem w1 (w1.alloc (.cells #[.slice o1 1 c1, .bool br1, .bool of1, .int .i64 op1] 26)) := (Mem.refl w1).alloc _
  have hX := Blk.new w1 #[.slice o1 1 c1, .bool br1, .bool of1, .int .i64 op1] 26
  have hb2 := (hb1.mono (S' := fun x => x ≠ w1.heap.size) fun g _ hl => Nat.ne_of_lt hl).mem ma
  have hma := m1.trans ma
  have hBw := m1.size
  have hBw2 : w1.heap.size < (w1.alloc (.cells #[.slice o1 1 c1, .bool br1, .bool of1, .int .i64 op1] 26)).heap.size := by simp
  clear hb1 m1 ma
  have c0 := hX.cell (j := 0) rfl
  have c1' := hX.cell (j := 1) rfl
  have c2 := hX.cell (j := 2) rfl
  have c3 := hX.cell (j := 3) rfl
  have z0 := hX.frozen 0
  have z1 := hX.frozen 1
  have z2 := hX.frozen 2
  have z3 := hX.frozen 3
  go_wp2_with fail
  generalize hwa : w1.alloc (.cells #[.slice o1 1 c1, .bool br1, .bool of1, .int .i64 op1] 26) = wa at *
  clear hwa
  generalize w1.heap.size = Bc at *
  have HC : Hid (∀ w', Mem wa w' → w'.cell? ⟨Bc, 0, none⟩ = some (.slice o1 1 c1) ∧ w'.cell? ⟨Bc, 1, none⟩ = some (.bool br1) ∧ w'.cell? ⟨Bc, 2, none⟩ = some (.bool of1) ∧ w'.cell? ⟨Bc, 3, none⟩ = some (.int .i64 op1) ∧ w'.frozen? ⟨Bc, 0, none⟩ = false ∧ w'.frozen? ⟨Bc, 1, none⟩ = false ∧ w'.frozen? ⟨Bc, 2, none⟩ = false ∧ w'.frozen? ⟨Bc, 3, none⟩ = false) := fun w' m => ⟨(hX.mem m).cell (j := 0) rfl, (hX.mem m).cell (j := 1) rfl, (hX.mem m).cell (j := 2) rfl, (hX.mem m).cell (j := 3) rfl, (hX.mem m).frozen 0, (hX.mem m).frozen 1, (hX.mem m).frozen 2, (hX.mem m).frozen 3⟩
  have hik := hide ((Ints.lit .i64 wa [1, 4] 3 (by simp [maxLen])).mem (Mem.refl _).drew)
  have N0 : Hid (Mem wa (wa.alloc (.cells #[.int .i64 1, .int .i64 4] 3)).drew) := ((Mem.refl wa).alloc _).drew
  go_cut [1] (fun a wx => ∃ (o2 : Option Addr) (cc2 : Nat), a = .pointer (some ⟨Bc, 0, none⟩) ∧ Blk wx Bc 26 #[.slice o2 1 cc2, .bool br2, .bool of2, .int .i64 op2] ∧ BlocksAt (fun x => x ≠ Bc) wx (.slice o2 1 cc2) bs2 ∧ Mem w wx)
  case first =>
    go_region_with (first
      | (go_at_call 18; refine (lawOf 1 0 _ none 2 0 [1, 4] [] ⟨#[97, 98]⟩ _ hik.out (Ints.nil _ _ _ _)).mono ?_; rintro e w3 ⟨rfl, n1⟩; rw [show mkPage ⟨#[97, 98]⟩ (enc 1 0 [1, 4] [] (⟨#[97, 98]⟩ : ByteArray).data.toList) = awPg from HPG.out]; have N1 := hide (Mem.trans N0.out n1); clear n1; obtain ⟨g0, g1, g2, g3, y0, y1, y2, y3⟩ := HC.out _ N1.out)
      | (go_at_call 17; refine (progSpec_ref _ _ bs1 br1 of1 op1 0 0 awPg (0, ⟨#[]⟩, ⟨#[]⟩, 0) _ (hb2.mem N1.out) hfN.out).mono ?_; rintro e w4 ⟨hr, n2⟩; obtain ⟨v2, rfl, hb3⟩ := hr; obtain ⟨o2, cc2, rfl⟩ := hb3.shape; rw [← HQ.out, HPE.out] at *; simp only [chipV] at hb3 ⊢; rw [hl1] at hb3 ⊢; have N2 := hide (Mem.trans N1.out n2); clear n2; obtain ⟨g0, g1, g2, g3, y0, y1, y2, y3⟩ := HC.out _ N2.out))
    all_goals (
      have hZ := (hX.mem N2.out).put4 (.slice o2 1 cc2) (.bool br2) (.bool of2) (.int .i64 op2)
      have hb4 := (hb3.mono (S' := fun x => x ≠ Bc) fun g hg _ => by rcases hg with h | h; exact h; have := N1.out.size; omega).put4 (b := Bc) (fun h => h rfl) (.slice o2 1 cc2) (.bool br2) (.bool of2) (.int .i64 op2)
      have hM := (hma.trans N2.out).put4 (b := Bc) (by omega) (.slice o2 1 cc2) (.bool br2) (.bool of2) (.int .i64 op2)
      (try go_wp2_with fail)
      go_meet
      exact ⟨o2, cc2, rfl, hZ, hb4, hM⟩)
  case rest =>
    clear hX hb2 hma hBw2 c0 c1' c2 c3 z0 z1 z2 z3 HC hik N0 HQ HPE HPG hfN
    obtain ⟨o2, cc2, rfl, hX, hb, hM⟩ := hcut
    have c0 := hX.cell (j := 0) rfl
    have c1' := hX.cell (j := 1) rfl
    have c2 := hX.cell (j := 2) rfl
    have c3 := hX.cell (j := 3) rfl
    have hb' := hide hb
    go_wp2_with fail
    refine (refReplay _ _ bs2 br2 of2 op2 5 _ hb'.out hfewC HSZ.out).mono ?_
    rintro e w4 ⟨⟨v4, rfl, ht⟩, m4⟩
    rw [HTL.out] at ht
    have HWF := hide aw_wf
    have hlt : awT.1.length ≤ 1000 ∧ awT.2.length ≤ 1000 := by decide
    generalize awT = t at *
    generalize seqT (allC bs2) 0 = sq at *
    obtain ⟨om, cm, ob, cb, rfl, i1, i2⟩ := ht
    have mT : Mem w4 (w4.alloc (.cells #[.slice om t.1.length cm, .slice ob t.2.length cb] 30)) := (Mem.refl w4).alloc _
    have hT := Blk.new w4 #[.slice om t.1.length cm, .slice ob t.2.length cb] 30
    have hX5 := (hX.mem m4).mem mT
    have hM5 := (hM.trans m4).trans mT
    have HB := hide (fun (w' : World) (m : Mem (w4.alloc (.cells #[.slice om t.1.length cm, .slice ob t.2.length cb] 30)) w') => ((hb'.out.mono (S' := fun _ => True) fun _ _ _ => trivial).mem (m4.trans mT)).mem m)
    have HI1 := hide (fun (w' : World) (m : Mem (w4.alloc (.cells #[.slice om t.1.length cm, .slice ob t.2.length cb] 30)) w') => ((i1.mono (S' := fun _ => True) fun _ _ _ => trivial).mem mT).mem m)
    have HI2 := hide (fun (w' : World) (m : Mem (w4.alloc (.cells #[.slice om t.1.length cm, .slice ob t.2.length cb] 30)) w') => ((i2.mono (S' := fun _ => True) fun _ _ _ => trivial).mem mT).mem m)
    clear c0 c1' c2 c3 hb hb' hX hM m4 mT i1 i2 HTL HSZ hfewC
    have c0 := hX5.cell (j := 0) rfl
    have c1' := hX5.cell (j := 1) rfl
    have c2 := hX5.cell (j := 2) rfl
    have c3 := hX5.cell (j := 3) rfl
    have t0 := hT.cell (j := 0) rfl
    have t1 := hT.cell (j := 1) rfl
    go_wp2_with fail
    generalize hW5 : w4.alloc (.cells #[.slice om t.1.length cm, .slice ob t.2.length cb] 30) = W5 at *
    generalize w4.heap.size = Bt at *
    clear hW5
    have HCC : Hid (∀ w', Mem W5 w' → w'.cell? ⟨Bc, 0, none⟩ = some (.slice o2 1 cc2) ∧ w'.cell? ⟨Bc, 1, none⟩ = some (.bool br2) ∧ w'.cell? ⟨Bc, 2, none⟩ = some (.bool of2) ∧ w'.cell? ⟨Bc, 3, none⟩ = some (.int .i64 op2) ∧ w'.cell? ⟨Bt, 0, none⟩ = some (.slice om t.1.length cm) ∧ w'.cell? ⟨Bt, 1, none⟩ = some (.slice ob t.2.length cb)) := fun w' m => ⟨(hX5.mem m).cell (j := 0) rfl, (hX5.mem m).cell (j := 1) rfl, (hX5.mem m).cell (j := 2) rfl, (hX5.mem m).cell (j := 3) rfl, (hT.mem m).cell (j := 0) rfl, (hT.mem m).cell (j := 1) rfl⟩
    clear hX5 hT c0 c1' c2 c3 t0 t1
    have N0 := hide (Mem.refl W5)
    refine (cM _ _ bs2 br2 of2 op2 t _ _ _ _ 0 _ (HB.out _ N0.out) (HI1.out _ N0.out) (HI2.out _ N0.out) hlt.1 hlt.2 HWF.out).mono ?_
    rintro e w6 ⟨⟨v6, rfl, hw6⟩, m6⟩
    rw [f2] at hw6
    have N1 := hide m6
    obtain ⟨o6, cp6, rfl⟩ := hw6.shape
    obtain ⟨g, of6, ok, ck, ov, cv, rfl, _, d0, d1, _, d3, _, ik, _⟩ := hw6.at (i := 0) (by decide)
    simp only [List.getElem_cons_zero, Nat.zero_mul, Nat.add_zero] at d0 d1 d3 ik
    have hik := ik.ints
    have mL : Mem w6 (w6.alloc (.cells #[.int .i64 1, .int .i64 4] 3)) := (Mem.refl w6).alloc _
    have hlit := Ints.lit .i64 w6 [1, 4] 3 (by simp [maxLen])
    have hik2 := hik.mem mL
    have N2 := hide (Mem.trans N1.out mL)
    have HTT := hide (fun (w' : World) (m : Mem W5 w') => cT _ _ bs2 br2 of2 op2 t _ _ _ _ ⟨#[97, 98]⟩ w' (HB.out _ m) (HI1.out _ m).ints (HI2.out _ m).ints hlt.1 hlt.2 HWF.out HDS.out (by decide))
    have HTX := hide (fun (w' : World) (m : Mem W5 w') => cT _ _ bs2 br2 of2 op2 t _ _ _ _ ⟨#[120]⟩ w' (HB.out _ m) (HI1.out _ m).ints (HI2.out _ m).ints hlt.1 hlt.2 HWF.out HDS.out (by decide))
    have HH4 := hide (fun (w' : World) (m : Mem W5 w') => cH _ _ bs2 br2 of2 op2 t _ _ _ _ 4 w' (HB.out _ m) (HI1.out _ m).ints (HI2.out _ m).ints hlt.1 hlt.2 HWF.out)
    have HH0 := hide (fun (w' : World) (m : Mem W5 w') => cH _ _ bs2 br2 of2 op2 t _ _ _ _ 0 w' (HB.out _ m) (HI1.out _ m).ints (HI2.out _ m).ints hlt.1 hlt.2 HWF.out)
    rw [f3] at HTT
    rw [f4] at HTX
    rw [f5] at HH4
    rw [f6] at HH0
    clear hw6 ik hik m6 mL f3 f4 f5 f6 f2
    go_wp2_with (first
      | (go_at_call 19; refine (Pack.refSame _ _ [1, 4] [1, 4] _ hik2 hlit).mono ?_; rintro e w7 ⟨rfl, hq7⟩; have N3 := hide (Mem.trans N2.out (Mem.quiet hq7)); obtain ⟨c0, c1', c2, c3, t0, t1⟩ := HCC.out _ N3.out; clear hq7)
      | (go_at_call 8; refine (HTT.out _ N3.out).mono ?_; clear HTT; rintro e w8 ⟨rfl, m8⟩; have N4 := hide (Mem.trans N3.out m8); obtain ⟨c0, c1', c2, c3, t0, t1⟩ := HCC.out _ N4.out; clear m8)
      | (go_at_call 8; refine (HTX.out _ N4.out).mono ?_; clear HTX; rintro e w9 ⟨rfl, m9⟩; have N5 := hide (Mem.trans N4.out m9); obtain ⟨c0, c1', c2, c3, t0, t1⟩ := HCC.out _ N5.out; clear m9)
      | (go_at_call 10; refine (HH4.out _ N5.out).mono ?_; clear HH4; rintro e w10 ⟨rfl, m10⟩; have N6 := hide (Mem.trans N5.out m10); obtain ⟨c0, c1', c2, c3, t0, t1⟩ := HCC.out _ N6.out; clear m10)
      | (go_at_call 10; refine (HH0.out _ N6.out).mono ?_; clear HH0; rintro e w11 ⟨rfl, m11⟩; have N7 := hide (Mem.trans N6.out m11); clear m11))
    go_ret
    exact ⟨rfl, hM5.trans N7.out⟩
end Go.Proofs.Ytedopplldpcinaa.Plan
