/-
  Layer 12: the walk of PlanMade. (By mk_plan.py.)
-/
import Derived.Test.YtedopplldpcinaaGreatPlanCode
import Derived.Test.YtedopplldpcinaaGreatPlanMadeAll
import Derived.Test.YtedopplldpcinaaGreatReplayLaws
import Derived.Test.YtedopplldpcinaaGreatLiveLawMath
import Derived.Test.YtedopplldpcinaaGreatReplayRefAll
import Derived.Test.YtedopplldpcinaaGreatMemLow
namespace Go.Proofs.YtedopplldpcinaaGreat.Plan
open Go.RowKit Go.Proofs.YtedopplldpcinaaGreat.Nand Go.Proofs.YtedopplldpcinaaGreat.States Go.Proofs.YtedopplldpcinaaGreat.Live Go.Proofs.YtedopplldpcinaaGreat.Replay Go.Proofs.YtedopplldpcinaaGreat.Scan Go.Proofs.YtedopplldpcinaaGreat.Victim
attribute [local irreducible] applyT foldT newT fillT

set_option maxHeartbeats 40000000 in
set_option maxRecDepth 100000 in
theorem planMade_walk (a0 : Option Addr) (len0 cap0 : Nat) (z0 : List Int) (a1 : Int) (a2 : Int) (a3 : Int) (a4 : Int) (w : World) (w0 : IsRow .u16 w a0 len0 cap0 z0) (w1 : (Lit.int .u8 a1).wf = true) (w2 : (Lit.int .u8 a2).wf = true) (w3 : (Lit.int .u8 a3).wf = true) (w4 : (Lit.int .u8 a4).wf = true) :
    Calls Tryz.prog 4 #[.slice a0 len0 cap0, .int .u8 a1, .int .u8 a2, .int .u8 a3, .int .u8 a4] w fun e w' => e = .returned (.bool true) ∧ Below w.heap.size w w' := by
  obtain ⟨hz, hwf0⟩ := Ints.of_row w0
  obtain ⟨hl01, hl02⟩ := row_len w0
  have HZ : Hid (∀ x ∈ z0.take len0, 0 ≤ x ∧ x ≤ 65535) := fun x h => wf_u16 (hwf0 x h)
  clear hwf0 w0
  generalize z0.take len0 = z at *
  subst hl01
  have hb1 := wf_u8 w1
  clear w1
  obtain ⟨n1, rfl⟩ := Int.eq_ofNat_of_zero_le hb1.1
  have hb2 := wf_u8 w2
  clear w2
  obtain ⟨n2, rfl⟩ := Int.eq_ofNat_of_zero_le hb2.1
  have hb3 := wf_u8 w3
  clear w3
  obtain ⟨n3, rfl⟩ := Int.eq_ofNat_of_zero_le hb3.1
  have hb4 := wf_u8 w4
  clear w4
  obtain ⟨n4, rfl⟩ := Int.eq_ofNat_of_zero_le hb4.1
  obtain ⟨N, hN⟩ : ∃ N : Nat, 1 + (n1 : Int) % 6 = (N : Int) := ⟨1 + n1 % 6, by omega⟩
  have hN1 : 1 ≤ N ∧ N ≤ 6 := by omega
  obtain ⟨mm, hmm⟩ : ∃ mm : Nat, 1 + (n1 : Int) % 64 = (mm : Int) := ⟨1 + n1 % 64, by omega⟩
  have hmm1 : mm ≤ 64 := by omega
  obtain ⟨q, hq⟩ : ∃ q : Nat, (n3 : Int) % 4 = (q : Int) := ⟨n3 % 4, by omega⟩
  have hq4 : q < 4 := by omega
  go_enter Tryz.func4, Tryz.ntmps4
  go_wp2_with fail
  (try rw [hN])
  refine (lawFilled a0 cap0 z N 4 _ hz hl02 HZ.out hN1.1 (by omega) (by omega) (by omega)).mono ?_
  rintro e w2 ⟨⟨v2, bs0, br, off, ops, rfl, hb, kk, hkk, hI⟩, m2⟩
  have HF := hide (fillT_few (few_inv hI.1.1 (show N ≤ 32 by omega) (by omega)))
  have HSZ := hide (fillT_sized (n := maxLen) hI.1.1.2.2)
  have HDS : Hid (DataS (fillT bs0)) := fillT_data (by decide) hI.2.2
  clear hI hkk
  generalize fillT bs0 = bs at *
  have hm := m2
  obtain ⟨oc, cc, rfl⟩ := hb.shape
  simp only [chipV]
  have hbl := hb.1
  unfold maxLen at hbl
  have hax : Mem w2 (w2.alloc (.cells #[.slice oc bs.length cc, .bool br, .bool off, .int .i64 ops] 24)) := (Mem.refl w2).alloc _
  have hX := Blk.new w2 #[.slice oc bs.length cc, .bool br, .bool off, .int .i64 ops] 24
  have hbX := (hb.mono (S' := fun x => x < w2.heap.size) fun g _ hl => hl).mem hax
  have hmX := hm.trans hax
  have hBw : w.heap.size ≤ w2.heap.size := hm.size
  have c0 := hX.cell (j := 0) rfl
  have c1 := hX.cell (j := 1) rfl
  have c2 := hX.cell (j := 2) rfl
  have c3 := hX.cell (j := 3) rfl
  clear hb hm
  go_wp2_with fail
  generalize hWX : w2.alloc (.cells #[.slice oc bs.length cc, .bool br, .bool off, .int .i64 ops] 24) = W at *
  clear hWX hax
  generalize w2.heap.size = Bc at *
  (try rw [hmm])
  refine (refReplay _ _ bs br off ops mm _ hbX HF.out HSZ.out).mono ?_
  rintro e w4 ⟨⟨v4, rfl, ht⟩, m4⟩
  have HSm := hide (chip_small bs mm)
  have hlt4 : (foldT (allC bs) (newT mm)).1.length ≤ 1000 ∧ (foldT (allC bs) (newT mm)).2.length ≤ 1000 := by
    have h1 := foldT_len (allC bs) (newT mm)
    have h2 := newT_len mm
    have h3 := cutN_le mm
    omega
  generalize foldT (allC bs) (newT mm) = t at *
  generalize seqT (allC bs) 0 = sq at *
  obtain ⟨om, cm, ob, cb, rfl, i1, i2⟩ := ht
  obtain ⟨hlt1, hlt2⟩ := hlt4
  have HW := hide HSm.out.wf
  have hat : Mem w4 (w4.alloc (.cells #[.slice om t.1.length cm, .slice ob t.2.length cb] 27)) := (Mem.refl w4).alloc _
  have hT := Blk.new w4 #[.slice om t.1.length cm, .slice ob t.2.length cb] 27
  have hC5 := (hX.mem m4).mem hat
  have hb5 := ((hbX.mono (S' := fun _ => True) fun _ _ _ => trivial).mem m4).mem hat
  have hm5 := (hmX.trans m4).trans hat
  replace i1 := (i1.mono (S' := fun _ => True) fun _ _ _ => trivial).mem hat
  replace i2 := (i2.mono (S' := fun _ => True) fun _ _ _ => trivial).mem hat
  clear c0 c1 c2 c3 hX hbX hmX m4 HSZ HSm
  have d0 := hC5.cell (j := 0) rfl
  have d1 := hC5.cell (j := 1) rfl
  have d2 := hC5.cell (j := 2) rfl
  have d3 := hC5.cell (j := 3) rfl
  have y0 := hT.cell (j := 0) rfl
  have y1 := hT.cell (j := 1) rfl
  clear hN hN1 hz HZ hl02 hmm hmm1
  have hq5 : q = 0 ∨ q = 1 ∨ q = 2 ∨ q = 3 := by omega
  clear hq4
  rcases hq5 with rfl | rfl | rfl | rfl
  all_goals (
    go_wp2_with fail
    generalize hWT : w4.alloc (.cells #[.slice om t.1.length cm, .slice ob t.2.length cb] 27) = W5 at *
    clear hWT hat
    generalize w4.heap.size = Bt at *
    have mb : Mem W5 (W5.alloc (.cells #[.string ⟨#[100]⟩, .string ⟨#[101]⟩, .string ⟨#[]⟩, .string ⟨#[120]⟩] 9)) := (Mem.refl W5).alloc _
    have HC : Hid (∀ w', Mem W5 w' → w'.cell? ⟨Bc, 0, none⟩ = some (.slice oc bs.length cc) ∧ w'.cell? ⟨Bc, 1, none⟩ = some (.bool br) ∧ w'.cell? ⟨Bc, 2, none⟩ = some (.bool off) ∧ w'.cell? ⟨Bc, 3, none⟩ = some (.int .i64 ops)) := fun w' m => ⟨(hC5.mem m).cell (j := 0) rfl, (hC5.mem m).cell (j := 1) rfl, (hC5.mem m).cell (j := 2) rfl, (hC5.mem m).cell (j := 3) rfl⟩
    have HT : Hid (∀ w', Mem W5 w' → w'.cell? ⟨Bt, 0, none⟩ = some (.slice om t.1.length cm) ∧ w'.cell? ⟨Bt, 1, none⟩ = some (.slice ob t.2.length cb)) := fun w' m => ⟨(hT.mem m).cell (j := 0) rfl, (hT.mem m).cell (j := 1) rfl⟩
    have HB := hide (fun (w' : World) (m : Mem W5 w') => hb5.mem m)
    have HI1 := hide (fun (w' : World) (m : Mem W5 w') => i1.mem m)
    have HI2 := hide (fun (w' : World) (m : Mem W5 w') => i2.mem m)
    clear hC5 hT hb5 i1 i2 d0 d1 d2 d3 y0 y1
    have HS := hide (fun b d s (w' : World) (m : Mem W5 w') (hdd : d.size ≤ maxLen) => same _ _ bs br off ops t om ob cm cb b d s w' (HB.out _ m) (HI1.out _ m) (HI2.out _ m) hlt1 hlt2 HW.out HDS.out hdd)
    clear HB HI1 HI2 HW
    refine (awake _).mono ?_
    rintro e wa ⟨rfl, ma⟩
    obtain ⟨c0, c1, c2, c3⟩ := HC.out _ (mb.trans ma)
    obtain ⟨t0, t1⟩ := HT.out _ (mb.trans ma)
    go_wp2_with fail
    refine (HS.out _ _ _ _ (mb.trans ma) (by decide)).mono ?_
    rintro e w6 ⟨rfl, m6⟩
    go_wp2_with fail
    go_ret
    exact ⟨rfl, ((hm5.trans mb).trans ma).trans m6⟩)
end Go.Proofs.YtedopplldpcinaaGreat.Plan
