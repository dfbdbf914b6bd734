/-
  Layer 11, the statements' own: what any right program answers.
-/
import Derived.Test.YtegamnaahipedaaVictimSame
import Derived.Test.YtegamnaahipedaaNandNewAll
import Derived.Test.YtegamnaahipedaaNandSpecs
namespace Go.Proofs.Ytegamnaahipedaa.Victim
open Go.RowKit Go.Proofs.Ytegamnaahipedaa.Nand Go.Proofs.Ytegamnaahipedaa.States Go.Proofs.Ytegamnaahipedaa.Live Go.Proofs.Ytegamnaahipedaa.Replay

/-- two blocks of one page, of which the first one's is programmed; and then the second one's -/
def awN : ChipT := ((newC 2 1 []).1.1, (newC 2 1 []).1.2.1, (newC 2 1 []).1.2.2.1, (newC 2 1 []).1.2.2.2)
def awC : ChipT := (Nand.program awN 0 0 zeroPage (0, ⟨#[]⟩, ⟨#[]⟩, 0)).1
def awD : ChipT := (Nand.program awC 1 0 zeroPage (0, ⟨#[]⟩, ⟨#[]⟩, 0)).1
def awT : TableT := ([16], [16])
def awU : TableT := ([0], [])
theorem aw_facts : victT awC.1 awT (-1) = 0 ∧ victT awC.1 awU (-1) = -1 ∧ victT awD.1 awT (-1) = 0 ∧ coldT awC.1 (-1) 0 = -1 ∧ restT awC.1 1 = 1 ∧ restT awC.1 0 = 0 ∧ awC.1.length = 2 ∧ awD.1.length = 2 ∧ (∀ b ∈ awC.1, 0 ≤ b.2.2.1 ∧ b.2.2.1 ≤ 1099511627776) := by decide +kernel
theorem aw_few : Few awN.1 ∧ Few awC.1 := by constructor <;> (unfold Few; decide +kernel)
theorem awT_wf : WfT awT ∧ WfT awU := by constructor <;> (constructor <;> (intro z hz; simp [awT, awU] at hz; try subst hz; try (unfold wfZ; omega)))
theorem ints_one {w : World} {b : Nat} {t : TypeId} {z : Int} (h : Blk w b t #[.int .i64 z]) : Ints .i64 w (.slice (some ⟨b, 0, none⟩) 1 1) [z] := by
  refine ⟨by simp [maxLen], .inr ⟨b, 0, 1, rfl, by simp, fun j hj => ?_⟩⟩
  have : j = 0 := by simp at hj; omega
  subst this
  exact h.cell (j := 0) rfl
set_option maxHeartbeats 4000000 in
set_option maxRecDepth 100000 in
theorem lawAwake (cV : VictimSpec 14) (cC : ColdSpec 17) (cR : RestSpec 18) (w : World) :
    Calls Try.prog 9 #[] w fun e w' => e = .returned (.bool true) ∧ Mem w w' := by
  obtain ⟨f1, f2, f3, f4, f5, f6, f7, f8, f9⟩ := aw_facts
  obtain ⟨hfewN, hfewC⟩ := aw_few
  obtain ⟨hwt, hwu⟩ := awT_wf
  have HD : Hid (awD = (Nand.program (awC.1, awC.2.1, awC.2.2.1, awC.2.2.2) 1 0 zeroPage (0, ⟨#[]⟩, ⟨#[]⟩, 0)).1) := rfl
  have HCx : Hid (awC = (Nand.program ((newC 2 1 []).1.1, (newC 2 1 []).1.2.1, (newC 2 1 []).1.2.2.1, (newC 2 1 []).1.2.2.2) 0 0 zeroPage (0, ⟨#[]⟩, ⟨#[]⟩, 0)).1) := rfl
  have hfN : Few (newC 2 1 []).1.1 := hfewN
  clear hfewN
  go_enter Try.func9, Try.ntmps9
  go_wp2_with fail
  refine (refNew 2 1 _ [] w (Ints.nil _ _ _ _) (by decide)).mono ?_
  rintro e w1 ⟨⟨v1, rfl, hb1⟩, m1⟩
  have hP := fun w' hw => progSpec_ref (fun x => x ≠ w1.heap.size) v1 (newC 2 1 []).1.1 (newC 2 1 []).1.2.1 (newC 2 1 []).1.2.2.1 (newC 2 1 []).1.2.2.2 0 0 zeroPage (0, ⟨#[]⟩, ⟨#[]⟩, 0) w' hw hfN
  have hP2 := hide (fun (S : Nat → Prop) (v : Value) (w' : World) hw => progSpec_ref S v awC.1 awC.2.1 awC.2.2.1 awC.2.2.2 1 0 zeroPage (0, ⟨#[]⟩, ⟨#[]⟩, 0) w' hw hfewC)
  generalize hq : Nand.program ((newC 2 1 []).1.1, (newC 2 1 []).1.2.1, (newC 2 1 []).1.2.2.1, (newC 2 1 []).1.2.2.2) 0 0 zeroPage (0, ⟨#[]⟩, ⟨#[]⟩, 0) = q at *
  clear hq
  obtain ⟨o1, c1, rfl⟩ := hb1.shape
  generalize newC 2 1 [] = nc at *
  obtain ⟨⟨bs1, br1, of1, op1⟩, en⟩ := nc
  simp only [] at hb1 hP ⊢
  have ma : Mem w1 (w1.alloc (.cells #[.slice o1 bs1.length c1, .bool br1, .bool of1, .int .i64 op1] 24)) := (Mem.refl w1).alloc _
  have hX := Blk.new w1 #[.slice o1 bs1.length c1, .bool br1, .bool of1, .int .i64 op1] 24
  have hb2 := (hb1.mono (S' := fun x => x ≠ w1.heap.size) fun g _ hl => Nat.ne_of_lt hl).mem ma
  have hma := m1.trans ma
  have hBw := m1.size
  have hBw2 : w1.heap.size < (w1.alloc (.cells #[.slice o1 bs1.length c1, .bool br1, .bool of1, .int .i64 op1] 24)).heap.size := by simp
  clear hb1 m1 ma hfN
  go_wp2_with fail
  generalize hwa : w1.alloc (.cells #[.slice o1 bs1.length c1, .bool br1, .bool of1, .int .i64 op1] 24) = wa at *
  clear hwa
  generalize w1.heap.size = Bc at *
  refine (hP _ hb2).mono ?_
  rintro e w2 ⟨⟨v2, rfl, hb3⟩, m2⟩
  obtain ⟨o2, c2, rfl⟩ := hb3.shape
  rw [← HCx.out] at hb3 ⊢
  obtain ⟨qc, qe⟩ := q
  simp only [chipV] at hb3 ⊢
  rw [f7] at hb3 ⊢
  have hl9 : awC.1.length ≤ 1000 := by rw [f7]; decide
  generalize hbr : awC.2.1 = br2 at *
  generalize hof : awC.2.2.1 = of2 at *
  generalize hop : awC.2.2.2 = op2 at *
  clear hbr hof hop f7
  have X2 := hX.mem m2
  have z0 := X2.cell (j := 0) rfl
  have z1 := X2.cell (j := 1) rfl
  have z2 := X2.cell (j := 2) rfl
  have z3 := X2.cell (j := 3) rfl
  have g0 := X2.frozen 0
  have g1 := X2.frozen 1
  have g2 := X2.frozen 2
  have g3 := X2.frozen 3
  have hb4 := (hb3.mono (S' := fun x => x ≠ Bc) fun g hg _ => by rcases hg with h | h; exact h; omega).put4 (b := Bc) (fun h => h rfl) (.slice o2 2 c2) (.bool br2) (.bool of2) (.int .i64 op2)
  have X4 := X2.put4 (.slice o2 2 c2) (.bool br2) (.bool of2) (.int .i64 op2)
  have M4 := (hma.trans m2).put4 (b := Bc) (by omega) (.slice o2 2 c2) (.bool br2) (.bool of2) (.int .i64 op2)
  obtain ⟨W4, hW4⟩ : ∃ W4, ((((w2.setCell ⟨Bc, 0, none⟩ (.slice o2 2 c2)).setCell ⟨Bc, 1, none⟩ (.bool br2)).setCell ⟨Bc, 2, none⟩ (.bool of2)).setCell ⟨Bc, 3, none⟩ (.int .i64 op2)) = W4 := ⟨_, rfl⟩
  rw [hW4] at hb4 X4 M4
  have m45 : Mem W4 (((W4.alloc (.cells #[.int .i64 16] 3)).alloc (.cells #[.int .i64 16] 3)).alloc (.cells #[.slice (some ⟨W4.heap.size, 0, none⟩) 1 1, .slice (some ⟨W4.heap.size + 1, 0, none⟩) 1 1] 27)) := (((Mem.refl W4).alloc _).alloc _).alloc _
  have X5 := X4.mem m45
  have k0 := X5.cell (j := 0) rfl
  have k1 := X5.cell (j := 1) rfl
  have k2 := X5.cell (j := 2) rfl
  have k3 := X5.cell (j := 3) rfl
  go_wp2_with fail
  have y0 := (Blk.new W4 #[.int .i64 16] 3).mem (((Mem.refl _).alloc (.cells #[.int .i64 16] 3)).alloc (.cells #[.slice (some ⟨W4.heap.size, 0, none⟩) 1 1, .slice (some ⟨W4.heap.size + 1, 0, none⟩) 1 1] 27))
  have y1 := (Blk.new (W4.alloc (.cells #[.int .i64 16] 3)) #[.int .i64 16] 3).mem ((Mem.refl _).alloc (.cells #[.slice (some ⟨W4.heap.size, 0, none⟩) 1 1, .slice (some ⟨W4.heap.size + 1, 0, none⟩) 1 1] 27))
  have y2 := Blk.new ((W4.alloc (.cells #[.int .i64 16] 3)).alloc (.cells #[.int .i64 16] 3)) #[.slice (some ⟨W4.heap.size, 0, none⟩) 1 1, .slice (some ⟨W4.heap.size + 1, 0, none⟩) 1 1] 27
  simp only [World.size_alloc] at y1 y2
  have hs5 : (((W4.alloc (.cells #[.int .i64 16] 3)).alloc (.cells #[.int .i64 16] 3)).alloc (.cells #[.slice (some ⟨W4.heap.size, 0, none⟩) 1 1, .slice (some ⟨W4.heap.size + 1, 0, none⟩) 1 1] 27)).heap.size = W4.heap.size + 3 := by simp
  have hb5 := (hb4.mem m45).mono (S' := fun x => x < W4.heap.size + 3) (fun g _ hl => by omega)
  obtain ⟨W5, hW5⟩ : ∃ W5, ((W4.alloc (.cells #[.int .i64 16] 3)).alloc (.cells #[.int .i64 16] 3)).alloc (.cells #[.slice (some ⟨W4.heap.size, 0, none⟩) 1 1, .slice (some ⟨W4.heap.size + 1, 0, none⟩) 1 1] 27) = W5 := ⟨_, rfl⟩
  rw [hW5] at y0 y1 y2 hb5 m45 X5 hs5 ⊢
  have M5 := M4.trans m45
  have hbC := hide (hb4.mem m45)
  clear hW5 hW4 k0 k1 k2 k3 z0 z1 z2 z3 g0 g1 g2 g3 X2 X4 hb3 m2 hX hma hP hb2 hb4
  have hi1 : Ints .i64 W5 (.slice (some ⟨W4.heap.size, 0, none⟩) 1 1) [16] := ints_one y0
  have hi2 : Ints .i64 W5 (.slice (some ⟨W4.heap.size + 1, 0, none⟩) 1 1) [16] := ints_one y1
  refine (hP2.out _ _ _ hb5).mono ?_
  rintro e w6 ⟨⟨v6, rfl, hb6⟩, m6⟩
  obtain ⟨o6, c6, rfl⟩ := hb6.shape
  rw [← HD.out] at hb6 ⊢
  simp only [chipV]
  generalize (Nand.program (awC.1, br2, of2, op2) 1 0 zeroPage (0, ⟨#[]⟩, ⟨#[]⟩, 0)).2 = pe at *
  rw [f8] at hb6 ⊢
  have hl8 : awD.1.length ≤ 1000 := by rw [f8]; decide
  generalize awD.2.1 = br6 at *
  generalize awD.2.2.1 = of6 at *
  generalize awD.2.2.2 = op6 at *
  clear f8
  have m7 : Mem w6 (w6.alloc (.cells #[.slice o6 2 c6, .bool br6, .bool of6, .int .i64 op6] 24)) := (Mem.refl w6).alloc _
  have X7 := (X5.mem m6).mem m7
  have T7 := (y2.mem m6).mem m7
  have D7 := Blk.new w6 #[.slice o6 2 c6, .bool br6, .bool of6, .int .i64 op6] 24
  have hb7 := hb6.mem m7
  have x0 := X7.cell (j := 0) rfl
  have x1 := X7.cell (j := 1) rfl
  have x2 := X7.cell (j := 2) rfl
  have x3 := X7.cell (j := 3) rfl
  have t0 := T7.cell (j := 0) rfl
  have t1 := T7.cell (j := 1) rfl
  have M6 := m6.trans m7
  go_wp2_with fail
  generalize hw7 : w6.alloc (.cells #[.slice o6 2 c6, .bool br6, .bool of6, .int .i64 op6] 24) = W7 at *
  clear hw7
  have HC := hide (fun (w' : World) (m : Mem W7 w') => show (w'.cell? ⟨Bc, 0, none⟩ = some (.slice o2 2 c2) ∧ w'.cell? ⟨Bc, 1, none⟩ = some (.bool br2) ∧ w'.cell? ⟨Bc, 2, none⟩ = some (.bool of2) ∧ w'.cell? ⟨Bc, 3, none⟩ = some (.int .i64 op2)) from ⟨(X7.mem m).cell (j := 0) rfl, (X7.mem m).cell (j := 1) rfl, (X7.mem m).cell (j := 2) rfl, (X7.mem m).cell (j := 3) rfl⟩)
  have HT := hide (fun (w' : World) (m : Mem W7 w') => show (w'.cell? ⟨W4.heap.size + 1 + 1, 0, none⟩ = some (.slice (some ⟨W4.heap.size, 0, none⟩) 1 1) ∧ w'.cell? ⟨W4.heap.size + 1 + 1, 1, none⟩ = some (.slice (some ⟨W4.heap.size + 1, 0, none⟩) 1 1)) from ⟨(T7.mem m).cell (j := 0) rfl, (T7.mem m).cell (j := 1) rfl⟩)
  have HDD := hide (fun (w' : World) (m : Mem W7 w') => show (w'.cell? ⟨w6.heap.size, 0, none⟩ = some (.slice o6 2 c6) ∧ w'.cell? ⟨w6.heap.size, 1, none⟩ = some (.bool br6) ∧ w'.cell? ⟨w6.heap.size, 2, none⟩ = some (.bool of6) ∧ w'.cell? ⟨w6.heap.size, 3, none⟩ = some (.int .i64 op6)) from ⟨(D7.mem m).cell (j := 0) rfl, (D7.mem m).cell (j := 1) rfl, (D7.mem m).cell (j := 2) rfl, (D7.mem m).cell (j := 3) rfl⟩)
  have hi1' := hide hi1
  have hi2' := hide hi2
  have hb7' := hide hb7
  clear X7 T7 D7 X5 y0 y1 y2 hi1 hi2 hb7 hb6 x0 x1 x2 x3 t0 t1 hb5
  have N0 := hide (Mem.refl W7)
  refine (cV _ _ awC.1 br2 of2 op2 awT _ _ _ _ (-1) _ (hbC.out.mem (M6.trans N0.out)) hl9 (hi1'.out.mem (M6.trans N0.out)) (hi2'.out.mem (M6.trans N0.out)) (by decide) (by decide) hwt).mono ?_
  rintro e v1 ⟨rfl, m1⟩
  rw [f1]
  have N1 := hide (Mem.trans N0.out m1)
  clear m1
  obtain ⟨a0, a1, a2, a3⟩ := HC.out _ N1.out
  go_wp2_with fail
  have n1 := hide ((Mem.refl v1).alloc (.cells #[.int .i64 0] 3))
  have N1' := hide (Mem.trans N1.out n1.out)
  have hiu := ints_one (Blk.new v1 #[.int .i64 0] 3)
  refine (cV _ _ awC.1 br2 of2 op2 awU _ none _ 0 (-1) _ (hbC.out.mem (M6.trans N1'.out)) hl9 hiu (Ints.nil _ _ _ _) (by decide) (by decide) hwu).mono ?_
  rintro e v2 ⟨rfl, m1⟩
  rw [f2]
  have N2 := hide (Mem.trans N1'.out m1)
  clear m1 a0 a1 a2 a3 hiu
  obtain ⟨a0, a1, a2, a3⟩ := HDD.out _ N2.out
  obtain ⟨b0, b1⟩ := HT.out _ N2.out
  go_wp2_with fail
  refine (cV _ _ awD.1 br6 of6 op6 awT _ _ _ _ (-1) _ (hb7'.out.mem N2.out) hl8 (hi1'.out.mem (M6.trans N2.out)) (hi2'.out.mem (M6.trans N2.out)) (by decide) (by decide) hwt).mono ?_
  rintro e v3 ⟨rfl, m1⟩
  rw [f3]
  have N3 := hide (Mem.trans N2.out m1)
  clear m1 a0 a1 a2 a3 b0 b1
  obtain ⟨a0, a1, a2, a3⟩ := HC.out _ N3.out
  go_wp2_with fail
  refine (cC _ _ awC.1 br2 of2 op2 (-1) 0 _ (hbC.out.mem (M6.trans N3.out)) hl9 f9).mono ?_
  rintro e v4 ⟨rfl, m1⟩
  rw [f4]
  have N4 := hide (Mem.trans N3.out m1)
  clear m1 a0 a1 a2 a3
  obtain ⟨a0, a1, a2, a3⟩ := HC.out _ N4.out
  go_wp2_with fail
  refine (cR _ _ awC.1 br2 of2 op2 1 _ (hbC.out.mem (M6.trans N4.out)) hl9).mono ?_
  rintro e v5 ⟨rfl, m1⟩
  rw [f5]
  have N5 := hide (Mem.trans N4.out m1)
  clear m1 a0 a1 a2 a3
  obtain ⟨a0, a1, a2, a3⟩ := HC.out _ N5.out
  go_wp2_with fail
  refine (cR _ _ awC.1 br2 of2 op2 0 _ (hbC.out.mem (M6.trans N5.out)) hl9).mono ?_
  rintro e v6 ⟨rfl, m1⟩
  rw [f6]
  have N6 := hide (Mem.trans N5.out m1)
  clear m1 a0 a1 a2 a3
  go_wp2_with fail
  go_ret
  exact ⟨rfl, (M5.trans M6).trans N6.out⟩
end Go.Proofs.Ytegamnaahipedaa.Victim
