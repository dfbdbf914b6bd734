/-
  Layer 10, the statements' own: what any right program answers.
-/
import Derived.Test.YtlgofanenkbgoaaStatesSame
import Derived.Test.YtlgofanenkbgoaaNandNewAll
import Derived.Test.YtlgofanenkbgoaaNandSpecs
namespace Go.Proofs.Ytlgofanenkbgoaa.States
open Go.RowKit Go.Proofs.Ytlgofanenkbgoaa.Nand

/-- two blocks of two pages, of which the first page is programmed -/
def awB : List BlockT := (Nand.program ((newC 2 2 []).1.1, (newC 2 2 []).1.2.1, (newC 2 2 []).1.2.2.1, (newC 2 2 []).1.2.2.2) 0 0 zeroPage (0, ⟨#[]⟩, ⟨#[]⟩, 0)).1.1
theorem awB_facts : stateT awB (-1) 0 = 2 ∧ stateT awB 0 0 = 1 ∧ stateT awB 0 1 = 0 ∧ stateT awB 0 2 = 3 ∧ pickT awB 0 = 1 ∧ manyT awB 0 0 = 1 ∧ wearT awB = (0, 0) ∧ pickT [] 0 = -1 ∧ awB.length = 2 := by decide +kernel
set_option maxHeartbeats 4000000 in
set_option maxRecDepth 100000 in
theorem lawAwake (cState : StateSpec 11) (cMany : ManySpec 13) (cPick : PickSpec 18) (cWear : WearSpec 20) (w : World) :
    Calls Try.prog 9 #[] w fun e w' => e = .returned (.bool true) ∧ Mem w w' := by
  obtain ⟨f1, f2, f3, f4, f5, f6, f7, f8, f9⟩ := awB_facts
  have HA : Hid (awB = (Nand.program ((newC 2 2 []).1.1, (newC 2 2 []).1.2.1, (newC 2 2 []).1.2.2.1, (newC 2 2 []).1.2.2.2) 0 0 zeroPage (0, ⟨#[]⟩, ⟨#[]⟩, 0)).1.1) := rfl
  have hfew : Few (newC 2 2 []).1.1 := by unfold Few; decide +kernel
  go_enter Try.func9, Try.ntmps9
  go_wp2_with fail
  refine (refNew 2 2 _ [] w (Ints.nil _ _ _ _) (by decide)).mono ?_
  rintro e w1 ⟨⟨v1, rfl, hb1⟩, m1⟩
  have hP := fun w' hw => progSpec_ref (fun x => x ≠ w1.heap.size) v1 (newC 2 2 []).1.1 (newC 2 2 []).1.2.1 (newC 2 2 []).1.2.2.1 (newC 2 2 []).1.2.2.2 0 0 zeroPage (0, ⟨#[]⟩, ⟨#[]⟩, 0) w' hw hfew
  generalize hq : Nand.program ((newC 2 2 []).1.1, (newC 2 2 []).1.2.1, (newC 2 2 []).1.2.2.1, (newC 2 2 []).1.2.2.2) 0 0 zeroPage (0, ⟨#[]⟩, ⟨#[]⟩, 0) = q at *
  clear hq
  obtain ⟨o1, c1, rfl⟩ := hb1.shape
  generalize newC 2 2 [] = nc at *
  obtain ⟨⟨bs1, br1, of1, op1⟩, en⟩ := nc
  simp only [] at hb1 hP ⊢
  have ma : Mem w1 (w1.alloc (.cells #[.slice o1 bs1.length c1, .bool br1, .bool of1, .int .i64 op1] 24)) := (Mem.refl w1).alloc _
  have hX := Blk.new w1 #[.slice o1 bs1.length c1, .bool br1, .bool of1, .int .i64 op1] 24
  have hb2 := (hb1.mono (S' := fun x => x ≠ w1.heap.size) fun g _ hl => Nat.ne_of_lt hl).mem ma
  have hma := m1.trans ma
  have hXs : (w1.alloc (.cells #[.slice o1 bs1.length c1, .bool br1, .bool of1, .int .i64 op1] 24)).heap.size = w1.heap.size + 1 := by simp
  have hBw := m1.size
  clear hb1 m1 ma
  go_wp2_with fail
  generalize hwa : w1.alloc (.cells #[.slice o1 bs1.length c1, .bool br1, .bool of1, .int .i64 op1] 24) = wa at *
  clear hwa
  generalize w1.heap.size = Bc at *
  refine (hP _ hb2).mono ?_
  rintro e w2 ⟨⟨v2, rfl, hb3⟩, m2⟩
  obtain ⟨o2, c2, rfl⟩ := hb3.shape
  rw [← HA.out] at hb3 ⊢
  obtain ⟨⟨qb, br2, of2, op2⟩, qe⟩ := q
  simp only [chipV] at hb3 ⊢
  rw [f9] at hb3 ⊢
  have hl9 : awB.length ≤ 1000 := by rw [f9]; decide
  clear f9
  have X2 := hX.mem m2
  have z0 := X2.cell (j := 0) rfl
  have z1 := X2.cell (j := 1) rfl
  have z2 := X2.cell (j := 2) rfl
  have z3 := X2.cell (j := 3) rfl
  have g0 := X2.frozen 0
  have g1 := X2.frozen 1
  have g2 := X2.frozen 2
  have g3 := X2.frozen 3
  have hb4 := (hb3.mono (S' := fun x => x ≠ Bc) fun g hg _ => by rcases hg with h | h; exact h; omega).put4 (b := Bc) (fun h => h rfl) (.slice o2 2 c2) (.bool br2) (.bool of2) (.int .i64 op2)
  have X4 := X2.put4 (.slice o2 2 c2) (.bool br2) (.bool of2) (.int .i64 op2)
  have M4 := (hma.trans m2).put4 (b := Bc) (by omega) (.slice o2 2 c2) (.bool br2) (.bool of2) (.int .i64 op2)
  go_wp2_with fail
  generalize hW4 : ((((w2.setCell ⟨Bc, 0, none⟩ (.slice o2 2 c2)).setCell ⟨Bc, 1, none⟩ (.bool br2)).setCell ⟨Bc, 2, none⟩ (.bool of2)).setCell ⟨Bc, 3, none⟩ (.int .i64 op2)) = W4 at *
  clear hW4 z0 z1 z2 z3 g0 g1 g2 g3 X2 hb3 m2 hX hma hP hb2
  have HB := hide (fun (w' : World) (m : Mem W4 w') => hb4.mem m)
  have HC : Hid (∀ w', Mem W4 w' → w'.cell? ⟨Bc, 0, none⟩ = some (.slice o2 2 c2) ∧ w'.cell? ⟨Bc, 1, none⟩ = some (.bool br2) ∧ w'.cell? ⟨Bc, 2, none⟩ = some (.bool of2) ∧ w'.cell? ⟨Bc, 3, none⟩ = some (.int .i64 op2)) := fun w' m => ⟨(X4.mem m).cell (j := 0) rfl, (X4.mem m).cell (j := 1) rfl, (X4.mem m).cell (j := 2) rfl, (X4.mem m).cell (j := 3) rfl⟩
  clear X4 hb4
  have N0 := hide (Mem.refl W4)
  refine (cWear _ _ awB br2 of2 op2 _ (HB.out _ N0.out) hl9).mono ?_
  rintro e v1 ⟨rfl, m1⟩
  rw [f7]
  have N1 := hide (Mem.trans N0.out m1)
  clear m1
  obtain ⟨c0, c1', c2', c3⟩ := HC.out _ N1.out
  go_wp2_with fail
  refine (cState _ _ awB br2 of2 op2 (-1) 0 _ (HB.out _ N1.out)).mono ?_
  rintro e v2 ⟨rfl, m1⟩
  rw [f1]
  have N2 := hide (Mem.trans N1.out m1)
  clear m1 c0 c1' c2' c3
  obtain ⟨c0, c1', c2', c3⟩ := HC.out _ N2.out
  go_wp2_with fail
  refine (cState _ _ awB br2 of2 op2 0 0 _ (HB.out _ N2.out)).mono ?_
  rintro e v3 ⟨rfl, m1⟩
  rw [f2]
  have N3 := hide (Mem.trans N2.out m1)
  clear m1 c0 c1' c2' c3
  obtain ⟨c0, c1', c2', c3⟩ := HC.out _ N3.out
  go_wp2_with fail
  refine (cState _ _ awB br2 of2 op2 0 1 _ (HB.out _ N3.out)).mono ?_
  rintro e v4 ⟨rfl, m1⟩
  rw [f3]
  have N4 := hide (Mem.trans N3.out m1)
  clear m1 c0 c1' c2' c3
  obtain ⟨c0, c1', c2', c3⟩ := HC.out _ N4.out
  go_wp2_with fail
  refine (cState _ _ awB br2 of2 op2 0 2 _ (HB.out _ N4.out)).mono ?_
  rintro e v5 ⟨rfl, m1⟩
  rw [f4]
  have N5 := hide (Mem.trans N4.out m1)
  clear m1 c0 c1' c2' c3
  obtain ⟨c0, c1', c2', c3⟩ := HC.out _ N5.out
  go_wp2_with fail
  refine (cPick _ _ awB br2 of2 op2 0 _ (HB.out _ N5.out) hl9).mono ?_
  rintro e v6 ⟨rfl, m1⟩
  rw [f5]
  have N6 := hide (Mem.trans N5.out m1)
  clear m1 c0 c1' c2' c3
  obtain ⟨c0, c1', c2', c3⟩ := HC.out _ N6.out
  go_wp2_with fail
  refine (cMany _ _ awB br2 of2 op2 0 0 _ (HB.out _ N6.out) hl9).mono ?_
  rintro e v7 ⟨rfl, m1⟩
  rw [f6]
  have N7 := hide (Mem.trans N6.out m1)
  clear m1 c0 c1' c2' c3
  go_wp2_with fail
  refine (cPick (fun _ => True) (.slice none 0 0) [] false false 0 0 _ ⟨by simp, .inl ⟨rfl, none, 0, rfl⟩⟩ (by simp)).mono ?_
  rintro e v8 ⟨rfl, m1⟩
  rw [f8]
  have hmm := (M4.trans N7.out).trans m1
  go_wp2_with fail
  go_ret
  exact ⟨rfl, hmm⟩
end Go.Proofs.Ytlgofanenkbgoaa.States
