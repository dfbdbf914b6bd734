/-
  Layer 11: chips by numbers: the next page of each block is one of its pages, or behind them all.
-/
import Derived.Test.YtegamnaahipedaaStatesMadeMath
namespace Go.Proofs.Ytegamnaahipedaa.Victim
open Go.RowKit Go.Proofs.Ytegamnaahipedaa.Nand Go.Proofs.Ytegamnaahipedaa.Scan Go.Proofs.Ytegamnaahipedaa.States

def NextB (bs : List BlockT) : Prop := ∀ b ∈ bs, 0 ≤ b.2.1 ∧ b.2.1 ≤ (b.1.length : Int)
theorem NextB.set {bs : List BlockT} (h : NextB bs) (i : Nat) {b : BlockT} (hb : 0 ≤ b.2.1 ∧ b.2.1 ≤ (b.1.length : Int)) : NextB (bs.set i b) := by
  intro x hx
  rcases List.mem_or_eq_of_mem_set hx with hx | rfl
  · exact h x hx
  · exact hb
theorem NextB.get {bs : List BlockT} (h : NextB bs) (i : Nat) : 0 ≤ (bs.getD i default).2.1 ∧ (bs.getD i default).2.1 ≤ ((bs.getD i default).1.length : Int) := by
  by_cases hi : i < bs.length
  · have e : bs.getD i default = bs[i] := by simp [hi]
    rw [e]
    exact h _ (List.getElem_mem hi)
  · have e : bs.getD i default = default := by simp [hi]
    rw [e]
    exact ⟨Int.le_refl _, Int.natCast_nonneg _⟩
theorem nextB_erase {c : ChipT} (h : NextB c.1) (b : Int) (f : FateT) : NextB (erase c b f).1.1 := by
  unfold erase
  split
  · exact h
  · split
    · split
      · exact h.set _ (h.get _)
      · split
        · refine h.set _ ?_
          show 0 ≤ (0 : Int) ∧ (0 : Int) ≤ _
          omega
        · refine h.set _ ?_
          show 0 ≤ ((_ : Nat) : Int) ∧ ((_ : Nat) : Int) ≤ ((wipe _ _).length : Int)
          rw [wipe_length]
          omega
    · exact h
theorem nextB_prog {c : ChipT} (h : NextB c.1) (b p : Int) (pg : PageT) (f : FateT) : NextB (Nand.program c b p pg f).1.1 := by
  unfold Nand.program
  split
  · exact h
  · split
    · rename_i hok
      refine h.set _ ?_
      show 0 ≤ p + 1 ∧ p + 1 ≤ ((List.set _ _ _).length : Int)
      rw [List.length_set]
      unfold okProg thereB at hok
      simp only [Bool.and_eq_true, decide_eq_true_eq] at hok
      omega
    · exact h
def InvD (N M k : Nat) (c : ChipT) : Prop := InvC N M k c ∧ NextB c.1
theorem invD_new (N M : Nat) : InvD N M 0 (newBlocks N M [], false, false, 0) := by
  refine ⟨invC_new N M, fun b hb => ?_⟩
  simp only [newBlocks, List.mem_map] at hb
  obtain ⟨i, _, rfl⟩ := hb
  exact ⟨Int.le_refl _, Int.natCast_nonneg _⟩
theorem InvD.up {N M k : Nat} {c : ChipT} (h : InvD N M k c) : InvD N M (k + 1) c := ⟨h.1.up, h.2⟩
theorem invD_erase {N M k : Nat} {c : ChipT} (h : InvD N M k c) (b : Int) (hk : k ≤ 900) : InvD N M (k + 1) (erase c b (0, ⟨#[]⟩, ⟨#[]⟩, 0)).1 := ⟨invC_erase h.1 b hk, nextB_erase h.2 b _⟩
theorem invD_prog {N M k : Nat} {c : ChipT} (h : InvD N M k c) (b p : Int) {pg : PageT} {f : FateT} (h1 : pg.2.2.size ≤ maxLen) (h2 : f.2.2.1.size ≤ maxLen) (h3 : f.1 ≠ 2) : InvD N M k (Nand.program c b p pg f).1 := ⟨invC_prog h.1 b p h1 h2 h3, nextB_prog h.2 b p pg f⟩
end Go.Proofs.Ytegamnaahipedaa.Victim
