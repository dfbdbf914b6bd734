/-
  Layer 10: chips by numbers are not Off, and their Erases are small.
-/
import Derived.Test.YtegamnaahipedaaNandNewAll
import Derived.Test.YtegamnaahipedaaNandSpecs
namespace Go.Proofs.Ytegamnaahipedaa.States
open Go.RowKit Go.Proofs.Ytegamnaahipedaa.Nand

/-- the Erases of all blocks are from 0 to k -/
def Worn (k : Nat) (bs : List BlockT) : Prop := ∀ b ∈ bs, 0 ≤ b.2.2.1 ∧ b.2.2.1 ≤ (k : Int)
theorem Worn.set {k : Nat} {bs : List BlockT} (h : Worn k bs) (i : Nat) {b : BlockT} (hb : 0 ≤ b.2.2.1 ∧ b.2.2.1 ≤ (k : Int)) : Worn k (bs.set i b) := by
  intro x hx
  rcases List.mem_or_eq_of_mem_set hx with h' | rfl
  · exact h x h'
  · exact hb
theorem Worn.get {k : Nat} {bs : List BlockT} (h : Worn k bs) (i : Nat) : 0 ≤ (bs.getD i default).2.2.1 ∧ (bs.getD i default).2.2.1 ≤ (k : Int) := by
  by_cases hi : i < bs.length
  · have e : bs.getD i default = bs[i] := by simp [hi]
    rw [e]
    exact h _ (List.getElem_mem hi)
  · have e : bs.getD i default = default := by simp [hi]
    rw [e]
    exact ⟨Int.le_refl _, Int.natCast_nonneg _⟩
theorem Worn.up {k : Nat} {bs : List BlockT} (h : Worn k bs) : Worn (k + 1) bs := fun b hb => by have := h b hb; omega
def InvC (N M k : Nat) (c : ChipT) : Prop := Inv N M c.1 ∧ c.2.2.1 = false ∧ Worn k c.1
theorem invC_new (N M : Nat) : InvC N M 0 (newBlocks N M [], false, false, 0) := by
  refine ⟨inv_new N M, rfl, fun b hb => ?_⟩
  simp only [newBlocks, List.mem_map] at hb
  obtain ⟨i, _, rfl⟩ := hb
  exact ⟨Int.le_refl _, Int.le_refl _⟩
theorem InvC.up {N M k : Nat} {c : ChipT} (h : InvC N M k c) : InvC N M (k + 1) c := ⟨h.1, h.2.1, h.2.2.up⟩
theorem wrap_small {n : Int} (h0 : 0 ≤ n) (h1 : n ≤ 1000) : wrap64 n = n := by
  unfold wrap64
  omega
theorem invC_erase {N M k : Nat} {c : ChipT} (h : InvC N M k c) (b : Int) (hk : k ≤ 900) : InvC N M (k + 1) (erase c b (0, ⟨#[]⟩, ⟨#[]⟩, 0)).1 := by
  refine ⟨inv_erase h.1 b, ?_, ?_⟩
  all_goals (unfold erase; split)
  · exact h.2.1
  · split
    · rfl
    · exact h.2.1
  · exact h.2.2.up
  · split
    · have hg := h.2.2.get b.toNat
      refine h.2.2.up.set _ ?_
      show 0 ≤ wrap64 _ ∧ wrap64 _ ≤ _
      rw [wrap_small (by omega) (by omega)]
      omega
    · exact h.2.2.up
theorem invC_prog {N M k : Nat} {c : ChipT} (h : InvC N M k c) (b p : Int) {pg : PageT} {f : FateT} (h1 : pg.2.2.size ≤ maxLen) (h2 : f.2.2.1.size ≤ maxLen) (h3 : f.1 ≠ 2) : InvC N M k (Nand.program c b p pg f).1 := by
  refine ⟨inv_prog h.1 b p h1 h2, ?_, ?_⟩
  all_goals (unfold Nand.program; split)
  · exact h.2.1
  · split
    · exact decide_eq_false h3
    · exact h.2.1
  · exact h.2.2
  · split
    · exact h.2.2.set _ (h.2.2.get _)
    · exact h.2.2
end Go.Proofs.Ytegamnaahipedaa.States
