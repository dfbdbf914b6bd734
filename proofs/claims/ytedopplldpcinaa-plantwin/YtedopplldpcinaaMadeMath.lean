/-
  StatesMadeMath, VictimMadeMath, PlanSized: in one text (merge.json).
-/
import Derived.Test.YtedopplldpcinaaNandNewAll
import Derived.Test.YtedopplldpcinaaNandSpecs
import Derived.Test.YtedopplldpcinaaPlanRefAll
/-
  Layer 10: chips by numbers are not Off, and their Erases are small.
-/
namespace Go.Proofs.Ytedopplldpcinaa.States
open Go.RowKit Go.Proofs.Ytedopplldpcinaa.Nand

/-- the Erases of all blocks are from 0 to k -/
def Worn (k : Nat) (bs : List BlockT) : Prop := ∀ b ∈ bs, 0 ≤ b.2.2.1 ∧ b.2.2.1 ≤ (k : Int)
theorem Worn.set {k : Nat} {bs : List BlockT} (h : Worn k bs) (i : Nat) {b : BlockT} (hb : 0 ≤ b.2.2.1 ∧ b.2.2.1 ≤ (k : Int)) : Worn k (bs.set i b) := by
  intro x hx
  rcases List.mem_or_eq_of_mem_set hx with h' | rfl
  · exact h x h'
  · exact hb
theorem Worn.get {k : Nat} {bs : List BlockT} (h : Worn k bs) (i : Nat) : 0 ≤ (bs.getD i default).2.2.1 ∧ (bs.getD i default).2.2.1 ≤ (k : Int) := by
  by_cases hi : i < bs.length
  · have e : bs.getD i default = bs[i] := by simp [hi]
    rw [e]
    exact h _ (List.getElem_mem hi)
  · have e : bs.getD i default = default := by simp [hi]
    rw [e]
    exact ⟨Int.le_refl _, Int.natCast_nonneg _⟩
theorem Worn.up {k : Nat} {bs : List BlockT} (h : Worn k bs) : Worn (k + 1) bs := fun b hb => by have := h b hb; omega
def InvC (N M k : Nat) (c : ChipT) : Prop := Inv N M c.1 ∧ c.2.2.1 = false ∧ Worn k c.1
theorem invC_new (N M : Nat) : InvC N M 0 (newBlocks N M [], false, false, 0) := by
  refine ⟨inv_new N M, rfl, fun b hb => ?_⟩
  simp only [newBlocks, List.mem_map] at hb
  obtain ⟨i, _, rfl⟩ := hb
  exact ⟨Int.le_refl _, Int.le_refl _⟩
theorem InvC.up {N M k : Nat} {c : ChipT} (h : InvC N M k c) : InvC N M (k + 1) c := ⟨h.1, h.2.1, h.2.2.up⟩
theorem wrap_small {n : Int} (h0 : 0 ≤ n) (h1 : n ≤ 1000) : wrap64 n = n := by
  unfold wrap64
  omega
theorem invC_erase {N M k : Nat} {c : ChipT} (h : InvC N M k c) (b : Int) (hk : k ≤ 900) : InvC N M (k + 1) (erase c b (0, ⟨#[]⟩, ⟨#[]⟩, 0)).1 := by
  refine ⟨inv_erase h.1 b, ?_, ?_⟩
  all_goals (unfold erase; split)
  · exact h.2.1
  · split
    · rfl
    · exact h.2.1
  · exact h.2.2.up
  · split
    · have hg := h.2.2.get b.toNat
      refine h.2.2.up.set _ ?_
      show 0 ≤ wrap64 _ ∧ wrap64 _ ≤ _
      rw [wrap_small (by omega) (by omega)]
      omega
    · exact h.2.2.up
theorem invC_prog {N M k : Nat} {c : ChipT} (h : InvC N M k c) (b p : Int) {pg : PageT} {f : FateT} (h1 : pg.2.2.size ≤ maxLen) (h2 : f.2.2.1.size ≤ maxLen) (h3 : f.1 ≠ 2) : InvC N M k (Nand.program c b p pg f).1 := by
  refine ⟨inv_prog h.1 b p h1 h2, ?_, ?_⟩
  all_goals (unfold Nand.program; split)
  · exact h.2.1
  · split
    · exact decide_eq_false h3
    · exact h.2.1
  · exact h.2.2
  · split
    · exact h.2.2.set _ (h.2.2.get _)
    · exact h.2.2
end Go.Proofs.Ytedopplldpcinaa.States
/-
  Layer 11: chips by numbers: the next page of each block is one of its pages, or behind them all.
-/
namespace Go.Proofs.Ytedopplldpcinaa.Victim
open Go.RowKit Go.Proofs.Ytedopplldpcinaa.Nand Go.Proofs.Ytedopplldpcinaa.Scan Go.Proofs.Ytedopplldpcinaa.States

def NextB (bs : List BlockT) : Prop := ∀ b ∈ bs, 0 ≤ b.2.1 ∧ b.2.1 ≤ (b.1.length : Int)
theorem NextB.set {bs : List BlockT} (h : NextB bs) (i : Nat) {b : BlockT} (hb : 0 ≤ b.2.1 ∧ b.2.1 ≤ (b.1.length : Int)) : NextB (bs.set i b) := by
  intro x hx
  rcases List.mem_or_eq_of_mem_set hx with hx | rfl
  · exact h x hx
  · exact hb
theorem NextB.get {bs : List BlockT} (h : NextB bs) (i : Nat) : 0 ≤ (bs.getD i default).2.1 ∧ (bs.getD i default).2.1 ≤ ((bs.getD i default).1.length : Int) := by
  by_cases hi : i < bs.length
  · have e : bs.getD i default = bs[i] := by simp [hi]
    rw [e]
    exact h _ (List.getElem_mem hi)
  · have e : bs.getD i default = default := by simp [hi]
    rw [e]
    exact ⟨Int.le_refl _, Int.natCast_nonneg _⟩
theorem nextB_erase {c : ChipT} (h : NextB c.1) (b : Int) (f : FateT) : NextB (erase c b f).1.1 := by
  unfold erase
  split
  · exact h
  · split
    · split
      · exact h.set _ (h.get _)
      · split
        · refine h.set _ ?_
          show 0 ≤ (0 : Int) ∧ (0 : Int) ≤ _
          omega
        · refine h.set _ ?_
          show 0 ≤ ((_ : Nat) : Int) ∧ ((_ : Nat) : Int) ≤ ((wipe _ _).length : Int)
          rw [wipe_length]
          omega
    · exact h
theorem nextB_prog {c : ChipT} (h : NextB c.1) (b p : Int) (pg : PageT) (f : FateT) : NextB (Nand.program c b p pg f).1.1 := by
  unfold Nand.program
  split
  · exact h
  · split
    · rename_i hok
      refine h.set _ ?_
      show 0 ≤ p + 1 ∧ p + 1 ≤ ((List.set _ _ _).length : Int)
      rw [List.length_set]
      unfold okProg thereB at hok
      simp only [Bool.and_eq_true, decide_eq_true_eq] at hok
      omega
    · exact h
def InvD (N M k : Nat) (c : ChipT) : Prop := InvC N M k c ∧ NextB c.1
theorem invD_new (N M : Nat) : InvD N M 0 (newBlocks N M [], false, false, 0) := by
  refine ⟨invC_new N M, fun b hb => ?_⟩
  simp only [newBlocks, List.mem_map] at hb
  obtain ⟨i, _, rfl⟩ := hb
  exact ⟨Int.le_refl _, Int.natCast_nonneg _⟩
theorem InvD.up {N M k : Nat} {c : ChipT} (h : InvD N M k c) : InvD N M (k + 1) c := ⟨h.1.up, h.2⟩
theorem invD_erase {N M k : Nat} {c : ChipT} (h : InvD N M k c) (b : Int) (hk : k ≤ 900) : InvD N M (k + 1) (erase c b (0, ⟨#[]⟩, ⟨#[]⟩, 0)).1 := ⟨invC_erase h.1 b hk, nextB_erase h.2 b _⟩
theorem invD_prog {N M k : Nat} {c : ChipT} (h : InvD N M k c) (b p : Int) {pg : PageT} {f : FateT} (h1 : pg.2.2.size ≤ maxLen) (h2 : f.2.2.1.size ≤ maxLen) (h3 : f.1 ≠ 2) : InvD N M k (Nand.program c b p pg f).1 := ⟨invC_prog h.1 b p h1 h2 h3, nextB_prog h.2 b p pg f⟩
end Go.Proofs.Ytedopplldpcinaa.Victim
/-
  Layer 12: chips by numbers: no page's data is longer than a text may be.
-/
namespace Go.Proofs.Ytedopplldpcinaa.Plan
open Go.RowKit Go.Proofs.Ytedopplldpcinaa.Nand Go.Proofs.Ytedopplldpcinaa.Scan Go.Proofs.Ytedopplldpcinaa.States Go.Proofs.Ytedopplldpcinaa.Victim

theorem DataS.get {bs : List BlockT} (h : DataS bs) (i : Nat) : ∀ p ∈ (bs.getD i default).1, p.2.1.size ≤ maxLen := by
  by_cases hi : i < bs.length
  · have e : bs.getD i default = bs[i] := by simp [hi]
    rw [e]
    exact h _ (List.getElem_mem hi)
  · have e : bs.getD i default = default := by simp [hi]
    rw [e]
    intro p hp
    have : p ∈ ([] : List PageT) := hp
    cases this
theorem DataS.set {bs : List BlockT} (h : DataS bs) (i : Nat) {b : BlockT} (hb : ∀ p ∈ b.1, p.2.1.size ≤ maxLen) : DataS (bs.set i b) := by
  intro x hx
  rcases List.mem_or_eq_of_mem_set hx with h' | rfl
  · exact h x h'
  · exact hb
theorem dataS_prog {c : ChipT} (h : DataS c.1) (b p : Int) {pg : PageT} {f : FateT} (h1 : pg.2.1.size ≤ maxLen) (h2 : f.2.1.size ≤ maxLen) : DataS (Nand.program c b p pg f).1.1 := by
  unfold Nand.program
  split
  · exact h
  · split
    · refine h.set _ ?_
      intro x hx
      rcases List.mem_or_eq_of_mem_set hx with h' | rfl
      · exact h.get _ x h'
      · split
        · exact h1
        · exact h2
    · exact h
theorem dataS_wipe {ps : List PageT} (h : ∀ p ∈ ps, p.2.1.size ≤ maxLen) (n : Nat) : ∀ p ∈ wipe n ps, p.2.1.size ≤ maxLen := by
  intro p hp
  unfold wipe at hp
  rw [List.mem_append] at hp
  rcases hp with hp | hp
  · rw [(List.mem_replicate.1 hp).2]
    exact Nat.zero_le _
  · exact h p (List.mem_of_mem_drop hp)
theorem dataS_erase {c : ChipT} (h : DataS c.1) (b : Int) (f : FateT) : DataS (erase c b f).1.1 := by
  unfold erase
  split
  · exact h
  · split
    · split
      · exact h.set _ (h.get _)
      · split
        · exact h.set _ (dataS_wipe (h.get _) _)
        · exact h.set _ (dataS_wipe (h.get _) _)
    · exact h
theorem dataS_new (N M : Nat) (bad : List Int) : DataS (newBlocks N M bad) := by
  intro b hb p hp
  unfold newBlocks at hb
  simp only [List.mem_map] at hb
  obtain ⟨i, _, rfl⟩ := hb
  rw [(List.mem_replicate.1 hp).2]
  exact Nat.zero_le _
def InvE (N M k : Nat) (c : ChipT) : Prop := InvC N M k c ∧ NextB c.1 ∧ DataS c.1
theorem invE_new (N M : Nat) : InvE N M 0 (newBlocks N M [], false, false, 0) := ⟨(invD_new N M).1, (invD_new N M).2, dataS_new N M []⟩
theorem InvE.up {N M k : Nat} {c : ChipT} (h : InvE N M k c) : InvE N M (k + 1) c := ⟨h.1.up, h.2⟩
theorem invE_erase {N M k : Nat} {c : ChipT} (h : InvE N M k c) (b : Int) (hk : k ≤ 900) : InvE N M (k + 1) (erase c b (0, ⟨#[]⟩, ⟨#[]⟩, 0)).1 := ⟨invC_erase h.1 b hk, nextB_erase h.2.1 b _, dataS_erase h.2.2 b _⟩
theorem invE_prog {N M k : Nat} {c : ChipT} (h : InvE N M k c) (b p : Int) {pg : PageT} {f : FateT} (h1 : pg.2.2.size ≤ maxLen) (h2 : f.2.2.1.size ≤ maxLen) (h3 : f.1 ≠ 2) (h4 : pg.2.1.size ≤ maxLen) (h5 : f.2.1.size ≤ maxLen) : InvE N M k (Nand.program c b p pg f).1 := ⟨invC_prog h.1 b p h1 h2 h3, nextB_prog h.2.1 b p pg f, dataS_prog h.2.2 b p h4 h5⟩
end Go.Proofs.Ytedopplldpcinaa.Plan
