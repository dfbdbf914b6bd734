/-
  Layer 10: the mathematics of what blocks are.
-/
import Derived.Test.YtegamnaahipedaaChipMem
namespace Go.Proofs.Ytegamnaahipedaa.States
open Go.Proofs.Ytegamnaahipedaa.Nand

abbrev blkT (bs : List BlockT) (k : Nat) : BlockT := bs.getD k default
def anyW (ps : List PageT) : Bool := ps.any fun p => p.1
/-- are the first k pages not Written? -/
def noneW (ps : List PageT) (k : Nat) : Bool := !(anyW (ps.take k))
def stateB (o b : Int) (x : BlockT) : Int :=
  if x.2.2.2 = true then 3 else if b = o ∧ 0 ≤ x.2.1 ∧ x.2.1 < x.1.length then 1 else if anyW x.1 = true then 2 else if x.2.1 = 0 then 0 else 2
def stateT (bs : List BlockT) (o b : Int) : Int := if b < 0 ∨ (bs.length : Int) ≤ b then 3 else stateB o b (blkT bs b.toNat)
def manyN (bs : List BlockT) (o s : Int) : Nat → Nat
  | 0 => 0
  | k + 1 => if stateT bs o k = s then manyN bs o s k + 1 else manyN bs o s k
def manyT (bs : List BlockT) (o s : Int) : Nat := manyN bs o s bs.length
def erT (bs : List BlockT) (k : Nat) : Int := (blkT bs k).2.2.1
/-- of the first k the one to be picked -/
def pickN (bs : List BlockT) (o : Int) : Nat → Option Nat
  | 0 => none
  | k + 1 => match pickN bs o k with
    | none => if stateT bs o k = 0 then some k else none
    | some j => if stateT bs o k = 0 ∧ erT bs k < erT bs j then some k else some j
def optI : Option Nat → Int
  | none => -1
  | some j => j
def pickT (bs : List BlockT) (o : Int) : Int := optI (pickN bs o bs.length)
/-- of the first k that are not Bad: the fewest and the most Erases -/
def wearN (bs : List BlockT) : Nat → Option (Int × Int)
  | 0 => none
  | k + 1 => if (blkT bs k).2.2.2 = true then wearN bs k else match wearN bs k with
    | none => some (erT bs k, erT bs k)
    | some (a, b) => some (if erT bs k < a then erT bs k else a, if b < erT bs k then erT bs k else b)
def wearT (bs : List BlockT) : Int × Int := (wearN bs bs.length).getD (0, 0)

theorem state_in {bs : List BlockT} {o : Int} {k : Nat} (h : k < bs.length) : stateT bs o k = stateB o k (blkT bs k) := by
  unfold stateT
  rw [if_neg (by omega), Int.toNat_natCast]
theorem many_yes {bs : List BlockT} {o s : Int} {k : Nat} (h : stateT bs o k = s) : manyN bs o s (k + 1) = manyN bs o s k + 1 := by rw [manyN, if_pos h]
theorem many_no {bs : List BlockT} {o s : Int} {k : Nat} (h : ¬ stateT bs o k = s) : manyN bs o s (k + 1) = manyN bs o s k := by rw [manyN, if_neg h]
theorem many_le (bs : List BlockT) (o s : Int) (k : Nat) : manyN bs o s k ≤ k := by
  induction k with
  | zero => simp [manyN]
  | succ k ih =>
    unfold manyN
    split <;> omega
theorem pick_lt {bs : List BlockT} {o : Int} {k j : Nat} (h : pickN bs o k = some j) : j < k := by
  induction k generalizing j with
  | zero => cases h
  | succ k ih =>
    unfold pickN at h
    split at h
    · split at h
      · injection h with h; omega
      · cases h
    · rename_i i hi
      split at h
      · injection h with h; omega
      · injection h with h; have := ih hi; omega
theorem pick_first {bs : List BlockT} {o : Int} {k : Nat} (h : pickN bs o k = none) (hs : stateT bs o k = 0) : pickN bs o (k + 1) = some k := by rw [pickN, h]; simp only []; rw [if_pos hs]
theorem pick_none {bs : List BlockT} {o : Int} {k : Nat} (h : pickN bs o k = none) (hs : ¬ stateT bs o k = 0) : pickN bs o (k + 1) = none := by rw [pickN, h]; simp only []; rw [if_neg hs]
theorem pick_new {bs : List BlockT} {o : Int} {k j : Nat} (h : pickN bs o k = some j) (hs : stateT bs o k = 0) (he : erT bs k < erT bs j) : pickN bs o (k + 1) = some k := by rw [pickN, h]; simp only []; rw [if_pos ⟨hs, he⟩]
theorem pick_old {bs : List BlockT} {o : Int} {k j : Nat} (h : pickN bs o k = some j) (hn : ¬ (stateT bs o k = 0 ∧ erT bs k < erT bs j)) : pickN bs o (k + 1) = some j := by rw [pickN, h]; simp only []; rw [if_neg hn]
theorem wear_bad {bs : List BlockT} {k : Nat} (h : (blkT bs k).2.2.2 = true) : wearN bs (k + 1) = wearN bs k := by rw [wearN, if_pos h]
theorem wear_first {bs : List BlockT} {k : Nat} (h : (blkT bs k).2.2.2 = false) (hw : wearN bs k = none) : wearN bs (k + 1) = some (erT bs k, erT bs k) := by rw [wearN, if_neg (by rw [h]; decide), hw]
theorem wear_next {bs : List BlockT} {k : Nat} {a b : Int} (h : (blkT bs k).2.2.2 = false) (hw : wearN bs k = some (a, b)) : wearN bs (k + 1) = some (if erT bs k < a then erT bs k else a, if b < erT bs k then erT bs k else b) := by rw [wearN, if_neg (by rw [h]; decide), hw]

/-! ### K5: each block is in one state -/
theorem state_range (bs : List BlockT) (o b : Int) : stateT bs o b = 0 ∨ stateT bs o b = 1 ∨ stateT bs o b = 2 ∨ stateT bs o b = 3 := by
  unfold stateT stateB
  repeat (first | (split; first | omega | skip) | omega)
theorem many_all (bs : List BlockT) (o : Int) (k : Nat) : manyN bs o 0 k + manyN bs o 1 k + manyN bs o 2 k + manyN bs o 3 k = k := by
  induction k with
  | zero => rfl
  | succ k ih =>
    rcases state_range bs o k with h | h | h | h
    all_goals
      simp only [manyN, h]
      simp
      omega
theorem many_zero {bs : List BlockT} {o : Int} {k : Nat} : manyN bs o 0 k = 0 ↔ ∀ j, j < k → stateT bs o j ≠ 0 := by
  induction k with
  | zero => simp [manyN]
  | succ k ih =>
    by_cases h : stateT bs o k = 0
    · rw [many_yes h]
      constructor
      · intro e; omega
      · intro e; exact absurd h (e k (by omega))
    · rw [many_no h, ih]
      constructor
      · intro e j hj
        by_cases ej : j = k
        · subst ej; exact h
        · exact e j (by omega)
      · intro e j hj; exact e j (by omega)
theorem pick_is {bs : List BlockT} {o : Int} {k j : Nat} (h : pickN bs o k = some j) : stateT bs o j = 0 ∧ ∀ i, i < k → stateT bs o i = 0 → erT bs j ≤ erT bs i ∧ (i < j → erT bs j < erT bs i) := by
  induction k generalizing j with
  | zero => cases h
  | succ k ih =>
    cases hk : pickN bs o k with
    | none =>
      by_cases hs : stateT bs o k = 0
      · rw [pick_first hk hs] at h
        injection h with h
        subst h
        refine ⟨hs, fun i hi h0 => ?_⟩
        by_cases e : i = k
        · subst e; exact ⟨Int.le_refl _, fun h => by omega⟩
        · exfalso
          have hno : ∀ m, pickN bs o m = none → ∀ i, i < m → stateT bs o i ≠ 0 := by
            intro m
            induction m with
            | zero => intro _ i hi; omega
            | succ m ihm =>
              intro hm i hi
              cases hq : pickN bs o m with
              | none =>
                by_cases e : i = m
                · subst e; intro h0; rw [pick_first hq h0] at hm; cases hm
                · exact ihm hq i (by omega)
              | some r =>
                exfalso
                unfold pickN at hm
                rw [hq] at hm
                simp only [] at hm
                split at hm <;> cases hm
          exact hno k hk i (by omega) h0
      · rw [pick_none hk hs] at h; cases h
    | some r =>
      obtain ⟨h1, h2⟩ := ih hk
      by_cases hs : stateT bs o k = 0 ∧ erT bs k < erT bs r
      · rw [pick_new hk hs.1 hs.2] at h
        injection h with h
        subst h
        refine ⟨hs.1, fun i hi h0 => ?_⟩
        by_cases e : i = k
        · subst e; exact ⟨Int.le_refl _, fun h => by omega⟩
        · have := h2 i (by omega) h0
          exact ⟨by omega, fun _ => by omega⟩
      · rw [pick_old hk hs] at h
        injection h with h
        subst h
        have hr := pick_lt hk
        refine ⟨h1, fun i hi h0 => ?_⟩
        by_cases e : i = k
        · subst e
          refine ⟨?_, fun h => by omega⟩
          by_cases h3 : erT bs i < erT bs r
          · exact absurd ⟨h0, h3⟩ hs
          · omega
        · exact h2 i (by omega) h0
theorem pick_no {bs : List BlockT} {o : Int} {k : Nat} : pickN bs o k = none ↔ ∀ j, j < k → stateT bs o j ≠ 0 := by
  induction k with
  | zero => simp [pickN]
  | succ k ih =>
    constructor
    · intro h
      cases hk : pickN bs o k with
      | none =>
        have hs : ¬ stateT bs o k = 0 := fun hs => by rw [pick_first hk hs] at h; cases h
        intro j hj
        by_cases e : j = k
        · subst e; exact hs
        · exact ih.1 hk j (by omega)
      | some r =>
        exfalso
        unfold pickN at h
        rw [hk] at h
        simp only [] at h
        split at h <;> cases h
    · intro h
      exact pick_none (ih.2 fun j hj => h j (by omega)) (h k (by omega))
end Go.Proofs.Ytegamnaahipedaa.States
