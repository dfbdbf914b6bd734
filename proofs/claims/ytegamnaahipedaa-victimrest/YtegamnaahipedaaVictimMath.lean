/-
  Layer 11: the mathematics of which block is to be erased.
-/
import Derived.Test.YtegamnaahipedaaStatesMath
import Derived.Test.YtegamnaahipedaaLiveMath
namespace Go.Proofs.Ytegamnaahipedaa.Victim
open Go.Proofs.Ytegamnaahipedaa.Nand Go.Proofs.Ytegamnaahipedaa.States Go.Proofs.Ytegamnaahipedaa.Live Go.Proofs.Ytegamnaahipedaa.Replay

/-- a Closed block, of which fewer pages are wanted than it has -/
def candB (bs : List BlockT) (t : TableT) (o : Int) (k : Nat) : Bool := decide (stateT bs o k = 2 ∧ countT t k < (blkT bs k).1.length)
/-- is block k to be erased ahead of block j? -/
def aheadB (bs : List BlockT) (t : TableT) (k j : Nat) : Bool := decide (countT t k < countT t j ∨ (countT t k = countT t j ∧ erT bs k < erT bs j))
def victN (bs : List BlockT) (t : TableT) (o : Int) : Nat → Option Nat
  | 0 => none
  | k + 1 => match victN bs t o k with
    | none => if candB bs t o k = true then some k else none
    | some j => if candB bs t o k = true ∧ aheadB bs t k j = true then some k else some j
def victT (bs : List BlockT) (t : TableT) (o : Int) : Int := optI (victN bs t o (min bs.length 32))
def bestC (t : TableT) : Option Nat → Nat
  | none => 0
  | some j => countT t j
/-- the first one below n of which P holds -/
def firstN (P : Nat → Bool) : Nat → Option Nat
  | 0 => none
  | k + 1 => match firstN P k with
    | some j => some j
    | none => if P k = true then some k else none
def coldB (bs : List BlockT) (o a : Int) (j : Nat) : Bool := decide (stateT bs o j = 2 ∧ erT bs j = a)
def coldT (bs : List BlockT) (o most : Int) : Int :=
  if (wearT bs).2 - (wearT bs).1 ≤ most then -1 else optI (firstN (coldB bs o (wearT bs).1) bs.length)
def restT (bs : List BlockT) (o : Int) : Int := if stateT bs o o = 1 then ((blkT bs o.toNat).1.length : Int) - (blkT bs o.toNat).2.1 else 0

theorem vict_skip {bs : List BlockT} {t : TableT} {o : Int} {k : Nat} (h : candB bs t o k = false) : victN bs t o (k + 1) = victN bs t o k := by
  rw [victN, h]
  cases victN bs t o k <;> rfl
theorem vict_first {bs : List BlockT} {t : TableT} {o : Int} {k : Nat} (h : candB bs t o k = true) (hv : victN bs t o k = none) : victN bs t o (k + 1) = some k := by
  rw [victN, hv]; simp only []; rw [if_pos h]
theorem vict_new {bs : List BlockT} {t : TableT} {o : Int} {k j : Nat} (h : candB bs t o k = true) (hv : victN bs t o k = some j) (ha : aheadB bs t k j = true) : victN bs t o (k + 1) = some k := by
  rw [victN, hv]; simp only []; rw [if_pos ⟨h, ha⟩]
theorem vict_old {bs : List BlockT} {t : TableT} {o : Int} {k j : Nat} (hv : victN bs t o k = some j) (ha : aheadB bs t k j = false) : victN bs t o (k + 1) = some j := by
  rw [victN, hv]; simp only []; rw [if_neg (fun h => by rw [h.2] at ha; cases ha)]
theorem vict_lt {bs : List BlockT} {t : TableT} {o : Int} {k j : Nat} (h : victN bs t o k = some j) : j < k ∧ candB bs t o j = true := by
  induction k generalizing j with
  | zero => cases h
  | succ k ih =>
    cases hc : candB bs t o k with
    | false => rw [vict_skip hc] at h; have := ih h; exact ⟨by omega, this.2⟩
    | true =>
      cases hv : victN bs t o k with
      | none => rw [vict_first hc hv] at h; injection h with h; subst h; exact ⟨by omega, hc⟩
      | some i =>
        cases ha : aheadB bs t k i with
        | true => rw [vict_new hc hv ha] at h; injection h with h; subst h; exact ⟨by omega, hc⟩
        | false => rw [vict_old hv ha] at h; injection h with h; subst h; have := ih hv; exact ⟨by omega, this.2⟩
theorem vict_no {bs : List BlockT} {t : TableT} {o : Int} {k : Nat} (h : victN bs t o k = none) : ∀ i, i < k → candB bs t o i = false := by
  induction k with
  | zero => intro i hi; omega
  | succ k ih =>
    intro i hi
    cases hc : candB bs t o k with
    | true =>
      exfalso
      cases hv : victN bs t o k with
      | none => rw [vict_first hc hv] at h; cases h
      | some j =>
        cases ha : aheadB bs t k j with
        | true => rw [vict_new hc hv ha] at h; cases h
        | false => rw [vict_old hv ha] at h; cases h
    | false =>
      rw [vict_skip hc] at h
      by_cases e : i = k
      · subst e; exact hc
      · exact ih h i (by omega)
theorem vict_least {bs : List BlockT} {t : TableT} {o : Int} {k j : Nat} (h : victN bs t o k = some j) : ∀ i, i < k → candB bs t o i = true → countT t j ≤ countT t i := by
  induction k generalizing j with
  | zero => cases h
  | succ k ih =>
    intro i hi hci
    cases hc : candB bs t o k with
    | false =>
      rw [vict_skip hc] at h
      by_cases e : i = k
      · subst e; rw [hc] at hci; cases hci
      · exact ih h i (by omega) hci
    | true =>
      cases hv : victN bs t o k with
      | none =>
        rw [vict_first hc hv] at h
        injection h with h
        subst h
        by_cases e : i = k
        · subst e; exact Nat.le_refl _
        · have := vict_no hv i (by omega); rw [this] at hci; cases hci
      | some r =>
        cases ha : aheadB bs t k r with
        | true =>
          rw [vict_new hc hv ha] at h
          injection h with h
          subst h
          by_cases e : i = k
          · subst e; exact Nat.le_refl _
          · have h1 := ih hv i (by omega) hci
            have h2 := of_decide_eq_true (show decide _ = true from ha)
            omega
        | false =>
          rw [vict_old hv ha] at h
          injection h with h
          subst h
          by_cases e : i = k
          · subst e
            have h2 := of_decide_eq_false (show decide _ = false from ha)
            omega
          · exact ih hv i (by omega) hci
theorem first_none {P : Nat → Bool} {k : Nat} : firstN P k = none ↔ ∀ i, i < k → P i = false := by
  induction k with
  | zero => exact ⟨fun _ i hi => by omega, fun _ => rfl⟩
  | succ k ih =>
    cases hf : firstN P k with
    | some j =>
      constructor
      · intro h; rw [firstN, hf] at h; cases h
      · intro h
        have := ih.2 fun i hi => h i (by omega)
        rw [hf] at this; cases this
    | none =>
      have hall := ih.1 hf
      cases hp : P k with
      | true =>
        constructor
        · intro h; rw [firstN, hf] at h; simp only [] at h; rw [if_pos hp] at h; cases h
        · intro h; have := h k (by omega); rw [hp] at this; cases this
      | false =>
        constructor
        · intro _ i hi
          by_cases e : i = k
          · subst e; exact hp
          · exact hall i (by omega)
        · intro _; rw [firstN, hf]; simp only []; rw [if_neg (by rw [hp]; decide)]
theorem first_here {P : Nat → Bool} {k n : Nat} (h : firstN P k = none) (hp : P k = true) (hn : k < n) : firstN P n = some k := by
  obtain ⟨m, rfl⟩ : ∃ m, n = k + 1 + m := ⟨n - (k + 1), by omega⟩
  clear hn
  induction m with
  | zero => rw [Nat.add_zero, firstN, h]; simp only []; rw [if_pos hp]
  | succ m ih => rw [← Nat.add_assoc, firstN, ih]
theorem first_next {P : Nat → Bool} {k : Nat} (h : firstN P k = none) (hp : P k = false) : firstN P (k + 1) = none := by
  rw [firstN, h]; simp only []; rw [if_neg (by rw [hp]; decide)]
theorem first_is {P : Nat → Bool} {k j : Nat} (h : firstN P k = some j) : j < k ∧ P j = true := by
  induction k with
  | zero => cases h
  | succ k ih =>
    rw [firstN] at h
    cases hf : firstN P k with
    | some i => rw [hf] at h; simp only [] at h; injection h with h; subst h; have := ih hf; exact ⟨by omega, this.2⟩
    | none =>
      rw [hf] at h
      simp only [] at h
      by_cases hp : P k = true
      · rw [if_pos hp] at h; injection h with h; subst h; exact ⟨by omega, hp⟩
      · rw [if_neg hp] at h; cases h
theorem er_at {bs : List BlockT} {k : Nat} (h : k < bs.length) : bs[k].2.2.1 = erT bs k := by unfold erT blkT; rw [List.getD_eq_getElem?_getD, List.getElem?_eq_getElem h]; rfl
theorem opt_neg {p : Option Nat} : optI p < 0 ↔ p = none := by
  cases p with
  | none => simp [optI]
  | some j => simp [optI]
theorem opt_ge {p : Option Nat} : 0 ≤ optI p ↔ ∃ j, p = some j := by
  cases p with
  | none => simp [optI]
  | some j => simp [optI]

/-- what Wear tells: the fewest and the most of the first k that are not Bad -/
theorem wear_is {bs : List BlockT} {k : Nat} {a b : Int} (h : wearN bs k = some (a, b)) :
    (∀ i, i < k → (blkT bs i).2.2.2 = false → a ≤ erT bs i ∧ erT bs i ≤ b) ∧ (∃ i, i < k ∧ (blkT bs i).2.2.2 = false ∧ erT bs i = a) ∧ ∃ i, i < k ∧ (blkT bs i).2.2.2 = false ∧ erT bs i = b := by
  induction k generalizing a b with
  | zero => cases h
  | succ k ih =>
    cases hb : (blkT bs k).2.2.2 with
    | true =>
      rw [wear_bad hb] at h
      obtain ⟨h1, ⟨i, h2, h3, h4⟩, j, h5, h6, h7⟩ := ih h
      refine ⟨fun i hi hg => ?_, ⟨i, by omega, h3, h4⟩, j, by omega, h6, h7⟩
      by_cases e : i = k
      · subst e; rw [hb] at hg; cases hg
      · exact h1 i (by omega) hg
    | false =>
      cases hw : wearN bs k with
      | none =>
        rw [wear_first hb hw] at h
        injection h with h
        injection h with e1 e2
        subst e1 e2
        refine ⟨fun i hi hg => ?_, ⟨k, by omega, hb, rfl⟩, k, by omega, hb, rfl⟩
        by_cases e : i = k
        · subst e; omega
        · exfalso
          have hno : ∀ m, wearN bs m = none → ∀ i, i < m → (blkT bs i).2.2.2 = true := by
            intro m
            induction m with
            | zero => intro _ i hi; omega
            | succ m ihm =>
              intro hm i hi
              cases hbm : (blkT bs m).2.2.2 with
              | true =>
                rw [wear_bad hbm] at hm
                by_cases e : i = m
                · subst e; exact hbm
                · exact ihm hm i (by omega)
              | false =>
                exfalso
                cases hq : wearN bs m with
                | none => rw [wear_first hbm hq] at hm; cases hm
                | some p => obtain ⟨p, q⟩ := p; rw [wear_next hbm hq] at hm; cases hm
          have := hno k hw i (by omega)
          rw [this] at hg; cases hg
      | some p =>
        obtain ⟨p, q⟩ := p
        rw [wear_next hb hw] at h
        injection h with h
        injection h with e1 e2
        obtain ⟨h1, ⟨i, h2, h3, h4⟩, j, h5, h6, h7⟩ := ih hw
        refine ⟨fun i hi hg => ?_, ?_, ?_⟩
        · by_cases e : i = k
          · subst e; omega
          · have := h1 i (by omega) hg; omega
        · by_cases hlt : erT bs k < p
          · exact ⟨k, by omega, hb, by omega⟩
          · exact ⟨i, by omega, h3, by omega⟩
        · by_cases hlt : q < erT bs k
          · exact ⟨k, by omega, hb, by omega⟩
          · exact ⟨j, by omega, h6, by omega⟩
/-- Erases that Wear tells lie where all lie -/
theorem wear_range {bs : List BlockT} {n : Int} (h0 : 0 ≤ n) (h : ∀ b ∈ bs, 0 ≤ b.2.2.1 ∧ b.2.2.1 ≤ n) : 0 ≤ (wearT bs).1 ∧ (wearT bs).1 ≤ n ∧ 0 ≤ (wearT bs).2 ∧ (wearT bs).2 ≤ n := by
  unfold wearT
  cases hw : wearN bs bs.length with
  | none => simp; omega
  | some p =>
    obtain ⟨a, b⟩ := p
    obtain ⟨_, ⟨i, h2, _, h4⟩, j, h5, _, h7⟩ := wear_is hw
    have hi := h (blkT bs i) (by unfold blkT; rw [List.getD_eq_getElem?_getD, List.getElem?_eq_getElem h2]; exact List.getElem_mem h2)
    have hj := h (blkT bs j) (by unfold blkT; rw [List.getD_eq_getElem?_getD, List.getElem?_eq_getElem h5]; exact List.getElem_mem h5)
    unfold erT at h4 h7
    simp only [Option.getD_some]
    omega
end Go.Proofs.Ytegamnaahipedaa.Victim
