/-
  Layer 11: the mathematics of the statements.
-/
import Derived.Test.YtegamnaahipedaaVictimWorn
namespace Go.Proofs.Ytegamnaahipedaa.Victim
open Go.RowKit Go.Proofs.Ytegamnaahipedaa.Nand Go.Proofs.Ytegamnaahipedaa.States Go.Proofs.Ytegamnaahipedaa.Live Go.Proofs.Ytegamnaahipedaa.Replay

theorem worn_sized {bs : List BlockT} {zs : List Int} {k : Nat} (h : ∀ b ∈ bs, ∀ p ∈ b.1, p.2.2.size ≤ maxLen) : ∀ b ∈ wornN bs zs k, ∀ p ∈ b.1, p.2.2.size ≤ maxLen := by
  intro b hb p hp
  obtain ⟨b', hb', e, _⟩ := worn_mem hb
  rw [e] at hp
  exact h b' hb' p hp
theorem worn_ers {bs : List BlockT} {zs : List Int} {k : Nat} (h : ∀ b ∈ bs, 0 ≤ b.2.2.1 ∧ b.2.2.1 ≤ 1099511627776) : ∀ b ∈ wornN bs zs k, 0 ≤ b.2.2.1 ∧ b.2.2.1 ≤ 1099511627776 := by
  intro b hb
  obtain ⟨b', hb', _, e⟩ := worn_mem hb
  have := h b' hb'
  omega
/-! ### L4: no Closed block has fewer wanted pages than the victim -/
theorem vict_small {bs : List BlockT} {t : TableT} {o : Int} (h : bs.length ≤ 32) : victT bs t o = optI (victN bs t o bs.length) := by
  unfold victT
  rw [Nat.min_eq_left h]
theorem vict_some {bs : List BlockT} {t : TableT} {o : Int} {j : Nat} (hv : victN bs t o bs.length = some j) (hd : ∀ k, k < bs.length → (blkT bs k).1.length = 4) :
    j < bs.length ∧ stateT bs o j = 2 ∧ countT t j < 4 ∧ ∀ b, b < bs.length → stateT bs o b = 2 → countT t j ≤ countT t b := by
  obtain ⟨hj, hc⟩ := vict_lt hv
  obtain ⟨h1, h2⟩ := of_decide_eq_true (show decide _ = true from hc)
  rw [hd j hj] at h2
  refine ⟨hj, h1, h2, fun b hb hs => ?_⟩
  cases hcb : candB bs t o b with
  | true => exact vict_least hv b hb hcb
  | false =>
    have h3 := of_decide_eq_false (show decide _ = false from hcb)
    rw [hd b hb] at h3
    by_cases h4 : countT t b < 4
    · exact absurd ⟨hs, h4⟩ h3
    · omega
theorem vict_none {bs : List BlockT} {t : TableT} {o : Int} (hv : victN bs t o bs.length = none) (hd : ∀ k, k < bs.length → (blkT bs k).1.length = 4) :
    ∀ b, b < bs.length → stateT bs o b = 2 → 4 ≤ countT t b := by
  intro b hb hs
  have hcb := vict_no hv b hb
  have h3 := of_decide_eq_false (show decide _ = false from hcb)
  rw [hd b hb] at h3
  by_cases h4 : countT t b < 4
  · exact absurd ⟨hs, h4⟩ h3
  · omega
/-! ### L2: what is cold -/
theorem cold_some {bs : List BlockT} {o most : Int} {j : Nat} (hc : coldT bs o most = (j : Int)) :
    j < bs.length ∧ stateT bs o j = 2 ∧ erT bs j = (wearT bs).1 ∧ most < (wearT bs).2 - (wearT bs).1 := by
  unfold coldT at hc
  split at hc
  · omega
  · rename_i hm
    cases hf : firstN (coldB bs o (wearT bs).1) bs.length with
    | none => rw [hf] at hc; simp only [optI] at hc; omega
    | some i =>
      rw [hf] at hc
      have e : i = j := by simp only [optI] at hc; omega
      subst e
      obtain ⟨h1, h2⟩ := first_is hf
      obtain ⟨h3, h4⟩ := of_decide_eq_true (show decide _ = true from h2)
      exact ⟨h1, h3, h4, by omega⟩
theorem cold_range (bs : List BlockT) (o most : Int) : coldT bs o most = -1 ∨ ∃ j : Nat, coldT bs o most = (j : Int) := by
  unfold coldT
  split
  · exact .inl rfl
  · cases firstN (coldB bs o (wearT bs).1) bs.length with
    | none => exact .inl rfl
    | some i => exact .inr ⟨i, rfl⟩
theorem vict_range (bs : List BlockT) (t : TableT) (o : Int) : victT bs t o = -1 ∨ ∃ j : Nat, victT bs t o = (j : Int) ∧ j < bs.length ∧ stateT bs o j = 2 := by
  unfold victT
  cases hv : victN bs t o (min bs.length 32) with
  | none => exact .inl rfl
  | some j =>
    obtain ⟨hj, hc⟩ := vict_lt hv
    obtain ⟨h1, h2⟩ := of_decide_eq_true (show decide _ = true from hc)
    exact .inr ⟨j, rfl, by omega, h1⟩
theorem cold_fits (bs : List BlockT) (o most : Int) : coldT bs o most = -1 ∨ ∃ j : Nat, coldT bs o most = (j : Int) ∧ j < bs.length ∧ stateT bs o j = 2 := by
  rcases cold_range bs o most with h | ⟨j, h⟩
  · exact .inl h
  · obtain ⟨h1, h2, _, _⟩ := cold_some h
    exact .inr ⟨j, h, h1, h2⟩
/-- of the first k blocks, is one that is not Bad erased more often than block j, by more than m? -/
def farN (bs : List BlockT) (j : Nat) (m : Int) : Nat → Bool
  | 0 => false
  | k + 1 => if (blkT bs k).2.2.2 = true then farN bs j m k else farN bs j m k || decide (m < erT bs k - erT bs j)
theorem far_bad {bs : List BlockT} {j : Nat} {m : Int} {k : Nat} (h : (blkT bs k).2.2.2 = true) : farN bs j m (k + 1) = farN bs j m k := by rw [farN, if_pos h]
theorem far_not {bs : List BlockT} {j : Nat} {m : Int} {k : Nat} (h : (blkT bs k).2.2.2 = false) : farN bs j m (k + 1) = (farN bs j m k || decide (m < erT bs k - erT bs j)) := by rw [farN, if_neg (by rw [h]; decide)]
theorem far_of {bs : List BlockT} {j : Nat} {m : Int} {k i : Nat} (hi : i < k) (hb : (blkT bs i).2.2.2 = false) (h : m < erT bs i - erT bs j) : farN bs j m k = true := by
  induction k with
  | zero => omega
  | succ k ih =>
    by_cases e : i = k
    · subst e; rw [far_not hb, decide_eq_true h, Bool.or_true]
    · have h2 := ih (by omega)
      rw [farN, h2]
      split <;> rfl
/-- what a block that is cold is -/
theorem cold_is {bs : List BlockT} {o most : Int} {j : Nat} (hc : coldT bs o most = (j : Int)) :
    (∀ i, i < bs.length → (blkT bs i).2.2.2 = false → erT bs j ≤ erT bs i) ∧ farN bs j most bs.length = true := by
  obtain ⟨h1, h2, h3, h4⟩ := cold_some hc
  have hgood := closed_good h1 h2
  unfold wearT at h3 h4
  cases hw : wearN bs bs.length with
  | none =>
    exfalso
    have hno : ∀ m, wearN bs m = none → ∀ i, i < m → (blkT bs i).2.2.2 = true := by
      intro m
      induction m with
      | zero => intro _ i hi; omega
      | succ m ihm =>
        intro hm i hi
        cases hbm : (blkT bs m).2.2.2 with
        | true =>
          rw [wear_bad hbm] at hm
          by_cases e : i = m
          · subst e; exact hbm
          · exact ihm hm i (by omega)
        | false =>
          exfalso
          cases hq : wearN bs m with
          | none => rw [wear_first hbm hq] at hm; cases hm
          | some p => obtain ⟨p, q⟩ := p; rw [wear_next hbm hq] at hm; cases hm
    have := hno _ hw j h1
    rw [this] at hgood; cases hgood
  | some p =>
    obtain ⟨a, b⟩ := p
    rw [hw] at h3 h4
    simp only [Option.getD_some] at h3 h4
    obtain ⟨h5, _, i, h6, h7, h8⟩ := wear_is hw
    refine ⟨fun i hi hb => by have := (h5 i hi hb).1; omega, far_of h6 h7 (by omega)⟩
/-! ### L3: pages that are left are programmed, one by one -/
def RestI (L k : Nat) (nx : Int) (bs : List BlockT) : Prop := bs.length = L ∧ Few bs ∧ (blkT bs k).2.2.2 = false ∧ (blkT bs k).1.length = 4 ∧ (blkT bs k).2.1 = nx
theorem state_open {bs : List BlockT} {k : Nat} (hk : k < bs.length) : stateT bs k k = 1 ↔ (blkT bs k).2.2.2 = false ∧ 0 ≤ (blkT bs k).2.1 ∧ (blkT bs k).2.1 < ((blkT bs k).1.length : Int) := by
  rw [state_in hk]
  unfold stateB
  constructor
  · intro h
    split at h
    · cases h
    · rename_i h1
      split at h
      · rename_i h2; exact ⟨by simpa using h1, h2.2⟩
      · split at h
        · cases h
        · split at h <;> cases h
  · intro ⟨h1, h2⟩
    rw [if_neg (by rw [h1]; decide), if_pos ⟨rfl, h2⟩]
theorem rest_is {bs : List BlockT} {k L : Nat} {nx : Int} (hk : k < L) (h : RestI L k nx bs) (h0 : 0 ≤ nx) (h1 : nx ≤ 4) : restT bs k = 4 - nx := by
  obtain ⟨e1, _, e2, e3, e4⟩ := h
  unfold restT
  rw [Int.toNat_natCast]
  by_cases h2 : nx < 4
  · rw [if_pos ((state_open (by omega)).2 ⟨e2, by omega, by omega⟩), e3, e4]
    rfl
  · rw [if_neg (fun h => by have := ((state_open (by omega)).1 h).2.2; omega)]
    omega
theorem rest_next {bs : List BlockT} {k L : Nat} {nx : Int} {br : Bool} {ops : Int} (hk : k < L) (h : RestI L k nx bs) (h0 : 0 ≤ nx) (h1 : nx < 4) :
    ∃ bs', Nand.program (bs, br, false, ops) (k : Int) nx zeroPage fate0 = ((bs', br, false, wrap64 (ops + 1)), 0) ∧ RestI L k (nx + 1) bs' := by
  obtain ⟨e1, e0, e2, e3, e4⟩ := h
  have hkb : k < bs.length := by omega
  have hok : okProg bs (k : Int) nx fate0 = true := by
    unfold okProg thereB
    rw [Int.toNat_natCast]
    have f1 : (bs.getD k default).2.2.2 = false := e2
    have f2 : (bs.getD k default).2.1 = nx := e4
    have f3 : (bs.getD k default).1.length = 4 := e3
    rw [f1, f2, f3]
    simp only [Bool.and_eq_true, decide_eq_true_eq, Bool.not_false]
    exact ⟨⟨⟨⟨⟨⟨⟨by omega, by omega⟩, h0⟩, h1⟩, trivial⟩, trivial⟩, by decide⟩, by decide⟩
  refine ⟨bs.set k ((blkT bs k).1.set nx.toNat (true, zeroPage.2.1, zeroPage.2.2), nx + 1, (blkT bs k).2.2.1, false), ?_, ?_⟩
  · unfold Nand.program
    rw [if_neg (by simp), if_pos hok, if_pos rfl, if_pos rfl, Int.toNat_natCast]
    rfl
  · have hg : blkT (bs.set k ((blkT bs k).1.set nx.toNat (true, zeroPage.2.1, zeroPage.2.2), nx + 1, (blkT bs k).2.2.1, false)) k = ((blkT bs k).1.set nx.toNat (true, zeroPage.2.1, zeroPage.2.2), nx + 1, (blkT bs k).2.2.1, false) := by
      rw [blk_set hkb, if_pos rfl]
    refine ⟨by rw [List.length_set]; exact e1, ⟨by rw [List.length_set]; exact e0.1, fun b hb => ?_⟩, by rw [hg], by rw [hg]; show (List.set _ _ _).length = 4; rw [List.length_set]; exact e3, by rw [hg]⟩
    rcases List.mem_or_eq_of_mem_set hb with hb | rfl
    · exact e0.2 b hb
    · show (List.set _ _ _).length ≤ 1000
      rw [List.length_set, e3]
      decide
end Go.Proofs.Ytegamnaahipedaa.Victim
