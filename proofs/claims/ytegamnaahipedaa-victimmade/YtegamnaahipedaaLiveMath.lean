/-
  Layer 8: the mathematics of which pages are wanted.
-/
import Derived.Test.YtegamnaahipedaaReplayMath
namespace Go.Proofs.Ytegamnaahipedaa.Live
open Go.Proofs.Ytegamnaahipedaa.Scan Go.Proofs.Ytegamnaahipedaa.Replay

/-- where, of the first k, l has the place p -/
def whichN (l : List Int) (p : Int) : Nat → List Int
  | 0 => []
  | k + 1 => if 0 ≤ p ∧ l.getD k 0 = p then whichN l p k ++ [(k : Int)] else whichN l p k
def which (l : List Int) (p : Int) : List Int := whichN l p l.length
def hasL (l : List Int) (p : Int) : Bool := l.any fun z => decide (z = p)
def liveT (t : TableT) (p : Int) : Bool := decide (0 ≤ p) && (hasL t.1 p || hasL t.2 p)
def countN (t : TableT) (b : Int) : Nat → Nat
  | 0 => 0
  | k + 1 => if liveT t (place b k) = true then countN t b k + 1 else countN t b k
def countT (t : TableT) (b : Int) : Nat := countN t b 16

theorem whichN_len (l : List Int) (p : Int) (k : Nat) : (whichN l p k).length ≤ k := by
  induction k with
  | zero => simp [whichN]
  | succ k ih =>
    unfold whichN
    split
    · simp; exact ih
    · omega
theorem which_len (l : List Int) (p : Int) : (which l p).length ≤ l.length := whichN_len l p l.length
theorem whichN_yes {l : List Int} {p : Int} {k : Nat} (h : 0 ≤ p) (h' : l.getD k 0 = p) : whichN l p (k + 1) = whichN l p k ++ [(k : Int)] := by
  rw [whichN, if_pos ⟨h, h'⟩]
theorem whichN_no {l : List Int} {p : Int} {k : Nat} (h : ¬ (0 ≤ p ∧ l.getD k 0 = p)) : whichN l p (k + 1) = whichN l p k := by
  rw [whichN, if_neg h]
theorem whichN_neg {l : List Int} {p : Int} (h : p < 0) (k : Nat) : whichN l p k = [] := by
  induction k with
  | zero => rfl
  | succ k ih => rw [whichN_no (by omega), ih]
theorem whichN_mem {l : List Int} {p x : Int} {k : Nat} : x ∈ whichN l p k ↔ ∃ i : Nat, i < k ∧ x = (i : Int) ∧ 0 ≤ p ∧ l.getD i 0 = p := by
  induction k with
  | zero => simp [whichN]
  | succ k ih =>
    by_cases h : 0 ≤ p ∧ l.getD k 0 = p
    · rw [whichN_yes h.1 h.2, List.mem_append, ih, List.mem_singleton]
      constructor
      · rintro (⟨i, h1, h2⟩ | rfl)
        · exact ⟨i, by omega, h2⟩
        · exact ⟨k, by omega, rfl, h⟩
      · rintro ⟨i, h1, h2, h3⟩
        by_cases e : i = k
        · exact .inr (by rw [h2, e])
        · exact .inl ⟨i, by omega, h2, h3⟩
    · rw [whichN_no h, ih]
      constructor
      · rintro ⟨i, h1, h2⟩
        exact ⟨i, by omega, h2⟩
      · rintro ⟨i, h1, h2, h3⟩
        have : i ≠ k := fun e => by subst e; exact h h3
        exact ⟨i, by omega, h2, h3⟩
theorem which_mem {l : List Int} {p x : Int} : x ∈ which l p ↔ ∃ i : Nat, i < l.length ∧ x = (i : Int) ∧ 0 ≤ p ∧ l.getD i 0 = p := whichN_mem
theorem hasL_iff {l : List Int} {p : Int} : hasL l p = true ↔ p ∈ l := by
  unfold hasL
  simp
theorem mem_getD {l : List Int} {p : Int} : p ∈ l ↔ ∃ i : Nat, i < l.length ∧ l.getD i 0 = p := by
  rw [List.mem_iff_getElem]
  constructor
  · rintro ⟨i, h, e⟩
    exact ⟨i, h, by rw [List.getD_eq_getElem?_getD, List.getElem?_eq_getElem h]; exact e⟩
  · rintro ⟨i, h, e⟩
    refine ⟨i, h, ?_⟩
    rw [List.getD_eq_getElem?_getD, List.getElem?_eq_getElem h] at e
    exact e
theorem which_pos {l : List Int} {p : Int} : (0 < (which l p).length) ↔ 0 ≤ p ∧ hasL l p = true := by
  rw [List.length_pos_iff_exists_mem, hasL_iff, mem_getD]
  constructor
  · rintro ⟨x, hx⟩
    obtain ⟨i, h1, _, h2, h3⟩ := which_mem.1 hx
    exact ⟨h2, i, h1, h3⟩
  · rintro ⟨h2, i, h1, h3⟩
    exact ⟨_, which_mem.2 ⟨i, h1, rfl, h2, h3⟩⟩
theorem liveT_iff {t : TableT} {p : Int} : liveT t p = true ↔ 0 ≤ p ∧ (p ∈ t.1 ∨ p ∈ t.2) := by
  unfold liveT
  rw [Bool.and_eq_true, Bool.or_eq_true, hasL_iff, hasL_iff, decide_eq_true_eq]
theorem live_which (t : TableT) (p : Int) : liveT t p = (decide (0 < (which t.1 p).length) || decide (0 < (which t.2 p).length)) := by
  rw [Bool.eq_iff_iff, Bool.or_eq_true, decide_eq_true_eq, decide_eq_true_eq, which_pos, which_pos, liveT_iff, hasL_iff, hasL_iff]
  constructor
  · rintro ⟨h, h1 | h1⟩
    · exact .inl ⟨h, h1⟩
    · exact .inr ⟨h, h1⟩
  · rintro (⟨h, h1⟩ | ⟨h, h1⟩)
    · exact ⟨h, .inl h1⟩
    · exact ⟨h, .inr h1⟩
theorem whichN_rise (l : List Int) (p : Int) (k : Nat) : (whichN l p k).Pairwise (· < ·) := by
  induction k with
  | zero => simp [whichN]
  | succ k ih =>
    by_cases h : 0 ≤ p ∧ l.getD k 0 = p
    · rw [whichN_yes h.1 h.2, List.pairwise_append]
      refine ⟨ih, by simp, fun a ha b hb => ?_⟩
      obtain ⟨i, h1, rfl, _⟩ := whichN_mem.1 ha
      rw [List.mem_singleton.1 hb]
      omega
    · rw [whichN_no h]
      exact ih
theorem countN_yes {t : TableT} {b : Int} {k : Nat} (h : liveT t (place b k) = true) : countN t b (k + 1) = countN t b k + 1 := by rw [countN, if_pos h]
theorem countN_no {t : TableT} {b : Int} {k : Nat} (h : liveT t (place b k) = false) : countN t b (k + 1) = countN t b k := by rw [countN, if_neg (by rw [h]; decide)]
theorem countN_le (t : TableT) (b : Int) (k : Nat) : countN t b k ≤ k := by
  induction k with
  | zero => simp [countN]
  | succ k ih =>
    unfold countN
    split <;> omega
theorem live_neg {t : TableT} {p : Int} (h : p < 0) : liveT t p = false := by
  unfold liveT
  rw [decide_eq_false (by omega)]
  rfl
theorem countN_out {t : TableT} {b : Int} (h : b < 0 ∨ 32 ≤ b) (k : Nat) : countN t b k = 0 := by
  induction k with
  | zero => rfl
  | succ k ih =>
    rw [countN_no (live_neg _), ih]
    unfold place
    rw [if_pos (by omega)]
    omega
theorem place_in {b : Int} {k : Nat} (h : 0 ≤ b ∧ b < 32) (hk : k < 16) : place b k = b * 16 + k := by
  unfold place
  rw [if_neg (by omega)]
/-- numbers that a machine's int may be -/
def wfZ (z : Int) : Prop := -9223372036854775808 ≤ z ∧ z ≤ 9223372036854775807
def WfT (t : TableT) : Prop := (∀ z ∈ t.1, wfZ z) ∧ (∀ z ∈ t.2, wfZ z)
theorem wfZ_lit {z : Int} (h : wfZ z) : (Lit.int .i64 z).wf = true := by
  unfold wfZ at h
  simp [Lit.wf, IntKind.min, IntKind.max, IntKind.signed, IntKind.bits]
  omega
theorem lit_wfZ {z : Int} (h : (Lit.int .i64 z).wf = true) : wfZ z := by
  unfold wfZ
  simp [Lit.wf, IntKind.min, IntKind.max, IntKind.signed, IntKind.bits] at h
  omega
theorem place_wf (b : Int) (k : Nat) : wfZ (place b k) := by
  unfold place wfZ
  split <;> omega
end Go.Proofs.Ytegamnaahipedaa.Live
