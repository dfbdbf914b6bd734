/-
  ReplayMath, LiveMath: in one text (merge.json).
-/
import Derived.Test.YtedopplldpcinaaGreatScanLow
/-
  Layer 7: the mathematics of tables, of what pages tell.
-/
namespace Go.Proofs.YtedopplldpcinaaGreat.Replay
open Go.Proofs.YtedopplldpcinaaGreat.Scan

/-- which page has a sector's data, and which says so -/
abbrev TableT := List Int × List Int
/-- how many sectors -/
def cutN (n : Int) : Nat := (min (max n 0) 64).toNat
def newT (n : Int) : TableT := (List.replicate (cutN n) (-1), List.replicate (cutN n) (-1))
theorem cutN_le (n : Int) : cutN n ≤ 64 := by unfold cutN; omega
theorem cutN_val (n : Int) : ((cutN n : Nat) : Int) = min (max n 0) 64 := by unfold cutN; omega
theorem newT_len (n : Int) : (newT n).1.length = cutN n ∧ (newT n).2.length = cutN n := by simp [newT]
/-- what f tells of its i-th key -/
def toldT (f : FoundT) (i : Nat) : Option Int := if f.2.1 = 1 then some f.1 else if f.2.1 = 2 then f.2.2.2.2[i]? else none
def isSec (t : TableT) (k : Int) : Bool := decide (0 ≤ k) && decide (k < t.1.length) && decide (k < t.2.length)
def putT (t : TableT) (k v p : Int) : TableT := if isSec t k = true then (t.1.set k.toNat v, t.2.set k.toNat p) else t
def stepT (f : FoundT) (t : TableT) (i : Nat) : TableT :=
  match toldT f i with
  | none => t
  | some v => putT t (f.2.2.2.1.getD i 0) v f.1
def applyN (f : FoundT) (t : TableT) : Nat → TableT
  | 0 => t
  | n + 1 => stepT f (applyN f t n) n
def applyT (t : TableT) (f : FoundT) : TableT := applyN f t f.2.2.2.1.length
theorem putT_len (t : TableT) (k v p : Int) : (putT t k v p).1.length = t.1.length ∧ (putT t k v p).2.length = t.2.length := by
  unfold putT; split <;> simp
theorem stepT_len (f : FoundT) (t : TableT) (i : Nat) : (stepT f t i).1.length = t.1.length ∧ (stepT f t i).2.length = t.2.length := by
  unfold stepT
  split
  · exact ⟨rfl, rfl⟩
  · exact putT_len _ _ _ _
theorem applyN_len (f : FoundT) (t : TableT) (n : Nat) : (applyN f t n).1.length = t.1.length ∧ (applyN f t n).2.length = t.2.length := by
  induction n with
  | zero => exact ⟨rfl, rfl⟩
  | succ n ih => rw [applyN, (stepT_len _ _ _).1, (stepT_len _ _ _).2]; exact ih
theorem applyT_len (t : TableT) (f : FoundT) : (applyT t f).1.length = t.1.length ∧ (applyT t f).2.length = t.2.length := applyN_len _ _ _
theorem isSec_len {t u : TableT} (h : t.1.length = u.1.length ∧ t.2.length = u.2.length) (k : Int) : isSec t k = isSec u k := by
  unfold isSec; rw [h.1, h.2]
theorem isSec_iff (t : TableT) (k : Int) : isSec t k = true ↔ 0 ≤ k ∧ k < t.1.length ∧ k < t.2.length := by
  unfold isSec; simp [and_assoc]
theorem stepT_none {f : FoundT} {i : Nat} (t : TableT) (h : toldT f i = none) : stepT f t i = t := by unfold stepT; rw [h]
theorem stepT_out {f : FoundT} {i : Nat} {t : TableT} (h : isSec t (f.2.2.2.1.getD i 0) = false) : stepT f t i = t := by
  unfold stepT
  split
  · rfl
  · unfold putT; rw [h]; simp
theorem stepT_in {f : FoundT} {i : Nat} {t : TableT} {v : Int} (h : toldT f i = some v) (h' : isSec t (f.2.2.2.1.getD i 0) = true) : stepT f t i = (t.1.set (f.2.2.2.1.getD i 0).toNat v, t.2.set (f.2.2.2.1.getD i 0).toNat f.1) := by
  unfold stepT; rw [h]; show putT _ _ _ _ = _; unfold putT; rw [if_pos h']
def foldT (fs : List FoundT) (t : TableT) : TableT := fs.foldl applyT t
theorem foldT_len (fs : List FoundT) (t : TableT) : (foldT fs t).1.length = t.1.length ∧ (foldT fs t).2.length = t.2.length := by
  unfold foldT
  induction fs generalizing t with
  | nil => exact ⟨rfl, rfl⟩
  | cons f fs ih => rw [List.foldl_cons, (ih _).1, (ih _).2]; exact applyT_len t f
theorem foldT_take (fs : List FoundT) (t : TableT) {k : Nat} (h : k < fs.length) : foldT (fs.take (k + 1)) t = applyT (foldT (fs.take k) t) fs[k] := by
  unfold foldT
  rw [List.take_succ_eq_append_getElem h, List.foldl_append]
  rfl
end Go.Proofs.YtedopplldpcinaaGreat.Replay
/-
  Layer 8: the mathematics of which pages are wanted.
-/
namespace Go.Proofs.YtedopplldpcinaaGreat.Live
open Go.Proofs.YtedopplldpcinaaGreat.Scan Go.Proofs.YtedopplldpcinaaGreat.Replay

/-- where, of the first k, l has the place p -/
def whichN (l : List Int) (p : Int) : Nat → List Int
  | 0 => []
  | k + 1 => if 0 ≤ p ∧ l.getD k 0 = p then whichN l p k ++ [(k : Int)] else whichN l p k
def which (l : List Int) (p : Int) : List Int := whichN l p l.length
def hasL (l : List Int) (p : Int) : Bool := l.any fun z => decide (z = p)
def liveT (t : TableT) (p : Int) : Bool := decide (0 ≤ p) && (hasL t.1 p || hasL t.2 p)
def countN (t : TableT) (b : Int) : Nat → Nat
  | 0 => 0
  | k + 1 => if liveT t (place b k) = true then countN t b k + 1 else countN t b k
def countT (t : TableT) (b : Int) : Nat := countN t b 16

theorem whichN_len (l : List Int) (p : Int) (k : Nat) : (whichN l p k).length ≤ k := by
  induction k with
  | zero => simp [whichN]
  | succ k ih =>
    unfold whichN
    split
    · simp; exact ih
    · omega
theorem which_len (l : List Int) (p : Int) : (which l p).length ≤ l.length := whichN_len l p l.length
theorem whichN_yes {l : List Int} {p : Int} {k : Nat} (h : 0 ≤ p) (h' : l.getD k 0 = p) : whichN l p (k + 1) = whichN l p k ++ [(k : Int)] := by
  rw [whichN, if_pos ⟨h, h'⟩]
theorem whichN_no {l : List Int} {p : Int} {k : Nat} (h : ¬ (0 ≤ p ∧ l.getD k 0 = p)) : whichN l p (k + 1) = whichN l p k := by
  rw [whichN, if_neg h]
theorem whichN_neg {l : List Int} {p : Int} (h : p < 0) (k : Nat) : whichN l p k = [] := by
  induction k with
  | zero => rfl
  | succ k ih => rw [whichN_no (by omega), ih]
theorem whichN_mem {l : List Int} {p x : Int} {k : Nat} : x ∈ whichN l p k ↔ ∃ i : Nat, i < k ∧ x = (i : Int) ∧ 0 ≤ p ∧ l.getD i 0 = p := by
  induction k with
  | zero => simp [whichN]
  | succ k ih =>
    by_cases h : 0 ≤ p ∧ l.getD k 0 = p
    · rw [whichN_yes h.1 h.2, List.mem_append, ih, List.mem_singleton]
      constructor
      · rintro (⟨i, h1, h2⟩ | rfl)
        · exact ⟨i, by omega, h2⟩
        · exact ⟨k, by omega, rfl, h⟩
      · rintro ⟨i, h1, h2, h3⟩
        by_cases e : i = k
        · exact .inr (by rw [h2, e])
        · exact .inl ⟨i, by omega, h2, h3⟩
    · rw [whichN_no h, ih]
      constructor
      · rintro ⟨i, h1, h2⟩
        exact ⟨i, by omega, h2⟩
      · rintro ⟨i, h1, h2, h3⟩
        have : i ≠ k := fun e => by subst e; exact h h3
        exact ⟨i, by omega, h2, h3⟩
theorem which_mem {l : List Int} {p x : Int} : x ∈ which l p ↔ ∃ i : Nat, i < l.length ∧ x = (i : Int) ∧ 0 ≤ p ∧ l.getD i 0 = p := whichN_mem
theorem hasL_iff {l : List Int} {p : Int} : hasL l p = true ↔ p ∈ l := by
  unfold hasL
  simp
theorem mem_getD {l : List Int} {p : Int} : p ∈ l ↔ ∃ i : Nat, i < l.length ∧ l.getD i 0 = p := by
  rw [List.mem_iff_getElem]
  constructor
  · rintro ⟨i, h, e⟩
    exact ⟨i, h, by rw [List.getD_eq_getElem?_getD, List.getElem?_eq_getElem h]; exact e⟩
  · rintro ⟨i, h, e⟩
    refine ⟨i, h, ?_⟩
    rw [List.getD_eq_getElem?_getD, List.getElem?_eq_getElem h] at e
    exact e
theorem which_pos {l : List Int} {p : Int} : (0 < (which l p).length) ↔ 0 ≤ p ∧ hasL l p = true := by
  rw [List.length_pos_iff_exists_mem, hasL_iff, mem_getD]
  constructor
  · rintro ⟨x, hx⟩
    obtain ⟨i, h1, _, h2, h3⟩ := which_mem.1 hx
    exact ⟨h2, i, h1, h3⟩
  · rintro ⟨h2, i, h1, h3⟩
    exact ⟨_, which_mem.2 ⟨i, h1, rfl, h2, h3⟩⟩
theorem liveT_iff {t : TableT} {p : Int} : liveT t p = true ↔ 0 ≤ p ∧ (p ∈ t.1 ∨ p ∈ t.2) := by
  unfold liveT
  rw [Bool.and_eq_true, Bool.or_eq_true, hasL_iff, hasL_iff, decide_eq_true_eq]
theorem live_which (t : TableT) (p : Int) : liveT t p = (decide (0 < (which t.1 p).length) || decide (0 < (which t.2 p).length)) := by
  rw [Bool.eq_iff_iff, Bool.or_eq_true, decide_eq_true_eq, decide_eq_true_eq, which_pos, which_pos, liveT_iff, hasL_iff, hasL_iff]
  constructor
  · rintro ⟨h, h1 | h1⟩
    · exact .inl ⟨h, h1⟩
    · exact .inr ⟨h, h1⟩
  · rintro (⟨h, h1⟩ | ⟨h, h1⟩)
    · exact ⟨h, .inl h1⟩
    · exact ⟨h, .inr h1⟩
theorem whichN_rise (l : List Int) (p : Int) (k : Nat) : (whichN l p k).Pairwise (· < ·) := by
  induction k with
  | zero => simp [whichN]
  | succ k ih =>
    by_cases h : 0 ≤ p ∧ l.getD k 0 = p
    · rw [whichN_yes h.1 h.2, List.pairwise_append]
      refine ⟨ih, by simp, fun a ha b hb => ?_⟩
      obtain ⟨i, h1, rfl, _⟩ := whichN_mem.1 ha
      rw [List.mem_singleton.1 hb]
      omega
    · rw [whichN_no h]
      exact ih
theorem countN_yes {t : TableT} {b : Int} {k : Nat} (h : liveT t (place b k) = true) : countN t b (k + 1) = countN t b k + 1 := by rw [countN, if_pos h]
theorem countN_no {t : TableT} {b : Int} {k : Nat} (h : liveT t (place b k) = false) : countN t b (k + 1) = countN t b k := by rw [countN, if_neg (by rw [h]; decide)]
theorem countN_le (t : TableT) (b : Int) (k : Nat) : countN t b k ≤ k := by
  induction k with
  | zero => simp [countN]
  | succ k ih =>
    unfold countN
    split <;> omega
theorem live_neg {t : TableT} {p : Int} (h : p < 0) : liveT t p = false := by
  unfold liveT
  rw [decide_eq_false (by omega)]
  rfl
theorem countN_out {t : TableT} {b : Int} (h : b < 0 ∨ 32 ≤ b) (k : Nat) : countN t b k = 0 := by
  induction k with
  | zero => rfl
  | succ k ih =>
    rw [countN_no (live_neg _), ih]
    unfold place
    rw [if_pos (by omega)]
    omega
theorem place_in {b : Int} {k : Nat} (h : 0 ≤ b ∧ b < 32) (hk : k < 16) : place b k = b * 16 + k := by
  unfold place
  rw [if_neg (by omega)]
/-- numbers that a machine's int may be -/
def wfZ (z : Int) : Prop := -9223372036854775808 ≤ z ∧ z ≤ 9223372036854775807
def WfT (t : TableT) : Prop := (∀ z ∈ t.1, wfZ z) ∧ (∀ z ∈ t.2, wfZ z)
theorem wfZ_lit {z : Int} (h : wfZ z) : (Lit.int .i64 z).wf = true := by
  unfold wfZ at h
  simp [Lit.wf, IntKind.min, IntKind.max, IntKind.signed, IntKind.bits]
  omega
theorem lit_wfZ {z : Int} (h : (Lit.int .i64 z).wf = true) : wfZ z := by
  unfold wfZ
  simp [Lit.wf, IntKind.min, IntKind.max, IntKind.signed, IntKind.bits] at h
  omega
theorem place_wf (b : Int) (k : Nat) : wfZ (place b k) := by
  unfold place wfZ
  split <;> omega
end Go.Proofs.YtedopplldpcinaaGreat.Live
