/-
  Layer 6: what is told behind an erase, and behind a program.
-/
import Derived.Test.YtbibkheiagglbaaScanLow
import Derived.Test.YtbibkheiagglbaaNandNewAll
import Derived.Test.YtbibkheiagglbaaNandSpecs
namespace Go.Proofs.Ytbibkheiagglbaa.Scan
open Go.RowKit Go.Proofs.Ytbibkheiagglbaa.Nand

def otherB (b : Int) (f : FoundT) : Bool := decide (f.1 / 16 ≠ b)
theorem tellB_zero (b p n : Nat) : tellB b p (List.replicate n zeroPage) = [] := by
  induction n generalizing p with
  | zero => rfl
  | succ n ih =>
    rw [List.replicate_succ, tellB, ih, tellP_none (pg := zeroPage) rfl]
    rfl
theorem wipe_whole (ps : List PageT) : wipe ps.length ps = List.replicate ps.length zeroPage := by
  unfold wipe
  rw [Nat.min_self, List.drop_eq_nil_of_le (Nat.le_refl _), List.append_nil]
/-- behind an erase that is done all other blocks tell what they told -/
theorem erase_tells {bs : List BlockT} {br off : Bool} {ops : Int} {b : Nat} (hb : b < bs.length) (he : (erase (bs, br, off, ops) b (0, ⟨#[]⟩, ⟨#[]⟩, 0)).2 = 0) :
    allC (erase (bs, br, off, ops) b (0, ⟨#[]⟩, ⟨#[]⟩, 0)).1.1 = (allC bs).filter (otherB b) := by
  unfold erase at *
  simp only [] at *
  split at he
  · cases he
  · rename_i hoff
    rw [if_neg hoff]
    split at he
    · rename_i hok
      rw [if_pos hok]
      rw [if_neg (by decide), if_pos trivial]
      simp only [Int.toNat_natCast]
      unfold allC
      rw [tellC_gone bs hb _ (by rw [wipe_whole]; exact tellB_zero _ _ _)]
      exact allF_filter (tellC_apart 0 bs) _
    · cases he
/-- what is told of a place is told by the page there -/
theorem tellB_at {b p k : Nat} {ps : List PageT} {f : FoundT} (h : f ∈ tellB b p ps) (hk : k < 16) (hb : b < 32) (he : f.1 = place b k) : ∃ (_ : p ≤ k) (hi : k - p < ps.length), f ∈ tellP b k (ps[k - p]'hi) := by
  induction ps generalizing p with
  | nil => simp [tellB] at h
  | cons x xs ih =>
    rw [tellB, List.mem_append] at h
    rcases h with h | h
    · obtain ⟨_, _, h3⟩ := tellP_mem h
      have : b = b ∧ p = k := place_inj (h3.symm.trans he) (by rw [← h3, he]; exact place_nonneg.2 ⟨hb, hk⟩)
      obtain ⟨_, rfl⟩ := this
      exact ⟨Nat.le_refl _, by simp, by simpa using h⟩
    · obtain ⟨h1, h2, h3⟩ := ih h
      refine ⟨by omega, by simp; omega, ?_⟩
      have e : (x :: xs)[k - p]'(by simp; omega) = xs[k - (p + 1)] := by
        have : k - p = k - (p + 1) + 1 := by omega
        simp [this]
      rw [e]
      exact h3
theorem tellC_at {c b k : Nat} {bs : List BlockT} {f : FoundT} (h : f ∈ tellC c bs) (hk : k < 16) (hb : b < 32) (he : f.1 = place b k) : ∃ (_ : c ≤ b) (hi : b - c < bs.length) (hj : k < (bs[b - c]'hi).1.length), f ∈ tellP b k ((bs[b - c]'hi).1[k]'hj) := by
  induction bs generalizing c with
  | nil => simp [tellC] at h
  | cons x xs ih =>
    rw [tellC, List.mem_append] at h
    rcases h with h | h
    · obtain ⟨q, hc, _, _, hq, h5⟩ := tellB_mem h
      have : c = b ∧ q = k := place_inj (h5.symm.trans he) (by rw [← h5, he]; exact place_nonneg.2 ⟨hb, hk⟩)
      obtain ⟨rfl, _⟩ := this
      obtain ⟨_, h2, h3⟩ := tellB_at h hk hb he
      exact ⟨Nat.le_refl _, by simp, by simpa using h2, by simpa using h3⟩
    · obtain ⟨h1, h2, h3, h4⟩ := ih h
      have e : (x :: xs)[b - c]'(by simp; omega) = xs[b - (c + 1)] := by
        have : b - c = b - (c + 1) + 1 := by omega
        simp [this]
      exact ⟨by omega, by simp; omega, by rw [e]; exact h3, by simp only [e]; exact h4⟩
end Go.Proofs.Ytbibkheiagglbaa.Scan
