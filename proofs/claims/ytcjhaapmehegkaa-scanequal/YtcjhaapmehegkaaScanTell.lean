/-
  Layer 6: what a chip's pages tell, one behind the other, in the order of their places.
-/
import Derived.Test.YtcjhaapmehegkaaScanMath
import Derived.Test.YtcjhaapmehegkaaLooks
import Derived.Test.YtcjhaapmehegkaaChips
namespace Go.Proofs.Ytcjhaapmehegkaa.Scan
open Go.RowKit Go.Proofs.Ytcjhaapmehegkaa.Nand

/-- what one page tells -/
def tellP (b p : Nat) (pg : PageT) : List FoundT :=
  if b < 32 ∧ p < 16 then ((Look.look pg.1 pg.2.2.data.toList pg.2.1.data.toList).2.toList.map fun r => (place b p, r)) else []
def tellB (b : Nat) : Nat → List PageT → List FoundT
  | _, [] => []
  | p, x :: xs => tellP b p x ++ tellB b (p + 1) xs
def tellC : Nat → List BlockT → List FoundT
  | _, [] => []
  | b, x :: xs => tellB b 0 x.1 ++ tellC (b + 1) xs

theorem tellB_append (b p : Nat) (xs ys : List PageT) : tellB b p (xs ++ ys) = tellB b p xs ++ tellB b (p + xs.length) ys := by
  induction xs generalizing p with
  | nil => simp [tellB]
  | cons x xs ih =>
    simp only [List.cons_append, tellB, ih, List.length_cons, List.append_assoc]
    rw [show p + 1 + xs.length = p + (xs.length + 1) by omega]
theorem tellC_append (b : Nat) (xs ys : List BlockT) : tellC b (xs ++ ys) = tellC b xs ++ tellC (b + xs.length) ys := by
  induction xs generalizing b with
  | nil => simp [tellC]
  | cons x xs ih =>
    simp only [List.cons_append, tellC, ih, List.length_cons, List.append_assoc]
    rw [show b + 1 + xs.length = b + (xs.length + 1) by omega]
theorem tellB_take (b : Nat) (ps : List PageT) {k : Nat} (h : k < ps.length) : tellB b 0 (ps.take (k + 1)) = tellB b 0 (ps.take k) ++ tellP b k ps[k] := by
  rw [List.take_succ_eq_append_getElem h, tellB_append]
  simp [tellB, Nat.min_eq_left (Nat.le_of_lt h)]
theorem tellC_take (bs : List BlockT) {k : Nat} (h : k < bs.length) : tellC 0 (bs.take (k + 1)) = tellC 0 (bs.take k) ++ tellB k 0 bs[k].1 := by
  rw [List.take_succ_eq_append_getElem h, tellC_append]
  simp [tellC, Nat.min_eq_left (Nat.le_of_lt h)]
theorem tellP_mem {b p : Nat} {pg : PageT} {f : FoundT} (h : f ∈ tellP b p pg) : b < 32 ∧ p < 16 ∧ f.1 = place b p := by
  unfold tellP at h
  split at h
  · rename_i hb
    rw [List.mem_map] at h
    obtain ⟨r, _, rfl⟩ := h
    exact ⟨hb.1, hb.2, rfl⟩
  · cases h
theorem tellB_mem {b p : Nat} {ps : List PageT} {f : FoundT} (h : f ∈ tellB b p ps) : ∃ q : Nat, b < 32 ∧ p ≤ q ∧ q < p + ps.length ∧ q < 16 ∧ f.1 = place b q := by
  induction ps generalizing p with
  | nil => simp [tellB] at h
  | cons x xs ih =>
    rw [tellB, List.mem_append] at h
    rcases h with h | h
    · obtain ⟨h1, h2, h3⟩ := tellP_mem h
      exact ⟨p, h1, Nat.le_refl _, by simp, h2, h3⟩
    · obtain ⟨q, h1, h2, h3, h4, h5⟩ := ih h
      exact ⟨q, h1, by omega, by simp; omega, h4, h5⟩
theorem tellC_mem {b : Nat} {bs : List BlockT} {f : FoundT} (h : f ∈ tellC b bs) : ∃ c q : Nat, c < 32 ∧ b ≤ c ∧ c < b + bs.length ∧ q < 16 ∧ f.1 = place c q := by
  induction bs generalizing b with
  | nil => simp [tellC] at h
  | cons x xs ih =>
    rw [tellC, List.mem_append] at h
    rcases h with h | h
    · obtain ⟨q, h1, h2, h3, h4, h5⟩ := tellB_mem h
      exact ⟨b, q, h1, Nat.le_refl _, by simp, h4, h5⟩
    · obtain ⟨c, q, h1, h2, h3, h4, h5⟩ := ih h
      exact ⟨c, q, h1, by omega, by simp; omega, h4, h5⟩
theorem apart_append {xs ys : List FoundT} (hx : Apart xs) (hy : Apart ys) (hd : ∀ a ∈ xs, ∀ b ∈ ys, a.1 ≠ b.1) : Apart (xs ++ ys) := by
  unfold Apart at *
  rw [List.map_append, List.nodup_append]
  refine ⟨hx, hy, ?_⟩
  intro a ha b hb
  rw [List.mem_map] at ha hb
  obtain ⟨a', ha, rfl⟩ := ha
  obtain ⟨b', hb, rfl⟩ := hb
  exact hd _ ha _ hb
theorem tellP_apart (b p : Nat) (pg : PageT) : Apart (tellP b p pg) := by
  unfold tellP Apart
  split
  · cases (Look.look pg.1 pg.2.2.data.toList pg.2.1.data.toList).2 <;> simp
  · simp
theorem tellB_apart (b p : Nat) (ps : List PageT) : Apart (tellB b p ps) := by
  induction ps generalizing p with
  | nil => simp [tellB, Apart]
  | cons x xs ih =>
    rw [tellB]
    refine apart_append (tellP_apart _ _ _) (ih _) ?_
    intro f hf g hg e
    obtain ⟨h1, h2, h3⟩ := tellP_mem hf
    obtain ⟨q, h4, h5, h6, h7, h8⟩ := tellB_mem hg
    rw [h3, h8] at e
    have := place_inj e (place_nonneg.2 ⟨h1, h2⟩)
    omega
theorem tellC_apart (b : Nat) (bs : List BlockT) : Apart (tellC b bs) := by
  induction bs generalizing b with
  | nil => simp [tellC, Apart]
  | cons x xs ih =>
    rw [tellC]
    refine apart_append (tellB_apart _ _ _) (ih _) ?_
    intro f hf g hg e
    obtain ⟨q, h1, h2, h3, h4, h5⟩ := tellB_mem hf
    obtain ⟨c, q', h6, h7, h8, h9, h10⟩ := tellC_mem hg
    rw [h5, h10] at e
    have := place_inj e (place_nonneg.2 ⟨h1, h4⟩)
    omega
theorem tellC_set (c : Nat) (bs : List BlockT) {b : Nat} (hb : b < bs.length) (B : BlockT) : tellC c (bs.set b B) = tellC c (bs.take b) ++ (tellB (c + b) 0 B.1 ++ tellC (c + b + 1) (bs.drop (b + 1))) := by
  rw [List.set_eq_take_append_cons_drop, if_pos hb, tellC_append]
  simp only [tellC, List.length_take, Nat.min_eq_left (Nat.le_of_lt hb)]
theorem tellC_parts (c : Nat) (bs : List BlockT) {b : Nat} (hb : b < bs.length) : tellC c bs = tellC c (bs.take b) ++ (tellB (c + b) 0 bs[b].1 ++ tellC (c + b + 1) (bs.drop (b + 1))) := by
  rw [← tellC_set c bs hb bs[b], List.set_getElem_self]
theorem place_div {b p : Nat} (hb : b < 32) (hp : p < 16) : place b p / 16 = (b : Int) := by
  rw [place_ok hb hp]
  omega
theorem filter_all {l : List FoundT} {P : FoundT → Bool} (h : ∀ f ∈ l, P f = true) : l.filter P = l := List.filter_eq_self.2 h
theorem filter_none {l : List FoundT} {P : FoundT → Bool} (h : ∀ f ∈ l, P f = false) : l.filter P = [] := List.filter_eq_nil_iff.2 fun f hf => by rw [h f hf]; decide
/-- a block that tells nothing any more: all others tell what they told -/
theorem tellC_gone (bs : List BlockT) {b : Nat} (hb : b < bs.length) (B : BlockT) (hB : tellB b 0 B.1 = []) :
    tellC 0 (bs.set b B) = (tellC 0 bs).filter fun f => decide (f.1 / 16 ≠ (b : Int)) := by
  rw [tellC_set 0 bs hb B, tellC_parts 0 bs hb, List.filter_append, List.filter_append]
  rw [show 0 + b = b by omega, hB]
  rw [filter_all, filter_none, filter_all]
  · intro f hf
    obtain ⟨c, q, h1, h2, h3, h4, h5⟩ := tellC_mem hf
    rw [h5, place_div h1 h4]
    exact decide_eq_true (by omega)
  · intro f hf
    obtain ⟨q, h1, h2, h3, h4, h5⟩ := tellB_mem hf
    rw [h5, place_div h1 h4]
    exact decide_eq_false (by omega)
  · intro f hf
    obtain ⟨c, q, h1, h2, h3, h4, h5⟩ := tellC_mem hf
    have : (bs.take b).length = b := by rw [List.length_take]; omega
    rw [h5, place_div h1 h4]
    exact decide_eq_true (by omega)
theorem tellB_set (b p : Nat) (ps : List PageT) {k : Nat} (hk : k < ps.length) (x : PageT) : tellB b p (ps.set k x) = tellB b p (ps.take k) ++ (tellP b (p + k) x ++ tellB b (p + k + 1) (ps.drop (k + 1))) := by
  rw [List.set_eq_take_append_cons_drop, if_pos hk, tellB_append]
  simp only [tellB, List.length_take, Nat.min_eq_left (Nat.le_of_lt hk)]
theorem tellB_parts (b p : Nat) (ps : List PageT) {k : Nat} (hk : k < ps.length) : tellB b p ps = tellB b p (ps.take k) ++ (tellP b (p + k) ps[k] ++ tellB b (p + k + 1) (ps.drop (k + 1))) := by
  rw [← tellB_set b p ps hk ps[k], List.set_getElem_self]
/-- one page that told nothing, and now tells x: one more is told -/
theorem tellC_one (bs : List BlockT) {b : Nat} (hb : b < bs.length) (B : BlockT) {k : Nat} (hk : k < bs[b].1.length) (x : PageT) (hB : B.1 = bs[b].1.set k x) (h0 : tellP b k bs[b].1[k] = []) :
    (tellC 0 (bs.set b B)).Perm (tellP b k x ++ tellC 0 bs) := by
  rw [tellC_set 0 bs hb B, tellC_parts 0 bs hb, hB, show 0 + b = b by omega, tellB_set b 0 _ hk, tellB_parts b 0 bs[b].1 hk, show 0 + k = k by omega, h0]
  simp only [List.nil_append, List.append_assoc]
  generalize tellC 0 (bs.take b) = L1
  generalize tellB b 0 (bs[b].1.take k) = L2
  generalize tellP b k x = X
  generalize tellB b (k + 1) (bs[b].1.drop (k + 1)) ++ tellC (b + 1) (bs.drop (b + 1)) = L3
  rw [← List.append_assoc L1 L2, ← List.append_assoc L1 L2, ← List.append_assoc X, ← List.append_assoc (L1 ++ L2)]
  exact List.Perm.append_right _ List.perm_append_comm
/-- what all tells -/
def allC (bs : List BlockT) : List FoundT := allF (tellC 0 bs)
theorem tellB_length (b p : Nat) (ps : List PageT) : (tellB b p ps).length ≤ ps.length := by
  induction ps generalizing p with
  | nil => simp [tellB]
  | cons x xs ih =>
    rw [tellB, List.length_append, List.length_cons]
    have h1 : (tellP b p x).length ≤ 1 := by
      unfold tellP
      split
      · cases (Look.look x.1 x.2.2.data.toList x.2.1.data.toList).2 <;> simp
      · simp
    have := ih (p + 1)
    omega
end Go.Proofs.Ytcjhaapmehegkaa.Scan
