/-
  ScanMath, ScanTell, Founds, ScanRefs, ScanPut, ScanRefAll, ScanCode1: in one text (merge.json).
-/
import Derived.Test.YtedopplldpcinaaGreatTagDecAll
import Derived.Test.YtedopplldpcinaaGreatChipMem
import Derived.Test.YtedopplldpcinaaGreatMemLow
import Derived.Deep.RegionHeld3
import Derived.Deep.QuietTactic
import Derived.BigQuiet
import Derived.Test.YtedopplldpcinaaGreatNandLow
/-
  Layer 6: the mathematics of what a chip's pages tell: places, the order, what is put in at its place, and that whatever is sorted is that.
-/
namespace Go.Proofs.YtedopplldpcinaaGreat.Scan

/-- kind, Seq, keys, values -/
abbrev RecT := Int × Int × List Int × List Int
/-- the place, and the record -/
abbrev FoundT := Int × RecT

def aheadF (a b : FoundT) : Bool := decide (a.2.2.1 < b.2.2.1) || (decide (a.2.2.1 = b.2.2.1) && decide (a.1 < b.1))
def putF (f : FoundT) : List FoundT → List FoundT
  | [] => [f]
  | x :: xs => if aheadF f x = true then f :: x :: xs else x :: putF f xs
def place (b p : Int) : Int := if b < 0 ∨ 32 ≤ b ∨ p < 0 ∨ 16 ≤ p then -1 else b * 16 + p
/-- all that is told, each put in at its place -/
def allF (l : List FoundT) : List FoundT := l.foldl (fun acc f => putF f acc) []

/-- not behind -/
def leF (a b : FoundT) : Prop := aheadF b a = false
theorem aheadF_iff (a b : FoundT) : aheadF a b = true ↔ a.2.2.1 < b.2.2.1 ∨ (a.2.2.1 = b.2.2.1 ∧ a.1 < b.1) := by
  unfold aheadF
  simp
theorem leF_iff (a b : FoundT) : leF a b ↔ a.2.2.1 < b.2.2.1 ∨ (a.2.2.1 = b.2.2.1 ∧ a.1 ≤ b.1) := by
  unfold leF
  rw [Bool.eq_false_iff]
  rw [Ne, aheadF_iff]
  omega
theorem leF_trans {a b c : FoundT} (h : leF a b) (h' : leF b c) : leF a c := by
  rw [leF_iff] at *
  omega
theorem leF_of_ahead {a b : FoundT} (h : aheadF a b = true) : leF a b := by
  rw [aheadF_iff] at h
  rw [leF_iff]
  omega
theorem putF_perm (f : FoundT) (l : List FoundT) : (putF f l).Perm (f :: l) := by
  induction l with
  | nil => exact List.Perm.refl _
  | cons x xs ih =>
    unfold putF
    split
    · exact List.Perm.refl _
    · exact (ih.cons x).trans (List.Perm.swap f x xs)
theorem putF_sorted {f : FoundT} {l : List FoundT} (h : l.Pairwise leF) : (putF f l).Pairwise leF := by
  induction l with
  | nil => unfold putF; exact List.pairwise_singleton _ _
  | cons x xs ih =>
    unfold putF
    rw [List.pairwise_cons] at h
    split
    · rename_i ha
      rw [List.pairwise_cons, List.pairwise_cons]
      refine ⟨fun y hy => ?_, h⟩
      rcases List.mem_cons.1 hy with rfl | hy
      · exact leF_of_ahead ha
      · exact leF_trans (leF_of_ahead ha) (h.1 y hy)
    · rename_i ha
      rw [List.pairwise_cons]
      refine ⟨fun y hy => ?_, ih h.2⟩
      rcases List.mem_cons.1 ((putF_perm f xs).mem_iff.1 hy) with rfl | hy
      · exact Bool.eq_false_iff.2 ha
      · exact h.1 y hy
theorem foldl_put_perm (l acc : List FoundT) : (l.foldl (fun acc f => putF f acc) acc).Perm (l ++ acc) := by
  induction l generalizing acc with
  | nil => exact List.Perm.refl _
  | cons x xs ih =>
    simp only [List.foldl_cons, List.cons_append]
    refine (ih (putF x acc)).trans ?_
    refine ((putF_perm x acc).append_left xs).trans ?_
    exact List.perm_middle
theorem foldl_put_sorted (l acc : List FoundT) (h : acc.Pairwise leF) : (l.foldl (fun acc f => putF f acc) acc).Pairwise leF := by
  induction l generalizing acc with
  | nil => exact h
  | cons x xs ih => exact ih _ (putF_sorted h)
theorem allF_perm (l : List FoundT) : (allF l).Perm l := by
  have := foldl_put_perm l []
  rwa [List.append_nil] at this
theorem allF_sorted (l : List FoundT) : (allF l).Pairwise leF := foldl_put_sorted l [] List.Pairwise.nil
theorem allF_snoc (l : List FoundT) (f : FoundT) : allF (l ++ [f]) = putF f (allF l) := by
  unfold allF
  rw [List.foldl_append]
  rfl
theorem allF_length (l : List FoundT) : (allF l).length = l.length := (allF_perm l).length_eq
/-- no two at one place -/
def Apart (l : List FoundT) : Prop := (l.map (·.1)).Nodup
theorem Apart.perm {l l' : List FoundT} (h : Apart l) (hp : l'.Perm l) : Apart l' := (hp.map _).nodup_iff.2 h
theorem apart_eq {l : List FoundT} (h : Apart l) {a b : FoundT} (ha : a ∈ l) (hb : b ∈ l) (he : a.1 = b.1) : a = b := by
  unfold Apart at h
  induction l with
  | nil => cases ha
  | cons x xs ih =>
    rw [List.map_cons, List.nodup_cons] at h
    rcases List.mem_cons.1 ha with rfl | ha'
    · rcases List.mem_cons.1 hb with rfl | hb'
      · rfl
      · exact absurd (List.mem_map.2 ⟨b, hb', he.symm⟩) h.1
    · rcases List.mem_cons.1 hb with rfl | hb'
      · exact absurd (List.mem_map.2 ⟨a, ha', he⟩) h.1
      · exact ih h.2 ha' hb'
/-- whatever is told and sorted is all, each at its place -/
theorem sorted_is {l s : List FoundT} (hl : Apart l) (hp : s.Perm l) (hs : s.Pairwise leF) : s = allF l := by
  refine List.Perm.eq_of_pairwise (le := leF) ?_ hs (allF_sorted l) (hp.trans (allF_perm l).symm)
  intro a b ha hb h1 h2
  have ha' := hp.mem_iff.1 ha
  have hb' := (allF_perm l).mem_iff.1 hb
  refine apart_eq hl ha' hb' ?_
  rw [leF_iff] at *
  omega

theorem Apart.filter {l : List FoundT} (h : Apart l) (P : FoundT → Bool) : Apart (l.filter P) := by
  unfold Apart at *
  exact List.Nodup.sublist (List.Sublist.map _ List.filter_sublist) h
theorem allF_filter {l : List FoundT} (hl : Apart l) (P : FoundT → Bool) : allF (l.filter P) = (allF l).filter P :=
  (sorted_is (hl.filter P) ((allF_perm l).filter P) ((allF_sorted l).sublist List.filter_sublist)).symm
theorem place_ok {b p : Nat} (hb : b < 32) (hp : p < 16) : place b p = (b : Int) * 16 + p := by
  unfold place
  rw [if_neg (by omega)]
theorem place_none {b p : Nat} (h : 32 ≤ b ∨ 16 ≤ p) : place b p = -1 := by
  unfold place
  rw [if_pos (by omega)]
theorem place_inj {b p b' p' : Nat} (h : place b p = place b' p') (h0 : 0 ≤ place b p) : b = b' ∧ p = p' := by
  unfold place at *
  split at h0
  · omega
  · rename_i h1
    rw [if_neg h1] at h
    split at h <;> omega
theorem place_nonneg {b p : Nat} : 0 ≤ place b p ↔ b < 32 ∧ p < 16 := by
  unfold place
  split <;> omega
end Go.Proofs.YtedopplldpcinaaGreat.Scan
/-
  Layer 6: what a chip's pages tell, one behind the other, in the order of their places.
-/
namespace Go.Proofs.YtedopplldpcinaaGreat.Scan
open Go.RowKit Go.Proofs.YtedopplldpcinaaGreat.Nand

/-- what one page tells -/
def tellP (b p : Nat) (pg : PageT) : List FoundT :=
  if b < 32 ∧ p < 16 then ((Look.look pg.1 pg.2.2.data.toList pg.2.1.data.toList).2.toList.map fun r => (place b p, r)) else []
def tellB (b : Nat) : Nat → List PageT → List FoundT
  | _, [] => []
  | p, x :: xs => tellP b p x ++ tellB b (p + 1) xs
def tellC : Nat → List BlockT → List FoundT
  | _, [] => []
  | b, x :: xs => tellB b 0 x.1 ++ tellC (b + 1) xs

theorem tellB_append (b p : Nat) (xs ys : List PageT) : tellB b p (xs ++ ys) = tellB b p xs ++ tellB b (p + xs.length) ys := by
  induction xs generalizing p with
  | nil => simp [tellB]
  | cons x xs ih =>
    simp only [List.cons_append, tellB, ih, List.length_cons, List.append_assoc]
    rw [show p + 1 + xs.length = p + (xs.length + 1) by omega]
theorem tellC_append (b : Nat) (xs ys : List BlockT) : tellC b (xs ++ ys) = tellC b xs ++ tellC (b + xs.length) ys := by
  induction xs generalizing b with
  | nil => simp [tellC]
  | cons x xs ih =>
    simp only [List.cons_append, tellC, ih, List.length_cons, List.append_assoc]
    rw [show b + 1 + xs.length = b + (xs.length + 1) by omega]
theorem tellB_take (b : Nat) (ps : List PageT) {k : Nat} (h : k < ps.length) : tellB b 0 (ps.take (k + 1)) = tellB b 0 (ps.take k) ++ tellP b k ps[k] := by
  rw [List.take_succ_eq_append_getElem h, tellB_append]
  simp [tellB, Nat.min_eq_left (Nat.le_of_lt h)]
theorem tellC_take (bs : List BlockT) {k : Nat} (h : k < bs.length) : tellC 0 (bs.take (k + 1)) = tellC 0 (bs.take k) ++ tellB k 0 bs[k].1 := by
  rw [List.take_succ_eq_append_getElem h, tellC_append]
  simp [tellC, Nat.min_eq_left (Nat.le_of_lt h)]
theorem tellP_mem {b p : Nat} {pg : PageT} {f : FoundT} (h : f ∈ tellP b p pg) : b < 32 ∧ p < 16 ∧ f.1 = place b p := by
  unfold tellP at h
  split at h
  · rename_i hb
    rw [List.mem_map] at h
    obtain ⟨r, _, rfl⟩ := h
    exact ⟨hb.1, hb.2, rfl⟩
  · cases h
theorem tellB_mem {b p : Nat} {ps : List PageT} {f : FoundT} (h : f ∈ tellB b p ps) : ∃ q : Nat, b < 32 ∧ p ≤ q ∧ q < p + ps.length ∧ q < 16 ∧ f.1 = place b q := by
  induction ps generalizing p with
  | nil => simp [tellB] at h
  | cons x xs ih =>
    rw [tellB, List.mem_append] at h
    rcases h with h | h
    · obtain ⟨h1, h2, h3⟩ := tellP_mem h
      exact ⟨p, h1, Nat.le_refl _, by simp, h2, h3⟩
    · obtain ⟨q, h1, h2, h3, h4, h5⟩ := ih h
      exact ⟨q, h1, by omega, by simp; omega, h4, h5⟩
theorem tellC_mem {b : Nat} {bs : List BlockT} {f : FoundT} (h : f ∈ tellC b bs) : ∃ c q : Nat, c < 32 ∧ b ≤ c ∧ c < b + bs.length ∧ q < 16 ∧ f.1 = place c q := by
  induction bs generalizing b with
  | nil => simp [tellC] at h
  | cons x xs ih =>
    rw [tellC, List.mem_append] at h
    rcases h with h | h
    · obtain ⟨q, h1, h2, h3, h4, h5⟩ := tellB_mem h
      exact ⟨b, q, h1, Nat.le_refl _, by simp, h4, h5⟩
    · obtain ⟨c, q, h1, h2, h3, h4, h5⟩ := ih h
      exact ⟨c, q, h1, by omega, by simp; omega, h4, h5⟩
theorem apart_append {xs ys : List FoundT} (hx : Apart xs) (hy : Apart ys) (hd : ∀ a ∈ xs, ∀ b ∈ ys, a.1 ≠ b.1) : Apart (xs ++ ys) := by
  unfold Apart at *
  rw [List.map_append, List.nodup_append]
  refine ⟨hx, hy, ?_⟩
  intro a ha b hb
  rw [List.mem_map] at ha hb
  obtain ⟨a', ha, rfl⟩ := ha
  obtain ⟨b', hb, rfl⟩ := hb
  exact hd _ ha _ hb
theorem tellP_apart (b p : Nat) (pg : PageT) : Apart (tellP b p pg) := by
  unfold tellP Apart
  split
  · cases (Look.look pg.1 pg.2.2.data.toList pg.2.1.data.toList).2 <;> simp
  · simp
theorem tellB_apart (b p : Nat) (ps : List PageT) : Apart (tellB b p ps) := by
  induction ps generalizing p with
  | nil => simp [tellB, Apart]
  | cons x xs ih =>
    rw [tellB]
    refine apart_append (tellP_apart _ _ _) (ih _) ?_
    intro f hf g hg e
    obtain ⟨h1, h2, h3⟩ := tellP_mem hf
    obtain ⟨q, h4, h5, h6, h7, h8⟩ := tellB_mem hg
    rw [h3, h8] at e
    have := place_inj e (place_nonneg.2 ⟨h1, h2⟩)
    omega
theorem tellC_apart (b : Nat) (bs : List BlockT) : Apart (tellC b bs) := by
  induction bs generalizing b with
  | nil => simp [tellC, Apart]
  | cons x xs ih =>
    rw [tellC]
    refine apart_append (tellB_apart _ _ _) (ih _) ?_
    intro f hf g hg e
    obtain ⟨q, h1, h2, h3, h4, h5⟩ := tellB_mem hf
    obtain ⟨c, q', h6, h7, h8, h9, h10⟩ := tellC_mem hg
    rw [h5, h10] at e
    have := place_inj e (place_nonneg.2 ⟨h1, h4⟩)
    omega
theorem tellC_set (c : Nat) (bs : List BlockT) {b : Nat} (hb : b < bs.length) (B : BlockT) : tellC c (bs.set b B) = tellC c (bs.take b) ++ (tellB (c + b) 0 B.1 ++ tellC (c + b + 1) (bs.drop (b + 1))) := by
  rw [List.set_eq_take_append_cons_drop, if_pos hb, tellC_append]
  simp only [tellC, List.length_take, Nat.min_eq_left (Nat.le_of_lt hb)]
theorem tellC_parts (c : Nat) (bs : List BlockT) {b : Nat} (hb : b < bs.length) : tellC c bs = tellC c (bs.take b) ++ (tellB (c + b) 0 bs[b].1 ++ tellC (c + b + 1) (bs.drop (b + 1))) := by
  rw [← tellC_set c bs hb bs[b], List.set_getElem_self]
theorem place_div {b p : Nat} (hb : b < 32) (hp : p < 16) : place b p / 16 = (b : Int) := by
  rw [place_ok hb hp]
  omega
theorem filter_all {l : List FoundT} {P : FoundT → Bool} (h : ∀ f ∈ l, P f = true) : l.filter P = l := List.filter_eq_self.2 h
theorem filter_none {l : List FoundT} {P : FoundT → Bool} (h : ∀ f ∈ l, P f = false) : l.filter P = [] := List.filter_eq_nil_iff.2 fun f hf => by rw [h f hf]; decide
/-- a block that tells nothing any more: all others tell what they told -/
theorem tellC_gone (bs : List BlockT) {b : Nat} (hb : b < bs.length) (B : BlockT) (hB : tellB b 0 B.1 = []) :
    tellC 0 (bs.set b B) = (tellC 0 bs).filter fun f => decide (f.1 / 16 ≠ (b : Int)) := by
  rw [tellC_set 0 bs hb B, tellC_parts 0 bs hb, List.filter_append, List.filter_append]
  rw [show 0 + b = b by omega, hB]
  rw [filter_all, filter_none, filter_all]
  · intro f hf
    obtain ⟨c, q, h1, h2, h3, h4, h5⟩ := tellC_mem hf
    rw [h5, place_div h1 h4]
    exact decide_eq_true (by omega)
  · intro f hf
    obtain ⟨q, h1, h2, h3, h4, h5⟩ := tellB_mem hf
    rw [h5, place_div h1 h4]
    exact decide_eq_false (by omega)
  · intro f hf
    obtain ⟨c, q, h1, h2, h3, h4, h5⟩ := tellC_mem hf
    have : (bs.take b).length = b := by rw [List.length_take]; omega
    rw [h5, place_div h1 h4]
    exact decide_eq_true (by omega)
theorem tellB_set (b p : Nat) (ps : List PageT) {k : Nat} (hk : k < ps.length) (x : PageT) : tellB b p (ps.set k x) = tellB b p (ps.take k) ++ (tellP b (p + k) x ++ tellB b (p + k + 1) (ps.drop (k + 1))) := by
  rw [List.set_eq_take_append_cons_drop, if_pos hk, tellB_append]
  simp only [tellB, List.length_take, Nat.min_eq_left (Nat.le_of_lt hk)]
theorem tellB_parts (b p : Nat) (ps : List PageT) {k : Nat} (hk : k < ps.length) : tellB b p ps = tellB b p (ps.take k) ++ (tellP b (p + k) ps[k] ++ tellB b (p + k + 1) (ps.drop (k + 1))) := by
  rw [← tellB_set b p ps hk ps[k], List.set_getElem_self]
/-- one page that told nothing, and now tells x: one more is told -/
theorem tellC_one (bs : List BlockT) {b : Nat} (hb : b < bs.length) (B : BlockT) {k : Nat} (hk : k < bs[b].1.length) (x : PageT) (hB : B.1 = bs[b].1.set k x) (h0 : tellP b k bs[b].1[k] = []) :
    (tellC 0 (bs.set b B)).Perm (tellP b k x ++ tellC 0 bs) := by
  rw [tellC_set 0 bs hb B, tellC_parts 0 bs hb, hB, show 0 + b = b by omega, tellB_set b 0 _ hk, tellB_parts b 0 bs[b].1 hk, show 0 + k = k by omega, h0]
  simp only [List.nil_append, List.append_assoc]
  generalize tellC 0 (bs.take b) = L1
  generalize tellB b 0 (bs[b].1.take k) = L2
  generalize tellP b k x = X
  generalize tellB b (k + 1) (bs[b].1.drop (k + 1)) ++ tellC (b + 1) (bs.drop (b + 1)) = L3
  rw [← List.append_assoc L1 L2, ← List.append_assoc L1 L2, ← List.append_assoc X, ← List.append_assoc (L1 ++ L2)]
  exact List.Perm.append_right _ List.perm_append_comm
/-- what all tells -/
def allC (bs : List BlockT) : List FoundT := allF (tellC 0 bs)
theorem tellB_length (b p : Nat) (ps : List PageT) : (tellB b p ps).length ≤ ps.length := by
  induction ps generalizing p with
  | nil => simp [tellB]
  | cons x xs ih =>
    rw [tellB, List.length_append, List.length_cons]
    have h1 : (tellP b p x).length ≤ 1 := by
      unfold tellP
      split
      · cases (Look.look x.1 x.2.2.data.toList x.2.1.data.toList).2 <;> simp
      · simp
    have := ih (p + 1)
    omega
end Go.Proofs.YtedopplldpcinaaGreat.Scan
/-
  Layer 6: what was found, in memory: a place and a record each, in rows.
-/
namespace Go.Proofs.YtedopplldpcinaaGreat.Scan
open Go.RowKit Go.Proofs.YtedopplldpcinaaGreat.Nand

/-- a slice's address, length and capacity -/
abbrev SlT := Option Addr × Nat × Nat
abbrev slV (s : SlT) : Value := .slice s.1 s.2.1 s.2.2
/-- the cells of what was found: the place, the kind, the Seq, the keys, the values -/
abbrev RowT := Int × Int × Int × SlT × SlT
def encF (x : RowT) : List Value := [.int .i64 x.1, .int .i64 x.2.1, .int .i64 x.2.2.1, slV x.2.2.2.1, slV x.2.2.2.2]
def rowCells (xs : List RowT) : List Value := xs.flatMap encF
theorem encF_length (x : RowT) : (encF x).length = 5 := rfl
theorem rowCells_length (xs : List RowT) : (rowCells xs).length = xs.length * 5 := by
  unfold rowCells
  induction xs with
  | nil => rfl
  | cons x xs ih => rw [List.flatMap_cons, List.length_append, ih, encF_length, List.length_cons]; omega
theorem rowCells_append (xs ys : List RowT) : rowCells (xs ++ ys) = rowCells xs ++ rowCells ys := by simp [rowCells]
theorem rowCells_snoc (xs : List RowT) (x : RowT) : rowCells (xs ++ [x]) = rowCells xs ++ encF x := by simp [rowCells]
theorem rowCells_get {xs : List RowT} {i j : Nat} (hi : i < xs.length) (hj : j < 5) : (rowCells xs)[i * 5 + j]? = (encF xs[i])[j]? := by
  unfold rowCells
  induction xs generalizing i with
  | nil => simp at hi
  | cons x xs ih =>
    rw [List.flatMap_cons]
    cases i with
    | zero => rw [List.getElem?_append_left (by rw [encF_length]; omega)]; simp
    | succ i =>
      rw [List.getElem?_append_right (by rw [encF_length]; omega), encF_length, show (i + 1) * 5 + j - 5 = i * 5 + j by omega, ih (by simpa using hi)]
      simp
/-- the cells x tell f -/
def Fits (S : Nat → Prop) (w : World) (x : RowT) (f : FoundT) : Prop :=
  x.1 = f.1 ∧ x.2.1 = f.2.1 ∧ x.2.2.1 = f.2.2.1 ∧ IntsIn S w (slV x.2.2.2.1) f.2.2.2.1 ∧ IntsIn S w (slV x.2.2.2.2) f.2.2.2.2
theorem Fits.kept {S S' : Nat → Prop} {w w' : World} {x : RowT} {f : FoundT} (h : Fits S w x f) (hS : ∀ g, S g → g < w.heap.size → S' g ∧ ∀ off, w'.cell? ⟨g, off, none⟩ = w.cell? ⟨g, off, none⟩) : Fits S' w' x f :=
  ⟨h.1, h.2.1, h.2.2.1, h.2.2.2.1.kept hS, h.2.2.2.2.kept hS⟩
theorem Fits.mem {S : Nat → Prop} {w w' : World} {x : RowT} {f : FoundT} (h : Fits S w x f) (m : Mem w w') : Fits S w' x f :=
  h.kept fun g hg hl => ⟨hg, fun off => Below.cell m (p := ⟨g, off, none⟩) hl⟩
theorem Fits.mono {S S' : Nat → Prop} {w : World} {x : RowT} {f : FoundT} (h : Fits S w x f) (hS : ∀ g, S g → g < w.heap.size → S' g) : Fits S' w x f :=
  h.kept fun g hg hl => ⟨hS g hg hl, fun _ => rfl⟩
/-- a row of cells tells a list -/
def FitsL (S : Nat → Prop) (w : World) (xs : List RowT) (fs : List FoundT) : Prop :=
  xs.length = fs.length ∧ ∀ i (h : i < xs.length) (h' : i < fs.length), Fits S w xs[i] fs[i]
theorem FitsL.nil (S : Nat → Prop) (w : World) : FitsL S w [] [] := ⟨rfl, fun i h => by simp at h⟩
theorem FitsL.kept {S S' : Nat → Prop} {w w' : World} {xs : List RowT} {fs : List FoundT} (h : FitsL S w xs fs) (hS : ∀ g, S g → g < w.heap.size → S' g ∧ ∀ off, w'.cell? ⟨g, off, none⟩ = w.cell? ⟨g, off, none⟩) : FitsL S' w' xs fs :=
  ⟨h.1, fun i a b => (h.2 i a b).kept hS⟩
theorem FitsL.mem {S : Nat → Prop} {w w' : World} {xs : List RowT} {fs : List FoundT} (h : FitsL S w xs fs) (m : Mem w w') : FitsL S w' xs fs :=
  h.kept fun g hg hl => ⟨hg, fun off => Below.cell m (p := ⟨g, off, none⟩) hl⟩
theorem FitsL.mono {S S' : Nat → Prop} {w : World} {xs : List RowT} {fs : List FoundT} (h : FitsL S w xs fs) (hS : ∀ g, S g → g < w.heap.size → S' g) : FitsL S' w xs fs :=
  h.kept fun g hg hl => ⟨hS g hg hl, fun _ => rfl⟩
theorem FitsL.snoc {S : Nat → Prop} {w : World} {xs : List RowT} {fs : List FoundT} (h : FitsL S w xs fs) {x : RowT} {f : FoundT} (hx : Fits S w x f) : FitsL S w (xs ++ [x]) (fs ++ [f]) := by
  have hl := h.1
  refine ⟨by simp [hl], fun i a b => ?_⟩
  by_cases e : i < xs.length
  · rw [List.getElem_append_left e, List.getElem_append_left (by omega)]
    exact h.2 i e (by omega)
  · have he : i = xs.length := by simp at a; omega
    subst he
    rw [show (xs ++ [x])[xs.length]'a = x from by simp, show (fs ++ [f])[xs.length]'b = f from by rw [List.getElem_append_right (by omega)]; simp [hl]]
    exact hx

/-- a slice of what was found -/
def FoundsAt (S : Nat → Prop) (w : World) (v : Value) (fs : List FoundT) : Prop :=
  fs.length ≤ maxLen ∧ ((fs = [] ∧ ∃ a cap, v = .slice a 0 cap) ∨
    ∃ g off cap xs, v = .slice (some ⟨g, off, none⟩) fs.length cap ∧ 0 < fs.length ∧ S g ∧ FitsL S w xs fs ∧ ∀ j u, (rowCells xs)[j]? = some u → w.cell? ⟨g, off + j, none⟩ = some u)
theorem FoundsAt.nil (S : Nat → Prop) (w : World) (a : Option Addr) (cap : Nat) : FoundsAt S w (.slice a 0 cap) [] := ⟨by simp [maxLen], .inl ⟨rfl, a, cap, rfl⟩⟩
theorem FoundsAt.kept {S S' : Nat → Prop} {w w' : World} {v : Value} {fs : List FoundT} (h : FoundsAt S w v fs) (hS : ∀ g, S g → g < w.heap.size → S' g ∧ ∀ off, w'.cell? ⟨g, off, none⟩ = w.cell? ⟨g, off, none⟩) : FoundsAt S' w' v fs := by
  refine ⟨h.1, ?_⟩
  rcases h.2 with h | ⟨g, off, cap, xs, hv, h0, hs, hf, hc⟩
  · exact .inl h
  · have hlen := hf.1
    have c0 : w.cell? ⟨g, off + (0 * 5 + 0), none⟩ = some (.int .i64 (xs[0]'(by omega)).1) := hc _ _ (by rw [rowCells_get (by omega) (by omega)]; rfl)
    obtain ⟨h1, h2⟩ := hS g hs (World.block_lt_of_cell? w _ c0)
    exact .inr ⟨g, off, cap, xs, hv, h0, h1, hf.kept hS, fun j u hj => by rw [h2]; exact hc j u hj⟩
theorem FoundsAt.mem {S : Nat → Prop} {w w' : World} {v : Value} {fs : List FoundT} (h : FoundsAt S w v fs) (m : Mem w w') : FoundsAt S w' v fs :=
  h.kept fun g hg hl => ⟨hg, fun off => Below.cell m (p := ⟨g, off, none⟩) hl⟩
theorem FoundsAt.mono {S S' : Nat → Prop} {w : World} {v : Value} {fs : List FoundT} (h : FoundsAt S w v fs) (hS : ∀ g, S g → g < w.heap.size → S' g) : FoundsAt S' w v fs :=
  h.kept fun g hg hl => ⟨hS g hg hl, fun _ => rfl⟩
theorem FoundsAt.setCell {S : Nat → Prop} {w : World} {v : Value} {fs : List FoundT} (h : FoundsAt S w v fs) {p : Addr} (hp : ¬ S p.block) (x : Value) : FoundsAt S (w.setCell p x) v fs :=
  h.kept fun g hg _ => ⟨hg, fun off => World.cell?_of_block (w := w) (a := ⟨g, off, none⟩) (Below.heap_setCell w p x g (fun e => hp (e ▸ hg)))⟩
theorem FoundsAt.shape {S : Nat → Prop} {w : World} {v : Value} {fs : List FoundT} (h : FoundsAt S w v fs) : ∃ oa cap, v = .slice oa fs.length cap := by
  rcases h.2 with ⟨rfl, a, cap, rfl⟩ | ⟨g, off, cap, xs, rfl, _⟩
  · exact ⟨a, cap, rfl⟩
  · exact ⟨_, cap, rfl⟩
/-- what was found as number i -/
theorem FoundsAt.at {S : Nat → Prop} {w : World} {oa : Option Addr} {n cap : Nat} {fs : List FoundT} (h : FoundsAt S w (.slice oa n cap) fs) {i : Nat} (hi : i < fs.length) :
    ∃ g off ok ck ov cv, oa = some ⟨g, off, none⟩ ∧ S g ∧ w.cell? ⟨g, off + i * 5, none⟩ = some (.int .i64 fs[i].1) ∧ w.cell? ⟨g, off + i * 5 + 1, none⟩ = some (.int .i64 fs[i].2.1) ∧ w.cell? ⟨g, off + i * 5 + 2, none⟩ = some (.int .i64 fs[i].2.2.1) ∧ w.cell? ⟨g, off + i * 5 + 3, none⟩ = some (.slice ok fs[i].2.2.2.1.length ck) ∧ w.cell? ⟨g, off + i * 5 + 4, none⟩ = some (.slice ov fs[i].2.2.2.2.length cv) ∧ IntsIn S w (.slice ok fs[i].2.2.2.1.length ck) fs[i].2.2.2.1 ∧ IntsIn S w (.slice ov fs[i].2.2.2.2.length cv) fs[i].2.2.2.2 := by
  rcases h.2 with ⟨rfl, _⟩ | ⟨g, off, cap', xs, hv, _, hs, hf, hc⟩
  · simp at hi
  · injection hv with ha
    have hl := hf.1
    have hix : i < xs.length := by omega
    obtain ⟨e0, e1, e2, k1, k2⟩ := hf.2 i hix hi
    have g0 := hc (i * 5 + 0) _ (by rw [rowCells_get hix (by omega)]; rfl)
    have g1 := hc (i * 5 + 1) _ (by rw [rowCells_get hix (by omega)]; rfl)
    have g2 := hc (i * 5 + 2) _ (by rw [rowCells_get hix (by omega)]; rfl)
    have g3 := hc (i * 5 + 3) _ (by rw [rowCells_get hix (by omega)]; rfl)
    have g4 := hc (i * 5 + 4) _ (by rw [rowCells_get hix (by omega)]; rfl)
    rw [e0] at g0
    rw [e1] at g1
    rw [e2] at g2
    obtain ⟨ok, ck, ek⟩ := k1.ints.shape
    obtain ⟨ov, cv, ev⟩ := k2.ints.shape
    rw [ek] at g3 k1
    rw [ev] at g4 k2
    exact ⟨g, off, ok, ck, ov, cv, ha, hs, g0, g1, g2, g3, g4, k1, k2⟩
/-- a row that the call owns -/
theorem FoundsAt.of_owns {S S' : Nat → Prop} {w : World} {base n : Nat} {v : Value} {xs : List RowT} {fs : List FoundT} (h : w.ownsRow base 67 5 v n (rowCells xs)) (hn : fs.length = n) (hf : FitsL S w xs fs) (hS : ∀ g, S g → g < w.heap.size → S' g) (hS' : ∀ g, v.ownBlock = some g → S' g) : FoundsAt S' w v fs := by
  have hl := hf.1
  subst hn
  rcases id h.2 with ⟨rfl, h0⟩ | ⟨g, cap, cur, rfl, hb, hh, hlc, hcm, hcs, ht⟩
  · have : fs = [] := List.length_eq_zero_iff.1 h0
    subst this
    exact FoundsAt.nil _ _ _ _
  · refine ⟨by omega, ?_⟩
    by_cases h0 : fs.length = 0
    · have : fs = [] := List.length_eq_zero_iff.1 h0
      subst this
      exact .inl ⟨rfl, _, _, rfl⟩
    · refine .inr ⟨g, 0, cap, xs, rfl, by omega, hS' g rfl, hf.mono hS, fun j u hj => ?_⟩
      have := h.cells (g := g) rfl j u hj
      rw [add_none] at this
      rw [Nat.zero_add]
      exact this

theorem info_found5 : (Tryz.prog.info? 67).map (fun i => (i.zero, i.size, i.bytes)) = some (some (.agg #[.int .i64 0, .int .i64 0, .int .i64 0, .slice none 0 0, .slice none 0 0]), 5, 72) := by kernel_rfl
/-- one more onto a row of what was found -/
theorem pushFound {ops : Array Oper} {rest : List Oper} {o : Oper} {a : Act} {Q : Exit → Act → World → Prop} {w : World} (hgd : o.guard = none) (s x : Operand)
    (ho : o.op = .call { callee := .builtin .append, args := #[s, x], argTypes := #[63, 63] })
    (base : Nat) (v : Value) (xs : List RowT) (n : Nat) (hs : a.eval s = v) (hown : w.ownsRow base 67 5 v n (rowCells xs)) (hbase : base ≤ w.heap.size)
    (z : RowT) (B : Nat) (hB : B = w.heap.size) (hx : a.eval x = .slice (some ⟨B, 0, none⟩) 1 1) (hlen : n ≤ 1000000)
    (h : ∀ v' w', w'.ownsRow base 67 5 v' (n + 1) (rowCells (xs ++ [z])) → Below base w w' → wpList Tryz.prog ops Q rest (a.put o.dst v') w') :
    wpList Tryz.prog ops Q (o :: rest) a (w.alloc (.cells #[.int .i64 z.1, .int .i64 z.2.1, .int .i64 z.2.2.1, .slice z.2.2.2.1.1 z.2.2.2.1.2.1 z.2.2.2.1.2.2, .slice z.2.2.2.2.1 z.2.2.2.2.2.1 z.2.2.2.2.2.2] 67)) := by
  obtain ⟨i0, hi, hz0, hz1, hz2⟩ := info_parts info_found5
  subst hB
  refine wpList_append_own_at _ hgd s x 63 ho base 67 i0 _ 5 72 Tryz.underlying63 hi hz0 hz1 hz2 rfl (by decide) v n (rowCells xs) hs (hown.alloc _) ⟨w.heap.size, 0, none⟩ 1 1 (encF z) hx rfl ?c1 ?c2 ?c3 ?c4 ?c5 ?_
  case c1 =>
    intro j u hj
    rw [add_none, World.cell?_alloc_mark]
    simpa [encF] using hj
  case c2 => intro u hu; simp [encF] at hu; rcases hu with rfl | rfl | rfl | rfl | rfl <;> rfl
  case c3 => unfold maxLen; omega
  case c4 => omega
  case c5 => simp; omega
  intro v' w' h1 h2 _ h4
  refine h v' w' (by rw [rowCells_snoc]; exact h1) ?_
  exact ((Below.refl base w).alloc hbase _).grown h2 (by simp; omega) (fun k hk => (hown.lt k hk).1)
end Go.Proofs.YtedopplldpcinaaGreat.Scan
/-
  Layer 6, by the document: places, what stands ahead, and one more at its place.
-/
namespace Go.Proofs.YtedopplldpcinaaGreat.Scan
open Go.RowKit Go.Proofs.YtedopplldpcinaaGreat.Nand

set_option maxHeartbeats 1000000 in
set_option maxRecDepth 100000 in
theorem refPlace (b p : Int) (w : World) : Calls Tryz.prog 46 #[.int .i64 b, .int .i64 p] w fun e w' => e = .returned (.int .i64 (place b p)) ∧ w' = w := by
  by_cases hg : 0 ≤ b ∧ b < 32 ∧ 0 ≤ p ∧ p < 16
  case neg =>
    have HV : Hid (place b p = -1) := by show _ = _; unfold place; rw [if_pos (by omega)]
    have hc : b < 0 ∨ (0 ≤ b ∧ 32 ≤ b) ∨ (0 ≤ b ∧ b < 32 ∧ p < 0) ∨ (0 ≤ b ∧ b < 32 ∧ 0 ≤ p ∧ 16 ≤ p) := by omega
    clear hg
    rcases hc with h | ⟨h, h'⟩ | ⟨h, h', h''⟩ | ⟨h, h', h'', h'''⟩
    all_goals (
      go_enter Tryz.func46, Tryz.ntmps46
      go_wp2_with fail
      go_ret
      exact ⟨ret_int HV.out.symm, rfl⟩)
  obtain ⟨h, h', h'', h'''⟩ := hg
  have HV : Hid (place b p = b * 16 + p) := by show _ = _; unfold place; rw [if_neg (by omega)]
  go_enter Tryz.func46, Tryz.ntmps46
  go_wp2_with fail
  go_ret
  exact ⟨ret_int HV.out.symm, rfl⟩

set_option maxHeartbeats 1000000 in
set_option maxRecDepth 100000 in
theorem codePlace (b p : Int) (w : World) : Calls Tryz.prog 58 #[.int .i64 b, .int .i64 p] w fun e w' => e = .returned (.int .i64 (place b p)) ∧ w' = w := by
  by_cases hg : 0 ≤ b ∧ b < 32 ∧ 0 ≤ p ∧ p < 16
  case neg =>
    have HV : Hid (place b p = -1) := by show _ = _; unfold place; rw [if_pos (by omega)]
    have hc : b < 0 ∨ (0 ≤ b ∧ 32 ≤ b) ∨ (0 ≤ b ∧ b < 32 ∧ p < 0) ∨ (0 ≤ b ∧ b < 32 ∧ 0 ≤ p ∧ 16 ≤ p) := by omega
    clear hg
    rcases hc with h | ⟨h, h'⟩ | ⟨h, h', h''⟩ | ⟨h, h', h'', h'''⟩
    all_goals (
      go_enter Tryz.func58, Tryz.ntmps58
      go_wp2_with fail
      go_ret
      exact ⟨ret_int HV.out.symm, rfl⟩)
  obtain ⟨h, h', h'', h'''⟩ := hg
  have HV : Hid (place b p = b * 16 + p) := by show _ = _; unfold place; rw [if_neg (by omega)]
  go_enter Tryz.func58, Tryz.ntmps58
  go_wp2_with fail
  go_ret
  exact ⟨ret_int HV.out.symm, rfl⟩

def aheadI (p s p' s' : Int) : Bool := decide (s < s') || (decide (s = s') && decide (p < p'))
set_option maxHeartbeats 1000000 in
set_option maxRecDepth 100000 in
theorem refAhead (p k s p' k' s' : Int) (oa ob oc od : Option Addr) (na nb nc nd ca cb cc cd : Nat) (w : World) :
    Calls Tryz.prog 75 #[.agg #[.int .i64 p, .int .i64 k, .int .i64 s, .slice oa na ca, .slice ob nb cb], .agg #[.int .i64 p', .int .i64 k', .int .i64 s', .slice oc nc cc, .slice od nd cd]] w fun e w' => e = .returned (.bool (aheadI p s p' s')) ∧ Mem w w' := by
  have hm : Mem w ((w.alloc (.cells #[.int .i64 p, .int .i64 k, .int .i64 s, .slice oa na ca, .slice ob nb cb] 67)).alloc (.cells #[.int .i64 p', .int .i64 k', .int .i64 s', .slice oc nc cc, .slice od nd cd] 67)) := ((Mem.refl w).alloc _).alloc _
  by_cases h1 : s < s'
  · have HV : Hid (aheadI p s p' s' = true) := by show _ = _; unfold aheadI; rw [decide_eq_true h1]; rfl
    go_enter Tryz.func75, Tryz.ntmps75
    go_wp2_with fail
    go_ret
    exact ⟨ret_b HV.out.symm, hm⟩
  have h1' : s' ≤ s := by omega
  by_cases h2 : s = s'
  case neg =>
    have g2 : (s == s') = false := by rw [beq_eq_false_iff_ne]; exact h2
    have HV : Hid (aheadI p s p' s' = false) := by show _ = _; unfold aheadI; rw [decide_eq_false h1, decide_eq_false h2]; rfl
    clear h1 h2
    go_enter Tryz.func75, Tryz.ntmps75
    go_wp2_with fail
    go_ret
    exact ⟨ret_b (by rw [HV.out]; exact decide_eq_false (by omega)), hm⟩
  subst h2
  have HV : Hid (aheadI p s p' s = decide (p < p')) := by show _ = _; unfold aheadI; rw [decide_eq_false h1]; simp
  clear h1
  go_enter Tryz.func75, Tryz.ntmps75
  go_wp2_with fail
  go_ret
  exact ⟨ret_b HV.out.symm, hm⟩

/-! ### One more, at its place -/
theorem putF_none {f : FoundT} {l : List FoundT} (h : ∀ x ∈ l, aheadF f x = false) : putF f l = l ++ [f] := by
  induction l with
  | nil => rfl
  | cons x xs ih =>
    unfold putF
    rw [h x (by simp), if_neg (by decide), ih (fun y hy => h y (by simp [hy]))]
    rfl
theorem putF_hit {f y : FoundT} {l : List FoundT} (h : ∀ x ∈ l, aheadF f x = false) (hy : aheadF f y = true) : putF f (l ++ [y]) = l ++ [f] ++ [y] := by
  induction l with
  | nil => rw [List.nil_append]; simp [putF, hy]
  | cons x xs ih =>
    rw [List.cons_append]
    unfold putF
    rw [h x (by simp), if_neg (by decide), ih (fun y hy => h y (by simp [hy]))]
    rfl
theorem putF_past {f : FoundT} {l : List FoundT} (h : ∃ x ∈ l, aheadF f x = true) (m : List FoundT) : putF f (l ++ m) = putF f l ++ m := by
  induction l with
  | nil => obtain ⟨x, hx, _⟩ := h; cases hx
  | cons x xs ih =>
    rw [List.cons_append]
    unfold putF
    by_cases e : aheadF f x = true
    · rw [if_pos e, if_pos e]; rfl
    · rw [if_neg e, if_neg e, ih, List.cons_append]
      obtain ⟨y, hy, hy'⟩ := h
      rcases List.mem_cons.1 hy with rfl | hy
      · exact absurd hy' e
      · exact ⟨y, hy, hy'⟩
/-- how far put has come: with i looked at, and done or not -/
def putD (f : FoundT) (fs : List FoundT) (d : Bool) (i : Nat) : List FoundT := if d = true then putF f (fs.take i) else fs.take i
def PutOk (f : FoundT) (fs : List FoundT) (d : Bool) (i : Nat) : Prop := if d = true then ∃ x ∈ fs.take i, aheadF f x = true else ∀ x ∈ fs.take i, aheadF f x = false
theorem putD_length (f : FoundT) (fs : List FoundT) (d : Bool) {i : Nat} (hi : i ≤ fs.length) : (putD f fs d i).length ≤ i + 1 := by
  unfold putD
  split
  · rw [(putF_perm f _).length_eq, List.length_cons, List.length_take]; omega
  · rw [List.length_take]; omega
end Go.Proofs.YtedopplldpcinaaGreat.Scan
/-
  Layer 6, by the document: one more, at its place.
-/
namespace Go.Proofs.YtedopplldpcinaaGreat.Scan
open Go.RowKit Go.Proofs.YtedopplldpcinaaGreat.Nand

theorem aheadF_aheadI (f g : FoundT) : aheadI f.1 f.2.2.1 g.1 g.2.2.1 = aheadF f g := rfl
theorem take_mem {fs : List FoundT} {i : Nat} (h : i < fs.length) (x : FoundT) : x ∈ fs.take (i + 1) ↔ x ∈ fs.take i ∨ x = fs[i] := by
  rw [List.take_succ_eq_append_getElem h, List.mem_append, List.mem_singleton]
theorem putD_done {f : FoundT} {fs : List FoundT} {i : Nat} (h : i < fs.length) (hp : PutOk f fs true i) : putD f fs true (i + 1) = putD f fs true i ++ [fs[i]] ∧ PutOk f fs true (i + 1) := by
  unfold PutOk at *
  rw [if_pos rfl] at *
  unfold putD
  rw [if_pos rfl, if_pos rfl, List.take_succ_eq_append_getElem h, putF_past hp]
  refine ⟨rfl, ?_⟩
  obtain ⟨x, hx, hx'⟩ := hp
  exact ⟨x, List.mem_append_left _ hx, hx'⟩
theorem putD_now {f : FoundT} {fs : List FoundT} {i : Nat} (h : i < fs.length) (hp : PutOk f fs false i) (ha : aheadF f fs[i] = true) : putD f fs true (i + 1) = putD f fs false i ++ [f] ++ [fs[i]] ∧ PutOk f fs true (i + 1) := by
  unfold PutOk at *
  rw [if_neg (by decide)] at hp
  rw [if_pos rfl]
  unfold putD
  rw [if_pos rfl, if_neg (by decide), List.take_succ_eq_append_getElem h, putF_hit hp ha]
  exact ⟨rfl, _, List.mem_append_right _ (List.mem_singleton.2 rfl), ha⟩
theorem putD_not {f : FoundT} {fs : List FoundT} {i : Nat} (h : i < fs.length) (hp : PutOk f fs false i) (ha : aheadF f fs[i] = false) : putD f fs false (i + 1) = putD f fs false i ++ [fs[i]] ∧ PutOk f fs false (i + 1) := by
  unfold PutOk at *
  rw [if_neg (by decide)] at *
  unfold putD
  rw [if_neg (by decide), if_neg (by decide), List.take_succ_eq_append_getElem h]
  refine ⟨rfl, fun x hx => ?_⟩
  rw [List.mem_append, List.mem_singleton] at hx
  rcases hx with hx | rfl
  · exact hp x hx
  · exact ha
theorem putD_end {f : FoundT} {fs : List FoundT} : putD f fs true fs.length = putF f fs := by
  unfold putD; rw [if_pos rfl, List.take_length]
theorem putD_last {f : FoundT} {fs : List FoundT} (hp : PutOk f fs false fs.length) : putD f fs false fs.length ++ [f] = putF f fs := by
  unfold PutOk at hp
  rw [if_neg (by decide), List.take_length] at hp
  unfold putD
  rw [if_neg (by decide), List.take_length, putF_none hp]

set_option maxHeartbeats 4000000 in
set_option maxRecDepth 100000 in
theorem refPut (S : Nat → Prop) (v : Value) (fs : List FoundT) (p k s : Int) (ks vs : List Int) (oa ob : Option Addr) (ca cb : Nat) (w : World) (hl : FoundsAt S w v fs) (hk : IntsIn S w (.slice oa ks.length ca) ks) (hv : IntsIn S w (.slice ob vs.length cb) vs) (hlen : fs.length ≤ 1000) :
    Calls Tryz.prog 56 #[v, .agg #[.int .i64 p, .int .i64 k, .int .i64 s, .slice oa ks.length ca, .slice ob vs.length cb]] w fun e w' => (∃ v', e = .returned v' ∧ FoundsAt (fun x => S x ∨ w.heap.size ≤ x) w' v' (putF (p, k, s, ks, vs) fs)) ∧ Mem w w' := by
  obtain ⟨ol, cl, rfl⟩ := hl.shape
  have hm : Mem w (w.alloc (.cells #[.int .i64 p, .int .i64 k, .int .i64 s, .slice oa ks.length ca, .slice ob vs.length cb] 67)) := (Mem.refl w).alloc _
  have hF := Blk.new w #[.int .i64 p, .int .i64 k, .int .i64 s, .slice oa ks.length ca, .slice ob vs.length cb] 67
  have hfit0 : Fits (fun x => S x ∧ x < w.heap.size) w (p, k, s, (oa, ks.length, ca), (ob, vs.length, cb)) (p, k, s, ks, vs) :=
    Fits.mono (S := S) ⟨rfl, rfl, rfl, hk, hv⟩ fun g h1 h2 => ⟨h1, h2⟩
  have hfit := hfit0.mem hm
  have hl0 : FoundsAt (fun x => S x ∧ x < w.heap.size) w (.slice ol fs.length cl) fs := hl.mono fun g h1 h2 => ⟨h1, h2⟩
  have hl1 := hl0.mem hm
  clear hfit0 hl0 hl hk hv
  go_enter Tryz.func56, Tryz.ntmps56
  go_wp2_with fail
  generalize hW0 : w.alloc (.cells #[.int .i64 p, .int .i64 k, .int .i64 s, .slice oa ks.length ca, .slice ob vs.length cb] 67) = W0 at *
  clear hW0
  have hwl := hF.lt
  go_loopw [5, 6, 7] (fun l d i wr => ∃ (j : Nat) (dn : Bool) (xs : List RowT), j ≤ fs.length ∧ i = .int .i64 j ∧ d = .bool dn ∧ PutOk (p, k, s, ks, vs) fs dn j ∧ wr.ownsRow W0.heap.size 67 5 l (putD (p, k, s, ks, vs) fs dn j).length (rowCells xs) ∧ FitsL (fun x => S x ∧ x < w.heap.size) wr xs (putD (p, k, s, ks, vs) fs dn j) ∧ Mem W0 wr) (fun _ _ i _ => fs.length - (intOf i).toNat)
  case atStart => exact ⟨0, false, [], Nat.zero_le _, rfl, rfl, by simp [PutOk], World.ownsRow_nil _ _ _ _, by simpa [putD] using FitsL.nil _ _, Mem.refl _⟩
  case round =>
    obtain ⟨j, dn, xs, hj, rfl, rfl, hok, hown, hfx, hmr⟩ := hrel
    have hgl := putD_length (p, k, s, ks, vs) fs dn hj
    have hF1 := hF.mem hmr
    have f0 := hF1.cell (j := 0) rfl
    have f1 := hF1.cell (j := 1) rfl
    have f2 := hF1.cell (j := 2) rfl
    have f3 := hF1.cell (j := 3) rfl
    have f4 := hF1.cell (j := 4) rfl
    by_cases hlt : j < fs.length
    · have hlt' : (j : Int) < (fs.length : Int) := by omega
      have hj0 : (0 : Int) ≤ (j : Int) := by omega
      obtain ⟨gl, fl, ok, ck, ov, cv, rfl, hSg, x0, x1, x2, x3, x4, ik, iv⟩ := (hl1.mem hmr).at hlt
      have hfj : Fits (fun x => S x ∧ x < w.heap.size) wr (fs[j].1, fs[j].2.1, fs[j].2.2.1, (ok, fs[j].2.2.2.1.length, ck), (ov, fs[j].2.2.2.2.length, cv)) fs[j] := ⟨rfl, rfl, rfl, ik, iv⟩
      clear ik iv
      cases dn with
      | true =>
        have HD := hide (putD_done hlt hok)
        clear hok
        go_wp2_with fail
        go_quiet (fail)
        have hown1 := owns_below hown ((Mem.refl wr).drewN nq)
        have hfx1 := (hfx.mem ((Mem.refl wr).drewN nq)).snoc (hfj.mem ((Mem.refl wr).drewN nq))
        have m1 := hmr.trans ((Mem.refl wr).drewN nq)
        rw [← HD.out.1] at hfx1
        go_wp2_with (at_builtin; refine pushFound rfl _ _ rfl W0.heap.size _ xs _ rfl hown1 m1.size (fs[j].1, fs[j].2.1, fs[j].2.2.1, (ok, fs[j].2.2.2.1.length, ck), (ov, fs[j].2.2.2.2.length, cv)) wr.heap.size rfl rfl (by omega) ?_; intro v' w2 o2 b2)
        have hw2 := hfx1.kept (S' := fun x => S x ∧ x < w.heap.size) (w' := w2) fun g hg _ => ⟨hg, fun off => Below.cell b2 (p := ⟨g, off, none⟩) (Nat.lt_of_lt_of_le hg.2 hm.size)⟩
        go_roundw
        case rel => exact ⟨j + 1, true, _, by omega, by go_num, rfl, HD.out.2, by rw [HD.out.1, List.length_append]; exact o2, hw2, Below.trans m1 b2⟩
        case measure => simp [intOf]; omega
      | false =>
        by_cases hah : aheadF (p, k, s, ks, vs) fs[j] = true
        · have HD := hide (putD_now hlt hok hah)
          have HA : Hid (aheadI p s fs[j].1 fs[j].2.2.1 = true) := hah
          clear hok hah
          have N0 := hide (Mem.drew (Mem.refl wr))
          have HK : Hid (∀ w', Mem wr w' → w'.cell? ⟨w.heap.size, 0, none⟩ = some (.int .i64 p) ∧ w'.cell? ⟨w.heap.size, 1, none⟩ = some (.int .i64 k) ∧ w'.cell? ⟨w.heap.size, 2, none⟩ = some (.int .i64 s) ∧ w'.cell? ⟨w.heap.size, 3, none⟩ = some (.slice oa ks.length ca) ∧ w'.cell? ⟨w.heap.size, 4, none⟩ = some (.slice ob vs.length cb) ∧ w'.cell? ⟨gl, fl + j * 5, none⟩ = some (.int .i64 fs[j].1) ∧ w'.cell? ⟨gl, fl + j * 5 + 1, none⟩ = some (.int .i64 fs[j].2.1) ∧ w'.cell? ⟨gl, fl + j * 5 + 2, none⟩ = some (.int .i64 fs[j].2.2.1) ∧ w'.cell? ⟨gl, fl + j * 5 + 3, none⟩ = some (.slice ok fs[j].2.2.2.1.length ck) ∧ w'.cell? ⟨gl, fl + j * 5 + 4, none⟩ = some (.slice ov fs[j].2.2.2.2.length cv)) := fun w' h => ⟨(hF1.mem h).cell (j := 0) rfl, (hF1.mem h).cell (j := 1) rfl, (hF1.mem h).cell (j := 2) rfl, (hF1.mem h).cell (j := 3) rfl, (hF1.mem h).cell (j := 4) rfl, (Below.cell h (p := ⟨gl, fl + j * 5, none⟩) (World.block_lt_of_cell? wr _ x0)).trans x0, (Below.cell h (p := ⟨gl, fl + j * 5 + 1, none⟩) (World.block_lt_of_cell? wr _ x1)).trans x1, (Below.cell h (p := ⟨gl, fl + j * 5 + 2, none⟩) (World.block_lt_of_cell? wr _ x2)).trans x2, (Below.cell h (p := ⟨gl, fl + j * 5 + 3, none⟩) (World.block_lt_of_cell? wr _ x3)).trans x3, (Below.cell h (p := ⟨gl, fl + j * 5 + 4, none⟩) (World.block_lt_of_cell? wr _ x4)).trans x4⟩
          go_wp2_with fail
          go_region_held3 (fun w' => w'.cell? ⟨w.heap.size, 0, none⟩ = some (.int .i64 p) ∧ w'.cell? ⟨w.heap.size, 1, none⟩ = some (.int .i64 k) ∧ w'.cell? ⟨w.heap.size, 2, none⟩ = some (.int .i64 s) ∧ w'.cell? ⟨w.heap.size, 3, none⟩ = some (.slice oa ks.length ca) ∧ w'.cell? ⟨w.heap.size, 4, none⟩ = some (.slice ob vs.length cb) ∧ w'.cell? ⟨gl, fl + j * 5, none⟩ = some (.int .i64 fs[j].1) ∧ w'.cell? ⟨gl, fl + j * 5 + 1, none⟩ = some (.int .i64 fs[j].2.1) ∧ w'.cell? ⟨gl, fl + j * 5 + 2, none⟩ = some (.int .i64 fs[j].2.2.1) ∧ w'.cell? ⟨gl, fl + j * 5 + 3, none⟩ = some (.slice ok fs[j].2.2.2.1.length ck) ∧ w'.cell? ⟨gl, fl + j * 5 + 4, none⟩ = some (.slice ov fs[j].2.2.2.2.length cv))
            (first | with_reducible exact HK.out _ N0.out | with_reducible exact HK.out _ N1.out | go_keep)
            ((go_at_call 75; refine (refAhead _ _ _ _ _ _ _ _ _ _ _ _ _ _ _ _ _ _ _).mono ?_; rintro e w1 ⟨rfl, n1⟩; rw [HA.out]; have N1 := hide (Mem.trans N0.out n1)))
          obtain ⟨f0, f1, f2, f3, f4, x0, x1, x2, x3, x4⟩ := HK.out w1 N1.out
          have hown1 := owns_below hown N1.out
          have hfx1 := hfx.mem N1.out
          have m1 := hmr.trans N1.out
          have M : True := trivial
          have hgl' : gl < W0.heap.size := Nat.lt_of_lt_of_le hSg.2 hm.size
          go_wp2_with (first
            | (at_builtin; clear M; refine pushFound rfl _ _ rfl W0.heap.size _ xs _ rfl hown1 m1.size (p, k, s, (oa, ks.length, ca), (ob, vs.length, cb)) w1.heap.size rfl rfl (by omega) ?_; intro v2 w2 o2 b2; have y0 := (Below.cell b2 (p := ⟨gl, fl + j * 5, none⟩) hgl').trans x0; have y1 := (Below.cell b2 (p := ⟨gl, fl + j * 5 + 1, none⟩) hgl').trans x1; have y2 := (Below.cell b2 (p := ⟨gl, fl + j * 5 + 2, none⟩) hgl').trans x2; have y3 := (Below.cell b2 (p := ⟨gl, fl + j * 5 + 3, none⟩) hgl').trans x3; have y4 := (Below.cell b2 (p := ⟨gl, fl + j * 5 + 4, none⟩) hgl').trans x4; have m2 := Below.trans m1 b2)
            | (at_builtin; refine pushFound rfl _ _ rfl W0.heap.size _ (xs ++ [(p, k, s, (oa, ks.length, ca), (ob, vs.length, cb))]) _ rfl o2 m2.size (fs[j].1, fs[j].2.1, fs[j].2.2.1, (ok, fs[j].2.2.2.1.length, ck), (ov, fs[j].2.2.2.2.length, cv)) w2.heap.size rfl rfl (by omega) ?_; intro v3 w3 o3 b3))
          have hfj1 := hfj.mem N1.out
          have hff1 := hfit.mem (hmr.trans N1.out)
          have hall := (hfx1.snoc hff1).snoc hfj1
          rw [← HD.out.1] at hall
          have hw2 := hall.kept (S' := fun x => S x ∧ x < w.heap.size) (w' := w3) fun g hg _ => ⟨hg, fun off => Below.cell (Below.trans b2 b3) (p := ⟨g, off, none⟩) (Nat.lt_of_lt_of_le hg.2 hm.size)⟩
          go_roundw
          case rel => exact ⟨j + 1, true, _, by omega, by go_num, rfl, HD.out.2, by rw [HD.out.1, List.length_append, List.length_append]; exact o3, hw2, Below.trans m2 b3⟩
          case measure => simp [intOf]; omega
        · have hah' : aheadF (p, k, s, ks, vs) fs[j] = false := by simpa using hah
          have HD := hide (putD_not hlt hok hah')
          have HA : Hid (aheadI p s fs[j].1 fs[j].2.2.1 = false) := hah'
          clear hok hah hah'
          have N0 := hide (Mem.drew (Mem.refl wr))
          have HK : Hid (∀ w', Mem wr w' → w'.cell? ⟨w.heap.size, 0, none⟩ = some (.int .i64 p) ∧ w'.cell? ⟨w.heap.size, 1, none⟩ = some (.int .i64 k) ∧ w'.cell? ⟨w.heap.size, 2, none⟩ = some (.int .i64 s) ∧ w'.cell? ⟨w.heap.size, 3, none⟩ = some (.slice oa ks.length ca) ∧ w'.cell? ⟨w.heap.size, 4, none⟩ = some (.slice ob vs.length cb) ∧ w'.cell? ⟨gl, fl + j * 5, none⟩ = some (.int .i64 fs[j].1) ∧ w'.cell? ⟨gl, fl + j * 5 + 1, none⟩ = some (.int .i64 fs[j].2.1) ∧ w'.cell? ⟨gl, fl + j * 5 + 2, none⟩ = some (.int .i64 fs[j].2.2.1) ∧ w'.cell? ⟨gl, fl + j * 5 + 3, none⟩ = some (.slice ok fs[j].2.2.2.1.length ck) ∧ w'.cell? ⟨gl, fl + j * 5 + 4, none⟩ = some (.slice ov fs[j].2.2.2.2.length cv)) := fun w' h => ⟨(hF1.mem h).cell (j := 0) rfl, (hF1.mem h).cell (j := 1) rfl, (hF1.mem h).cell (j := 2) rfl, (hF1.mem h).cell (j := 3) rfl, (hF1.mem h).cell (j := 4) rfl, (Below.cell h (p := ⟨gl, fl + j * 5, none⟩) (World.block_lt_of_cell? wr _ x0)).trans x0, (Below.cell h (p := ⟨gl, fl + j * 5 + 1, none⟩) (World.block_lt_of_cell? wr _ x1)).trans x1, (Below.cell h (p := ⟨gl, fl + j * 5 + 2, none⟩) (World.block_lt_of_cell? wr _ x2)).trans x2, (Below.cell h (p := ⟨gl, fl + j * 5 + 3, none⟩) (World.block_lt_of_cell? wr _ x3)).trans x3, (Below.cell h (p := ⟨gl, fl + j * 5 + 4, none⟩) (World.block_lt_of_cell? wr _ x4)).trans x4⟩
          go_wp2_with fail
          go_region_held3 (fun w' => w'.cell? ⟨w.heap.size, 0, none⟩ = some (.int .i64 p) ∧ w'.cell? ⟨w.heap.size, 1, none⟩ = some (.int .i64 k) ∧ w'.cell? ⟨w.heap.size, 2, none⟩ = some (.int .i64 s) ∧ w'.cell? ⟨w.heap.size, 3, none⟩ = some (.slice oa ks.length ca) ∧ w'.cell? ⟨w.heap.size, 4, none⟩ = some (.slice ob vs.length cb) ∧ w'.cell? ⟨gl, fl + j * 5, none⟩ = some (.int .i64 fs[j].1) ∧ w'.cell? ⟨gl, fl + j * 5 + 1, none⟩ = some (.int .i64 fs[j].2.1) ∧ w'.cell? ⟨gl, fl + j * 5 + 2, none⟩ = some (.int .i64 fs[j].2.2.1) ∧ w'.cell? ⟨gl, fl + j * 5 + 3, none⟩ = some (.slice ok fs[j].2.2.2.1.length ck) ∧ w'.cell? ⟨gl, fl + j * 5 + 4, none⟩ = some (.slice ov fs[j].2.2.2.2.length cv))
            (first | with_reducible exact HK.out _ N0.out | with_reducible exact HK.out _ N1.out | go_keep)
            ((go_at_call 75; refine (refAhead _ _ _ _ _ _ _ _ _ _ _ _ _ _ _ _ _ _ _).mono ?_; rintro e w1 ⟨rfl, n1⟩; rw [HA.out]; have N1 := hide (Mem.trans N0.out n1)))
          obtain ⟨f0, f1, f2, f3, f4, x0, x1, x2, x3, x4⟩ := HK.out w1 N1.out
          have hown1 := owns_below hown N1.out
          have hfx1 := hfx.mem N1.out
          have m1 := hmr.trans N1.out
          go_wp2_with (at_builtin; refine pushFound rfl _ _ rfl W0.heap.size _ xs _ rfl hown1 m1.size (fs[j].1, fs[j].2.1, fs[j].2.2.1, (ok, fs[j].2.2.2.1.length, ck), (ov, fs[j].2.2.2.2.length, cv)) w1.heap.size rfl rfl (by omega) ?_; intro v' w2 o2 b2)
          have hfj1 := hfj.mem N1.out
          have hall := hfx1.snoc hfj1
          rw [← HD.out.1] at hall
          have hw2 := hall.kept (S' := fun x => S x ∧ x < w.heap.size) (w' := w2) fun g hg _ => ⟨hg, fun off => Below.cell b2 (p := ⟨g, off, none⟩) (Nat.lt_of_lt_of_le hg.2 hm.size)⟩
          go_roundw
          case rel => exact ⟨j + 1, false, _, by omega, by go_num, rfl, HD.out.2, by rw [HD.out.1, List.length_append]; exact o2, hw2, Below.trans m1 b2⟩
          case measure => simp [intOf]; omega
    · have hje : j = fs.length := by omega
      subst hje
      have hlt' : ¬ ((fs.length : Int) < (fs.length : Int)) := by omega
      cases dn with
      | true =>
        go_wp2_with fail
        go_ret
        rw [putD_end] at hown hfx
        refine ⟨⟨_, rfl, FoundsAt.of_owns hown rfl hfx (fun g hg _ => .inl hg.1) (fun g hg => .inr ?_)⟩, hm.trans hmr⟩
        have := (hown.lt g hg).1
        have := hm.size
        omega
      | false =>
        have HD := hide (putD_last hok)
        clear hok
        go_wp2_with (at_builtin; refine pushFound rfl _ _ rfl W0.heap.size _ xs _ rfl hown hmr.size (p, k, s, (oa, ks.length, ca), (ob, vs.length, cb)) wr.heap.size rfl rfl (by omega) ?_; intro v' w2 o2 b2)
        go_ret
        have hall := hfx.snoc (hfit.mem hmr)
        have hw2 := hall.kept (S' := fun x => S x ∧ x < w.heap.size) (w' := w2) fun g hg _ => ⟨hg, fun off => Below.cell b2 (p := ⟨g, off, none⟩) (Nat.lt_of_lt_of_le hg.2 hm.size)⟩
        have hlen2 : (putF (p, k, s, ks, vs) fs).length = (putD (p, k, s, ks, vs) fs false fs.length).length + 1 := by rw [← HD.out, List.length_append]; rfl
        rw [HD.out] at hw2
        refine ⟨⟨_, rfl, FoundsAt.of_owns o2 hlen2 hw2 (fun g hg _ => .inl hg.1) (fun g hg => .inr ?_)⟩, hm.trans (Below.trans hmr b2)⟩
        have := (o2.lt g hg).1
        have := hm.size
        omega
end Go.Proofs.YtedopplldpcinaaGreat.Scan
/-
  Layer 6, by the document: all that a chip's pages tell.
-/
namespace Go.Proofs.YtedopplldpcinaaGreat.Scan
open Go.RowKit Go.Proofs.YtedopplldpcinaaGreat.Nand

theorem tellB_len16 (b p : Nat) (ps : List PageT) : (tellB b p ps).length ≤ 16 - p := by
  induction ps generalizing p with
  | nil => simp [tellB]
  | cons x xs ih =>
    rw [tellB, List.length_append]
    have h1 : (tellP b p x).length ≤ if p < 16 then 1 else 0 := by
      unfold tellP
      by_cases h : b < 32 ∧ p < 16
      · rw [if_pos h, if_pos h.2]
        cases (Look.look x.1 x.2.2.data.toList x.2.1.data.toList).2 <;> simp
      · rw [if_neg h]; simp
    have := ih (p + 1)
    split at h1 <;> omega
theorem tellC_len512 (b : Nat) (bs : List BlockT) : (tellC b bs).length ≤ (32 - b) * 16 := by
  induction bs generalizing b with
  | nil => simp [tellC]
  | cons x xs ih =>
    rw [tellC, List.length_append]
    have h1 := tellB_len16 b 0 x.1
    have h2 := ih (b + 1)
    by_cases hb : b < 32
    · have : (32 - b) * 16 = (32 - (b + 1)) * 16 + 16 := by omega
      omega
    · have h3 : ∀ p, tellB b p x.1 = [] := by
        intro p
        generalize x.1 = ps
        induction ps generalizing p with
        | nil => rfl
        | cons y ys ih' =>
          rw [tellB, ih']
          unfold tellP
          rw [if_neg (by omega)]
          rfl
      rw [h3]
      simp
      omega
theorem look_cases (wr : Bool) (tg data : List UInt8) : (Look.look wr tg data = (0, none)) ∨ (Look.look wr tg data = (2, none)) ∨ ∃ r, Look.look wr tg data = (1, some r) := by
  unfold Look.look
  cases wr with
  | false => exact .inl rfl
  | true =>
    cases Tag.decode tg data with
    | none => exact .inr (.inl rfl)
    | some r => exact .inr (.inr ⟨r, rfl⟩)
theorem tellP_none {b p : Nat} {pg : PageT} (h : (Look.look pg.1 pg.2.2.data.toList pg.2.1.data.toList).2 = none) : tellP b p pg = [] := by
  unfold tellP
  rw [h]
  simp
theorem tellP_far {b p : Nat} {pg : PageT} (h : ¬ (b < 32 ∧ p < 16)) : tellP b p pg = [] := by
  unfold tellP
  rw [if_neg h]
theorem tellP_some {b p : Nat} {pg : PageT} {r : RecT} (h : b < 32 ∧ p < 16) (hr : (Look.look pg.1 pg.2.2.data.toList pg.2.1.data.toList).2 = some r) : tellP b p pg = [(place b p, r)] := by
  unfold tellP
  rw [if_pos h, hr]
  rfl

/-- what is asked of whoever tells all -/
def AllSpec (F : Nat) : Prop := ∀ (S : Nat → Prop) (vb : Value) (bs : List BlockT) (br off : Bool) (ops : Int) (w : World), BlocksAt S w vb bs → Few bs → (∀ b ∈ bs, ∀ p ∈ b.1, p.2.2.size ≤ maxLen) →
  Calls Tryz.prog F #[chipV vb br off ops] w fun e w' => (∃ v, e = .returned v ∧ FoundsAt (fun x => w.heap.size ≤ x) w' v (allC bs)) ∧ Mem w w'

set_option maxHeartbeats 4000000 in
set_option maxRecDepth 100000 in
theorem refAll : AllSpec 24 := by
  intro S vb bs br off ops w hb hf hsz
  obtain ⟨oa, ca, rfl⟩ := hb.shape
  have hm : Mem w (w.alloc (.cells #[.slice oa bs.length ca, .bool br, .bool off, .int .i64 ops] 24)) := (Mem.refl w).alloc _
  have hC := Blk.new w #[.slice oa bs.length ca, .bool br, .bool off, .int .i64 ops] 24
  replace hb := hb.mem hm
  have HSZ := hide hsz
  have HF := hide hf
  have hbl : bs.length ≤ 1000 := hf.1
  clear hsz hf
  go_enter Tryz.func24, Tryz.ntmps24
  go_wp2_with fail
  generalize hW0 : w.alloc (.cells #[.slice oa bs.length ca, .bool br, .bool off, .int .i64 ops] 24) = W0 at *
  clear hW0
  go_loopw [3, 4] (fun l i wr => ∃ k : Nat, k ≤ bs.length ∧ i = .int .i64 k ∧ FoundsAt (fun x => w.heap.size ≤ x) wr l (allF (tellC 0 (bs.take k))) ∧ Mem W0 wr) (fun _ i _ => bs.length - (intOf i).toNat)
  case atStart => exact ⟨0, Nat.zero_le _, rfl, FoundsAt.nil _ _ _ _, Mem.refl _⟩
  case round =>
    obtain ⟨k, hk, rfl, hfd, hmr⟩ := hrel
    have c0 := (hC.mem hmr).cell (j := 0) rfl
    by_cases hlt : k < bs.length
    · have hlt' : (k : Int) < (bs.length : Int) := by omega
      have hk0 : (0 : Int) ≤ (k : Int) := by omega
      have HT := hide (tellC_take bs hlt)
      have hpl : bs[k].1.length ≤ 1000 := HF.out.2 _ (List.getElem_mem hlt)
      have HSP : Hid (∀ p ∈ bs[k].1, p.2.2.size ≤ maxLen) := HSZ.out _ (List.getElem_mem hlt)
      have HB : Hid (∀ w', Mem wr w' → ∃ ga fa pa qa, oa = some ⟨ga, fa, none⟩ ∧ w'.cell? ⟨ga, fa + k * 4, none⟩ = some (.slice pa bs[k].1.length qa) ∧ PagesAt S w' (.slice pa bs[k].1.length qa) bs[k].1) := fun w' h => by
        obtain ⟨ga, fa, pa, qa, e, _, x0, _, _, _, hpa⟩ := ((hb.mem hmr).mem h).at hlt
        exact ⟨ga, fa, pa, qa, e, x0, hpa⟩
      have HC : Hid (∀ w', Mem wr w' → w'.cell? ⟨w.heap.size, 0, none⟩ = some (.slice oa bs.length ca)) := fun w' h => ((hC.mem hmr).mem h).cell (j := 0) rfl
      generalize bs[k].1 = ps at *
      obtain ⟨ga, fa, pa, qa, rfl, x0, hpa⟩ := HB.out wr (Mem.refl _)
      have HX : Hid (∀ w', Mem wr w' → w'.cell? ⟨ga, fa + k * 4, none⟩ = some (.slice pa ps.length qa)) := fun w' h => (Below.cell h (p := ⟨ga, fa + k * 4, none⟩) (World.block_lt_of_cell? wr _ x0)).trans x0
      clear HB x0
      go_wp2_with fail
      go_loopw [3, 5] (fun l i wq => ∃ j : Nat, j ≤ ps.length ∧ i = .int .i64 j ∧ FoundsAt (fun x => w.heap.size ≤ x) wq l (allF (tellC 0 (bs.take k) ++ tellB k 0 (ps.take j))) ∧ Mem wr wq) (fun _ i _ => ps.length - (intOf i).toNat)
      case atStart => exact ⟨0, Nat.zero_le _, rfl, by simpa [tellB] using hfd, Mem.refl _⟩
      case round =>
        obtain ⟨j, hj, rfl, hfq, hmq⟩ := hrel
        have c0 := HC.out _ hmq
        have x0 := HX.out _ hmq
        by_cases hlj : j < ps.length
        · have hlj' : (j : Int) < (ps.length : Int) := by omega
          have hj0 : (0 : Int) ≤ (j : Int) := by omega
          have HTB := hide (tellB_take k ps hlj)
          obtain ⟨gp, fp, rfl, _, y0, y1, y2⟩ := (hpa.mem hmq).at hlj
          have hts : ps[j].2.2.size ≤ maxLen := HSP.out _ (List.getElem_mem hlj)
          have HP : Hid (ps[j] = ps[j]) := rfl
          generalize ps[j] = pg at y0 y1 y2 hts HTB
          have hcs := look_cases pg.1 pg.2.2.data.toList pg.2.1.data.toList
          have HN := hide (fun h => tellP_none (b := k) (p := j) (pg := pg) h)
          have HFar := hide (fun h => tellP_far (b := k) (p := j) (pg := pg) h)
          have HSo := hide (fun (r : RecT) hb hr => tellP_some (b := k) (p := j) (pg := pg) (r := r) hb hr)
          have hln : (allF (tellC 0 (bs.take k) ++ tellB k 0 (ps.take j))).length ≤ 1000 := by
            rw [allF_length, List.length_append]
            have := tellC_len512 0 (bs.take k)
            have := tellB_len16 k 0 (ps.take j)
            omega
          have hsw : w.heap.size ≤ wr.heap.size := (hm.trans (hmr.trans hmq)).size
          go_wp2_with fail
          refine (Look.refLook pg.1 pg.2.1 pg.2.2 _ hts).mono ?_
          rintro e w1 ⟨hlk, m1⟩
          generalize Look.look pg.1 pg.2.2.data.toList pg.2.1.data.toList = q at *
          obtain ⟨vk, vv, rfl, ik, iv, pk, pv⟩ := hlk
          obtain ⟨ok, ck, rfl⟩ := ik.shape
          obtain ⟨ov, cv, rfl⟩ := iv.shape
          have jk := IntsIn.of_past ik (pk.mono hsw)
          have jv := IntsIn.of_past iv (pv.mono hsw)
          have hfq1 := hfq.mem m1
          have m2 := hmq.trans m1
          clear ik iv pk pv hsw
          rcases hcs with rfl | rfl | ⟨⟨kd, sq, ks, vs⟩, rfl⟩
          · have HE := hide (HN.out rfl)
            clear HN HFar HSo
            simp only [Tag.decR] at *
            have m3 := m2.alloc (.cells #[.int .i64 0, .int .i64 0, .slice ok 0 ck, .slice ov 0 cv] 50)
            go_wp2_with (go_at_call 46; refine (refPlace _ _ _).mono ?_; rintro e w' ⟨rfl, rfl⟩)
            go_roundw
            case rel => exact ⟨j + 1, by omega, by go_num, by rw [HTB.out, HE.out, List.append_nil]; exact hfq1.mem ((Mem.refl _).alloc _), m3⟩
            case measure => simp [intOf]; omega
          · have HE := hide (HN.out rfl)
            clear HN HFar HSo
            simp only [Tag.decR] at *
            have m3 := m2.alloc (.cells #[.int .i64 0, .int .i64 0, .slice ok 0 ck, .slice ov 0 cv] 50)
            go_wp2_with (go_at_call 46; refine (refPlace _ _ _).mono ?_; rintro e w' ⟨rfl, rfl⟩)
            go_roundw
            case rel => exact ⟨j + 1, by omega, by go_num, by rw [HTB.out, HE.out, List.append_nil]; exact hfq1.mem ((Mem.refl _).alloc _), m3⟩
            case measure => simp [intOf]; omega
          · simp only [Tag.decR] at *
            have m3 := m2.alloc (.cells #[.int .i64 kd, .int .i64 sq, .slice ok ks.length ck, .slice ov vs.length cv] 50)
            have ma : Mem w1 (w1.alloc (.cells #[.int .i64 kd, .int .i64 sq, .slice ok ks.length ck, .slice ov vs.length cv] 50)) := (Mem.refl w1).alloc _
            have hR := Blk.new w1 #[.int .i64 kd, .int .i64 sq, .slice ok ks.length ck, .slice ov vs.length cv] 50
            by_cases hpl2 : k < 32 ∧ j < 16
            · have HE := hide (HSo.out (kd, sq, ks, vs) hpl2 rfl)
              have hp0 : (0 : Int) ≤ place k j := place_nonneg.2 hpl2
              clear HN HFar HSo hpl2
              go_wp2_with (go_at_call 46; refine (refPlace _ _ _).mono ?_; rintro e w' ⟨rfl, rfl⟩)
              refine (refPut _ _ _ (place k j) kd sq ks vs ok ov ck cv _ (hfq1.mem ma) ((jk.kept fun g hg hl => ⟨hg, fun off => Below.cell ma (p := ⟨g, off, none⟩) hl⟩)) ((jv.kept fun g hg hl => ⟨hg, fun off => Below.cell ma (p := ⟨g, off, none⟩) hl⟩)) hln).mono ?_
              rintro e w2 ⟨⟨v2, rfl, hfp⟩, n2⟩
              have hs2 := (hm.trans (hmr.trans m3)).size
              have hfp2 := hfp.mono (S' := fun x => w.heap.size ≤ x) fun g hg _ => hg.elim id (fun h => by omega)
              have m4 := m3.trans n2
              go_wp2_with fail
              go_roundw
              case rel => exact ⟨j + 1, by omega, by go_num, by rw [HTB.out, HE.out, ← List.append_assoc, allF_snoc]; exact hfp2, m4⟩
              case measure => simp [intOf]; omega
            · have HE := hide (HFar.out hpl2)
              have hp0 : place k j < 0 := by
                have h : ¬ (0 ≤ place k j) := fun h => hpl2 (place_nonneg.1 h)
                omega
              clear HN HFar HSo hpl2
              go_wp2_with (go_at_call 46; refine (refPlace _ _ _).mono ?_; rintro e w' ⟨rfl, rfl⟩)
              go_roundw
              case rel => exact ⟨j + 1, by omega, by go_num, by rw [HTB.out, HE.out, List.append_nil]; exact hfq1.mem ma, m3⟩
              case measure => simp [intOf]; omega
        · have hje : j = ps.length := by omega
          subst hje
          have hlj' : ¬ ((ps.length : Int) < (ps.length : Int)) := by omega
          rw [List.take_length, ← HT.out] at hfq
          have m2 := hmr.trans hmq
          go_wp2_with fail
          go_roundw
          case rel => exact ⟨k + 1, by omega, by go_num, hfq, m2⟩
          case measure => simp [intOf]; omega
    · have hke : k = bs.length := by omega
      subst hke
      have hlt' : ¬ ((bs.length : Int) < (bs.length : Int)) := by omega
      rw [List.take_length] at hfd
      go_wp2_with fail
      go_ret
      exact ⟨⟨_, rfl, hfd⟩, hm.trans hmr⟩
end Go.Proofs.YtedopplldpcinaaGreat.Scan
/-
  Layer 6, the program: the blocks and the pages that have places.
-/
namespace Go.Proofs.YtedopplldpcinaaGreat.Scan
open Go.RowKit Go.Proofs.YtedopplldpcinaaGreat.Nand

theorem BlocksAt.take {S : Nat → Prop} {w : World} {oa : Option Addr} {n cap : Nat} {bs : List BlockT} (h : BlocksAt S w (.slice oa n cap) bs) (k : Nat) : BlocksAt S w (.slice oa (min n k) cap) (bs.take k) := by
  have hc := BlocksAt.cap h
  have hn : n = bs.length := by
    obtain ⟨o', c', e⟩ := h.shape
    injection e with _ e _
  subst hn
  have hl : (bs.take k).length = min bs.length k := by rw [List.length_take]; omega
  refine ⟨by rw [hl]; have := h.1; omega, ?_⟩
  by_cases h0 : min bs.length k = 0
  · exact .inl ⟨List.length_eq_zero_iff.1 (by omega), oa, cap, by rw [h0]⟩
  · rcases h.2 with ⟨rfl, _⟩ | ⟨g, off, cap', hv, _, hs, hcs⟩
    · simp at h0
    · injection hv with ha _ hcc
      subst ha; subst hcc
      refine .inr ⟨g, off, cap, by rw [hl], ⟨by omega, by omega⟩, hs, fun i hi => ?_⟩
      have hi' : i < bs.length := by omega
      have e : (bs.take k)[i] = bs[i] := by simp
      rw [e]
      exact hcs i hi'
theorem PagesAt.take {S : Nat → Prop} {w : World} {oa : Option Addr} {n cap : Nat} {ps : List PageT} (h : PagesAt S w (.slice oa n cap) ps) (k : Nat) : PagesAt S w (.slice oa (min n k) cap) (ps.take k) := by
  have hc := PagesAt.cap h
  have hn : n = ps.length := by
    obtain ⟨o', c', e⟩ := h.shape
    injection e with _ e _
  subst hn
  have hl : (ps.take k).length = min ps.length k := by rw [List.length_take]; omega
  refine ⟨by rw [hl]; have := h.1; omega, ?_⟩
  by_cases h0 : min ps.length k = 0
  · exact .inl ⟨List.length_eq_zero_iff.1 (by omega), oa, cap, by rw [h0]⟩
  · rcases h.2 with ⟨rfl, _⟩ | ⟨g, off, cap', hv, _, hs, hcs⟩
    · simp at h0
    · injection hv with ha _ hcc
      subst ha; subst hcc
      refine .inr ⟨g, off, cap, by rw [hl], ⟨by omega, by omega⟩, hs, fun i hi => ?_⟩
      have hi' : i < ps.length := by omega
      have e : (ps.take k)[i] = ps[i] := by simp
      rw [e]
      exact hcs i hi'

set_option maxHeartbeats 1000000 in
set_option maxRecDepth 100000 in
theorem placedBlocks (S : Nat → Prop) (vb : Value) (bs : List BlockT) (br off : Bool) (ops : Int) (w : World) (hb : BlocksAt S w vb bs) :
    Calls Tryz.prog 60 #[chipV vb br off ops] w fun e w' => (∃ v', e = .returned v' ∧ BlocksAt S w' v' (bs.take 32)) ∧ Mem w w' := by
  obtain ⟨oa, ca, rfl⟩ := hb.shape
  have hm : Mem w (w.alloc (.cells #[.slice oa bs.length ca, .bool br, .bool off, .int .i64 ops] 24)) := (Mem.refl w).alloc _
  have hb' := BlocksAt.take (hb.mem hm) 32
  have hc := BlocksAt.cap hb
  have hl := hb.1
  unfold maxLen at hl
  by_cases h : bs.length ≤ 32
  · have hx : min (bs.length : Int) 32 = (bs.length : Int) := by omega
    rw [show min bs.length 32 = bs.length by omega] at hb'
    go_enter Tryz.func60, Tryz.ntmps60
    go_wp2_with fail
    go_ret
    exact ⟨⟨_, rfl, hb'⟩, hm⟩
  · have h' : (32 : Int) < (bs.length : Int) := by omega
    rw [show min bs.length 32 = 32 by omega] at hb'
    go_enter Tryz.func60, Tryz.ntmps60
    go_wp2_with fail
    go_ret
    exact ⟨⟨_, rfl, hb'⟩, hm⟩

end Go.Proofs.YtedopplldpcinaaGreat.Scan
