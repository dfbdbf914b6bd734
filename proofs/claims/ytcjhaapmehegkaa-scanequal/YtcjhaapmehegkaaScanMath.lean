/-
  Layer 6: the mathematics of what a chip's pages tell: places, the order, what is put in at its place, and that whatever is sorted is that.
-/
namespace Go.Proofs.Ytcjhaapmehegkaa.Scan

/-- kind, Seq, keys, values -/
abbrev RecT := Int × Int × List Int × List Int
/-- the place, and the record -/
abbrev FoundT := Int × RecT

def aheadF (a b : FoundT) : Bool := decide (a.2.2.1 < b.2.2.1) || (decide (a.2.2.1 = b.2.2.1) && decide (a.1 < b.1))
def putF (f : FoundT) : List FoundT → List FoundT
  | [] => [f]
  | x :: xs => if aheadF f x = true then f :: x :: xs else x :: putF f xs
def place (b p : Int) : Int := if b < 0 ∨ 32 ≤ b ∨ p < 0 ∨ 16 ≤ p then -1 else b * 16 + p
/-- all that is told, each put in at its place -/
def allF (l : List FoundT) : List FoundT := l.foldl (fun acc f => putF f acc) []

/-- not behind -/
def leF (a b : FoundT) : Prop := aheadF b a = false
theorem aheadF_iff (a b : FoundT) : aheadF a b = true ↔ a.2.2.1 < b.2.2.1 ∨ (a.2.2.1 = b.2.2.1 ∧ a.1 < b.1) := by
  unfold aheadF
  simp
theorem leF_iff (a b : FoundT) : leF a b ↔ a.2.2.1 < b.2.2.1 ∨ (a.2.2.1 = b.2.2.1 ∧ a.1 ≤ b.1) := by
  unfold leF
  rw [Bool.eq_false_iff]
  rw [Ne, aheadF_iff]
  omega
theorem leF_trans {a b c : FoundT} (h : leF a b) (h' : leF b c) : leF a c := by
  rw [leF_iff] at *
  omega
theorem leF_of_ahead {a b : FoundT} (h : aheadF a b = true) : leF a b := by
  rw [aheadF_iff] at h
  rw [leF_iff]
  omega
theorem putF_perm (f : FoundT) (l : List FoundT) : (putF f l).Perm (f :: l) := by
  induction l with
  | nil => exact List.Perm.refl _
  | cons x xs ih =>
    unfold putF
    split
    · exact List.Perm.refl _
    · exact (ih.cons x).trans (List.Perm.swap f x xs)
theorem putF_sorted {f : FoundT} {l : List FoundT} (h : l.Pairwise leF) : (putF f l).Pairwise leF := by
  induction l with
  | nil => unfold putF; exact List.pairwise_singleton _ _
  | cons x xs ih =>
    unfold putF
    rw [List.pairwise_cons] at h
    split
    · rename_i ha
      rw [List.pairwise_cons, List.pairwise_cons]
      refine ⟨fun y hy => ?_, h⟩
      rcases List.mem_cons.1 hy with rfl | hy
      · exact leF_of_ahead ha
      · exact leF_trans (leF_of_ahead ha) (h.1 y hy)
    · rename_i ha
      rw [List.pairwise_cons]
      refine ⟨fun y hy => ?_, ih h.2⟩
      rcases List.mem_cons.1 ((putF_perm f xs).mem_iff.1 hy) with rfl | hy
      · exact Bool.eq_false_iff.2 ha
      · exact h.1 y hy
theorem foldl_put_perm (l acc : List FoundT) : (l.foldl (fun acc f => putF f acc) acc).Perm (l ++ acc) := by
  induction l generalizing acc with
  | nil => exact List.Perm.refl _
  | cons x xs ih =>
    simp only [List.foldl_cons, List.cons_append]
    refine (ih (putF x acc)).trans ?_
    refine ((putF_perm x acc).append_left xs).trans ?_
    exact List.perm_middle
theorem foldl_put_sorted (l acc : List FoundT) (h : acc.Pairwise leF) : (l.foldl (fun acc f => putF f acc) acc).Pairwise leF := by
  induction l generalizing acc with
  | nil => exact h
  | cons x xs ih => exact ih _ (putF_sorted h)
theorem allF_perm (l : List FoundT) : (allF l).Perm l := by
  have := foldl_put_perm l []
  rwa [List.append_nil] at this
theorem allF_sorted (l : List FoundT) : (allF l).Pairwise leF := foldl_put_sorted l [] List.Pairwise.nil
theorem allF_snoc (l : List FoundT) (f : FoundT) : allF (l ++ [f]) = putF f (allF l) := by
  unfold allF
  rw [List.foldl_append]
  rfl
theorem allF_length (l : List FoundT) : (allF l).length = l.length := (allF_perm l).length_eq
/-- no two at one place -/
def Apart (l : List FoundT) : Prop := (l.map (·.1)).Nodup
theorem Apart.perm {l l' : List FoundT} (h : Apart l) (hp : l'.Perm l) : Apart l' := (hp.map _).nodup_iff.2 h
theorem apart_eq {l : List FoundT} (h : Apart l) {a b : FoundT} (ha : a ∈ l) (hb : b ∈ l) (he : a.1 = b.1) : a = b := by
  unfold Apart at h
  induction l with
  | nil => cases ha
  | cons x xs ih =>
    rw [List.map_cons, List.nodup_cons] at h
    rcases List.mem_cons.1 ha with rfl | ha'
    · rcases List.mem_cons.1 hb with rfl | hb'
      · rfl
      · exact absurd (List.mem_map.2 ⟨b, hb', he.symm⟩) h.1
    · rcases List.mem_cons.1 hb with rfl | hb'
      · exact absurd (List.mem_map.2 ⟨a, ha', he⟩) h.1
      · exact ih h.2 ha' hb'
/-- whatever is told and sorted is all, each at its place -/
theorem sorted_is {l s : List FoundT} (hl : Apart l) (hp : s.Perm l) (hs : s.Pairwise leF) : s = allF l := by
  refine List.Perm.eq_of_pairwise (le := leF) ?_ hs (allF_sorted l) (hp.trans (allF_perm l).symm)
  intro a b ha hb h1 h2
  have ha' := hp.mem_iff.1 ha
  have hb' := (allF_perm l).mem_iff.1 hb
  refine apart_eq hl ha' hb' ?_
  rw [leF_iff] at *
  omega

theorem Apart.filter {l : List FoundT} (h : Apart l) (P : FoundT → Bool) : Apart (l.filter P) := by
  unfold Apart at *
  exact List.Nodup.sublist (List.Sublist.map _ List.filter_sublist) h
theorem allF_filter {l : List FoundT} (hl : Apart l) (P : FoundT → Bool) : allF (l.filter P) = (allF l).filter P :=
  (sorted_is (hl.filter P) ((allF_perm l).filter P) ((allF_sorted l).sublist List.filter_sublist)).symm
theorem place_ok {b p : Nat} (hb : b < 32) (hp : p < 16) : place b p = (b : Int) * 16 + p := by
  unfold place
  rw [if_neg (by omega)]
theorem place_none {b p : Nat} (h : 32 ≤ b ∨ 16 ≤ p) : place b p = -1 := by
  unfold place
  rw [if_pos (by omega)]
theorem place_inj {b p b' p' : Nat} (h : place b p = place b' p') (h0 : 0 ≤ place b p) : b = b' ∧ p = p' := by
  unfold place at *
  split at h0
  · omega
  · rename_i h1
    rw [if_neg h1] at h
    split at h <;> omega
theorem place_nonneg {b p : Nat} : 0 ≤ place b p ↔ b < 32 ∧ p < 16 := by
  unfold place
  split <;> omega
end Go.Proofs.Ytcjhaapmehegkaa.Scan
