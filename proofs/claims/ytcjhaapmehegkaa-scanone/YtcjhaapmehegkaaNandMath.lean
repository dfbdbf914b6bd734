/-
  Layer 5: what stays of a chip's measures behind a program, an erase, a step.
-/
import Derived.Test.YtcjhaapmehegkaaNandDoneDefs
import Derived.Test.YtcjhaapmehegkaaNandNews
namespace Go.Proofs.Ytcjhaapmehegkaa.Nand
open Go.RowKit

/-- how many pages each block has -/
def dims (bs : List BlockT) : List Nat := bs.map fun b => b.1.length
theorem dims_length (bs : List BlockT) : (dims bs).length = bs.length := by simp [dims]
theorem dims_set {bs : List BlockT} {i : Nat} {b : BlockT} (h : b.1.length = (bs.getD i default).1.length) : dims (bs.set i b) = dims bs := by
  apply List.ext_getElem?
  intro j
  unfold dims
  rw [List.getElem?_map, List.getElem?_map, List.getElem?_set]
  by_cases e : i = j
  · subst e
    by_cases hi : i < bs.length
    · rw [if_pos rfl, if_pos hi, List.getElem?_eq_getElem hi]
      have : bs.getD i default = bs[i] := by simp [hi]
      rw [this] at h
      simp [h]
    · rw [if_pos rfl, if_neg hi, List.getElem?_eq_none (by omega)]
  · rw [if_neg e]
theorem program_dims (c : ChipT) (b p : Int) (pg : PageT) (f : FateT) : dims (program c b p pg f).1.1 = dims c.1 := by
  unfold program
  split
  · rfl
  · split
    · exact dims_set (by rw [List.length_set])
    · rfl
theorem erase_dims (c : ChipT) (b : Int) (f : FateT) : dims (erase c b f).1.1 = dims c.1 := by
  unfold erase
  split
  · rfl
  · split
    · split
      · exact dims_set rfl
      · split
        · exact dims_set (by rw [wipe_length])
        · exact dims_set (by rw [wipe_length])
    · rfl
theorem done_dims (c : ChipT) (s : StepT) : dims (doneR c s).1 = dims c.1 := by
  have h1 : dims (doneC c s).1.1 = dims c.1 := by
    unfold doneC
    split
    · exact erase_dims _ _ _
    · exact program_dims _ _ _ _ _
  unfold doneR
  split
  · exact h1
  · exact h1
theorem new_dims {N M : Nat} (bad : List Int) : dims (newBlocks N M bad) = List.replicate N M := by
  apply List.ext_getElem?
  intro j
  by_cases h : j < N
  · simp [dims, newBlocks, h]
  · rw [List.getElem?_eq_none (by rw [dims_length, newBlocks_length]; omega), List.getElem?_eq_none (by simp; omega)]
theorem dims_len {bs : List BlockT} {N M : Nat} (h : dims bs = List.replicate N M) : bs.length = N := by rw [← dims_length, h, List.length_replicate]
theorem dims_get {bs : List BlockT} {N M : Nat} (h : dims bs = List.replicate N M) {i : Nat} (hi : i < bs.length) : bs[i].1.length = M := by
  have h1 : (dims bs)[i]? = some bs[i].1.length := by simp [dims, hi]
  rw [h] at h1
  have hN := dims_len h
  simp [show i < N by omega] at h1
  exact h1.symm
theorem few_dims {bs : List BlockT} {N M : Nat} (h : dims bs = List.replicate N M) (hN : N ≤ 1000) (hM : M ≤ 1000) : Few bs := by
  refine ⟨by rw [dims_len h]; exact hN, fun b hb => ?_⟩
  obtain ⟨i, hi, rfl⟩ := List.getElem_of_mem hb
  rw [dims_get h hi]; exact hM
end Go.Proofs.Ytcjhaapmehegkaa.Nand
