/-
  Layer 7: the mathematics of tables, of what pages tell.
-/
import Derived.Test.YtegamnaahipedaaScanLow
namespace Go.Proofs.Ytegamnaahipedaa.Replay
open Go.Proofs.Ytegamnaahipedaa.Scan

/-- which page has a sector's data, and which says so -/
abbrev TableT := List Int × List Int
/-- how many sectors -/
def cutN (n : Int) : Nat := (min (max n 0) 64).toNat
def newT (n : Int) : TableT := (List.replicate (cutN n) (-1), List.replicate (cutN n) (-1))
theorem cutN_le (n : Int) : cutN n ≤ 64 := by unfold cutN; omega
theorem cutN_val (n : Int) : ((cutN n : Nat) : Int) = min (max n 0) 64 := by unfold cutN; omega
theorem newT_len (n : Int) : (newT n).1.length = cutN n ∧ (newT n).2.length = cutN n := by simp [newT]
/-- what f tells of its i-th key -/
def toldT (f : FoundT) (i : Nat) : Option Int := if f.2.1 = 1 then some f.1 else if f.2.1 = 2 then f.2.2.2.2[i]? else none
def isSec (t : TableT) (k : Int) : Bool := decide (0 ≤ k) && decide (k < t.1.length) && decide (k < t.2.length)
def putT (t : TableT) (k v p : Int) : TableT := if isSec t k = true then (t.1.set k.toNat v, t.2.set k.toNat p) else t
def stepT (f : FoundT) (t : TableT) (i : Nat) : TableT :=
  match toldT f i with
  | none => t
  | some v => putT t (f.2.2.2.1.getD i 0) v f.1
def applyN (f : FoundT) (t : TableT) : Nat → TableT
  | 0 => t
  | n + 1 => stepT f (applyN f t n) n
def applyT (t : TableT) (f : FoundT) : TableT := applyN f t f.2.2.2.1.length
theorem putT_len (t : TableT) (k v p : Int) : (putT t k v p).1.length = t.1.length ∧ (putT t k v p).2.length = t.2.length := by
  unfold putT; split <;> simp
theorem stepT_len (f : FoundT) (t : TableT) (i : Nat) : (stepT f t i).1.length = t.1.length ∧ (stepT f t i).2.length = t.2.length := by
  unfold stepT
  split
  · exact ⟨rfl, rfl⟩
  · exact putT_len _ _ _ _
theorem applyN_len (f : FoundT) (t : TableT) (n : Nat) : (applyN f t n).1.length = t.1.length ∧ (applyN f t n).2.length = t.2.length := by
  induction n with
  | zero => exact ⟨rfl, rfl⟩
  | succ n ih => rw [applyN, (stepT_len _ _ _).1, (stepT_len _ _ _).2]; exact ih
theorem applyT_len (t : TableT) (f : FoundT) : (applyT t f).1.length = t.1.length ∧ (applyT t f).2.length = t.2.length := applyN_len _ _ _
theorem isSec_len {t u : TableT} (h : t.1.length = u.1.length ∧ t.2.length = u.2.length) (k : Int) : isSec t k = isSec u k := by
  unfold isSec; rw [h.1, h.2]
theorem isSec_iff (t : TableT) (k : Int) : isSec t k = true ↔ 0 ≤ k ∧ k < t.1.length ∧ k < t.2.length := by
  unfold isSec; simp [and_assoc]
theorem stepT_none {f : FoundT} {i : Nat} (t : TableT) (h : toldT f i = none) : stepT f t i = t := by unfold stepT; rw [h]
theorem stepT_out {f : FoundT} {i : Nat} {t : TableT} (h : isSec t (f.2.2.2.1.getD i 0) = false) : stepT f t i = t := by
  unfold stepT
  split
  · rfl
  · unfold putT; rw [h]; simp
theorem stepT_in {f : FoundT} {i : Nat} {t : TableT} {v : Int} (h : toldT f i = some v) (h' : isSec t (f.2.2.2.1.getD i 0) = true) : stepT f t i = (t.1.set (f.2.2.2.1.getD i 0).toNat v, t.2.set (f.2.2.2.1.getD i 0).toNat f.1) := by
  unfold stepT; rw [h]; show putT _ _ _ _ = _; unfold putT; rw [if_pos h']
def foldT (fs : List FoundT) (t : TableT) : TableT := fs.foldl applyT t
theorem foldT_len (fs : List FoundT) (t : TableT) : (foldT fs t).1.length = t.1.length ∧ (foldT fs t).2.length = t.2.length := by
  unfold foldT
  induction fs generalizing t with
  | nil => exact ⟨rfl, rfl⟩
  | cons f fs ih => rw [List.foldl_cons, (ih _).1, (ih _).2]; exact applyT_len t f
theorem foldT_take (fs : List FoundT) (t : TableT) {k : Nat} (h : k < fs.length) : foldT (fs.take (k + 1)) t = applyT (foldT (fs.take k) t) fs[k] := by
  unfold foldT
  rw [List.take_succ_eq_append_getElem h, List.foldl_append]
  rfl
end Go.Proofs.Ytegamnaahipedaa.Replay
