/-
  Layer 8, the program: Owners, Says, Live, Count.
-/
import Derived.Maps.OwnSet
import Derived.Maps.AppendAt
import Derived.WalkKit
import Derived.Test.YtegamnaahipedaaLiveIter
import Derived.Test.YtegamnaahipedaaScanLow
namespace Go.Proofs.Ytegamnaahipedaa.Live
open Go.RowKit Go.Maps Go.Proofs.Ytegamnaahipedaa.Replay Go.Proofs.Ytegamnaahipedaa.Scan

theorem Mem8.size {a b : World} (h : Mem a b) : a.heap.size ≤ b.heap.size := Below.size h
/-- the keys of a list that stand in the map -/
def keysOf (l : List Int) (k : Nat) : List Lit := ((l.take k).filter fun z => decide (0 ≤ z)).map (Lit.int .i64)
theorem keysOf_yes {l : List Int} {k : Nat} (h : k < l.length) (h0 : 0 ≤ l.getD k 0) : keysOf l (k + 1) = keysOf l k ++ [.int .i64 (l.getD k 0)] := by
  have e : l[k] = l.getD k 0 := by simp [h]
  unfold keysOf
  rw [List.take_succ_eq_append_getElem h, List.filter_append, List.map_append, e]
  rw [List.filter_cons_of_pos (by simpa using h0)]
  rfl
theorem keysOf_no {l : List Int} {k : Nat} (h : k < l.length) (h0 : l.getD k 0 < 0) : keysOf l (k + 1) = keysOf l k := by
  have e : l[k] = l.getD k 0 := by simp [h]
  unfold keysOf
  rw [List.take_succ_eq_append_getElem h, List.filter_append, List.map_append, e]
  rw [List.filter_cons_of_neg (by simpa using h0)]
  simp
theorem keysOf_key {l : List Int} {k : Nat} : ∀ x ∈ keysOf l k, WideAt.IsKeyLit x := by
  intro x hx
  unfold keysOf at hx
  obtain ⟨_, _, rfl⟩ := List.mem_map.1 hx
  trivial
def accOf (t : TableT) : Nat → List Lit
  | 0 => []
  | 1 => keysOf t.1 t.1.length
  | _ => keysOf t.1 t.1.length ++ keysOf t.2 t.2.length
def listOf (t : TableT) : Nat → List Int
  | 0 => t.1
  | _ => t.2
theorem accOf_succ (t : TableT) {j : Nat} (h : j < 2) : accOf t (j + 1) = accOf t j ++ keysOf (listOf t j) (listOf t j).length := by
  match j, h with
  | 0, _ => simp [accOf, listOf]
  | 1, _ => simp [accOf, listOf]
theorem accOf_key (t : TableT) (j : Nat) : ∀ x ∈ accOf t j, WideAt.IsKeyLit x := by
  match j with
  | 0 => intro x hx; cases hx
  | 1 => exact keysOf_key
  | (n + 2) =>
    intro x hx
    rcases List.mem_append.1 hx with h | h
    · exact keysOf_key x h
    · exact keysOf_key x h
def setT (acc : List Lit) : DataW Unit := setOf (.agg []) acc
theorem setT_snoc (acc : List Lit) (x : Lit) : setT (acc ++ [x]) = (setT acc).put x (.agg []) := setOf_snoc _ _ _
theorem keysOf_any (l : List Int) (p : Int) : ((keysOf l l.length).any fun x => x.sameKey (.int .i64 p)) = (decide (0 ≤ p) && hasL l p) := by
  rw [Bool.eq_iff_iff, List.any_eq_true, Bool.and_eq_true, decide_eq_true_eq, hasL_iff]
  unfold keysOf
  rw [List.take_length]
  constructor
  · rintro ⟨x, hx, hs⟩
    obtain ⟨z, hz, rfl⟩ := List.mem_map.1 hx
    have := WideAt.sameKey_eq hs
    injection this with _ e
    subst e
    obtain ⟨h1, h2⟩ := List.mem_filter.1 hz
    exact ⟨by simpa using h2, h1⟩
  · rintro ⟨h1, h2⟩
    exact ⟨.int .i64 p, List.mem_map.2 ⟨p, List.mem_filter.2 ⟨h2, by simpa using h1⟩, rfl⟩, WideAt.sameKey_self trivial⟩
theorem setT_has (t : TableT) (p : Int) : Maps.has (setT (accOf t 2)) (.int .i64 p) = liveT t p := by
  unfold setT
  rw [has_setOf _ _ _ (accOf_key t 2)]
  show (keysOf t.1 t.1.length ++ keysOf t.2 t.2.length).any _ = _
  rw [List.any_append, keysOf_any, keysOf_any]
  unfold liveT
  cases decide (0 ≤ p) <;> simp
theorem law_int : Keyed Try.prog 3 := int_keyed Try.underlying3
theorem zero_unit (w : World) : (zeroValue 87).run Try.prog w = .ok (.agg #[]) w := by kernel_rfl
theorem at_lists0 (a b : Value) (w : World) : (Instr.index 100 (.agg #[a, b]) (.int .i64 (0 : Nat))).run Try.prog w = .ok a w := by kernel_rfl
theorem at_lists1 (a b : Value) (w : World) : (Instr.index 100 (.agg #[a, b]) (.int .i64 (1 : Nat))).run Try.prog w = .ok b w := by kernel_rfl
end Go.Proofs.Ytegamnaahipedaa.Live
