/-
  Layer 7: what a page tells of a key, and whether there is such a sector.
-/
import Derived.Test.YtegamnaahipedaaReplayNews
namespace Go.Proofs.Ytegamnaahipedaa.Replay
open Go.RowKit Go.Proofs.Ytegamnaahipedaa.Scan

theorem toldT_data {p s : Int} {ks vs : List Int} {i : Nat} : toldT (p, 1, s, ks, vs) i = some p := rfl
theorem toldT_change {p s : Int} {ks vs : List Int} {i : Nat} (h : i < vs.length) : toldT (p, 2, s, ks, vs) i = some (vs.getD i 0) := by
  show vs[i]? = _
  simp [h]
theorem toldT_short {p s : Int} {ks vs : List Int} {i : Nat} (h : ¬ i < vs.length) : toldT (p, 2, s, ks, vs) i = none := by
  show vs[i]? = _
  simp; omega
theorem toldT_else {p k s : Int} {ks vs : List Int} {i : Nat} (h1 : k ≠ 1) (h2 : k ≠ 2) : toldT (p, k, s, ks, vs) i = none := by
  unfold toldT
  rw [if_neg h1, if_neg h2]
end Go.Proofs.Ytegamnaahipedaa.Replay
