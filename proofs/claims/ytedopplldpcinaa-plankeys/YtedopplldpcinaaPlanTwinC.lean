/-
  Layer 12, the document: Twin. (By mk_plantwin.py.)
-/
import Derived.Test.YtedopplldpcinaaPlanRefAll
namespace Go.Proofs.Ytedopplldpcinaa.Plan
open Go.RowKit Go.Proofs.Ytedopplldpcinaa.Nand Go.Proofs.Ytedopplldpcinaa.Scan Go.Proofs.Ytedopplldpcinaa.Live Go.Proofs.Ytedopplldpcinaa.Replay

theorem text_inj {a b : ByteArray} (h : a.toList = b.toList) : a = b := by
  rw [toList_data, toList_data] at h
  cases a; cases b
  simp at h
  rw [h]
/-- what yields in every world that meets S is taken first: the slot by its number -/
theorem takeH_at {P : Program} {md : Region.Mode} {ops : Array Oper} {Q : Exit → Act → World → Prop} {S : World → Prop} {i : Nat} {oi : Oper} {v : Value} {d : Tmp} {fuel : Nat} {listed : Array Bool} {ts : Array Value} {ds : List Deferred} {w : World} (hi : ops[i]? = some oi)
    (hs : Region.noSelect ops = true) (hf : Region.free md ops listed i = true) (hr : (Region.ready md ops listed).contains i = true)
    (hQ : ∀ c (a : Act) w, Q (.panic c) (a.put oi.dst v) w → Q (.panic c) a w) (hd : oi.dst = some d) (hy : YieldsIf P ops S oi v { tmps := ts, defers := ds }) (hS : S w)
    (h : wpAnyH P md ops Q S fuel (listed.setIfInBounds i true) { tmps := ts.setIfInBounds d v, defers := ds } w) : wpAnyH P md ops Q S (fuel + 1) listed { tmps := ts, defers := ds } w :=
  wpAnyH_take hi hs hf hr hQ hy hS (by rw [hd]; exact h)

end Go.Proofs.Ytedopplldpcinaa.Plan
