/-
  Layer 8: a table that comes in, with what its numbers may be.
-/
import Derived.Test.YtedopplldpcinaaGreatReplayOpens
import Derived.Test.YtedopplldpcinaaGreatRepLivMath
namespace Go.Proofs.YtedopplldpcinaaGreat.Live
open Go.RowKit Go.ChangeShapes Go.WideShapes Go.ChangeAt Go.Proofs.YtedopplldpcinaaGreat.Scan Go.Proofs.YtedopplldpcinaaGreat.Replay

variable {H : Type} {enc : TypeId × Value → H} {w : World}
theorem open_intRowW {n : Nat} {u : Value} {y : DataW H × List MemPlace} (hf : DataW.trod enc Tryz.prog w 0 (fun _ => true) true n 25 [u] = some y) : ∃ ks, Ints .i64 w u ks ∧ ∀ z ∈ ks, wfZ z := by
  rcases open_ints Tryz.underlying25 Tryz.underlying3 (by kernel_rfl) hf with ⟨hcs, _⟩ | ⟨x, l, c, zs, hcs, _, hl, hm, hz, _, hcell, hwz⟩
  · obtain rfl : u = .slice none 0 0 := by simpa using hcs
    exact ⟨[], Ints.nil _ _ _ _, by simp⟩
  · obtain rfl : u = .slice (some x) l c := by simpa using hcs
    have h := Ints.of_row (k := .i64) (.inr ⟨_, rfl, hl, hm, by simpa using hz, hcell, hwz⟩)
    exact ⟨_, h.1, fun z hz => lit_wfZ (h.2 z hz)⟩
set_option maxRecDepth 100000 in
theorem open_tableW {r : Reach} {b0 : Nat} {v : Value} {d : DataW H} {p : List MemPlace} (hv : Value.okWide Tryz.prog w r b0 27 v) (h : DataW.Trod enc Tryz.prog w 0 (fun _ => true) true 27 v d p) :
    ∃ (t : TableT) (om ob : Option Addr) (cm cb : Nat), v = .agg #[.slice om t.1.length cm, .slice ob t.2.length cb] ∧ Ints .i64 w (.slice om t.1.length cm) t.1 ∧ Ints .i64 w (.slice ob t.2.length cb) t.2 ∧ WfT t := by
  obtain ⟨cs, rfl, hsz⟩ := okWide_struct Tryz.underlying27 hv
  have h2 : Tryz.prog.cellsOf 27 = 2 := by kernel_rfl
  obtain ⟨u0, u1, rfl⟩ := two_of (hsz.trans h2)
  obtain ⟨fuel, hf⟩ := h
  obtain ⟨y0, y1, n, _, _, t0, t1⟩ := trod_struct2 Tryz.underlying27 hf
  have cl1 : Tryz.prog.cellsOf 25 = 1 := by kernel_rfl
  have t0' : DataW.trod enc Tryz.prog w 0 (fun _ => true) true n 25 [u0] = some y0 := by simpa [Value.cells, cl1] using t0
  have t1' : DataW.trod enc Tryz.prog w 0 (fun _ => true) true n 25 [u1] = some y1 := by simpa [Value.cells, cl1] using t1
  obtain ⟨ms, im, wm⟩ := open_intRowW t0'
  obtain ⟨bs, ib, wb⟩ := open_intRowW t1'
  obtain ⟨om, cm, rfl⟩ := im.shape
  obtain ⟨ob, cb, rfl⟩ := ib.shape
  exact ⟨(ms, bs), om, ob, cm, cb, rfl, im, ib, wm, wb⟩
end Go.Proofs.YtedopplldpcinaaGreat.Live
