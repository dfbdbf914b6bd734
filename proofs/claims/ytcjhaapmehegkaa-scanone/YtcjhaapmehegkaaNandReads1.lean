/-
  Layer 5: what is read, by the document; two chips that are the same.
-/
import Derived.Test.YtcjhaapmehegkaaChips
import Derived.Deep.RegionHeld3
namespace Go.Proofs.Ytcjhaapmehegkaa.Nand
open Go.RowKit

def zeroPage : PageT := (false, ⟨#[]⟩, ⟨#[]⟩)
abbrev pageV (p : PageT) : Value := .agg #[.bool p.1, .string p.2.1, .string p.2.2]
def readC (bs : List BlockT) (off : Bool) (b p : Int) : PageT × Int :=
  if off = true then (zeroPage, 52) else if thereB bs b p = true then ((bs.getD b.toNat default).1.getD p.toNat zeroPage, 0) else (zeroPage, 1)

theorem info_page : (Try.prog.info? 27).map (·.size) = some 3 := by kernel_rfl
theorem load_page {w : World} {b : Nat} {a0 a1 a2 : Value} (h : Blk w b 27 #[a0, a1, a2]) : (loadVar 27 ⟨b, 0, none⟩).run Try.prog w = .ok (.agg #[a0, a1, a2]) w :=
  run_loadVar_row w b 27 27 #[a0, a1, a2] (0, 0) _ h Try.underlying27 rfl info_page
theorem ret_page {fn : Func} {p u : Tmp} (h : fn.results = #[.cell p 27, .tmp u]) (tmps : Array Value) (w : World) {b : Nat} {a0 a1 a2 : Value} (hp : tmps.getD p undef = .pointer (some ⟨b, 0, none⟩)) (hb : Blk w b 27 #[a0, a1, a2]) :
    (results fn tmps).run Try.prog w = .ok (.tuple #[.agg #[a0, a1, a2], tmps.getD u undef]) w := by
  rw [results_cell_tmp h, hp]
  simp only [asAddr, Sem.run_pure, Result.andThen_ok, load_page hb]

end Go.Proofs.Ytcjhaapmehegkaa.Nand
