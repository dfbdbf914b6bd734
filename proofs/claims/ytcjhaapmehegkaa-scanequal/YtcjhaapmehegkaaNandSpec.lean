/-
  Layer 5: what is asked of each function, the program's and the document's alike.
-/
import Derived.Test.YtcjhaapmehegkaaNandErase
import Derived.Test.YtcjhaapmehegkaaChipOpens
namespace Go.Proofs.Ytcjhaapmehegkaa.Nand
open Go.RowKit

/-- a chip, and an error's number, of which what was not there lies behind -/
def ChipRes (S : Nat → Prop) (w : World) (q : ChipT × Int) (e : Ending) (w' : World) : Prop :=
  ∃ v', e = .returned (.tuple #[chipV v' q.1.2.1 q.1.2.2.1 q.1.2.2.2, .int .i64 q.2]) ∧ BlocksAt (fun x => S x ∨ w.heap.size ≤ x) w' v' q.1.1
theorem Few.len {bs : List BlockT} (h : Few bs) : bs.length ≤ maxLen := by have := h.1; unfold maxLen; omega
theorem Few.set {bs : List BlockT} (h : Few bs) (i : Nat) {b : BlockT} (hb : b.1.length ≤ 1000) : Few (bs.set i b) := by
  refine ⟨by simpa using h.1, fun x hx => ?_⟩
  rcases List.mem_or_eq_of_mem_set hx with h' | rfl
  · exact h.2 x h'
  · exact hb
theorem Few.get {bs : List BlockT} (h : Few bs) (i : Nat) : (bs.getD i default).1.length ≤ 1000 := by
  by_cases hi : i < bs.length
  · rw [show bs.getD i default = bs[i] from by simp [hi]]; exact h.2 _ (List.getElem_mem hi)
  · rw [show bs.getD i default = default from by simp [hi]]; show ([] : List PageT).length ≤ 1000; simp
theorem program_few {c : ChipT} (h : Few c.1) (b p : Int) (pg : PageT) (f : FateT) : Few (program c b p pg f).1.1 := by
  unfold program
  split
  · exact h
  · split
    · exact h.set _ (by rw [List.length_set]; exact h.get _)
    · exact h
theorem erase_few {c : ChipT} (h : Few c.1) (b : Int) (f : FateT) : Few (erase c b f).1.1 := by
  unfold erase
  split
  · exact h
  · split
    · split
      · exact h.set _ (h.get _)
      · split
        · exact h.set _ (by rw [wipe_length]; exact h.get _)
        · exact h.set _ (by rw [wipe_length]; exact h.get _)
    · exact h
theorem ChipOut.res {S : Nat → Prop} {w : World} {q : ChipT × Int} {e : Ending} {w' : World} (h : ChipOut w q e w') (hf : Few q.1.1) : ChipRes S w q e w' := by
  obtain ⟨v', he, hO⟩ := h
  exact ⟨v', he, (hO.blocks hf.len).mono fun x hx _ => .inr hx⟩

def ReadSpec (F : Nat) : Prop := ∀ (S : Nat → Prop) (vb : Value) (bs : List BlockT) (br off : Bool) (ops b p : Int) (w : World), BlocksAt S w vb bs →
  Calls Try.prog F #[chipV vb br off ops, .int .i64 b, .int .i64 p] w fun e w' => e = .returned (.tuple #[pageV (readC bs off b p).1, .int .i64 (readC bs off b p).2]) ∧ Mem w w'
def ProgSpec (F : Nat) : Prop := ∀ (S : Nat → Prop) (vb : Value) (bs : List BlockT) (br off : Bool) (ops b p : Int) (pg : PageT) (f : FateT) (w : World), BlocksAt S w vb bs → Few bs →
  Calls Try.prog F #[chipV vb br off ops, .int .i64 b, .int .i64 p, pageV pg, fateV f] w fun e w' => ChipRes S w (program (bs, br, off, ops) b p pg f) e w' ∧ Mem w w'
def EraseSpec (F : Nat) : Prop := ∀ (S : Nat → Prop) (vb : Value) (bs : List BlockT) (br off : Bool) (ops b : Int) (f : FateT) (w : World), BlocksAt S w vb bs → Few bs →
  Calls Try.prog F #[chipV vb br off ops, .int .i64 b, fateV f] w fun e w' => ChipRes S w (erase (bs, br, off, ops) b f) e w' ∧ Mem w w'
def OnSpec (F : Nat) : Prop := ∀ (S : Nat → Prop) (vb : Value) (bs : List BlockT) (br off : Bool) (ops : Int) (w : World), BlocksAt S w vb bs → Few bs →
  Calls Try.prog F #[chipV vb br off ops] w fun e w' => (∃ v', e = .returned (chipV v' br false ops) ∧ BlocksAt (fun x => S x ∨ w.heap.size ≤ x) w' v' bs) ∧ Mem w w'
theorem progSpec_ref : ProgSpec 19 := fun S vb bs br off ops b p pg f w hb hf => (refProgram S vb bs br off ops b p pg f w hb hf).mono fun _ _ h => ⟨h.1.res (program_few (c := (bs, br, off, ops)) hf b p pg f), h.2⟩
theorem eraseSpec_ref : EraseSpec 22 := fun S vb bs br off ops b f w hb hf => (refErase S vb bs br off ops b f w hb hf).mono fun _ _ h => ⟨h.1.res (erase_few (c := (bs, br, off, ops)) hf b f), h.2⟩
theorem blk_second (w : World) (o : Obj) (cs : Array Value) (t : TypeId) : Blk ((w.alloc o).alloc (.cells cs t)) (w.heap.size + 1) t cs := by
  have := Blk.new (w.alloc o) cs t
  rwa [alloc_size] at this

/-! ### Fates by numbers -/
abbrev stepV (s : StepT) : Value := .agg #[.int .u8 s.1, .int .u8 s.2.1, .int .u8 s.2.2.1, .int .u8 s.2.2.2.1, .string s.2.2.2.2.1, .string s.2.2.2.2.2]
def fateK (n : Int) : Int := if n % 8 = 0 then 2 else if n % 8 = 1 then 1 else if n % 8 = 2 then n / 8 - 2 else 0
def fateOf (s : StepT) : FateT := (fateK s.2.2.2.1, s.2.2.2.2.2, s.2.2.2.2.1, s.2.2.1 % 6)
theorem info_fate : (Try.prog.info? 48).map (·.size) = some 4 := by kernel_rfl
theorem ret_fate {fn : Func} {p : Tmp} (h : fn.results = #[.cell p 48]) (tmps : Array Value) (w : World) {b : Nat} {a0 a1 a2 a3 : Value} (hp : tmps.getD p undef = .pointer (some ⟨b, 0, none⟩)) (hb : Blk w b 48 #[a0, a1, a2, a3]) :
    (results fn tmps).run Try.prog w = .ok (.agg #[a0, a1, a2, a3]) w :=
  results_cell_row h tmps w b 48 #[a0, a1, a2, a3] (0, 0) _ hp hb Try.underlying48 rfl info_fate

end Go.Proofs.Ytcjhaapmehegkaa.Nand
