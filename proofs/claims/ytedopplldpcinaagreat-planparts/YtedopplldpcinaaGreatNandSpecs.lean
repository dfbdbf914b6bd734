/-
  ChipOpens, NandSpec, NandLawSame, NandAwake, NandDoneDefs: in one text (merge.json).
-/
import Derived.Test.YtedopplldpcinaaGreatChipMem
import Derived.Test.YtedopplldpcinaaGreatRowOpens
import Derived.Lib.SmallJoins
import Derived.Test.YtedopplldpcinaaGreatNandErase
/-
  Chips and steps that come in: what is read of them.
-/
namespace Go.Proofs.YtedopplldpcinaaGreat.Nand
open Go.RowKit Go.ChangeShapes Go.WideShapes Go.ChangeAt

variable {H : Type} {enc : TypeId × Value → H} {w : World}
theorem open_pages {fuel : Nat} {v : Value} {x : DataW H × List MemPlace} (h : DataW.trod enc Tryz.prog w 0 (fun _ => true) true fuel 29 [v] = some x) : ∃ ps, PagesAt (fun g => g < w.heap.size) w v ps ∧ ∀ p ∈ ps, p.2.1.size ≤ maxLen ∧ p.2.2.size ≤ maxLen := by
  have cb : Tryz.prog.cellsOf 4 = 1 := by kernel_rfl
  have cst : Tryz.prog.cellsOf 9 = 1 := by kernel_rfl
  have cp : Tryz.prog.cellsOf 33 = 3 := by kernel_rfl
  rcases open_row Tryz.underlying29 cp (by decide) h with rfl | ⟨a, len, cap, n, rfl, hl, hg⟩
  · exact ⟨[], ⟨by simp [maxLen], .inl ⟨rfl, _, _, rfl⟩⟩, by simp⟩
  · obtain ⟨ps, hpl, hps⟩ := choose_list (α := PageT) (Q := fun i p => (a = ⟨a.block, a.off, none⟩ ∧ a.block < w.heap.size ∧ w.cell? ⟨a.block, a.off + i * 3, none⟩ = some (.bool p.1) ∧ w.cell? ⟨a.block, a.off + i * 3 + 1, none⟩ = some (.string p.2.1) ∧ w.cell? ⟨a.block, a.off + i * 3 + 2, none⟩ = some (.string p.2.2)) ∧ p.2.1.size ≤ maxLen ∧ p.2.2.size ≤ maxLen) len (by
      intro i hi
      obtain ⟨ha, hlt, cs, y, h1, h2, h3⟩ := hg i hi
      obtain ⟨c0, c1, c2, rfl⟩ : ∃ c0 c1 c2, cs = [c0, c1, c2] := by
        match cs, h1 with
        | [c0, c1, c2], _ => exact ⟨c0, c1, c2, rfl⟩
      obtain ⟨y0, y1, y2, n', _, _, t0, t1, t2⟩ := Go.Deep.trod_struct3 Tryz.underlying33 h3
      have t0' : DataW.trod enc Tryz.prog w 0 (fun _ => true) true n' 4 [c0] = some y0 := by simpa [cb] using t0
      have t1' : DataW.trod enc Tryz.prog w 0 (fun _ => true) true n' 9 [c1] = some y1 := by simpa [cst] using t1
      have t2' : DataW.trod enc Tryz.prog w 0 (fun _ => true) true n' 9 [c2] = some y2 := by simpa [cst] using t2
      obtain ⟨b, e0, _⟩ := DataW.trod_bool Tryz.underlying4 t0'
      obtain ⟨s, e1, _, q1⟩ := DataW.trod_string Tryz.underlying9 t1'
      obtain ⟨s', e2, _, q2⟩ := DataW.trod_string Tryz.underlying9 t2'
      obtain rfl : c0 = .bool b := by simpa using e0
      obtain rfl : c1 = .string s := by simpa using e1
      obtain rfl : c2 = .string s' := by simpa using e2
      exact ⟨(b, s, s'), ⟨ha, hlt, h2 0 (by decide), h2 1 (by decide), h2 2 (by decide)⟩, q1, q2⟩)
    refine ⟨ps, ⟨by omega, ?_⟩, ?_⟩
    · by_cases h0 : ps.length = 0
      · have : ps = [] := List.length_eq_zero_iff.1 h0
        subst this
        simp at hpl
        subst hpl
        exact .inl ⟨rfl, _, _, rfl⟩
      · have hp0 := (hps 0 (by omega)).1
        refine .inr ⟨a.block, a.off, cap, by rw [hpl]; exact congrArg (fun z => Value.slice (some z) len cap) hp0.1, ⟨by omega, by omega⟩, hp0.2.1, fun i hi => (hps i hi).1.2.2⟩
    · intro p hp
      obtain ⟨i, hi, rfl⟩ := List.getElem_of_mem hp
      exact (hps i hi).2
theorem open_blocks {fuel : Nat} {v : Value} {x : DataW H × List MemPlace} (h : DataW.trod enc Tryz.prog w 0 (fun _ => true) true fuel 22 [v] = some x) : ∃ bs, BlocksAt (fun g => g < w.heap.size) w v bs ∧ ∀ b ∈ bs, ∀ p ∈ b.1, p.2.1.size ≤ maxLen ∧ p.2.2.size ≤ maxLen := by
  have cb : Tryz.prog.cellsOf 4 = 1 := by kernel_rfl
  have ci : Tryz.prog.cellsOf 3 = 1 := by kernel_rfl
  have cl : Tryz.prog.cellsOf 29 = 1 := by kernel_rfl
  have cp : Tryz.prog.cellsOf 31 = 4 := by kernel_rfl
  rcases open_row Tryz.underlying22 cp (by decide) h with rfl | ⟨a, len, cap, n, rfl, hl, hg⟩
  · exact ⟨[], ⟨by simp [maxLen], .inl ⟨rfl, _, _, rfl⟩⟩, by simp⟩
  · obtain ⟨bs, hpl, hps⟩ := choose_list (α := BlockT) (Q := fun i b => (a = ⟨a.block, a.off, none⟩ ∧ a.block < w.heap.size ∧ ∃ vp, w.cell? ⟨a.block, a.off + i * 4, none⟩ = some vp ∧ w.cell? ⟨a.block, a.off + i * 4 + 1, none⟩ = some (.int .i64 b.2.1) ∧ w.cell? ⟨a.block, a.off + i * 4 + 2, none⟩ = some (.int .i64 b.2.2.1) ∧ w.cell? ⟨a.block, a.off + i * 4 + 3, none⟩ = some (.bool b.2.2.2) ∧ PagesAt (fun g => g < w.heap.size) w vp b.1) ∧ ∀ p ∈ b.1, p.2.1.size ≤ maxLen ∧ p.2.2.size ≤ maxLen) len (by
      intro i hi
      obtain ⟨ha, hlt, cs, y, h1, h2, h3⟩ := hg i hi
      obtain ⟨c0, c1, c2, c3, rfl⟩ : ∃ c0 c1 c2 c3, cs = [c0, c1, c2, c3] := by
        match cs, h1 with
        | [c0, c1, c2, c3], _ => exact ⟨c0, c1, c2, c3, rfl⟩
      obtain ⟨y0, y1, y2, y3, n', _, _, t0, t1, t2, t3⟩ := Go.Joins.trod_struct4 Tryz.underlying31 h3
      have t0' : DataW.trod enc Tryz.prog w 0 (fun _ => true) true n' 29 [c0] = some y0 := by simpa [cl] using t0
      have t1' : DataW.trod enc Tryz.prog w 0 (fun _ => true) true n' 3 [c1] = some y1 := by simpa [ci] using t1
      have t2' : DataW.trod enc Tryz.prog w 0 (fun _ => true) true n' 3 [c2] = some y2 := by simpa [ci] using t2
      have t3' : DataW.trod enc Tryz.prog w 0 (fun _ => true) true n' 4 [c3] = some y3 := by simpa [cb] using t3
      obtain ⟨ps, hp, hps'⟩ := open_pages t0'
      obtain ⟨k1, e1, _⟩ := DataW.trod_int Tryz.underlying3 t1'
      obtain ⟨k2, e2, _⟩ := DataW.trod_int Tryz.underlying3 t2'
      obtain ⟨b, e3, _⟩ := DataW.trod_bool Tryz.underlying4 t3'
      obtain rfl : c1 = .int .i64 k1 := by simpa using e1
      obtain rfl : c2 = .int .i64 k2 := by simpa using e2
      obtain rfl : c3 = .bool b := by simpa using e3
      exact ⟨(ps, k1, k2, b), ⟨ha, hlt, c0, h2 0 (by decide), h2 1 (by decide), h2 2 (by decide), h2 3 (by decide), hp⟩, hps'⟩)
    refine ⟨bs, ⟨by omega, ?_⟩, ?_⟩
    · by_cases h0 : bs.length = 0
      · have : bs = [] := List.length_eq_zero_iff.1 h0
        subst this
        simp at hpl
        subst hpl
        exact .inl ⟨rfl, _, _, rfl⟩
      · have hp0 := (hps 0 (by omega)).1
        exact .inr ⟨a.block, a.off, cap, by rw [hpl]; exact congrArg (fun z => Value.slice (some z) len cap) hp0.1, ⟨by omega, by omega⟩, hp0.2.1, fun i hi => (hps i hi).1.2.2⟩
    · intro b hb
      obtain ⟨i, hi, rfl⟩ := List.getElem_of_mem hb
      exact (hps i hi).2
set_option maxRecDepth 100000 in
/-- a chip that came in -/
theorem open_chip {r : Reach} {b0 : Nat} {v : Value} {d : DataW H} {p : List MemPlace} (hv : Value.okWide Tryz.prog w r b0 24 v) (h : DataW.Trod enc Tryz.prog w 0 (fun _ => true) true 24 v d p) :
    ∃ vb bs br off ops, v = .agg #[vb, .bool br, .bool off, .int .i64 ops] ∧ BlocksAt (fun g => g < w.heap.size) w vb bs ∧ ∀ b ∈ bs, ∀ p ∈ b.1, p.2.1.size ≤ maxLen ∧ p.2.2.size ≤ maxLen := by
  obtain ⟨u0, u1, u2, u3, y0, y1, y2, y3, n, rfl, _, _, t0, t1, t2, t3⟩ := Go.Joins.open_agg4 Tryz.underlying24 (by kernel_rfl) (by kernel_rfl) hv h
  obtain ⟨bs, hb, hbs⟩ := open_blocks t0
  obtain ⟨br, e1, _⟩ := DataW.trod_bool Tryz.underlying4 t1
  obtain ⟨off, e2, _⟩ := DataW.trod_bool Tryz.underlying4 t2
  obtain ⟨ops, e3, _⟩ := DataW.trod_int Tryz.underlying3 t3
  obtain rfl : u1 = .bool br := by simpa using e1
  obtain rfl : u2 = .bool off := by simpa using e2
  obtain rfl : u3 = .int .i64 ops := by simpa using e3
  exact ⟨u0, bs, br, off, ops, rfl, hb, hbs⟩

/-! ### Steps by numbers -/
/-- Kind, Block, Page, Fate, Data, Tag -/
abbrev StepT := Int × Int × Int × Int × ByteArray × ByteArray
def StepOk (s : StepT) : Prop := (0 ≤ s.1 ∧ s.1 ≤ 255) ∧ (0 ≤ s.2.1 ∧ s.2.1 ≤ 255) ∧ (0 ≤ s.2.2.1 ∧ s.2.2.1 ≤ 255) ∧ (0 ≤ s.2.2.2.1 ∧ s.2.2.2.1 ≤ 255)
def StepsAt (S : Nat → Prop) (w : World) (v : Value) (ss : List StepT) : Prop :=
  ss.length ≤ maxLen ∧ ((ss = [] ∧ ∃ a cap, v = .slice a 0 cap) ∨
    ∃ g off cap, v = .slice (some ⟨g, off, none⟩) ss.length cap ∧ 0 < ss.length ∧ S g ∧
      ∀ i (h : i < ss.length), w.cell? ⟨g, off + i * 6, none⟩ = some (.int .u8 ss[i].1) ∧ w.cell? ⟨g, off + i * 6 + 1, none⟩ = some (.int .u8 ss[i].2.1) ∧ w.cell? ⟨g, off + i * 6 + 2, none⟩ = some (.int .u8 ss[i].2.2.1) ∧ w.cell? ⟨g, off + i * 6 + 3, none⟩ = some (.int .u8 ss[i].2.2.2.1) ∧ w.cell? ⟨g, off + i * 6 + 4, none⟩ = some (.string ss[i].2.2.2.2.1) ∧ w.cell? ⟨g, off + i * 6 + 5, none⟩ = some (.string ss[i].2.2.2.2.2))
theorem StepsAt.kept {S S' : Nat → Prop} {w w' : World} {v : Value} {ss : List StepT} (h : StepsAt S w v ss) (hS : ∀ g, S g → g < w.heap.size → S' g ∧ ∀ off, w'.cell? ⟨g, off, none⟩ = w.cell? ⟨g, off, none⟩) : StepsAt S' w' v ss := by
  refine ⟨h.1, ?_⟩
  rcases h.2 with h | ⟨g, off, cap, hv, h0, hs, hc⟩
  · exact .inl h
  · have hg : g < w.heap.size := World.block_lt_of_cell? w _ (hc 0 h0).1
    obtain ⟨h1, h2⟩ := hS g hs hg
    refine .inr ⟨g, off, cap, hv, h0, h1, fun i hi => ?_⟩
    obtain ⟨c0, c1, c2, c3, c4, c5⟩ := hc i hi
    exact ⟨by rw [h2]; exact c0, by rw [h2]; exact c1, by rw [h2]; exact c2, by rw [h2]; exact c3, by rw [h2]; exact c4, by rw [h2]; exact c5⟩
theorem StepsAt.mem {S : Nat → Prop} {w w' : World} {v : Value} {ss : List StepT} (h : StepsAt S w v ss) (m : Mem w w') : StepsAt S w' v ss :=
  h.kept fun g hg hl => ⟨hg, fun off => Below.cell m (p := ⟨g, off, none⟩) hl⟩
theorem StepsAt.shape {S : Nat → Prop} {w : World} {v : Value} {ss : List StepT} (h : StepsAt S w v ss) : ∃ oa cap, v = .slice oa ss.length cap := by
  rcases h.2 with ⟨rfl, a, cap, rfl⟩ | ⟨g, off, cap, rfl, _⟩
  · exact ⟨a, cap, rfl⟩
  · exact ⟨_, cap, rfl⟩
theorem StepsAt.at {S : Nat → Prop} {w : World} {oa : Option Addr} {n cap : Nat} {ss : List StepT} (h : StepsAt S w (.slice oa n cap) ss) {i : Nat} (hi : i < ss.length) :
    ∃ g off, oa = some ⟨g, off, none⟩ ∧ S g ∧ w.cell? ⟨g, off + i * 6, none⟩ = some (.int .u8 ss[i].1) ∧ w.cell? ⟨g, off + i * 6 + 1, none⟩ = some (.int .u8 ss[i].2.1) ∧ w.cell? ⟨g, off + i * 6 + 2, none⟩ = some (.int .u8 ss[i].2.2.1) ∧ w.cell? ⟨g, off + i * 6 + 3, none⟩ = some (.int .u8 ss[i].2.2.2.1) ∧ w.cell? ⟨g, off + i * 6 + 4, none⟩ = some (.string ss[i].2.2.2.2.1) ∧ w.cell? ⟨g, off + i * 6 + 5, none⟩ = some (.string ss[i].2.2.2.2.2) := by
  rcases h.2 with ⟨rfl, _⟩ | ⟨g, off, cap', hv, _, hs, hc⟩
  · simp at hi
  · injection hv with ha
    exact ⟨g, off, ha, hs, hc i hi⟩
end Go.Proofs.YtedopplldpcinaaGreat.Nand
/-
  Layer 5: what is asked of each function, the program's and the document's alike.
-/
namespace Go.Proofs.YtedopplldpcinaaGreat.Nand
open Go.RowKit

/-- a chip, and an error's number, of which what was not there lies behind -/
def ChipRes (S : Nat → Prop) (w : World) (q : ChipT × Int) (e : Ending) (w' : World) : Prop :=
  ∃ v', e = .returned (.tuple #[chipV v' q.1.2.1 q.1.2.2.1 q.1.2.2.2, .int .i64 q.2]) ∧ BlocksAt (fun x => S x ∨ w.heap.size ≤ x) w' v' q.1.1
theorem Few.len {bs : List BlockT} (h : Few bs) : bs.length ≤ maxLen := by have := h.1; unfold maxLen; omega
theorem Few.set {bs : List BlockT} (h : Few bs) (i : Nat) {b : BlockT} (hb : b.1.length ≤ 1000) : Few (bs.set i b) := by
  refine ⟨by simpa using h.1, fun x hx => ?_⟩
  rcases List.mem_or_eq_of_mem_set hx with h' | rfl
  · exact h.2 x h'
  · exact hb
theorem Few.get {bs : List BlockT} (h : Few bs) (i : Nat) : (bs.getD i default).1.length ≤ 1000 := by
  by_cases hi : i < bs.length
  · rw [show bs.getD i default = bs[i] from by simp [hi]]; exact h.2 _ (List.getElem_mem hi)
  · rw [show bs.getD i default = default from by simp [hi]]; show ([] : List PageT).length ≤ 1000; simp
theorem program_few {c : ChipT} (h : Few c.1) (b p : Int) (pg : PageT) (f : FateT) : Few (program c b p pg f).1.1 := by
  unfold program
  split
  · exact h
  · split
    · exact h.set _ (by rw [List.length_set]; exact h.get _)
    · exact h
theorem erase_few {c : ChipT} (h : Few c.1) (b : Int) (f : FateT) : Few (erase c b f).1.1 := by
  unfold erase
  split
  · exact h
  · split
    · split
      · exact h.set _ (h.get _)
      · split
        · exact h.set _ (by rw [wipe_length]; exact h.get _)
        · exact h.set _ (by rw [wipe_length]; exact h.get _)
    · exact h
theorem ChipOut.res {S : Nat → Prop} {w : World} {q : ChipT × Int} {e : Ending} {w' : World} (h : ChipOut w q e w') (hf : Few q.1.1) : ChipRes S w q e w' := by
  obtain ⟨v', he, hO⟩ := h
  exact ⟨v', he, (hO.blocks hf.len).mono fun x hx _ => .inr hx⟩

def ReadSpec (F : Nat) : Prop := ∀ (S : Nat → Prop) (vb : Value) (bs : List BlockT) (br off : Bool) (ops b p : Int) (w : World), BlocksAt S w vb bs →
  Calls Tryz.prog F #[chipV vb br off ops, .int .i64 b, .int .i64 p] w fun e w' => e = .returned (.tuple #[pageV (readC bs off b p).1, .int .i64 (readC bs off b p).2]) ∧ Mem w w'
def ProgSpec (F : Nat) : Prop := ∀ (S : Nat → Prop) (vb : Value) (bs : List BlockT) (br off : Bool) (ops b p : Int) (pg : PageT) (f : FateT) (w : World), BlocksAt S w vb bs → Few bs →
  Calls Tryz.prog F #[chipV vb br off ops, .int .i64 b, .int .i64 p, pageV pg, fateV f] w fun e w' => ChipRes S w (program (bs, br, off, ops) b p pg f) e w' ∧ Mem w w'
def EraseSpec (F : Nat) : Prop := ∀ (S : Nat → Prop) (vb : Value) (bs : List BlockT) (br off : Bool) (ops b : Int) (f : FateT) (w : World), BlocksAt S w vb bs → Few bs →
  Calls Tryz.prog F #[chipV vb br off ops, .int .i64 b, fateV f] w fun e w' => ChipRes S w (erase (bs, br, off, ops) b f) e w' ∧ Mem w w'
def OnSpec (F : Nat) : Prop := ∀ (S : Nat → Prop) (vb : Value) (bs : List BlockT) (br off : Bool) (ops : Int) (w : World), BlocksAt S w vb bs → Few bs →
  Calls Tryz.prog F #[chipV vb br off ops] w fun e w' => (∃ v', e = .returned (chipV v' br false ops) ∧ BlocksAt (fun x => S x ∨ w.heap.size ≤ x) w' v' bs) ∧ Mem w w'
theorem progSpec_ref : ProgSpec 12 := fun S vb bs br off ops b p pg f w hb hf => (refProgram S vb bs br off ops b p pg f w hb hf).mono fun _ _ h => ⟨h.1.res (program_few (c := (bs, br, off, ops)) hf b p pg f), h.2⟩
theorem eraseSpec_ref : EraseSpec 54 := fun S vb bs br off ops b f w hb hf => (refErase S vb bs br off ops b f w hb hf).mono fun _ _ h => ⟨h.1.res (erase_few (c := (bs, br, off, ops)) hf b f), h.2⟩
theorem blk_second (w : World) (o : Obj) (cs : Array Value) (t : TypeId) : Blk ((w.alloc o).alloc (.cells cs t)) (w.heap.size + 1) t cs := by
  have := Blk.new (w.alloc o) cs t
  rwa [alloc_size] at this

/-! ### Fates by numbers -/
abbrev stepV (s : StepT) : Value := .agg #[.int .u8 s.1, .int .u8 s.2.1, .int .u8 s.2.2.1, .int .u8 s.2.2.2.1, .string s.2.2.2.2.1, .string s.2.2.2.2.2]
def fateK (n : Int) : Int := if n % 8 = 0 then 2 else if n % 8 = 1 then 1 else if n % 8 = 2 then n / 8 - 2 else 0
def fateOf (s : StepT) : FateT := (fateK s.2.2.2.1, s.2.2.2.2.2, s.2.2.2.2.1, s.2.2.1 % 6)
theorem info_fate : (Tryz.prog.info? 52).map (·.size) = some 4 := by kernel_rfl
theorem ret_fate {fn : Func} {p : Tmp} (h : fn.results = #[.cell p 52]) (tmps : Array Value) (w : World) {b : Nat} {a0 a1 a2 a3 : Value} (hp : tmps.getD p undef = .pointer (some ⟨b, 0, none⟩)) (hb : Blk w b 52 #[a0, a1, a2, a3]) :
    (results fn tmps).run Tryz.prog w = .ok (.agg #[a0, a1, a2, a3]) w :=
  results_cell_row h tmps w b 52 #[a0, a1, a2, a3] (0, 0) _ hp hb Tryz.underlying52 rfl info_fate

end Go.Proofs.YtedopplldpcinaaGreat.Nand
/-
  Layer 5: what is done to a chip is what the document says.
-/
namespace Go.Proofs.YtedopplldpcinaaGreat.Nand
open Go.RowKit

end Go.Proofs.YtedopplldpcinaaGreat.Nand
/-
  Layer 5: what any right program answers.
-/
namespace Go.Proofs.YtedopplldpcinaaGreat.Nand
open Go.RowKit

def newC (n m : Int) (bad : List Int) : ChipT × Int :=
  if 1 ≤ n ∧ n ≤ 32 ∧ 1 ≤ m ∧ m ≤ 16 ∧ ∀ b ∈ bad, 0 ≤ b ∧ b < n then (((List.range n.toNat).map fun (i : Nat) => (List.replicate m.toNat zeroPage, (0 : Int), (0 : Int), decide ((i : Int) ∈ bad)), false, false, 0), 0)
  else (([], false, false, 0), 1)
def NewSpec (F : Nat) : Prop := ∀ (n m : Int) (vl : Value) (bad : List Int) (w : World), Ints .i64 w vl bad → bad.length ≤ 1000 →
  Calls Tryz.prog F #[.int .i64 n, .int .i64 m, vl] w fun e w' => (∃ v', e = .returned (.tuple #[chipV v' (newC n m bad).1.2.1 (newC n m bad).1.2.2.1 (newC n m bad).1.2.2.2, .int .i64 (newC n m bad).2]) ∧ BlocksAt (fun x => w.heap.size ≤ x) w' v' (newC n m bad).1.1) ∧ Mem w w'

def z4 : List PageT := [zeroPage, zeroPage, zeroPage, zeroPage]
def aw1 : List BlockT := [(z4, 0, 0, false), (z4, 0, 0, true)]
def aw2 : List BlockT := [([(true, ⟨#[120]⟩, ⟨#[121]⟩), zeroPage, zeroPage, zeroPage], 1, 0, false), (z4, 0, 0, true)]
def aw3 : List BlockT := [(z4, 0, 1, false), (z4, 0, 0, true)]
theorem aw_new : newC 2 4 [1] = ((aw1, false, false, 0), 0) := by kernel_rfl
theorem aw_none : newC 0 1 [] = (([], false, false, 0), 1) := by kernel_rfl
theorem aw_prog : program (aw1, false, false, 0) 0 0 (false, ⟨#[120]⟩, ⟨#[121]⟩) (0, ⟨#[]⟩, ⟨#[]⟩, 0) = ((aw2, false, false, 1), 0) := by kernel_rfl
theorem aw_read : readC aw2 false 0 0 = ((true, ⟨#[120]⟩, ⟨#[121]⟩), 0) := by kernel_rfl
theorem aw_bad : program (aw1, false, false, 0) 1 0 (false, ⟨#[]⟩, ⟨#[]⟩) (0, ⟨#[]⟩, ⟨#[]⟩, 0) = ((aw1, true, false, 0), 1) := by kernel_rfl
theorem aw_erase : erase (aw2, false, false, 1) 0 (0, ⟨#[]⟩, ⟨#[]⟩, 0) = ((aw3, false, false, 2), 0) := by kernel_rfl
theorem aw_few1 : Few aw1 := ⟨by decide, by intro b hb; simp [aw1, z4] at hb; rcases hb with rfl | rfl <;> decide⟩
theorem aw_few2 : Few aw2 := ⟨by decide, by intro b hb; simp [aw2, z4] at hb; rcases hb with rfl | rfl <;> decide⟩
end Go.Proofs.YtedopplldpcinaaGreat.Nand
/-
  Layer 5: a chip behind a step by the document: what it is.
-/
namespace Go.Proofs.YtedopplldpcinaaGreat.Nand
open Go.RowKit

def doneP (bs : List BlockT) (s : StepT) : Int := if s.2.1 % 5 < bs.length ∧ s.2.2.1 < 220 then (bs.getD (s.2.1 % 5).toNat default).2.1 else s.2.2.1 % 6
def doneC (c : ChipT) (s : StepT) : ChipT × Int :=
  if s.1 % 4 = 0 then erase c (s.2.1 % 5) (fateOf s) else program c (s.2.1 % 5) (doneP c.1 s) (false, s.2.2.2.2.1, s.2.2.2.2.2) (fateOf s)
def turnOn (c : ChipT) : ChipT := (c.1, c.2.1, false, c.2.2.2)
def doneR (c : ChipT) (s : StepT) : ChipT := if s.1 % 3 = 0 then turnOn (doneC c s).1 else (doneC c s).1
theorem done_few {c : ChipT} (h : Few c.1) (s : StepT) : Few (doneR c s).1 := by
  have h1 : Few (doneC c s).1.1 := by
    unfold doneC
    split
    · exact erase_few h _ _
    · exact program_few h _ _ _ _
  unfold doneR
  split
  · exact h1
  · exact h1
end Go.Proofs.YtedopplldpcinaaGreat.Nand
