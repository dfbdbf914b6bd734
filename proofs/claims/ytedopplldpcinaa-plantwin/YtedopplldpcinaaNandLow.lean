/-
  NandReads1, NandSame, NandOwn, NandOns, ChipSets: in one text (merge.json).
-/
import Derived.Test.YtedopplldpcinaaChipMem
import Derived.Deep.RegionHeld3
import Derived.Deep.QuietTactic
import Derived.BigQuiet
/-
  Layer 5: what is read, by the document; two chips that are the same.
-/
namespace Go.Proofs.Ytedopplldpcinaa.Nand
open Go.RowKit

def zeroPage : PageT := (false, ⟨#[]⟩, ⟨#[]⟩)
abbrev pageV (p : PageT) : Value := .agg #[.bool p.1, .string p.2.1, .string p.2.2]
def readC (bs : List BlockT) (off : Bool) (b p : Int) : PageT × Int :=
  if off = true then (zeroPage, 52) else if thereB bs b p = true then ((bs.getD b.toNat default).1.getD p.toNat zeroPage, 0) else (zeroPage, 1)

theorem info_page : (Try.prog.info? 36).map (·.size) = some 3 := by kernel_rfl
theorem load_page {w : World} {b : Nat} {a0 a1 a2 : Value} (h : Blk w b 36 #[a0, a1, a2]) : (loadVar 36 ⟨b, 0, none⟩).run Try.prog w = .ok (.agg #[a0, a1, a2]) w :=
  run_loadVar_row w b 36 36 #[a0, a1, a2] (0, 0) _ h Try.underlying36 rfl info_page
theorem ret_page {fn : Func} {p u : Tmp} (h : fn.results = #[.cell p 36, .tmp u]) (tmps : Array Value) (w : World) {b : Nat} {a0 a1 a2 : Value} (hp : tmps.getD p undef = .pointer (some ⟨b, 0, none⟩)) (hb : Blk w b 36 #[a0, a1, a2]) :
    (results fn tmps).run Try.prog w = .ok (.tuple #[.agg #[a0, a1, a2], tmps.getD u undef]) w := by
  rw [results_cell_tmp h, hp]
  simp only [asAddr, Sem.run_pure, Result.andThen_ok, load_page hb]

end Go.Proofs.Ytedopplldpcinaa.Nand
/-
  Layer 5: two chips that are the same.
-/
namespace Go.Proofs.Ytedopplldpcinaa.Nand
open Go.RowKit

end Go.Proofs.Ytedopplldpcinaa.Nand
/-
  Layer 5: a chip in memory of its own, by the document; and what leans on it alone.
-/
namespace Go.Proofs.Ytedopplldpcinaa.Nand
open Go.RowKit

abbrev chipV (vb : Value) (br off : Bool) (ops : Int) : Value := .agg #[vb, .bool br, .bool off, .int .i64 ops]
/-- as many blocks, and pages in each, as a statement lets be -/
def Few (bs : List BlockT) : Prop := bs.length ≤ 1000 ∧ ∀ b ∈ bs, b.1.length ≤ 1000
theorem info_chip : (Try.prog.info? 26).map (·.size) = some 4 := by kernel_rfl
theorem load_chip {w : World} {b : Nat} {a0 a1 a2 a3 : Value} (h : Blk w b 26 #[a0, a1, a2, a3]) : (loadVar 26 ⟨b, 0, none⟩).run Try.prog w = .ok (.agg #[a0, a1, a2, a3]) w :=
  run_loadVar_row w b 26 26 #[a0, a1, a2, a3] (0, 0) _ h Try.underlying26 rfl info_chip
theorem ret_chip {fn : Func} {p u : Tmp} (h : fn.results = #[.cell p 26, .tmp u]) (tmps : Array Value) (w : World) {b : Nat} {a0 a1 a2 a3 : Value} (hp : tmps.getD p undef = .pointer (some ⟨b, 0, none⟩)) (hb : Blk w b 26 #[a0, a1, a2, a3]) :
    (results fn tmps).run Try.prog w = .ok (.tuple #[.agg #[a0, a1, a2, a3], tmps.getD u undef]) w := by
  rw [results_cell_tmp h, hp]
  simp only [asAddr, Sem.run_pure, Result.andThen_ok, load_chip hb]
theorem ret_chip1 {fn : Func} {p : Tmp} (h : fn.results = #[.cell p 26]) (tmps : Array Value) (w : World) {b : Nat} {a0 a1 a2 a3 : Value} (hp : tmps.getD p undef = .pointer (some ⟨b, 0, none⟩)) (hb : Blk w b 26 #[a0, a1, a2, a3]) :
    (results fn tmps).run Try.prog w = .ok (.agg #[a0, a1, a2, a3]) w :=
  results_cell_row h tmps w b 26 #[a0, a1, a2, a3] (0, 0) _ hp hb Try.underlying26 rfl info_chip

theorem ownsShape {w : World} {base : Nat} {e : TypeId} {size : Nat} {v : Value} {n : Nat} {xs : List Value} (h : w.ownsRow base e size v n xs) : ∃ oa cap, v = .slice oa n cap := by
  rcases h.2 with ⟨rfl, h0⟩ | ⟨g, cap, cur, rfl, _⟩
  · subst h0; exact ⟨_, _, rfl⟩
  · exact ⟨_, _, rfl⟩

set_option maxHeartbeats 2000000 in
set_option maxRecDepth 100000 in
theorem refOwn (S : Nat → Prop) (vb : Value) (bs : List BlockT) (br off : Bool) (ops : Int) (w : World) (hb : BlocksAt S w vb bs) (hf : Few bs) :
    Calls Try.prog 31 #[chipV vb br off ops] w fun e w' => (∃ v', e = .returned (chipV v' br off ops) ∧ OwnB (w.heap.size + 2) w' v' bs) ∧ Mem w w' := by
  obtain ⟨oa, ca, rfl⟩ := hb.shape
  have hsz : (w.alloc (.cells #[.slice oa bs.length ca, .bool br, .bool off, .int .i64 ops] 26)).heap.size = w.heap.size + 1 := by simp
  have hsz2 : ((w.alloc (.cells #[.slice oa bs.length ca, .bool br, .bool off, .int .i64 ops] 26)).alloc (.cells #[.slice none 0 0, .bool false, .bool false, .int .i64 0] 26)).heap.size = w.heap.size + 2 := by simp
  have hm : Mem w ((w.alloc (.cells #[.slice oa bs.length ca, .bool br, .bool off, .int .i64 ops] 26)).alloc (.cells #[.slice none 0 0, .bool false, .bool false, .int .i64 0] 26)) := ((Mem.refl w).alloc _).alloc _
  have hC : Blk ((w.alloc (.cells #[.slice oa bs.length ca, .bool br, .bool off, .int .i64 ops] 26)).alloc (.cells #[.slice none 0 0, .bool false, .bool false, .int .i64 0] 26)) w.heap.size 26 #[.slice oa bs.length ca, .bool br, .bool off, .int .i64 ops] := (Blk.new w _ _).alloc _
  have hR : Blk ((w.alloc (.cells #[.slice oa bs.length ca, .bool br, .bool off, .int .i64 ops] 26)).alloc (.cells #[.slice none 0 0, .bool false, .bool false, .int .i64 0] 26)) (w.heap.size + 1) 26 #[.slice none 0 0, .bool false, .bool false, .int .i64 0] := by
    have := Blk.new (w.alloc (.cells #[.slice oa bs.length ca, .bool br, .bool off, .int .i64 ops] 26)) #[.slice none 0 0, .bool false, .bool false, .int .i64 0] 26
    rwa [hsz] at this
  clear hsz
  replace hb := hb.mem hm
  obtain ⟨hf1, hf2⟩ := hf
  have HF := hide hf2
  clear hf2
  go_enter Try.func31, Try.ntmps31
  go_wp2_with fail
  generalize hW0 : (w.alloc (.cells #[.slice oa bs.length ca, .bool br, .bool off, .int .i64 ops] 26)).alloc (.cells #[.slice none 0 0, .bool false, .bool false, .int .i64 0] 26) = W0 at *
  have HS2 := hide hsz2
  clear hW0 hsz2
  go_loopw [3, 4] (fun l i wr => ∃ k : Nat, k ≤ bs.length ∧ i = .int .i64 k ∧ Owning bs W0.heap.size wr.heap.size wr l k ∧ Mem W0 wr) (fun _ i _ => bs.length - (intOf i).toNat)
  case atStart => exact ⟨0, Nat.zero_le _, rfl, Owning.start bs W0, Mem.refl _⟩
  case round =>
    obtain ⟨k, hk, rfl, hown, hmr⟩ := hrel
    have hC1 := hC.mem hmr
    have c0 := hC1.cell (j := 0) rfl
    by_cases hlt : k < bs.length
    · have hlt' : (k : Int) < (bs.length : Int) := by omega
      have hk0 : (0 : Int) ≤ (k : Int) := by omega
      obtain ⟨ga, fa, pa, qa, rfl, _, x0, x1, x2, x3, hpa⟩ := (hb.mem hmr).at hlt
      have hpl : bs[k].1.length ≤ 1000 := HF.out _ (List.getElem_mem hlt)
      have HBK : Hid (bs[k] = bs[k]) := rfl
      generalize hbk : bs[k] = bk at x0 x1 x2 x3 hpa hpl
      have HK := hide hbk
      clear hbk HBK
      obtain ⟨ps, nx, er, bd⟩ := bk
      simp only [] at x0 x1 x2 x3 hpa hpl
      have hA := Blk.new wr #[.slice pa ps.length qa, .int .i64 nx, .int .i64 er, .bool bd] 60
      have n1 : Mem wr (wr.alloc (.cells #[.slice pa ps.length qa, .int .i64 nx, .int .i64 er, .bool bd] 60)) := (Mem.refl wr).alloc _
      cases pa with
      | none =>
        have hps : ps = [] := by
          rcases hpa.2 with ⟨h, _⟩ | ⟨g, off, cap, h, _⟩
          · exact h
          · cases h
        subst hps
        have m2 : Mem wr (wr.alloc (.cells #[.slice none 0 0, .int .i64 nx, .int .i64 er, .bool bd] 60)) := (Mem.refl wr).alloc _
        obtain ⟨vs, R, hV⟩ := hown
        have hV2 := hV.mem m2
        have hle := Nat.le_trans hV2.2.2.1 hV2.2.1
        have hvl : vs.length = (bs.take k).length := by rw [hV2.1, List.length_take]; omega
        have hk1 : k ≤ 1000 := by omega
        go_wp2_with (first | (at_builtin; refine pushBlock rfl _ _ rfl W0.heap.size _ vs (bs.take k) hvl k rfl hV2.2.2.2.1 hle none 0 0 ([], nx, er, bd) _ (by simp) rfl hk1 ?_) | fail)
        intro l' w'' g1 g2 g3
        rw [← HK.out] at g1
        have hp3 : PagesAt (fun x => (Value.slice none 0 0).ownBlock = some x) (wr.alloc (.cells #[.slice none 0 0, .int .i64 nx, .int .i64 er, .bool bd] 60)) (.slice none 0 0) bs[k].1 := by rw [HK.out]; exact ⟨by simp [maxLen], .inl ⟨rfl, _, _, rfl⟩⟩
        have hO := hV2.push hlt hp3 (fun x hx => by simp [Value.ownBlock] at hx) g1 g2 (by simp) g3
        have m3 : Mem W0 w'' := Below.grown (hmr.trans m2) g2 (Nat.le_trans hmr.size m2.size) (fun x hx => (hV2.2.2.2.1.lt x hx).1)
        clear x0 x1 x2 x3 c0 g1 g2 g3 hV2 hp3
        go_wp2_with fail
        go_roundw
        case rel => exact ⟨k + 1, by omega, by go_num, hO, m3⟩
        case measure => simp [intOf]; omega
      | some ad =>
        go_wp2_with (first | (at_builtin; refine copyPages rfl _ _ rfl rfl rfl (hpa.mem n1) hpl ?_) | fail)
        intro v' w' h1 h2
        have hp1 := PagesAt.of_owns h1
        have hA1 := hA.mem h2
        have f0 := hA1.frozen 0
        have a0 := hA1.cell (j := 0) rfl
        have hP0 : ∀ x, v'.ownBlock = some x → wr.heap.size + 1 ≤ x ∧ x < w'.heap.size ∧ Soft w' x := fun x hx => ⟨(h1.lt x hx).1, (h1.lt x hx).2, Soft.of_owns h1 hx⟩
        obtain ⟨op, cp, rfl⟩ := ownsShape h1
        have hA2 : Blk (w'.setCell ⟨wr.heap.size, 0, none⟩ (.slice op ps.length cp)) wr.heap.size 60 #[.slice op ps.length cp, .int .i64 nx, .int .i64 er, .bool bd] := hA1.set 0 _
        have y0 := hA2.cell (j := 0) rfl
        have y1 := hA2.cell (j := 1) rfl
        have y2 := hA2.cell (j := 2) rfl
        have y3 := hA2.cell (j := 3) rfl
        have m2 : Mem wr (w'.setCell ⟨wr.heap.size, 0, none⟩ (.slice op ps.length cp)) := (n1.trans h2).setCell (p := ⟨wr.heap.size, 0, none⟩) (Nat.le_refl _) _
        obtain ⟨vs, R, hV⟩ := hown
        have hV2 := hV.mem m2
        have hp2 := hp1.setCell (p := ⟨wr.heap.size, 0, none⟩) (fun hx => by have h : wr.heap.size + 1 ≤ wr.heap.size := (hP0 _ hx).1; omega) (.slice op ps.length cp)
        have hP2 : ∀ x, (Value.slice op ps.length cp).ownBlock = some x → wr.heap.size ≤ x ∧ x < (w'.setCell ⟨wr.heap.size, 0, none⟩ (.slice op ps.length cp)).heap.size ∧ Soft (w'.setCell ⟨wr.heap.size, 0, none⟩ (.slice op ps.length cp)) x := fun x hx => by
          obtain ⟨a, b, c⟩ := hP0 x hx
          exact ⟨by omega, by rw [size_setCell]; exact b, c.setCell _ _⟩
        have hle := Nat.le_trans hV2.2.2.1 hV2.2.1
        have hvl : vs.length = (bs.take k).length := by rw [hV2.1, List.length_take]; omega
        have hk1 : k ≤ 1000 := by omega
        clear hP0 hp1 h1 hA hA1
        go_wp2_with (first | (at_builtin; refine pushBlock rfl _ _ rfl W0.heap.size _ vs (bs.take k) hvl k rfl hV2.2.2.2.1 hle op ps.length cp (ps, nx, er, bd) _ (by simp) rfl hk1 ?_) | fail)
        intro l' w'' g1 g2 g3
        rw [← HK.out] at g1
        have hp3 : PagesAt (fun x => (Value.slice op ps.length cp).ownBlock = some x) (w'.setCell ⟨wr.heap.size, 0, none⟩ (.slice op ps.length cp)) (.slice op ps.length cp) bs[k].1 := by rw [HK.out]; exact hp2
        have hO := hV2.push hlt hp3 hP2 g1 g2 (by simp) g3
        have m3 : Mem W0 w'' := Below.grown (hmr.trans m2) g2 (Nat.le_trans hmr.size m2.size) (fun x hx => (hV2.2.2.2.1.lt x hx).1)
        clear y0 y1 y2 y3 f0 a0 hA2 x0 x1 x2 x3 c0 g1 g2 g3 hV2 hp3 hP2 hp2 h2
        go_wp2_with fail
        go_roundw
        case rel => exact ⟨k + 1, by omega, by go_num, hO, m3⟩
        case measure => simp [intOf]; omega
    · have hke : k = bs.length := by omega
      subst hke
      have hR1 := hR.mem hmr
      have hOB := hown.whole
      obtain ⟨vs, R, hV⟩ := hown
      obtain ⟨ol, cl, rfl⟩ := ownsShape hV.2.2.2.1
      clear hV
      have hC2 : Blk (wr.setCell ⟨w.heap.size, 0, none⟩ (.slice ol bs.length cl)) w.heap.size 26 #[.slice ol bs.length cl, .bool br, .bool off, .int .i64 ops] := hC1.set 0 _
      have hR2 := hR1.other (a := ⟨w.heap.size, 0, none⟩) (by show w.heap.size + 1 ≠ w.heap.size; omega) (.slice ol bs.length cl)
      have fc := hC1.frozen 0
      have y0 := hC2.cell (j := 0) rfl
      have y1 := hC2.cell (j := 1) rfl
      have y2 := hC2.cell (j := 2) rfl
      have y3 := hC2.cell (j := 3) rfl
      have z0 := hR2.cell (j := 0) rfl
      have z1 := hR2.cell (j := 1) rfl
      have z2 := hR2.cell (j := 2) rfl
      have z3 := hR2.cell (j := 3) rfl
      have f0 := hR2.frozen 0
      have f1 := hR2.frozen 1
      have f2 := hR2.frozen 2
      have f3 := hR2.frozen 3
      go_wp2_with fail
      have hb2 : w.heap.size + 2 ≤ W0.heap.size := by rw [HS2.out]; omega
      have hOB2 : OwnB (w.heap.size + 2) wr (.slice ol bs.length cl) bs := hOB.base hb2
      refine bodyPost_ret (ret_chip1 rfl _ _ rfl (hR2.put4 _ _ _ _)) rfl ⟨⟨_, rfl, ?_⟩, ?_⟩
      · exact ((((hOB2.setCell (p := ⟨w.heap.size, 0, none⟩) (by show w.heap.size < _; omega) _).setCell (p := ⟨w.heap.size + 1, 0, none⟩) (by show w.heap.size + 1 < _; omega) _).setCell (p := ⟨w.heap.size + 1, 1, none⟩) (by show w.heap.size + 1 < _; omega) _).setCell (p := ⟨w.heap.size + 1, 2, none⟩) (by show w.heap.size + 1 < _; omega) _).setCell (p := ⟨w.heap.size + 1, 3, none⟩) (by show w.heap.size + 1 < _; omega) _
      · exact (((hm.trans hmr).setCell (p := ⟨w.heap.size, 0, none⟩) (Nat.le_refl _) _).put4 (by omega) _ _ _ _)
end Go.Proofs.Ytedopplldpcinaa.Nand
/-
  Layer 5: On and broken, by the document.
-/
namespace Go.Proofs.Ytedopplldpcinaa.Nand
open Go.RowKit

set_option maxHeartbeats 1000000 in
set_option maxRecDepth 100000 in
theorem refBroken (S : Nat → Prop) (vb : Value) (bs : List BlockT) (br off : Bool) (ops : Int) (w : World) (hb : BlocksAt S w vb bs) (hf : Few bs) :
    Calls Try.prog 45 #[chipV vb br off ops] w fun e w' => (∃ v', e = .returned (.tuple #[chipV v' true off ops, .int .i64 1]) ∧ OwnB w.heap.size w' v' bs) ∧ Mem w w' := by
  obtain ⟨oa, ca, rfl⟩ := hb.shape
  have hsz : (w.alloc (.cells #[.slice oa bs.length ca, .bool br, .bool off, .int .i64 ops] 26)).heap.size = w.heap.size + 1 := by simp
  have hm : Mem w ((w.alloc (.cells #[.slice oa bs.length ca, .bool br, .bool off, .int .i64 ops] 26)).alloc (.cells #[.slice none 0 0, .bool false, .bool false, .int .i64 0] 26)) := ((Mem.refl w).alloc _).alloc _
  have hR : Blk ((w.alloc (.cells #[.slice oa bs.length ca, .bool br, .bool off, .int .i64 ops] 26)).alloc (.cells #[.slice none 0 0, .bool false, .bool false, .int .i64 0] 26)) (w.heap.size + 1) 26 #[.slice none 0 0, .bool false, .bool false, .int .i64 0] := by
    have := Blk.new (w.alloc (.cells #[.slice oa bs.length ca, .bool br, .bool off, .int .i64 ops] 26)) #[.slice none 0 0, .bool false, .bool false, .int .i64 0] 26
    rwa [hsz] at this
  clear hsz
  replace hb := hb.mem hm
  go_enter Try.func45, Try.ntmps45
  go_wp2_with fail
  generalize hW0 : (w.alloc (.cells #[.slice oa bs.length ca, .bool br, .bool off, .int .i64 ops] 26)).alloc (.cells #[.slice none 0 0, .bool false, .bool false, .int .i64 0] 26) = W0 at *
  clear hW0
  have hlt := hR.lt
  refine (refOwn S _ bs br off ops _ hb hf).mono ?_
  rintro e w1 ⟨⟨v', rfl, hO⟩, m1⟩
  obtain ⟨ol, cl, rfl⟩ := hO.shape
  have ha : Mem w1 (w1.alloc (.cells #[.slice ol bs.length cl, .bool true, .bool off, .int .i64 ops] 26)) := (Mem.refl w1).alloc _
  have hX := Blk.new w1 #[.slice ol bs.length cl, .bool true, .bool off, .int .i64 ops] 26
  have hR2 := hR.mem (m1.trans ha)
  have hO2 := hO.mem ha
  have hm2 := hm.trans (m1.trans ha)
  have z0 := hR2.cell (j := 0) rfl
  have z1 := hR2.cell (j := 1) rfl
  have z2 := hR2.cell (j := 2) rfl
  have z3 := hR2.cell (j := 3) rfl
  have f0 := hR2.frozen 0
  have f1 := hR2.frozen 1
  have f2 := hR2.frozen 2
  have f3 := hR2.frozen 3
  go_wp2_with fail
  refine bodyPost_ret (ret_chip rfl _ _ rfl (hR2.put4 _ _ _ _)) rfl ⟨⟨_, rfl, ?_⟩, hm2.put4 (by omega) _ _ _ _⟩
  exact (((((hO2.setCell (p := ⟨w.heap.size + 1, 0, none⟩) (by show w.heap.size + 1 < _; omega) _).setCell (p := ⟨w.heap.size + 1, 1, none⟩) (by show w.heap.size + 1 < _; omega) _).setCell (p := ⟨w.heap.size + 1, 2, none⟩) (by show w.heap.size + 1 < _; omega) _).setCell (p := ⟨w.heap.size + 1, 3, none⟩) (by show w.heap.size + 1 < _; omega) _)).base (by omega)
end Go.Proofs.Ytedopplldpcinaa.Nand
/-
  What is set in blocks that a call owns, step by step.
-/
namespace Go.Proofs.Ytedopplldpcinaa.Nand
open Go.RowKit

def Own1 (base : Nat) (w : World) (g : Nat) (R : Nat → Nat → Prop) (bs : List BlockT) : Prop :=
  base ≤ g ∧ RowsAt w g R bs ∧ (∀ i x, R i x → base ≤ x ∧ x < w.heap.size ∧ Soft w x) ∧ ∀ i j x, R i x → R j x → i = j
theorem OwnB.one {base : Nat} {w : World} {v : Value} {bs : List BlockT} (h : OwnB base w v bs) {i : Nat} (hi : i < bs.length) : ∃ g cap R, v = .slice (some ⟨g, 0, none⟩) bs.length cap ∧ bs.length ≤ cap ∧ Own1 base w g R bs := by
  rcases h with ⟨rfl, _⟩ | ⟨g, cap, R, hv, h⟩
  · simp at hi
  · exact ⟨g, cap, R, hv, h⟩
theorem Own1.whole {base : Nat} {w : World} {g : Nat} {R : Nat → Nat → Prop} {bs : List BlockT} (h : Own1 base w g R bs) (n cap : Nat) (hn : n = bs.length) (hc : n ≤ cap) : OwnB base w (.slice (some ⟨g, 0, none⟩) n cap) bs := by
  subst hn; exact .inr ⟨g, cap, R, rfl, hc, h⟩
theorem Own1.mem {base : Nat} {w w' : World} {g : Nat} {R : Nat → Nat → Prop} {bs : List BlockT} (h : Own1 base w g R bs) (m : Mem w w') : Own1 base w' g R bs := by
  obtain ⟨hg, hr, hR, hi⟩ := h
  exact ⟨hg, hr.mem m, fun i y hy => ⟨(hR i y hy).1, Nat.lt_of_lt_of_le (hR i y hy).2.1 m.size, (hR i y hy).2.2.mem m (hR i y hy).2.1⟩, hi⟩
theorem Own1.other {base : Nat} {w : World} {g : Nat} {R : Nat → Nat → Prop} {bs : List BlockT} (h : Own1 base w g R bs) {p : Addr} (hp : p.block ≠ g) (hp' : ∀ i, ¬ R i p.block) (x : Value) : Own1 base (w.setCell p x) g R bs := by
  obtain ⟨hg, hr, hR, hi⟩ := h
  exact ⟨hg, hr.other hp hp' x, fun i y hy => ⟨(hR i y hy).1, by rw [size_setCell]; exact (hR i y hy).2.1, (hR i y hy).2.2.setCell _ _⟩, hi⟩
theorem Own1.below {base : Nat} {w : World} {g : Nat} {R : Nat → Nat → Prop} {bs : List BlockT} (h : Own1 base w g R bs) {p : Addr} (hp : p.block < base) (x : Value) : Own1 base (w.setCell p x) g R bs :=
  h.other (by have := h.1; omega) (fun i hx => by have := (h.2.2.1 i _ hx).1; omega) x
theorem Own1.drew {base : Nat} {w : World} {g : Nat} {R : Nat → Nat → Prop} {bs : List BlockT} (h : Own1 base w g R bs) : Own1 base w.drew g R bs := h.mem (Mem.refl w).drew
theorem get_lt {bs : List BlockT} {i : Nat} {b : BlockT} (hb : bs[i]? = some b) : ∃ h : i < bs.length, bs[i] = b := List.getElem?_eq_some_iff.1 hb
theorem Own1.field {base : Nat} {w : World} {g : Nat} {R : Nat → Nat → Prop} {bs : List BlockT} (h : Own1 base w g R bs) {i : Nat} {b b' : BlockT} (hb : bs[i]? = some b) (h1 : b'.1 = b.1) (k : Nat) (x : Value)
    (hk : (k = 1 ∧ x = .int .i64 b'.2.1 ∧ b'.2.2.1 = b.2.2.1 ∧ b'.2.2.2 = b.2.2.2) ∨ (k = 2 ∧ x = .int .i64 b'.2.2.1 ∧ b'.2.1 = b.2.1 ∧ b'.2.2.2 = b.2.2.2) ∨ (k = 3 ∧ x = .bool b'.2.2.2 ∧ b'.2.1 = b.2.1 ∧ b'.2.2.1 = b.2.2.1)) :
    Own1 base (w.setCell ⟨g, i * 4 + k, none⟩ x) g R (bs.set i b') := by
  obtain ⟨hi, rfl⟩ := get_lt hb
  obtain ⟨hg, hr, hR, hj⟩ := h
  exact ⟨hg, hr.field hi b' h1 k x hk, fun i y hy => ⟨(hR i y hy).1, by rw [size_setCell]; exact (hR i y hy).2.1, (hR i y hy).2.2.setCell _ _⟩, hj⟩
theorem Own1.next {base : Nat} {w : World} {g : Nat} {R : Nat → Nat → Prop} {bs : List BlockT} (h : Own1 base w g R bs) {i : Nat} {ps : List PageT} {nx er : Int} {bd : Bool} (hb : bs[i]? = some (ps, nx, er, bd)) (n : Int) : Own1 base (w.setCell ⟨g, i * 4 + 1, none⟩ (.int .i64 n)) g R (bs.set i (ps, n, er, bd)) :=
  h.field (b' := (ps, n, er, bd)) hb rfl 1 _ (.inl ⟨rfl, rfl, rfl, rfl⟩)
theorem Own1.erases {base : Nat} {w : World} {g : Nat} {R : Nat → Nat → Prop} {bs : List BlockT} (h : Own1 base w g R bs) {i : Nat} {ps : List PageT} {nx er : Int} {bd : Bool} (hb : bs[i]? = some (ps, nx, er, bd)) (n : Int) : Own1 base (w.setCell ⟨g, i * 4 + 2, none⟩ (.int .i64 n)) g R (bs.set i (ps, nx, n, bd)) :=
  h.field (b' := (ps, nx, n, bd)) hb rfl 2 _ (.inr (.inl ⟨rfl, rfl, rfl, rfl⟩))
theorem Own1.bad {base : Nat} {w : World} {g : Nat} {R : Nat → Nat → Prop} {bs : List BlockT} (h : Own1 base w g R bs) {i : Nat} {ps : List PageT} {nx er : Int} {bd : Bool} (hb : bs[i]? = some (ps, nx, er, bd)) (n : Bool) : Own1 base (w.setCell ⟨g, i * 4 + 3, none⟩ (.bool n)) g R (bs.set i (ps, nx, er, n)) :=
  h.field (b' := (ps, nx, er, n)) hb rfl 3 _ (.inr (.inr ⟨rfl, rfl, rfl, rfl⟩))
/-- what is read of block i -/
theorem Own1.at {base : Nat} {w : World} {g : Nat} {R : Nat → Nat → Prop} {bs : List BlockT} (h : Own1 base w g R bs) {i : Nat} {ps : List PageT} {nx er : Int} {bd : Bool} (hb : bs[i]? = some (ps, nx, er, bd)) :
    ∃ op cp, w.cell? ⟨g, i * 4, none⟩ = some (.slice op ps.length cp) ∧ w.cell? ⟨g, i * 4 + 1, none⟩ = some (.int .i64 nx) ∧ w.cell? ⟨g, i * 4 + 2, none⟩ = some (.int .i64 er) ∧ w.cell? ⟨g, i * 4 + 3, none⟩ = some (.bool bd) ∧ PagesAt (R i) w (.slice op ps.length cp) ps ∧ ∀ off, w.frozen? ⟨g, off, none⟩ = false := by
  obtain ⟨hi, e⟩ := get_lt hb
  obtain ⟨op, cp, c⟩ := h.2.1.2.2.2 i hi
  rw [e] at c
  obtain ⟨c0, c1, c2, c3, c4⟩ := c
  exact ⟨op, cp, c0, c1, c2, c3, c4, h.2.1.2.1⟩
theorem Own1.page {base : Nat} {w : World} {g : Nat} {R : Nat → Nat → Prop} {bs : List BlockT} (h : Own1 base w g R bs) {i : Nat} {ps : List PageT} {nx er : Int} {bd : Bool} (hb : bs[i]? = some (ps, nx, er, bd)) {x off n cp : Nat} (hc : w.cell? ⟨g, i * 4, none⟩ = some (.slice (some ⟨x, off, none⟩) n cp)) (hx : R i x) {p : Nat} (hp : p < ps.length) (pg : PageT) :
    Own1 base (set3 w x (off + p * 3) pg) g R (bs.set i (ps.set p pg, nx, er, bd)) := by
  obtain ⟨hi, e⟩ := get_lt hb
  obtain ⟨hg, hr, hR, hj⟩ := h
  have := hr.page hi hc hx (fun j hy => hj j i x hy hx) (p := p) (by rw [e]; exact hp) pg
  rw [e] at this
  exact ⟨hg, this, fun i y hy => ⟨(hR i y hy).1, by rw [set3_size]; exact (hR i y hy).2.1, (hR i y hy).2.2.set3 _ _ _⟩, hj⟩
theorem set_get {bs : List BlockT} {i : Nat} {b : BlockT} (h : i < bs.length) : (bs.set i b)[i]? = some b := by simp [h]
theorem OwnB.put4 {base : Nat} {w : World} {v : Value} {bs : List BlockT} (h : OwnB base w v bs) {b : Nat} (hb : b < base) (x0 x1 x2 x3 : Value) :
    OwnB base ((((w.setCell ⟨b, 0, none⟩ x0).setCell ⟨b, 1, none⟩ x1).setCell ⟨b, 2, none⟩ x2).setCell ⟨b, 3, none⟩ x3) v bs :=
  (((h.setCell (p := ⟨b, 0, none⟩) hb x0).setCell (p := ⟨b, 1, none⟩) hb x1).setCell (p := ⟨b, 2, none⟩) hb x2).setCell (p := ⟨b, 3, none⟩) hb x3
theorem BlocksAt.put4 {S : Nat → Prop} {w : World} {v : Value} {bs : List BlockT} (h : BlocksAt S w v bs) {b : Nat} (hb : ¬ S b) (x0 x1 x2 x3 : Value) :
    BlocksAt S ((((w.setCell ⟨b, 0, none⟩ x0).setCell ⟨b, 1, none⟩ x1).setCell ⟨b, 2, none⟩ x2).setCell ⟨b, 3, none⟩ x3) v bs :=
  (((h.setCell (p := ⟨b, 0, none⟩) hb x0).setCell (p := ⟨b, 1, none⟩) hb x1).setCell (p := ⟨b, 2, none⟩) hb x2).setCell (p := ⟨b, 3, none⟩) hb x3

/-! ### What a program and an erase make of a chip -/
/-- Kind, Data, Tag, N -/
abbrev FateT := Int × ByteArray × ByteArray × Int
abbrev fateV (f : FateT) : Value := .agg #[.int .i64 f.1, .string f.2.1, .string f.2.2.1, .int .i64 f.2.2.2]
def okProg (bs : List BlockT) (b p : Int) (f : FateT) : Bool :=
  thereB bs b p && !(bs.getD b.toNat default).2.2.2 && decide ((bs.getD b.toNat default).2.1 = p) && decide (0 ≤ f.1) && decide (f.1 ≤ 2)
def program (c : ChipT) (b p : Int) (pg : PageT) (f : FateT) : ChipT × Int :=
  if c.2.2.1 = true then (c, 52)
  else if okProg c.1 b p f = true then
    ((c.1.set b.toNat ((c.1.getD b.toNat default).1.set p.toNat (if f.1 = 0 then (true, pg.2.1, pg.2.2) else (true, f.2.1, f.2.2.1)), p + 1, (c.1.getD b.toNat default).2.2.1, decide (f.1 = 1)), c.2.1, decide (f.1 = 2), wrap64 (c.2.2.2 + 1)), if f.1 = 0 then 0 else if f.1 = 1 then 53 else 52)
  else ((c.1, true, c.2.2.1, c.2.2.2), 1)
end Go.Proofs.Ytedopplldpcinaa.Nand
