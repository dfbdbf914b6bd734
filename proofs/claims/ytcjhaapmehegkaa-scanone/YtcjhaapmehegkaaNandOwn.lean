/-
  Layer 5: a chip in memory of its own, by the document; and what leans on it alone.
-/
import Derived.Test.YtcjhaapmehegkaaChipRows
import Derived.Test.YtcjhaapmehegkaaNandSame
namespace Go.Proofs.Ytcjhaapmehegkaa.Nand
open Go.RowKit

abbrev chipV (vb : Value) (br off : Bool) (ops : Int) : Value := .agg #[vb, .bool br, .bool off, .int .i64 ops]
/-- as many blocks, and pages in each, as a statement lets be -/
def Few (bs : List BlockT) : Prop := bs.length ≤ 1000 ∧ ∀ b ∈ bs, b.1.length ≤ 1000
theorem info_chip : (Try.prog.info? 24).map (·.size) = some 4 := by kernel_rfl
theorem load_chip {w : World} {b : Nat} {a0 a1 a2 a3 : Value} (h : Blk w b 24 #[a0, a1, a2, a3]) : (loadVar 24 ⟨b, 0, none⟩).run Try.prog w = .ok (.agg #[a0, a1, a2, a3]) w :=
  run_loadVar_row w b 24 24 #[a0, a1, a2, a3] (0, 0) _ h Try.underlying24 rfl info_chip
theorem ret_chip {fn : Func} {p u : Tmp} (h : fn.results = #[.cell p 24, .tmp u]) (tmps : Array Value) (w : World) {b : Nat} {a0 a1 a2 a3 : Value} (hp : tmps.getD p undef = .pointer (some ⟨b, 0, none⟩)) (hb : Blk w b 24 #[a0, a1, a2, a3]) :
    (results fn tmps).run Try.prog w = .ok (.tuple #[.agg #[a0, a1, a2, a3], tmps.getD u undef]) w := by
  rw [results_cell_tmp h, hp]
  simp only [asAddr, Sem.run_pure, Result.andThen_ok, load_chip hb]
theorem ret_chip1 {fn : Func} {p : Tmp} (h : fn.results = #[.cell p 24]) (tmps : Array Value) (w : World) {b : Nat} {a0 a1 a2 a3 : Value} (hp : tmps.getD p undef = .pointer (some ⟨b, 0, none⟩)) (hb : Blk w b 24 #[a0, a1, a2, a3]) :
    (results fn tmps).run Try.prog w = .ok (.agg #[a0, a1, a2, a3]) w :=
  results_cell_row h tmps w b 24 #[a0, a1, a2, a3] (0, 0) _ hp hb Try.underlying24 rfl info_chip

theorem ownsShape {w : World} {base : Nat} {e : TypeId} {size : Nat} {v : Value} {n : Nat} {xs : List Value} (h : w.ownsRow base e size v n xs) : ∃ oa cap, v = .slice oa n cap := by
  rcases h.2 with ⟨rfl, h0⟩ | ⟨g, cap, cur, rfl, _⟩
  · subst h0; exact ⟨_, _, rfl⟩
  · exact ⟨_, _, rfl⟩

set_option maxHeartbeats 2000000 in
set_option maxRecDepth 100000 in
theorem refOwn (S : Nat → Prop) (vb : Value) (bs : List BlockT) (br off : Bool) (ops : Int) (w : World) (hb : BlocksAt S w vb bs) (hf : Few bs) :
    Calls Try.prog 33 #[chipV vb br off ops] w fun e w' => (∃ v', e = .returned (chipV v' br off ops) ∧ OwnB (w.heap.size + 2) w' v' bs) ∧ Mem w w' := by
  obtain ⟨oa, ca, rfl⟩ := hb.shape
  have hsz : (w.alloc (.cells #[.slice oa bs.length ca, .bool br, .bool off, .int .i64 ops] 24)).heap.size = w.heap.size + 1 := by simp
  have hsz2 : ((w.alloc (.cells #[.slice oa bs.length ca, .bool br, .bool off, .int .i64 ops] 24)).alloc (.cells #[.slice none 0 0, .bool false, .bool false, .int .i64 0] 24)).heap.size = w.heap.size + 2 := by simp
  have hm : Mem w ((w.alloc (.cells #[.slice oa bs.length ca, .bool br, .bool off, .int .i64 ops] 24)).alloc (.cells #[.slice none 0 0, .bool false, .bool false, .int .i64 0] 24)) := ((Mem.refl w).alloc _).alloc _
  have hC : Blk ((w.alloc (.cells #[.slice oa bs.length ca, .bool br, .bool off, .int .i64 ops] 24)).alloc (.cells #[.slice none 0 0, .bool false, .bool false, .int .i64 0] 24)) w.heap.size 24 #[.slice oa bs.length ca, .bool br, .bool off, .int .i64 ops] := (Blk.new w _ _).alloc _
  have hR : Blk ((w.alloc (.cells #[.slice oa bs.length ca, .bool br, .bool off, .int .i64 ops] 24)).alloc (.cells #[.slice none 0 0, .bool false, .bool false, .int .i64 0] 24)) (w.heap.size + 1) 24 #[.slice none 0 0, .bool false, .bool false, .int .i64 0] := by
    have := Blk.new (w.alloc (.cells #[.slice oa bs.length ca, .bool br, .bool off, .int .i64 ops] 24)) #[.slice none 0 0, .bool false, .bool false, .int .i64 0] 24
    rwa [hsz] at this
  clear hsz
  replace hb := hb.mem hm
  obtain ⟨hf1, hf2⟩ := hf
  have HF := hide hf2
  clear hf2
  go_enter Try.func33, Try.ntmps33
  go_wp2_with fail
  generalize hW0 : (w.alloc (.cells #[.slice oa bs.length ca, .bool br, .bool off, .int .i64 ops] 24)).alloc (.cells #[.slice none 0 0, .bool false, .bool false, .int .i64 0] 24) = W0 at *
  have HS2 := hide hsz2
  clear hW0 hsz2
  go_loopw [3, 4] (fun l i wr => ∃ k : Nat, k ≤ bs.length ∧ i = .int .i64 k ∧ Owning bs W0.heap.size wr.heap.size wr l k ∧ Mem W0 wr) (fun _ i _ => bs.length - (intOf i).toNat)
  case atStart => exact ⟨0, Nat.zero_le _, rfl, Owning.start bs W0, Mem.refl _⟩
  case round =>
    obtain ⟨k, hk, rfl, hown, hmr⟩ := hrel
    have hC1 := hC.mem hmr
    have c0 := hC1.cell (j := 0) rfl
    by_cases hlt : k < bs.length
    · have hlt' : (k : Int) < (bs.length : Int) := by omega
      have hk0 : (0 : Int) ≤ (k : Int) := by omega
      obtain ⟨ga, fa, pa, qa, rfl, _, x0, x1, x2, x3, hpa⟩ := (hb.mem hmr).at hlt
      have hpl : bs[k].1.length ≤ 1000 := HF.out _ (List.getElem_mem hlt)
      have HBK : Hid (bs[k] = bs[k]) := rfl
      generalize hbk : bs[k] = bk at x0 x1 x2 x3 hpa hpl
      have HK := hide hbk
      clear hbk HBK
      obtain ⟨ps, nx, er, bd⟩ := bk
      simp only [] at x0 x1 x2 x3 hpa hpl
      have hA := Blk.new wr #[.slice pa ps.length qa, .int .i64 nx, .int .i64 er, .bool bd] 34
      have n1 : Mem wr (wr.alloc (.cells #[.slice pa ps.length qa, .int .i64 nx, .int .i64 er, .bool bd] 34)) := (Mem.refl wr).alloc _
      cases pa with
      | none =>
        have hps : ps = [] := by
          rcases hpa.2 with ⟨h, _⟩ | ⟨g, off, cap, h, _⟩
          · exact h
          · cases h
        subst hps
        have m2 : Mem wr (wr.alloc (.cells #[.slice none 0 0, .int .i64 nx, .int .i64 er, .bool bd] 34)) := (Mem.refl wr).alloc _
        obtain ⟨vs, R, hV⟩ := hown
        have hV2 := hV.mem m2
        have hle := Nat.le_trans hV2.2.2.1 hV2.2.1
        have hvl : vs.length = (bs.take k).length := by rw [hV2.1, List.length_take]; omega
        have hk1 : k ≤ 1000 := by omega
        go_wp2_with (first | (at_builtin; refine pushBlock rfl _ _ rfl W0.heap.size _ vs (bs.take k) hvl k rfl hV2.2.2.2.1 hle none 0 0 ([], nx, er, bd) _ (by simp) rfl hk1 ?_) | fail)
        intro l' w'' g1 g2 g3
        rw [← HK.out] at g1
        have hp3 : PagesAt (fun x => (Value.slice none 0 0).ownBlock = some x) (wr.alloc (.cells #[.slice none 0 0, .int .i64 nx, .int .i64 er, .bool bd] 34)) (.slice none 0 0) bs[k].1 := by rw [HK.out]; exact ⟨by simp [maxLen], .inl ⟨rfl, _, _, rfl⟩⟩
        have hO := hV2.push hlt hp3 (fun x hx => by simp [Value.ownBlock] at hx) g1 g2 (by simp) g3
        have m3 : Mem W0 w'' := Below.grown (hmr.trans m2) g2 (Nat.le_trans hmr.size m2.size) (fun x hx => (hV2.2.2.2.1.lt x hx).1)
        clear x0 x1 x2 x3 c0 g1 g2 g3 hV2 hp3
        go_wp2_with fail
        go_roundw
        case rel => exact ⟨k + 1, by omega, by go_num, hO, m3⟩
        case measure => simp [intOf]; omega
      | some ad =>
        go_wp2_with (first | (at_builtin; refine copyPages rfl _ _ rfl rfl rfl (hpa.mem n1) hpl ?_) | fail)
        intro v' w' h1 h2
        have hp1 := PagesAt.of_owns h1
        have hA1 := hA.mem h2
        have f0 := hA1.frozen 0
        have a0 := hA1.cell (j := 0) rfl
        have hP0 : ∀ x, v'.ownBlock = some x → wr.heap.size + 1 ≤ x ∧ x < w'.heap.size ∧ Soft w' x := fun x hx => ⟨(h1.lt x hx).1, (h1.lt x hx).2, Soft.of_owns h1 hx⟩
        obtain ⟨op, cp, rfl⟩ := ownsShape h1
        have hA2 : Blk (w'.setCell ⟨wr.heap.size, 0, none⟩ (.slice op ps.length cp)) wr.heap.size 34 #[.slice op ps.length cp, .int .i64 nx, .int .i64 er, .bool bd] := hA1.set 0 _
        have y0 := hA2.cell (j := 0) rfl
        have y1 := hA2.cell (j := 1) rfl
        have y2 := hA2.cell (j := 2) rfl
        have y3 := hA2.cell (j := 3) rfl
        have m2 : Mem wr (w'.setCell ⟨wr.heap.size, 0, none⟩ (.slice op ps.length cp)) := (n1.trans h2).setCell (p := ⟨wr.heap.size, 0, none⟩) (Nat.le_refl _) _
        obtain ⟨vs, R, hV⟩ := hown
        have hV2 := hV.mem m2
        have hp2 := hp1.setCell (p := ⟨wr.heap.size, 0, none⟩) (fun hx => by have h : wr.heap.size + 1 ≤ wr.heap.size := (hP0 _ hx).1; omega) (.slice op ps.length cp)
        have hP2 : ∀ x, (Value.slice op ps.length cp).ownBlock = some x → wr.heap.size ≤ x ∧ x < (w'.setCell ⟨wr.heap.size, 0, none⟩ (.slice op ps.length cp)).heap.size ∧ Soft (w'.setCell ⟨wr.heap.size, 0, none⟩ (.slice op ps.length cp)) x := fun x hx => by
          obtain ⟨a, b, c⟩ := hP0 x hx
          exact ⟨by omega, by rw [size_setCell]; exact b, c.setCell _ _⟩
        have hle := Nat.le_trans hV2.2.2.1 hV2.2.1
        have hvl : vs.length = (bs.take k).length := by rw [hV2.1, List.length_take]; omega
        have hk1 : k ≤ 1000 := by omega
        clear hP0 hp1 h1 hA hA1
        go_wp2_with (first | (at_builtin; refine pushBlock rfl _ _ rfl W0.heap.size _ vs (bs.take k) hvl k rfl hV2.2.2.2.1 hle op ps.length cp (ps, nx, er, bd) _ (by simp) rfl hk1 ?_) | fail)
        intro l' w'' g1 g2 g3
        rw [← HK.out] at g1
        have hp3 : PagesAt (fun x => (Value.slice op ps.length cp).ownBlock = some x) (w'.setCell ⟨wr.heap.size, 0, none⟩ (.slice op ps.length cp)) (.slice op ps.length cp) bs[k].1 := by rw [HK.out]; exact hp2
        have hO := hV2.push hlt hp3 hP2 g1 g2 (by simp) g3
        have m3 : Mem W0 w'' := Below.grown (hmr.trans m2) g2 (Nat.le_trans hmr.size m2.size) (fun x hx => (hV2.2.2.2.1.lt x hx).1)
        clear y0 y1 y2 y3 f0 a0 hA2 x0 x1 x2 x3 c0 g1 g2 g3 hV2 hp3 hP2 hp2 h2
        go_wp2_with fail
        go_roundw
        case rel => exact ⟨k + 1, by omega, by go_num, hO, m3⟩
        case measure => simp [intOf]; omega
    · have hke : k = bs.length := by omega
      subst hke
      have hR1 := hR.mem hmr
      have hOB := hown.whole
      obtain ⟨vs, R, hV⟩ := hown
      obtain ⟨ol, cl, rfl⟩ := ownsShape hV.2.2.2.1
      clear hV
      have hC2 : Blk (wr.setCell ⟨w.heap.size, 0, none⟩ (.slice ol bs.length cl)) w.heap.size 24 #[.slice ol bs.length cl, .bool br, .bool off, .int .i64 ops] := hC1.set 0 _
      have hR2 := hR1.other (a := ⟨w.heap.size, 0, none⟩) (by show w.heap.size + 1 ≠ w.heap.size; omega) (.slice ol bs.length cl)
      have fc := hC1.frozen 0
      have y0 := hC2.cell (j := 0) rfl
      have y1 := hC2.cell (j := 1) rfl
      have y2 := hC2.cell (j := 2) rfl
      have y3 := hC2.cell (j := 3) rfl
      have z0 := hR2.cell (j := 0) rfl
      have z1 := hR2.cell (j := 1) rfl
      have z2 := hR2.cell (j := 2) rfl
      have z3 := hR2.cell (j := 3) rfl
      have f0 := hR2.frozen 0
      have f1 := hR2.frozen 1
      have f2 := hR2.frozen 2
      have f3 := hR2.frozen 3
      go_wp2_with fail
      have hb2 : w.heap.size + 2 ≤ W0.heap.size := by rw [HS2.out]; omega
      have hOB2 : OwnB (w.heap.size + 2) wr (.slice ol bs.length cl) bs := hOB.base hb2
      refine bodyPost_ret (ret_chip1 rfl _ _ rfl (hR2.put4 _ _ _ _)) rfl ⟨⟨_, rfl, ?_⟩, ?_⟩
      · exact ((((hOB2.setCell (p := ⟨w.heap.size, 0, none⟩) (by show w.heap.size < _; omega) _).setCell (p := ⟨w.heap.size + 1, 0, none⟩) (by show w.heap.size + 1 < _; omega) _).setCell (p := ⟨w.heap.size + 1, 1, none⟩) (by show w.heap.size + 1 < _; omega) _).setCell (p := ⟨w.heap.size + 1, 2, none⟩) (by show w.heap.size + 1 < _; omega) _).setCell (p := ⟨w.heap.size + 1, 3, none⟩) (by show w.heap.size + 1 < _; omega) _
      · exact (((hm.trans hmr).setCell (p := ⟨w.heap.size, 0, none⟩) (Nat.le_refl _) _).put4 (by omega) _ _ _ _)
end Go.Proofs.Ytcjhaapmehegkaa.Nand
