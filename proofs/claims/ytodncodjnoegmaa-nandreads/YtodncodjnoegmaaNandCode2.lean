/-
  Layer 5: the program's: a chip and a block through pointers.
-/
import Derived.Test.YtodncodjnoegmaaNandCode1
namespace Go.Proofs.Ytodncodjnoegmaa.Nand
open Go.RowKit

/-- the pages of block i are others -/
theorem RowsAt.pages {w : World} {g : Nat} {R R' : Nat → Nat → Prop} {bs : List BlockT} (h : RowsAt w g R bs) {i : Nat} {ps ps' : List PageT} {nx er : Int} {bd : Bool} (hb : bs[i]? = some (ps, nx, er, bd)) {op : Option Addr} {n cp : Nat} (hn : n = ps'.length) (hp : PagesAt (R' i) w (.slice op n cp) ps')
    (hR : ∀ j x, j ≠ i → R j x → R' j x) (hg : ∀ j, ¬ R' j g) : RowsAt (w.setCell ⟨g, i * 4, none⟩ (.slice op n cp)) g R' (bs.set i (ps', nx, er, bd)) := by
  subst hn
  obtain ⟨hi, e⟩ := get_lt hb
  obtain ⟨h0, h1, h2, h3⟩ := h
  refine ⟨by rw [size_setCell]; exact h0, h1.setCell _ _, fun j x hx ex => hg j (ex ▸ hx), fun j hj => ?_⟩
  have hj' : j < bs.length := by simpa using hj
  obtain ⟨op', cp', c0, c1, c2, c3, c4⟩ := h3 j hj'
  by_cases ej : i = j
  · subst ej
    rw [show (bs.set i (ps', nx, er, bd))[i]'hj = (ps', nx, er, bd) from by simp]
    rw [e] at c0 c1 c2 c3 c4
    refine ⟨op, cp, ?_, ?_, ?_, ?_, hp.setCell (p := ⟨g, i * 4, none⟩) (hg i) _⟩
    · rw [cell_near c0, if_pos rfl]
    · rw [cell_near c1, if_neg (by omega)]
    · rw [cell_near c2, if_neg (by omega)]
    · rw [cell_near c3, if_neg (by omega)]
  · rw [show (bs.set i (ps', nx, er, bd))[j]'hj = bs[j] from by simp [ej]]
    refine ⟨op', cp', ?_, ?_, ?_, ?_, (c4.mono fun x hx _ => hR j x (fun e => ej e.symm) hx).setCell (p := ⟨g, i * 4, none⟩) (hg j) _⟩
    · rw [cell_near c0, if_neg (by omega)]
    · rw [cell_near c1, if_neg (by omega)]
    · rw [cell_near c2, if_neg (by omega)]
    · rw [cell_near c3, if_neg (by omega)]
theorem RowsAt.next {w : World} {g : Nat} {R : Nat → Nat → Prop} {bs : List BlockT} (h : RowsAt w g R bs) {i : Nat} {ps : List PageT} {nx er : Int} {bd : Bool} (hb : bs[i]? = some (ps, nx, er, bd)) (n : Int) : RowsAt (w.setCell ⟨g, i * 4 + 1, none⟩ (.int .i64 n)) g R (bs.set i (ps, n, er, bd)) := by
  obtain ⟨hi, e⟩ := get_lt hb
  exact h.field hi (ps, n, er, bd) (by rw [e]) 1 _ (.inl ⟨rfl, rfl, by rw [e], by rw [e]⟩)
theorem RowsAt.erases {w : World} {g : Nat} {R : Nat → Nat → Prop} {bs : List BlockT} (h : RowsAt w g R bs) {i : Nat} {ps : List PageT} {nx er : Int} {bd : Bool} (hb : bs[i]? = some (ps, nx, er, bd)) (n : Int) : RowsAt (w.setCell ⟨g, i * 4 + 2, none⟩ (.int .i64 n)) g R (bs.set i (ps, nx, n, bd)) := by
  obtain ⟨hi, e⟩ := get_lt hb
  exact h.field hi (ps, nx, n, bd) (by rw [e]) 2 _ (.inr (.inl ⟨rfl, rfl, by rw [e], by rw [e]⟩))
theorem RowsAt.bad {w : World} {g : Nat} {R : Nat → Nat → Prop} {bs : List BlockT} (h : RowsAt w g R bs) {i : Nat} {ps : List PageT} {nx er : Int} {bd : Bool} (hb : bs[i]? = some (ps, nx, er, bd)) (n : Bool) : RowsAt (w.setCell ⟨g, i * 4 + 3, none⟩ (.bool n)) g R (bs.set i (ps, nx, er, n)) := by
  obtain ⟨hi, e⟩ := get_lt hb
  exact h.field hi (ps, nx, er, n) (by rw [e]) 3 _ (.inr (.inr ⟨rfl, rfl, by rw [e], by rw [e]⟩))
/-- what is read of block i -/
theorem RowsAt.at {w : World} {g : Nat} {R : Nat → Nat → Prop} {bs : List BlockT} (h : RowsAt w g R bs) {i : Nat} {ps : List PageT} {nx er : Int} {bd : Bool} (hb : bs[i]? = some (ps, nx, er, bd)) :
    ∃ op cp, w.cell? ⟨g, i * 4, none⟩ = some (.slice op ps.length cp) ∧ w.cell? ⟨g, i * 4 + 1, none⟩ = some (.int .i64 nx) ∧ w.cell? ⟨g, i * 4 + 2, none⟩ = some (.int .i64 er) ∧ w.cell? ⟨g, i * 4 + 3, none⟩ = some (.bool bd) ∧ PagesAt (R i) w (.slice op ps.length cp) ps ∧ ∀ off, w.frozen? ⟨g, off, none⟩ = false := by
  obtain ⟨hi, e⟩ := get_lt hb
  obtain ⟨op, cp, c⟩ := h.2.2.2 i hi
  rw [e] at c
  obtain ⟨c0, c1, c2, c3, c4⟩ := c
  exact ⟨op, cp, c0, c1, c2, c3, c4, h.2.1⟩
theorem RowsAt.mono {w : World} {g : Nat} {R R' : Nat → Nat → Prop} {bs : List BlockT} (h : RowsAt w g R bs) (hR : ∀ j x, R j x → R' j x) (hg : ∀ j, ¬ R' j g) : RowsAt w g R' bs := by
  obtain ⟨h0, h1, h2, h3⟩ := h
  refine ⟨h0, h1, fun j x hx e => hg j (e ▸ hx), fun j hj => ?_⟩
  obtain ⟨op, cp, c0, c1, c2, c3, c4⟩ := h3 j hj
  exact ⟨op, cp, c0, c1, c2, c3, c4.mono fun x hx _ => hR j x hx⟩

/-! ### A chip of its own list of blocks -/
set_option maxHeartbeats 1000000 in
set_option maxRecDepth 100000 in
theorem nandOwn (S : Nat → Prop) (C : Nat) (vb a1 a2 a3 : Value) (bs : List BlockT) (i : Nat) (w : World) (hC : Blk w C 27 #[vb, a1, a2, a3]) (hb : BlocksAt S w vb bs) (hl : bs.length ≤ 1000) (hi : i < bs.length) :
    Calls Try.prog 31 #[.pointer (some ⟨C, 0, none⟩), .int .i64 (i : Int)] w fun e w' => ∃ g cap w1, e = .returned (.pointer (some ⟨g, i * 4, none⟩)) ∧ w' = w1.setCell ⟨C, 0, none⟩ (.slice (some ⟨g, 0, none⟩) bs.length cap) ∧ w.heap.size ≤ g ∧ RowsAt w1 g (fun _ x => S x ∧ x < w.heap.size) bs ∧ Mem w w1 := by
  obtain ⟨oa, ca, rfl⟩ := hb.shape
  have hlt := hC.lt
  have c0 := hC.cell (j := 0) rfl
  go_enter Try.func31, Try.ntmps31
  go_wp2_with fail
  refine (cloneBlocks S _ bs _ hb hl (by omega)).mono ?_
  rintro e w1 ⟨⟨g, cap, rfl, hg, hr⟩, m1⟩
  have hC1 := hC.mem m1
  have c1 := hC1.cell (j := 0) rfl
  have f1 := hC1.frozen 0
  have hC2 : Blk (w1.setCell ⟨C, 0, none⟩ (.slice (some ⟨g, 0, none⟩) bs.length cap)) C 27 #[.slice (some ⟨g, 0, none⟩) bs.length cap, a1, a2, a3] := hC1.set 0 _
  have c2 := hC2.cell (j := 0) rfl
  have hi' : (i : Int) < (bs.length : Int) := by omega
  have hi0 : (0 : Int) ≤ (i : Int) := by omega
  go_wp2_with fail
  go_ret
  exact ⟨g, cap, w1, by simp, rfl, hg, hr, m1⟩

/-! ### What a program or an erase does to either -/
set_option maxHeartbeats 1000000 in
set_option maxRecDepth 100000 in
theorem nandStrike (C g i : Nat) (v0 a1 a2 : Value) (ops : Int) (u : Value) (f : FateT) (w : World) (hC : Blk w C 27 #[v0, a1, a2, .int .i64 ops]) (hu : w.cell? ⟨g, i * 4 + 3, none⟩ = some u) (hs : Soft w g) (hgC : g ≠ C) (hk : f.1 = 0 ∨ f.1 = 1 ∨ f.1 = 2) :
    Calls Try.prog 33 #[.pointer (some ⟨C, 0, none⟩), .pointer (some ⟨g, i * 4, none⟩), fateV f] w fun e w' =>
      ∃ W, W = (w.alloc (.cells #[.int .i64 f.1, .string f.2.1, .string f.2.2.1, .int .i64 f.2.2.2] 36)).setCell ⟨C, 3, none⟩ (.int .i64 (wrap64 (ops + 1))) ∧
        ((f.1 = 0 ∧ e = .returned (.int .i64 0) ∧ w' = W) ∨ (f.1 = 1 ∧ e = .returned (.int .i64 53) ∧ w' = W.setCell ⟨g, i * 4 + 3, none⟩ (.bool true)) ∨ (f.1 = 2 ∧ e = .returned (.int .i64 52) ∧ w' = W.setCell ⟨C, 2, none⟩ (.bool true))) := by
  obtain ⟨k, d, t, n⟩ := f
  simp only [] at hk
  have hm : Mem w (w.alloc (.cells #[.int .i64 k, .string d, .string t, .int .i64 n] 36)) := (Mem.refl w).alloc _
  have hF := Blk.new w #[.int .i64 k, .string d, .string t, .int .i64 n] 36
  have hCw := hC.lt
  have hgw : g < w.heap.size := World.block_lt_of_cell? w _ hu
  have hC1 := hC.mem hm
  have hu1 : (w.alloc (.cells #[.int .i64 k, .string d, .string t, .int .i64 n] 36)).cell? ⟨g, i * 4 + 3, none⟩ = some u := Lib.cell?_alloc_some _ hu
  have hs1 := hs.mem hm hgw
  have c3 := hC1.cell (j := 3) rfl
  have f3 := hC1.frozen 3
  have hC2 : Blk ((w.alloc (.cells #[.int .i64 k, .string d, .string t, .int .i64 n] 36)).setCell ⟨C, 3, none⟩ (.int .i64 (wrap64 (ops + 1)))) C 27 #[v0, a1, a2, .int .i64 (wrap64 (ops + 1))] := hC1.set 3 _
  have hF2 := hF.other (a := ⟨C, 3, none⟩) (by show w.heap.size ≠ C; omega) (.int .i64 (wrap64 (ops + 1)))
  have k0 := hF2.cell (j := 0) rfl
  have c2 := hC2.cell (j := 2) rfl
  have f2 := hC2.frozen 2
  have u2 : ((w.alloc (.cells #[.int .i64 k, .string d, .string t, .int .i64 n] 36)).setCell ⟨C, 3, none⟩ (.int .i64 (wrap64 (ops + 1)))).cell? ⟨g, i * 4 + 3, none⟩ = some u := (World.cell?_of_block (a := ⟨g, i * 4 + 3, none⟩) (Below.heap_setCell _ _ _ g hgC)).trans hu1
  have fu := (hs1.setCell ⟨C, 3, none⟩ (.int .i64 (wrap64 (ops + 1)))) (i * 4 + 3)
  clear hCw hgw hm hu hC
  rcases hk with rfl | rfl | rfl
  · go_enter Try.func33, Try.ntmps33
    go_wp2_with fail
    go_ret
    exact ⟨_, rfl, .inl ⟨trivial, rfl, rfl⟩⟩
  · go_enter Try.func33, Try.ntmps33
    go_wp2_with fail
    go_ret
    exact ⟨_, rfl, .inr (.inl ⟨trivial, rfl, rfl⟩)⟩
  · go_enter Try.func33, Try.ntmps33
    go_wp2_with fail
    go_ret
    exact ⟨_, rfl, .inr (.inr ⟨trivial, rfl, rfl⟩)⟩
end Go.Proofs.Ytodncodjnoegmaa.Nand
