/-
  Layer 6: what the pages tell, in the order in which the program comes by them.
-/
import Derived.Test.YtcjhaapmehegkaaScanIter
namespace Go.Proofs.Ytcjhaapmehegkaa.Scan
open Go.RowKit Go.Proofs.Ytcjhaapmehegkaa.Nand

/-- what a page tells, wherever it is -/
def tellQ (b p : Nat) (pg : PageT) : List FoundT := (Look.look pg.1 pg.2.2.data.toList pg.2.1.data.toList).2.toList.map fun r => (place b p, r)
theorem tellQ_P {b p : Nat} (hb : b < 32) (hp : p < 16) (pg : PageT) : tellQ b p pg = tellP b p pg := by
  unfold tellQ tellP
  rw [if_pos ⟨hb, hp⟩]
theorem tellQ_none {b p : Nat} {pg : PageT} (h : (Look.look pg.1 pg.2.2.data.toList pg.2.1.data.toList).2 = none) : tellQ b p pg = [] := by
  unfold tellQ
  rw [h]
  rfl
theorem tellQ_some {b p : Nat} {pg : PageT} {r : RecT} (hr : (Look.look pg.1 pg.2.2.data.toList pg.2.1.data.toList).2 = some r) : tellQ b p pg = [(place b p, r)] := by
  unfold tellQ
  rw [hr]
  rfl
def tellY (bs : List BlockT) (pre : List (Nat × Nat)) : List FoundT := pre.flatMap fun x => tellQ x.1 x.2 (pgAt bs x.1 x.2)
theorem tellY_append (bs : List BlockT) (xs ys : List (Nat × Nat)) : tellY bs (xs ++ ys) = tellY bs xs ++ tellY bs ys := by simp [tellY]
theorem tellY_snoc (bs : List BlockT) (pre : List (Nat × Nat)) (x : Nat × Nat) : tellY bs (pre ++ [x]) = tellY bs pre ++ tellQ x.1 x.2 (pgAt bs x.1 x.2) := by simp [tellY]
theorem tellY_length (bs : List BlockT) (pre : List (Nat × Nat)) : (tellY bs pre).length ≤ pre.length := by
  induction pre with
  | nil => simp [tellY]
  | cons x xs ih =>
    have h1 : (tellQ x.1 x.2 (pgAt bs x.1 x.2)).length ≤ 1 := by
      unfold tellQ
      cases (Look.look (pgAt bs x.1 x.2).1 (pgAt bs x.1 x.2).2.2.data.toList (pgAt bs x.1 x.2).2.1.data.toList).2 <;> simp
    have : tellY bs (x :: xs) = tellQ x.1 x.2 (pgAt bs x.1 x.2) ++ tellY bs xs := by simp [tellY]
    rw [this, List.length_append, List.length_cons]
    omega
theorem tellY_row (bs : List BlockT) {k : Nat} (hk : k < 32) {n : Nat} (hn : n ≤ (bs.getD k default).1.length) (hn' : n ≤ 16) : tellY bs (yRow k n) = tellB k 0 ((bs.getD k default).1.take n) := by
  induction n with
  | zero => simp [yRow, tellY, tellB]
  | succ n ih =>
    have hlt : n < (bs.getD k default).1.length := by omega
    rw [yRow_succ, tellY_snoc, ih (by omega) (by omega), tellB_take k _ hlt]
    congr 1
    show tellQ k n (pgAt bs k n) = _
    rw [tellQ_P hk (by omega)]
    unfold pgAt
    rw [show (bs.getD k default).1.getD n zeroPage = (bs.getD k default).1[n] from by rw [List.getD_eq_getElem?_getD, List.getElem?_eq_getElem hlt]; rfl]
theorem tellB_16 (k : Nat) (ps : List PageT) : tellB k 0 (ps.take (min ps.length 16)) = tellB k 0 ps := by
  by_cases h : ps.length ≤ 16
  · rw [show min ps.length 16 = ps.length by omega, List.take_length]
  · have e : ps = ps.take 16 ++ ps.drop 16 := (List.take_append_drop 16 ps).symm
    rw [show min ps.length 16 = 16 by omega]
    conv => rhs; rw [e]
    rw [tellB_append, show 0 + (ps.take 16).length = 16 by rw [List.length_take]; omega]
    have h0 := tellB_len16 k 16 (ps.drop 16)
    have h1 : tellB k 16 (ps.drop 16) = [] := List.length_eq_zero_iff.1 (by omega)
    rw [h1, List.append_nil]
theorem tellY_to (bs : List BlockT) {k : Nat} (hk : k ≤ bs.length) (hk' : k ≤ 32) : tellY bs (yTo bs k) = tellC 0 (bs.take k) := by
  induction k with
  | zero => simp [yTo, tellY, tellC]
  | succ k ih =>
    have hlt : k < bs.length := by omega
    rw [yTo_succ, tellY_append, ih (by omega) (by omega), tellY_row bs (by omega) (by omega) (by omega), tellB_16, tellC_take bs hlt]
    congr 1
    rw [show bs.getD k default = bs[k] from by rw [List.getD_eq_getElem?_getD, List.getElem?_eq_getElem hlt]; rfl]
theorem tellY_all (bs : List BlockT) : tellY bs (yTo bs (min bs.length 32)) = tellC 0 bs := by
  rw [tellY_to bs (by omega) (by omega)]
  by_cases h : bs.length ≤ 32
  · rw [show min bs.length 32 = bs.length by omega, List.take_length]
  · have e : bs = bs.take 32 ++ bs.drop 32 := (List.take_append_drop 32 bs).symm
    rw [show min bs.length 32 = 32 by omega]
    conv => rhs; rw [e]
    rw [tellC_append, show 0 + (bs.take 32).length = 32 by rw [List.length_take]; omega]
    have h0 := tellC_len512 32 (bs.drop 32)
    have h1 : tellC 32 (bs.drop 32) = [] := List.length_eq_zero_iff.1 (by omega)
    rw [h1, List.append_nil]
theorem pgAt_size {bs : List BlockT} (h : ∀ b ∈ bs, ∀ p ∈ b.1, p.2.2.size ≤ maxLen) (b p : Nat) : (pgAt bs b p).2.2.size ≤ maxLen := by
  unfold pgAt
  by_cases hb : b < bs.length
  · rw [show bs.getD b default = bs[b] from by rw [List.getD_eq_getElem?_getD, List.getElem?_eq_getElem hb]; rfl]
    by_cases hp : p < bs[b].1.length
    · rw [show bs[b].1.getD p zeroPage = bs[b].1[p] from by rw [List.getD_eq_getElem?_getD, List.getElem?_eq_getElem hp]; rfl]
      exact h _ (List.getElem_mem hb) _ (List.getElem_mem hp)
    · rw [show bs[b].1.getD p zeroPage = zeroPage from by rw [List.getD_eq_getElem?_getD, List.getElem?_eq_none (by omega)]; rfl]
      show (0 : Nat) ≤ maxLen
      exact Nat.zero_le _
  · rw [show bs.getD b default = default from by rw [List.getD_eq_getElem?_getD, List.getElem?_eq_none (by omega)]; rfl]
    show (0 : Nat) ≤ maxLen
    exact Nat.zero_le _

/-! ### Cells that lie on where what is no cells turns -/
theorem IntsIn.kept2 {S S' : Nat → Prop} {w w' : World} {v : Value} {zs : List Int} (h : IntsIn S w v zs) (hS : ∀ g, S g → (∃ off u, w.cell? ⟨g, off, none⟩ = some u) → S' g ∧ ∀ off, w'.cell? ⟨g, off, none⟩ = w.cell? ⟨g, off, none⟩) : IntsIn S' w' v zs := by
  refine ⟨h.1, ?_⟩
  rcases h.2 with h | ⟨b, off, cap, hv, h0, hs, hc⟩
  · exact .inl h
  · obtain ⟨h1, h2⟩ := hS b hs ⟨_, _, hc 0 h0⟩
    exact .inr ⟨b, off, cap, hv, h0, h1, fun j hj => by rw [h2]; exact hc j hj⟩
theorem FitsL.kept2 {S S' : Nat → Prop} {w w' : World} {xs : List RowT} {fs : List FoundT} (h : FitsL S w xs fs) (hS : ∀ g, S g → (∃ off u, w.cell? ⟨g, off, none⟩ = some u) → S' g ∧ ∀ off, w'.cell? ⟨g, off, none⟩ = w.cell? ⟨g, off, none⟩) : FitsL S' w' xs fs :=
  ⟨h.1, fun i a b => by
    obtain ⟨e0, e1, e2, k1, k2⟩ := h.2 i a b
    exact ⟨e0, e1, e2, k1.kept2 hS, k2.kept2 hS⟩⟩
/-- a block that bears a cell is cells -/
theorem cells_of_cell {w : World} {g off : Nat} {u : Value} (h : w.cell? ⟨g, off, none⟩ = some u) {o : Obj} (ho : w.heap[g]? = some o) : o.isCells = true := by
  unfold World.cell? at h
  rw [ho] at h
  cases o <;> simp_all [Obj.isCells]
theorem FitsL.turned {S : Nat → Prop} {w w' : World} {row : Option Nat} {xs : List RowT} {fs : List FoundT} (h : FitsL S w xs fs) (hg : w.grownBy w' row) (hr : ∀ r, row = some r → ∃ o : Obj, w.heap[r]? = some o ∧ o.isCells = false) : FitsL S w' xs fs :=
  h.kept2 fun g hs ⟨off, u, hc⟩ => by
    have hlt := World.block_lt_of_cell? w _ hc
    refine ⟨hs, fun off' => World.cell?_of_block (w := w) (a := ⟨g, off', none⟩) (hg.block g hlt (fun e => ?_))⟩
    obtain ⟨o, ho, hn⟩ := hr g e.symm
    have := cells_of_cell hc ho
    rw [hn] at this
    cases this
theorem FoundsAt.turned {S : Nat → Prop} {w w' : World} {row : Option Nat} {v : Value} {fs : List FoundT} (h : FoundsAt S w v fs) (hg : w.grownBy w' row) (hr : ∀ r, row = some r → ∃ o : Obj, w.heap[r]? = some o ∧ o.isCells = false) : FoundsAt S w' v fs := by
  refine ⟨h.1, ?_⟩
  rcases h.2 with h | ⟨g, off, cap, xs, hv, h0, hs, hf, hc⟩
  · exact .inl h
  · have hlen := hf.1
    have c0 : w.cell? ⟨g, off + (0 * 5 + 0), none⟩ = some (.int .i64 (xs[0]'(by omega)).1) := hc _ _ (by rw [rowCells_get (by omega) (by omega)]; rfl)
    have e : w'.heap[g]? = w.heap[g]? := by
      refine hg.block g (World.block_lt_of_cell? w _ c0) (fun e => ?_)
      obtain ⟨o, ho, hn⟩ := hr g e.symm
      have := cells_of_cell c0 ho
      rw [hn] at this
      cases this
    exact .inr ⟨g, off, cap, xs, hv, h0, hs, hf.turned hg hr, fun j u hj => (World.cell?_of_block (w := w) (a := ⟨g, off + j, none⟩) e).trans (hc j u hj)⟩
end Go.Proofs.Ytcjhaapmehegkaa.Scan
