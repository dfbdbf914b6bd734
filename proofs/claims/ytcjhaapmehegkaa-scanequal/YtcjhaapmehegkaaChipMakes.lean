/-
  Rows of pages and of blocks that are made.
-/
import Derived.Test.YtcjhaapmehegkaaNandOwn
import Derived.Laws.MakeOwn
namespace Go.Proofs.Ytcjhaapmehegkaa.Nand
open Go.RowKit

abbrev zpage : Array Value := #[.bool false, .string ⟨#[]⟩, .string ⟨#[]⟩]
abbrev zblock : Array Value := #[.slice none 0 0, .int .i64 0, .int .i64 0, .bool false]
theorem run_makePages (n : Nat) (hn : n ≤ 1000) (w : World) :
    (Instr.makeSlice 32 (.int .i64 (n : Int)) (.int .i64 (n : Int))).run Try.prog w = .ok (.slice (some ⟨w.heap.size, 0, none⟩) n n) (w.alloc (.cells (madeCells zpage (n * 3)) 27)) := by
  obtain ⟨i0, hi, hz0, hz1, hz2⟩ := info_parts info_page3
  have hr := run_make (P := Try.prog) w 32 27 i0 _ Try.underlying32 hi hz0 .i64 .i64 n n (by omega) (Int.le_refl _) (by rw [hz2]; omega) (by omega)
  simp only [Int.toNat_natCast, hz1] at hr
  exact hr
theorem run_makeBlocks (n : Nat) (hn : n ≤ 1000) (w : World) :
    (Instr.makeSlice 22 (.int .i64 (n : Int)) (.int .i64 (n : Int))).run Try.prog w = .ok (.slice (some ⟨w.heap.size, 0, none⟩) n n) (w.alloc (.cells (madeCells zblock (n * 4)) 34)) := by
  obtain ⟨i0, hi, hz0, hz1, hz2⟩ := info_parts info_block4
  have hr := run_make (P := Try.prog) w 22 34 i0 _ Try.underlying22 hi hz0 .i64 .i64 n n (by omega) (Int.le_refl _) (by rw [hz2]; omega) (by omega)
  simp only [Int.toNat_natCast, hz1] at hr
  exact hr
theorem made_get (z : Array Value) (n j : Nat) (h : j < n) : (madeCells z n)[j]? = some (z[j % z.size]!) := by simp [madeCells, h]
theorem made_pages (n : Nat) : (madeCells zpage (n * 3)).toList = pageCells (List.replicate n zeroPage) := by
  apply List.ext_getElem?
  intro j
  by_cases hj : j < n * 3
  · have hi : j / 3 < (List.replicate n zeroPage).length := by simp; omega
    obtain ⟨g0, g1, g2⟩ := pageCells_get hi
    rw [Array.getElem?_toList, made_get _ _ _ hj]
    have hr : j % 3 = 0 ∨ j % 3 = 1 ∨ j % 3 = 2 := by omega
    rcases hr with hr | hr | hr
    · have e : j = j / 3 * 3 := by omega
      rw [show j % zpage.size = 0 from hr]
      rw [e, g0]; simp [zeroPage]
    · have e : j = j / 3 * 3 + 1 := by omega
      rw [show j % zpage.size = 1 from hr]
      rw [e, g1]; simp [zeroPage]
    · have e : j = j / 3 * 3 + 2 := by omega
      rw [show j % zpage.size = 2 from hr]
      rw [e, g2]; simp [zeroPage]
  · rw [List.getElem?_eq_none (by simp [size_madeCells]; omega), List.getElem?_eq_none (by rw [pageCells_length]; simp; omega)]
/-- pages that are made are owned -/
theorem made_owns (w : World) (n : Nat) (hn : n ≤ 1000) (base : Nat) (hb : base ≤ w.heap.size) : (w.alloc (.cells (madeCells zpage (n * 3)) 27)).ownsRow base 27 3 (.slice (some ⟨w.heap.size, 0, none⟩) n n) n (pageCells (List.replicate n zeroPage)) := by
  refine ⟨by rw [pageCells_length]; simp, .inr ⟨w.heap.size, n, _, rfl, hb, heap_alloc_new w _, Nat.le_refl _, by unfold maxLen; omega, size_madeCells _ _, ?_⟩⟩
  rw [← made_pages, List.take_of_length_le (by simp [size_madeCells])]
theorem made_pagesAt (w : World) (n : Nat) (hn : n ≤ 1000) : PagesAt (fun x => x = w.heap.size) (w.alloc (.cells (madeCells zpage (n * 3)) 27)) (.slice (some ⟨w.heap.size, 0, none⟩) n n) (List.replicate n zeroPage) := by
  have h := made_owns w n hn 0 (Nat.zero_le _)
  have h2 := PagesAt.of_owns (ps := List.replicate n zeroPage) (by rw [List.length_replicate]; exact h)
  exact h2.mono fun x hx _ => by simp [Value.ownBlock] at hx; exact hx.symm
/-- a block more behind a row of blocks, as a step of a region that draws -/
theorem step_pushBlock_drew {ops : Array Oper} {o : Oper} {a : Act} {K : Act → World → Prop} {Q : Exit → Act → World → Prop} {E : Prop} {w : World} (hgd : o.guard = none) (s x : Operand)
    (ho : o.op = .call { callee := .builtin .append, args := #[s, x], argTypes := #[22, 22] })
    (base : Nat) (v : Value) (vs : List Value) (bs : List BlockT) (hvs : vs.length = bs.length) (n : Nat) (hs : a.eval s = v) (hown : w.ownsRow base 34 4 v n (blockCells vs bs)) (hbase : base ≤ w.heap.size)
    (op : Option Addr) (np cp : Nat) (b : BlockT) (B : Nat) (hB : B = w.heap.size) (hx : a.eval x = .slice (some ⟨B, 0, none⟩) 1 1) (hlen : n ≤ 1000)
    (h : ∀ v' w', w'.ownsRow base 34 4 v' (n + 1) (blockCells (vs ++ [.slice op np cp]) (bs ++ [b])) → w.grownBy w' v.ownBlock → (v'.ownBlock = v.ownBlock ∨ ∃ g, v'.ownBlock = some g ∧ w.heap.size ≤ g) → K (a.put o.dst v') w') :
    if Region.wanted o (yielded ops a.tmps) = true then Oper.wp Try.prog o a (w.alloc (.cells #[.slice op np cp, .int .i64 b.2.1, .int .i64 b.2.2.1, .bool b.2.2.2] 34)).drew K Q else E := by
  obtain ⟨i0, hi, hz0, hz1, hz2⟩ := info_parts info_block4
  subst hB
  have hw : Region.wanted o (yielded ops a.tmps) = true := by simp [Region.wanted, hgd]
  rw [if_pos hw]
  have hown2 : (w.alloc (.cells #[.slice op np cp, .int .i64 b.2.1, .int .i64 b.2.2.1, .bool b.2.2.2] 34)).drew.ownsRow base 34 4 v n (blockCells vs bs) := hown.alloc _
  obtain ⟨v', w', hr, h2, h3, _, h5⟩ := run_append_own_at (P := Try.prog) (w.alloc (.cells #[.slice op np cp, .int .i64 b.2.1, .int .i64 b.2.2.1, .bool b.2.2.2] 34)).drew base 22 o.type 34 i0 _ 4 48 Try.underlying22 hi hz0 hz1 hz2 rfl (by decide) v n (blockCells vs bs) hown2 ⟨w.heap.size, 0, none⟩ 1 1 [.slice op np cp, .int .i64 b.2.1, .int .i64 b.2.2.1, .bool b.2.2.2] rfl
    (by
      intro j u hj
      rw [add_none, Nat.zero_add]
      show (w.alloc _).cell? _ = _
      rw [World.cell?_alloc_mark]
      simpa using hj)
    (by intro u hu; simp at hu; rcases hu with rfl | rfl | rfl | rfl <;> rfl) (by unfold maxLen; omega) (by omega) (by show base ≤ (w.heap.push _).size; simp; omega)
  unfold Oper.wp execOp
  simp only [ho, resolve, invoke, builtin, Sem.run_bind, Sem.run_pure, Result.andThen_ok, List.map_toArray, List.map_cons, List.map_nil, hs, hx, hr]
  have hsz : w.heap.size ≤ (w.heap.push (Obj.cells #[.slice op np cp, .int .i64 b.2.1, .int .i64 b.2.2.1, .bool b.2.2.2] 34)).size := by simp
  refine h v' w' (by rw [blockCells_snoc hvs]; exact h2) ?_ ?_
  · exact ⟨h3.os, h3.tape, h3.output, Nat.le_trans hsz h3.size, fun k hk hne => (h3.block k (Nat.lt_of_lt_of_le hk hsz) hne).trans (Below.heap_alloc w _ k hk)⟩
  · rcases h5 with h5 | h5
    · exact .inl h5
    · exact .inr ⟨_, h5, hsz⟩
end Go.Proofs.Ytcjhaapmehegkaa.Nand
