/-
  ChipMakes, NandNews, NandMath, NandPast: in one text (merge.json).
-/
import Derived.Test.YtedopplldpcinaaGreatNandLow
import Derived.Laws.MakeOwn
import Derived.Test.YtedopplldpcinaaGreatNandSpecs
import Derived.Deep.RegionLaw
/-
  Rows of pages and of blocks that are made.
-/
namespace Go.Proofs.YtedopplldpcinaaGreat.Nand
open Go.RowKit

abbrev zpage : Array Value := #[.bool false, .string ⟨#[]⟩, .string ⟨#[]⟩]
abbrev zblock : Array Value := #[.slice none 0 0, .int .i64 0, .int .i64 0, .bool false]
theorem run_makePages (n : Nat) (hn : n ≤ 1000) (w : World) :
    (Instr.makeSlice 29 (.int .i64 (n : Int)) (.int .i64 (n : Int))).run Tryz.prog w = .ok (.slice (some ⟨w.heap.size, 0, none⟩) n n) (w.alloc (.cells (madeCells zpage (n * 3)) 33)) := by
  obtain ⟨i0, hi, hz0, hz1, hz2⟩ := info_parts info_page3
  have hr := run_make (P := Tryz.prog) w 29 33 i0 _ Tryz.underlying29 hi hz0 .i64 .i64 n n (by omega) (Int.le_refl _) (by rw [hz2]; omega) (by omega)
  simp only [Int.toNat_natCast, hz1] at hr
  exact hr
theorem run_makeBlocks (n : Nat) (hn : n ≤ 1000) (w : World) :
    (Instr.makeSlice 22 (.int .i64 (n : Int)) (.int .i64 (n : Int))).run Tryz.prog w = .ok (.slice (some ⟨w.heap.size, 0, none⟩) n n) (w.alloc (.cells (madeCells zblock (n * 4)) 31)) := by
  obtain ⟨i0, hi, hz0, hz1, hz2⟩ := info_parts info_block4
  have hr := run_make (P := Tryz.prog) w 22 31 i0 _ Tryz.underlying22 hi hz0 .i64 .i64 n n (by omega) (Int.le_refl _) (by rw [hz2]; omega) (by omega)
  simp only [Int.toNat_natCast, hz1] at hr
  exact hr
theorem made_get (z : Array Value) (n j : Nat) (h : j < n) : (madeCells z n)[j]? = some (z[j % z.size]!) := by simp [madeCells, h]
theorem made_pages (n : Nat) : (madeCells zpage (n * 3)).toList = pageCells (List.replicate n zeroPage) := by
  apply List.ext_getElem?
  intro j
  by_cases hj : j < n * 3
  · have hi : j / 3 < (List.replicate n zeroPage).length := by simp; omega
    obtain ⟨g0, g1, g2⟩ := pageCells_get hi
    rw [Array.getElem?_toList, made_get _ _ _ hj]
    have hr : j % 3 = 0 ∨ j % 3 = 1 ∨ j % 3 = 2 := by omega
    rcases hr with hr | hr | hr
    · have e : j = j / 3 * 3 := by omega
      rw [show j % zpage.size = 0 from hr]
      rw [e, g0]; simp [zeroPage]
    · have e : j = j / 3 * 3 + 1 := by omega
      rw [show j % zpage.size = 1 from hr]
      rw [e, g1]; simp [zeroPage]
    · have e : j = j / 3 * 3 + 2 := by omega
      rw [show j % zpage.size = 2 from hr]
      rw [e, g2]; simp [zeroPage]
  · rw [List.getElem?_eq_none (by simp [size_madeCells]; omega), List.getElem?_eq_none (by rw [pageCells_length]; simp; omega)]
/-- pages that are made are owned -/
theorem made_owns (w : World) (n : Nat) (hn : n ≤ 1000) (base : Nat) (hb : base ≤ w.heap.size) : (w.alloc (.cells (madeCells zpage (n * 3)) 33)).ownsRow base 33 3 (.slice (some ⟨w.heap.size, 0, none⟩) n n) n (pageCells (List.replicate n zeroPage)) := by
  refine ⟨by rw [pageCells_length]; simp, .inr ⟨w.heap.size, n, _, rfl, hb, heap_alloc_new w _, Nat.le_refl _, by unfold maxLen; omega, size_madeCells _ _, ?_⟩⟩
  rw [← made_pages, List.take_of_length_le (by simp [size_madeCells])]
theorem made_pagesAt (w : World) (n : Nat) (hn : n ≤ 1000) : PagesAt (fun x => x = w.heap.size) (w.alloc (.cells (madeCells zpage (n * 3)) 33)) (.slice (some ⟨w.heap.size, 0, none⟩) n n) (List.replicate n zeroPage) := by
  have h := made_owns w n hn 0 (Nat.zero_le _)
  have h2 := PagesAt.of_owns (ps := List.replicate n zeroPage) (by rw [List.length_replicate]; exact h)
  exact h2.mono fun x hx _ => by simp [Value.ownBlock] at hx; exact hx.symm
/-- a block more behind a row of blocks, as a step of a region that draws -/
theorem step_pushBlock_drew {ops : Array Oper} {o : Oper} {a : Act} {K : Act → World → Prop} {Q : Exit → Act → World → Prop} {E : Prop} {w : World} (hgd : o.guard = none) (s x : Operand)
    (ho : o.op = .call { callee := .builtin .append, args := #[s, x], argTypes := #[22, 22] })
    (base : Nat) (v : Value) (vs : List Value) (bs : List BlockT) (hvs : vs.length = bs.length) (n : Nat) (hs : a.eval s = v) (hown : w.ownsRow base 31 4 v n (blockCells vs bs)) (hbase : base ≤ w.heap.size)
    (op : Option Addr) (np cp : Nat) (b : BlockT) (B : Nat) (hB : B = w.heap.size) (hx : a.eval x = .slice (some ⟨B, 0, none⟩) 1 1) (hlen : n ≤ 1000)
    (h : ∀ v' w', w'.ownsRow base 31 4 v' (n + 1) (blockCells (vs ++ [.slice op np cp]) (bs ++ [b])) → w.grownBy w' v.ownBlock → (v'.ownBlock = v.ownBlock ∨ ∃ g, v'.ownBlock = some g ∧ w.heap.size ≤ g) → K (a.put o.dst v') w') :
    if Region.wanted o (yielded ops a.tmps) = true then Oper.wp Tryz.prog o a (w.alloc (.cells #[.slice op np cp, .int .i64 b.2.1, .int .i64 b.2.2.1, .bool b.2.2.2] 31)).drew K Q else E := by
  obtain ⟨i0, hi, hz0, hz1, hz2⟩ := info_parts info_block4
  subst hB
  have hw : Region.wanted o (yielded ops a.tmps) = true := by simp [Region.wanted, hgd]
  rw [if_pos hw]
  have hown2 : (w.alloc (.cells #[.slice op np cp, .int .i64 b.2.1, .int .i64 b.2.2.1, .bool b.2.2.2] 31)).drew.ownsRow base 31 4 v n (blockCells vs bs) := hown.alloc _
  obtain ⟨v', w', hr, h2, h3, _, h5⟩ := run_append_own_at (P := Tryz.prog) (w.alloc (.cells #[.slice op np cp, .int .i64 b.2.1, .int .i64 b.2.2.1, .bool b.2.2.2] 31)).drew base 22 o.type 31 i0 _ 4 48 Tryz.underlying22 hi hz0 hz1 hz2 rfl (by decide) v n (blockCells vs bs) hown2 ⟨w.heap.size, 0, none⟩ 1 1 [.slice op np cp, .int .i64 b.2.1, .int .i64 b.2.2.1, .bool b.2.2.2] rfl
    (by
      intro j u hj
      rw [add_none, Nat.zero_add]
      show (w.alloc _).cell? _ = _
      rw [World.cell?_alloc_mark]
      simpa using hj)
    (by intro u hu; simp at hu; rcases hu with rfl | rfl | rfl | rfl <;> rfl) (by unfold maxLen; omega) (by omega) (by show base ≤ (w.heap.push _).size; simp; omega)
  unfold Oper.wp execOp
  simp only [ho, resolve, invoke, builtin, Sem.run_bind, Sem.run_pure, Result.andThen_ok, List.map_toArray, List.map_cons, List.map_nil, hs, hx, hr]
  have hsz : w.heap.size ≤ (w.heap.push (Obj.cells #[.slice op np cp, .int .i64 b.2.1, .int .i64 b.2.2.1, .bool b.2.2.2] 31)).size := by simp
  refine h v' w' (by rw [blockCells_snoc hvs]; exact h2) ?_ ?_
  · exact ⟨h3.os, h3.tape, h3.output, Nat.le_trans hsz h3.size, fun k hk hne => (h3.block k (Nat.lt_of_lt_of_le hk hsz) hne).trans (Below.heap_alloc w _ k hk)⟩
  · rcases h5 with h5 | h5
    · exact .inl h5
    · exact .inr ⟨_, h5, hsz⟩
end Go.Proofs.YtedopplldpcinaaGreat.Nand
/-
  Layer 5: New, by the document.
-/
namespace Go.Proofs.YtedopplldpcinaaGreat.Nand
open Go.RowKit

def newBlocks (N M : Nat) (bad : List Int) : List BlockT := (List.range N).map fun (i : Nat) => (List.replicate M zeroPage, (0 : Int), (0 : Int), decide ((i : Int) ∈ bad))
theorem newBlocks_length (N M : Nat) (bad : List Int) : (newBlocks N M bad).length = N := by simp [newBlocks]
theorem newBlocks_get (N M : Nat) (bad : List Int) {i : Nat} (h : i < N) : (newBlocks N M bad)[i]? = some (List.replicate M zeroPage, 0, 0, decide ((i : Int) ∈ bad)) := by simp [newBlocks, h]
theorem newBlocks_set (N M : Nat) (l : List Int) {j : Nat} (h : j < N) : (newBlocks N M l).set j (List.replicate M zeroPage, 0, 0, true) = newBlocks N M (l ++ [(j : Int)]) := by
  apply List.ext_getElem?
  intro i
  rw [List.getElem?_set]
  by_cases hi : i < N
  · rw [newBlocks_get N M (l ++ [(j : Int)]) hi]
    by_cases e : j = i
    · subst e
      rw [if_pos rfl, if_pos (by rw [newBlocks_length]; exact h), decide_eq_true (show (j : Int) ∈ l ++ [(j : Int)] by simp)]
    · rw [if_neg e, newBlocks_get N M l hi]
      have hm : ((i : Int) ∈ l ++ [(j : Int)]) ↔ ((i : Int) ∈ l) := by
        rw [List.mem_append, List.mem_singleton]
        exact ⟨fun h => h.elim id (fun h => absurd (by omega) e), .inl⟩
      rw [decide_eq_decide.2 hm]
  · have e : ¬ j = i := by omega
    rw [if_neg e, List.getElem?_eq_none (by rw [newBlocks_length]; omega), List.getElem?_eq_none (by rw [newBlocks_length]; omega)]
theorem newC_yes {N M : Nat} {bad : List Int} (h1 : 1 ≤ N) (h2 : N ≤ 32) (h3 : 1 ≤ M) (h4 : M ≤ 16) (hb : ∀ b ∈ bad, 0 ≤ b ∧ b < (N : Int)) : newC N M bad = ((newBlocks N M bad, false, false, 0), 0) := by
  unfold newC
  rw [if_pos ⟨by omega, by omega, by omega, by omega, hb⟩]
  rfl
theorem newC_no {n m : Int} {bad : List Int} (h : ¬ (1 ≤ n ∧ n ≤ 32 ∧ 1 ≤ m ∧ m ≤ 16 ∧ ∀ b ∈ bad, 0 ≤ b ∧ b < n)) : newC n m bad = (([], false, false, 0), 1) := by
  unfold newC; rw [if_neg h]
theorem OwningV.setCell {vs : List Value} {R : Nat → Nat → Prop} {bs : List BlockT} {base hi : Nat} {w : World} {l : Value} {k : Nat} (h : OwningV vs R bs base hi w l k) {p : Addr} (hp : p.block < base) (x : Value) : OwningV vs R bs base hi (w.setCell p x) l k := by
  obtain ⟨h1, h2, h2', h3, h4, h5, h6, h7⟩ := h
  exact ⟨h1, by rw [size_setCell]; exact h2, h2', ownsRow_setCell_below h3 hp x, fun i a b => (h4 i a b).setCell (fun hx => by have := (h5 i _ hx).2.1; omega) x, fun i y hy => by
    obtain ⟨a, b, c, d, e⟩ := h5 i y hy
    exact ⟨a, b, c, d.setCell _ _, e⟩, h6, h7⟩

set_option maxHeartbeats 4000000 in
set_option maxRecDepth 100000 in
theorem refNewOwn (n m : Int) (vl : Value) (bad : List Int) (w : World) (hl : Ints .i64 w vl bad) (hlen : bad.length ≤ 1000) :
    Calls Tryz.prog 11 #[.int .i64 n, .int .i64 m, vl] w fun e w' => (∃ v', e = .returned (.tuple #[chipV v' (newC n m bad).1.2.1 (newC n m bad).1.2.2.1 (newC n m bad).1.2.2.2, .int .i64 (newC n m bad).2]) ∧ OwnS (fun x => w.heap.size ≤ x) w' v' (newC n m bad).1.1) ∧ Mem w w' := by
  obtain ⟨ob, cb, rfl⟩ := hl.shape
  have hR0 := Blk.new w #[.slice none 0 0, .bool false, .bool false, .int .i64 0] 24
  have hm0 : Mem w (w.alloc (.cells #[.slice none 0 0, .bool false, .bool false, .int .i64 0] 24)) := (Mem.refl w).alloc _
  by_cases hg : 1 ≤ n ∧ n ≤ 32 ∧ 1 ≤ m ∧ m ≤ 16
  case neg =>
    have HN : Hid (newC n m bad = (([], false, false, 0), 1)) := newC_no (fun h => hg ⟨h.1, h.2.1, h.2.2.1, h.2.2.2.1⟩)
    have hc : n < 1 ∨ (1 ≤ n ∧ 32 < n) ∨ (1 ≤ n ∧ n ≤ 32 ∧ m < 1) ∨ (1 ≤ n ∧ n ≤ 32 ∧ 1 ≤ m ∧ 16 < m) := by omega
    clear hg
    rcases hc with h | ⟨h, h'⟩ | ⟨h, h', h''⟩ | ⟨h, h', h'', h'''⟩
    all_goals (
      go_enter Tryz.func11, Tryz.ntmps11
      go_wp2_with fail
      refine bodyPost_ret (ret_chip rfl _ _ rfl hR0) rfl ⟨?_, hm0⟩
      rw [HN.out]
      exact ⟨_, rfl, by simp [maxLen], .inl ⟨rfl, _, _, rfl⟩⟩)
  obtain ⟨h1, h2, h3, h4⟩ := hg
  obtain ⟨N, rfl⟩ := Int.eq_ofNat_of_zero_le (show 0 ≤ n by omega)
  obtain ⟨M, rfl⟩ := Int.eq_ofNat_of_zero_le (show 0 ≤ m by omega)
  have hmk := run_makePages M (by omega)
  have hR : Blk ((w.alloc (.cells #[.slice none 0 0, .bool false, .bool false, .int .i64 0] 24)).alloc (.cells #[.slice none 0 0, .bool false, .bool false, .int .i64 0] 24)) w.heap.size 24 #[.slice none 0 0, .bool false, .bool false, .int .i64 0] := hR0.alloc _
  have hC := blk_second w (.cells #[.slice none 0 0, .bool false, .bool false, .int .i64 0] 24) #[.slice none 0 0, .bool false, .bool false, .int .i64 0] 24
  have hm : Mem w ((w.alloc (.cells #[.slice none 0 0, .bool false, .bool false, .int .i64 0] 24)).alloc (.cells #[.slice none 0 0, .bool false, .bool false, .int .i64 0] 24)) := hm0.alloc _
  have HL := hide hl
  have hbl := hl.1
  unfold maxLen at hbl
  clear hl
  go_enter Tryz.func11, Tryz.ntmps11
  go_wp2_with fail
  generalize hW : ((w.alloc (.cells #[.slice none 0 0, .bool false, .bool false, .int .i64 0] 24)).alloc (.cells #[.slice none 0 0, .bool false, .bool false, .int .i64 0] 24)) = W at *
  clear hW hR0 hm0
  have hbase : w.heap.size + 1 < W.heap.size := hC.lt
  go_loopw [9] (fun a wr => ∃ (k : Nat) (l : Value), k ≤ N ∧ a = .int .i64 k ∧ Owning (newBlocks N M []) W.heap.size wr.heap.size wr l k ∧ Blk wr (w.heap.size + 1) 24 #[l, .bool false, .bool false, .int .i64 0] ∧ Blk wr w.heap.size 24 #[.slice none 0 0, .bool false, .bool false, .int .i64 0] ∧ Mem w wr) (fun a _ => N - (intOf a).toNat)
  case atStart => exact ⟨0, _, Nat.zero_le _, rfl, Owning.start _ W, hC, hR, hm⟩
  case round =>
    obtain ⟨k, l, hk, rfl, hO, hC1, hR1, hm1⟩ := hrel
    have c0 := hC1.cell (j := 0) rfl
    have fc := hC1.frozen 0
    by_cases hlt : k < N
    · have hlt' : (k : Int) < (N : Int) := by omega
      obtain ⟨vs, R, hV⟩ := hO
      have mP : Mem wr (wr.alloc (.cells (madeCells zpage (M * 3)) 33)) := (Mem.refl wr).alloc _
      have hV2 := hV.mem mP
      have hle := Nat.le_trans hV2.2.2.1 hV2.2.1
      have hvl : vs.length = ((newBlocks N M []).take k).length := by rw [hV2.1, List.length_take, newBlocks_length]; omega
      have hk1 : k ≤ 1000 := by omega
      obtain ⟨ol, cl, hsh⟩ := ownsShape hV2.2.2.2.1
      subst hsh
      have KS : Hid (∀ W', Below W.heap.size wr W' → W'.cell? ⟨w.heap.size + 1, 0, none⟩ = some (.slice ol k cl) ∧ W'.frozen? ⟨w.heap.size + 1, 0, none⟩ = false) := fun W' h => ⟨by rw [Below.cell h (p := ⟨w.heap.size + 1, 0, none⟩) hbase]; exact c0, by rw [Below.frozen h (p := ⟨w.heap.size + 1, 0, none⟩) hbase]; exact fc⟩
      have a1 := (KS.out (wr.alloc (.cells (madeCells zpage (M * 3)) 33)) ((Below.refl _ wr).alloc (Nat.le_trans hV.2.2.1 hV.2.1) _)).1
      have a2 := (KS.out ((wr.alloc (.cells (madeCells zpage (M * 3)) 33)).alloc (.cells #[.slice (some ⟨wr.heap.size, 0, none⟩) M M, .int .i64 0, .int .i64 0, .bool false] 31)) (((Below.refl _ wr).alloc (Nat.le_trans hV.2.2.1 hV.2.1) _).alloc hle _)).1
      have hk2 : k < (newBlocks N M []).length := by rw [newBlocks_length]; exact hlt
      have HG : Hid ((newBlocks N M [])[k] = (List.replicate M zeroPage, 0, 0, false)) := by
        have h := newBlocks_get N M [] hlt
        rw [List.getElem?_eq_getElem hk2] at h
        injection h with h
      have HP3 : Hid (PagesAt (fun x => (Value.slice (some ⟨wr.heap.size, 0, none⟩) M M).ownBlock = some x) (wr.alloc (.cells (madeCells zpage (M * 3)) 33)) (.slice (some ⟨wr.heap.size, 0, none⟩) M M) (newBlocks N M [])[k].1) := by
        rw [HG.out]
        exact (made_pagesAt wr M (by omega)).mono fun x hx _ => by rw [hx]; rfl
      have HP2 : Hid (∀ x, (Value.slice (some ⟨wr.heap.size, 0, none⟩) M M).ownBlock = some x → wr.heap.size ≤ x ∧ x < (wr.alloc (.cells (madeCells zpage (M * 3)) 33)).heap.size ∧ Soft (wr.alloc (.cells (madeCells zpage (M * 3)) 33)) x) := fun x hx => by
        have e : wr.heap.size = x := by simpa [Value.ownBlock] using hx
        subst e
        exact ⟨Nat.le_refl _, by simp, Soft.of_owns (made_owns wr M (by omega) 0 (Nat.zero_le _)) rfl⟩
      go_wp2_with fail
      go_region_law ((refine step_pushBlock_drew (by rfl) _ _ (by rfl) W.heap.size _ vs ((newBlocks N M []).take k) hvl k (by rfl) hV2.2.2.2.1 hle (some ⟨wr.heap.size, 0, none⟩) M M (List.replicate M zeroPage, 0, 0, false) (wr.heap.size + 1) (by simp) (by rfl) hk1 ?_; intro l' w' g1 g2 g3; obtain ⟨ol', cl', hsh'⟩ := ownsShape g1; subst hsh'; have q1 := (KS.out _ (Below.trans ((Below.refl _ wr).alloc (Nat.le_trans hV.2.2.1 hV.2.1) _) ((Below.refl W.heap.size _).grown g2 hle (fun x hx => (hV2.2.2.2.1.lt x hx).1)))).1; have q2 := (KS.out _ (Below.trans ((Below.refl _ wr).alloc (Nat.le_trans hV.2.2.1 hV.2.1) _) ((Below.refl W.heap.size _).grown g2 hle (fun x hx => (hV2.2.2.2.1.lt x hx).1)))).2))
      all_goals (
        rw [← HG.out] at g1
        have hO' := hV2.push hk2 HP3.out HP2.out g1 g2 (W := wr.heap.size + 1) (by simp) (by simpa using g3)
        obtain ⟨vs', R', hV'⟩ := hO'
        have mB : Below W.heap.size wr w' := Below.trans ((Below.refl _ wr).alloc (Nat.le_trans hV.2.2.1 hV.2.1) _) ((Below.refl W.heap.size _).grown g2 hle (fun x hx => (hV2.2.2.2.1.lt x hx).1))
        have hC' : Blk (w'.setCell ⟨w.heap.size + 1, 0, none⟩ (.slice ol' (k + 1) cl')) (w.heap.size + 1) 24 #[.slice ol' (k + 1) cl', .bool false, .bool false, .int .i64 0] := (hC1.below mB hbase).set 0 _
        have hR' := (hR1.below mB (by omega)).other (a := ⟨w.heap.size + 1, 0, none⟩) (by show w.heap.size ≠ w.heap.size + 1; omega) (.slice ol' (k + 1) cl')
        have hm' : Mem w (w'.setCell ⟨w.heap.size + 1, 0, none⟩ (.slice ol' (k + 1) cl')) := Mem.setCell (Below.trans hm1 (Below.mono mB (by omega))) (p := ⟨w.heap.size + 1, 0, none⟩) (by show w.heap.size ≤ w.heap.size + 1; omega) _
        have hOn : Owning (newBlocks N M []) W.heap.size (w'.setCell ⟨w.heap.size + 1, 0, none⟩ (.slice ol' (k + 1) cl')).heap.size (w'.setCell ⟨w.heap.size + 1, 0, none⟩ (.slice ol' (k + 1) cl')) (.slice ol' (k + 1) cl') (k + 1) := ⟨vs', R', by rw [size_setCell]; exact hV'.setCell (p := ⟨w.heap.size + 1, 0, none⟩) hbase _⟩
        clear g1 g2 g3 hV' hV2 hV q1 q2 a1 a2 c0 fc hC1 hR1 hm1 HP3 HP2 HG KS mB mP
        go_wp2_with fail
        go_roundw
        case rel => exact ⟨k + 1, _, by omega, by go_num, hOn, hC', hR', hm'⟩
        case measure => simp [intOf]; omega)
    · have hke : k = N := by omega
      subst hke
      have hOB : OwnB W.heap.size wr l (newBlocks k M []) := Owning.whole (hi := wr.heap.size) (by rw [newBlocks_length]; exact hO)
      obtain ⟨g, cap, R, hl1, hcap, h1o⟩ := hOB.one (i := 0) (by rw [newBlocks_length]; omega)
      rw [newBlocks_length] at hl1 hcap
      have HCap := hide hcap
      clear hcap
      subst hl1
      clear hO hOB
      clear hC hR hm
      have hlt' : ¬ ((k : Int) < (k : Int)) := by omega
      go_wp2_with fail
      clear hlt' c0 fc
      go_loopw [10] (fun a wq => ∃ q : Nat, q ≤ bad.length ∧ a = .int .i64 q ∧ (∀ b ∈ bad.take q, 0 ≤ b ∧ b < (k : Int)) ∧ Own1 W.heap.size wq g R (newBlocks k M (bad.take q)) ∧ Blk wq (w.heap.size + 1) 24 #[.slice (some ⟨g, 0, none⟩) k cap, .bool false, .bool false, .int .i64 0] ∧ Blk wq w.heap.size 24 #[.slice none 0 0, .bool false, .bool false, .int .i64 0] ∧ Mem w wq) (fun a _ => bad.length - (intOf a).toNat)
      case atStart => exact ⟨0, Nat.zero_le _, rfl, fun b hb => by simp at hb, h1o, hC1, hR1, hm1⟩
      case round =>
        clear h1o hC1 hR1 hm1
        obtain ⟨q, hq, rfl, hall, h1q, hCq, hRq, hmq⟩ := hrel
        have HA := hide hall
        clear hall
        have hgb : W.heap.size ≤ g := h1q.1
        have c0 := hCq.cell (j := 0) rfl
        have z0 := hRq.cell (j := 0) rfl
        have z1 := hRq.cell (j := 1) rfl
        have z2 := hRq.cell (j := 2) rfl
        have z3 := hRq.cell (j := 3) rfl
        have y0 := hRq.frozen 0
        have y1 := hRq.frozen 1
        have y2 := hRq.frozen 2
        have y3 := hRq.frozen 3
        by_cases hlq : q < bad.length
        · have hlq' : (q : Int) < (bad.length : Int) := by omega
          have hq0 : (0 : Int) ≤ (q : Int) := by omega
          obtain ⟨bb, bo, hob, hcell⟩ := (HL.out.mem hmq).at (by omega)
          subst hob
          have x0 := hcell q hlq
          have HT : Hid (bad.take (q + 1) = bad.take q ++ [bad.getD q 0]) := by
            show _ = _; rw [List.take_succ_eq_append_getElem hlq]; simp [hlq]
          have HM : Hid (bad.getD q 0 ∈ bad) := by show _ ∈ _; simp [hlq]
          clear hcell
          generalize bad.getD q 0 = x at *
          by_cases hx0 : x < 0
          · have HN : Hid (newC (k : Int) (M : Int) bad = (([], false, false, 0), 1)) := newC_no (fun h => by have := (h.2.2.2.2 x HM.out).1; omega)
            go_wp2_with fail
            refine bodyPost_ret (ret_chip rfl _ _ rfl (hRq.put4 _ _ _ _)) rfl ⟨?_, hmq.put4 (Nat.le_refl _) _ _ _ _⟩
            rw [HN.out]
            exact ⟨_, rfl, by simp [maxLen], .inl ⟨rfl, _, _, rfl⟩⟩
          have hx0' : 0 ≤ x := by omega
          by_cases hxk : (k : Int) ≤ x
          · have HN : Hid (newC (k : Int) (M : Int) bad = (([], false, false, 0), 1)) := newC_no (fun h => by have := (h.2.2.2.2 x HM.out).2; omega)
            go_wp2_with fail
            refine bodyPost_ret (ret_chip rfl _ _ rfl (hRq.put4 _ _ _ _)) rfl ⟨?_, hmq.put4 (Nat.le_refl _) _ _ _ _⟩
            rw [HN.out]
            exact ⟨_, rfl, by simp [maxLen], .inl ⟨rfl, _, _, rfl⟩⟩
          have hxk' : x < (k : Int) := by omega
          obtain ⟨j, rfl⟩ := Int.eq_ofNat_of_zero_le hx0'
          have hjk : j < k := by omega
          have hget := newBlocks_get k M (bad.take q) hjk
          obtain ⟨op, cp, v0, v1, v2, v3, _, fz⟩ := h1q.at hget
          have fz3 := fz (j * 4 + 3)
          have h1n := (h1q.bad hget true).drew
          rw [newBlocks_set k M _ hjk, ← HT.out] at h1n
          have hCn := (hCq.other (a := ⟨g, j * 4 + 3, none⟩) (by show w.heap.size + 1 ≠ g; omega) (.bool true)).drew
          have hRn := (hRq.other (a := ⟨g, j * 4 + 3, none⟩) (by show w.heap.size ≠ g; omega) (.bool true)).drew
          have hmn := (hmq.setCell (p := ⟨g, j * 4 + 3, none⟩) (by show w.heap.size ≤ g; omega) (.bool true)).drew
          have HAn : Hid (∀ b ∈ bad.take (q + 1), 0 ≤ b ∧ b < (k : Int)) := by
            intro b hb
            rw [HT.out, List.mem_append, List.mem_singleton] at hb
            rcases hb with hb | rfl
            · exact HA.out b hb
            · exact ⟨hx0', hxk'⟩
          have hgl := h1q.2.1.1
          clear hget h1q hCq hRq hmq HT HM
          go_wp2_with fail
          go_region
          go_wp2_with fail
          go_roundw
          case rel => exact ⟨q + 1, by omega, by go_num, HAn.out, h1n, hCn, hRn, hmn⟩
          case measure => simp [intOf]; omega
        · have hqe : q = bad.length := by omega
          subst hqe
          rw [List.take_length] at h1q
          have hlq' : ¬ ((bad.length : Int) < (bad.length : Int)) := by omega
          have HN : Hid (newC (k : Int) (M : Int) bad = ((newBlocks k M bad, false, false, 0), 0)) := newC_yes (by omega) (by omega) (by omega) (by omega) (by have := HA.out; rw [List.take_length] at this; exact this)
          have c1 := hCq.cell (j := 1) rfl
          have c2 := hCq.cell (j := 2) rfl
          have c3 := hCq.cell (j := 3) rfl
          go_wp2_with fail
          refine bodyPost_ret (ret_chip rfl _ _ rfl (hRq.put4 _ _ _ _)) rfl ⟨?_, hmq.put4 (Nat.le_refl _) _ _ _ _⟩
          rw [HN.out]
          refine ⟨.slice (some ⟨g, 0, none⟩) k cap, rfl, ?_⟩
          have hw := (OwnB.put4 (h1q.whole k cap (by rw [newBlocks_length]) HCap.out) (b := w.heap.size) (by omega) (.slice (some ⟨g, 0, none⟩) k cap) (.bool false) (.bool false) (.int .i64 0)).base (b' := w.heap.size) (by omega)
          exact hw.owns (by rw [newBlocks_length]; unfold maxLen; omega)
theorem refNew : NewSpec 11 := fun n m vl bad w hl hlen => (refNewOwn n m vl bad w hl hlen).mono fun _ _ h => by
  obtain ⟨⟨v, he, ho⟩, hm⟩ := h
  exact ⟨⟨v, he, ho.to⟩, hm⟩
end Go.Proofs.YtedopplldpcinaaGreat.Nand
/-
  Layer 5: what stays of a chip's measures behind a program, an erase, a step.
-/
namespace Go.Proofs.YtedopplldpcinaaGreat.Nand
open Go.RowKit

/-- how many pages each block has -/
def dims (bs : List BlockT) : List Nat := bs.map fun b => b.1.length
theorem dims_length (bs : List BlockT) : (dims bs).length = bs.length := by simp [dims]
theorem dims_set {bs : List BlockT} {i : Nat} {b : BlockT} (h : b.1.length = (bs.getD i default).1.length) : dims (bs.set i b) = dims bs := by
  apply List.ext_getElem?
  intro j
  unfold dims
  rw [List.getElem?_map, List.getElem?_map, List.getElem?_set]
  by_cases e : i = j
  · subst e
    by_cases hi : i < bs.length
    · rw [if_pos rfl, if_pos hi, List.getElem?_eq_getElem hi]
      have : bs.getD i default = bs[i] := by simp [hi]
      rw [this] at h
      simp [h]
    · rw [if_pos rfl, if_neg hi, List.getElem?_eq_none (by omega)]
  · rw [if_neg e]
theorem program_dims (c : ChipT) (b p : Int) (pg : PageT) (f : FateT) : dims (program c b p pg f).1.1 = dims c.1 := by
  unfold program
  split
  · rfl
  · split
    · exact dims_set (by rw [List.length_set])
    · rfl
theorem erase_dims (c : ChipT) (b : Int) (f : FateT) : dims (erase c b f).1.1 = dims c.1 := by
  unfold erase
  split
  · rfl
  · split
    · split
      · exact dims_set rfl
      · split
        · exact dims_set (by rw [wipe_length])
        · exact dims_set (by rw [wipe_length])
    · rfl
theorem done_dims (c : ChipT) (s : StepT) : dims (doneR c s).1 = dims c.1 := by
  have h1 : dims (doneC c s).1.1 = dims c.1 := by
    unfold doneC
    split
    · exact erase_dims _ _ _
    · exact program_dims _ _ _ _ _
  unfold doneR
  split
  · exact h1
  · exact h1
theorem new_dims {N M : Nat} (bad : List Int) : dims (newBlocks N M bad) = List.replicate N M := by
  apply List.ext_getElem?
  intro j
  by_cases h : j < N
  · simp [dims, newBlocks, h]
  · rw [List.getElem?_eq_none (by rw [dims_length, newBlocks_length]; omega), List.getElem?_eq_none (by simp; omega)]
theorem dims_len {bs : List BlockT} {N M : Nat} (h : dims bs = List.replicate N M) : bs.length = N := by rw [← dims_length, h, List.length_replicate]
theorem dims_get {bs : List BlockT} {N M : Nat} (h : dims bs = List.replicate N M) {i : Nat} (hi : i < bs.length) : bs[i].1.length = M := by
  have h1 : (dims bs)[i]? = some bs[i].1.length := by simp [dims, hi]
  rw [h] at h1
  have hN := dims_len h
  simp [show i < N by omega] at h1
  exact h1.symm
theorem few_dims {bs : List BlockT} {N M : Nat} (h : dims bs = List.replicate N M) (hN : N ≤ 1000) (hM : M ≤ 1000) : Few bs := by
  refine ⟨by rw [dims_len h]; exact hN, fun b hb => ?_⟩
  obtain ⟨i, hi, rfl⟩ := List.getElem_of_mem hb
  rw [dims_get h hi]; exact hM
end Go.Proofs.YtedopplldpcinaaGreat.Nand
/-
  Layer 5: from Next on no page is written; and how long the tags are.
-/
namespace Go.Proofs.YtedopplldpcinaaGreat.Nand
open Go.RowKit

/-- from Next on no page is written -/
def Past0 (bs : List BlockT) : Prop := ∀ b ∈ bs, ∀ j (h : j < b.1.length), b.2.1 ≤ (j : Int) → b.1[j].1 = false
theorem Past0.set {bs : List BlockT} (h : Past0 bs) (i : Nat) {b : BlockT} (hb : ∀ j (h : j < b.1.length), b.2.1 ≤ (j : Int) → b.1[j].1 = false) : Past0 (bs.set i b) := by
  intro x hx
  rcases List.mem_or_eq_of_mem_set hx with h' | rfl
  · exact h x h'
  · exact hb
theorem Past0.get {bs : List BlockT} (h : Past0 bs) (i : Nat) : ∀ j (hj : j < (bs.getD i default).1.length), (bs.getD i default).2.1 ≤ (j : Int) → (bs.getD i default).1[j].1 = false := by
  intro j hj
  by_cases hi : i < bs.length
  · have e : bs.getD i default = bs[i] := by simp [hi]
    simp only [e] at hj ⊢
    exact h _ (List.getElem_mem hi) j hj
  · have e : bs.getD i default = default := by simp [hi]
    rw [e] at hj
    exact absurd hj (by show ¬ j < ([] : List PageT).length; simp)
theorem past0_prog {c : ChipT} (h : Past0 c.1) (b p : Int) (pg : PageT) (f : FateT) (hp : 0 ≤ p) : Past0 (program c b p pg f).1.1 := by
  unfold program
  split
  · exact h
  · split
    · rename_i hok
      have hn : (c.1.getD b.toNat default).2.1 = p := by unfold okProg at hok; simp at hok; exact hok.1.1.2
      refine h.set _ ?_
      intro j hj hle
      simp only [] at hj hle ⊢
      have hj' : j < (c.1.getD b.toNat default).1.length := by simpa using hj
      rw [List.getElem_set_ne (by omega)]
      exact h.get _ j hj' (by omega)
    · exact h
theorem past0_erase {c : ChipT} (h : Past0 c.1) (b : Int) : Past0 (erase c b (0, ⟨#[]⟩, ⟨#[]⟩, 0)).1.1 := by
  unfold erase
  split
  · exact h
  · split
    · rw [if_neg (by decide), if_pos rfl]
      refine h.set _ ?_
      intro j hj _
      simp only [] at hj ⊢
      have : (wipe (c.1.getD b.toNat default).1.length (c.1.getD b.toNat default).1)[j]? = some zeroPage := by
        rw [wipe_length] at hj
        unfold wipe
        rw [Nat.min_self, List.getElem?_append_left (by rw [List.length_replicate]; exact hj), List.getElem?_replicate, if_pos hj]
      obtain ⟨_, e⟩ := List.getElem?_eq_some_iff.1 this
      rw [e]; rfl
    · exact h
theorem past0_new (N M : Nat) : Past0 (newBlocks N M []) := by
  intro b hb j hj _
  unfold newBlocks at hb
  simp only [List.mem_map] at hb
  obtain ⟨i, _, rfl⟩ := hb
  simp [zeroPage]
theorem past0_any {c : ChipT} (h : Past0 c.1) (b p : Int) (pg : PageT) (f : FateT) : Past0 (program c b p pg f).1.1 := by
  by_cases hp : 0 ≤ p
  · exact past0_prog h b p pg f hp
  · have hok : okProg c.1 b p f = false := by
      unfold okProg thereB
      rw [decide_eq_false hp]
      simp
    unfold program
    split
    · exact h
    · rw [if_neg (by rw [hok]; decide)]
      exact h
theorem _root_.Go.Proofs.YtedopplldpcinaaGreat.Blk.far4 {w : World} {b b' : Nat} {t : TypeId} {cs : Array Value} (h : Blk w b t cs) (hb : b ≠ b') (x0 x1 x2 x3 : Value) :
    Blk ((((w.setCell ⟨b', 0, none⟩ x0).setCell ⟨b', 1, none⟩ x1).setCell ⟨b', 2, none⟩ x2).setCell ⟨b', 3, none⟩ x3) b t cs :=
  (((h.other (a := ⟨b', 0, none⟩) hb x0).other (a := ⟨b', 1, none⟩) hb x1).other (a := ⟨b', 2, none⟩) hb x2).other (a := ⟨b', 3, none⟩) hb x3
def Sized (bs : List BlockT) : Prop := ∀ b ∈ bs, ∀ p ∈ b.1, p.2.2.size ≤ maxLen
theorem Sized.get {bs : List BlockT} (h : Sized bs) (i : Nat) : ∀ p ∈ (bs.getD i default).1, p.2.2.size ≤ maxLen := by
  by_cases hi : i < bs.length
  · have e : bs.getD i default = bs[i] := by simp [hi]
    rw [e]
    exact h _ (List.getElem_mem hi)
  · have e : bs.getD i default = default := by simp [hi]
    rw [e]
    intro p hp
    have : p ∈ ([] : List PageT) := hp
    cases this
theorem Sized.set {bs : List BlockT} (h : Sized bs) (i : Nat) {b : BlockT} (hb : ∀ p ∈ b.1, p.2.2.size ≤ maxLen) : Sized (bs.set i b) := by
  intro x hx
  rcases List.mem_or_eq_of_mem_set hx with h' | rfl
  · exact h x h'
  · exact hb
theorem sized_prog {c : ChipT} (h : Sized c.1) (b p : Int) {pg : PageT} {f : FateT} (h1 : pg.2.2.size ≤ maxLen) (h2 : f.2.2.1.size ≤ maxLen) : Sized (program c b p pg f).1.1 := by
  unfold program
  split
  · exact h
  · split
    · refine h.set _ ?_
      intro x hx
      rcases List.mem_or_eq_of_mem_set hx with h' | rfl
      · exact h.get _ x h'
      · split
        · exact h1
        · exact h2
    · exact h
theorem sized_wipe {ps : List PageT} (h : ∀ p ∈ ps, p.2.2.size ≤ maxLen) (n : Nat) : ∀ p ∈ wipe n ps, p.2.2.size ≤ maxLen := by
  intro p hp
  unfold wipe at hp
  rw [List.mem_append] at hp
  rcases hp with hp | hp
  · rw [(List.mem_replicate.1 hp).2]
    exact Nat.zero_le _
  · exact h p (List.mem_of_mem_drop hp)
theorem sized_erase {c : ChipT} (h : Sized c.1) (b : Int) (f : FateT) : Sized (erase c b f).1.1 := by
  unfold erase
  split
  · exact h
  · split
    · split
      · exact h.set _ (h.get _)
      · split
        · exact h.set _ (sized_wipe (h.get _) _)
        · exact h.set _ (sized_wipe (h.get _) _)
    · exact h
theorem sized_new (N M : Nat) (bad : List Int) : Sized (newBlocks N M bad) := by
  intro b hb p hp
  unfold newBlocks at hb
  simp only [List.mem_map] at hb
  obtain ⟨i, _, rfl⟩ := hb
  rw [(List.mem_replicate.1 hp).2]
  exact Nat.zero_le _
/-- what a chip by numbers keeps to -/
def Inv (N M : Nat) (bs : List BlockT) : Prop := dims bs = List.replicate N M ∧ Past0 bs ∧ Sized bs
theorem inv_new (N M : Nat) : Inv N M (newBlocks N M []) := ⟨new_dims [], past0_new N M, sized_new N M []⟩
theorem inv_prog {N M : Nat} {c : ChipT} (h : Inv N M c.1) (b p : Int) {pg : PageT} {f : FateT} (h1 : pg.2.2.size ≤ maxLen) (h2 : f.2.2.1.size ≤ maxLen) : Inv N M (program c b p pg f).1.1 :=
  ⟨(program_dims c b p pg f).trans h.1, past0_any h.2.1 b p pg f, sized_prog h.2.2 b p h1 h2⟩
theorem inv_erase {N M : Nat} {c : ChipT} (h : Inv N M c.1) (b : Int) : Inv N M (erase c b (0, ⟨#[]⟩, ⟨#[]⟩, 0)).1.1 :=
  ⟨(erase_dims c b _).trans h.1, past0_erase h.2.1 b, sized_erase h.2.2 b _⟩
end Go.Proofs.YtedopplldpcinaaGreat.Nand
