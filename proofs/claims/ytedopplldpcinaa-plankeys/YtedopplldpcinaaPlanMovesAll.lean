/-
  PlanStep, PlanMovesC: in one text (merge.json).
-/
import Derived.Test.YtedopplldpcinaaPlanLow
import Derived.Test.YtedopplldpcinaaPlanTwinC
/-
  Layer 12: one write more onto a row of writes, as a step of a region that draws.
-/
namespace Go.Proofs.Ytedopplldpcinaa.Plan
open Go.RowKit Go.Proofs.Ytedopplldpcinaa.Nand Go.Proofs.Ytedopplldpcinaa.Scan

/-- one more onto a row of writes, as a step of a region: what is written lies in a new block -/
theorem step_pushWrite_drew {ops : Array Oper} {o : Oper} {a : Act} {K : Act → World → Prop} {Q : Exit → Act → World → Prop} {E : Prop} {w : World} (hgd : o.guard = none) (s x : Operand)
    (ho : o.op = .call { callee := .builtin .append, args := #[s, x], argTypes := #[43, 43] })
    (base : Nat) (v : Value) (xs : List WRowT) (n : Nat) (hs : a.eval s = v) (hown : w.ownsRow base 49 5 v n (wrCells xs)) (hbase : base ≤ w.heap.size)
    (z : WRowT) (B : Nat) (hB : B = w.heap.size) (hx : a.eval x = .slice (some ⟨B, 0, none⟩) 1 1) (hlen : n ≤ 1000000)
    (h : ∀ v' w', w'.ownsRow base 49 5 v' (n + 1) (wrCells (xs ++ [z])) → Below base w w' → (∀ g, g < w.heap.size → some g ≠ v.ownBlock → w'.heap[g]? = w.heap[g]?) → (v'.ownBlock = v.ownBlock ∨ ∃ g, v'.ownBlock = some g ∧ w.heap.size ≤ g) → K (a.put o.dst v') w') :
    if Region.wanted o (yielded ops a.tmps) = true then Oper.wp Try.prog o a (w.alloc (.cells #[.string z.1, .int .i64 z.2.1, .int .i64 z.2.2.1, .slice z.2.2.2.1.1 z.2.2.2.1.2.1 z.2.2.2.1.2.2, .slice z.2.2.2.2.1 z.2.2.2.2.2.1 z.2.2.2.2.2.2] 49)).drew K Q else E := by
  obtain ⟨i0, hi, hz0, hz1, hz2⟩ := info_parts info_write5
  have hw : Region.wanted o (yielded ops a.tmps) = true := by simp [Region.wanted, hgd]
  rw [if_pos hw]
  subst hB
  have c1 : ∀ j u, (encW z)[j]? = some u → (w.alloc (.cells #[.string z.1, .int .i64 z.2.1, .int .i64 z.2.2.1, .slice z.2.2.2.1.1 z.2.2.2.1.2.1 z.2.2.2.1.2.2, .slice z.2.2.2.2.1 z.2.2.2.2.2.1 z.2.2.2.2.2.2] 49)).drew.cell? ((⟨w.heap.size, 0, none⟩ : Addr).add j) = some u := by
    intro j u hj
    rw [add_none]
    refine (World.cell?_alloc_mark w _ _ _ _).trans ?_
    simpa [encW] using hj
  have c2 : ∀ u ∈ encW z, u.oneCell' = true := by intro u hu; simp [encW] at hu; rcases hu with rfl | rfl | rfl | rfl | rfl <;> rfl
  have c5 : base ≤ (w.alloc (.cells #[.string z.1, .int .i64 z.2.1, .int .i64 z.2.2.1, .slice z.2.2.2.1.1 z.2.2.2.1.2.1 z.2.2.2.1.2.2, .slice z.2.2.2.2.1 z.2.2.2.2.2.1 z.2.2.2.2.2.2] 49)).drew.heap.size := by show base ≤ (w.heap.push _).size; simp; omega
  obtain ⟨v', w', hr, h1, h2, -, h4⟩ := run_append_own_at (P := Try.prog) (w.alloc (.cells #[.string z.1, .int .i64 z.2.1, .int .i64 z.2.2.1, .slice z.2.2.2.1.1 z.2.2.2.1.2.1 z.2.2.2.1.2.2, .slice z.2.2.2.2.1 z.2.2.2.2.2.1 z.2.2.2.2.2.2] 49)).drew base 43 o.type 49 i0 _ 5 80 Try.underlying43 hi hz0 hz1 hz2 rfl (by decide) v n (wrCells xs) (hown.alloc _).drew ⟨w.heap.size, 0, none⟩ 1 1 (encW z) rfl c1 c2 (by unfold maxLen; omega) (by omega) c5
  unfold Oper.wp execOp
  simp only [ho, resolve, invoke, builtin, Sem.run_bind, Sem.run_pure, Result.andThen_ok, List.map_toArray, List.map_cons, List.map_nil, hs, hx, hr]
  refine h v' w' (by rw [wrCells_snoc]; exact h1) ?_ (fun g hg hne => (h2.block g (by show g < (w.heap.push _).size; simp; omega) hne).trans (Below.heap_alloc w _ g hg)) ?_
  · exact ((Below.refl base w).alloc hbase _).drew.grown h2 (by show base ≤ (w.heap.push _).size; simp; omega) (fun k hk => (hown.lt k hk).1)
  · rcases h4 with h4 | h4
    · exact .inl h4
    · exact .inr ⟨_, h4, by show w.heap.size ≤ (w.heap.push _).size; simp⟩
end Go.Proofs.Ytedopplldpcinaa.Plan
/-
  Layer 12, the document: Moves.
-/
namespace Go.Proofs.Ytedopplldpcinaa.Plan
open Go.RowKit Go.Proofs.Ytedopplldpcinaa.Nand Go.Proofs.Ytedopplldpcinaa.Scan Go.Proofs.Ytedopplldpcinaa.Live Go.Proofs.Ytedopplldpcinaa.Replay

/-- writes on their way: a row that the call owns, and lists beside it -/
def HeldW (base : Nat) (w : World) (v : Value) (ws : List WriteT) : Prop :=
  ∃ xs, w.ownsRow base 49 5 v ws.length (wrCells xs) ∧ FitsWL (fun x => base ≤ x ∧ some x ≠ v.ownBlock) w xs ws
theorem HeldW.nil (base : Nat) (w : World) : HeldW base w (.slice none 0 0) [] := ⟨[], World.ownsRow_nil _ _ _ _, FitsWL.nil _ _⟩
theorem HeldW.mem {base : Nat} {w w' : World} {v : Value} {ws : List WriteT} (h : HeldW base w v ws) (m : Mem w w') : HeldW base w' v ws := by
  obtain ⟨xs, o, f⟩ := h
  exact ⟨xs, owns_below o m, f.mem m⟩
theorem HeldW.pushed {base : Nat} {w w' : World} {v v' : Value} {xs : List WRowT} {ws : List WriteT} {z : WRowT} {f : WriteT} (hf : FitsWL (fun x => base ≤ x ∧ some x ≠ v.ownBlock) w xs ws) (hz : FitsW (fun x => base ≤ x ∧ some x ≠ v.ownBlock) w z f)
    (h1 : w'.ownsRow base 49 5 v' (ws.length + 1) (wrCells (xs ++ [z]))) (hk : ∀ g, g < w.heap.size → some g ≠ v.ownBlock → w'.heap[g]? = w.heap[g]?) (hv : v'.ownBlock = v.ownBlock ∨ ∃ g, v'.ownBlock = some g ∧ w.heap.size ≤ g) : HeldW base w' v' (ws ++ [f]) := by
  refine ⟨xs ++ [z], by rw [List.length_append]; exact h1, (hf.snoc hz).kept fun g hg hl => ⟨⟨hg.1, ?_⟩, fun off => World.cell?_of_block (a := ⟨g, off, none⟩) (hk g hl hg.2)⟩⟩
  rcases hv with e | ⟨g', e, hg'⟩
  · rw [e]; exact hg.2
  · rw [e]; intro e2; injection e2 with e2; omega
/-- a list in blocks that are new -/
theorem IntsIn.fresh {base : Nat} {w w' : World} {v x : Value} {ws : List WriteT} {l : List Int} (h : HeldW base w v ws) (hx : IntsIn (fun g => w.heap.size ≤ g) w' x l) (hb : base ≤ w.heap.size) : IntsIn (fun g => base ≤ g ∧ some g ≠ v.ownBlock) w' x l := by
  obtain ⟨xs, o, -⟩ := h
  refine hx.mono fun g hg _ => ⟨Nat.le_trans hb hg, fun e => ?_⟩
  have := (o.lt g e.symm).2
  omega
theorem partsL_len (l : List Int) (h : l.length ≤ 1000) : (partsL l).length ≤ 125 := by
  unfold partsL
  rw [partsN_len]
  unfold partN
  omega
theorem pageMoves_len (bs : List BlockT) (t : TableT) (b : Int) (p : Nat) (h1 : t.1.length ≤ 1000) (h2 : t.2.length ≤ 1000) : (pageMoves bs t b p).length ≤ 250 := by
  unfold pageMoves
  have a1 := partsL_len _ (Nat.le_trans (which_len t.1 (place b p)) h1)
  have a2 := partsL_len _ (Nat.le_trans (apartL_len t _ b) (Nat.le_trans (which_len t.2 (place b p)) h2))
  rw [List.length_append, List.length_map, List.length_map]
  omega
theorem movesN_len (bs : List BlockT) (t : TableT) (b : Int) (k : Nat) (h1 : t.1.length ≤ 1000) (h2 : t.2.length ≤ 1000) : (movesN bs t b k).length ≤ 250 * k := by
  induction k with
  | zero => simp [movesN]
  | succ k ih =>
    rw [movesN_succ, List.length_append]
    have := pageMoves_len bs t b k h1 h2
    omega

/-- what lies elsewhere than a row is as it was; the row is where it was, or in a new block -/
def KeptX (w : World) (v : Value) (w' : World) (v' : Value) : Prop :=
  (∀ g, g < w.heap.size → some g ≠ v.ownBlock → w'.heap[g]? = w.heap[g]?) ∧ (v'.ownBlock = v.ownBlock ∨ ∃ g, v'.ownBlock = some g ∧ w.heap.size ≤ g) ∧ w.heap.size ≤ w'.heap.size
theorem KeptX.refl (w : World) (v : Value) : KeptX w v w v := ⟨fun _ _ _ => rfl, .inl rfl, Nat.le_refl _⟩
theorem KeptX.trans {w w' w2 : World} {v v' v2 : Value} (h : KeptX w v w' v') (h' : KeptX w' v' w2 v2) : KeptX w v w2 v2 := by
  obtain ⟨a1, a2, a3⟩ := h
  obtain ⟨b1, b2, b3⟩ := h'
  refine ⟨fun g hg hne => (b1 g (by omega) ?_).trans (a1 g hg hne), ?_, by omega⟩
  · rcases a2 with e | ⟨g', e, hg'⟩
    · rw [e]; exact hne
    · rw [e]; intro e2; injection e2 with e2; omega
  · rcases b2 with e | ⟨g', e, hg'⟩
    · rcases a2 with e2 | ⟨g2, e2, hg2⟩
      · exact .inl (e.trans e2)
      · exact .inr ⟨g2, e.trans e2, hg2⟩
    · exact .inr ⟨g', e, by omega⟩
theorem KeptX.ne {w w' : World} {v v' : Value} (h : KeptX w v w' v') {g : Nat} (hg : g < w.heap.size) (hne : some g ≠ v.ownBlock) : some g ≠ v'.ownBlock := by
  rcases h.2.1 with e | ⟨g', e, hg'⟩
  · rw [e]; exact hne
  · rw [e]; intro e2; injection e2 with e2; omega
theorem KeptX.of_mem {w w' : World} (m : Mem w w') (v : Value) : KeptX w v w' v := ⟨fun g hg _ => Below.block m g hg, .inl rfl, m.size⟩
theorem KeptX.cell {w w' : World} {v v' : Value} (h : KeptX w v w' v') {g : Nat} (hg : g < w.heap.size) (hne : some g ≠ v.ownBlock) (off : Nat) : w'.cell? ⟨g, off, none⟩ = w.cell? ⟨g, off, none⟩ :=
  World.cell?_of_block (a := ⟨g, off, none⟩) (h.1 g hg hne)
end Go.Proofs.Ytedopplldpcinaa.Plan
