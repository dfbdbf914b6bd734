/-
  Layer 6: what was found, in memory: a place and a record each, in rows.
-/
import Derived.Test.YtcjhaapmehegkaaScanTell
import Derived.Test.YtcjhaapmehegkaaChipRows
namespace Go.Proofs.Ytcjhaapmehegkaa.Scan
open Go.RowKit Go.Proofs.Ytcjhaapmehegkaa.Nand

/-- whole numbers in a row, of which the block is one of which S holds -/
def IntsIn (S : Nat → Prop) (w : World) (v : Value) (zs : List Int) : Prop :=
  zs.length ≤ maxLen ∧ ((zs = [] ∧ ∃ a cap, v = .slice a 0 cap) ∨
    ∃ b off cap, v = .slice (some ⟨b, off, none⟩) zs.length cap ∧ 0 < zs.length ∧ S b ∧ ∀ j, j < zs.length → w.cell? ⟨b, off + j, none⟩ = some (.int .i64 (zs.getD j 0)))
theorem IntsIn.ints {S : Nat → Prop} {w : World} {v : Value} {zs : List Int} (h : IntsIn S w v zs) : Ints .i64 w v zs := by
  refine ⟨h.1, ?_⟩
  rcases h.2 with h | ⟨b, off, cap, hv, h0, _, hc⟩
  · exact .inl h
  · exact .inr ⟨b, off, cap, hv, h0, hc⟩
theorem IntsIn.of_past {base : Nat} {w : World} {v : Value} {zs : List Int} (h : Ints .i64 w v zs) (hp : Past base v) : IntsIn (fun b => base ≤ b) w v zs := by
  refine ⟨h.1, ?_⟩
  rcases h.2 with h | ⟨b, off, cap, hv, h0, hc⟩
  · exact .inl h
  · exact .inr ⟨b, off, cap, hv, h0, hp _ _ _ hv, hc⟩
theorem IntsIn.of_ints {w : World} {v : Value} {zs : List Int} (h : Ints .i64 w v zs) : IntsIn (fun b => b < w.heap.size) w v zs := by
  refine ⟨h.1, ?_⟩
  rcases h.2 with h | ⟨b, off, cap, hv, h0, hc⟩
  · exact .inl h
  · exact .inr ⟨b, off, cap, hv, h0, World.block_lt_of_cell? w _ (hc 0 h0), hc⟩
theorem IntsIn.kept {S S' : Nat → Prop} {w w' : World} {v : Value} {zs : List Int} (h : IntsIn S w v zs) (hS : ∀ g, S g → g < w.heap.size → S' g ∧ ∀ off, w'.cell? ⟨g, off, none⟩ = w.cell? ⟨g, off, none⟩) : IntsIn S' w' v zs := by
  refine ⟨h.1, ?_⟩
  rcases h.2 with h | ⟨b, off, cap, hv, h0, hs, hc⟩
  · exact .inl h
  · obtain ⟨h1, h2⟩ := hS b hs (World.block_lt_of_cell? w _ (hc 0 h0))
    exact .inr ⟨b, off, cap, hv, h0, h1, fun j hj => by rw [h2]; exact hc j hj⟩

/-- a slice's address, length and capacity -/
abbrev SlT := Option Addr × Nat × Nat
abbrev slV (s : SlT) : Value := .slice s.1 s.2.1 s.2.2
/-- the cells of what was found: the place, the kind, the Seq, the keys, the values -/
abbrev RowT := Int × Int × Int × SlT × SlT
def encF (x : RowT) : List Value := [.int .i64 x.1, .int .i64 x.2.1, .int .i64 x.2.2.1, slV x.2.2.2.1, slV x.2.2.2.2]
def rowCells (xs : List RowT) : List Value := xs.flatMap encF
theorem encF_length (x : RowT) : (encF x).length = 5 := rfl
theorem rowCells_length (xs : List RowT) : (rowCells xs).length = xs.length * 5 := by
  unfold rowCells
  induction xs with
  | nil => rfl
  | cons x xs ih => rw [List.flatMap_cons, List.length_append, ih, encF_length, List.length_cons]; omega
theorem rowCells_append (xs ys : List RowT) : rowCells (xs ++ ys) = rowCells xs ++ rowCells ys := by simp [rowCells]
theorem rowCells_snoc (xs : List RowT) (x : RowT) : rowCells (xs ++ [x]) = rowCells xs ++ encF x := by simp [rowCells]
theorem rowCells_get {xs : List RowT} {i j : Nat} (hi : i < xs.length) (hj : j < 5) : (rowCells xs)[i * 5 + j]? = (encF xs[i])[j]? := by
  unfold rowCells
  induction xs generalizing i with
  | nil => simp at hi
  | cons x xs ih =>
    rw [List.flatMap_cons]
    cases i with
    | zero => rw [List.getElem?_append_left (by rw [encF_length]; omega)]; simp
    | succ i =>
      rw [List.getElem?_append_right (by rw [encF_length]; omega), encF_length, show (i + 1) * 5 + j - 5 = i * 5 + j by omega, ih (by simpa using hi)]
      simp
/-- the cells x tell f -/
def Fits (S : Nat → Prop) (w : World) (x : RowT) (f : FoundT) : Prop :=
  x.1 = f.1 ∧ x.2.1 = f.2.1 ∧ x.2.2.1 = f.2.2.1 ∧ IntsIn S w (slV x.2.2.2.1) f.2.2.2.1 ∧ IntsIn S w (slV x.2.2.2.2) f.2.2.2.2
theorem Fits.kept {S S' : Nat → Prop} {w w' : World} {x : RowT} {f : FoundT} (h : Fits S w x f) (hS : ∀ g, S g → g < w.heap.size → S' g ∧ ∀ off, w'.cell? ⟨g, off, none⟩ = w.cell? ⟨g, off, none⟩) : Fits S' w' x f :=
  ⟨h.1, h.2.1, h.2.2.1, h.2.2.2.1.kept hS, h.2.2.2.2.kept hS⟩
theorem Fits.mem {S : Nat → Prop} {w w' : World} {x : RowT} {f : FoundT} (h : Fits S w x f) (m : Mem w w') : Fits S w' x f :=
  h.kept fun g hg hl => ⟨hg, fun off => Below.cell m (p := ⟨g, off, none⟩) hl⟩
theorem Fits.mono {S S' : Nat → Prop} {w : World} {x : RowT} {f : FoundT} (h : Fits S w x f) (hS : ∀ g, S g → g < w.heap.size → S' g) : Fits S' w x f :=
  h.kept fun g hg hl => ⟨hS g hg hl, fun _ => rfl⟩
/-- a row of cells tells a list -/
def FitsL (S : Nat → Prop) (w : World) (xs : List RowT) (fs : List FoundT) : Prop :=
  xs.length = fs.length ∧ ∀ i (h : i < xs.length) (h' : i < fs.length), Fits S w xs[i] fs[i]
theorem FitsL.nil (S : Nat → Prop) (w : World) : FitsL S w [] [] := ⟨rfl, fun i h => by simp at h⟩
theorem FitsL.kept {S S' : Nat → Prop} {w w' : World} {xs : List RowT} {fs : List FoundT} (h : FitsL S w xs fs) (hS : ∀ g, S g → g < w.heap.size → S' g ∧ ∀ off, w'.cell? ⟨g, off, none⟩ = w.cell? ⟨g, off, none⟩) : FitsL S' w' xs fs :=
  ⟨h.1, fun i a b => (h.2 i a b).kept hS⟩
theorem FitsL.mem {S : Nat → Prop} {w w' : World} {xs : List RowT} {fs : List FoundT} (h : FitsL S w xs fs) (m : Mem w w') : FitsL S w' xs fs :=
  h.kept fun g hg hl => ⟨hg, fun off => Below.cell m (p := ⟨g, off, none⟩) hl⟩
theorem FitsL.mono {S S' : Nat → Prop} {w : World} {xs : List RowT} {fs : List FoundT} (h : FitsL S w xs fs) (hS : ∀ g, S g → g < w.heap.size → S' g) : FitsL S' w xs fs :=
  h.kept fun g hg hl => ⟨hS g hg hl, fun _ => rfl⟩
theorem FitsL.snoc {S : Nat → Prop} {w : World} {xs : List RowT} {fs : List FoundT} (h : FitsL S w xs fs) {x : RowT} {f : FoundT} (hx : Fits S w x f) : FitsL S w (xs ++ [x]) (fs ++ [f]) := by
  have hl := h.1
  refine ⟨by simp [hl], fun i a b => ?_⟩
  by_cases e : i < xs.length
  · rw [List.getElem_append_left e, List.getElem_append_left (by omega)]
    exact h.2 i e (by omega)
  · have he : i = xs.length := by simp at a; omega
    subst he
    rw [show (xs ++ [x])[xs.length]'a = x from by simp, show (fs ++ [f])[xs.length]'b = f from by rw [List.getElem_append_right (by omega)]; simp [hl]]
    exact hx

/-- a slice of what was found -/
def FoundsAt (S : Nat → Prop) (w : World) (v : Value) (fs : List FoundT) : Prop :=
  fs.length ≤ maxLen ∧ ((fs = [] ∧ ∃ a cap, v = .slice a 0 cap) ∨
    ∃ g off cap xs, v = .slice (some ⟨g, off, none⟩) fs.length cap ∧ 0 < fs.length ∧ S g ∧ FitsL S w xs fs ∧ ∀ j u, (rowCells xs)[j]? = some u → w.cell? ⟨g, off + j, none⟩ = some u)
theorem FoundsAt.nil (S : Nat → Prop) (w : World) (a : Option Addr) (cap : Nat) : FoundsAt S w (.slice a 0 cap) [] := ⟨by simp [maxLen], .inl ⟨rfl, a, cap, rfl⟩⟩
theorem FoundsAt.kept {S S' : Nat → Prop} {w w' : World} {v : Value} {fs : List FoundT} (h : FoundsAt S w v fs) (hS : ∀ g, S g → g < w.heap.size → S' g ∧ ∀ off, w'.cell? ⟨g, off, none⟩ = w.cell? ⟨g, off, none⟩) : FoundsAt S' w' v fs := by
  refine ⟨h.1, ?_⟩
  rcases h.2 with h | ⟨g, off, cap, xs, hv, h0, hs, hf, hc⟩
  · exact .inl h
  · have hlen := hf.1
    have c0 : w.cell? ⟨g, off + (0 * 5 + 0), none⟩ = some (.int .i64 (xs[0]'(by omega)).1) := hc _ _ (by rw [rowCells_get (by omega) (by omega)]; rfl)
    obtain ⟨h1, h2⟩ := hS g hs (World.block_lt_of_cell? w _ c0)
    exact .inr ⟨g, off, cap, xs, hv, h0, h1, hf.kept hS, fun j u hj => by rw [h2]; exact hc j u hj⟩
theorem FoundsAt.mem {S : Nat → Prop} {w w' : World} {v : Value} {fs : List FoundT} (h : FoundsAt S w v fs) (m : Mem w w') : FoundsAt S w' v fs :=
  h.kept fun g hg hl => ⟨hg, fun off => Below.cell m (p := ⟨g, off, none⟩) hl⟩
theorem FoundsAt.mono {S S' : Nat → Prop} {w : World} {v : Value} {fs : List FoundT} (h : FoundsAt S w v fs) (hS : ∀ g, S g → g < w.heap.size → S' g) : FoundsAt S' w v fs :=
  h.kept fun g hg hl => ⟨hS g hg hl, fun _ => rfl⟩
theorem FoundsAt.setCell {S : Nat → Prop} {w : World} {v : Value} {fs : List FoundT} (h : FoundsAt S w v fs) {p : Addr} (hp : ¬ S p.block) (x : Value) : FoundsAt S (w.setCell p x) v fs :=
  h.kept fun g hg _ => ⟨hg, fun off => World.cell?_of_block (w := w) (a := ⟨g, off, none⟩) (Below.heap_setCell w p x g (fun e => hp (e ▸ hg)))⟩
theorem FoundsAt.shape {S : Nat → Prop} {w : World} {v : Value} {fs : List FoundT} (h : FoundsAt S w v fs) : ∃ oa cap, v = .slice oa fs.length cap := by
  rcases h.2 with ⟨rfl, a, cap, rfl⟩ | ⟨g, off, cap, xs, rfl, _⟩
  · exact ⟨a, cap, rfl⟩
  · exact ⟨_, cap, rfl⟩
/-- what was found as number i -/
theorem FoundsAt.at {S : Nat → Prop} {w : World} {oa : Option Addr} {n cap : Nat} {fs : List FoundT} (h : FoundsAt S w (.slice oa n cap) fs) {i : Nat} (hi : i < fs.length) :
    ∃ g off ok ck ov cv, oa = some ⟨g, off, none⟩ ∧ S g ∧ w.cell? ⟨g, off + i * 5, none⟩ = some (.int .i64 fs[i].1) ∧ w.cell? ⟨g, off + i * 5 + 1, none⟩ = some (.int .i64 fs[i].2.1) ∧ w.cell? ⟨g, off + i * 5 + 2, none⟩ = some (.int .i64 fs[i].2.2.1) ∧ w.cell? ⟨g, off + i * 5 + 3, none⟩ = some (.slice ok fs[i].2.2.2.1.length ck) ∧ w.cell? ⟨g, off + i * 5 + 4, none⟩ = some (.slice ov fs[i].2.2.2.2.length cv) ∧ IntsIn S w (.slice ok fs[i].2.2.2.1.length ck) fs[i].2.2.2.1 ∧ IntsIn S w (.slice ov fs[i].2.2.2.2.length cv) fs[i].2.2.2.2 := by
  rcases h.2 with ⟨rfl, _⟩ | ⟨g, off, cap', xs, hv, _, hs, hf, hc⟩
  · simp at hi
  · injection hv with ha
    have hl := hf.1
    have hix : i < xs.length := by omega
    obtain ⟨e0, e1, e2, k1, k2⟩ := hf.2 i hix hi
    have g0 := hc (i * 5 + 0) _ (by rw [rowCells_get hix (by omega)]; rfl)
    have g1 := hc (i * 5 + 1) _ (by rw [rowCells_get hix (by omega)]; rfl)
    have g2 := hc (i * 5 + 2) _ (by rw [rowCells_get hix (by omega)]; rfl)
    have g3 := hc (i * 5 + 3) _ (by rw [rowCells_get hix (by omega)]; rfl)
    have g4 := hc (i * 5 + 4) _ (by rw [rowCells_get hix (by omega)]; rfl)
    rw [e0] at g0
    rw [e1] at g1
    rw [e2] at g2
    obtain ⟨ok, ck, ek⟩ := k1.ints.shape
    obtain ⟨ov, cv, ev⟩ := k2.ints.shape
    rw [ek] at g3 k1
    rw [ev] at g4 k2
    exact ⟨g, off, ok, ck, ov, cv, ha, hs, g0, g1, g2, g3, g4, k1, k2⟩
/-- a row that the call owns -/
theorem FoundsAt.of_owns {S S' : Nat → Prop} {w : World} {base n : Nat} {v : Value} {xs : List RowT} {fs : List FoundT} (h : w.ownsRow base 53 5 v n (rowCells xs)) (hn : fs.length = n) (hf : FitsL S w xs fs) (hS : ∀ g, S g → g < w.heap.size → S' g) (hS' : ∀ g, v.ownBlock = some g → S' g) : FoundsAt S' w v fs := by
  have hl := hf.1
  subst hn
  rcases id h.2 with ⟨rfl, h0⟩ | ⟨g, cap, cur, rfl, hb, hh, hlc, hcm, hcs, ht⟩
  · have : fs = [] := List.length_eq_zero_iff.1 h0
    subst this
    exact FoundsAt.nil _ _ _ _
  · refine ⟨by omega, ?_⟩
    by_cases h0 : fs.length = 0
    · have : fs = [] := List.length_eq_zero_iff.1 h0
      subst this
      exact .inl ⟨rfl, _, _, rfl⟩
    · refine .inr ⟨g, 0, cap, xs, rfl, by omega, hS' g rfl, hf.mono hS, fun j u hj => ?_⟩
      have := h.cells (g := g) rfl j u hj
      rw [add_none] at this
      rw [Nat.zero_add]
      exact this

theorem info_found5 : (Try.prog.info? 53).map (fun i => (i.zero, i.size, i.bytes)) = some (some (.agg #[.int .i64 0, .int .i64 0, .int .i64 0, .slice none 0 0, .slice none 0 0]), 5, 72) := by kernel_rfl
/-- one more onto a row of what was found -/
theorem pushFound {ops : Array Oper} {rest : List Oper} {o : Oper} {a : Act} {Q : Exit → Act → World → Prop} {w : World} (hgd : o.guard = none) (s x : Operand)
    (ho : o.op = .call { callee := .builtin .append, args := #[s, x], argTypes := #[36, 36] })
    (base : Nat) (v : Value) (xs : List RowT) (n : Nat) (hs : a.eval s = v) (hown : w.ownsRow base 53 5 v n (rowCells xs)) (hbase : base ≤ w.heap.size)
    (z : RowT) (B : Nat) (hB : B = w.heap.size) (hx : a.eval x = .slice (some ⟨B, 0, none⟩) 1 1) (hlen : n ≤ 1000000)
    (h : ∀ v' w', w'.ownsRow base 53 5 v' (n + 1) (rowCells (xs ++ [z])) → Below base w w' → wpList Try.prog ops Q rest (a.put o.dst v') w') :
    wpList Try.prog ops Q (o :: rest) a (w.alloc (.cells #[.int .i64 z.1, .int .i64 z.2.1, .int .i64 z.2.2.1, .slice z.2.2.2.1.1 z.2.2.2.1.2.1 z.2.2.2.1.2.2, .slice z.2.2.2.2.1 z.2.2.2.2.2.1 z.2.2.2.2.2.2] 53)) := by
  obtain ⟨i0, hi, hz0, hz1, hz2⟩ := info_parts info_found5
  subst hB
  refine wpList_append_own_at _ hgd s x 36 ho base 53 i0 _ 5 72 Try.underlying36 hi hz0 hz1 hz2 rfl (by decide) v n (rowCells xs) hs (hown.alloc _) ⟨w.heap.size, 0, none⟩ 1 1 (encF z) hx rfl ?c1 ?c2 ?c3 ?c4 ?c5 ?_
  case c1 =>
    intro j u hj
    rw [add_none, World.cell?_alloc_mark]
    simpa [encF] using hj
  case c2 => intro u hu; simp [encF] at hu; rcases hu with rfl | rfl | rfl | rfl | rfl <;> rfl
  case c3 => unfold maxLen; omega
  case c4 => omega
  case c5 => simp; omega
  intro v' w' h1 h2 _ h4
  refine h v' w' (by rw [rowCells_snoc]; exact h1) ?_
  exact ((Below.refl base w).alloc hbase _).grown h2 (by simp; omega) (fun k hk => (hown.lt k hk).1)
end Go.Proofs.Ytcjhaapmehegkaa.Scan
