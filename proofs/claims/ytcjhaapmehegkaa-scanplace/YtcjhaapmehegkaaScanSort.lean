/-
  Layer 6, the program: what was found is sorted.
-/
import Derived.Test.YtcjhaapmehegkaaScanCmp
import Derived.Shelf.SlSortCmp.NoneTotal
namespace Go.Proofs.Ytcjhaapmehegkaa.Scan
open Go.RowKit Go.Proofs.Ytcjhaapmehegkaa.Nand Go.Sort Go.Shelf

theorem rowCells_at {xs : List RowT} {j : Nat} (hj : j < xs.length * 5) : (rowCells xs)[j]? = some ((encF xs.toArray[j / 5]!)[j % 5]!) := by
  have h1 : j / 5 < xs.length := by omega
  have h2 : j % 5 < 5 := by omega
  have h := rowCells_get h1 h2
  rw [show j / 5 * 5 + j % 5 = j by omega] at h
  rw [h, show xs.toArray[j / 5]! = xs[j / 5] from by simp [h1]]
  have h3 : j % 5 < (encF xs[j / 5]).length := by rw [encF_length]; exact h2
  rw [List.getElem?_eq_getElem h3, getElem!_pos (encF xs[j / 5]) (j % 5) h3]
theorem holdsF {w : World} {base g n cap : Nat} {xs : List RowT} (h : w.ownsRow base 53 5 (.slice (some ⟨g, 0, none⟩) n cap) n (rowCells xs)) : HoldsK encF 5 w g 0 xs.toArray := by
  have hl : (rowCells xs).length = n * 5 := h.1
  rw [rowCells_length] at hl
  intro j hj
  have hj' : j < xs.length * 5 := by simpa using hj
  refine ⟨?_, by rw [Nat.zero_add]; exact h.frozenAt j⟩
  rw [Nat.zero_add, h.cellAt j (by omega), rowCells_at hj', get_flatK _ _ _ _ (by simpa using hj')]
  rfl
theorem sortedCells {w : World} {g m : Nat} {d0 d : Array RowT} {os : Array Obj} (h0 : HoldsK encF 5 w g 0 d0) (hs : d.size = d0.size) (hg : g < w.heap.size) (j : Nat) (u : Value) (hj : (rowCells d.toList)[j]? = some u) : (sortWorldK encF 5 w g 0 m d os).cell? ⟨g, j, none⟩ = some u := by
  have hlt : j < d.toList.length * 5 := by
    have := (List.getElem?_eq_some_iff.1 hj).1
    rw [rowCells_length] at this
    exact this
  have hh : HoldsK encF 5 (Sort.ahead w m) g 0 d0 := h0
  have h1 := holdsK_putRowK encF 5 (Sort.ahead w m) g 0 d0 d hh hs
  unfold sortWorldK
  rw [cell?_grow _ _ _ (by unfold putRowK; rw [Sort.size_putRow]; exact hg)]
  have h2 := (h1 j (by simpa using hlt)).1
  rw [Nat.zero_add] at h2
  rw [h2, ← hj, rowCells_at hlt, get_flatK _ _ _ _ (by simpa using hlt)]
  simp
theorem sortedElse {w : World} {g m : Nat} {d : Array RowT} {os : Array Obj} {b : Nat} (hb : b < w.heap.size) (hne : b ≠ g) : (sortWorldK encF 5 w g 0 m d os).heap[b]? = w.heap[b]? := by
  unfold sortWorldK putRowK putRow mapBlock grow
  rw [Array.getElem?_append_left (by simpa using hb)]
  simp [Array.getElem?_modify, Ne.symm hne, Sort.ahead]
theorem sortedBelow {w : World} {g m : Nat} {d : Array RowT} {os : Array Obj} {B : Nat} (hB : B ≤ w.heap.size) (hg : B ≤ g) : RowKit.Below B w (sortWorldK encF 5 w g 0 m d os) := by
  refine ⟨rfl, rfl, rfl, ?_, fun k hk => sortedElse (by omega) (by omega)⟩
  unfold sortWorldK putRowK putRow mapBlock grow
  simp [Sort.ahead]
/-! ### Other orders of the same row -/
theorem FitsL.cons {S : Nat → Prop} {w : World} {x : RowT} {f : FoundT} {xs : List RowT} {fs : List FoundT} (hx : Fits S w x f) (h : FitsL S w xs fs) : FitsL S w (x :: xs) (f :: fs) := by
  refine ⟨by simp [h.1], fun i a b => ?_⟩
  cases i with
  | zero => exact hx
  | succ i => exact h.2 i (by simpa using a) (by simpa using b)
theorem FitsL.uncons {S : Nat → Prop} {w : World} {x : RowT} {xs : List RowT} {fs : List FoundT} (h : FitsL S w (x :: xs) fs) : ∃ f fs', fs = f :: fs' ∧ Fits S w x f ∧ FitsL S w xs fs' := by
  cases fs with
  | nil => have := h.1; simp at this
  | cons f fs' =>
    refine ⟨f, fs', rfl, h.2 0 (by simp) (by simp), by have := h.1; simpa using this, fun i a b => h.2 (i + 1) (by simpa using a) (by simpa using b)⟩
theorem FitsL.perm {S : Nat → Prop} {w : World} {xs ys : List RowT} (hp : xs.Perm ys) : ∀ {fs : List FoundT}, FitsL S w xs fs → ∃ gs, fs.Perm gs ∧ FitsL S w ys gs := by
  induction hp with
  | nil => intro fs h; exact ⟨fs, List.Perm.refl _, h⟩
  | cons x _ ih =>
    intro fs h
    obtain ⟨f, fs', rfl, hx, h'⟩ := h.uncons
    obtain ⟨gs, h1, h2⟩ := ih h'
    exact ⟨f :: gs, h1.cons f, h2.cons hx⟩
  | swap x y l =>
    intro fs h
    obtain ⟨f, fs', rfl, hx, h'⟩ := h.uncons
    obtain ⟨f', fs'', rfl, hx', h''⟩ := h'.uncons
    exact ⟨f' :: f :: fs'', List.Perm.swap _ _ _, (h''.cons hx).cons hx'⟩
  | trans _ _ ih1 ih2 =>
    intro fs h
    obtain ⟨gs, h1, h2⟩ := ih1 h
    obtain ⟨hs, h3, h4⟩ := ih2 h2
    exact ⟨hs, h1.trans h3, h4⟩
theorem fits_lt {S : Nat → Prop} {w : World} {x y : RowT} {f g : FoundT} (hx : Fits S w x f) (hy : Fits S w y g) : ltOf cmpF x y = aheadF f g := by
  rw [cmpF_lt]
  unfold aheadF
  rw [hx.1, hx.2.2.1, hy.1, hy.2.2.1]
theorem sorted_fits {S : Nat → Prop} {w : World} {d : Array RowT} {gs : List FoundT} (h : FitsL S w d.toList gs) (hs : SortedIn (ltOf cmpF) 0 d.size d) : gs.Pairwise leF := by
  have hl := h.1
  rw [List.pairwise_iff_getElem]
  intro i j hi hj hij
  have hi' : i < d.size := by simp at hl; omega
  have hj' : j < d.size := by simp at hl; omega
  have h1 := hs i j (Nat.zero_le _) hij hj'
  rw [getElem!_pos d i hi', getElem!_pos d j hj'] at h1
  have h2 := fits_lt (h.2 j (by simpa using hj') hj) (h.2 i (by simpa using hi') hi)
  rw [Array.getElem_toList, Array.getElem_toList] at h2
  unfold leF
  rw [← h2]
  exact h1

set_option maxHeartbeats 1000000 in
set_option maxRecDepth 100000 in
/-- **the sort: what was found stands in its order; nothing else turns** -/
theorem codeSort (v : Value) (n base : Nat) (xs : List RowT) (fs : List FoundT) (w : World) (hown : w.ownsRow base 53 5 v n (rowCells xs)) (hn : n = fs.length) (hlen : fs.length ≤ 1000) (hf : FitsL (fun g => v.ownBlock ≠ some g ∧ base ≤ g) w xs fs) (ha : Apart fs) (hb : base ≤ w.heap.size) :
    Calls Try.prog 27 #[v, .func (.func 28) #[] #[]] w fun e w' => e = .returned (.tuple #[]) ∧ FoundsAt (fun g => base ≤ g) w' v (allF fs) ∧ RowKit.Below base w w' ∧ ∀ b, b < w.heap.size → v.ownBlock ≠ some b → w'.heap[b]? = w.heap[b]? := by
  rcases id hown.2 with ⟨rfl, h0⟩ | ⟨g, cap, cur, rfl, hg, hh, hlc, hcm, hcs, ht⟩
  · have hfs : fs = [] := List.length_eq_zero_iff.1 (by omega)
    subst hfs
    have hcon := AnyF.slices_SortFunc_none Try.sortF none 0 (.func (.func 28) #[] #[]) w
    change Calls Try.prog 27 _ _ _ at hcon
    refine hcon.mono ?_
    rintro e w' ⟨rfl, rfl⟩
    exact ⟨rfl, FoundsAt.nil _ _ _ _, RowKit.Below.refl _ _, fun _ _ _ => rfl⟩
  · have hxl : xs.length = n := by have := hf.1; omega
    have hgl : g < w.heap.size := (Array.getElem?_eq_some_iff.1 hh).1
    have hH := holdsF hown
    have eg : ∀ args w, (callFunc 28 args).run Try.prog w = .ok (.enter 28 args) w := enters_of Try.func28 (by kernel_rfl) rfl
    have hcon := AnyQ.slices_SortFunc Try.sortF 5 Try.isAgg53 Try.sizeOf53 encF encF_length (fun x v hv => by simp [encF] at hv; rcases hv with rfl | rfl | rfl | rfl | rfl <;> rfl) cmpF cmpF_swo 28 #[] g 0 cap xs.toArray w eg (codeCmps g 0 xs.toArray.size w) hH hgl (by simp; omega)
    change Calls Try.prog 27 _ _ _ at hcon
    have hsz : xs.toArray.size = n := by simpa using hxl
    rw [hsz] at hcon
    refine hcon.mono ?_
    rintro e w' ⟨rfl, d', m, os, hp, hs, rfl⟩
    have hd : d'.size = xs.toArray.size := hp.1
    have hperm : d'.toList.Perm xs := by
      have := hp.2.2
      rw [← hsz] at this
      have e1 : d'.extract 0 xs.toArray.size = d' := by rw [← hd]; simp
      have e2 : xs.toArray.extract 0 xs.toArray.size = xs.toArray := by simp
      rw [e1, e2] at this
      exact this
    obtain ⟨gs, p1, p2⟩ := FitsL.perm hperm.symm hf
    have hso := sorted_fits p2 (by rw [hd, hsz]; exact hs)
    have hgs : gs = allF fs := sorted_is ha p1.symm hso
    subst hgs
    have hcells : ∀ b, b < w.heap.size → b ≠ g → (sortWorldK encF 5 w g 0 m d' os).heap[b]? = w.heap[b]? := fun b h1 h2 => sortedElse h1 h2
    refine ⟨rfl, ⟨by rw [allF_length]; unfold maxLen; omega, ?_⟩, sortedBelow hb hg, fun b h1 h2 => hcells b h1 (fun e => h2 (by rw [e]; rfl))⟩
    by_cases hz : (allF fs).length = 0
    · exact .inl ⟨List.length_eq_zero_iff.1 hz, some ⟨g, 0, none⟩, cap, by rw [show n = 0 by rw [allF_length] at hz; omega]⟩
    · refine .inr ⟨g, 0, cap, d'.toList, by rw [allF_length, hn], by omega, hg, ?_, fun j u hj => by rw [Nat.zero_add]; exact sortedCells hH hd hgl j u hj⟩
      exact p2.kept fun b hb1 hb2 => ⟨hb1.2, fun off => World.cell?_of_block (w := w) (a := ⟨b, off, none⟩) (hcells b hb2 (fun e => hb1.1 (by rw [e]; rfl)))⟩
end Go.Proofs.Ytcjhaapmehegkaa.Scan
