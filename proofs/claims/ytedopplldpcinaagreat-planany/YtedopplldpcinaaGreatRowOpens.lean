/-
  Rows that come in: what is read of them, element by element.
-/
import Derived.Test.YtedopplldpcinaaGreatChipMem
import Derived.Lib.SmallJoins
namespace Go.Proofs.YtedopplldpcinaaGreat.Nand
open Go.RowKit Go.ChangeShapes Go.WideShapes Go.ChangeAt

theorem u8_range {n : Int} (h : (Lit.int .u8 n).wf = true) : 0 ≤ n ∧ n ≤ 255 := by
  simp [Lit.wf, IntKind.min, IntKind.max, IntKind.signed, IntKind.bits] at h
  omega
theorem choose_list {α : Type} {Q : Nat → α → Prop} : ∀ n : Nat, (∀ i, i < n → ∃ y, Q i y) → ∃ l : List α, l.length = n ∧ ∀ i (h : i < l.length), Q i l[i]
  | 0, _ => ⟨[], rfl, fun i h => by simp at h⟩
  | n + 1, h => by
    obtain ⟨l, hl, hq⟩ := choose_list n (fun i hi => h i (by omega))
    obtain ⟨y, hy⟩ := h n (by omega)
    refine ⟨l ++ [y], by simp [hl], fun i hi => ?_⟩
    by_cases e : i < l.length
    · rw [List.getElem_append_left e]; exact hq i e
    · have : i = n := by simp at hi; omega
      subst this
      rw [List.getElem_append_right (by omega)]
      simpa using hy
theorem cells_get {w : World} {base : Nat} {a : Addr} {n : Nat} {cs : List Value} (h : w.cells? base a n = some cs) : cs.length = n ∧ ∀ i, i < n → w.cell? (a.add i) = cs[i]? := by
  obtain ⟨h1, h2, h3⟩ := World.cells?_some h
  exact ⟨h2, h3⟩
theorem spot_none {w : World} {a : Addr} {v : Value} (h : w.cell? a = some v) : a = ⟨a.block, a.off, none⟩ := by
  obtain ⟨b, o, s⟩ := a
  cases s with
  | none => rfl
  | some s =>
    unfold World.cell? at h
    split at h
    · simp at h
    · cases h
variable {H : Type} {enc : TypeId × Value → H} {w : World}
theorem open_row {t e : TypeId} {sz : Nat} (ht : Tryz.prog.underlying t = some (.slice e)) (hc : Tryz.prog.cellsOf e = sz) (hsz : 0 < sz) {fuel : Nat} {v : Value} {x : DataW H × List MemPlace} (h : DataW.trod enc Tryz.prog w 0 (fun _ => true) true fuel t [v] = some x) :
    v = .slice none 0 0 ∨ ∃ (a : Addr) (len cap n : Nat), v = .slice (some a) len cap ∧ (len ≤ maxLen ∧ len ≤ cap) ∧ ∀ i, i < len → a = ⟨a.block, a.off, none⟩ ∧ a.block < w.heap.size ∧
      ∃ cs y, cs.length = sz ∧ (∀ k, k < sz → w.cell? ⟨a.block, a.off + i * sz + k, none⟩ = cs[k]?) ∧ DataW.trod enc Tryz.prog w 0 (fun _ => true) true n e cs = some y := by
  rcases DataW.trod_slice ht h with ⟨h0, _⟩ | ⟨a, len, cap, elems, rest, n, _, h0, _, _, hl, hm, hlen, hel, _, _⟩
  · exact .inl (by simpa using h0)
  · refine .inr ⟨a, len, cap, n, by simpa using h0, ⟨by omega, by omega⟩, fun i hi => ?_⟩
    have get : ∀ i, i < len → ∃ cs y, cs.length = sz ∧ (∀ k, k < sz → w.cell? ((a.add (i * sz)).add k) = cs[k]?) ∧ DataW.trod enc Tryz.prog w 0 (fun _ => true) true n e cs = some y := by
      intro i hi
      have h1 := hel i hi
      rw [hc, List.getElem?_eq_getElem (by omega), Option.bind_eq_some_iff] at h1
      obtain ⟨cs, h2, h3⟩ := h1
      obtain ⟨h4, h5⟩ := cells_get h2
      exact ⟨cs, _, h4, h5, h3⟩
    obtain ⟨cs0, _, g1, g2, _⟩ := get 0 (by omega)
    have e0 : w.cell? a = cs0[0]? := by
      have := g2 0 hsz
      simpa [Addr.add] using this
    have e1 : w.cell? a = some cs0[0] := by rw [e0]; simp
    have ha := spot_none e1
    refine ⟨ha, World.block_lt_of_cell? w _ e1, ?_⟩
    obtain ⟨cs, y, k1, k2, k3⟩ := get i hi
    refine ⟨cs, y, k1, fun k hk => ?_, k3⟩
    have := k2 k hk
    rw [ha, add_none, add_none] at this
    exact this
end Go.Proofs.YtedopplldpcinaaGreat.Nand
