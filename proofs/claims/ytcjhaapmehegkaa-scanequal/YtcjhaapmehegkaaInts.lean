/-
  Slices of integers: that a call owns, that came in, that were written out.
-/
import Derived.Test.YtcjhaapmehegkaaBase
namespace Go.Proofs.Ytcjhaapmehegkaa
open Go.RowKit

/-! ### Integers -/
/-- integers as cells -/
def icells (l : List Int) : List Value := l.map (Value.int .i64)
theorem icells_length (l : List Int) : (icells l).length = l.length := by simp [icells]
theorem icells_append (l m : List Int) : icells (l ++ m) = icells l ++ icells m := by simp [icells]
theorem info_int : (Try.prog.info? 3).map (fun i => (i.zero, i.size, i.bytes)) = some (some (.int .i64 0), 1, 8) := by kernel_rfl
/-- one number more, onto a slice of numbers that the call owns -/
theorem pushI {ops : Array Oper} {rest : List Oper} {o : Oper} {a : Act} {Q : Exit → Act → World → Prop} {w : World} (hgd : o.guard = none) (s x : Operand)
    (ho : o.op = .call { callee := .builtin .append, args := #[s, x], argTypes := #[49, 49] })
    (base : Nat) (v : Value) (l : List Int) (n : Nat) (hs : a.eval s = v) (hown : w.ownsRow base 3 1 v n (icells l)) (hbase : base ≤ w.heap.size)
    (z : Int) (hx : a.eval x = .slice (some ⟨w.heap.size, 0, none⟩) 1 1) (hlen : (n + 1) * 8 ≤ 140737488355328)
    (h : ∀ v' w', w'.ownsRow base 3 1 v' (n + 1) (icells (l ++ [z])) → Below base w w' → wpList Try.prog ops Q rest (a.put o.dst v') w') :
    wpList Try.prog ops Q (o :: rest) a (w.alloc (.cells #[.int .i64 z] 3)) := by
  obtain ⟨i0, hi, hz0, hz1, hz2⟩ := info_parts info_int
  refine wpList_append_own _ hgd s x 49 ho base 3 i0 (.int .i64 0) 1 8 Try.underlying49 hi hz0 hz1 hz2 rfl (by decide) v n (icells l) hs (hown.alloc _) ⟨w.heap.size, 0, none⟩ 1 1 (icells [z]) hx rfl ?c1 ?c2 ?c3 ?c4 ?c5 ?_
  case c1 =>
    intro j u hj
    match j, hj with
    | 0, hj => simp [icells] at hj; subst hj; simp [Addr.add]
    | j + 1, hj => simp [icells] at hj
  case c2 => intro u hu; simp [icells] at hu; subst hu; rfl
  case c3 => unfold maxLen; omega
  case c4 => exact hlen
  case c5 => simp; omega
  intro v' w' h1 h2 _
  refine h v' w' (by rw [icells_append]; exact h1) ?_
  exact ((Below.refl base w).alloc hbase _).grown h2 (by simp; omega) (fun k hk => (hown.lt k hk).1)

/-- a slice of integers of the kind k, however it came: v's elements are zs -/
def Ints (k : IntKind) (w : World) (v : Value) (zs : List Int) : Prop :=
  zs.length ≤ maxLen ∧ ((zs = [] ∧ ∃ a cap, v = .slice a 0 cap) ∨
    ∃ b off cap, v = .slice (some ⟨b, off, none⟩) zs.length cap ∧ 0 < zs.length ∧ ∀ j, j < zs.length → w.cell? ⟨b, off + j, none⟩ = some (.int k (zs.getD j 0)))
theorem Ints.mem {k : IntKind} {w w' : World} {v : Value} {zs : List Int} (h : Ints k w v zs) (m : Mem w w') : Ints k w' v zs := by
  refine ⟨h.1, ?_⟩
  rcases h.2 with h | ⟨b, off, cap, hv, h0, hc⟩
  · exact .inl h
  · refine .inr ⟨b, off, cap, hv, h0, fun j hj => ?_⟩
    have := hc j hj
    rw [Below.cell m (p := ⟨b, off + j, none⟩) (World.block_lt_of_cell? w _ this)]
    exact this
theorem Ints.drewN {k : IntKind} {w : World} {v : Value} {zs : List Int} (h : Ints k w v zs) (n : Nat) : Ints k (w.drewN n) v zs := h.mem ((Mem.refl _).drewN n)
theorem Ints.nil (k : IntKind) (w : World) (a : Option Addr) (cap : Nat) : Ints k w (.slice a 0 cap) [] := ⟨by simp [maxLen], .inl ⟨rfl, a, cap, rfl⟩⟩
theorem Ints.of_owns {k : IntKind} {w : World} {base : Nat} {e : TypeId} {v : Value} {n : Nat} {zs : List Int} (h : w.ownsRow base e 1 v n (zs.map (Value.int k))) : Ints k w v zs := by
  have hn : zs.length = n := by simpa using h.1
  subst hn
  rcases h.2 with ⟨rfl, h0⟩ | ⟨g, cap, cur, rfl, hb, hh, hlc, hcm, hcs, ht⟩
  · have : zs = [] := List.length_eq_zero_iff.1 h0
    subst this
    exact Ints.nil k w none 0
  · refine ⟨by omega, ?_⟩
    by_cases h0 : zs.length = 0
    · have : zs = [] := List.length_eq_zero_iff.1 h0
      subst this
      exact .inl ⟨rfl, _, _, rfl⟩
    · refine .inr ⟨g, 0, cap, rfl, by omega, fun j hj => ?_⟩
      have hc := h.cellAt j (by omega)
      rw [Nat.zero_add, hc]
      simp [hj]

theorem Ints.shape {k : IntKind} {w : World} {v : Value} {zs : List Int} (h : Ints k w v zs) : ∃ oa cap, v = .slice oa zs.length cap := by
  rcases h.2 with ⟨rfl, a, cap, rfl⟩ | ⟨b, off, cap, rfl, _⟩
  · exact ⟨a, cap, rfl⟩
  · exact ⟨_, cap, rfl⟩
theorem Ints.at {k : IntKind} {w : World} {oa : Option Addr} {n cap : Nat} {zs : List Int} (h : Ints k w (.slice oa n cap) zs) (h0 : 0 < zs.length) :
    ∃ b off, oa = some ⟨b, off, none⟩ ∧ ∀ j, j < zs.length → w.cell? ⟨b, off + j, none⟩ = some (.int k (zs.getD j 0)) := by
  rcases h.2 with ⟨rfl, _⟩ | ⟨b, off, cap', hv, _, hc⟩
  · simp at h0
  · injection hv with ha
    exact ⟨b, off, ha, hc⟩

/-- a slice that was just written out -/
theorem Ints.lit (k : IntKind) (w : World) (l : List Int) (t : TypeId) (hl : l.length ≤ maxLen) : Ints k (w.alloc (.cells (l.map (Value.int k)).toArray t)) (.slice (some ⟨w.heap.size, 0, none⟩) l.length l.length) l := by
  refine ⟨hl, ?_⟩
  by_cases h0 : l.length = 0
  · have : l = [] := List.length_eq_zero_iff.1 h0
    subst this
    exact .inl ⟨rfl, _, _, rfl⟩
  · refine .inr ⟨w.heap.size, 0, l.length, rfl, by omega, fun j hj => ?_⟩
    rw [Nat.zero_add, World.cell?_alloc_mark]
    simp [hj]

/-- what the walk is told of a slice of integers that came in (the word of the frame) -/
def IsRow (k : IntKind) (w : World) (a : Option Addr) (len cap : Nat) (zs : List Int) : Prop :=
  (a = none ∧ len = 0 ∧ cap = 0 ∧ zs = []) ∨
  ∃ x, a = some x ∧ len ≤ cap ∧ cap ≤ maxLen ∧ zs.length = cap ∧ (∀ i, i < zs.length → w.cell? (x.add i) = some (.int k (zs.getD i 0))) ∧ ∀ n ∈ zs, (Lit.int k n).wf = true
theorem Ints.of_row {k : IntKind} {w : World} {a : Option Addr} {len cap : Nat} {zs : List Int} (h : IsRow k w a len cap zs) : Ints k w (.slice a len cap) (zs.take len) ∧ ∀ n ∈ zs.take len, (Lit.int k n).wf = true := by
  rcases h with ⟨rfl, rfl, rfl, rfl⟩ | ⟨x, rfl, hl, hm, hz, hc, hw⟩
  · exact ⟨Ints.nil k w _ _, by simp⟩
  · have hlen : (zs.take len).length = len := by rw [List.length_take]; omega
    refine ⟨⟨by omega, ?_⟩, fun n hn => hw n (List.mem_of_mem_take hn)⟩
    by_cases h0 : len = 0
    · subst h0
      exact .inl ⟨by simp, _, _, rfl⟩
    · obtain ⟨b, off, rfl, hc'⟩ := ints_at hc (by omega)
      refine .inr ⟨b, off, cap, by rw [hlen], by omega, fun j hj => ?_⟩
      rw [hc' j (by omega)]
      simp [List.getElem?_take_of_lt (show j < len by omega)]
end Go.Proofs.Ytcjhaapmehegkaa
