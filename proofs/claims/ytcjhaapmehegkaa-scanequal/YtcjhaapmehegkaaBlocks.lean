/-
  Blocks that a call makes and writes into: what their cells are; one number more, onto a row that the call owns, as a step of a region that draws.
-/
import Derived.Test.YtcjhaapmehegkaaInts
namespace Go.Proofs.Ytcjhaapmehegkaa
open Go.RowKit

/-- block b is of the type t, holds the cells cs, and none of them is frozen -/
def Blk (w : World) (b : Nat) (t : TypeId) (cs : Array Value) : Prop := w.heap[b]? = some (.cells cs t (0, 0))
theorem Blk.lt {w : World} {b : Nat} {t : TypeId} {cs : Array Value} (h : Blk w b t cs) : b < w.heap.size := (Array.getElem?_eq_some_iff.1 h).1
theorem Blk.new (w : World) (cs : Array Value) (t : TypeId) : Blk (w.alloc (.cells cs t)) w.heap.size t cs := heap_alloc_new w _
theorem Blk.below {w w' : World} {B b : Nat} {t : TypeId} {cs : Array Value} (h : Blk w b t cs) (m : Below B w w') (hb : b < B) : Blk w' b t cs := by
  unfold Blk; rw [m.block b hb]; exact h
theorem Blk.mem {w w' : World} {b : Nat} {t : TypeId} {cs : Array Value} (h : Blk w b t cs) (m : Mem w w') : Blk w' b t cs := h.below m h.lt
theorem Blk.drew {w : World} {b : Nat} {t : TypeId} {cs : Array Value} (h : Blk w b t cs) : Blk w.drew b t cs := h
theorem Blk.alloc {w : World} {b : Nat} {t : TypeId} {cs : Array Value} (h : Blk w b t cs) (o : Obj) : Blk (w.alloc o) b t cs := h.mem ((Mem.refl w).alloc o)
theorem Blk.cell {w : World} {b : Nat} {t : TypeId} {cs : Array Value} (h : Blk w b t cs) {j : Nat} {v : Value} (hj : cs[j]? = some v) : w.cell? ⟨b, j, none⟩ = some v := by
  have h' : w.heap[b]? = some (.cells cs t (0, 0)) := h
  simp [World.cell?, h', hj]
theorem Blk.frozen {w : World} {b : Nat} {t : TypeId} {cs : Array Value} (h : Blk w b t cs) (j : Nat) : w.frozen? ⟨b, j, none⟩ = false := by
  have h' : w.heap[b]? = some (.cells cs t (0, 0)) := h
  simp [World.frozen?, h']
theorem Blk.set {w : World} {b : Nat} {t : TypeId} {cs : Array Value} (h : Blk w b t cs) (j : Nat) (x : Value) : Blk (w.setCell ⟨b, j, none⟩ x) b t (cs.setIfInBounds j x) := by
  have h' : w.heap[b]? = some (.cells cs t (0, 0)) := h
  show (w.heap.modify b _)[b]? = _
  rw [Array.getElem?_modify, if_pos rfl, h']
  rfl
theorem Blk.other {w : World} {b : Nat} {t : TypeId} {cs : Array Value} (h : Blk w b t cs) {a : Addr} (ha : b ≠ a.block) (x : Value) : Blk (w.setCell a x) b t cs := by
  unfold Blk; rw [Below.heap_setCell w a x b ha]; exact h
theorem Mem.setCell {a b : World} (h : Mem a b) {p : Addr} (hp : a.heap.size ≤ p.block) (x : Value) : Mem a (b.setCell p x) := Below.setCell h hp x
theorem size_setCell (w : World) (p : Addr) (x : Value) : (w.setCell p x).heap.size = w.heap.size := by simp [World.setCell]
theorem Blk.put3 {w : World} {b : Nat} {t : TypeId} {a0 a1 a2 : Value} (h : Blk w b t #[a0, a1, a2]) (x0 x1 x2 : Value) :
    Blk (((w.setCell ⟨b, 0, none⟩ x0).setCell ⟨b, 1, none⟩ x1).setCell ⟨b, 2, none⟩ x2) b t #[x0, x1, x2] :=
  ((h.set 0 x0).set 1 x1).set 2 x2
theorem Mem.put3 {w w' : World} {b : Nat} (h : Mem w w') (hb : w.heap.size ≤ b) (x0 x1 x2 : Value) :
    Mem w (((w'.setCell ⟨b, 0, none⟩ x0).setCell ⟨b, 1, none⟩ x1).setCell ⟨b, 2, none⟩ x2) :=
  ((h.setCell (p := ⟨b, 0, none⟩) hb x0).setCell (p := ⟨b, 1, none⟩) hb x1).setCell (p := ⟨b, 2, none⟩) hb x2
theorem Blk.put4 {w : World} {b : Nat} {t : TypeId} {a0 a1 a2 a3 : Value} (h : Blk w b t #[a0, a1, a2, a3]) (x0 x1 x2 x3 : Value) :
    Blk ((((w.setCell ⟨b, 0, none⟩ x0).setCell ⟨b, 1, none⟩ x1).setCell ⟨b, 2, none⟩ x2).setCell ⟨b, 3, none⟩ x3) b t #[x0, x1, x2, x3] :=
  (((h.set 0 x0).set 1 x1).set 2 x2).set 3 x3
theorem Mem.put4 {w w' : World} {b : Nat} (h : Mem w w') (hb : w.heap.size ≤ b) (x0 x1 x2 x3 : Value) :
    Mem w ((((w'.setCell ⟨b, 0, none⟩ x0).setCell ⟨b, 1, none⟩ x1).setCell ⟨b, 2, none⟩ x2).setCell ⟨b, 3, none⟩ x3) :=
  (((h.setCell (p := ⟨b, 0, none⟩) hb x0).setCell (p := ⟨b, 1, none⟩) hb x1).setCell (p := ⟨b, 2, none⟩) hb x2).setCell (p := ⟨b, 3, none⟩) hb x3
theorem _root_.Go.RowKit.Below.put4 {B : Nat} {w w' : World} {b : Nat} (h : Below B w w') (hb : B ≤ b) (x0 x1 x2 x3 : Value) :
    Below B w ((((w'.setCell ⟨b, 0, none⟩ x0).setCell ⟨b, 1, none⟩ x1).setCell ⟨b, 2, none⟩ x2).setCell ⟨b, 3, none⟩ x3) :=
  Below.setCell (Below.setCell (Below.setCell (Below.setCell h (p := ⟨b, 0, none⟩) hb x0) (p := ⟨b, 1, none⟩) hb x1) (p := ⟨b, 2, none⟩) hb x2) (p := ⟨b, 3, none⟩) hb x3
theorem Mem.lt {a b : World} (h : Mem a b) : a.heap.size ≤ b.heap.size := h.size

/-- a slice that lies in no block ahead of base -/
def Past (base : Nat) (v : Value) : Prop := ∀ a n cap, v = .slice (some a) n cap → base ≤ a.block
theorem Past.nil (base n cap : Nat) : Past base (.slice none n cap) := by intro a n' cap' h; cases h
theorem Past.mono {base base' : Nat} {v : Value} (h : Past base v) (hb : base' ≤ base) : Past base' v := fun a n cap e => Nat.le_trans hb (h a n cap e)
theorem Past.of_owns {w : World} {base : Nat} {e : TypeId} {size : Nat} {v : Value} {n : Nat} {xs : List Value} (h : w.ownsRow base e size v n xs) : Past base v := by
  intro a m cap hv
  rcases h.2 with ⟨rfl, _⟩ | ⟨g, cap', cur, rfl, hg, _⟩
  · cases hv
  · injection hv with ha
    injection ha with ha
    rw [← ha]; exact hg
theorem Ints.setCell {k : IntKind} {w : World} {v : Value} {zs : List Int} (h : Ints k w v zs) {p : Addr} (hp : Past (p.block + 1) v) (x : Value) : Ints k (w.setCell p x) v zs := by
  refine ⟨h.1, ?_⟩
  rcases h.2 with h | ⟨b, off, cap, hv, h0, hc⟩
  · exact .inl h
  · refine .inr ⟨b, off, cap, hv, h0, fun j hj => ?_⟩
    have hb : p.block + 1 ≤ b := hp _ _ _ hv
    have e := World.cell?_of_block (w := w) (w' := w.setCell p x) (a := ⟨b, off + j, none⟩) (Below.heap_setCell w p x b (by omega))
    rw [e]
    exact hc j hj
theorem Ints.put4 {k : IntKind} {w : World} {b : Nat} {v : Value} {zs : List Int} (h : Ints k w v zs) (hp : Past (b + 1) v) (x0 x1 x2 x3 : Value) :
    Ints k ((((w.setCell ⟨b, 0, none⟩ x0).setCell ⟨b, 1, none⟩ x1).setCell ⟨b, 2, none⟩ x2).setCell ⟨b, 3, none⟩ x3) v zs :=
  (((h.setCell (p := ⟨b, 0, none⟩) hp x0).setCell (p := ⟨b, 1, none⟩) hp x1).setCell (p := ⟨b, 2, none⟩) hp x2).setCell (p := ⟨b, 3, none⟩) hp x3
theorem toList_mk (l : List UInt8) : (⟨l.toArray⟩ : ByteArray).toList = l := by simp [go_sem]
theorem toList_data (s : ByteArray) : s.toList = s.data.toList := by
  obtain ⟨l, rfl⟩ : ∃ l : List UInt8, s = ⟨l.toArray⟩ := ⟨s.data.toList, by simp⟩
  exact toList_mk l

/-- one number more, onto a slice of numbers that the call owns, as a step of a region that draws: the number lies in block B -/
theorem step_pushI {ops : Array Oper} {o : Oper} {a : Act} {K : Act → World → Prop} {Q : Exit → Act → World → Prop} {E : Prop} {w : World} (hgd : o.guard = none) (s x : Operand)
    (ho : o.op = .call { callee := .builtin .append, args := #[s, x], argTypes := #[49, 49] })
    (base : Nat) (v : Value) (l : List Int) (n : Nat) (hs : a.eval s = v) (hown : w.ownsRow base 3 1 v n (icells l)) (hbase : base ≤ w.heap.size)
    (B : Nat) (z : Int) (hB : w.cell? ⟨B, 0, none⟩ = some (.int .i64 z)) (hx : a.eval x = .slice (some ⟨B, 0, none⟩) 1 1) (hlen : (n + 1) * 8 ≤ 140737488355328)
    (h : ∀ v' w', w'.ownsRow base 3 1 v' (n + 1) (icells (l ++ [z])) → Below base w w' → K (a.put o.dst v') w') :
    if Region.wanted o (yielded ops a.tmps) = true then Oper.wp Try.prog o a w K Q else E := by
  obtain ⟨i0, hi, hz0, hz1, hz2⟩ := info_parts info_int
  have hw : Region.wanted o (yielded ops a.tmps) = true := by simp [Region.wanted, hgd]
  rw [if_pos hw]
  refine wp_append_own _ s x 49 ho base 3 i0 (.int .i64 0) 1 8 Try.underlying49 hi hz0 hz1 hz2 rfl (by decide) v n (icells l) hs hown ⟨B, 0, none⟩ 1 1 (icells [z]) hx rfl ?c1 ?c2 ?c3 ?c4 hbase ?_
  case c1 =>
    intro j u hj
    match j, hj with
    | 0, hj => simp [icells] at hj; subst hj; simpa [Addr.add] using hB
    | j + 1, hj => simp [icells] at hj
  case c2 => intro u hu; simp [icells] at hu; subst hu; rfl
  case c3 => unfold maxLen; omega
  case c4 => exact hlen
  intro v' w' h1 h2 _
  refine h v' w' (by rw [icells_append]; exact h1) ?_
  exact (Below.refl base w).grown h2 hbase (fun k hk => (hown.lt k hk).1)
/-- the same behind one draw, the number in a new block -/
theorem step_pushI_drew {ops : Array Oper} {o : Oper} {a : Act} {K : Act → World → Prop} {Q : Exit → Act → World → Prop} {E : Prop} {w : World} (hgd : o.guard = none) (s x : Operand)
    (ho : o.op = .call { callee := .builtin .append, args := #[s, x], argTypes := #[49, 49] })
    (base : Nat) (v : Value) (l : List Int) (n : Nat) (hs : a.eval s = v) (hown : w.ownsRow base 3 1 v n (icells l)) (hbase : base ≤ w.heap.size)
    (z : Int) (hx : a.eval x = .slice (some ⟨w.heap.size, 0, none⟩) 1 1) (hlen : (n + 1) * 8 ≤ 140737488355328)
    (h : ∀ v' w', w'.ownsRow base 3 1 v' (n + 1) (icells (l ++ [z])) → Below base w w' → K (a.put o.dst v') w') :
    if Region.wanted o (yielded ops a.tmps) = true then Oper.wp Try.prog o a (w.alloc (.cells #[.int .i64 z] 3)).drew K Q else E := by
  refine step_pushI hgd s x ho base v l n hs (hown.alloc _).drew ?_ w.heap.size z ?_ hx hlen (fun v' w' h1 h2 => h v' w' h1 ?_)
  · show base ≤ (w.heap.push _).size; simp; omega
  · exact World.cell?_alloc_mark w _ 3 _ 0
  · exact ((Below.refl base w).alloc hbase _).drew.trans h2
end Go.Proofs.Ytcjhaapmehegkaa
