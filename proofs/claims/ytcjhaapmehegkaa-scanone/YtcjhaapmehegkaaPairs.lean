/-
  Two rows of numbers that a call owns, each in a block of its own; one number more onto one of them.
-/
import Derived.Test.YtcjhaapmehegkaaBlocks
import Derived.Maps.AppendAt
namespace Go.Proofs.Ytcjhaapmehegkaa
open Go.RowKit

/-- where the row lies behind an append -/
def Lies (w : World) (v v' : Value) : Prop := v'.ownBlock = v.ownBlock ∨ ∃ g, v'.ownBlock = some g ∧ w.heap.size ≤ g
theorem grown_alloc {w w' : World} {o : Obj} {row : Option Nat} (h : (w.alloc o).grownBy w' row) : w.grownBy w' row :=
  ⟨h.os, h.tape, h.output, Nat.le_trans (by simp) h.size, fun k hk hne => (h.block k (by simp; omega) hne).trans (Below.heap_alloc w o k hk)⟩
theorem grown_drew {w w' : World} {row : Option Nat} (h : w.drew.grownBy w' row) : w.grownBy w' row := ⟨h.os, h.tape, h.output, h.size, h.block⟩

/-- one number more, onto a slice of numbers that the call owns: no other row turns -/
theorem pushA {ops : Array Oper} {rest : List Oper} {o : Oper} {a : Act} {Q : Exit → Act → World → Prop} {w : World} (hgd : o.guard = none) (s x : Operand)
    (ho : o.op = .call { callee := .builtin .append, args := #[s, x], argTypes := #[49, 49] })
    (base : Nat) (v : Value) (l : List Int) (n : Nat) (hs : a.eval s = v) (hown : w.ownsRow base 3 1 v n (icells l)) (hbase : base ≤ w.heap.size)
    (z : Int) (hx : a.eval x = .slice (some ⟨w.heap.size, 0, none⟩) 1 1) (hlen : (n + 1) * 8 ≤ 140737488355328)
    (h : ∀ v' w', w'.ownsRow base 3 1 v' (n + 1) (icells (l ++ [z])) → w.grownBy w' v.ownBlock → Lies w v v' → wpList Try.prog ops Q rest (a.put o.dst v') w') :
    wpList Try.prog ops Q (o :: rest) a (w.alloc (.cells #[.int .i64 z] 3)) := by
  obtain ⟨i0, hi, hz0, hz1, hz2⟩ := info_parts info_int
  refine wpList_append_own_at _ hgd s x 49 ho base 3 i0 (.int .i64 0) 1 8 Try.underlying49 hi hz0 hz1 hz2 rfl (by decide) v n (icells l) hs (hown.alloc _) ⟨w.heap.size, 0, none⟩ 1 1 (icells [z]) hx rfl ?c1 ?c2 ?c3 ?c4 ?c5 ?_
  case c1 =>
    intro j u hj
    match j, hj with
    | 0, hj => simp [icells] at hj; subst hj; simp [Addr.add]
    | j + 1, hj => simp [icells] at hj
  case c2 => intro u hu; simp [icells] at hu; subst hu; rfl
  case c3 => unfold maxLen; omega
  case c4 => exact hlen
  case c5 => simp; omega
  intro v' w' h1 h2 _ h4
  refine h v' w' (by rw [icells_append]; exact h1) (grown_alloc h2) ?_
  rcases h4 with h4 | h4
  · exact .inl h4
  · exact .inr ⟨_, h4, by simp⟩
/-- the same as a step of a region that draws -/
theorem step_pushA {ops : Array Oper} {o : Oper} {a : Act} {K : Act → World → Prop} {Q : Exit → Act → World → Prop} {E : Prop} {w : World} (hgd : o.guard = none) (s x : Operand)
    (ho : o.op = .call { callee := .builtin .append, args := #[s, x], argTypes := #[49, 49] })
    (base : Nat) (v : Value) (l : List Int) (n : Nat) (hs : a.eval s = v) (hown : w.ownsRow base 3 1 v n (icells l)) (hbase : base ≤ w.heap.size)
    (z : Int) (hx : a.eval x = .slice (some ⟨w.heap.size, 0, none⟩) 1 1) (hlen : (n + 1) * 8 ≤ 140737488355328)
    (h : ∀ v' w', w'.ownsRow base 3 1 v' (n + 1) (icells (l ++ [z])) → w.grownBy w' v.ownBlock → Lies w v v' → K (a.put o.dst v') w') :
    if Region.wanted o (yielded ops a.tmps) = true then Oper.wp Try.prog o a (w.alloc (.cells #[.int .i64 z] 3)) K Q else E := by
  obtain ⟨i0, hi, hz0, hz1, hz2⟩ := info_parts info_int
  have hw : Region.wanted o (yielded ops a.tmps) = true := by simp [Region.wanted, hgd]
  rw [if_pos hw]
  obtain ⟨v', w', hr, h2, h3, _, h5⟩ := run_append_own_at (P := Try.prog) (w.alloc (.cells #[.int .i64 z] 3)) base 49 o.type 3 i0 (.int .i64 0) 1 8 Try.underlying49 hi hz0 hz1 hz2 rfl (by decide) v n (icells l) (hown.alloc _) ⟨w.heap.size, 0, none⟩ 1 1 (icells [z]) rfl
    (by
      intro j u hj
      match j, hj with
      | 0, hj => simp [icells] at hj; subst hj; simp [Addr.add]
      | j + 1, hj => simp [icells] at hj)
    (by intro u hu; simp [icells] at hu; subst hu; rfl) (by unfold maxLen; omega) hlen (by show base ≤ (w.heap.push _).size; simp; omega)
  unfold Oper.wp execOp
  simp only [ho, resolve, invoke, builtin, Sem.run_bind, Sem.run_pure, Result.andThen_ok, List.map_toArray, List.map_cons, List.map_nil, hs, hx, hr]
  refine h v' w' (by rw [icells_append]; exact h2) (grown_alloc h3) ?_
  rcases h5 with h5 | h5
  · exact .inl h5
  · exact .inr ⟨_, h5, by show w.heap.size ≤ (w.heap.push _).size; simp⟩
/-- the same behind one draw -/
theorem step_pushA_drew {ops : Array Oper} {o : Oper} {a : Act} {K : Act → World → Prop} {Q : Exit → Act → World → Prop} {E : Prop} {w : World} (hgd : o.guard = none) (s x : Operand)
    (ho : o.op = .call { callee := .builtin .append, args := #[s, x], argTypes := #[49, 49] })
    (base : Nat) (v : Value) (l : List Int) (n : Nat) (hs : a.eval s = v) (hown : w.ownsRow base 3 1 v n (icells l)) (hbase : base ≤ w.heap.size)
    (z : Int) (hx : a.eval x = .slice (some ⟨w.heap.size, 0, none⟩) 1 1) (hlen : (n + 1) * 8 ≤ 140737488355328)
    (h : ∀ v' w', w'.ownsRow base 3 1 v' (n + 1) (icells (l ++ [z])) → w.grownBy w' v.ownBlock → Lies w v v' → K (a.put o.dst v') w') :
    if Region.wanted o (yielded ops a.tmps) = true then Oper.wp Try.prog o a (w.alloc (.cells #[.int .i64 z] 3)).drew K Q else E :=
  step_pushA (w := w.drew) hgd s x ho base v l n hs hown hbase z hx hlen (fun v' w' h1 h2 h3 => h v' w' h1 (grown_drew h2) h3)

/-- two rows, apart -/
def Two (w : World) (base : Nat) (vk : Value) (ks : List Int) (vv : Value) (vs : List Int) : Prop :=
  w.ownsRow base 3 1 vk ks.length (icells ks) ∧ w.ownsRow base 3 1 vv vs.length (icells vs) ∧ (vk.ownBlock = none ∨ vk.ownBlock ≠ vv.ownBlock)
theorem Two.nil (w : World) (base : Nat) : Two w base (.slice none 0 0) [] (.slice none 0 0) [] := ⟨World.ownsRow_nil _ _ _ _, World.ownsRow_nil _ _ _ _, .inl rfl⟩
theorem Two.symm {w : World} {base : Nat} {vk vv : Value} {ks vs : List Int} (h : Two w base vk ks vv vs) : Two w base vv vs vk ks := by
  refine ⟨h.2.1, h.1, ?_⟩
  by_cases hv : vv.ownBlock = none
  · exact .inl hv
  · refine .inr fun e => ?_
    rcases h.2.2 with h | h
    · exact hv (e.trans h)
    · exact h e.symm
theorem Two.mem {w w' : World} {base : Nat} {vk vv : Value} {ks vs : List Int} (h : Two w base vk ks vv vs) (m : Mem w w') : Two w' base vk ks vv vs := ⟨owns_below h.1 m, owns_below h.2.1 m, h.2.2⟩
theorem Two.setCell {w : World} {base : Nat} {vk vv : Value} {ks vs : List Int} (h : Two w base vk ks vv vs) {p : Addr} (hp : p.block < base) (x : Value) : Two (w.setCell p x) base vk ks vv vs :=
  ⟨ownsRow_setCell_below h.1 hp x, ownsRow_setCell_below h.2.1 hp x, h.2.2⟩
theorem Two.drew {w : World} {base : Nat} {vk vv : Value} {ks vs : List Int} (h : Two w base vk ks vv vs) : Two w.drew base vk ks vv vs := h
/-- behind an append onto the first -/
theorem Two.push {w w' : World} {base : Nat} {vk vk' vv : Value} {ks vs : List Int} {z : Int} (h : Two w base vk ks vv vs) (ho : w'.ownsRow base 3 1 vk' (ks.length + 1) (icells (ks ++ [z]))) (hg : w.grownBy w' vk.ownBlock) (hl : Lies w vk vk') :
    Two w' base vk' (ks ++ [z]) vv vs := by
  refine ⟨by rw [List.length_append]; exact ho, h.2.1.kept hg ?_, ?_⟩
  · by_cases hv : vv.ownBlock = none
    · exact .inl hv
    · refine .inr fun e => ?_
      rcases h.2.2 with h | h
      · exact hv (e.trans h)
      · exact h e.symm
  · rcases hl with hl | ⟨g, hl, hge⟩
    · rw [hl]; exact h.2.2
    · refine .inr fun e => ?_
      have hlt := (h.2.1.lt g (by rw [← e]; exact hl)).2
      omega
theorem Two.ints {w : World} {base : Nat} {vk vv : Value} {ks vs : List Int} (h : Two w base vk ks vv vs) : Ints .i64 w vk ks ∧ Ints .i64 w vv vs := ⟨Ints.of_owns h.1, Ints.of_owns h.2.1⟩
theorem grown_below {w w' : World} {base : Nat} {v : Value} {e : TypeId} {size n : Nat} {xs : List Value} (h : w.ownsRow base e size v n xs) (hg : w.grownBy w' v.ownBlock) (hb : base ≤ w.heap.size) : Below base w w' :=
  (Below.refl base w).grown hg hb (fun k hk => (h.lt k hk).1)
theorem owns_shape {w : World} {base : Nat} {e : TypeId} {size : Nat} {v : Value} {n : Nat} {xs : List Value} (h : w.ownsRow base e size v n xs) : ∃ oa cap, v = .slice oa n cap := by
  rcases h.2 with ⟨rfl, h0⟩ | ⟨g, cap, cur, rfl, _⟩
  · subst h0; exact ⟨_, _, rfl⟩
  · exact ⟨_, _, rfl⟩
end Go.Proofs.Ytcjhaapmehegkaa
