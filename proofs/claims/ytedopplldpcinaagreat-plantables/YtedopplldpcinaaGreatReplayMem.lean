/-
  Layer 7: rows of numbers that may be written into, and copies of rows.
-/
import Derived.Test.YtedopplldpcinaaGreatChipMem
namespace Go.Proofs.YtedopplldpcinaaGreat.Replay
open Go.RowKit

/-- the numbers zs, in block g, which may be written into -/
def RowAt (w : World) (g : Nat) (oa : Option Addr) (zs : List Int) : Prop :=
  0 < zs.length → oa = some ⟨g, 0, none⟩ ∧ ∃ cs, Blk w g 3 cs ∧ ∀ j, j < zs.length → cs[j]? = some (.int .i64 (zs.getD j 0))
theorem RowAt.mem {w w' : World} {g : Nat} {oa : Option Addr} {zs : List Int} (h : RowAt w g oa zs) (m : Mem w w') : RowAt w' g oa zs := by
  intro h0
  obtain ⟨h1, cs, h2, h3⟩ := h h0
  exact ⟨h1, cs, h2.mem m, h3⟩
theorem RowAt.other {w : World} {g : Nat} {oa : Option Addr} {zs : List Int} (h : RowAt w g oa zs) {p : Addr} (hp : g ≠ p.block) (x : Value) : RowAt (w.setCell p x) g oa zs := by
  intro h0
  obtain ⟨h1, cs, h2, h3⟩ := h h0
  exact ⟨h1, cs, h2.other hp x, h3⟩
theorem RowAt.set {w : World} {g : Nat} {oa : Option Addr} {zs : List Int} (h : RowAt w g oa zs) (k : Nat) (x : Int) : RowAt (w.setCell ⟨g, k, none⟩ (.int .i64 x)) g oa (zs.set k x) := by
  intro h0
  rw [List.length_set] at h0
  obtain ⟨h1, cs, h2, h3⟩ := h h0
  refine ⟨h1, _, h2.set k _, fun j hj => ?_⟩
  rw [List.length_set] at hj
  have hs := h3 j hj
  have hlt : j < cs.size := (Array.getElem?_eq_some_iff.1 hs).1
  by_cases e : k = j
  · subst e
    rw [Array.getElem?_setIfInBounds]
    simp [hlt, hj]
  · rw [Array.getElem?_setIfInBounds, if_neg e, hs]
    simp [e]
theorem RowAt.cell {w : World} {g : Nat} {oa : Option Addr} {zs : List Int} (h : RowAt w g oa zs) {k : Nat} (hk : k < zs.length) : w.cell? ⟨g, k, none⟩ = some (.int .i64 (zs.getD k 0)) := by
  obtain ⟨_, cs, h2, h3⟩ := h (by omega)
  exact h2.cell (h3 k hk)
theorem RowAt.addr {w : World} {g : Nat} {oa : Option Addr} {zs : List Int} (h : RowAt w g oa zs) (h0 : 0 < zs.length) : oa = some ⟨g, 0, none⟩ := (h h0).1
theorem RowAt.frozen {w : World} {g : Nat} {oa : Option Addr} {zs : List Int} (h : RowAt w g oa zs) (h0 : 0 < zs.length) (k : Nat) : w.frozen? ⟨g, k, none⟩ = false := by
  obtain ⟨_, cs, h2, _⟩ := h h0
  exact h2.frozen k
theorem RowAt.ints {w : World} {g : Nat} {oa : Option Addr} {zs : List Int} (h : RowAt w g oa zs) (hl : zs.length ≤ maxLen) (cap : Nat) : Ints .i64 w (.slice oa zs.length cap) zs := by
  refine ⟨hl, ?_⟩
  by_cases h0 : 0 < zs.length
  · refine .inr ⟨g, 0, cap, by rw [h.addr h0], h0, fun j hj => ?_⟩
    rw [Nat.zero_add]
    exact h.cell hj
  · have : zs = [] := List.length_eq_zero_iff.1 (by omega)
    subst this
    exact .inl ⟨rfl, _, _, rfl⟩
/-- a row that the call owns -/
theorem RowAt.of_owns {w : World} {base : Nat} {v : Value} {n : Nat} {zs : List Int} (G : Nat) (h : w.ownsRow base 3 1 v n (icells zs)) :
    ∃ oa cap g, v = .slice oa zs.length cap ∧ RowAt w g oa zs ∧ ((v.ownBlock = some g ∧ base ≤ g ∧ g < w.heap.size) ∨ (v.ownBlock = none ∧ g = G)) := by
  have hn : zs.length = n := by simpa [icells] using h.1
  subst hn
  rcases id h.2 with ⟨rfl, h0⟩ | ⟨g, cap, cur, rfl, hb, hh, hlc, hcm, hcs, ht⟩
  · exact ⟨none, 0, G, by rw [h0], fun h => by omega, .inr ⟨rfl, rfl⟩⟩
  · refine ⟨_, cap, g, rfl, fun _ => ⟨rfl, cur, hh, fun j hj => ?_⟩, .inl ⟨rfl, hb, (Array.getElem?_eq_some_iff.1 hh).1⟩⟩
    have : (cur.toList.take (zs.length * 1))[j]? = (icells zs)[j]? := by rw [ht]
    rw [List.getElem?_take_of_lt (by omega)] at this
    rw [← Array.getElem?_toList, this]
    simp [icells, hj]
/-- two rows that are apart, and apart from block B -/
theorem Two.rows {w : World} {base B : Nat} {vm vb : Value} {ms bs : List Int} (h : Two w base vm ms vb bs) (hB : B < w.heap.size) (hm : ∀ k, vm.ownBlock = some k → k ≠ B) (hb : ∀ k, vb.ownBlock = some k → k ≠ B) (hbase : base ≤ w.heap.size) :
    ∃ om cm gm ob cb gb, vm = .slice om ms.length cm ∧ vb = .slice ob bs.length cb ∧ RowAt w gm om ms ∧ RowAt w gb ob bs ∧ base ≤ gm ∧ base ≤ gb ∧ gm ≠ gb ∧ gm ≠ B ∧ gb ≠ B := by
  obtain ⟨om, cm, gm, e1, r1, c1⟩ := RowAt.of_owns (w.heap.size + 1) h.1
  obtain ⟨ob, cb, gb, e2, r2, c2⟩ := RowAt.of_owns (w.heap.size + 2) h.2.1
  refine ⟨om, cm, gm, ob, cb, gb, e1, e2, r1, r2, ?_⟩
  have hne := h.2.2
  rcases c1 with ⟨d1, d2, d3⟩ | ⟨d1, rfl⟩
  · have := hm _ d1
    rcases c2 with ⟨f1, f2, f3⟩ | ⟨f1, rfl⟩
    · have := hb _ f1
      rw [d1, f1] at hne
      have : gm ≠ gb := fun e => by subst e; simp at hne
      omega
    · omega
  · rcases c2 with ⟨f1, f2, f3⟩ | ⟨f1, rfl⟩
    · have := hb _ f1
      omega
    · omega

set_option maxRecDepth 100000 in
/-- all of a slice's numbers, onto a row without any -/
theorem run_append_ints {w : World} (base : Nat) (v : Value) (ty : TypeId) (hown : w.ownsRow base 3 1 v 0 []) (vx : Value) (zs : List Int) (hz : Ints .i64 w vx zs) (hl : zs.length ≤ 1000) (hbase : base ≤ w.heap.size) :
    ∃ v' w', (Builtin.append_ #[25, 25] ty #[v, vx]).run Tryz.prog w = .ok v' w' ∧ w'.ownsRow base 3 1 v' zs.length (icells zs) ∧ w.grownBy w' v.ownBlock ∧ Lies w v v' := by
  obtain ⟨i0, hi, hz0, hz1, hz2⟩ := info_parts info_int
  obtain ⟨oa, cap, rfl⟩ := hz.shape
  cases oa with
  | none =>
    have h0 : zs = [] := by
      rcases hz.2 with ⟨h, _⟩ | ⟨b, off, cap', hv, _⟩
      · exact h
      · injection hv with ha; cases ha
    subst h0
    refine ⟨v, w, ?_, hown, ⟨rfl, rfl, rfl, Nat.le_refl _, fun k _ _ => rfl⟩, .inl rfl⟩
    rcases hown.2 with ⟨rfl, _⟩ | ⟨g, c, cur, rfl, _⟩
    · simp [Builtin.append_, run_underlying Tryz.underlying25, sizeOf, typeInfo, hi, Builtin.lenOf, Builtin.firstCells]
    · simp [Builtin.append_, run_underlying Tryz.underlying25, sizeOf, typeInfo, hi, Builtin.lenOf, Builtin.firstCells, storeCells]
  | some ad =>
    obtain ⟨v', w', h1, h2, h3, _, h5⟩ := run_append_own_at (P := Tryz.prog) w base 25 ty 3 i0 (.int .i64 0) 1 8 Tryz.underlying25 hi hz0 hz1 hz2 rfl (by decide) v 0 [] hown ad zs.length cap (icells zs) (by simp [icells])
      (by
        intro j u hj
        have hjl : j < zs.length := by have := (List.getElem?_eq_some_iff.1 hj).1; rwa [icells_length] at this
        obtain ⟨b, off, e, hc⟩ := hz.at (by omega)
        injection e with e
        subst e
        have hadd : (⟨b, off, none⟩ : Addr).add j = ⟨b, off + j, none⟩ := by simp [Addr.add]
        rw [hadd, hc j hjl]
        simp [icells, hjl] at hj
        rw [← hj]
        simp [hjl])
      (by intro u hu; simp [icells] at hu; obtain ⟨x, _, rfl⟩ := hu; rfl) (by unfold maxLen; omega) (by omega) hbase
    refine ⟨v', w', h1, by simpa using h2, h3, ?_⟩
    rcases h5 with h5 | h5
    · exact .inl h5
    · exact .inr ⟨_, h5, Nat.le_refl _⟩
/-- at the operation -/
theorem pushAll {ops : Array Oper} {rest : List Oper} {o : Oper} {a : Act} {Q : Exit → Act → World → Prop} {w : World} (hgd : o.guard = none) (s x : Operand)
    (ho : o.op = .call { callee := .builtin .append, args := #[s, x], argTypes := #[25, 25] })
    (base : Nat) (v : Value) (hs : a.eval s = v) (hown : w.ownsRow base 3 1 v 0 []) (vx : Value) (zs : List Int) (hx : a.eval x = vx) (hz : Ints .i64 w vx zs) (hl : zs.length ≤ 1000) (hbase : base ≤ w.heap.size)
    (h : ∀ v' w', w'.ownsRow base 3 1 v' zs.length (icells zs) → w.grownBy w' v.ownBlock → Lies w v v' → wpList Tryz.prog ops Q rest (a.put o.dst v') w') :
    wpList Tryz.prog ops Q (o :: rest) a w := by
  refine wpList_plain hgd fun K hK => ?_
  obtain ⟨v', w', hr, h2, h3, h4⟩ := run_append_ints base v o.type hown vx zs hz hl hbase
  unfold Oper.wp execOp
  simp only [ho, resolve, invoke, builtin, Sem.run_bind, Sem.run_pure, Result.andThen_ok, List.map_toArray, List.map_cons, List.map_nil, hs, hx, hr]
  exact hK _ _ (h v' w' h2 h3 h4)
/-- the same as a step of a region that draws -/
theorem step_pushAll {ops : Array Oper} {o : Oper} {a : Act} {K : Act → World → Prop} {Q : Exit → Act → World → Prop} {E : Prop} {w : World} (hgd : o.guard = none) (s x : Operand)
    (ho : o.op = .call { callee := .builtin .append, args := #[s, x], argTypes := #[25, 25] })
    (base : Nat) (v : Value) (hs : a.eval s = v) (hown : w.ownsRow base 3 1 v 0 []) (vx : Value) (zs : List Int) (hx : a.eval x = vx) (hz : Ints .i64 w vx zs) (hl : zs.length ≤ 1000) (hbase : base ≤ w.heap.size)
    (h : ∀ v' w', w'.ownsRow base 3 1 v' zs.length (icells zs) → w.grownBy w' v.ownBlock → Lies w v v' → K (a.put o.dst v') w') :
    if Region.wanted o (yielded ops a.tmps) = true then Oper.wp Tryz.prog o a w K Q else E := by
  have hw : Region.wanted o (yielded ops a.tmps) = true := by simp [Region.wanted, hgd]
  rw [if_pos hw]
  obtain ⟨v', w', hr, h2, h3, h4⟩ := run_append_ints base v o.type hown vx zs hz hl hbase
  unfold Oper.wp execOp
  simp only [ho, resolve, invoke, builtin, Sem.run_bind, Sem.run_pure, Result.andThen_ok, List.map_toArray, List.map_cons, List.map_nil, hs, hx, hr]
  exact h v' w' h2 h3 h4

theorem eqIn_nil (w : World) (n : Nat) (t e : TypeId) (a : Option Addr) (l c : Nat) (h : Tryz.prog.underlying t = some (.slice e)) : (Op.equalIn (n + 1) t (.slice a l c) (.slice none 0 0)).run Tryz.prog w = .ok a.isNone w := by
  cases a <;> simp [Op.equalIn, run_underlying h]
theorem eq_nil (w : World) (t e : TypeId) (a : Option Addr) (l c : Nat) (h : Tryz.prog.underlying t = some (.slice e)) : (Op.equal t (.slice a l c) (.slice none 0 0)).run Tryz.prog w = .ok a.isNone w := eqIn_nil w 9999 t e a l c h
theorem eql_nil (w : World) (t e : TypeId) (a : Option Addr) (l c : Nat) (h : Tryz.prog.underlying t = some (.slice e)) : (binOp .eql t (.slice a l c) (.slice none 0 0)).run Tryz.prog w = .ok (.bool a.isNone) w := by
  simp [binOp, eq_nil w t e a l c h]
end Go.Proofs.YtedopplldpcinaaGreat.Replay
