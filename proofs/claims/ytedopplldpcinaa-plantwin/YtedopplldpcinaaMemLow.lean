/-
  Base, Ints, Blocks, IntsIns, Words: in one text (merge.json).
-/
import Derived.Test.YtedopplldpcinaaRows
import Derived.WalkKit
import Derived.WalkSpells
import Derived.WalkLawsBesides
import Derived.Outline
import Derived.Below
import Derived.OpenShut
import Derived.LoopN
import Derived.Laws.BytesArg
import Derived.Laws.IdiomStrings
import Derived.Lib.AppendStr
import Derived.Deep.QuietTactic
import Derived.BigQuiet
/-
  What all texts of this seat share: memory that a call makes, slices of bytes and of integers that a call owns, slices that came in.
-/
namespace Go.Proofs.Ytedopplldpcinaa
open Go.RowKit

/-! ### The world behind a call -/
/-- what was there when the call began has not turned -/
def Mem (w w' : World) : Prop := Below w.heap.size w w'
theorem Mem.refl (w : World) : Mem w w := Below.refl _ _
theorem Mem.trans {a b c : World} (h : Mem a b) (k : Mem b c) : Mem a c := Below.trans h (Below.mono k h.size)
theorem Mem.alloc {a b : World} (h : Mem a b) (o : Obj) : Mem a (b.alloc o) := Below.alloc h h.size o
theorem Mem.drew {a b : World} (h : Mem a b) : Mem a b.drew := Below.drew h
theorem Mem.drewN {a b : World} (h : Mem a b) (n : Nat) : Mem a (b.drewN n) := below_drewN h n
theorem Mem.of_eq {a b : World} (h : b = a) : Mem a b := by rw [h]; exact Mem.refl _
theorem Mem.quiet {a b : World} (h : ∃ n, b = a.drewN n) : Mem a b := by obtain ⟨n, rfl⟩ := h; exact (Mem.refl _).drewN n
theorem Mem.below {a b : World} (h : Mem a b) {B : Nat} (hB : B ≤ a.heap.size) : Below B a b := Below.mono h hB
theorem hide {p : Prop} (h : p) : Hid p := h
theorem int_eq {k : IntKind} {a b : Int} (h : a = b) : Value.int k a = Value.int k b := by rw [h]
theorem str_eq {a b : ByteArray} (h : a = b) : Value.string a = Value.string b := by rw [h]
theorem ret_int {k : IntKind} {a b : Int} (h : a = b) : Ending.returned (.int k a) = .returned (.int k b) := by rw [h]
theorem ret_bool {a : Bool} (h : a = true) : Ending.returned (.bool a) = .returned (.bool true) := by rw [h]
theorem ret_b {a b : Bool} (h : a = b) : Ending.returned (.bool a) = .returned (.bool b) := by rw [h]
theorem ret_eq {a b : Value} (h : a = b) : Ending.returned a = .returned b := by rw [h]
theorem ret_str {a b : ByteArray} (h : a = b) : Ending.returned (.string a) = .returned (.string b) := by rw [h]

/-! ### Slices that own their row: what a call leaves of them -/
theorem owns_below {w w' : World} {base : Nat} {e : TypeId} {size : Nat} {v : Value} {n : Nat} {xs : List Value} (h : w.ownsRow base e size v n xs) (m : Mem w w') : w'.ownsRow base e size v n xs :=
  h.kept (row := none) ⟨m.os, m.tape, m.output, m.size, fun k hk _ => m.block k hk⟩ (by cases hv : v.ownBlock <;> simp)
theorem owns_mono {w : World} {base base' : Nat} {e : TypeId} {size : Nat} {v : Value} {n : Nat} {xs : List Value} (h : w.ownsRow base e size v n xs) (hb : base' ≤ base) : w.ownsRow base' e size v n xs := by
  obtain ⟨h1, h2⟩ := h
  refine ⟨h1, ?_⟩
  rcases h2 with h2 | ⟨g, cap, cur, hv, hg, r⟩
  · exact .inl h2
  · exact .inr ⟨g, cap, cur, hv, Nat.le_trans hb hg, r⟩

/-! ### Bytes -/
/-- bytes as cells -/
def bcells (l : List UInt8) : List Value := l.map fun b => .int .u8 (b.toNat : Int)
theorem bcells_length (l : List UInt8) : (bcells l).length = l.length := by simp [bcells]
theorem bcells_append (l m : List UInt8) : bcells (l ++ m) = bcells l ++ bcells m := by simp [bcells]
theorem bcells_str (s : ByteArray) : Lib.strCells s = bcells s.data.toList := rfl
theorem info_u8 : (Try.prog.info? 5).map (fun i => (i.zero, i.size, i.bytes)) = some (some (.int .u8 0), 1, 1) := by kernel_rfl

/-- the text of a slice of bytes that the call owns -/
theorem conv_owned {w : World} {base : Nat} {v : Value} {l : List UInt8} (h : w.ownsRow base 5 1 v l.length (bcells l)) :
    (convert 157 9 v).run Try.prog w = .ok (.string ⟨l.toArray⟩) w := by
  obtain ⟨_, h⟩ := h
  rcases h with ⟨rfl, hn⟩ | ⟨g, cap, cur, rfl, _, hh, _, _, _, ht⟩
  · have hl : l = [] := List.length_eq_zero_iff.1 hn
    subst hl
    rw [run_convert_bytes_nil w 157 5 Try.underlying157 Try.underlying5 0 0 9 Try.underlying9]
    rfl
  · refine run_convert_bytes_back w 157 9 5 ⟨g, 0, none⟩ cap l Try.underlying157 Try.underlying5 Try.underlying9 ?_
    intro j hj
    have e : cur.toList[j]? = some (.int .u8 (l[j].toNat : Int)) := by
      have : (cur.toList.take (l.length * 1))[j]? = (bcells l)[j]? := by rw [ht]
      rw [List.getElem?_take_of_lt (by omega)] at this
      rw [this]; simp [bcells, hj]
    show w.cell? ((⟨g, 0, none⟩ : Addr).add j) = _
    have ha : (⟨g, 0, none⟩ : Addr).add j = ⟨g, j, none⟩ := by simp [Addr.add]; omega
    rw [ha]
    simp [World.cell?, hh]
    simpa using e

theorem conv_owned_drew {w : World} {base : Nat} {v : Value} {l : List UInt8} (h : w.ownsRow base 5 1 v l.length (bcells l)) (n : Nat) :
    (convert 157 9 v).run Try.prog (w.drewN n) = .ok (.string ⟨l.toArray⟩) (w.drewN n) := conv_owned (w := w.drewN n) (base := base) h

/-- the text of one byte that was just laid -/
theorem conv_one (w : World) (z : Int) (b : UInt8) (hz : z = (b.toNat : Int)) (t : TypeId) :
    (convert 157 9 (.slice (some ⟨w.heap.size, 0, none⟩) 1 1)).run Try.prog (w.alloc (.cells #[.int .u8 z] t)) = .ok (.string ⟨#[b]⟩) (w.alloc (.cells #[.int .u8 z] t)) := by
  subst hz
  refine run_convert_bytes_back _ 157 9 5 ⟨w.heap.size, 0, none⟩ 1 [b] Try.underlying157 Try.underlying5 Try.underlying9 ?_
  intro j hj
  have : j = 0 := by simp at hj; omega
  subst this
  exact World.cell?_alloc_mark w _ t _ _

/-- one byte more, onto a slice of bytes that the call owns ('append(l, b)': b lies in a block of its own first) -/
theorem push8 {ops : Array Oper} {rest : List Oper} {o : Oper} {a : Act} {Q : Exit → Act → World → Prop} {w : World} (hgd : o.guard = none) (s x : Operand)
    (ho : o.op = .call { callee := .builtin .append, args := #[s, x], argTypes := #[157, 157] })
    (base : Nat) (v : Value) (l : List UInt8) (n : Nat) (hn : l.length = n) (hs : a.eval s = v) (hown : w.ownsRow base 5 1 v n (bcells l)) (hbase : base ≤ w.heap.size)
    (b : UInt8) (z : Int) (hz : z = (b.toNat : Int)) (hx : a.eval x = .slice (some ⟨w.heap.size, 0, none⟩) 1 1) (hlen : n + 1 ≤ 140737488355328)
    (h : ∀ v' w', w'.ownsRow base 5 1 v' (n + 1) (bcells (l ++ [b])) → Below base w w' → wpList Try.prog ops Q rest (a.put o.dst v') w') :
    wpList Try.prog ops Q (o :: rest) a (w.alloc (.cells #[.int .u8 z] 5)) := by
  subst hz
  obtain ⟨i0, hi, hz0, hz1, hz2⟩ := info_parts info_u8
  refine wpList_append_own _ hgd s x 157 ho base 5 i0 (.int .u8 0) 1 1 Try.underlying157 hi hz0 hz1 hz2 rfl (by decide) v n (bcells l) hs (hown.alloc _) ⟨w.heap.size, 0, none⟩ 1 1 (bcells [b]) hx rfl ?c1 ?c2 ?c3 ?c4 ?c5 ?_
  case c1 =>
    intro j u hj
    match j, hj with
    | 0, hj => simp [bcells] at hj; subst hj; simp [Addr.add]
    | j + 1, hj => simp [bcells] at hj
  case c2 => intro u hu; simp [bcells] at hu; subst hu; rfl
  case c3 => unfold maxLen; omega
  case c4 => omega
  case c5 => simp; omega
  intro v' w' h1 h2 _
  refine h v' w' (by rw [bcells_append]; exact h1) ?_
  exact ((Below.refl base w).alloc hbase _).grown h2 (by simp; omega) (fun k hk => (hown.lt k hk).1)

/-- the same as a step of a region that draws its order, in whatever world: the byte lies in block B -/
theorem step_push8 {ops : Array Oper} {o : Oper} {a : Act} {K : Act → World → Prop} {Q : Exit → Act → World → Prop} {E : Prop} {w : World} (hgd : o.guard = none) (s x : Operand)
    (ho : o.op = .call { callee := .builtin .append, args := #[s, x], argTypes := #[157, 157] })
    (base : Nat) (v : Value) (l : List UInt8) (n : Nat) (hs : a.eval s = v) (hown : w.ownsRow base 5 1 v n (bcells l)) (hbase : base ≤ w.heap.size)
    (B : Nat) (b : UInt8) (hB : w.cell? ⟨B, 0, none⟩ = some (.int .u8 (b.toNat : Int))) (hx : a.eval x = .slice (some ⟨B, 0, none⟩) 1 1) (hlen : n + 1 ≤ 140737488355328)
    (h : ∀ v' w', w'.ownsRow base 5 1 v' (n + 1) (bcells (l ++ [b])) → Below base w w' → K (a.put o.dst v') w') :
    if Region.wanted o (yielded ops a.tmps) = true then Oper.wp Try.prog o a w K Q else E := by
  obtain ⟨i0, hi, hz0, hz1, hz2⟩ := info_parts info_u8
  have hw : Region.wanted o (yielded ops a.tmps) = true := by simp [Region.wanted, hgd]
  rw [if_pos hw]
  refine wp_append_own _ s x 157 ho base 5 i0 (.int .u8 0) 1 1 Try.underlying157 hi hz0 hz1 hz2 rfl (by decide) v n (bcells l) hs hown ⟨B, 0, none⟩ 1 1 (bcells [b]) hx rfl ?c1 ?c2 ?c3 ?c4 hbase ?_
  case c1 =>
    intro j u hj
    match j, hj with
    | 0, hj => simp [bcells] at hj; subst hj; simpa [Addr.add] using hB
    | j + 1, hj => simp [bcells] at hj
  case c2 => intro u hu; simp [bcells] at hu; subst hu; rfl
  case c3 => unfold maxLen; omega
  case c4 => omega
  intro v' w' h1 h2 _
  refine h v' w' (by rw [bcells_append]; exact h1) ?_
  exact (Below.refl base w).grown h2 hbase (fun k hk => (hown.lt k hk).1)

/-- the same behind one draw, the byte in a new block -/
theorem step_push8_drew {ops : Array Oper} {o : Oper} {a : Act} {K : Act → World → Prop} {Q : Exit → Act → World → Prop} {E : Prop} {w : World} (hgd : o.guard = none) (s x : Operand)
    (ho : o.op = .call { callee := .builtin .append, args := #[s, x], argTypes := #[157, 157] })
    (base : Nat) (v : Value) (l : List UInt8) (n : Nat) (hs : a.eval s = v) (hown : w.ownsRow base 5 1 v n (bcells l)) (hbase : base ≤ w.heap.size)
    (b : UInt8) (z : Int) (hz : z = (b.toNat : Int)) (hx : a.eval x = .slice (some ⟨w.heap.size, 0, none⟩) 1 1) (hlen : n + 1 ≤ 140737488355328)
    (h : ∀ v' w', w'.ownsRow base 5 1 v' (n + 1) (bcells (l ++ [b])) → Below base w w' → K (a.put o.dst v') w') :
    if Region.wanted o (yielded ops a.tmps) = true then Oper.wp Try.prog o a (w.alloc (.cells #[.int .u8 z] 5)).drew K Q else E := by
  subst hz
  refine step_push8 hgd s x ho base v l n hs (hown.alloc _).drew ?_ w.heap.size b ?_ hx hlen (fun v' w' h1 h2 => h v' w' h1 ?_)
  · show base ≤ (w.heap.push _).size; simp; omega
  · exact World.cell?_alloc_mark w _ 5 _ 0
  · exact ((Below.refl base w).alloc hbase _).drew.trans h2

/-! ### Bytes that were made of a text ('[]byte(s)': the run-time marks the place behind the row's last cell) and grow by texts -/
/-- the slice v owns the bytes l; no cell of its row is frozen -/
def ownsB (w : World) (base : Nat) (v : Value) (l : List UInt8) : Prop :=
  ∃ g cap cur fz, v = .slice (some ⟨g, 0, none⟩) l.length cap ∧ base ≤ g ∧ w.heap[g]? = some (.cells cur 5 fz) ∧ (fz = (0, 0) ∨ cur.size ≤ fz.1) ∧
    l.length ≤ cap ∧ cap ≤ maxLen ∧ cur.size = cap ∧ cur.toList.take l.length = bcells l
theorem ownsB.drew {w : World} {base : Nat} {v : Value} {l : List UInt8} (h : ownsB w base v l) : ownsB w.drew base v l := h
theorem ownsB.drewN {w : World} {base : Nat} {v : Value} {l : List UInt8} (h : ownsB w base v l) (n : Nat) : ownsB (w.drewN n) base v l := h
theorem ownsB.mem {w w' : World} {base : Nat} {v : Value} {l : List UInt8} (h : ownsB w base v l) (m : Mem w w') : ownsB w' base v l := by
  obtain ⟨g, cap, cur, fz, hv, hb, hh, r⟩ := h
  exact ⟨g, cap, cur, fz, hv, hb, by rw [m.block g (Array.getElem?_eq_some_iff.1 hh).1]; exact hh, r⟩
theorem ownsB.cell {w : World} {base : Nat} {v : Value} {l : List UInt8} {g cap n : Nat} (h : ownsB w base v l) (hv : v = .slice (some ⟨g, 0, none⟩) n cap) (j : Nat) (hj : j < l.length) : w.cell? ⟨g, j, none⟩ = some (.int .u8 (l[j].toNat : Int)) := by
  obtain ⟨g', cap', cur, fz, hv', _, hh, _, _, _, _, ht⟩ := h
  rw [hv'] at hv
  injection hv with ha hn hc
  injection ha with ha
  injection ha with hg _ _
  subst hg
  have e : cur.toList[j]? = some (.int .u8 (l[j].toNat : Int)) := by
    have : (cur.toList.take l.length)[j]? = (bcells l)[j]? := by rw [ht]
    rw [List.getElem?_take_of_lt hj] at this
    rw [this]; simp [bcells, hj]
  simp [World.cell?, hh]
  simpa using e
theorem add_none (g j : Nat) : (⟨g, 0, none⟩ : Addr).add j = ⟨g, j, none⟩ := by simp [Addr.add]; omega
/-- string(b) -/
theorem ownsB.conv {w : World} {base : Nat} {v : Value} {l : List UInt8} (h : ownsB w base v l) :
    (convert 157 9 v).run Try.prog w = .ok (.string ⟨l.toArray⟩) w := by
  obtain ⟨g, cap, cur, fz, hv, r⟩ := id h
  rw [hv]
  refine run_convert_bytes_back w 157 9 5 ⟨g, 0, none⟩ cap l Try.underlying157 Try.underlying5 Try.underlying9 ?_
  intro j hj
  rw [add_none]
  exact h.cell hv j hj
/-- what []byte(s) lays, and how much room it has -/
def rowCap (w : World) (s : ByteArray) : Nat := grownCap w s.size 0 5
def rowOf (w : World) (s : ByteArray) : Obj := .cells (bytesRow s (rowCap w s)) 5 ((bytesRow s (rowCap w s)).size, (bytesRow s (rowCap w s)).size + 1)
/-- []byte(s) -/
theorem run_bytesOf (w : World) (s : ByteArray) : (convert 9 157 (.string s)).run Try.prog w = .ok (.slice (some ⟨w.heap.size, 0, none⟩) s.size (rowCap w s)) (w.drew.alloc (rowOf w s)) :=
  run_bytes_of_string w 9 157 5 s Try.underlying9 Try.underlying157 Try.underlying5
theorem ownsB_start (w : World) (s : ByteArray) (base : Nat) (hb : base ≤ w.heap.size) (hs : s.size ≤ maxLen) :
    ownsB (w.drew.alloc (rowOf w s)) base (.slice (some ⟨w.heap.size, 0, none⟩) s.size (rowCap w s)) s.data.toList := by
  have hge : s.size ≤ rowCap w s := grownCap_ge w s.size 0 5
  have hsz : s.data.size = s.size := rfl
  have hrow : (bytesRow s (rowCap w s)).size = rowCap w s := by
    unfold bytesRow; rw [Array.size_append, Array.size_map, Array.size_replicate, hsz]; omega
  have hl : s.data.toList.length = s.size := by simp
  refine ⟨w.heap.size, rowCap w s, bytesRow s (rowCap w s), _, by rw [hl], hb, heap_alloc_new w.drew _, .inr (Nat.le_refl _), by omega, grownCap_le_maxLen w s.size 0 5 hs, hrow, ?_⟩
  unfold bytesRow bcells
  rw [Array.toList_append, List.take_append_of_le_length (by simp), List.take_of_length_le (by simp)]
  simp

/-- cells stored one behind the other into a row none of whose cells is frozen -/
theorem store_row (P : Program) (g o : Nat) (t : TypeId) (fz : Nat × Nat) (vs : List Value) : ∀ (i : Nat) (cur : Array Value) (w : World), w.heap[g]? = some (.cells cur t fz) → (fz = (0, 0) ∨ cur.size ≤ fz.1) →
    o + i + vs.length ≤ cur.size → (∀ v ∈ vs, v.oneCell' = true) →
    (storeCells ⟨g, o, none⟩ vs i).run P w = .ok () (w.setRow g (cur.toList.take (o + i) ++ vs ++ cur.toList.drop (o + i + vs.length)).toArray) := by
  induction vs with
  | nil =>
    intro i cur w hg _ _ _
    have e : (cur.toList.take (o + i) ++ [] ++ cur.toList.drop (o + i + ([] : List Value).length)).toArray = cur := by simp
    rw [e, setRow_self w g cur t fz hg]
    rfl
  | cons v vs ih =>
    intro i cur w hg hfz hl h1
    rw [List.length_cons] at hl
    have hi : o + i < cur.size := by omega
    have hadd : (⟨g, o, none⟩ : Addr).add i = ⟨g, o + i, none⟩ := by unfold Addr.add; split <;> simp_all
    have hfro : w.frozen? ⟨g, o + i, none⟩ = false := by
      simp only [World.frozen?, hg]
      rcases hfz with rfl | hfz
      · simp
      · simp; omega
    have hcell : w.cell? ⟨g, o + i, none⟩ = some cur[o + i] := by simp [World.cell?, hg, hi]
    have hst : (store ((⟨g, o, none⟩ : Addr).add i) v).run P w = .ok () (w.setRow g (cur.setIfInBounds (o + i) v)) := by
      rw [hadd, run_store P w _ v _ (h1 v (by simp)), hcell]
      simp [hfro, setCell_eq_setRow w g (o + i) cur t fz v hg]
    have hrest := ih (i + 1) (cur.setIfInBounds (o + i) v) (w.setRow g (cur.setIfInBounds (o + i) v)) (setRow_heap w g cur _ t _ hg) (by simpa using hfz) (by simp; omega) (fun x hx => h1 x (by simp [hx]))
    simp only [storeCells, Sem.run_bind, hst, Result.andThen_ok, hrest, setRow_setRow]
    have e := list_seg_step cur.toList (o + i) v vs (by simp; omega)
    congr 3
    simpa [Array.toList_setIfInBounds, Nat.add_assoc] using e

/-- append(b, s...) -/
theorem run_append_text {w : World} {base : Nat} {v : Value} {l : List UInt8} (ty : TypeId) (h : ownsB w base v l) (s : ByteArray) (hlen : l.length + s.size ≤ 140737488355328) (hbase : base ≤ w.heap.size) :
    ∃ v' w', (Builtin.append_ #[157, 9] ty #[v, .string s]).run Try.prog w = .ok v' w' ∧ ownsB w' base v' (l ++ s.data.toList) ∧ Below base w w' := by
  obtain ⟨i0, hi, hz0, hz1, hz2⟩ := info_parts info_u8
  obtain ⟨g, cap, cur, fz, hv, hb, hh, hfz, hlc, hcm, hcs, ht⟩ := id h
  have hsl : s.data.toList.length = s.size := by simp
  by_cases hroom : l.length + s.size ≤ cap
  · have hst := store_row Try.prog g l.length 5 fz (Lib.strCells s) 0 cur w hh hfz (by rw [Lib.strCells_length]; omega) (Lib.strCells_oneCell s)
    have hf := Lib.run_firstCells_string (P := Try.prog) w 1 s
    rw [Nat.add_zero, Lib.strCells_length] at hst
    have hrun : (Builtin.append_ #[157, 9] ty #[v, .string s]).run Try.prog w = .ok (.slice (some ⟨g, 0, none⟩) (l.length + s.size) cap) (w.setRow g (cur.toList.take l.length ++ Lib.strCells s ++ cur.toList.drop (l.length + s.size)).toArray) := by
      rw [hv]
      simp [Builtin.append_, run_underlying Try.underlying157, run_underlying Try.underlying9, sizeOf, typeInfo, hi, hz1, Builtin.lenOf, hroom, hf, Addr.add_lit, hst]
    have hsz : (cur.toList.take l.length ++ Lib.strCells s ++ cur.toList.drop (l.length + s.size)).toArray.size = cur.size := by
      simp only [List.size_toArray, List.length_append, List.length_take, List.length_drop, Array.length_toList, Lib.strCells_length]; omega
    refine ⟨_, _, hrun, ⟨g, cap, _, fz, by rw [List.length_append, hsl], hb, setRow_heap w g cur _ _ _ hh, ?_, by rw [List.length_append, hsl]; exact hroom, hcm, by rw [hsz]; exact hcs, ?_⟩, ?_⟩
    · rw [hsz]; exact hfz
    · rw [ht, bcells_append, ← bcells_str, List.length_append, hsl]
      have e : l.length + s.size = (bcells l ++ Lib.strCells s).length := by rw [List.length_append, bcells_length, Lib.strCells_length]
      rw [e]
      exact List.take_left
    · exact ⟨rfl, rfl, rfl, by simp [World.setRow], fun k hk => setRow_other w g k _ (by omega)⟩
  · have hr := Lib.run_append_grow_string (P := Try.prog) w 157 9 ty 5 i0 (.int .u8 0) Try.underlying157 Try.underlying9 hi hz0 ⟨g, 0, none⟩ l.length cap (bcells l) (by rw [hz1, bcells_length]; omega)
      (by
        intro j u hu
        rw [add_none]
        have hj : j < l.length := by have := (List.getElem?_eq_some_iff.1 hu).1; rwa [bcells_length] at this
        rw [h.cell hv j hj]
        simp [bcells, hj] at hu
        rw [hu]) s (by omega) (by omega) (by rw [hz2]; exact growslice_fits (by omega) (by omega))
    rw [← hv] at hr
    have hge := grownCap_ge w (l.length + s.size) cap 5
    have hcm2 : grownCap w (l.length + s.size) cap 5 ≤ maxLen := grownCap_le_maxLen w (l.length + s.size) cap 5 (by unfold maxLen; omega)
    refine ⟨_, _, hr, ⟨w.heap.size, _, _, _, by rw [List.length_append, hsl], hbase, heap_alloc_new w.drew _, .inl rfl, by rw [List.length_append, hsl]; exact hge, hcm2, ?_, ?_⟩, ?_⟩
    · have hz1 : (Value.int IntKind.u8 0).cells.size = 1 := rfl
      simp only [Array.size_append, List.size_toArray, size_zeroCells, hz1, bcells_length, Lib.strCells_length]
      omega
    · rw [bcells_append, ← bcells_str, List.length_append, hsl]
      simp only [Array.toList_append, List.append_assoc]
      have e : l.length + s.size = (bcells l ++ Lib.strCells s).length := by rw [List.length_append, bcells_length, Lib.strCells_length]
      rw [← List.append_assoc, e]
      exact List.take_left
    · exact ((Below.refl base w).drew).alloc (by simpa using hbase) _

/-- the same at the operation, for the walk -/
theorem push_text {ops : Array Oper} {rest : List Oper} {o : Oper} {a : Act} {Q : Exit → Act → World → Prop} {w : World} (hgd : o.guard = none) (sl x : Operand)
    (ho : o.op = .call { callee := .builtin .append, args := #[sl, x], argTypes := #[157, 9] })
    (base : Nat) (v : Value) (l : List UInt8) (hs : a.eval sl = v) (hown : ownsB w base v l) (hbase : base ≤ w.heap.size) (s : ByteArray) (hx : a.eval x = .string s) (hlen : l.length + s.size ≤ 140737488355328)
    (h : ∀ v' w', ownsB w' base v' (l ++ s.data.toList) → Below base w w' → wpList Try.prog ops Q rest (a.put o.dst v') w') : wpList Try.prog ops Q (o :: rest) a w := by
  refine wpList_plain hgd fun K hK => ?_
  obtain ⟨v', w', hr, h2, h3⟩ := run_append_text o.type hown s hlen hbase
  unfold Oper.wp execOp
  simp only [ho, resolve, invoke, builtin, Sem.run_bind, Sem.run_pure, Result.andThen_ok, List.map_toArray, List.map_cons, List.map_nil, hs, hx, hr]
  exact hK _ _ (h v' w' h2 h3)
end Go.Proofs.Ytedopplldpcinaa
/-
  Slices of integers: that a call owns, that came in, that were written out.
-/
namespace Go.Proofs.Ytedopplldpcinaa
open Go.RowKit

/-! ### Integers -/
/-- integers as cells -/
def icells (l : List Int) : List Value := l.map (Value.int .i64)
theorem icells_length (l : List Int) : (icells l).length = l.length := by simp [icells]
theorem icells_append (l m : List Int) : icells (l ++ m) = icells l ++ icells m := by simp [icells]
theorem info_int : (Try.prog.info? 3).map (fun i => (i.zero, i.size, i.bytes)) = some (some (.int .i64 0), 1, 8) := by kernel_rfl
/-- one number more, onto a slice of numbers that the call owns -/
theorem pushI {ops : Array Oper} {rest : List Oper} {o : Oper} {a : Act} {Q : Exit → Act → World → Prop} {w : World} (hgd : o.guard = none) (s x : Operand)
    (ho : o.op = .call { callee := .builtin .append, args := #[s, x], argTypes := #[28, 28] })
    (base : Nat) (v : Value) (l : List Int) (n : Nat) (hs : a.eval s = v) (hown : w.ownsRow base 3 1 v n (icells l)) (hbase : base ≤ w.heap.size)
    (z : Int) (hx : a.eval x = .slice (some ⟨w.heap.size, 0, none⟩) 1 1) (hlen : (n + 1) * 8 ≤ 140737488355328)
    (h : ∀ v' w', w'.ownsRow base 3 1 v' (n + 1) (icells (l ++ [z])) → Below base w w' → wpList Try.prog ops Q rest (a.put o.dst v') w') :
    wpList Try.prog ops Q (o :: rest) a (w.alloc (.cells #[.int .i64 z] 3)) := by
  obtain ⟨i0, hi, hz0, hz1, hz2⟩ := info_parts info_int
  refine wpList_append_own _ hgd s x 28 ho base 3 i0 (.int .i64 0) 1 8 Try.underlying28 hi hz0 hz1 hz2 rfl (by decide) v n (icells l) hs (hown.alloc _) ⟨w.heap.size, 0, none⟩ 1 1 (icells [z]) hx rfl ?c1 ?c2 ?c3 ?c4 ?c5 ?_
  case c1 =>
    intro j u hj
    match j, hj with
    | 0, hj => simp [icells] at hj; subst hj; simp [Addr.add]
    | j + 1, hj => simp [icells] at hj
  case c2 => intro u hu; simp [icells] at hu; subst hu; rfl
  case c3 => unfold maxLen; omega
  case c4 => exact hlen
  case c5 => simp; omega
  intro v' w' h1 h2 _
  refine h v' w' (by rw [icells_append]; exact h1) ?_
  exact ((Below.refl base w).alloc hbase _).grown h2 (by simp; omega) (fun k hk => (hown.lt k hk).1)

/-- a slice of integers of the kind k, however it came: v's elements are zs -/
def Ints (k : IntKind) (w : World) (v : Value) (zs : List Int) : Prop :=
  zs.length ≤ maxLen ∧ ((zs = [] ∧ ∃ a cap, v = .slice a 0 cap) ∨
    ∃ b off cap, v = .slice (some ⟨b, off, none⟩) zs.length cap ∧ 0 < zs.length ∧ ∀ j, j < zs.length → w.cell? ⟨b, off + j, none⟩ = some (.int k (zs.getD j 0)))
theorem Ints.mem {k : IntKind} {w w' : World} {v : Value} {zs : List Int} (h : Ints k w v zs) (m : Mem w w') : Ints k w' v zs := by
  refine ⟨h.1, ?_⟩
  rcases h.2 with h | ⟨b, off, cap, hv, h0, hc⟩
  · exact .inl h
  · refine .inr ⟨b, off, cap, hv, h0, fun j hj => ?_⟩
    have := hc j hj
    rw [Below.cell m (p := ⟨b, off + j, none⟩) (World.block_lt_of_cell? w _ this)]
    exact this
theorem Ints.drewN {k : IntKind} {w : World} {v : Value} {zs : List Int} (h : Ints k w v zs) (n : Nat) : Ints k (w.drewN n) v zs := h.mem ((Mem.refl _).drewN n)
theorem Ints.nil (k : IntKind) (w : World) (a : Option Addr) (cap : Nat) : Ints k w (.slice a 0 cap) [] := ⟨by simp [maxLen], .inl ⟨rfl, a, cap, rfl⟩⟩
theorem Ints.of_owns {k : IntKind} {w : World} {base : Nat} {e : TypeId} {v : Value} {n : Nat} {zs : List Int} (h : w.ownsRow base e 1 v n (zs.map (Value.int k))) : Ints k w v zs := by
  have hn : zs.length = n := by simpa using h.1
  subst hn
  rcases h.2 with ⟨rfl, h0⟩ | ⟨g, cap, cur, rfl, hb, hh, hlc, hcm, hcs, ht⟩
  · have : zs = [] := List.length_eq_zero_iff.1 h0
    subst this
    exact Ints.nil k w none 0
  · refine ⟨by omega, ?_⟩
    by_cases h0 : zs.length = 0
    · have : zs = [] := List.length_eq_zero_iff.1 h0
      subst this
      exact .inl ⟨rfl, _, _, rfl⟩
    · refine .inr ⟨g, 0, cap, rfl, by omega, fun j hj => ?_⟩
      have hc := h.cellAt j (by omega)
      rw [Nat.zero_add, hc]
      simp [hj]

theorem Ints.shape {k : IntKind} {w : World} {v : Value} {zs : List Int} (h : Ints k w v zs) : ∃ oa cap, v = .slice oa zs.length cap := by
  rcases h.2 with ⟨rfl, a, cap, rfl⟩ | ⟨b, off, cap, rfl, _⟩
  · exact ⟨a, cap, rfl⟩
  · exact ⟨_, cap, rfl⟩
theorem Ints.at {k : IntKind} {w : World} {oa : Option Addr} {n cap : Nat} {zs : List Int} (h : Ints k w (.slice oa n cap) zs) (h0 : 0 < zs.length) :
    ∃ b off, oa = some ⟨b, off, none⟩ ∧ ∀ j, j < zs.length → w.cell? ⟨b, off + j, none⟩ = some (.int k (zs.getD j 0)) := by
  rcases h.2 with ⟨rfl, _⟩ | ⟨b, off, cap', hv, _, hc⟩
  · simp at h0
  · injection hv with ha
    exact ⟨b, off, ha, hc⟩

/-- a slice that was just written out -/
theorem Ints.lit (k : IntKind) (w : World) (l : List Int) (t : TypeId) (hl : l.length ≤ maxLen) : Ints k (w.alloc (.cells (l.map (Value.int k)).toArray t)) (.slice (some ⟨w.heap.size, 0, none⟩) l.length l.length) l := by
  refine ⟨hl, ?_⟩
  by_cases h0 : l.length = 0
  · have : l = [] := List.length_eq_zero_iff.1 h0
    subst this
    exact .inl ⟨rfl, _, _, rfl⟩
  · refine .inr ⟨w.heap.size, 0, l.length, rfl, by omega, fun j hj => ?_⟩
    rw [Nat.zero_add, World.cell?_alloc_mark]
    simp [hj]

/-- what the walk is told of a slice of integers that came in (the word of the frame) -/
def IsRow (k : IntKind) (w : World) (a : Option Addr) (len cap : Nat) (zs : List Int) : Prop :=
  (a = none ∧ len = 0 ∧ cap = 0 ∧ zs = []) ∨
  ∃ x, a = some x ∧ len ≤ cap ∧ cap ≤ maxLen ∧ zs.length = cap ∧ (∀ i, i < zs.length → w.cell? (x.add i) = some (.int k (zs.getD i 0))) ∧ ∀ n ∈ zs, (Lit.int k n).wf = true
theorem Ints.of_row {k : IntKind} {w : World} {a : Option Addr} {len cap : Nat} {zs : List Int} (h : IsRow k w a len cap zs) : Ints k w (.slice a len cap) (zs.take len) ∧ ∀ n ∈ zs.take len, (Lit.int k n).wf = true := by
  rcases h with ⟨rfl, rfl, rfl, rfl⟩ | ⟨x, rfl, hl, hm, hz, hc, hw⟩
  · exact ⟨Ints.nil k w _ _, by simp⟩
  · have hlen : (zs.take len).length = len := by rw [List.length_take]; omega
    refine ⟨⟨by omega, ?_⟩, fun n hn => hw n (List.mem_of_mem_take hn)⟩
    by_cases h0 : len = 0
    · subst h0
      exact .inl ⟨by simp, _, _, rfl⟩
    · obtain ⟨b, off, rfl, hc'⟩ := ints_at hc (by omega)
      refine .inr ⟨b, off, cap, by rw [hlen], by omega, fun j hj => ?_⟩
      rw [hc' j (by omega)]
      simp [List.getElem?_take_of_lt (show j < len by omega)]
end Go.Proofs.Ytedopplldpcinaa
/-
  Blocks that a call makes and writes into: what their cells are; one number more, onto a row that the call owns, as a step of a region that draws.
-/
namespace Go.Proofs.Ytedopplldpcinaa
open Go.RowKit

/-- block b is of the type t, holds the cells cs, and none of them is frozen -/
def Blk (w : World) (b : Nat) (t : TypeId) (cs : Array Value) : Prop := w.heap[b]? = some (.cells cs t (0, 0))
theorem Blk.lt {w : World} {b : Nat} {t : TypeId} {cs : Array Value} (h : Blk w b t cs) : b < w.heap.size := (Array.getElem?_eq_some_iff.1 h).1
theorem Blk.new (w : World) (cs : Array Value) (t : TypeId) : Blk (w.alloc (.cells cs t)) w.heap.size t cs := heap_alloc_new w _
theorem Blk.below {w w' : World} {B b : Nat} {t : TypeId} {cs : Array Value} (h : Blk w b t cs) (m : Below B w w') (hb : b < B) : Blk w' b t cs := by
  unfold Blk; rw [m.block b hb]; exact h
theorem Blk.mem {w w' : World} {b : Nat} {t : TypeId} {cs : Array Value} (h : Blk w b t cs) (m : Mem w w') : Blk w' b t cs := h.below m h.lt
theorem Blk.drew {w : World} {b : Nat} {t : TypeId} {cs : Array Value} (h : Blk w b t cs) : Blk w.drew b t cs := h
theorem Blk.alloc {w : World} {b : Nat} {t : TypeId} {cs : Array Value} (h : Blk w b t cs) (o : Obj) : Blk (w.alloc o) b t cs := h.mem ((Mem.refl w).alloc o)
theorem Blk.cell {w : World} {b : Nat} {t : TypeId} {cs : Array Value} (h : Blk w b t cs) {j : Nat} {v : Value} (hj : cs[j]? = some v) : w.cell? ⟨b, j, none⟩ = some v := by
  have h' : w.heap[b]? = some (.cells cs t (0, 0)) := h
  simp [World.cell?, h', hj]
theorem Blk.frozen {w : World} {b : Nat} {t : TypeId} {cs : Array Value} (h : Blk w b t cs) (j : Nat) : w.frozen? ⟨b, j, none⟩ = false := by
  have h' : w.heap[b]? = some (.cells cs t (0, 0)) := h
  simp [World.frozen?, h']
theorem Blk.set {w : World} {b : Nat} {t : TypeId} {cs : Array Value} (h : Blk w b t cs) (j : Nat) (x : Value) : Blk (w.setCell ⟨b, j, none⟩ x) b t (cs.setIfInBounds j x) := by
  have h' : w.heap[b]? = some (.cells cs t (0, 0)) := h
  show (w.heap.modify b _)[b]? = _
  rw [Array.getElem?_modify, if_pos rfl, h']
  rfl
theorem Blk.other {w : World} {b : Nat} {t : TypeId} {cs : Array Value} (h : Blk w b t cs) {a : Addr} (ha : b ≠ a.block) (x : Value) : Blk (w.setCell a x) b t cs := by
  unfold Blk; rw [Below.heap_setCell w a x b ha]; exact h
theorem Mem.setCell {a b : World} (h : Mem a b) {p : Addr} (hp : a.heap.size ≤ p.block) (x : Value) : Mem a (b.setCell p x) := Below.setCell h hp x
theorem size_setCell (w : World) (p : Addr) (x : Value) : (w.setCell p x).heap.size = w.heap.size := by simp [World.setCell]
theorem Blk.put3 {w : World} {b : Nat} {t : TypeId} {a0 a1 a2 : Value} (h : Blk w b t #[a0, a1, a2]) (x0 x1 x2 : Value) :
    Blk (((w.setCell ⟨b, 0, none⟩ x0).setCell ⟨b, 1, none⟩ x1).setCell ⟨b, 2, none⟩ x2) b t #[x0, x1, x2] :=
  ((h.set 0 x0).set 1 x1).set 2 x2
theorem Mem.put3 {w w' : World} {b : Nat} (h : Mem w w') (hb : w.heap.size ≤ b) (x0 x1 x2 : Value) :
    Mem w (((w'.setCell ⟨b, 0, none⟩ x0).setCell ⟨b, 1, none⟩ x1).setCell ⟨b, 2, none⟩ x2) :=
  ((h.setCell (p := ⟨b, 0, none⟩) hb x0).setCell (p := ⟨b, 1, none⟩) hb x1).setCell (p := ⟨b, 2, none⟩) hb x2
theorem Blk.put4 {w : World} {b : Nat} {t : TypeId} {a0 a1 a2 a3 : Value} (h : Blk w b t #[a0, a1, a2, a3]) (x0 x1 x2 x3 : Value) :
    Blk ((((w.setCell ⟨b, 0, none⟩ x0).setCell ⟨b, 1, none⟩ x1).setCell ⟨b, 2, none⟩ x2).setCell ⟨b, 3, none⟩ x3) b t #[x0, x1, x2, x3] :=
  (((h.set 0 x0).set 1 x1).set 2 x2).set 3 x3
theorem Mem.put4 {w w' : World} {b : Nat} (h : Mem w w') (hb : w.heap.size ≤ b) (x0 x1 x2 x3 : Value) :
    Mem w ((((w'.setCell ⟨b, 0, none⟩ x0).setCell ⟨b, 1, none⟩ x1).setCell ⟨b, 2, none⟩ x2).setCell ⟨b, 3, none⟩ x3) :=
  (((h.setCell (p := ⟨b, 0, none⟩) hb x0).setCell (p := ⟨b, 1, none⟩) hb x1).setCell (p := ⟨b, 2, none⟩) hb x2).setCell (p := ⟨b, 3, none⟩) hb x3
theorem _root_.Go.RowKit.Below.put4 {B : Nat} {w w' : World} {b : Nat} (h : Below B w w') (hb : B ≤ b) (x0 x1 x2 x3 : Value) :
    Below B w ((((w'.setCell ⟨b, 0, none⟩ x0).setCell ⟨b, 1, none⟩ x1).setCell ⟨b, 2, none⟩ x2).setCell ⟨b, 3, none⟩ x3) :=
  Below.setCell (Below.setCell (Below.setCell (Below.setCell h (p := ⟨b, 0, none⟩) hb x0) (p := ⟨b, 1, none⟩) hb x1) (p := ⟨b, 2, none⟩) hb x2) (p := ⟨b, 3, none⟩) hb x3
theorem Mem.lt {a b : World} (h : Mem a b) : a.heap.size ≤ b.heap.size := h.size

/-- a slice that lies in no block ahead of base -/
def Past (base : Nat) (v : Value) : Prop := ∀ a n cap, v = .slice (some a) n cap → base ≤ a.block
theorem Past.nil (base n cap : Nat) : Past base (.slice none n cap) := by intro a n' cap' h; cases h
theorem Past.mono {base base' : Nat} {v : Value} (h : Past base v) (hb : base' ≤ base) : Past base' v := fun a n cap e => Nat.le_trans hb (h a n cap e)
theorem Past.of_owns {w : World} {base : Nat} {e : TypeId} {size : Nat} {v : Value} {n : Nat} {xs : List Value} (h : w.ownsRow base e size v n xs) : Past base v := by
  intro a m cap hv
  rcases h.2 with ⟨rfl, _⟩ | ⟨g, cap', cur, rfl, hg, _⟩
  · cases hv
  · injection hv with ha
    injection ha with ha
    rw [← ha]; exact hg
theorem Ints.setCell {k : IntKind} {w : World} {v : Value} {zs : List Int} (h : Ints k w v zs) {p : Addr} (hp : Past (p.block + 1) v) (x : Value) : Ints k (w.setCell p x) v zs := by
  refine ⟨h.1, ?_⟩
  rcases h.2 with h | ⟨b, off, cap, hv, h0, hc⟩
  · exact .inl h
  · refine .inr ⟨b, off, cap, hv, h0, fun j hj => ?_⟩
    have hb : p.block + 1 ≤ b := hp _ _ _ hv
    have e := World.cell?_of_block (w := w) (w' := w.setCell p x) (a := ⟨b, off + j, none⟩) (Below.heap_setCell w p x b (by omega))
    rw [e]
    exact hc j hj
theorem Ints.put4 {k : IntKind} {w : World} {b : Nat} {v : Value} {zs : List Int} (h : Ints k w v zs) (hp : Past (b + 1) v) (x0 x1 x2 x3 : Value) :
    Ints k ((((w.setCell ⟨b, 0, none⟩ x0).setCell ⟨b, 1, none⟩ x1).setCell ⟨b, 2, none⟩ x2).setCell ⟨b, 3, none⟩ x3) v zs :=
  (((h.setCell (p := ⟨b, 0, none⟩) hp x0).setCell (p := ⟨b, 1, none⟩) hp x1).setCell (p := ⟨b, 2, none⟩) hp x2).setCell (p := ⟨b, 3, none⟩) hp x3
theorem toList_mk (l : List UInt8) : (⟨l.toArray⟩ : ByteArray).toList = l := by simp [go_sem]
theorem toList_data (s : ByteArray) : s.toList = s.data.toList := by
  obtain ⟨l, rfl⟩ : ∃ l : List UInt8, s = ⟨l.toArray⟩ := ⟨s.data.toList, by simp⟩
  exact toList_mk l

/-- one number more, onto a slice of numbers that the call owns, as a step of a region that draws: the number lies in block B -/
theorem step_pushI {ops : Array Oper} {o : Oper} {a : Act} {K : Act → World → Prop} {Q : Exit → Act → World → Prop} {E : Prop} {w : World} (hgd : o.guard = none) (s x : Operand)
    (ho : o.op = .call { callee := .builtin .append, args := #[s, x], argTypes := #[28, 28] })
    (base : Nat) (v : Value) (l : List Int) (n : Nat) (hs : a.eval s = v) (hown : w.ownsRow base 3 1 v n (icells l)) (hbase : base ≤ w.heap.size)
    (B : Nat) (z : Int) (hB : w.cell? ⟨B, 0, none⟩ = some (.int .i64 z)) (hx : a.eval x = .slice (some ⟨B, 0, none⟩) 1 1) (hlen : (n + 1) * 8 ≤ 140737488355328)
    (h : ∀ v' w', w'.ownsRow base 3 1 v' (n + 1) (icells (l ++ [z])) → Below base w w' → K (a.put o.dst v') w') :
    if Region.wanted o (yielded ops a.tmps) = true then Oper.wp Try.prog o a w K Q else E := by
  obtain ⟨i0, hi, hz0, hz1, hz2⟩ := info_parts info_int
  have hw : Region.wanted o (yielded ops a.tmps) = true := by simp [Region.wanted, hgd]
  rw [if_pos hw]
  refine wp_append_own _ s x 28 ho base 3 i0 (.int .i64 0) 1 8 Try.underlying28 hi hz0 hz1 hz2 rfl (by decide) v n (icells l) hs hown ⟨B, 0, none⟩ 1 1 (icells [z]) hx rfl ?c1 ?c2 ?c3 ?c4 hbase ?_
  case c1 =>
    intro j u hj
    match j, hj with
    | 0, hj => simp [icells] at hj; subst hj; simpa [Addr.add] using hB
    | j + 1, hj => simp [icells] at hj
  case c2 => intro u hu; simp [icells] at hu; subst hu; rfl
  case c3 => unfold maxLen; omega
  case c4 => exact hlen
  intro v' w' h1 h2 _
  refine h v' w' (by rw [icells_append]; exact h1) ?_
  exact (Below.refl base w).grown h2 hbase (fun k hk => (hown.lt k hk).1)
/-- the same behind one draw, the number in a new block -/
theorem step_pushI_drew {ops : Array Oper} {o : Oper} {a : Act} {K : Act → World → Prop} {Q : Exit → Act → World → Prop} {E : Prop} {w : World} (hgd : o.guard = none) (s x : Operand)
    (ho : o.op = .call { callee := .builtin .append, args := #[s, x], argTypes := #[28, 28] })
    (base : Nat) (v : Value) (l : List Int) (n : Nat) (hs : a.eval s = v) (hown : w.ownsRow base 3 1 v n (icells l)) (hbase : base ≤ w.heap.size)
    (z : Int) (hx : a.eval x = .slice (some ⟨w.heap.size, 0, none⟩) 1 1) (hlen : (n + 1) * 8 ≤ 140737488355328)
    (h : ∀ v' w', w'.ownsRow base 3 1 v' (n + 1) (icells (l ++ [z])) → Below base w w' → K (a.put o.dst v') w') :
    if Region.wanted o (yielded ops a.tmps) = true then Oper.wp Try.prog o a (w.alloc (.cells #[.int .i64 z] 3)).drew K Q else E := by
  refine step_pushI hgd s x ho base v l n hs (hown.alloc _).drew ?_ w.heap.size z ?_ hx hlen (fun v' w' h1 h2 => h v' w' h1 ?_)
  · show base ≤ (w.heap.push _).size; simp; omega
  · exact World.cell?_alloc_mark w _ 3 _ 0
  · exact ((Below.refl base w).alloc hbase _).drew.trans h2
end Go.Proofs.Ytedopplldpcinaa
/-
  Whole numbers in a row, of which the block is one of which S holds.
-/
namespace Go.Proofs.Ytedopplldpcinaa.Scan
open Go.RowKit

/-- whole numbers in a row, of which the block is one of which S holds -/
def IntsIn (S : Nat → Prop) (w : World) (v : Value) (zs : List Int) : Prop :=
  zs.length ≤ maxLen ∧ ((zs = [] ∧ ∃ a cap, v = .slice a 0 cap) ∨
    ∃ b off cap, v = .slice (some ⟨b, off, none⟩) zs.length cap ∧ 0 < zs.length ∧ S b ∧ ∀ j, j < zs.length → w.cell? ⟨b, off + j, none⟩ = some (.int .i64 (zs.getD j 0)))
theorem IntsIn.ints {S : Nat → Prop} {w : World} {v : Value} {zs : List Int} (h : IntsIn S w v zs) : Ints .i64 w v zs := by
  refine ⟨h.1, ?_⟩
  rcases h.2 with h | ⟨b, off, cap, hv, h0, _, hc⟩
  · exact .inl h
  · exact .inr ⟨b, off, cap, hv, h0, hc⟩
theorem IntsIn.of_past {base : Nat} {w : World} {v : Value} {zs : List Int} (h : Ints .i64 w v zs) (hp : Past base v) : IntsIn (fun b => base ≤ b) w v zs := by
  refine ⟨h.1, ?_⟩
  rcases h.2 with h | ⟨b, off, cap, hv, h0, hc⟩
  · exact .inl h
  · exact .inr ⟨b, off, cap, hv, h0, hp _ _ _ hv, hc⟩
theorem IntsIn.of_ints {w : World} {v : Value} {zs : List Int} (h : Ints .i64 w v zs) : IntsIn (fun b => b < w.heap.size) w v zs := by
  refine ⟨h.1, ?_⟩
  rcases h.2 with h | ⟨b, off, cap, hv, h0, hc⟩
  · exact .inl h
  · exact .inr ⟨b, off, cap, hv, h0, World.block_lt_of_cell? w _ (hc 0 h0), hc⟩
theorem IntsIn.kept {S S' : Nat → Prop} {w w' : World} {v : Value} {zs : List Int} (h : IntsIn S w v zs) (hS : ∀ g, S g → g < w.heap.size → S' g ∧ ∀ off, w'.cell? ⟨g, off, none⟩ = w.cell? ⟨g, off, none⟩) : IntsIn S' w' v zs := by
  refine ⟨h.1, ?_⟩
  rcases h.2 with h | ⟨b, off, cap, hv, h0, hs, hc⟩
  · exact .inl h
  · obtain ⟨h1, h2⟩ := hS b hs (World.block_lt_of_cell? w _ (hc 0 h0))
    exact .inr ⟨b, off, cap, hv, h0, h1, fun j hj => by rw [h2]; exact hc j hj⟩

theorem IntsIn.mem {S : Nat → Prop} {w w' : World} {v : Value} {zs : List Int} (h : IntsIn S w v zs) (m : Mem w w') : IntsIn S w' v zs :=
  h.kept fun g hg hl => ⟨hg, fun off => Below.cell m (p := ⟨g, off, none⟩) hl⟩
theorem IntsIn.mono {S S' : Nat → Prop} {w : World} {v : Value} {zs : List Int} (h : IntsIn S w v zs) (hS : ∀ g, S g → g < w.heap.size → S' g) : IntsIn S' w v zs :=
  h.kept fun g hg hl => ⟨hS g hg hl, fun _ => rfl⟩
theorem IntsIn.setCell {S : Nat → Prop} {w : World} {v : Value} {zs : List Int} (h : IntsIn S w v zs) {p : Addr} (hp : ¬ S p.block) (x : Value) : IntsIn S (w.setCell p x) v zs :=
  h.kept fun g hg _ => ⟨hg, fun off => World.cell?_of_block (w := w) (a := ⟨g, off, none⟩) (Below.heap_setCell w p x g (fun e => hp (e ▸ hg)))⟩
theorem IntsIn.put2 {S : Nat → Prop} {w : World} {v : Value} {zs : List Int} (h : IntsIn S w v zs) {b : Nat} (hp : ¬ S b) (x0 x1 : Value) : IntsIn S ((w.setCell ⟨b, 0, none⟩ x0).setCell ⟨b, 1, none⟩ x1) v zs :=
  (h.setCell (p := ⟨b, 0, none⟩) hp x0).setCell (p := ⟨b, 1, none⟩) hp x1
theorem IntsIn.of_owns {w : World} {base n : Nat} {v : Value} {zs : List Int} (h : w.ownsRow base 3 1 v n (icells zs)) : IntsIn (fun x => base ≤ x) w v zs := IntsIn.of_past (Ints.of_owns h) (Past.of_owns h)
/-- a slice's length is at most its capacity -/
def CapOk (v : Value) : Prop := ∀ a n c, v = .slice a n c → n ≤ c
theorem CapOk.owns {w : World} {base : Nat} {e : TypeId} {size : Nat} {v : Value} {n : Nat} {xs : List Value} (h : w.ownsRow base e size v n xs) : CapOk v := by
  intro a m c hv
  rcases h.2 with ⟨rfl, _⟩ | ⟨g, cap, cur, rfl, hb, hh, hlc, _⟩
  · injection hv with _ e1 e2; omega
  · injection hv with _ e1 e2; omega
theorem CapOk.nil (a : Option Addr) (c : Nat) : CapOk (.slice a 0 c) := by
  intro a' n' c' h
  injection h with _ e1 e2
  omega
end Go.Proofs.Ytedopplldpcinaa.Scan
/-
  What comes in: rows and small numbers.
-/
namespace Go.Proofs.Ytedopplldpcinaa.Replay
open Go.RowKit

theorem row_len {k : IntKind} {w : World} {a : Option Addr} {len cap : Nat} {zs : List Int} (h : IsRow k w a len cap zs) : (zs.take len).length = len ∧ len ≤ cap := by
  rcases h with ⟨rfl, rfl, rfl, rfl⟩ | ⟨x, rfl, hl, hm, hz, _⟩
  · exact ⟨rfl, Nat.le_refl _⟩
  · exact ⟨by rw [List.length_take]; omega, hl⟩
theorem wf_u8 {n : Int} (h : (Lit.int .u8 n).wf = true) : 0 ≤ n ∧ n ≤ 255 := by
  simp [Lit.wf, IntKind.min, IntKind.max, IntKind.signed, IntKind.bits] at h
  omega
theorem wf_u16 {n : Int} (h : (Lit.int .u16 n).wf = true) : 0 ≤ n ∧ n ≤ 65535 := by
  simp [Lit.wf, IntKind.min, IntKind.max, IntKind.signed, IntKind.bits] at h
  omega
end Go.Proofs.Ytedopplldpcinaa.Replay
