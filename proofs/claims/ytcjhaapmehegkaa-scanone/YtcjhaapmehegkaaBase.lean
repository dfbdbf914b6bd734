/-
  What all texts of this seat share: memory that a call makes, slices of bytes and of integers that a call owns, slices that came in.
-/
import Derived.Test.YtcjhaapmehegkaaRows
import Derived.WalkKit
import Derived.WalkSpells
import Derived.WalkLawsBesides
import Derived.Outline
import Derived.Below
import Derived.OpenShut
import Derived.LoopN
import Derived.Laws.BytesArg
import Derived.Laws.IdiomStrings
import Derived.Lib.AppendStr
import Derived.Deep.QuietTactic
import Derived.BigQuiet
namespace Go.Proofs.Ytcjhaapmehegkaa
open Go.RowKit

/-! ### The world behind a call -/
/-- what was there when the call began has not turned -/
def Mem (w w' : World) : Prop := Below w.heap.size w w'
theorem Mem.refl (w : World) : Mem w w := Below.refl _ _
theorem Mem.trans {a b c : World} (h : Mem a b) (k : Mem b c) : Mem a c := Below.trans h (Below.mono k h.size)
theorem Mem.alloc {a b : World} (h : Mem a b) (o : Obj) : Mem a (b.alloc o) := Below.alloc h h.size o
theorem Mem.drew {a b : World} (h : Mem a b) : Mem a b.drew := Below.drew h
theorem Mem.drewN {a b : World} (h : Mem a b) (n : Nat) : Mem a (b.drewN n) := below_drewN h n
theorem Mem.of_eq {a b : World} (h : b = a) : Mem a b := by rw [h]; exact Mem.refl _
theorem Mem.quiet {a b : World} (h : ∃ n, b = a.drewN n) : Mem a b := by obtain ⟨n, rfl⟩ := h; exact (Mem.refl _).drewN n
theorem Mem.below {a b : World} (h : Mem a b) {B : Nat} (hB : B ≤ a.heap.size) : Below B a b := Below.mono h hB
theorem hide {p : Prop} (h : p) : Hid p := h
theorem int_eq {k : IntKind} {a b : Int} (h : a = b) : Value.int k a = Value.int k b := by rw [h]
theorem str_eq {a b : ByteArray} (h : a = b) : Value.string a = Value.string b := by rw [h]
theorem ret_int {k : IntKind} {a b : Int} (h : a = b) : Ending.returned (.int k a) = .returned (.int k b) := by rw [h]
theorem ret_bool {a : Bool} (h : a = true) : Ending.returned (.bool a) = .returned (.bool true) := by rw [h]
theorem ret_b {a b : Bool} (h : a = b) : Ending.returned (.bool a) = .returned (.bool b) := by rw [h]
theorem ret_eq {a b : Value} (h : a = b) : Ending.returned a = .returned b := by rw [h]
theorem ret_str {a b : ByteArray} (h : a = b) : Ending.returned (.string a) = .returned (.string b) := by rw [h]

/-! ### Slices that own their row: what a call leaves of them -/
theorem owns_below {w w' : World} {base : Nat} {e : TypeId} {size : Nat} {v : Value} {n : Nat} {xs : List Value} (h : w.ownsRow base e size v n xs) (m : Mem w w') : w'.ownsRow base e size v n xs :=
  h.kept (row := none) ⟨m.os, m.tape, m.output, m.size, fun k hk _ => m.block k hk⟩ (by cases hv : v.ownBlock <;> simp)
theorem owns_mono {w : World} {base base' : Nat} {e : TypeId} {size : Nat} {v : Value} {n : Nat} {xs : List Value} (h : w.ownsRow base e size v n xs) (hb : base' ≤ base) : w.ownsRow base' e size v n xs := by
  obtain ⟨h1, h2⟩ := h
  refine ⟨h1, ?_⟩
  rcases h2 with h2 | ⟨g, cap, cur, hv, hg, r⟩
  · exact .inl h2
  · exact .inr ⟨g, cap, cur, hv, Nat.le_trans hb hg, r⟩

/-! ### Bytes -/
/-- bytes as cells -/
def bcells (l : List UInt8) : List Value := l.map fun b => .int .u8 (b.toNat : Int)
theorem bcells_length (l : List UInt8) : (bcells l).length = l.length := by simp [bcells]
theorem bcells_append (l m : List UInt8) : bcells (l ++ m) = bcells l ++ bcells m := by simp [bcells]
theorem bcells_str (s : ByteArray) : Lib.strCells s = bcells s.data.toList := rfl
theorem info_u8 : (Try.prog.info? 5).map (fun i => (i.zero, i.size, i.bytes)) = some (some (.int .u8 0), 1, 1) := by kernel_rfl

/-- the text of a slice of bytes that the call owns -/
theorem conv_owned {w : World} {base : Nat} {v : Value} {l : List UInt8} (h : w.ownsRow base 5 1 v l.length (bcells l)) :
    (convert 116 9 v).run Try.prog w = .ok (.string ⟨l.toArray⟩) w := by
  obtain ⟨_, h⟩ := h
  rcases h with ⟨rfl, hn⟩ | ⟨g, cap, cur, rfl, _, hh, _, _, _, ht⟩
  · have hl : l = [] := List.length_eq_zero_iff.1 hn
    subst hl
    rw [run_convert_bytes_nil w 116 5 Try.underlying116 Try.underlying5 0 0 9 Try.underlying9]
    rfl
  · refine run_convert_bytes_back w 116 9 5 ⟨g, 0, none⟩ cap l Try.underlying116 Try.underlying5 Try.underlying9 ?_
    intro j hj
    have e : cur.toList[j]? = some (.int .u8 (l[j].toNat : Int)) := by
      have : (cur.toList.take (l.length * 1))[j]? = (bcells l)[j]? := by rw [ht]
      rw [List.getElem?_take_of_lt (by omega)] at this
      rw [this]; simp [bcells, hj]
    show w.cell? ((⟨g, 0, none⟩ : Addr).add j) = _
    have ha : (⟨g, 0, none⟩ : Addr).add j = ⟨g, j, none⟩ := by simp [Addr.add]; omega
    rw [ha]
    simp [World.cell?, hh]
    simpa using e

theorem conv_owned_drew {w : World} {base : Nat} {v : Value} {l : List UInt8} (h : w.ownsRow base 5 1 v l.length (bcells l)) (n : Nat) :
    (convert 116 9 v).run Try.prog (w.drewN n) = .ok (.string ⟨l.toArray⟩) (w.drewN n) := conv_owned (w := w.drewN n) (base := base) h

/-- the text of one byte that was just laid -/
theorem conv_one (w : World) (z : Int) (b : UInt8) (hz : z = (b.toNat : Int)) (t : TypeId) :
    (convert 116 9 (.slice (some ⟨w.heap.size, 0, none⟩) 1 1)).run Try.prog (w.alloc (.cells #[.int .u8 z] t)) = .ok (.string ⟨#[b]⟩) (w.alloc (.cells #[.int .u8 z] t)) := by
  subst hz
  refine run_convert_bytes_back _ 116 9 5 ⟨w.heap.size, 0, none⟩ 1 [b] Try.underlying116 Try.underlying5 Try.underlying9 ?_
  intro j hj
  have : j = 0 := by simp at hj; omega
  subst this
  exact World.cell?_alloc_mark w _ t _ _

/-- one byte more, onto a slice of bytes that the call owns ('append(l, b)': b lies in a block of its own first) -/
theorem push8 {ops : Array Oper} {rest : List Oper} {o : Oper} {a : Act} {Q : Exit → Act → World → Prop} {w : World} (hgd : o.guard = none) (s x : Operand)
    (ho : o.op = .call { callee := .builtin .append, args := #[s, x], argTypes := #[116, 116] })
    (base : Nat) (v : Value) (l : List UInt8) (n : Nat) (hn : l.length = n) (hs : a.eval s = v) (hown : w.ownsRow base 5 1 v n (bcells l)) (hbase : base ≤ w.heap.size)
    (b : UInt8) (z : Int) (hz : z = (b.toNat : Int)) (hx : a.eval x = .slice (some ⟨w.heap.size, 0, none⟩) 1 1) (hlen : n + 1 ≤ 140737488355328)
    (h : ∀ v' w', w'.ownsRow base 5 1 v' (n + 1) (bcells (l ++ [b])) → Below base w w' → wpList Try.prog ops Q rest (a.put o.dst v') w') :
    wpList Try.prog ops Q (o :: rest) a (w.alloc (.cells #[.int .u8 z] 5)) := by
  subst hz
  obtain ⟨i0, hi, hz0, hz1, hz2⟩ := info_parts info_u8
  refine wpList_append_own _ hgd s x 116 ho base 5 i0 (.int .u8 0) 1 1 Try.underlying116 hi hz0 hz1 hz2 rfl (by decide) v n (bcells l) hs (hown.alloc _) ⟨w.heap.size, 0, none⟩ 1 1 (bcells [b]) hx rfl ?c1 ?c2 ?c3 ?c4 ?c5 ?_
  case c1 =>
    intro j u hj
    match j, hj with
    | 0, hj => simp [bcells] at hj; subst hj; simp [Addr.add]
    | j + 1, hj => simp [bcells] at hj
  case c2 => intro u hu; simp [bcells] at hu; subst hu; rfl
  case c3 => unfold maxLen; omega
  case c4 => omega
  case c5 => simp; omega
  intro v' w' h1 h2 _
  refine h v' w' (by rw [bcells_append]; exact h1) ?_
  exact ((Below.refl base w).alloc hbase _).grown h2 (by simp; omega) (fun k hk => (hown.lt k hk).1)

/-- the same as a step of a region that draws its order, in whatever world: the byte lies in block B -/
theorem step_push8 {ops : Array Oper} {o : Oper} {a : Act} {K : Act → World → Prop} {Q : Exit → Act → World → Prop} {E : Prop} {w : World} (hgd : o.guard = none) (s x : Operand)
    (ho : o.op = .call { callee := .builtin .append, args := #[s, x], argTypes := #[116, 116] })
    (base : Nat) (v : Value) (l : List UInt8) (n : Nat) (hs : a.eval s = v) (hown : w.ownsRow base 5 1 v n (bcells l)) (hbase : base ≤ w.heap.size)
    (B : Nat) (b : UInt8) (hB : w.cell? ⟨B, 0, none⟩ = some (.int .u8 (b.toNat : Int))) (hx : a.eval x = .slice (some ⟨B, 0, none⟩) 1 1) (hlen : n + 1 ≤ 140737488355328)
    (h : ∀ v' w', w'.ownsRow base 5 1 v' (n + 1) (bcells (l ++ [b])) → Below base w w' → K (a.put o.dst v') w') :
    if Region.wanted o (yielded ops a.tmps) = true then Oper.wp Try.prog o a w K Q else E := by
  obtain ⟨i0, hi, hz0, hz1, hz2⟩ := info_parts info_u8
  have hw : Region.wanted o (yielded ops a.tmps) = true := by simp [Region.wanted, hgd]
  rw [if_pos hw]
  refine wp_append_own _ s x 116 ho base 5 i0 (.int .u8 0) 1 1 Try.underlying116 hi hz0 hz1 hz2 rfl (by decide) v n (bcells l) hs hown ⟨B, 0, none⟩ 1 1 (bcells [b]) hx rfl ?c1 ?c2 ?c3 ?c4 hbase ?_
  case c1 =>
    intro j u hj
    match j, hj with
    | 0, hj => simp [bcells] at hj; subst hj; simpa [Addr.add] using hB
    | j + 1, hj => simp [bcells] at hj
  case c2 => intro u hu; simp [bcells] at hu; subst hu; rfl
  case c3 => unfold maxLen; omega
  case c4 => omega
  intro v' w' h1 h2 _
  refine h v' w' (by rw [bcells_append]; exact h1) ?_
  exact (Below.refl base w).grown h2 hbase (fun k hk => (hown.lt k hk).1)

/-- the same behind one draw, the byte in a new block -/
theorem step_push8_drew {ops : Array Oper} {o : Oper} {a : Act} {K : Act → World → Prop} {Q : Exit → Act → World → Prop} {E : Prop} {w : World} (hgd : o.guard = none) (s x : Operand)
    (ho : o.op = .call { callee := .builtin .append, args := #[s, x], argTypes := #[116, 116] })
    (base : Nat) (v : Value) (l : List UInt8) (n : Nat) (hs : a.eval s = v) (hown : w.ownsRow base 5 1 v n (bcells l)) (hbase : base ≤ w.heap.size)
    (b : UInt8) (z : Int) (hz : z = (b.toNat : Int)) (hx : a.eval x = .slice (some ⟨w.heap.size, 0, none⟩) 1 1) (hlen : n + 1 ≤ 140737488355328)
    (h : ∀ v' w', w'.ownsRow base 5 1 v' (n + 1) (bcells (l ++ [b])) → Below base w w' → K (a.put o.dst v') w') :
    if Region.wanted o (yielded ops a.tmps) = true then Oper.wp Try.prog o a (w.alloc (.cells #[.int .u8 z] 5)).drew K Q else E := by
  subst hz
  refine step_push8 hgd s x ho base v l n hs (hown.alloc _).drew ?_ w.heap.size b ?_ hx hlen (fun v' w' h1 h2 => h v' w' h1 ?_)
  · show base ≤ (w.heap.push _).size; simp; omega
  · exact World.cell?_alloc_mark w _ 5 _ 0
  · exact ((Below.refl base w).alloc hbase _).drew.trans h2

/-! ### Bytes that were made of a text ('[]byte(s)': the run-time marks the place behind the row's last cell) and grow by texts -/
/-- the slice v owns the bytes l; no cell of its row is frozen -/
def ownsB (w : World) (base : Nat) (v : Value) (l : List UInt8) : Prop :=
  ∃ g cap cur fz, v = .slice (some ⟨g, 0, none⟩) l.length cap ∧ base ≤ g ∧ w.heap[g]? = some (.cells cur 5 fz) ∧ (fz = (0, 0) ∨ cur.size ≤ fz.1) ∧
    l.length ≤ cap ∧ cap ≤ maxLen ∧ cur.size = cap ∧ cur.toList.take l.length = bcells l
theorem ownsB.drew {w : World} {base : Nat} {v : Value} {l : List UInt8} (h : ownsB w base v l) : ownsB w.drew base v l := h
theorem ownsB.drewN {w : World} {base : Nat} {v : Value} {l : List UInt8} (h : ownsB w base v l) (n : Nat) : ownsB (w.drewN n) base v l := h
theorem ownsB.mem {w w' : World} {base : Nat} {v : Value} {l : List UInt8} (h : ownsB w base v l) (m : Mem w w') : ownsB w' base v l := by
  obtain ⟨g, cap, cur, fz, hv, hb, hh, r⟩ := h
  exact ⟨g, cap, cur, fz, hv, hb, by rw [m.block g (Array.getElem?_eq_some_iff.1 hh).1]; exact hh, r⟩
theorem ownsB.cell {w : World} {base : Nat} {v : Value} {l : List UInt8} {g cap n : Nat} (h : ownsB w base v l) (hv : v = .slice (some ⟨g, 0, none⟩) n cap) (j : Nat) (hj : j < l.length) : w.cell? ⟨g, j, none⟩ = some (.int .u8 (l[j].toNat : Int)) := by
  obtain ⟨g', cap', cur, fz, hv', _, hh, _, _, _, _, ht⟩ := h
  rw [hv'] at hv
  injection hv with ha hn hc
  injection ha with ha
  injection ha with hg _ _
  subst hg
  have e : cur.toList[j]? = some (.int .u8 (l[j].toNat : Int)) := by
    have : (cur.toList.take l.length)[j]? = (bcells l)[j]? := by rw [ht]
    rw [List.getElem?_take_of_lt hj] at this
    rw [this]; simp [bcells, hj]
  simp [World.cell?, hh]
  simpa using e
theorem add_none (g j : Nat) : (⟨g, 0, none⟩ : Addr).add j = ⟨g, j, none⟩ := by simp [Addr.add]; omega
/-- string(b) -/
theorem ownsB.conv {w : World} {base : Nat} {v : Value} {l : List UInt8} (h : ownsB w base v l) :
    (convert 116 9 v).run Try.prog w = .ok (.string ⟨l.toArray⟩) w := by
  obtain ⟨g, cap, cur, fz, hv, r⟩ := id h
  rw [hv]
  refine run_convert_bytes_back w 116 9 5 ⟨g, 0, none⟩ cap l Try.underlying116 Try.underlying5 Try.underlying9 ?_
  intro j hj
  rw [add_none]
  exact h.cell hv j hj
/-- what []byte(s) lays, and how much room it has -/
def rowCap (w : World) (s : ByteArray) : Nat := grownCap w s.size 0 5
def rowOf (w : World) (s : ByteArray) : Obj := .cells (bytesRow s (rowCap w s)) 5 ((bytesRow s (rowCap w s)).size, (bytesRow s (rowCap w s)).size + 1)
/-- []byte(s) -/
theorem run_bytesOf (w : World) (s : ByteArray) : (convert 9 116 (.string s)).run Try.prog w = .ok (.slice (some ⟨w.heap.size, 0, none⟩) s.size (rowCap w s)) (w.drew.alloc (rowOf w s)) :=
  run_bytes_of_string w 9 116 5 s Try.underlying9 Try.underlying116 Try.underlying5
theorem ownsB_start (w : World) (s : ByteArray) (base : Nat) (hb : base ≤ w.heap.size) (hs : s.size ≤ maxLen) :
    ownsB (w.drew.alloc (rowOf w s)) base (.slice (some ⟨w.heap.size, 0, none⟩) s.size (rowCap w s)) s.data.toList := by
  have hge : s.size ≤ rowCap w s := grownCap_ge w s.size 0 5
  have hsz : s.data.size = s.size := rfl
  have hrow : (bytesRow s (rowCap w s)).size = rowCap w s := by
    unfold bytesRow; rw [Array.size_append, Array.size_map, Array.size_replicate, hsz]; omega
  have hl : s.data.toList.length = s.size := by simp
  refine ⟨w.heap.size, rowCap w s, bytesRow s (rowCap w s), _, by rw [hl], hb, heap_alloc_new w.drew _, .inr (Nat.le_refl _), by omega, grownCap_le_maxLen w s.size 0 5 hs, hrow, ?_⟩
  unfold bytesRow bcells
  rw [Array.toList_append, List.take_append_of_le_length (by simp), List.take_of_length_le (by simp)]
  simp

/-- cells stored one behind the other into a row none of whose cells is frozen -/
theorem store_row (P : Program) (g o : Nat) (t : TypeId) (fz : Nat × Nat) (vs : List Value) : ∀ (i : Nat) (cur : Array Value) (w : World), w.heap[g]? = some (.cells cur t fz) → (fz = (0, 0) ∨ cur.size ≤ fz.1) →
    o + i + vs.length ≤ cur.size → (∀ v ∈ vs, v.oneCell' = true) →
    (storeCells ⟨g, o, none⟩ vs i).run P w = .ok () (w.setRow g (cur.toList.take (o + i) ++ vs ++ cur.toList.drop (o + i + vs.length)).toArray) := by
  induction vs with
  | nil =>
    intro i cur w hg _ _ _
    have e : (cur.toList.take (o + i) ++ [] ++ cur.toList.drop (o + i + ([] : List Value).length)).toArray = cur := by simp
    rw [e, setRow_self w g cur t fz hg]
    rfl
  | cons v vs ih =>
    intro i cur w hg hfz hl h1
    rw [List.length_cons] at hl
    have hi : o + i < cur.size := by omega
    have hadd : (⟨g, o, none⟩ : Addr).add i = ⟨g, o + i, none⟩ := by unfold Addr.add; split <;> simp_all
    have hfro : w.frozen? ⟨g, o + i, none⟩ = false := by
      simp only [World.frozen?, hg]
      rcases hfz with rfl | hfz
      · simp
      · simp; omega
    have hcell : w.cell? ⟨g, o + i, none⟩ = some cur[o + i] := by simp [World.cell?, hg, hi]
    have hst : (store ((⟨g, o, none⟩ : Addr).add i) v).run P w = .ok () (w.setRow g (cur.setIfInBounds (o + i) v)) := by
      rw [hadd, run_store P w _ v _ (h1 v (by simp)), hcell]
      simp [hfro, setCell_eq_setRow w g (o + i) cur t fz v hg]
    have hrest := ih (i + 1) (cur.setIfInBounds (o + i) v) (w.setRow g (cur.setIfInBounds (o + i) v)) (setRow_heap w g cur _ t _ hg) (by simpa using hfz) (by simp; omega) (fun x hx => h1 x (by simp [hx]))
    simp only [storeCells, Sem.run_bind, hst, Result.andThen_ok, hrest, setRow_setRow]
    have e := list_seg_step cur.toList (o + i) v vs (by simp; omega)
    congr 3
    simpa [Array.toList_setIfInBounds, Nat.add_assoc] using e

/-- append(b, s...) -/
theorem run_append_text {w : World} {base : Nat} {v : Value} {l : List UInt8} (ty : TypeId) (h : ownsB w base v l) (s : ByteArray) (hlen : l.length + s.size ≤ 140737488355328) (hbase : base ≤ w.heap.size) :
    ∃ v' w', (Builtin.append_ #[116, 9] ty #[v, .string s]).run Try.prog w = .ok v' w' ∧ ownsB w' base v' (l ++ s.data.toList) ∧ Below base w w' := by
  obtain ⟨i0, hi, hz0, hz1, hz2⟩ := info_parts info_u8
  obtain ⟨g, cap, cur, fz, hv, hb, hh, hfz, hlc, hcm, hcs, ht⟩ := id h
  have hsl : s.data.toList.length = s.size := by simp
  by_cases hroom : l.length + s.size ≤ cap
  · have hst := store_row Try.prog g l.length 5 fz (Lib.strCells s) 0 cur w hh hfz (by rw [Lib.strCells_length]; omega) (Lib.strCells_oneCell s)
    have hf := Lib.run_firstCells_string (P := Try.prog) w 1 s
    rw [Nat.add_zero, Lib.strCells_length] at hst
    have hrun : (Builtin.append_ #[116, 9] ty #[v, .string s]).run Try.prog w = .ok (.slice (some ⟨g, 0, none⟩) (l.length + s.size) cap) (w.setRow g (cur.toList.take l.length ++ Lib.strCells s ++ cur.toList.drop (l.length + s.size)).toArray) := by
      rw [hv]
      simp [Builtin.append_, run_underlying Try.underlying116, run_underlying Try.underlying9, sizeOf, typeInfo, hi, hz1, Builtin.lenOf, hroom, hf, Addr.add_lit, hst]
    have hsz : (cur.toList.take l.length ++ Lib.strCells s ++ cur.toList.drop (l.length + s.size)).toArray.size = cur.size := by
      simp only [List.size_toArray, List.length_append, List.length_take, List.length_drop, Array.length_toList, Lib.strCells_length]; omega
    refine ⟨_, _, hrun, ⟨g, cap, _, fz, by rw [List.length_append, hsl], hb, setRow_heap w g cur _ _ _ hh, ?_, by rw [List.length_append, hsl]; exact hroom, hcm, by rw [hsz]; exact hcs, ?_⟩, ?_⟩
    · rw [hsz]; exact hfz
    · rw [ht, bcells_append, ← bcells_str, List.length_append, hsl]
      have e : l.length + s.size = (bcells l ++ Lib.strCells s).length := by rw [List.length_append, bcells_length, Lib.strCells_length]
      rw [e]
      exact List.take_left
    · exact ⟨rfl, rfl, rfl, by simp [World.setRow], fun k hk => setRow_other w g k _ (by omega)⟩
  · have hr := Lib.run_append_grow_string (P := Try.prog) w 116 9 ty 5 i0 (.int .u8 0) Try.underlying116 Try.underlying9 hi hz0 ⟨g, 0, none⟩ l.length cap (bcells l) (by rw [hz1, bcells_length]; omega)
      (by
        intro j u hu
        rw [add_none]
        have hj : j < l.length := by have := (List.getElem?_eq_some_iff.1 hu).1; rwa [bcells_length] at this
        rw [h.cell hv j hj]
        simp [bcells, hj] at hu
        rw [hu]) s (by omega) (by omega) (by rw [hz2]; exact growslice_fits (by omega) (by omega))
    rw [← hv] at hr
    have hge := grownCap_ge w (l.length + s.size) cap 5
    have hcm2 : grownCap w (l.length + s.size) cap 5 ≤ maxLen := grownCap_le_maxLen w (l.length + s.size) cap 5 (by unfold maxLen; omega)
    refine ⟨_, _, hr, ⟨w.heap.size, _, _, _, by rw [List.length_append, hsl], hbase, heap_alloc_new w.drew _, .inl rfl, by rw [List.length_append, hsl]; exact hge, hcm2, ?_, ?_⟩, ?_⟩
    · have hz1 : (Value.int IntKind.u8 0).cells.size = 1 := rfl
      simp only [Array.size_append, List.size_toArray, size_zeroCells, hz1, bcells_length, Lib.strCells_length]
      omega
    · rw [bcells_append, ← bcells_str, List.length_append, hsl]
      simp only [Array.toList_append, List.append_assoc]
      have e : l.length + s.size = (bcells l ++ Lib.strCells s).length := by rw [List.length_append, bcells_length, Lib.strCells_length]
      rw [← List.append_assoc, e]
      exact List.take_left
    · exact ((Below.refl base w).drew).alloc (by simpa using hbase) _

/-- the same at the operation, for the walk -/
theorem push_text {ops : Array Oper} {rest : List Oper} {o : Oper} {a : Act} {Q : Exit → Act → World → Prop} {w : World} (hgd : o.guard = none) (sl x : Operand)
    (ho : o.op = .call { callee := .builtin .append, args := #[sl, x], argTypes := #[116, 9] })
    (base : Nat) (v : Value) (l : List UInt8) (hs : a.eval sl = v) (hown : ownsB w base v l) (hbase : base ≤ w.heap.size) (s : ByteArray) (hx : a.eval x = .string s) (hlen : l.length + s.size ≤ 140737488355328)
    (h : ∀ v' w', ownsB w' base v' (l ++ s.data.toList) → Below base w w' → wpList Try.prog ops Q rest (a.put o.dst v') w') : wpList Try.prog ops Q (o :: rest) a w := by
  refine wpList_plain hgd fun K hK => ?_
  obtain ⟨v', w', hr, h2, h3⟩ := run_append_text o.type hown s hlen hbase
  unfold Oper.wp execOp
  simp only [ho, resolve, invoke, builtin, Sem.run_bind, Sem.run_pure, Result.andThen_ok, List.map_toArray, List.map_cons, List.map_nil, hs, hx, hr]
  exact hK _ _ (h v' w' h2 h3)
end Go.Proofs.Ytcjhaapmehegkaa
