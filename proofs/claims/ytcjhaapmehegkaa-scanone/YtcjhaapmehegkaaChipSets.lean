/-
  What is set in blocks that a call owns, step by step.
-/
import Derived.Test.YtcjhaapmehegkaaNandOns
namespace Go.Proofs.Ytcjhaapmehegkaa.Nand
open Go.RowKit

def Own1 (base : Nat) (w : World) (g : Nat) (R : Nat → Nat → Prop) (bs : List BlockT) : Prop :=
  base ≤ g ∧ RowsAt w g R bs ∧ (∀ i x, R i x → base ≤ x ∧ x < w.heap.size ∧ Soft w x) ∧ ∀ i j x, R i x → R j x → i = j
theorem OwnB.one {base : Nat} {w : World} {v : Value} {bs : List BlockT} (h : OwnB base w v bs) {i : Nat} (hi : i < bs.length) : ∃ g cap R, v = .slice (some ⟨g, 0, none⟩) bs.length cap ∧ bs.length ≤ cap ∧ Own1 base w g R bs := by
  rcases h with ⟨rfl, _⟩ | ⟨g, cap, R, hv, h⟩
  · simp at hi
  · exact ⟨g, cap, R, hv, h⟩
theorem Own1.whole {base : Nat} {w : World} {g : Nat} {R : Nat → Nat → Prop} {bs : List BlockT} (h : Own1 base w g R bs) (n cap : Nat) (hn : n = bs.length) (hc : n ≤ cap) : OwnB base w (.slice (some ⟨g, 0, none⟩) n cap) bs := by
  subst hn; exact .inr ⟨g, cap, R, rfl, hc, h⟩
theorem Own1.mem {base : Nat} {w w' : World} {g : Nat} {R : Nat → Nat → Prop} {bs : List BlockT} (h : Own1 base w g R bs) (m : Mem w w') : Own1 base w' g R bs := by
  obtain ⟨hg, hr, hR, hi⟩ := h
  exact ⟨hg, hr.mem m, fun i y hy => ⟨(hR i y hy).1, Nat.lt_of_lt_of_le (hR i y hy).2.1 m.size, (hR i y hy).2.2.mem m (hR i y hy).2.1⟩, hi⟩
theorem Own1.other {base : Nat} {w : World} {g : Nat} {R : Nat → Nat → Prop} {bs : List BlockT} (h : Own1 base w g R bs) {p : Addr} (hp : p.block ≠ g) (hp' : ∀ i, ¬ R i p.block) (x : Value) : Own1 base (w.setCell p x) g R bs := by
  obtain ⟨hg, hr, hR, hi⟩ := h
  exact ⟨hg, hr.other hp hp' x, fun i y hy => ⟨(hR i y hy).1, by rw [size_setCell]; exact (hR i y hy).2.1, (hR i y hy).2.2.setCell _ _⟩, hi⟩
theorem Own1.below {base : Nat} {w : World} {g : Nat} {R : Nat → Nat → Prop} {bs : List BlockT} (h : Own1 base w g R bs) {p : Addr} (hp : p.block < base) (x : Value) : Own1 base (w.setCell p x) g R bs :=
  h.other (by have := h.1; omega) (fun i hx => by have := (h.2.2.1 i _ hx).1; omega) x
theorem Own1.drew {base : Nat} {w : World} {g : Nat} {R : Nat → Nat → Prop} {bs : List BlockT} (h : Own1 base w g R bs) : Own1 base w.drew g R bs := h.mem (Mem.refl w).drew
theorem get_lt {bs : List BlockT} {i : Nat} {b : BlockT} (hb : bs[i]? = some b) : ∃ h : i < bs.length, bs[i] = b := List.getElem?_eq_some_iff.1 hb
theorem Own1.field {base : Nat} {w : World} {g : Nat} {R : Nat → Nat → Prop} {bs : List BlockT} (h : Own1 base w g R bs) {i : Nat} {b b' : BlockT} (hb : bs[i]? = some b) (h1 : b'.1 = b.1) (k : Nat) (x : Value)
    (hk : (k = 1 ∧ x = .int .i64 b'.2.1 ∧ b'.2.2.1 = b.2.2.1 ∧ b'.2.2.2 = b.2.2.2) ∨ (k = 2 ∧ x = .int .i64 b'.2.2.1 ∧ b'.2.1 = b.2.1 ∧ b'.2.2.2 = b.2.2.2) ∨ (k = 3 ∧ x = .bool b'.2.2.2 ∧ b'.2.1 = b.2.1 ∧ b'.2.2.1 = b.2.2.1)) :
    Own1 base (w.setCell ⟨g, i * 4 + k, none⟩ x) g R (bs.set i b') := by
  obtain ⟨hi, rfl⟩ := get_lt hb
  obtain ⟨hg, hr, hR, hj⟩ := h
  exact ⟨hg, hr.field hi b' h1 k x hk, fun i y hy => ⟨(hR i y hy).1, by rw [size_setCell]; exact (hR i y hy).2.1, (hR i y hy).2.2.setCell _ _⟩, hj⟩
theorem Own1.next {base : Nat} {w : World} {g : Nat} {R : Nat → Nat → Prop} {bs : List BlockT} (h : Own1 base w g R bs) {i : Nat} {ps : List PageT} {nx er : Int} {bd : Bool} (hb : bs[i]? = some (ps, nx, er, bd)) (n : Int) : Own1 base (w.setCell ⟨g, i * 4 + 1, none⟩ (.int .i64 n)) g R (bs.set i (ps, n, er, bd)) :=
  h.field (b' := (ps, n, er, bd)) hb rfl 1 _ (.inl ⟨rfl, rfl, rfl, rfl⟩)
theorem Own1.erases {base : Nat} {w : World} {g : Nat} {R : Nat → Nat → Prop} {bs : List BlockT} (h : Own1 base w g R bs) {i : Nat} {ps : List PageT} {nx er : Int} {bd : Bool} (hb : bs[i]? = some (ps, nx, er, bd)) (n : Int) : Own1 base (w.setCell ⟨g, i * 4 + 2, none⟩ (.int .i64 n)) g R (bs.set i (ps, nx, n, bd)) :=
  h.field (b' := (ps, nx, n, bd)) hb rfl 2 _ (.inr (.inl ⟨rfl, rfl, rfl, rfl⟩))
theorem Own1.bad {base : Nat} {w : World} {g : Nat} {R : Nat → Nat → Prop} {bs : List BlockT} (h : Own1 base w g R bs) {i : Nat} {ps : List PageT} {nx er : Int} {bd : Bool} (hb : bs[i]? = some (ps, nx, er, bd)) (n : Bool) : Own1 base (w.setCell ⟨g, i * 4 + 3, none⟩ (.bool n)) g R (bs.set i (ps, nx, er, n)) :=
  h.field (b' := (ps, nx, er, n)) hb rfl 3 _ (.inr (.inr ⟨rfl, rfl, rfl, rfl⟩))
/-- what is read of block i -/
theorem Own1.at {base : Nat} {w : World} {g : Nat} {R : Nat → Nat → Prop} {bs : List BlockT} (h : Own1 base w g R bs) {i : Nat} {ps : List PageT} {nx er : Int} {bd : Bool} (hb : bs[i]? = some (ps, nx, er, bd)) :
    ∃ op cp, w.cell? ⟨g, i * 4, none⟩ = some (.slice op ps.length cp) ∧ w.cell? ⟨g, i * 4 + 1, none⟩ = some (.int .i64 nx) ∧ w.cell? ⟨g, i * 4 + 2, none⟩ = some (.int .i64 er) ∧ w.cell? ⟨g, i * 4 + 3, none⟩ = some (.bool bd) ∧ PagesAt (R i) w (.slice op ps.length cp) ps ∧ ∀ off, w.frozen? ⟨g, off, none⟩ = false := by
  obtain ⟨hi, e⟩ := get_lt hb
  obtain ⟨op, cp, c⟩ := h.2.1.2.2.2 i hi
  rw [e] at c
  obtain ⟨c0, c1, c2, c3, c4⟩ := c
  exact ⟨op, cp, c0, c1, c2, c3, c4, h.2.1.2.1⟩
theorem Own1.page {base : Nat} {w : World} {g : Nat} {R : Nat → Nat → Prop} {bs : List BlockT} (h : Own1 base w g R bs) {i : Nat} {ps : List PageT} {nx er : Int} {bd : Bool} (hb : bs[i]? = some (ps, nx, er, bd)) {x off n cp : Nat} (hc : w.cell? ⟨g, i * 4, none⟩ = some (.slice (some ⟨x, off, none⟩) n cp)) (hx : R i x) {p : Nat} (hp : p < ps.length) (pg : PageT) :
    Own1 base (set3 w x (off + p * 3) pg) g R (bs.set i (ps.set p pg, nx, er, bd)) := by
  obtain ⟨hi, e⟩ := get_lt hb
  obtain ⟨hg, hr, hR, hj⟩ := h
  have := hr.page hi hc hx (fun j hy => hj j i x hy hx) (p := p) (by rw [e]; exact hp) pg
  rw [e] at this
  exact ⟨hg, this, fun i y hy => ⟨(hR i y hy).1, by rw [set3_size]; exact (hR i y hy).2.1, (hR i y hy).2.2.set3 _ _ _⟩, hj⟩
theorem set_get {bs : List BlockT} {i : Nat} {b : BlockT} (h : i < bs.length) : (bs.set i b)[i]? = some b := by simp [h]
theorem OwnB.put4 {base : Nat} {w : World} {v : Value} {bs : List BlockT} (h : OwnB base w v bs) {b : Nat} (hb : b < base) (x0 x1 x2 x3 : Value) :
    OwnB base ((((w.setCell ⟨b, 0, none⟩ x0).setCell ⟨b, 1, none⟩ x1).setCell ⟨b, 2, none⟩ x2).setCell ⟨b, 3, none⟩ x3) v bs :=
  (((h.setCell (p := ⟨b, 0, none⟩) hb x0).setCell (p := ⟨b, 1, none⟩) hb x1).setCell (p := ⟨b, 2, none⟩) hb x2).setCell (p := ⟨b, 3, none⟩) hb x3
theorem BlocksAt.put4 {S : Nat → Prop} {w : World} {v : Value} {bs : List BlockT} (h : BlocksAt S w v bs) {b : Nat} (hb : ¬ S b) (x0 x1 x2 x3 : Value) :
    BlocksAt S ((((w.setCell ⟨b, 0, none⟩ x0).setCell ⟨b, 1, none⟩ x1).setCell ⟨b, 2, none⟩ x2).setCell ⟨b, 3, none⟩ x3) v bs :=
  (((h.setCell (p := ⟨b, 0, none⟩) hb x0).setCell (p := ⟨b, 1, none⟩) hb x1).setCell (p := ⟨b, 2, none⟩) hb x2).setCell (p := ⟨b, 3, none⟩) hb x3

/-! ### What a program and an erase make of a chip -/
/-- Kind, Data, Tag, N -/
abbrev FateT := Int × ByteArray × ByteArray × Int
abbrev fateV (f : FateT) : Value := .agg #[.int .i64 f.1, .string f.2.1, .string f.2.2.1, .int .i64 f.2.2.2]
def okProg (bs : List BlockT) (b p : Int) (f : FateT) : Bool :=
  thereB bs b p && !(bs.getD b.toNat default).2.2.2 && decide ((bs.getD b.toNat default).2.1 = p) && decide (0 ≤ f.1) && decide (f.1 ≤ 2)
def program (c : ChipT) (b p : Int) (pg : PageT) (f : FateT) : ChipT × Int :=
  if c.2.2.1 = true then (c, 52)
  else if okProg c.1 b p f = true then
    ((c.1.set b.toNat ((c.1.getD b.toNat default).1.set p.toNat (if f.1 = 0 then (true, pg.2.1, pg.2.2) else (true, f.2.1, f.2.2.1)), p + 1, (c.1.getD b.toNat default).2.2.1, decide (f.1 = 1)), c.2.1, decide (f.1 = 2), wrap64 (c.2.2.2 + 1)), if f.1 = 0 then 0 else if f.1 = 1 then 53 else 52)
  else ((c.1, true, c.2.2.1, c.2.2.2), 1)
end Go.Proofs.Ytcjhaapmehegkaa.Nand
