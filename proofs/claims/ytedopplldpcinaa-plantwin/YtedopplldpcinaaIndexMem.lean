/-
  Layer 9: slots in memory: three numbers each, in rows.
-/
import Derived.Test.YtedopplldpcinaaIndexMath
import Derived.Test.YtedopplldpcinaaMemLow
import Derived.Test.YtedopplldpcinaaChipMem
import Derived.Laws.MakeOwn
namespace Go.Proofs.Ytedopplldpcinaa.Index
open Go.RowKit Go.Proofs.Ytedopplldpcinaa.Scan

def encS (s : SlotT) : List Value := [.int .i64 s.1, .int .i64 s.2.1, .int .i64 s.2.2]
def sCells (l : List SlotT) : List Value := l.flatMap encS
theorem sCells_length (l : List SlotT) : (sCells l).length = l.length * 3 := by
  unfold sCells
  induction l with
  | nil => rfl
  | cons x xs ih => rw [List.flatMap_cons, List.length_append, ih, List.length_cons]; simp [encS]; omega
theorem sCells_get {l : List SlotT} {i j : Nat} (hi : i < l.length) (hj : j < 3) : (sCells l)[i * 3 + j]? = (encS (slot l i))[j]? := by
  unfold sCells
  induction l generalizing i with
  | nil => simp at hi
  | cons x xs ih =>
    rw [List.flatMap_cons]
    cases i with
    | zero => rw [List.getElem?_append_left (by simp [encS]; omega)]; simp [slot]
    | succ i =>
      rw [List.getElem?_append_right (by simp [encS]; omega), show (encS x).length = 3 from rfl, show (i + 1) * 3 + j - 3 = i * 3 + j by omega, ih (by simpa using hi)]
      simp [slot]
/-- the three cells of slot i, of a row at b, from off on -/
def cells3 (w : World) (b off i : Nat) (s : SlotT) : Prop :=
  w.cell? ⟨b, off + i * 3, none⟩ = some (.int .i64 s.1) ∧ w.cell? ⟨b, off + i * 3 + 1, none⟩ = some (.int .i64 s.2.1) ∧ w.cell? ⟨b, off + i * 3 + 2, none⟩ = some (.int .i64 s.2.2)
/-- slots in a row, of which the block is one of which S holds -/
def SlotsAt (S : Nat → Prop) (w : World) (v : Value) (l : List SlotT) : Prop :=
  l.length ≤ maxLen ∧ ((l = [] ∧ ∃ a cap, v = .slice a 0 cap) ∨
    ∃ b off cap, v = .slice (some ⟨b, off, none⟩) l.length cap ∧ 0 < l.length ∧ S b ∧ ∀ i, i < l.length → cells3 w b off i (slot l i))
theorem SlotsAt.nil (S : Nat → Prop) (w : World) (a : Option Addr) (cap : Nat) : SlotsAt S w (.slice a 0 cap) [] := ⟨by simp, .inl ⟨rfl, a, cap, rfl⟩⟩
theorem SlotsAt.kept {S S' : Nat → Prop} {w w' : World} {v : Value} {l : List SlotT} (h : SlotsAt S w v l) (hS : ∀ g, S g → g < w.heap.size → S' g ∧ ∀ off, w'.cell? ⟨g, off, none⟩ = w.cell? ⟨g, off, none⟩) : SlotsAt S' w' v l := by
  refine ⟨h.1, ?_⟩
  rcases h.2 with h | ⟨b, off, cap, hv, h0, hs, hc⟩
  · exact .inl h
  · obtain ⟨h1, h2⟩ := hS b hs (World.block_lt_of_cell? w _ (hc 0 h0).1)
    exact .inr ⟨b, off, cap, hv, h0, h1, fun i hi => ⟨by rw [h2]; exact (hc i hi).1, by rw [h2]; exact (hc i hi).2.1, by rw [h2]; exact (hc i hi).2.2⟩⟩
theorem SlotsAt.mem {S : Nat → Prop} {w w' : World} {v : Value} {l : List SlotT} (h : SlotsAt S w v l) (m : Mem w w') : SlotsAt S w' v l :=
  h.kept fun g hg hl => ⟨hg, fun off => Below.cell m (p := ⟨g, off, none⟩) hl⟩
theorem SlotsAt.mono {S S' : Nat → Prop} {w : World} {v : Value} {l : List SlotT} (h : SlotsAt S w v l) (hS : ∀ g, S g → g < w.heap.size → S' g) : SlotsAt S' w v l :=
  h.kept fun g hg hl => ⟨hS g hg hl, fun _ => rfl⟩
theorem SlotsAt.setCell {S : Nat → Prop} {w : World} {v : Value} {l : List SlotT} (h : SlotsAt S w v l) {p : Addr} (hp : ¬ S p.block) (x : Value) : SlotsAt S (w.setCell p x) v l :=
  h.kept fun g hg _ => ⟨hg, fun off => World.cell?_of_block (w := w) (a := ⟨g, off, none⟩) (Below.heap_setCell w p x g (fun e => hp (e ▸ hg)))⟩
theorem SlotsAt.shape {S : Nat → Prop} {w : World} {v : Value} {l : List SlotT} (h : SlotsAt S w v l) : ∃ oa cap, v = .slice oa l.length cap := by
  rcases h.2 with ⟨rfl, a, cap, rfl⟩ | ⟨b, off, cap, rfl, _⟩
  · exact ⟨a, cap, rfl⟩
  · exact ⟨_, cap, rfl⟩
theorem SlotsAt.at {S : Nat → Prop} {w : World} {oa : Option Addr} {n cap : Nat} {l : List SlotT} (h : SlotsAt S w (.slice oa n cap) l) (h0 : 0 < l.length) :
    ∃ b off, oa = some ⟨b, off, none⟩ ∧ S b ∧ ∀ i, i < l.length → cells3 w b off i (slot l i) := by
  rcases h.2 with ⟨rfl, _⟩ | ⟨b, off, cap', hv, _, hs, hc⟩
  · simp at h0
  · injection hv with ha
    exact ⟨b, off, ha, hs, hc⟩
theorem SlotsAt.of_ints {S : Nat → Prop} {w : World} {v : Value} {l : List SlotT} (h : SlotsAt S w v l) : SlotsAt (fun b => b < w.heap.size) w v l :=
  h.kept fun _ _ hl => ⟨hl, fun _ => rfl⟩

/-- the slots l, in block g, which may be written into -/
def RowS (w : World) (g : Nat) (oa : Option Addr) (l : List SlotT) : Prop :=
  0 < l.length → oa = some ⟨g, 0, none⟩ ∧ ∃ cs, Blk w g 102 cs ∧ ∀ i j, i < l.length → j < 3 → cs[i * 3 + j]? = (encS (slot l i))[j]?
theorem RowS.mem {w w' : World} {g : Nat} {oa : Option Addr} {l : List SlotT} (h : RowS w g oa l) (m : Mem w w') : RowS w' g oa l := by
  intro h0
  obtain ⟨h1, cs, h2, h3⟩ := h h0
  exact ⟨h1, cs, h2.mem m, h3⟩
theorem RowS.addr {w : World} {g : Nat} {oa : Option Addr} {l : List SlotT} (h : RowS w g oa l) (h0 : 0 < l.length) : oa = some ⟨g, 0, none⟩ := (h h0).1
theorem RowS.frozen {w : World} {g : Nat} {oa : Option Addr} {l : List SlotT} (h : RowS w g oa l) (h0 : 0 < l.length) (k : Nat) : w.frozen? ⟨g, k, none⟩ = false := by
  obtain ⟨_, cs, h2, _⟩ := h h0
  exact h2.frozen k
theorem RowS.cells {w : World} {g : Nat} {oa : Option Addr} {l : List SlotT} (h : RowS w g oa l) {i : Nat} (hi : i < l.length) : w.cell? ⟨g, i * 3, none⟩ = some (.int .i64 (slot l i).1) ∧ w.cell? ⟨g, i * 3 + 1, none⟩ = some (.int .i64 (slot l i).2.1) ∧ w.cell? ⟨g, i * 3 + 2, none⟩ = some (.int .i64 (slot l i).2.2) := by
  obtain ⟨_, cs, h2, h3⟩ := h (by omega)
  exact ⟨h2.cell (h3 i 0 hi (by omega)), h2.cell (h3 i 1 hi (by omega)), h2.cell (h3 i 2 hi (by omega))⟩
theorem RowS.set {w : World} {g : Nat} {oa : Option Addr} {l : List SlotT} (h : RowS w g oa l) {k : Nat} (hk : k < l.length) (a b c : Int) :
    RowS (((w.setCell ⟨g, k * 3, none⟩ (.int .i64 a)).setCell ⟨g, k * 3 + 1, none⟩ (.int .i64 b)).setCell ⟨g, k * 3 + 2, none⟩ (.int .i64 c)) g oa (l.set k (a, b, c)) := by
  intro h0
  rw [List.length_set] at h0
  obtain ⟨h1, cs, h2, h3⟩ := h h0
  refine ⟨h1, _, ((h2.set (k * 3) _).set (k * 3 + 1) _).set (k * 3 + 2) _, fun i j hi hj => ?_⟩
  rw [List.length_set] at hi
  have e0 := h3 k 0 hk (by omega)
  have e1 := h3 k 1 hk (by omega)
  have e2 := h3 k 2 hk (by omega)
  have b0 : k * 3 < cs.size := (Array.getElem?_eq_some_iff.1 (e0.trans (show (encS (slot l k))[0]? = some (.int .i64 (slot l k).1) from rfl))).1
  have b1 : k * 3 + 1 < cs.size := (Array.getElem?_eq_some_iff.1 (e1.trans (show (encS (slot l k))[1]? = some (.int .i64 (slot l k).2.1) from rfl))).1
  have b2 : k * 3 + 2 < cs.size := (Array.getElem?_eq_some_iff.1 (e2.trans (show (encS (slot l k))[2]? = some (.int .i64 (slot l k).2.2) from rfl))).1
  rw [slot_set hk]
  by_cases e : i = k
  · subst e
    rw [if_pos rfl]
    match j, hj with
    | 0, _ => simp [encS, Array.getElem?_setIfInBounds]; omega
    | 1, _ => simp [encS, Array.getElem?_setIfInBounds]; omega
    | 2, _ => simp [encS, Array.getElem?_setIfInBounds]; omega
  · rw [if_neg e, ← h3 i j hi hj]
    rw [Array.getElem?_setIfInBounds, if_neg (by omega), Array.getElem?_setIfInBounds, if_neg (by omega), Array.getElem?_setIfInBounds, if_neg (by omega)]
theorem RowS.slots {S : Nat → Prop} {w : World} {g : Nat} {oa : Option Addr} {l : List SlotT} (h : RowS w g oa l) (hl : l.length ≤ maxLen) (hS : S g) (cap : Nat) : SlotsAt S w (.slice oa l.length cap) l := by
  refine ⟨hl, ?_⟩
  by_cases h0 : 0 < l.length
  · refine .inr ⟨g, 0, cap, by rw [h.addr h0], h0, hS, fun i hi => ?_⟩
    unfold cells3
    rw [Nat.zero_add]
    exact h.cells hi
  · have : l = [] := List.length_eq_zero_iff.1 (by omega)
    subst this
    exact .inl ⟨rfl, _, _, rfl⟩
theorem RowS.of_owns {w : World} {base : Nat} {v : Value} {n : Nat} {l : List SlotT} (G : Nat) (h : w.ownsRow base 102 3 v n (sCells l)) (hn : l.length = n) :
    ∃ oa cap g, v = .slice oa l.length cap ∧ RowS w g oa l ∧ ((base ≤ g ∧ g < w.heap.size) ∨ (l = [] ∧ g = G)) := by
  subst hn
  rcases id h.2 with ⟨rfl, h0⟩ | ⟨g, cap, cur, rfl, hb, hh, hlc, hcm, hcs, ht⟩
  · exact ⟨none, 0, G, by rw [h0], fun h => by omega, .inr ⟨List.length_eq_zero_iff.1 h0, rfl⟩⟩
  · refine ⟨_, cap, g, rfl, fun _ => ⟨rfl, cur, hh, fun i j hi hj => ?_⟩, .inl ⟨hb, (Array.getElem?_eq_some_iff.1 hh).1⟩⟩
    have : (cur.toList.take (l.length * 3))[i * 3 + j]? = (sCells l)[i * 3 + j]? := by rw [ht]
    rw [List.getElem?_take_of_lt (by omega)] at this
    rw [← Array.getElem?_toList, this, sCells_get hi hj]
theorem info_slot : (Try.prog.info? 102).map (fun i => (i.zero, i.size, i.bytes)) = some (some (.agg #[.int .i64 0, .int .i64 0, .int .i64 0]), 3, 24) := by kernel_rfl
theorem run_makeSlots (n : Nat) (hn : n ≤ 1000) (w : World) :
    (Instr.makeSlice 69 (.int .i64 (n : Int)) (.int .i64 (n : Int))).run Try.prog w = .ok (.slice (some ⟨w.heap.size, 0, none⟩) n n) (w.alloc (.cells (madeCells #[.int .i64 0, .int .i64 0, .int .i64 0] (n * 3)) 102)) := by
  obtain ⟨i0, hi, hz0, hz1, hz2⟩ := info_parts info_slot
  have hr := run_make (P := Try.prog) w 69 102 i0 _ Try.underlying69 hi hz0 .i64 .i64 n n (by omega) (Int.le_refl _) (by rw [hz2]; omega) (by omega)
  simp only [Int.toNat_natCast, hz1] at hr
  exact hr
theorem made_slots (w : World) (n : Nat) : RowS (w.alloc (.cells (madeCells #[.int .i64 0, .int .i64 0, .int .i64 0] (n * 3)) 102)) w.heap.size (some ⟨w.heap.size, 0, none⟩) (emptyT n) := by
  intro h0
  refine ⟨rfl, _, Blk.new w _ _, fun i j hi hj => ?_⟩
  rw [empty_len] at hi
  rw [slot_empty]
  have : (madeCells #[.int .i64 0, .int .i64 0, .int .i64 0] (n * 3))[i * 3 + j]? = some ((#[Value.int .i64 0, .int .i64 0, .int .i64 0] : Array Value)[(i * 3 + j) % 3]!) := by
    have hb : i * 3 + j < n * 3 := by omega
    simp [madeCells, hb]
  rw [this, show (i * 3 + j) % 3 = j by omega]
  match j, hj with
  | 0, _ => rfl
  | 1, _ => rfl
  | 2, _ => rfl
end Go.Proofs.Ytedopplldpcinaa.Index
