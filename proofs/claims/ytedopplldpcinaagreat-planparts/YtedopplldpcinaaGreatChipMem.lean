/-
  Chips, ChipRows, Pairs, ChipOwns: in one text (merge.json).
-/
import Derived.Test.YtedopplldpcinaaGreatMemLow
import Derived.Laws.ResultCell
import Derived.Laws.Rows
import Derived.Maps.AppendAt
/-
  Chips in memory: pages, blocks, chips, whose rows lie in blocks of which S holds.
-/
namespace Go.Proofs.YtedopplldpcinaaGreat.Nand
open Go.RowKit

abbrev PageT := Bool × ByteArray × ByteArray
/-- pages, Next, Erases, Bad -/
abbrev BlockT := List PageT × Int × Int × Bool
/-- blocks, Broken, Off, Ops -/
abbrev ChipT := List BlockT × Bool × Bool × Int

def PagesAt (S : Nat → Prop) (w : World) (v : Value) (ps : List PageT) : Prop :=
  ps.length ≤ maxLen ∧ ((ps = [] ∧ ∃ a cap, v = .slice a 0 cap) ∨
    ∃ g off cap, v = .slice (some ⟨g, off, none⟩) ps.length cap ∧ (0 < ps.length ∧ ps.length ≤ cap) ∧ S g ∧
      ∀ i (h : i < ps.length), w.cell? ⟨g, off + i * 3, none⟩ = some (.bool ps[i].1) ∧ w.cell? ⟨g, off + i * 3 + 1, none⟩ = some (.string ps[i].2.1) ∧ w.cell? ⟨g, off + i * 3 + 2, none⟩ = some (.string ps[i].2.2))
def BlocksAt (S : Nat → Prop) (w : World) (v : Value) (bs : List BlockT) : Prop :=
  bs.length ≤ maxLen ∧ ((bs = [] ∧ ∃ a cap, v = .slice a 0 cap) ∨
    ∃ g off cap, v = .slice (some ⟨g, off, none⟩) bs.length cap ∧ (0 < bs.length ∧ bs.length ≤ cap) ∧ S g ∧
      ∀ i (h : i < bs.length), ∃ vp, w.cell? ⟨g, off + i * 4, none⟩ = some vp ∧ w.cell? ⟨g, off + i * 4 + 1, none⟩ = some (.int .i64 bs[i].2.1) ∧ w.cell? ⟨g, off + i * 4 + 2, none⟩ = some (.int .i64 bs[i].2.2.1) ∧ w.cell? ⟨g, off + i * 4 + 3, none⟩ = some (.bool bs[i].2.2.2) ∧ PagesAt S w vp bs[i].1)

theorem add_none (g o j : Nat) : (⟨g, o, none⟩ : Addr).add j = ⟨g, o + j, none⟩ := by
  unfold Addr.add
  by_cases h : j = 0
  · subst h; simp
  · simp [h]
theorem PagesAt.kept {S S' : Nat → Prop} {w w' : World} {v : Value} {ps : List PageT} (h : PagesAt S w v ps) (hS : ∀ g, S g → g < w.heap.size → S' g ∧ ∀ off, w'.cell? ⟨g, off, none⟩ = w.cell? ⟨g, off, none⟩) : PagesAt S' w' v ps := by
  refine ⟨h.1, ?_⟩
  rcases h.2 with h | ⟨g, off, cap, hv, h0, hs, hc⟩
  · exact .inl h
  · have hg : g < w.heap.size := World.block_lt_of_cell? w _ (hc 0 h0.1).1
    obtain ⟨h1, h2⟩ := hS g hs hg
    refine .inr ⟨g, off, cap, hv, h0, h1, fun i hi => ?_⟩
    obtain ⟨c0, c1, c2⟩ := hc i hi
    exact ⟨by rw [h2]; exact c0, by rw [h2]; exact c1, by rw [h2]; exact c2⟩
theorem BlocksAt.kept {S S' : Nat → Prop} {w w' : World} {v : Value} {bs : List BlockT} (h : BlocksAt S w v bs) (hS : ∀ g, S g → g < w.heap.size → S' g ∧ ∀ off, w'.cell? ⟨g, off, none⟩ = w.cell? ⟨g, off, none⟩) : BlocksAt S' w' v bs := by
  refine ⟨h.1, ?_⟩
  rcases h.2 with h | ⟨g, off, cap, hv, h0, hs, hc⟩
  · exact .inl h
  · obtain ⟨vp, c0, _⟩ := hc 0 h0.1
    have hg : g < w.heap.size := World.block_lt_of_cell? w _ c0
    clear c0
    obtain ⟨h1, h2⟩ := hS g hs hg
    refine .inr ⟨g, off, cap, hv, h0, h1, fun i hi => ?_⟩
    obtain ⟨vp, c0, c1, c2, c3, c4⟩ := hc i hi
    exact ⟨vp, by rw [h2]; exact c0, by rw [h2]; exact c1, by rw [h2]; exact c2, by rw [h2]; exact c3, c4.kept hS⟩
theorem PagesAt.mem {S : Nat → Prop} {w w' : World} {v : Value} {ps : List PageT} (h : PagesAt S w v ps) (m : Mem w w') : PagesAt S w' v ps :=
  h.kept fun g hg hl => ⟨hg, fun off => Below.cell m (p := ⟨g, off, none⟩) hl⟩
theorem BlocksAt.mem {S : Nat → Prop} {w w' : World} {v : Value} {bs : List BlockT} (h : BlocksAt S w v bs) (m : Mem w w') : BlocksAt S w' v bs :=
  h.kept fun g hg hl => ⟨hg, fun off => Below.cell m (p := ⟨g, off, none⟩) hl⟩
theorem PagesAt.mono {S S' : Nat → Prop} {w : World} {v : Value} {ps : List PageT} (h : PagesAt S w v ps) (hS : ∀ g, S g → g < w.heap.size → S' g) : PagesAt S' w v ps :=
  h.kept fun g hg hl => ⟨hS g hg hl, fun _ => rfl⟩
theorem BlocksAt.mono {S S' : Nat → Prop} {w : World} {v : Value} {bs : List BlockT} (h : BlocksAt S w v bs) (hS : ∀ g, S g → g < w.heap.size → S' g) : BlocksAt S' w v bs :=
  h.kept fun g hg hl => ⟨hS g hg hl, fun _ => rfl⟩
theorem PagesAt.setCell {S : Nat → Prop} {w : World} {v : Value} {ps : List PageT} (h : PagesAt S w v ps) {p : Addr} (hp : ¬ S p.block) (x : Value) : PagesAt S (w.setCell p x) v ps :=
  h.kept fun g hg _ => ⟨hg, fun off => World.cell?_of_block (w := w) (a := ⟨g, off, none⟩) (Below.heap_setCell w p x g (fun e => hp (e ▸ hg)))⟩
theorem BlocksAt.setCell {S : Nat → Prop} {w : World} {v : Value} {bs : List BlockT} (h : BlocksAt S w v bs) {p : Addr} (hp : ¬ S p.block) (x : Value) : BlocksAt S (w.setCell p x) v bs :=
  h.kept fun g hg _ => ⟨hg, fun off => World.cell?_of_block (w := w) (a := ⟨g, off, none⟩) (Below.heap_setCell w p x g (fun e => hp (e ▸ hg)))⟩
theorem PagesAt.shape {S : Nat → Prop} {w : World} {v : Value} {ps : List PageT} (h : PagesAt S w v ps) : ∃ oa cap, v = .slice oa ps.length cap := by
  rcases h.2 with ⟨rfl, a, cap, rfl⟩ | ⟨g, off, cap, rfl, _⟩
  · exact ⟨a, cap, rfl⟩
  · exact ⟨_, cap, rfl⟩
theorem BlocksAt.shape {S : Nat → Prop} {w : World} {v : Value} {bs : List BlockT} (h : BlocksAt S w v bs) : ∃ oa cap, v = .slice oa bs.length cap := by
  rcases h.2 with ⟨rfl, a, cap, rfl⟩ | ⟨g, off, cap, rfl, _⟩
  · exact ⟨a, cap, rfl⟩
  · exact ⟨_, cap, rfl⟩
theorem PagesAt.cap {S : Nat → Prop} {w : World} {oa : Option Addr} {n cap : Nat} {ps : List PageT} (h : PagesAt S w (.slice oa n cap) ps) : n ≤ cap := by
  rcases h.2 with ⟨_, a, cap', hv⟩ | ⟨g, off, cap', hv, h0, _⟩
  · injection hv with _ e1 e2; omega
  · injection hv with _ e1 e2; omega
theorem BlocksAt.cap {S : Nat → Prop} {w : World} {oa : Option Addr} {n cap : Nat} {bs : List BlockT} (h : BlocksAt S w (.slice oa n cap) bs) : n ≤ cap := by
  rcases h.2 with ⟨_, a, cap', hv⟩ | ⟨g, off, cap', hv, h0, _⟩
  · injection hv with _ e1 e2; omega
  · injection hv with _ e1 e2; omega
/-- the page number i -/
theorem PagesAt.at {S : Nat → Prop} {w : World} {oa : Option Addr} {n cap : Nat} {ps : List PageT} (h : PagesAt S w (.slice oa n cap) ps) {i : Nat} (hi : i < ps.length) :
    ∃ g off, oa = some ⟨g, off, none⟩ ∧ S g ∧ w.cell? ⟨g, off + i * 3, none⟩ = some (.bool ps[i].1) ∧ w.cell? ⟨g, off + i * 3 + 1, none⟩ = some (.string ps[i].2.1) ∧ w.cell? ⟨g, off + i * 3 + 2, none⟩ = some (.string ps[i].2.2) := by
  rcases h.2 with ⟨rfl, _⟩ | ⟨g, off, cap', hv, _, hs, hc⟩
  · simp at hi
  · injection hv with ha
    exact ⟨g, off, ha, hs, hc i hi⟩
/-- the block number i -/
theorem BlocksAt.at {S : Nat → Prop} {w : World} {oa : Option Addr} {n cap : Nat} {bs : List BlockT} (h : BlocksAt S w (.slice oa n cap) bs) {i : Nat} (hi : i < bs.length) :
    ∃ g off op cp, oa = some ⟨g, off, none⟩ ∧ S g ∧ w.cell? ⟨g, off + i * 4, none⟩ = some (.slice op bs[i].1.length cp) ∧ w.cell? ⟨g, off + i * 4 + 1, none⟩ = some (.int .i64 bs[i].2.1) ∧ w.cell? ⟨g, off + i * 4 + 2, none⟩ = some (.int .i64 bs[i].2.2.1) ∧ w.cell? ⟨g, off + i * 4 + 3, none⟩ = some (.bool bs[i].2.2.2) ∧ PagesAt S w (.slice op bs[i].1.length cp) bs[i].1 := by
  rcases h.2 with ⟨rfl, _⟩ | ⟨g, off, cap', hv, _, hs, hc⟩
  · simp at hi
  · injection hv with ha
    obtain ⟨vp, c0, c1, c2, c3, c4⟩ := hc i hi
    obtain ⟨op, cp, rfl⟩ := c4.shape
    exact ⟨g, off, op, cp, ha, hs, c0, c1, c2, c3, c4⟩

/-! ### Is a page there? -/
def thereB (bs : List BlockT) (b p : Int) : Bool :=
  decide (0 ≤ b) && decide (b < bs.length) && decide (0 ≤ p) && decide (p < (bs.getD b.toNat default).1.length)

set_option maxHeartbeats 1000000 in
set_option maxRecDepth 100000 in
theorem refThere (S : Nat → Prop) (vb : Value) (bs : List BlockT) (br off : Bool) (ops b p : Int) (w : World) (hb : BlocksAt S w vb bs) :
    Calls Tryz.prog 27 #[.agg #[vb, .bool br, .bool off, .int .i64 ops], .int .i64 b, .int .i64 p] w fun e w' => e = .returned (.bool (thereB bs b p)) ∧ Mem w w' := by
  obtain ⟨oa, ca, rfl⟩ := hb.shape
  have hm : Mem w (w.alloc (.cells #[.slice oa bs.length ca, .bool br, .bool off, .int .i64 ops] 24)) := (Mem.refl w).alloc _
  have hb' := hb.mem hm
  by_cases h0 : 0 ≤ b
  case neg =>
    have HV : Hid (thereB bs b p = false) := by show _ = _; unfold thereB; rw [decide_eq_false h0]; rfl
    have h0' : b < 0 := by omega
    go_enter Tryz.func27, Tryz.ntmps27
    go_wp2_with fail
    go_ret
    exact ⟨ret_b HV.out.symm, hm⟩
  by_cases h1 : b < bs.length
  case neg =>
    have HV : Hid (thereB bs b p = false) := by show _ = _; unfold thereB; rw [decide_eq_false h1, Bool.and_false]; rfl
    have h1' : (bs.length : Int) ≤ b := by omega
    go_enter Tryz.func27, Tryz.ntmps27
    go_wp2_with fail
    go_ret
    exact ⟨ret_b HV.out.symm, hm⟩
  by_cases h2 : 0 ≤ p
  case neg =>
    have HV : Hid (thereB bs b p = false) := by show _ = _; unfold thereB; rw [decide_eq_false h2, Bool.and_false]; rfl
    have h2' : p < 0 := by omega
    go_enter Tryz.func27, Tryz.ntmps27
    go_wp2_with fail
    go_ret
    exact ⟨ret_b HV.out.symm, hm⟩
  obtain ⟨i, rfl⟩ := Int.eq_ofNat_of_zero_le h0
  have hi : i < bs.length := by omega
  have HV : Hid (thereB bs i p = decide (p < bs[i].1.length)) := by
    show _ = _
    unfold thereB
    rw [decide_eq_true h0, decide_eq_true h1, decide_eq_true h2]
    simp [hi]
  obtain ⟨g, off', op, cp, rfl, _, c0, _⟩ := hb'.at hi
  generalize bs[i].1.length = n at *
  go_enter Tryz.func27, Tryz.ntmps27
  go_wp2_with fail
  go_ret
  exact ⟨ret_b HV.out.symm, hm⟩
end Go.Proofs.YtedopplldpcinaaGreat.Nand
/-
  Rows of pages and of blocks that a call owns: their cells, what is set in them, one more onto them.
-/
namespace Go.Proofs.YtedopplldpcinaaGreat.Nand
open Go.RowKit

/-! ### The cells of rows -/
def pageCells : List PageT → List Value
  | [] => []
  | p :: ps => .bool p.1 :: .string p.2.1 :: .string p.2.2 :: pageCells ps
theorem pageCells_length (ps : List PageT) : (pageCells ps).length = ps.length * 3 := by
  induction ps with
  | nil => rfl
  | cons p ps ih => simp only [pageCells, List.length_cons, ih]; omega
theorem pageCells_get {ps : List PageT} {i : Nat} (h : i < ps.length) :
    (pageCells ps)[i * 3]? = some (.bool ps[i].1) ∧ (pageCells ps)[i * 3 + 1]? = some (.string ps[i].2.1) ∧ (pageCells ps)[i * 3 + 2]? = some (.string ps[i].2.2) := by
  induction ps generalizing i with
  | nil => simp at h
  | cons p ps ih =>
    cases i with
    | zero => exact ⟨rfl, rfl, rfl⟩
    | succ i =>
      have h' : i < ps.length := by simpa using h
      obtain ⟨h0, h1, h2⟩ := ih h'
      have e : ∀ k, (pageCells (p :: ps))[(i + 1) * 3 + k]? = (pageCells ps)[i * 3 + k]? := by
        intro k
        rw [show (i + 1) * 3 + k = i * 3 + k + 1 + 1 + 1 by omega]
        simp only [pageCells, List.getElem?_cons_succ]
      refine ⟨?_, ?_, ?_⟩
      · have := e 0; simp only [Nat.add_zero] at this; rw [this, h0]; simp
      · rw [e 1, h1]; simp
      · rw [e 2, h2]; simp
theorem pageCells_one : ∀ ps : List PageT, ∀ u ∈ pageCells ps, u.oneCell' = true
  | [], u, hu => by simp [pageCells] at hu
  | p :: ps, u, hu => by
    simp only [pageCells, List.mem_cons] at hu
    rcases hu with rfl | rfl | rfl | hu
    · rfl
    · rfl
    · rfl
    · exact pageCells_one ps u hu
def blockCells : List Value → List BlockT → List Value
  | v :: vs, b :: bs => v :: .int .i64 b.2.1 :: .int .i64 b.2.2.1 :: .bool b.2.2.2 :: blockCells vs bs
  | _, _ => []
theorem blockCells_snoc {vs : List Value} {bs : List BlockT} (h : vs.length = bs.length) (v : Value) (b : BlockT) :
    blockCells (vs ++ [v]) (bs ++ [b]) = blockCells vs bs ++ [v, .int .i64 b.2.1, .int .i64 b.2.2.1, .bool b.2.2.2] := by
  induction vs generalizing bs with
  | nil =>
    have : bs = [] := List.length_eq_zero_iff.1 h.symm
    subst this; rfl
  | cons x vs ih =>
    cases bs with
    | nil => simp at h
    | cons y bs => simp only [List.cons_append, blockCells]; rw [ih (by simpa using h)]
theorem blockCells_get {vs : List Value} {bs : List BlockT} (h : vs.length = bs.length) {i : Nat} (hi : i < bs.length) :
    (blockCells vs bs)[i * 4]? = some (vs[i]'(by omega)) ∧ (blockCells vs bs)[i * 4 + 1]? = some (.int .i64 bs[i].2.1) ∧ (blockCells vs bs)[i * 4 + 2]? = some (.int .i64 bs[i].2.2.1) ∧ (blockCells vs bs)[i * 4 + 3]? = some (.bool bs[i].2.2.2) := by
  induction vs generalizing bs i with
  | nil => simp at h; omega
  | cons x vs ih =>
    cases bs with
    | nil => simp at h
    | cons y bs =>
      cases i with
      | zero => exact ⟨rfl, rfl, rfl, rfl⟩
      | succ i =>
        obtain ⟨h0, h1, h2, h3⟩ := ih (bs := bs) (by simpa using h) (i := i) (by simpa using hi)
        have e : ∀ k, (blockCells (x :: vs) (y :: bs))[(i + 1) * 4 + k]? = (blockCells vs bs)[i * 4 + k]? := by
          intro k
          rw [show (i + 1) * 4 + k = i * 4 + k + 1 + 1 + 1 + 1 by omega]
          simp only [blockCells, List.getElem?_cons_succ]
        refine ⟨?_, ?_, ?_, ?_⟩
        · have := e 0; simp only [Nat.add_zero] at this; rw [this, h0]; simp
        · rw [e 1, h1]; simp
        · rw [e 2, h2]; simp
        · rw [e 3, h3]; simp
theorem PagesAt.cells {S : Nat → Prop} {w : World} {ad : Addr} {n cap : Nat} {ps : List PageT} (h : PagesAt S w (.slice (some ad) n cap) ps) : ∀ j u, (pageCells ps)[j]? = some u → w.cell? (ad.add j) = some u := by
  intro j u hj
  have hjl : j < ps.length * 3 := by
    have := (List.getElem?_eq_some_iff.1 hj).1
    rwa [pageCells_length] at this
  have hi : j / 3 < ps.length := by omega
  obtain ⟨g, off, ha, _, c0, c1, c2⟩ := h.at hi
  injection ha with ha
  subst ha
  obtain ⟨g0, g1, g2⟩ := pageCells_get hi
  have hr : j % 3 = 0 ∨ j % 3 = 1 ∨ j % 3 = 2 := by omega
  rcases hr with hr | hr | hr
  · have e : j = j / 3 * 3 := by omega
    rw [e, g0] at hj
    rw [e, add_none, c0]; exact hj
  · have e : j = j / 3 * 3 + 1 := by omega
    rw [e, g1] at hj
    rw [e, add_none, ← Nat.add_assoc, c1]; exact hj
  · have e : j = j / 3 * 3 + 2 := by omega
    rw [e, g2] at hj
    rw [e, add_none, ← Nat.add_assoc, c2]; exact hj

/-- nothing of the block is frozen -/
def Soft (w : World) (x : Nat) : Prop := ∀ off, w.frozen? ⟨x, off, none⟩ = false
theorem Soft.mem {w w' : World} {x : Nat} (h : Soft w x) (m : Mem w w') (hx : x < w.heap.size) : Soft w' x := fun off => by
  rw [Below.frozen m (p := ⟨x, off, none⟩) hx]; exact h off
theorem Soft.setCell {w : World} {x : Nat} (h : Soft w x) (p : Addr) (v : Value) : Soft (w.setCell p v) x := fun off => by
  rw [World.frozen?_setCell]; exact h off
theorem Soft.of_owns {w : World} {base : Nat} {e : TypeId} {size : Nat} {v : Value} {n : Nat} {xs : List Value} (h : w.ownsRow base e size v n xs) {x : Nat} (hx : v.ownBlock = some x) : Soft w x := by
  rcases h.2 with ⟨rfl, _⟩ | ⟨g, cap, cur, rfl, _, hg, _⟩
  · simp [Value.ownBlock] at hx
  · simp [Value.ownBlock] at hx
    subst hx
    intro off
    simp [World.frozen?, hg]
theorem Soft.grown {w w' : World} {row : Option Nat} {x : Nat} (h : Soft w x) (hg : w.grownBy w' row) (hx : x < w.heap.size) (hne : row ≠ some x) : Soft w' x := fun off => by
  rw [World.frozen?_of_block (w := w) (a := ⟨x, off, none⟩) (hg.block x hx (fun e => hne e.symm))]; exact h off
theorem PagesAt.grown {S : Nat → Prop} {w w' : World} {row : Option Nat} {v : Value} {ps : List PageT} (h : PagesAt S w v ps) (hg : w.grownBy w' row) (hne : ∀ x, S x → row ≠ some x) : PagesAt S w' v ps :=
  h.kept fun g hS hl => ⟨hS, fun off => World.cell?_of_block (w := w) (a := ⟨g, off, none⟩) (hg.block g hl (fun e => hne g hS e.symm))⟩
/-- a row of pages that the call owns -/
theorem PagesAt.of_owns {w : World} {base : Nat} {v : Value} {ps : List PageT} (h : w.ownsRow base 33 3 v ps.length (pageCells ps)) : PagesAt (fun x => v.ownBlock = some x) w v ps := by
  rcases h.2 with ⟨rfl, h0⟩ | ⟨g, cap, cur, rfl, hb, hh, hlc, hcm, hcs, ht⟩
  · have : ps = [] := List.length_eq_zero_iff.1 h0
    subst this
    exact ⟨by simp [maxLen], .inl ⟨rfl, _, _, rfl⟩⟩
  · refine ⟨by omega, ?_⟩
    by_cases h0 : ps.length = 0
    · have : ps = [] := List.length_eq_zero_iff.1 h0
      subst this
      exact .inl ⟨rfl, _, _, rfl⟩
    · refine .inr ⟨g, 0, cap, rfl, ⟨by omega, hlc⟩, rfl, fun i hi => ?_⟩
      obtain ⟨g0, g1, g2⟩ := pageCells_get hi
      have hc := h.cells (g := g) rfl
      have d0 := hc _ _ g0
      have d1 := hc _ _ g1
      have d2 := hc _ _ g2
      rw [add_none] at d0 d1 d2
      exact ⟨d0, by rw [Nat.add_assoc]; exact d1, by rw [Nat.add_assoc]; exact d2⟩

/-! ### A row of blocks that the call owns, at g; R i: where the pages of number i lie -/
def RowsAt (w : World) (g : Nat) (R : Nat → Nat → Prop) (bs : List BlockT) : Prop :=
  g < w.heap.size ∧ Soft w g ∧ (∀ i x, R i x → x ≠ g) ∧
    ∀ i (h : i < bs.length), ∃ op cp, w.cell? ⟨g, i * 4, none⟩ = some (.slice op bs[i].1.length cp) ∧ w.cell? ⟨g, i * 4 + 1, none⟩ = some (.int .i64 bs[i].2.1) ∧ w.cell? ⟨g, i * 4 + 2, none⟩ = some (.int .i64 bs[i].2.2.1) ∧ w.cell? ⟨g, i * 4 + 3, none⟩ = some (.bool bs[i].2.2.2) ∧ PagesAt (R i) w (.slice op bs[i].1.length cp) bs[i].1
theorem RowsAt.mem {w w' : World} {g : Nat} {R : Nat → Nat → Prop} {bs : List BlockT} (h : RowsAt w g R bs) (m : Mem w w') : RowsAt w' g R bs := by
  obtain ⟨h0, h1, h2, h3⟩ := h
  refine ⟨Nat.lt_of_lt_of_le h0 m.size, h1.mem m h0, h2, fun i hi => ?_⟩
  obtain ⟨op, cp, c0, c1, c2, c3, c4⟩ := h3 i hi
  exact ⟨op, cp, by rw [Below.cell m (p := ⟨g, i * 4, none⟩) h0]; exact c0, by rw [Below.cell m (p := ⟨g, i * 4 + 1, none⟩) h0]; exact c1, by rw [Below.cell m (p := ⟨g, i * 4 + 2, none⟩) h0]; exact c2, by rw [Below.cell m (p := ⟨g, i * 4 + 3, none⟩) h0]; exact c3, c4.mem m⟩
/-- a cell elsewhere is set -/
theorem RowsAt.other {w : World} {g : Nat} {R : Nat → Nat → Prop} {bs : List BlockT} (h : RowsAt w g R bs) {p : Addr} (hg : p.block ≠ g) (hR : ∀ i, ¬ R i p.block) (x : Value) : RowsAt (w.setCell p x) g R bs := by
  obtain ⟨h0, h1, h2, h3⟩ := h
  have e : ∀ off, (w.setCell p x).cell? ⟨g, off, none⟩ = w.cell? ⟨g, off, none⟩ := fun off => World.cell?_of_block (w := w) (a := ⟨g, off, none⟩) (Below.heap_setCell w p x g (fun e => hg e.symm))
  refine ⟨by rw [size_setCell]; exact h0, h1.setCell _ _, h2, fun i hi => ?_⟩
  obtain ⟨op, cp, c0, c1, c2, c3, c4⟩ := h3 i hi
  exact ⟨op, cp, by rw [e]; exact c0, by rw [e]; exact c1, by rw [e]; exact c2, by rw [e]; exact c3, c4.setCell (hR i) x⟩
/-- as blocks that are read -/
theorem RowsAt.blocks {w : World} {g : Nat} {R : Nat → Nat → Prop} {bs : List BlockT} (h : RowsAt w g R bs) {S : Nat → Prop} (hg : S g) (hR : ∀ i x, R i x → S x) (hl : bs.length ≤ maxLen) (cap : Nat) (hc : bs.length ≤ cap) : BlocksAt S w (.slice (some ⟨g, 0, none⟩) bs.length cap) bs := by
  refine ⟨hl, ?_⟩
  by_cases h0 : bs.length = 0
  · have : bs = [] := List.length_eq_zero_iff.1 h0
    subst this
    exact .inl ⟨rfl, _, _, rfl⟩
  · refine .inr ⟨g, 0, cap, rfl, ⟨by omega, hc⟩, hg, fun i hi => ?_⟩
    obtain ⟨op, cp, c0, c1, c2, c3, c4⟩ := h.2.2.2 i hi
    exact ⟨_, by rw [Nat.zero_add]; exact c0, by rw [Nat.zero_add]; exact c1, by rw [Nat.zero_add]; exact c2, by rw [Nat.zero_add]; exact c3, c4.mono fun x hx _ => hR i x hx⟩
theorem cell_near {w : World} {g a b : Nat} {x u : Value} (h : w.cell? ⟨g, b, none⟩ = some u) : (w.setCell ⟨g, a, none⟩ x).cell? ⟨g, b, none⟩ = some (if a = b then x else u) := by
  by_cases e : a = b
  · subst e; rw [if_pos rfl]; exact World.cell?_setCell_same _ _ _ h
  · rw [if_neg e, World.cell?_setCell_other (w := w) (a := ⟨g, a, none⟩) (b := ⟨g, b, none⟩) (h := by intro he; injection he with h1 h2; exact e h2)]; exact h
/-- a number or a mark of block i is set: k = 1 Next, 2 Erases, 3 Bad -/
theorem RowsAt.field {w : World} {g : Nat} {R : Nat → Nat → Prop} {bs : List BlockT} (h : RowsAt w g R bs) {i : Nat} (hi : i < bs.length) (b : BlockT) (hb : b.1 = bs[i].1) (k : Nat) (x : Value)
    (hk : (k = 1 ∧ x = .int .i64 b.2.1 ∧ b.2.2.1 = bs[i].2.2.1 ∧ b.2.2.2 = bs[i].2.2.2) ∨ (k = 2 ∧ x = .int .i64 b.2.2.1 ∧ b.2.1 = bs[i].2.1 ∧ b.2.2.2 = bs[i].2.2.2) ∨ (k = 3 ∧ x = .bool b.2.2.2 ∧ b.2.1 = bs[i].2.1 ∧ b.2.2.1 = bs[i].2.2.1)) :
    RowsAt (w.setCell ⟨g, i * 4 + k, none⟩ x) g R (bs.set i b) := by
  obtain ⟨h0, h1, h2, h3⟩ := h
  refine ⟨by rw [size_setCell]; exact h0, h1.setCell _ _, h2, fun j hj => ?_⟩
  have hj' : j < bs.length := by simpa using hj
  obtain ⟨op, cp, c0, c1, c2, c3, c4⟩ := h3 j hj'
  have hp := c4.setCell (p := ⟨g, i * 4 + k, none⟩) (fun e => h2 j g e rfl) x
  by_cases e : i = j
  · subst e
    have e1 : (bs.set i b)[i]'hj = b := by simp
    rw [e1, hb]
    obtain ⟨bp, bn, be, bb⟩ := b
    simp only [] at hk
    have q1 := cell_near (x := x) (a := i * 4 + k) c0
    have q2 := cell_near (x := x) (a := i * 4 + k) c1
    have q3 := cell_near (x := x) (a := i * 4 + k) c2
    have q4 := cell_near (x := x) (a := i * 4 + k) c3
    refine ⟨op, cp, ?_, ?_, ?_, ?_, hp⟩ <;> rcases hk with ⟨rfl, rfl, hk⟩ | ⟨rfl, rfl, hk⟩ | ⟨rfl, rfl, hk⟩ <;> simp_all
  · have e1 : (bs.set i b)[j]'hj = bs[j] := by simp [e]
    rw [e1]
    have hk3 : k = 1 ∨ k = 2 ∨ k = 3 := by rcases hk with ⟨h, _⟩ | ⟨h, _⟩ | ⟨h, _⟩ <;> omega
    refine ⟨op, cp, ?_, ?_, ?_, ?_, hp⟩
    · rw [cell_near c0, if_neg (by omega)]
    · rw [cell_near c1, if_neg (by omega)]
    · rw [cell_near c2, if_neg (by omega)]
    · rw [cell_near c3, if_neg (by omega)]
/-- a page is set, three cells from o on -/
def set3 (w : World) (x o : Nat) (pg : PageT) : World := ((w.setCell ⟨x, o, none⟩ (.bool pg.1)).setCell ⟨x, o + 1, none⟩ (.string pg.2.1)).setCell ⟨x, o + 2, none⟩ (.string pg.2.2)
theorem set3_size (w : World) (x o : Nat) (pg : PageT) : (set3 w x o pg).heap.size = w.heap.size := by unfold set3; rw [size_setCell, size_setCell, size_setCell]
theorem set3_far (w : World) (x o : Nat) (pg : PageT) {g : Nat} (hg : g ≠ x) (off : Nat) : (set3 w x o pg).cell? ⟨g, off, none⟩ = w.cell? ⟨g, off, none⟩ := by
  refine World.cell?_of_block (w := w) (a := ⟨g, off, none⟩) ?_
  unfold set3
  rw [Below.heap_setCell _ _ _ g hg, Below.heap_setCell _ _ _ g hg, Below.heap_setCell _ _ _ g hg]
theorem set3_near {w : World} {x o b : Nat} {pg : PageT} {u : Value} (h : w.cell? ⟨x, b, none⟩ = some u) :
    (set3 w x o pg).cell? ⟨x, b, none⟩ = some (if o + 2 = b then .string pg.2.2 else if o + 1 = b then .string pg.2.1 else if o = b then .bool pg.1 else u) := by
  unfold set3
  exact cell_near (cell_near (cell_near h))
theorem Soft.set3 {w : World} {x : Nat} (h : Soft w x) (y o : Nat) (pg : PageT) : Soft (set3 w y o pg) x := by
  unfold Nand.set3; exact ((h.setCell _ _).setCell _ _).setCell _ _
theorem Mem.set3 {w w' : World} (h : Mem w w') {x : Nat} (hx : w.heap.size ≤ x) (o : Nat) (pg : PageT) : Mem w (set3 w' x o pg) := by
  unfold Nand.set3
  exact ((h.setCell (p := ⟨x, o, none⟩) hx _).setCell (p := ⟨x, o + 1, none⟩) hx _).setCell (p := ⟨x, o + 2, none⟩) hx _
theorem PagesAt.set3_far {S : Nat → Prop} {w : World} {v : Value} {ps : List PageT} (h : PagesAt S w v ps) {x : Nat} (hx : ¬ S x) (o : Nat) (pg : PageT) : PagesAt S (set3 w x o pg) v ps :=
  h.kept fun _ hg _ => ⟨hg, fun off => Nand.set3_far w x o pg (fun e => hx (e ▸ hg)) off⟩
theorem PagesAt.set3 {S : Nat → Prop} {w : World} {x off n cap : Nat} {ps : List PageT} (h : PagesAt S w (.slice (some ⟨x, off, none⟩) n cap) ps) {p : Nat} (hp : p < ps.length) (pg : PageT) : PagesAt S (set3 w x (off + p * 3) pg) (.slice (some ⟨x, off, none⟩) n cap) (ps.set p pg) := by
  have hn : n = ps.length := by
    obtain ⟨oa, c, e⟩ := h.shape
    injection e with _ e
  subst hn
  have hsx : S x := by
    obtain ⟨_, _, e, hs, _⟩ := h.at hp
    injection e with e
    injection e with e
    subst e; exact hs
  refine ⟨by simpa using h.1, .inr ⟨x, off, cap, by simp, ⟨by simp; omega, by simpa using h.cap⟩, hsx, fun i hi => ?_⟩⟩
  have hi' : i < ps.length := by simpa using hi
  obtain ⟨_, _, e, _, c0, c1, c2⟩ := h.at hi'
  injection e with e
  injection e with e1 e2
  subst e1; subst e2
  rw [set3_near c0, set3_near c1, set3_near c2]
  by_cases he : p = i
  · subst he
    rw [show (ps.set p pg)[p]'hi = pg from by simp]
    refine ⟨?_, ?_, ?_⟩
    · rw [if_neg (by omega), if_neg (by omega), if_pos rfl]
    · rw [if_neg (by omega), if_pos rfl]
    · rw [if_pos rfl]
  · rw [show (ps.set p pg)[i]'hi = ps[i] from by simp [he]]
    refine ⟨?_, ?_, ?_⟩ <;> rw [if_neg (by omega), if_neg (by omega), if_neg (by omega)]
/-- a page of block i is set -/
theorem RowsAt.page {w : World} {g : Nat} {R : Nat → Nat → Prop} {bs : List BlockT} (h : RowsAt w g R bs) {i : Nat} (hi : i < bs.length) {x off n cp : Nat} (hc : w.cell? ⟨g, i * 4, none⟩ = some (.slice (some ⟨x, off, none⟩) n cp)) (hx : R i x) (hR : ∀ j, R j x → j = i) {p : Nat} (hp : p < bs[i].1.length) (pg : PageT) :
    RowsAt (set3 w x (off + p * 3) pg) g R (bs.set i (bs[i].1.set p pg, bs[i].2)) := by
  obtain ⟨h0, h1, h2, h3⟩ := h
  have hxg := h2 i x hx
  refine ⟨by rw [set3_size]; exact h0, h1.set3 _ _ _, h2, fun j hj => ?_⟩
  have hj' : j < bs.length := by simpa using hj
  obtain ⟨op, cp', c0, c1, c2, c3, c4⟩ := h3 j hj'
  have q0 := (set3_far w x (off + p * 3) pg (fun e => hxg e.symm) (j * 4)).trans c0
  have q1 := (set3_far w x (off + p * 3) pg (fun e => hxg e.symm) (j * 4 + 1)).trans c1
  have q2 := (set3_far w x (off + p * 3) pg (fun e => hxg e.symm) (j * 4 + 2)).trans c2
  have q3 := (set3_far w x (off + p * 3) pg (fun e => hxg e.symm) (j * 4 + 3)).trans c3
  by_cases e : i = j
  · subst e
    rw [hc] at c0
    injection c0 with c0
    injection c0 with e1 e2 e3
    subst e1; subst e2; subst e3
    have e1 : (bs.set i (bs[i].1.set p pg, bs[i].2))[i]'hj = (bs[i].1.set p pg, bs[i].2) := by simp
    rw [e1]
    refine ⟨some ⟨x, off, none⟩, cp, ?_, q1, q2, q3, ?_⟩
    · simpa using q0
    · have := c4.set3 hp pg
      simpa using this
  · have e1 : (bs.set i (bs[i].1.set p pg, bs[i].2))[j]'hj = bs[j] := by simp [e]
    rw [e1]
    exact ⟨op, cp', q0, q1, q2, q3, c4.set3_far (fun hr => e (hR j hr).symm) _ _⟩

/-! ### One more onto a row -/
theorem info_page3 : (Tryz.prog.info? 33).map (fun i => (i.zero, i.size, i.bytes)) = some (some (.agg #[.bool false, .string ⟨#[]⟩, .string ⟨#[]⟩]), 3, 40) := by kernel_rfl
theorem info_block4 : (Tryz.prog.info? 31).map (fun i => (i.zero, i.size, i.bytes)) = some (some (.agg #[.slice none 0 0, .int .i64 0, .int .i64 0, .bool false]), 4, 48) := by kernel_rfl
/-- pages behind no pages: a row of its own -/
theorem copyPages {ops : Array Oper} {rest : List Oper} {o : Oper} {a : Act} {Q : Exit → Act → World → Prop} {w : World} (hgd : o.guard = none) (s x : Operand)
    (ho : o.op = .call { callee := .builtin .append, args := #[s, x], argTypes := #[29, 29] })
    (hs : a.eval s = .slice none 0 0) {S : Nat → Prop} {ad : Addr} {cap : Nat} {ps : List PageT} (hx : a.eval x = .slice (some ad) ps.length cap) (hp : PagesAt S w (.slice (some ad) ps.length cap) ps) (hlen : ps.length ≤ 1000)
    (h : ∀ v' w', w'.ownsRow w.heap.size 33 3 v' ps.length (pageCells ps) → Mem w w' → wpList Tryz.prog ops Q rest (a.put o.dst v') w') :
    wpList Tryz.prog ops Q (o :: rest) a w := by
  obtain ⟨i0, hi, hz0, hz1, hz2⟩ := info_parts info_page3
  refine wpList_append_own_at _ hgd s x 29 ho w.heap.size 33 i0 _ 3 40 Tryz.underlying29 hi hz0 hz1 hz2 rfl (by decide) (.slice none 0 0) 0 [] hs (World.ownsRow_nil _ _ _ _) ad ps.length cap (pageCells ps) hx (pageCells_length ps) hp.cells (pageCells_one ps) (by unfold maxLen; omega) (by omega) (Nat.le_refl _) ?_
  intro v' w' h1 h2 _ _
  rw [Nat.zero_add, List.nil_append] at h1
  exact h v' w' h1 ((Below.refl _ w).grown h2 (Nat.le_refl _) (fun k hk => by simp [Value.ownBlock] at hk))
/-- a block more behind a row of blocks -/
theorem pushBlock {ops : Array Oper} {rest : List Oper} {o : Oper} {a : Act} {Q : Exit → Act → World → Prop} {w : World} (hgd : o.guard = none) (s x : Operand)
    (ho : o.op = .call { callee := .builtin .append, args := #[s, x], argTypes := #[22, 22] })
    (base : Nat) (v : Value) (vs : List Value) (bs : List BlockT) (hvs : vs.length = bs.length) (n : Nat) (hs : a.eval s = v) (hown : w.ownsRow base 31 4 v n (blockCells vs bs)) (hbase : base ≤ w.heap.size)
    (op : Option Addr) (np cp : Nat) (b : BlockT) (B : Nat) (hB : B = w.heap.size) (hx : a.eval x = .slice (some ⟨B, 0, none⟩) 1 1) (hlen : n ≤ 1000)
    (h : ∀ v' w', w'.ownsRow base 31 4 v' (n + 1) (blockCells (vs ++ [.slice op np cp]) (bs ++ [b])) → w.grownBy w' v.ownBlock → (v'.ownBlock = v.ownBlock ∨ ∃ g, v'.ownBlock = some g ∧ w.heap.size ≤ g) → wpList Tryz.prog ops Q rest (a.put o.dst v') w') :
    wpList Tryz.prog ops Q (o :: rest) a (w.alloc (.cells #[.slice op np cp, .int .i64 b.2.1, .int .i64 b.2.2.1, .bool b.2.2.2] 31)) := by
  obtain ⟨i0, hi, hz0, hz1, hz2⟩ := info_parts info_block4
  subst hB
  refine wpList_append_own_at _ hgd s x 22 ho base 31 i0 _ 4 48 Tryz.underlying22 hi hz0 hz1 hz2 rfl (by decide) v n (blockCells vs bs) hs (hown.alloc _) ⟨w.heap.size, 0, none⟩ 1 1 [.slice op np cp, .int .i64 b.2.1, .int .i64 b.2.2.1, .bool b.2.2.2] hx rfl ?c1 ?c2 ?c3 ?c4 ?c5 ?_
  case c1 =>
    intro j u hj
    rw [add_none, World.cell?_alloc_mark, Nat.zero_add]
    simpa using hj
  case c2 => intro u hu; simp at hu; rcases hu with rfl | rfl | rfl | rfl <;> rfl
  case c3 => unfold maxLen; omega
  case c4 => omega
  case c5 => simp; omega
  intro v' w' h1 h2 _ h4
  refine h v' w' (by rw [blockCells_snoc hvs]; exact h1) ?_ ?_
  · exact ⟨h2.os, h2.tape, h2.output, Nat.le_trans (by simp) h2.size, fun k hk hne => (h2.block k (by simp; omega) hne).trans (Below.heap_alloc w _ k hk)⟩
  · rcases h4 with h4 | h4
    · exact .inl h4
    · exact .inr ⟨_, h4, by simp⟩

/-! ### Blocks all of which the call owns -/
def OwnB (base : Nat) (w : World) (v : Value) (bs : List BlockT) : Prop :=
  (bs = [] ∧ ∃ a cap, v = .slice a 0 cap) ∨
  ∃ g cap R, v = .slice (some ⟨g, 0, none⟩) bs.length cap ∧ bs.length ≤ cap ∧ base ≤ g ∧ RowsAt w g R bs ∧ (∀ i x, R i x → base ≤ x ∧ x < w.heap.size ∧ Soft w x) ∧ ∀ i j x, R i x → R j x → i = j
theorem OwnB.blocks {base : Nat} {w : World} {v : Value} {bs : List BlockT} (h : OwnB base w v bs) (hl : bs.length ≤ maxLen) : BlocksAt (fun x => base ≤ x) w v bs := by
  rcases h with ⟨rfl, a, cap, rfl⟩ | ⟨g, cap, R, rfl, hcap, hg, hr, hR, _⟩
  · exact ⟨hl, .inl ⟨rfl, _, _, rfl⟩⟩
  · exact hr.blocks hg (fun i x hx => (hR i x hx).1) hl cap hcap
theorem OwnB.base {b b' : Nat} {w : World} {v : Value} {bs : List BlockT} (h : OwnB b w v bs) (hb : b' ≤ b) : OwnB b' w v bs := by
  rcases h with h | ⟨g, cap, R, hv, hcap, hg, hr, hR, hi⟩
  · exact .inl h
  · exact .inr ⟨g, cap, R, hv, hcap, by omega, hr, fun i x hx => ⟨by have := (hR i x hx).1; omega, (hR i x hx).2⟩, hi⟩
theorem OwnB.setCell {b : Nat} {w : World} {v : Value} {bs : List BlockT} (h : OwnB b w v bs) {p : Addr} (hp : p.block < b) (x : Value) : OwnB b (w.setCell p x) v bs := by
  rcases h with h | ⟨g, cap, R, hv, hcap, hg, hr, hR, hi⟩
  · exact .inl h
  · exact .inr ⟨g, cap, R, hv, hcap, hg, hr.other (by omega) (fun i hx => by have := (hR i _ hx).1; omega) x, fun i y hy => ⟨(hR i y hy).1, by rw [size_setCell]; exact (hR i y hy).2.1, (hR i y hy).2.2.setCell _ _⟩, hi⟩
theorem OwnB.mem {b : Nat} {w w' : World} {v : Value} {bs : List BlockT} (h : OwnB b w v bs) (m : Mem w w') : OwnB b w' v bs := by
  rcases h with h | ⟨g, cap, R, hv, hcap, hg, hr, hR, hi⟩
  · exact .inl h
  · exact .inr ⟨g, cap, R, hv, hcap, hg, hr.mem m, fun i y hy => ⟨(hR i y hy).1, Nat.lt_of_lt_of_le (hR i y hy).2.1 m.size, (hR i y hy).2.2.mem m (hR i y hy).2.1⟩, hi⟩
theorem OwnB.shape {b : Nat} {w : World} {v : Value} {bs : List BlockT} (h : OwnB b w v bs) : ∃ oa cap, v = .slice oa bs.length cap := by
  rcases h with ⟨rfl, a, cap, rfl⟩ | ⟨g, cap, R, rfl, _⟩
  · exact ⟨a, cap, rfl⟩
  · exact ⟨_, cap, rfl⟩
/-- as far as the row has come -/
def OwningV (vs : List Value) (R : Nat → Nat → Prop) (bs : List BlockT) (base hi : Nat) (w : World) (l : Value) (k : Nat) : Prop :=
  vs.length = k ∧ hi ≤ w.heap.size ∧ base ≤ hi ∧ w.ownsRow base 31 4 l k (blockCells vs (bs.take k)) ∧
    (∀ i (_h : i < bs.length) (_h' : i < vs.length), PagesAt (R i) w vs[i] bs[i].1) ∧ (∀ i x, R i x → i < k ∧ base ≤ x ∧ x < hi ∧ Soft w x ∧ l.ownBlock ≠ some x) ∧ (∀ i j x, R i x → R j x → i = j) ∧ ∀ g, l.ownBlock = some g → g < hi
def Owning (bs : List BlockT) (base hi : Nat) (w : World) (l : Value) (k : Nat) : Prop := ∃ vs R, OwningV vs R bs base hi w l k
theorem Owning.start (bs : List BlockT) (w : World) : Owning bs w.heap.size w.heap.size w (.slice none 0 0) 0 :=
  ⟨[], fun _ _ => False, rfl, Nat.le_refl _, Nat.le_refl _, World.ownsRow_nil _ _ _ _, fun _ _ h => by simp at h, fun _ _ h => h.elim, fun _ _ _ h => h.elim, fun g h => by simp [Value.ownBlock] at h⟩
theorem OwningV.mem {vs : List Value} {R : Nat → Nat → Prop} {bs : List BlockT} {base hi : Nat} {w w' : World} {l : Value} {k : Nat} (h : OwningV vs R bs base hi w l k) (m : Mem w w') : OwningV vs R bs base hi w' l k := by
  obtain ⟨h1, h2, h2', h3, h4, h5, h6, h7⟩ := h
  exact ⟨h1, Nat.le_trans h2 m.size, h2', owns_below h3 m, fun i a b => (h4 i a b).mem m, fun i x hx => by
    obtain ⟨a, b, c, d, e⟩ := h5 i x hx
    exact ⟨a, b, c, d.mem m (by omega), e⟩, h6, h7⟩
theorem OwningV.push {vs : List Value} {R : Nat → Nat → Prop} {bs : List BlockT} {base hi : Nat} {w w' : World} {l l' vp : Value} {k : Nat} (h : OwningV vs R bs base hi w l k) (hk : k < bs.length) (hp : PagesAt (fun x => vp.ownBlock = some x) w vp bs[k].1)
    (hP : ∀ x, vp.ownBlock = some x → hi ≤ x ∧ x < w.heap.size ∧ Soft w x) (ho : w'.ownsRow base 31 4 l' (k + 1) (blockCells (vs ++ [vp]) (bs.take k ++ [bs[k]]))) (hg : w.grownBy w' l.ownBlock) {W : Nat} (hW : W = w.heap.size) (hl : l'.ownBlock = l.ownBlock ∨ ∃ g, l'.ownBlock = some g ∧ W ≤ g) :
    Owning bs base w'.heap.size w' l' (k + 1) := by
  obtain ⟨h1, h2, h2', h3, h4, h5, h6, h7⟩ := h
  subst hW
  have hlne : ∀ x, hi ≤ x → l.ownBlock ≠ some x := fun x hx e => by have := h7 x e; omega
  refine ⟨vs ++ [vp], fun i x => R i x ∨ (i = k ∧ vp.ownBlock = some x), by simp [h1], Nat.le_refl _, Nat.le_trans (Nat.le_trans h2' h2) hg.size, ?_, ?_, ?_, ?_, ?_⟩
  · rw [List.take_succ_eq_append_getElem hk]; exact ho
  · intro i hi1 hi2
    by_cases e : i < vs.length
    · rw [List.getElem_append_left e]
      exact ((h4 i hi1 e).grown hg (fun x hx => (h5 i x hx).2.2.2.2)).mono fun x hx _ => .inl hx
    · have : i = k := by simp at hi2; omega
      subst this
      rw [show (vs ++ [vp])[i]'hi2 = vp from by rw [List.getElem_append_right (by omega)]; simp]
      exact (hp.grown hg (fun x hx => hlne x (hP x hx).1)).mono fun x hx _ => .inr ⟨rfl, hx⟩
  · intro i x hx
    have hg' := hg.size
    rcases hx with hx | ⟨rfl, hx⟩
    · obtain ⟨a, b, c, d, e⟩ := h5 i x hx
      refine ⟨by omega, b, by omega, d.grown hg (by omega) e, ?_⟩
      rcases hl with hl | ⟨g, hl, hge⟩
      · rw [hl]; exact e
      · rw [hl]; intro e'; injection e' with e'; omega
    · obtain ⟨a, b, c⟩ := hP x hx
      refine ⟨by omega, by omega, by omega, c.grown hg b (hlne x a), ?_⟩
      rcases hl with hl | ⟨g, hl, hge⟩
      · rw [hl]; exact hlne x a
      · rw [hl]; intro e'; injection e' with e'; omega
  · intro i j x hx hy
    rcases hx with hx | ⟨rfl, hx⟩ <;> rcases hy with hy | ⟨rfl, hy⟩
    · exact h6 i j x hx hy
    · have := (h5 i x hx).2.2.1
      have := (hP x hy).1
      omega
    · have := (h5 j x hy).2.2.1
      have := (hP x hx).1
      omega
    · rfl
  · intro g hgg
    exact (ho.lt g hgg).2
theorem Owning.whole {bs : List BlockT} {base hi : Nat} {w : World} {l : Value} (h : Owning bs base hi w l bs.length) : OwnB base w l bs := by
  obtain ⟨vs, R, h1, h2, h2', h3, h4, h5, h6, h7⟩ := h
  by_cases h0 : bs.length = 0
  · have hb : bs = [] := List.length_eq_zero_iff.1 h0
    subst hb
    rcases h3.2 with ⟨rfl, _⟩ | ⟨g, cap, cur, rfl, _⟩
    · exact .inl ⟨rfl, _, _, rfl⟩
    · exact .inl ⟨rfl, _, _, rfl⟩
  · rcases id h3.2 with ⟨_, e⟩ | ⟨g, cap, cur, rfl, hb, hh, hlc, hcm, hcs, ht⟩
    · exact absurd e h0
    · rw [List.take_length] at h3
      have hc := h3.cells (g := g) rfl
      refine .inr ⟨g, cap, R, rfl, hlc, hb, ⟨(Array.getElem?_eq_some_iff.1 hh).1, Soft.of_owns h3 rfl, fun i x hx e => (h5 i x hx).2.2.2.2 (by rw [e]; rfl), fun i hi' => ?_⟩, fun i x hx => ⟨(h5 i x hx).2.1, Nat.lt_of_lt_of_le (h5 i x hx).2.2.1 h2, (h5 i x hx).2.2.2.1⟩, h6⟩
      obtain ⟨g0, g1, g2, g3⟩ := blockCells_get h1 hi'
      have d0 := hc _ _ g0
      have d1 := hc _ _ g1
      have d2 := hc _ _ g2
      have d3 := hc _ _ g3
      rw [add_none, Nat.zero_add] at d0 d1 d2 d3
      have hp := h4 i hi' (by omega)
      obtain ⟨op, cp, e⟩ := hp.shape
      rw [e] at d0 hp
      exact ⟨op, cp, d0, d1, d2, d3, hp⟩
end Go.Proofs.YtedopplldpcinaaGreat.Nand
/-
  Two rows of numbers that a call owns, each in a block of its own; one number more onto one of them.
-/
namespace Go.Proofs.YtedopplldpcinaaGreat
open Go.RowKit

/-- where the row lies behind an append -/
def Lies (w : World) (v v' : Value) : Prop := v'.ownBlock = v.ownBlock ∨ ∃ g, v'.ownBlock = some g ∧ w.heap.size ≤ g
theorem grown_alloc {w w' : World} {o : Obj} {row : Option Nat} (h : (w.alloc o).grownBy w' row) : w.grownBy w' row :=
  ⟨h.os, h.tape, h.output, Nat.le_trans (by simp) h.size, fun k hk hne => (h.block k (by simp; omega) hne).trans (Below.heap_alloc w o k hk)⟩
theorem grown_drew {w w' : World} {row : Option Nat} (h : w.drew.grownBy w' row) : w.grownBy w' row := ⟨h.os, h.tape, h.output, h.size, h.block⟩

/-- one number more, onto a slice of numbers that the call owns: no other row turns -/
theorem pushA {ops : Array Oper} {rest : List Oper} {o : Oper} {a : Act} {Q : Exit → Act → World → Prop} {w : World} (hgd : o.guard = none) (s x : Operand)
    (ho : o.op = .call { callee := .builtin .append, args := #[s, x], argTypes := #[25, 25] })
    (base : Nat) (v : Value) (l : List Int) (n : Nat) (hs : a.eval s = v) (hown : w.ownsRow base 3 1 v n (icells l)) (hbase : base ≤ w.heap.size)
    (z : Int) (hx : a.eval x = .slice (some ⟨w.heap.size, 0, none⟩) 1 1) (hlen : (n + 1) * 8 ≤ 140737488355328)
    (h : ∀ v' w', w'.ownsRow base 3 1 v' (n + 1) (icells (l ++ [z])) → w.grownBy w' v.ownBlock → Lies w v v' → wpList Tryz.prog ops Q rest (a.put o.dst v') w') :
    wpList Tryz.prog ops Q (o :: rest) a (w.alloc (.cells #[.int .i64 z] 3)) := by
  obtain ⟨i0, hi, hz0, hz1, hz2⟩ := info_parts info_int
  refine wpList_append_own_at _ hgd s x 25 ho base 3 i0 (.int .i64 0) 1 8 Tryz.underlying25 hi hz0 hz1 hz2 rfl (by decide) v n (icells l) hs (hown.alloc _) ⟨w.heap.size, 0, none⟩ 1 1 (icells [z]) hx rfl ?c1 ?c2 ?c3 ?c4 ?c5 ?_
  case c1 =>
    intro j u hj
    match j, hj with
    | 0, hj => simp [icells] at hj; subst hj; simp [Addr.add]
    | j + 1, hj => simp [icells] at hj
  case c2 => intro u hu; simp [icells] at hu; subst hu; rfl
  case c3 => unfold maxLen; omega
  case c4 => exact hlen
  case c5 => simp; omega
  intro v' w' h1 h2 _ h4
  refine h v' w' (by rw [icells_append]; exact h1) (grown_alloc h2) ?_
  rcases h4 with h4 | h4
  · exact .inl h4
  · exact .inr ⟨_, h4, by simp⟩
/-- the same as a step of a region that draws -/
theorem step_pushA {ops : Array Oper} {o : Oper} {a : Act} {K : Act → World → Prop} {Q : Exit → Act → World → Prop} {E : Prop} {w : World} (hgd : o.guard = none) (s x : Operand)
    (ho : o.op = .call { callee := .builtin .append, args := #[s, x], argTypes := #[25, 25] })
    (base : Nat) (v : Value) (l : List Int) (n : Nat) (hs : a.eval s = v) (hown : w.ownsRow base 3 1 v n (icells l)) (hbase : base ≤ w.heap.size)
    (z : Int) (hx : a.eval x = .slice (some ⟨w.heap.size, 0, none⟩) 1 1) (hlen : (n + 1) * 8 ≤ 140737488355328)
    (h : ∀ v' w', w'.ownsRow base 3 1 v' (n + 1) (icells (l ++ [z])) → w.grownBy w' v.ownBlock → Lies w v v' → K (a.put o.dst v') w') :
    if Region.wanted o (yielded ops a.tmps) = true then Oper.wp Tryz.prog o a (w.alloc (.cells #[.int .i64 z] 3)) K Q else E := by
  obtain ⟨i0, hi, hz0, hz1, hz2⟩ := info_parts info_int
  have hw : Region.wanted o (yielded ops a.tmps) = true := by simp [Region.wanted, hgd]
  rw [if_pos hw]
  obtain ⟨v', w', hr, h2, h3, _, h5⟩ := run_append_own_at (P := Tryz.prog) (w.alloc (.cells #[.int .i64 z] 3)) base 25 o.type 3 i0 (.int .i64 0) 1 8 Tryz.underlying25 hi hz0 hz1 hz2 rfl (by decide) v n (icells l) (hown.alloc _) ⟨w.heap.size, 0, none⟩ 1 1 (icells [z]) rfl
    (by
      intro j u hj
      match j, hj with
      | 0, hj => simp [icells] at hj; subst hj; simp [Addr.add]
      | j + 1, hj => simp [icells] at hj)
    (by intro u hu; simp [icells] at hu; subst hu; rfl) (by unfold maxLen; omega) hlen (by show base ≤ (w.heap.push _).size; simp; omega)
  unfold Oper.wp execOp
  simp only [ho, resolve, invoke, builtin, Sem.run_bind, Sem.run_pure, Result.andThen_ok, List.map_toArray, List.map_cons, List.map_nil, hs, hx, hr]
  refine h v' w' (by rw [icells_append]; exact h2) (grown_alloc h3) ?_
  rcases h5 with h5 | h5
  · exact .inl h5
  · exact .inr ⟨_, h5, by show w.heap.size ≤ (w.heap.push _).size; simp⟩
/-- the same behind one draw -/
theorem step_pushA_drew {ops : Array Oper} {o : Oper} {a : Act} {K : Act → World → Prop} {Q : Exit → Act → World → Prop} {E : Prop} {w : World} (hgd : o.guard = none) (s x : Operand)
    (ho : o.op = .call { callee := .builtin .append, args := #[s, x], argTypes := #[25, 25] })
    (base : Nat) (v : Value) (l : List Int) (n : Nat) (hs : a.eval s = v) (hown : w.ownsRow base 3 1 v n (icells l)) (hbase : base ≤ w.heap.size)
    (z : Int) (hx : a.eval x = .slice (some ⟨w.heap.size, 0, none⟩) 1 1) (hlen : (n + 1) * 8 ≤ 140737488355328)
    (h : ∀ v' w', w'.ownsRow base 3 1 v' (n + 1) (icells (l ++ [z])) → w.grownBy w' v.ownBlock → Lies w v v' → K (a.put o.dst v') w') :
    if Region.wanted o (yielded ops a.tmps) = true then Oper.wp Tryz.prog o a (w.alloc (.cells #[.int .i64 z] 3)).drew K Q else E :=
  step_pushA (w := w.drew) hgd s x ho base v l n hs hown hbase z hx hlen (fun v' w' h1 h2 h3 => h v' w' h1 (grown_drew h2) h3)

/-- two rows, apart -/
def Two (w : World) (base : Nat) (vk : Value) (ks : List Int) (vv : Value) (vs : List Int) : Prop :=
  w.ownsRow base 3 1 vk ks.length (icells ks) ∧ w.ownsRow base 3 1 vv vs.length (icells vs) ∧ (vk.ownBlock = none ∨ vk.ownBlock ≠ vv.ownBlock)
theorem Two.nil (w : World) (base : Nat) : Two w base (.slice none 0 0) [] (.slice none 0 0) [] := ⟨World.ownsRow_nil _ _ _ _, World.ownsRow_nil _ _ _ _, .inl rfl⟩
theorem Two.symm {w : World} {base : Nat} {vk vv : Value} {ks vs : List Int} (h : Two w base vk ks vv vs) : Two w base vv vs vk ks := by
  refine ⟨h.2.1, h.1, ?_⟩
  by_cases hv : vv.ownBlock = none
  · exact .inl hv
  · refine .inr fun e => ?_
    rcases h.2.2 with h | h
    · exact hv (e.trans h)
    · exact h e.symm
theorem Two.mem {w w' : World} {base : Nat} {vk vv : Value} {ks vs : List Int} (h : Two w base vk ks vv vs) (m : Mem w w') : Two w' base vk ks vv vs := ⟨owns_below h.1 m, owns_below h.2.1 m, h.2.2⟩
theorem Two.setCell {w : World} {base : Nat} {vk vv : Value} {ks vs : List Int} (h : Two w base vk ks vv vs) {p : Addr} (hp : p.block < base) (x : Value) : Two (w.setCell p x) base vk ks vv vs :=
  ⟨ownsRow_setCell_below h.1 hp x, ownsRow_setCell_below h.2.1 hp x, h.2.2⟩
theorem Two.drew {w : World} {base : Nat} {vk vv : Value} {ks vs : List Int} (h : Two w base vk ks vv vs) : Two w.drew base vk ks vv vs := h
/-- behind an append onto the first -/
theorem Two.push {w w' : World} {base : Nat} {vk vk' vv : Value} {ks vs : List Int} {z : Int} (h : Two w base vk ks vv vs) (ho : w'.ownsRow base 3 1 vk' (ks.length + 1) (icells (ks ++ [z]))) (hg : w.grownBy w' vk.ownBlock) (hl : Lies w vk vk') :
    Two w' base vk' (ks ++ [z]) vv vs := by
  refine ⟨by rw [List.length_append]; exact ho, h.2.1.kept hg ?_, ?_⟩
  · by_cases hv : vv.ownBlock = none
    · exact .inl hv
    · refine .inr fun e => ?_
      rcases h.2.2 with h | h
      · exact hv (e.trans h)
      · exact h e.symm
  · rcases hl with hl | ⟨g, hl, hge⟩
    · rw [hl]; exact h.2.2
    · refine .inr fun e => ?_
      have hlt := (h.2.1.lt g (by rw [← e]; exact hl)).2
      omega
theorem Two.ints {w : World} {base : Nat} {vk vv : Value} {ks vs : List Int} (h : Two w base vk ks vv vs) : Ints .i64 w vk ks ∧ Ints .i64 w vv vs := ⟨Ints.of_owns h.1, Ints.of_owns h.2.1⟩
theorem grown_below {w w' : World} {base : Nat} {v : Value} {e : TypeId} {size n : Nat} {xs : List Value} (h : w.ownsRow base e size v n xs) (hg : w.grownBy w' v.ownBlock) (hb : base ≤ w.heap.size) : Below base w w' :=
  (Below.refl base w).grown hg hb (fun k hk => (h.lt k hk).1)
theorem owns_shape {w : World} {base : Nat} {e : TypeId} {size : Nat} {v : Value} {n : Nat} {xs : List Value} (h : w.ownsRow base e size v n xs) : ∃ oa cap, v = .slice oa n cap := by
  rcases h.2 with ⟨rfl, h0⟩ | ⟨g, cap, cur, rfl, _⟩
  · subst h0; exact ⟨_, _, rfl⟩
  · exact ⟨_, _, rfl⟩
end Go.Proofs.YtedopplldpcinaaGreat
/-
  Chips all of whose rows a call owns, in blocks of which S holds.
-/
namespace Go.Proofs.YtedopplldpcinaaGreat.Nand
open Go.RowKit

def OwnS (S : Nat → Prop) (w : World) (v : Value) (bs : List BlockT) : Prop :=
  bs.length ≤ maxLen ∧ ((bs = [] ∧ ∃ a cap, v = .slice a 0 cap) ∨
    ∃ g cap R, v = .slice (some ⟨g, 0, none⟩) bs.length cap ∧ bs.length ≤ cap ∧ S g ∧ RowsAt w g R bs ∧ (∀ i x, R i x → S x ∧ x < w.heap.size ∧ Soft w x) ∧ ∀ i j x, R i x → R j x → i = j)
theorem OwnB.owns {base : Nat} {w : World} {v : Value} {bs : List BlockT} (h : OwnB base w v bs) (hl : bs.length ≤ maxLen) : OwnS (fun x => base ≤ x) w v bs := ⟨hl, h⟩
theorem OwnS.to {S : Nat → Prop} {w : World} {v : Value} {bs : List BlockT} (h : OwnS S w v bs) : BlocksAt S w v bs := by
  obtain ⟨hl, h⟩ := h
  rcases h with ⟨rfl, a, cap, rfl⟩ | ⟨g, cap, R, rfl, hcap, hg, hr, hR, _⟩
  · exact ⟨hl, .inl ⟨rfl, _, _, rfl⟩⟩
  · exact hr.blocks hg (fun i x hx => (hR i x hx).1) hl cap hcap
theorem OwnS.mem {S : Nat → Prop} {w w' : World} {v : Value} {bs : List BlockT} (h : OwnS S w v bs) (m : Mem w w') : OwnS S w' v bs := by
  obtain ⟨hl, h⟩ := h
  refine ⟨hl, ?_⟩
  rcases h with h | ⟨g, cap, R, hv, hcap, hg, hr, hR, hi⟩
  · exact .inl h
  · exact .inr ⟨g, cap, R, hv, hcap, hg, hr.mem m, fun i y hy => ⟨(hR i y hy).1, Nat.lt_of_lt_of_le (hR i y hy).2.1 m.size, (hR i y hy).2.2.mem m (hR i y hy).2.1⟩, hi⟩
theorem OwnS.mono {S S' : Nat → Prop} {w : World} {v : Value} {bs : List BlockT} (h : OwnS S w v bs) (hS : ∀ g, S g → g < w.heap.size → S' g) : OwnS S' w v bs := by
  obtain ⟨hl, h⟩ := h
  refine ⟨hl, ?_⟩
  rcases h with h | ⟨g, cap, R, hv, hcap, hg, hr, hR, hi⟩
  · exact .inl h
  · exact .inr ⟨g, cap, R, hv, hcap, hS g hg hr.1, hr, fun i y hy => ⟨hS y (hR i y hy).1 (hR i y hy).2.1, (hR i y hy).2⟩, hi⟩
theorem OwnS.setCell {S : Nat → Prop} {w : World} {v : Value} {bs : List BlockT} (h : OwnS S w v bs) {p : Addr} (hp : ¬ S p.block) (x : Value) : OwnS S (w.setCell p x) v bs := by
  obtain ⟨hl, h⟩ := h
  refine ⟨hl, ?_⟩
  rcases h with h | ⟨g, cap, R, hv, hcap, hg, hr, hR, hi⟩
  · exact .inl h
  · exact .inr ⟨g, cap, R, hv, hcap, hg, hr.other (fun e => hp (e ▸ hg)) (fun i hx => hp (hR i _ hx).1) x, fun i y hy => ⟨(hR i y hy).1, by rw [size_setCell]; exact (hR i y hy).2.1, (hR i y hy).2.2.setCell _ _⟩, hi⟩
theorem OwnS.put4 {S : Nat → Prop} {w : World} {v : Value} {bs : List BlockT} (h : OwnS S w v bs) {b : Nat} (hb : ¬ S b) (x0 x1 x2 x3 : Value) :
    OwnS S ((((w.setCell ⟨b, 0, none⟩ x0).setCell ⟨b, 1, none⟩ x1).setCell ⟨b, 2, none⟩ x2).setCell ⟨b, 3, none⟩ x3) v bs :=
  (((h.setCell (p := ⟨b, 0, none⟩) hb x0).setCell (p := ⟨b, 1, none⟩) hb x1).setCell (p := ⟨b, 2, none⟩) hb x2).setCell (p := ⟨b, 3, none⟩) hb x3
theorem OwnS.shape {S : Nat → Prop} {w : World} {v : Value} {bs : List BlockT} (h : OwnS S w v bs) : ∃ oa cap, v = .slice oa bs.length cap := h.to.shape

/-- one page is written over: of a chip whose rows are owned -/
theorem OwnS.page {S : Nat → Prop} {w : World} {v : Value} {bs : List BlockT} (h : OwnS S w v bs) {i : Nat} {ps : List PageT} {nx er : Int} {bd : Bool} (hb : bs[i]? = some (ps, nx, er, bd)) {p : Nat} (hp : p < ps.length) :
    ∃ g n cap x off cp, v = .slice (some ⟨g, 0, none⟩) n cap ∧ n = bs.length ∧ w.cell? ⟨g, i * 4, none⟩ = some (.slice (some ⟨x, off, none⟩) ps.length cp) ∧
      (w.cell? ⟨x, off + p * 3, none⟩ = some (.bool ps[p].1) ∧ w.cell? ⟨x, off + p * 3 + 1, none⟩ = some (.string ps[p].2.1) ∧ w.cell? ⟨x, off + p * 3 + 2, none⟩ = some (.string ps[p].2.2)) ∧
      (S x ∧ Soft w x) ∧ ∀ pg, OwnS S (set3 w x (off + p * 3) pg) v (bs.set i (ps.set p pg, nx, er, bd)) := by
  obtain ⟨hl, h⟩ := h
  obtain ⟨hi, e⟩ := List.getElem?_eq_some_iff.1 hb
  rcases h with ⟨rfl, _⟩ | ⟨g, cap, R, hv, hcap, hg, hr, hR, hj⟩
  · simp at hi
  · obtain ⟨op, cp, c0, c1, c2, c3, c4⟩ := hr.2.2.2 i hi
    rw [e] at c0 c4
    obtain ⟨x, off, rfl, hx, q⟩ := c4.at hp
    refine ⟨g, bs.length, cap, x, off, cp, hv, rfl, c0, q, ⟨(hR i x hx).1, (hR i x hx).2.2⟩, fun pg => ?_⟩
    have hq := hr.page hi c0 hx (fun j hy => hj j i x hy hx) (p := p) (by rw [e]; exact hp) pg
    rw [e] at hq
    refine ⟨by rw [List.length_set]; exact hl, .inr ⟨g, cap, R, by rw [List.length_set]; exact hv, by rw [List.length_set]; exact hcap, hg, hq, fun i y hy => ⟨(hR i y hy).1, by rw [set3_size]; exact (hR i y hy).2.1, (hR i y hy).2.2.set3 _ _ _⟩, hj⟩⟩
end Go.Proofs.YtedopplldpcinaaGreat.Nand
