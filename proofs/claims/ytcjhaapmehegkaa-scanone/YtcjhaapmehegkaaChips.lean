/-
  Chips in memory: pages, blocks, chips, whose rows lie in blocks of which S holds.
-/
import Derived.Test.YtcjhaapmehegkaaBlocks
import Derived.Laws.ResultCell
import Derived.Laws.Rows
namespace Go.Proofs.Ytcjhaapmehegkaa.Nand
open Go.RowKit

abbrev PageT := Bool × ByteArray × ByteArray
/-- pages, Next, Erases, Bad -/
abbrev BlockT := List PageT × Int × Int × Bool
/-- blocks, Broken, Off, Ops -/
abbrev ChipT := List BlockT × Bool × Bool × Int

def PagesAt (S : Nat → Prop) (w : World) (v : Value) (ps : List PageT) : Prop :=
  ps.length ≤ maxLen ∧ ((ps = [] ∧ ∃ a cap, v = .slice a 0 cap) ∨
    ∃ g off cap, v = .slice (some ⟨g, off, none⟩) ps.length cap ∧ (0 < ps.length ∧ ps.length ≤ cap) ∧ S g ∧
      ∀ i (h : i < ps.length), w.cell? ⟨g, off + i * 3, none⟩ = some (.bool ps[i].1) ∧ w.cell? ⟨g, off + i * 3 + 1, none⟩ = some (.string ps[i].2.1) ∧ w.cell? ⟨g, off + i * 3 + 2, none⟩ = some (.string ps[i].2.2))
def BlocksAt (S : Nat → Prop) (w : World) (v : Value) (bs : List BlockT) : Prop :=
  bs.length ≤ maxLen ∧ ((bs = [] ∧ ∃ a cap, v = .slice a 0 cap) ∨
    ∃ g off cap, v = .slice (some ⟨g, off, none⟩) bs.length cap ∧ (0 < bs.length ∧ bs.length ≤ cap) ∧ S g ∧
      ∀ i (h : i < bs.length), ∃ vp, w.cell? ⟨g, off + i * 4, none⟩ = some vp ∧ w.cell? ⟨g, off + i * 4 + 1, none⟩ = some (.int .i64 bs[i].2.1) ∧ w.cell? ⟨g, off + i * 4 + 2, none⟩ = some (.int .i64 bs[i].2.2.1) ∧ w.cell? ⟨g, off + i * 4 + 3, none⟩ = some (.bool bs[i].2.2.2) ∧ PagesAt S w vp bs[i].1)

theorem add_none (g o j : Nat) : (⟨g, o, none⟩ : Addr).add j = ⟨g, o + j, none⟩ := by
  unfold Addr.add
  by_cases h : j = 0
  · subst h; simp
  · simp [h]
theorem PagesAt.kept {S S' : Nat → Prop} {w w' : World} {v : Value} {ps : List PageT} (h : PagesAt S w v ps) (hS : ∀ g, S g → g < w.heap.size → S' g ∧ ∀ off, w'.cell? ⟨g, off, none⟩ = w.cell? ⟨g, off, none⟩) : PagesAt S' w' v ps := by
  refine ⟨h.1, ?_⟩
  rcases h.2 with h | ⟨g, off, cap, hv, h0, hs, hc⟩
  · exact .inl h
  · have hg : g < w.heap.size := World.block_lt_of_cell? w _ (hc 0 h0.1).1
    obtain ⟨h1, h2⟩ := hS g hs hg
    refine .inr ⟨g, off, cap, hv, h0, h1, fun i hi => ?_⟩
    obtain ⟨c0, c1, c2⟩ := hc i hi
    exact ⟨by rw [h2]; exact c0, by rw [h2]; exact c1, by rw [h2]; exact c2⟩
theorem BlocksAt.kept {S S' : Nat → Prop} {w w' : World} {v : Value} {bs : List BlockT} (h : BlocksAt S w v bs) (hS : ∀ g, S g → g < w.heap.size → S' g ∧ ∀ off, w'.cell? ⟨g, off, none⟩ = w.cell? ⟨g, off, none⟩) : BlocksAt S' w' v bs := by
  refine ⟨h.1, ?_⟩
  rcases h.2 with h | ⟨g, off, cap, hv, h0, hs, hc⟩
  · exact .inl h
  · obtain ⟨vp, c0, _⟩ := hc 0 h0.1
    have hg : g < w.heap.size := World.block_lt_of_cell? w _ c0
    clear c0
    obtain ⟨h1, h2⟩ := hS g hs hg
    refine .inr ⟨g, off, cap, hv, h0, h1, fun i hi => ?_⟩
    obtain ⟨vp, c0, c1, c2, c3, c4⟩ := hc i hi
    exact ⟨vp, by rw [h2]; exact c0, by rw [h2]; exact c1, by rw [h2]; exact c2, by rw [h2]; exact c3, c4.kept hS⟩
theorem PagesAt.mem {S : Nat → Prop} {w w' : World} {v : Value} {ps : List PageT} (h : PagesAt S w v ps) (m : Mem w w') : PagesAt S w' v ps :=
  h.kept fun g hg hl => ⟨hg, fun off => Below.cell m (p := ⟨g, off, none⟩) hl⟩
theorem BlocksAt.mem {S : Nat → Prop} {w w' : World} {v : Value} {bs : List BlockT} (h : BlocksAt S w v bs) (m : Mem w w') : BlocksAt S w' v bs :=
  h.kept fun g hg hl => ⟨hg, fun off => Below.cell m (p := ⟨g, off, none⟩) hl⟩
theorem PagesAt.mono {S S' : Nat → Prop} {w : World} {v : Value} {ps : List PageT} (h : PagesAt S w v ps) (hS : ∀ g, S g → g < w.heap.size → S' g) : PagesAt S' w v ps :=
  h.kept fun g hg hl => ⟨hS g hg hl, fun _ => rfl⟩
theorem BlocksAt.mono {S S' : Nat → Prop} {w : World} {v : Value} {bs : List BlockT} (h : BlocksAt S w v bs) (hS : ∀ g, S g → g < w.heap.size → S' g) : BlocksAt S' w v bs :=
  h.kept fun g hg hl => ⟨hS g hg hl, fun _ => rfl⟩
theorem PagesAt.setCell {S : Nat → Prop} {w : World} {v : Value} {ps : List PageT} (h : PagesAt S w v ps) {p : Addr} (hp : ¬ S p.block) (x : Value) : PagesAt S (w.setCell p x) v ps :=
  h.kept fun g hg _ => ⟨hg, fun off => World.cell?_of_block (w := w) (a := ⟨g, off, none⟩) (Below.heap_setCell w p x g (fun e => hp (e ▸ hg)))⟩
theorem BlocksAt.setCell {S : Nat → Prop} {w : World} {v : Value} {bs : List BlockT} (h : BlocksAt S w v bs) {p : Addr} (hp : ¬ S p.block) (x : Value) : BlocksAt S (w.setCell p x) v bs :=
  h.kept fun g hg _ => ⟨hg, fun off => World.cell?_of_block (w := w) (a := ⟨g, off, none⟩) (Below.heap_setCell w p x g (fun e => hp (e ▸ hg)))⟩
theorem PagesAt.shape {S : Nat → Prop} {w : World} {v : Value} {ps : List PageT} (h : PagesAt S w v ps) : ∃ oa cap, v = .slice oa ps.length cap := by
  rcases h.2 with ⟨rfl, a, cap, rfl⟩ | ⟨g, off, cap, rfl, _⟩
  · exact ⟨a, cap, rfl⟩
  · exact ⟨_, cap, rfl⟩
theorem BlocksAt.shape {S : Nat → Prop} {w : World} {v : Value} {bs : List BlockT} (h : BlocksAt S w v bs) : ∃ oa cap, v = .slice oa bs.length cap := by
  rcases h.2 with ⟨rfl, a, cap, rfl⟩ | ⟨g, off, cap, rfl, _⟩
  · exact ⟨a, cap, rfl⟩
  · exact ⟨_, cap, rfl⟩
theorem PagesAt.cap {S : Nat → Prop} {w : World} {oa : Option Addr} {n cap : Nat} {ps : List PageT} (h : PagesAt S w (.slice oa n cap) ps) : n ≤ cap := by
  rcases h.2 with ⟨_, a, cap', hv⟩ | ⟨g, off, cap', hv, h0, _⟩
  · injection hv with _ e1 e2; omega
  · injection hv with _ e1 e2; omega
theorem BlocksAt.cap {S : Nat → Prop} {w : World} {oa : Option Addr} {n cap : Nat} {bs : List BlockT} (h : BlocksAt S w (.slice oa n cap) bs) : n ≤ cap := by
  rcases h.2 with ⟨_, a, cap', hv⟩ | ⟨g, off, cap', hv, h0, _⟩
  · injection hv with _ e1 e2; omega
  · injection hv with _ e1 e2; omega
/-- the page number i -/
theorem PagesAt.at {S : Nat → Prop} {w : World} {oa : Option Addr} {n cap : Nat} {ps : List PageT} (h : PagesAt S w (.slice oa n cap) ps) {i : Nat} (hi : i < ps.length) :
    ∃ g off, oa = some ⟨g, off, none⟩ ∧ S g ∧ w.cell? ⟨g, off + i * 3, none⟩ = some (.bool ps[i].1) ∧ w.cell? ⟨g, off + i * 3 + 1, none⟩ = some (.string ps[i].2.1) ∧ w.cell? ⟨g, off + i * 3 + 2, none⟩ = some (.string ps[i].2.2) := by
  rcases h.2 with ⟨rfl, _⟩ | ⟨g, off, cap', hv, _, hs, hc⟩
  · simp at hi
  · injection hv with ha
    exact ⟨g, off, ha, hs, hc i hi⟩
/-- the block number i -/
theorem BlocksAt.at {S : Nat → Prop} {w : World} {oa : Option Addr} {n cap : Nat} {bs : List BlockT} (h : BlocksAt S w (.slice oa n cap) bs) {i : Nat} (hi : i < bs.length) :
    ∃ g off op cp, oa = some ⟨g, off, none⟩ ∧ S g ∧ w.cell? ⟨g, off + i * 4, none⟩ = some (.slice op bs[i].1.length cp) ∧ w.cell? ⟨g, off + i * 4 + 1, none⟩ = some (.int .i64 bs[i].2.1) ∧ w.cell? ⟨g, off + i * 4 + 2, none⟩ = some (.int .i64 bs[i].2.2.1) ∧ w.cell? ⟨g, off + i * 4 + 3, none⟩ = some (.bool bs[i].2.2.2) ∧ PagesAt S w (.slice op bs[i].1.length cp) bs[i].1 := by
  rcases h.2 with ⟨rfl, _⟩ | ⟨g, off, cap', hv, _, hs, hc⟩
  · simp at hi
  · injection hv with ha
    obtain ⟨vp, c0, c1, c2, c3, c4⟩ := hc i hi
    obtain ⟨op, cp, rfl⟩ := c4.shape
    exact ⟨g, off, op, cp, ha, hs, c0, c1, c2, c3, c4⟩

/-! ### Is a page there? -/
def thereB (bs : List BlockT) (b p : Int) : Bool :=
  decide (0 ≤ b) && decide (b < bs.length) && decide (0 ≤ p) && decide (p < (bs.getD b.toNat default).1.length)

set_option maxHeartbeats 1000000 in
set_option maxRecDepth 100000 in
theorem refThere (S : Nat → Prop) (vb : Value) (bs : List BlockT) (br off : Bool) (ops b p : Int) (w : World) (hb : BlocksAt S w vb bs) :
    Calls Try.prog 34 #[.agg #[vb, .bool br, .bool off, .int .i64 ops], .int .i64 b, .int .i64 p] w fun e w' => e = .returned (.bool (thereB bs b p)) ∧ Mem w w' := by
  obtain ⟨oa, ca, rfl⟩ := hb.shape
  have hm : Mem w (w.alloc (.cells #[.slice oa bs.length ca, .bool br, .bool off, .int .i64 ops] 24)) := (Mem.refl w).alloc _
  have hb' := hb.mem hm
  by_cases h0 : 0 ≤ b
  case neg =>
    have HV : Hid (thereB bs b p = false) := by show _ = _; unfold thereB; rw [decide_eq_false h0]; rfl
    have h0' : b < 0 := by omega
    go_enter Try.func34, Try.ntmps34
    go_wp2_with fail
    go_ret
    exact ⟨ret_b HV.out.symm, hm⟩
  by_cases h1 : b < bs.length
  case neg =>
    have HV : Hid (thereB bs b p = false) := by show _ = _; unfold thereB; rw [decide_eq_false h1, Bool.and_false]; rfl
    have h1' : (bs.length : Int) ≤ b := by omega
    go_enter Try.func34, Try.ntmps34
    go_wp2_with fail
    go_ret
    exact ⟨ret_b HV.out.symm, hm⟩
  by_cases h2 : 0 ≤ p
  case neg =>
    have HV : Hid (thereB bs b p = false) := by show _ = _; unfold thereB; rw [decide_eq_false h2, Bool.and_false]; rfl
    have h2' : p < 0 := by omega
    go_enter Try.func34, Try.ntmps34
    go_wp2_with fail
    go_ret
    exact ⟨ret_b HV.out.symm, hm⟩
  obtain ⟨i, rfl⟩ := Int.eq_ofNat_of_zero_le h0
  have hi : i < bs.length := by omega
  have HV : Hid (thereB bs i p = decide (p < bs[i].1.length)) := by
    show _ = _
    unfold thereB
    rw [decide_eq_true h0, decide_eq_true h1, decide_eq_true h2]
    simp [hi]
  obtain ⟨g, off', op, cp, rfl, _, c0, _⟩ := hb'.at hi
  generalize bs[i].1.length = n at *
  go_enter Try.func34, Try.ntmps34
  go_wp2_with fail
  go_ret
  exact ⟨ret_b HV.out.symm, hm⟩
end Go.Proofs.Ytcjhaapmehegkaa.Nand
