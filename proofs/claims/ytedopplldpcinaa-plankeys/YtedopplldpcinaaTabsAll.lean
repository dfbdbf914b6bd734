/-
  LiveTabs, PlanTabs: in one text (merge.json).
-/
import Derived.Test.YtedopplldpcinaaRepLivMath
import Derived.Test.YtedopplldpcinaaReplayRefAll
import Derived.RegionTactic
import Derived.BigRegion
/-
  Layer 8: a table that is filled, number by number.
-/
namespace Go.Proofs.Ytedopplldpcinaa.Live
open Go.RowKit Go.Proofs.Ytedopplldpcinaa.Replay Go.Proofs.Ytedopplldpcinaa.Scan

theorem i64_same {n : Int} (h : -1000000 ≤ n) (h' : n ≤ 1000000) : IntKind.i64.wrap n = n := by
  exact Tag.i64_id n (by omega) (by omega)
theorem rem_val {x m : Int} (h0 : 0 ≤ x) (h1 : x ≤ 255) (hm : 0 < m) (hm1 : m ≤ 100) : IntKind.i64.wrap ((IntKind.i64.wrap x).tmod m - 1) = x % m - 1 := by
  rw [i64_same (n := x) (by omega) (by omega), Int.tmod_eq_emod_of_nonneg h0]
  have := Int.emod_nonneg x (by omega : m ≠ 0)
  have := Int.emod_lt_of_pos x hm
  exact i64_same (by omega) (by omega)
/-- a table, a variable at block B, that the call fills -/
def TM (w : World) (B : Nat) (wr : World) (vm vb : Value) (ms bs : List Int) : Prop :=
  Blk wr B 30 #[vm, vb] ∧ Two wr (B + 1) vm ms vb bs ∧ Mem w wr ∧ w.heap.size ≤ B
theorem TM.size {w wr : World} {B : Nat} {vm vb : Value} {ms bs : List Int} (h : TM w B wr vm vb ms bs) : B + 1 ≤ wr.heap.size := h.1.lt
theorem TM.pushM {w wr w' : World} {B : Nat} {vm vb vm' : Value} {ms bs : List Int} {x : Int} (h : TM w B wr vm vb ms bs) (h1 : w'.ownsRow (B + 1) 3 1 vm' (ms.length + 1) (icells (ms ++ [x]))) (h2 : wr.grownBy w' vm.ownBlock) (h3 : Lies wr vm vm') :
    TM w B (w'.setCell ⟨B, 0, none⟩ vm') vm' vb (ms ++ [x]) bs := by
  have hb := grown_below h.2.1.1 h2 h.size
  exact ⟨(h.1.below hb (by omega)).set 0 _, (h.2.1.push h1 h2 h3).setCell (by show B < B + 1; omega) _, Mem.setCell (Below.trans h.2.2.1 (Below.mono hb (by have := h.2.2.2; omega))) h.2.2.2 _, h.2.2.2⟩
theorem TM.pushB {w wr w' : World} {B : Nat} {vm vb vb' : Value} {ms bs : List Int} {x : Int} (h : TM w B wr vm vb ms bs) (h1 : w'.ownsRow (B + 1) 3 1 vb' (bs.length + 1) (icells (bs ++ [x]))) (h2 : wr.grownBy w' vb.ownBlock) (h3 : Lies wr vb vb') :
    TM w B (w'.setCell ⟨B, 1, none⟩ vb') vm vb' ms (bs ++ [x]) := by
  have hb := grown_below h.2.1.2.1 h2 h.size
  exact ⟨(h.1.below hb (by omega)).set 1 _, (h.2.1.symm.push h1 h2 h3).symm.setCell (by show B < B + 1; omega) _, Mem.setCell (Below.trans h.2.2.1 (Below.mono hb (by have := h.2.2.2; omega))) h.2.2.2 _, h.2.2.2⟩
theorem TM.mem {w wr w' : World} {B : Nat} {vm vb : Value} {ms bs : List Int} (h : TM w B wr vm vb ms bs) (m : Mem wr w') : TM w B w' vm vb ms bs := ⟨h.1.mem m, h.2.1.mem m, h.2.2.1.trans m, h.2.2.2⟩
theorem TM.start (w : World) : TM w w.heap.size (w.alloc (.cells #[.slice none 0 0, .slice none 0 0] 30)) (.slice none 0 0) (.slice none 0 0) [] [] := ⟨Blk.new w _ _, Two.nil _ _, (Mem.refl w).alloc _, Nat.le_refl _⟩
theorem all_snoc {P : Int → Prop} {l : List Int} {x : Int} (h : ∀ z ∈ l, P z) (hx : P x) : ∀ z ∈ l ++ [x], P z := by
  intro z hz
  rcases List.mem_append.1 hz with h' | h'
  · exact h z h'
  · rw [List.mem_singleton.1 h']; exact hx
end Go.Proofs.Ytedopplldpcinaa.Live
/-
  Layer 12, the statements' own: the numbers that tables are filled with.
-/
namespace Go.Proofs.Ytedopplldpcinaa.Plan
open Go.RowKit Go.Proofs.Ytedopplldpcinaa.Live Go.Proofs.Ytedopplldpcinaa.Replay

theorem step_pushA_at {ops : Array Oper} {o : Oper} {a : Act} {K : Act → World → Prop} {Q : Exit → Act → World → Prop} {E : Prop} {w : World} (hgd : o.guard = none) (s x : Operand)
    (ho : o.op = .call { callee := .builtin .append, args := #[s, x], argTypes := #[28, 28] })
    (base : Nat) (v : Value) (l : List Int) (n : Nat) (hs : a.eval s = v) (hown : w.ownsRow base 3 1 v n (icells l)) (hbase : base ≤ w.heap.size)
    (z : Int) (B : Nat) (hB : B = w.heap.size) (hx : a.eval x = .slice (some ⟨B, 0, none⟩) 1 1) (hlen : (n + 1) * 8 ≤ 140737488355328)
    (h : ∀ v' w', w'.ownsRow base 3 1 v' (n + 1) (icells (l ++ [z])) → w.grownBy w' v.ownBlock → Lies w v v' → K (a.put o.dst v') w') :
    if Region.wanted o (yielded ops a.tmps) = true then Oper.wp Try.prog o a (w.alloc (.cells #[.int .i64 z] 3)).drew K Q else E := by
  subst hB
  exact step_pushA_drew hgd s x ho base v l n hs hown hbase z hx hlen h
def z8 (q : Nat) : Int := [(-1 : Int), 0, 1, 2, 16, 17, 33, 3].getD q 0
theorem z8_get (q : Nat) (h : q < ([.int .i64 (-1), .int .i64 0, .int .i64 1, .int .i64 2, .int .i64 16, .int .i64 17, .int .i64 33, .int .i64 3] : List Value).length) :
    ([.int .i64 (-1), .int .i64 0, .int .i64 1, .int .i64 2, .int .i64 16, .int .i64 17, .int .i64 33, .int .i64 3] : List Value)[q]'h = .int .i64 (z8 q) := by
  have h' : q < 8 := h
  have : q = 0 ∨ q = 1 ∨ q = 2 ∨ q = 3 ∨ q = 4 ∨ q = 5 ∨ q = 6 ∨ q = 7 := by omega
  rcases this with rfl | rfl | rfl | rfl | rfl | rfl | rfl | rfl <;> rfl
theorem z8_wf (q : Nat) (h : q < 8) : wfZ (z8 q) := by
  have : q = 0 ∨ q = 1 ∨ q = 2 ∨ q = 3 ∨ q = 4 ∨ q = 5 ∨ q = 6 ∨ q = 7 := by omega
  rcases this with rfl | rfl | rfl | rfl | rfl | rfl | rfl | rfl <;> (unfold wfZ z8; simp)
def zm (q : Nat) : Int := [(0 : Int), 0, 1, 16, -1].getD q 0
def zb (q : Nat) : Int := [(2 : Int), 1, 33, 17, 2].getD q 0
theorem zm_get (q : Nat) (h : q < ([.int .i64 0, .int .i64 0, .int .i64 1, .int .i64 16, .int .i64 (-1)] : List Value).length) : ([.int .i64 0, .int .i64 0, .int .i64 1, .int .i64 16, .int .i64 (-1)] : List Value)[q]'h = .int .i64 (zm q) := by
  have h' : q < 5 := h
  have : q = 0 ∨ q = 1 ∨ q = 2 ∨ q = 3 ∨ q = 4 := by omega
  rcases this with rfl | rfl | rfl | rfl | rfl <;> rfl
theorem zb_get (q : Nat) (h : q < ([.int .i64 2, .int .i64 1, .int .i64 33, .int .i64 17, .int .i64 2] : List Value).length) : ([.int .i64 2, .int .i64 1, .int .i64 33, .int .i64 17, .int .i64 2] : List Value)[q]'h = .int .i64 (zb q) := by
  have h' : q < 5 := h
  have : q = 0 ∨ q = 1 ∨ q = 2 ∨ q = 3 ∨ q = 4 := by omega
  rcases this with rfl | rfl | rfl | rfl | rfl <;> rfl
theorem zm_wf (q : Nat) (h : q < 5) : wfZ (zm q) := by
  have : q = 0 ∨ q = 1 ∨ q = 2 ∨ q = 3 ∨ q = 4 := by omega
  rcases this with rfl | rfl | rfl | rfl | rfl <;> (unfold wfZ zm; simp)
theorem zb_wf (q : Nat) (h : q < 5) : wfZ (zb q) := by
  have : q = 0 ∨ q = 1 ∨ q = 2 ∨ q = 3 ∨ q = 4 := by omega
  rcases this with rfl | rfl | rfl | rfl | rfl <;> (unfold wfZ zb; simp)
def dT (q : Nat) : ByteArray := match q with | 0 => ⟨#[100]⟩ | 1 => ⟨#[101]⟩ | 2 => ⟨#[]⟩ | _ => ⟨#[120]⟩
theorem dT_get (q : Nat) (h : q < ([.string ⟨#[100]⟩, .string ⟨#[101]⟩, .string ⟨#[]⟩, .string ⟨#[120]⟩] : List Value).length) : ([.string ⟨#[100]⟩, .string ⟨#[101]⟩, .string ⟨#[]⟩, .string ⟨#[120]⟩] : List Value)[q]'h = .string (dT q) := by
  have h' : q < 4 := h
  have : q = 0 ∨ q = 1 ∨ q = 2 ∨ q = 3 := by omega
  rcases this with rfl | rfl | rfl | rfl <;> rfl
end Go.Proofs.Ytedopplldpcinaa.Plan
