/-
  Layer 8: a table that is filled, number by number.
-/
import Derived.Test.YtamngecgkkgnpaaLiveAwake
import Derived.Test.YtamngecgkkgnpaaReplayRefApply
import Derived.RegionTactic
import Derived.BigRegion
namespace Go.Proofs.Ytamngecgkkgnpaa.Live
open Go.RowKit Go.Proofs.Ytamngecgkkgnpaa.Replay Go.Proofs.Ytamngecgkkgnpaa.Scan

theorem i64_same {n : Int} (h : -1000000 ≤ n) (h' : n ≤ 1000000) : IntKind.i64.wrap n = n := by
  exact Tag.i64_id n (by omega) (by omega)
theorem rem_val {x m : Int} (h0 : 0 ≤ x) (h1 : x ≤ 255) (hm : 0 < m) (hm1 : m ≤ 100) : IntKind.i64.wrap ((IntKind.i64.wrap x).tmod m - 1) = x % m - 1 := by
  rw [i64_same (n := x) (by omega) (by omega), Int.tmod_eq_emod_of_nonneg h0]
  have := Int.emod_nonneg x (by omega : m ≠ 0)
  have := Int.emod_lt_of_pos x hm
  exact i64_same (by omega) (by omega)
/-- a table, a variable at block B, that the call fills -/
def TM (w : World) (B : Nat) (wr : World) (vm vb : Value) (ms bs : List Int) : Prop :=
  Blk wr B 24 #[vm, vb] ∧ Two wr (B + 1) vm ms vb bs ∧ Mem w wr ∧ w.heap.size ≤ B
theorem TM.size {w wr : World} {B : Nat} {vm vb : Value} {ms bs : List Int} (h : TM w B wr vm vb ms bs) : B + 1 ≤ wr.heap.size := h.1.lt
theorem TM.pushM {w wr w' : World} {B : Nat} {vm vb vm' : Value} {ms bs : List Int} {x : Int} (h : TM w B wr vm vb ms bs) (h1 : w'.ownsRow (B + 1) 3 1 vm' (ms.length + 1) (icells (ms ++ [x]))) (h2 : wr.grownBy w' vm.ownBlock) (h3 : Lies wr vm vm') :
    TM w B (w'.setCell ⟨B, 0, none⟩ vm') vm' vb (ms ++ [x]) bs := by
  have hb := grown_below h.2.1.1 h2 h.size
  exact ⟨(h.1.below hb (by omega)).set 0 _, (h.2.1.push h1 h2 h3).setCell (by show B < B + 1; omega) _, Mem.setCell (Below.trans h.2.2.1 (Below.mono hb (by have := h.2.2.2; omega))) h.2.2.2 _, h.2.2.2⟩
theorem TM.pushB {w wr w' : World} {B : Nat} {vm vb vb' : Value} {ms bs : List Int} {x : Int} (h : TM w B wr vm vb ms bs) (h1 : w'.ownsRow (B + 1) 3 1 vb' (bs.length + 1) (icells (bs ++ [x]))) (h2 : wr.grownBy w' vb.ownBlock) (h3 : Lies wr vb vb') :
    TM w B (w'.setCell ⟨B, 1, none⟩ vb') vm vb' ms (bs ++ [x]) := by
  have hb := grown_below h.2.1.2.1 h2 h.size
  exact ⟨(h.1.below hb (by omega)).set 1 _, (h.2.1.symm.push h1 h2 h3).symm.setCell (by show B < B + 1; omega) _, Mem.setCell (Below.trans h.2.2.1 (Below.mono hb (by have := h.2.2.2; omega))) h.2.2.2 _, h.2.2.2⟩
theorem TM.start (w : World) : TM w w.heap.size (w.alloc (.cells #[.slice none 0 0, .slice none 0 0] 24)) (.slice none 0 0) (.slice none 0 0) [] [] := ⟨Blk.new w _ _, Two.nil _ _, (Mem.refl w).alloc _, Nat.le_refl _⟩
theorem all_snoc {P : Int → Prop} {l : List Int} {x : Int} (h : ∀ z ∈ l, P z) (hx : P x) : ∀ z ∈ l ++ [x], P z := by
  intro z hz
  rcases List.mem_append.1 hz with h' | h'
  · exact h z h'
  · rw [List.mem_singleton.1 h']; exact hx
end Go.Proofs.Ytamngecgkkgnpaa.Live
