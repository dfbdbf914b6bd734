/-
  Layer 7: words for the laws: lists that are written out, what comes in.
-/
import Derived.Test.YtamngecgkkgnpaaReplayNews
import Derived.Test.YtamngecgkkgnpaaScanLow
namespace Go.Proofs.Ytamngecgkkgnpaa.Replay
open Go.RowKit Go.Proofs.Ytamngecgkkgnpaa.Scan Go.Proofs.Ytamngecgkkgnpaa.Nand

theorem TabV.lit (w : World) (l m : List Int) (hl : l.length ≤ 1000) (hm : m.length ≤ 1000) :
    TabV (fun _ => True) ((w.alloc (.cells (l.map (Value.int .i64)).toArray 3)).alloc (.cells (m.map (Value.int .i64)).toArray 3)) (.agg #[.slice (some ⟨w.heap.size, 0, none⟩) l.length l.length, .slice (some ⟨w.heap.size + 1, 0, none⟩) m.length m.length]) (l, m) := by
  have h1 := (Ints.lit .i64 w l 3 (by unfold maxLen; omega)).mem ((Mem.refl _).alloc (.cells (m.map (Value.int .i64)).toArray 3))
  have h2 := Ints.lit .i64 (w.alloc (.cells (l.map (Value.int .i64)).toArray 3)) m 3 (by unfold maxLen; omega)
  rw [show (w.alloc (.cells (l.map (Value.int .i64)).toArray 3)).heap.size = w.heap.size + 1 by simp] at h2
  exact ⟨_, _, _, _, rfl, (IntsIn.of_ints h1).mono fun _ _ _ => trivial, (IntsIn.of_ints h2).mono fun _ _ _ => trivial⟩
theorem BlocksAt.none (w : World) : BlocksAt (fun _ => True) w (.slice none 0 0) [] := by
  unfold BlocksAt
  simp [maxLen]
theorem row_len {k : IntKind} {w : World} {a : Option Addr} {len cap : Nat} {zs : List Int} (h : IsRow k w a len cap zs) : (zs.take len).length = len ∧ len ≤ cap := by
  rcases h with ⟨rfl, rfl, rfl, rfl⟩ | ⟨x, rfl, hl, hm, hz, _⟩
  · exact ⟨rfl, Nat.le_refl _⟩
  · exact ⟨by rw [List.length_take]; omega, hl⟩
theorem wf_u8 {n : Int} (h : (Lit.int .u8 n).wf = true) : 0 ≤ n ∧ n ≤ 255 := by
  simp [Lit.wf, IntKind.min, IntKind.max, IntKind.signed, IntKind.bits] at h
  omega
theorem wf_u16 {n : Int} (h : (Lit.int .u16 n).wf = true) : 0 ≤ n ∧ n ≤ 65535 := by
  simp [Lit.wf, IntKind.min, IntKind.max, IntKind.signed, IntKind.bits] at h
  omega
end Go.Proofs.Ytamngecgkkgnpaa.Replay
