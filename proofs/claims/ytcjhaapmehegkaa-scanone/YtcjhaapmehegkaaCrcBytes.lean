/-
  Contracts of crc.Bytes and of the document's answer for it.
-/
import Derived.Test.YtcjhaapmehegkaaCrcWalks
import Derived.Laws.BytesArg
import Derived.Laws.IdiomStrings
import Derived.LoopN
namespace Go.Proofs.Ytcjhaapmehegkaa.Crc
open Go.RowKit

theorem conv4 (w : World) (a b c d : Int) (t : TypeId) :
    (convert 116 9 (.slice (some ⟨w.heap.size, 0, none⟩) 4 4)).run Try.prog (w.alloc (.cells #[.int .u8 a, .int .u8 b, .int .u8 c, .int .u8 d] t)) = .ok (.string (strOfNums [a, b, c, d])) (w.alloc (.cells #[.int .u8 a, .int .u8 b, .int .u8 c, .int .u8 d] t)) := by
  refine run_convert_bytes_arg _ 116 5 Try.underlying116 Try.underlying5 w.heap.size 0 4 4 [a, b, c, d] rfl ?_ 9 Try.underlying9
  intro i hi
  have : i = 0 ∨ i = 1 ∨ i = 2 ∨ i = 3 := by omega
  rcases this with rfl | rfl | rfl | rfl <;> exact World.cell?_alloc_mark w _ t _ _

theorem strOf4 (n : Nat) (h : n < 4294967296) (a b c d : Int) (ha : a = (n : Int) % 256) (hb : b = (n : Int) / 256 % 256) (hc : c = (n : Int) / 65536 % 256) (hd : d = (n : Int) / 16777216) :
    strOfNums [a, b, c, d] = ⟨(four n).toArray⟩ := by
  subst ha hb hc hd
  have e0 : ((n : Int) % 256).toNat = n % 256 := by omega
  have e1 : ((n : Int) / 256 % 256).toNat = n / 256 % 256 := by omega
  have e2 : ((n : Int) / 65536 % 256).toNat = n / 65536 % 256 := by omega
  have e3 : ((n : Int) / 16777216).toNat = n / 16777216 % 256 := by omega
  unfold strOfNums four
  simp only [List.map_cons, List.map_nil, e0, e1, e2, e3]

set_option maxHeartbeats 400000 in
theorem crcBytes_no (n : Int) (w : World) (h : n < 0 ∨ 4294967295 < n) :
    Calls Try.prog 74 #[.int .i64 n] w fun e w' => e = .returned (.string ByteArray.empty) ∧ w' = w := by
  rcases h with h | h
  · go_enter Try.func74, Try.ntmps74
    go_wp2
    go_ret
    exact ⟨rfl, rfl⟩
  · have h0 : ¬ n < 0 := by omega
    go_enter Try.func74, Try.ntmps74
    go_wp2
    go_ret
    exact ⟨rfl, rfl⟩

set_option maxHeartbeats 400000 in
theorem refBytes_no (n : Int) (w : World) (h : n < 0 ∨ 4294967295 < n) :
    Calls Try.prog 51 #[.int .i64 n] w fun e w' => e = .returned (.string ByteArray.empty) ∧ w' = w := by
  rcases h with h | h
  · go_enter Try.func51, Try.ntmps51
    go_wp2
    go_ret
    exact ⟨rfl, rfl⟩
  · have h0 : ¬ n < 0 := by omega
    go_enter Try.func51, Try.ntmps51
    go_wp2
    go_ret
    exact ⟨rfl, rfl⟩

set_option maxHeartbeats 400000 in
theorem refBytes_yes (n : Nat) (w : World) (h : n < 4294967296) :
    Calls Try.prog 51 #[.int .i64 n] w fun e w' => e = .returned (.string ⟨(four n).toArray⟩) ∧ Mem w w' := by
  have h0 : ¬ ((n : Int) < 0) := by omega
  have h1 : ¬ (4294967295 < (n : Int)) := by omega
  have kc := conv4 w
  go_enter Try.func51, Try.ntmps51
  go_wp2
  go_ret
  exact ⟨ret_str (strOf4 n h _ _ _ _ rfl rfl rfl rfl), (Mem.refl _).alloc _⟩

set_option maxHeartbeats 400000 in
theorem crcBytes_yes (n : Nat) (w : World) (h : n < 4294967296) :
    Calls Try.prog 74 #[.int .i64 n] w fun e w' => e = .returned (.string ⟨(four n).toArray⟩) ∧ Mem w w' := by
  have h0 : ¬ ((n : Int) < 0) := by omega
  have h1 : ¬ (4294967295 < (n : Int)) := by omega
  have kc := conv4 w
  go_enter Try.func74, Try.ntmps74
  go_wp2
  refine wp_loop_rounds 5 ?_
  rw [rounds_succ]
  go_wp2
  rw [rounds_succ]
  go_wp2
  rw [rounds_succ]
  go_wp2
  rw [rounds_succ]
  go_wp2
  rw [rounds_succ]
  go_wp2
  go_ret
  exact ⟨ret_str (strOf4 n h _ _ _ _ rfl rfl (by omega) (by omega)), (Mem.refl _).alloc _⟩
end Go.Proofs.Ytcjhaapmehegkaa.Crc
