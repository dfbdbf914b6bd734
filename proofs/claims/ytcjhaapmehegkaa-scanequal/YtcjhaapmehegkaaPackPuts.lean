/-
  Contracts of pack.Put and of the document's answer for it.
-/
import Derived.Test.YtcjhaapmehegkaaBase
import Derived.Test.YtcjhaapmehegkaaPackMath
namespace Go.Proofs.Ytcjhaapmehegkaa.Pack
open Go.RowKit

theorem cat_len {l : List UInt8} {m N : Nat} (hN : N ≤ maxN) (h : l ++ put m = put N) : l.length ≤ 5 := by
  have := congrArg List.length h
  rw [List.length_append] at this
  have := put_pos m
  have := put_six hN
  omega
theorem byte_hi (m : Nat) : (m : Int) % 128 + 128 = (((m % 128 + 128).toUInt8).toNat : Int) := by rw [u8_nat _ (by omega)]; omega
theorem byte_hi' (m : Nat) : 128 + (m : Int) % 128 = (((m % 128 + 128).toUInt8).toNat : Int) := by rw [u8_nat _ (by omega)]; omega
theorem byte_lo (m : Nat) (h : m < 128) : (m : Int) = ((m.toUInt8).toNat : Int) := by rw [u8_nat _ (by omega)]
theorem cat_hi {l : List UInt8} {m N : Nat} (h : l ++ put m = put N) (hm : ¬ m < 128) : (l ++ [(m % 128 + 128).toUInt8]) ++ put (m / 128) = put N := by
  rw [← h, put_hi hm, List.append_assoc]; rfl
theorem cat_lo {l : List UInt8} {m N : Nat} (h : l ++ put m = put N) (hm : m < 128) : l ++ [m.toUInt8] = put N := by
  rw [← h, put_lo hm]

set_option maxHeartbeats 1000000 in
theorem packPut_no (n : Int) (w : World) (h : n < 0 ∨ 1099511627776 < n) :
    Calls Try.prog 85 #[.int .i64 n] w fun e w' => e = .returned (.string ⟨(putI n).toArray⟩) ∧ Mem w w' := by
  rw [putI_no h]
  rcases h with h | h
  · go_enter Try.func85, Try.ntmps85
    go_wp2
    go_ret
    exact ⟨rfl, Mem.refl _⟩
  · have h0 : ¬ n < 0 := by omega
    go_enter Try.func85, Try.ntmps85
    go_wp2
    go_ret
    exact ⟨rfl, Mem.refl _⟩

set_option maxHeartbeats 1000000 in
set_option maxRecDepth 100000 in
theorem packPut_yes (N : Nat) (w : World) (hN : N ≤ maxN) :
    Calls Try.prog 85 #[.int .i64 N] w fun e w' => e = .returned (.string ⟨(put N).toArray⟩) ∧ Mem w w' := by
  have hN' := hN
  unfold maxN at hN'
  have h0 : ¬ ((N : Int) < 0) := by omega
  have h1 : ¬ (1099511627776 < (N : Int)) := by omega
  go_enter Try.func85, Try.ntmps85
  go_wp2
  go_loopw [0, 3] (fun n out wr => ∃ (m : Nat) (l : List UInt8), n = .int .i64 m ∧ m ≤ N ∧ l ++ put m = put N ∧ wr.ownsRow w.heap.size 5 1 out l.length (bcells l) ∧ Below w.heap.size w wr) (fun n _ _ => (intOf n).toNat)
  case atStart => exact ⟨N, [], rfl, Nat.le_refl _, rfl, World.ownsRow_nil _ _ _ _, Below.refl _ _⟩
  case round =>
    obtain ⟨m, l, rfl, hm, hl, hown, hb⟩ := hrel
    have hlen := cat_len hN hl
    have HL := hide hl
    clear hl
    by_cases h : m < 128
    · go_wp2_with (first | (at_builtin; refine push8 rfl _ _ rfl w.heap.size _ l l.length rfl rfl hown hb.size m.toUInt8 _ (byte_lo m h) rfl (by omega) ?_) | fail)
      intro v' w' h1 h2
      rw [cat_lo HL.out h] at h1
      have hlen2 : l.length + 1 = (put N).length := by rw [← cat_lo HL.out h]; simp
      rw [hlen2] at h1
      have hcv := conv_owned h1
      clear hown h1
      go_wp2
      go_ret
      exact ⟨rfl, hb.trans h2⟩
    · go_wp2_with (first | (at_builtin; refine push8 rfl _ _ rfl w.heap.size _ l l.length rfl rfl hown hb.size (m % 128 + 128).toUInt8 _ (byte_hi m) rfl (by omega) ?_) | fail)
      intro v' w' h1 h2
      have HC := hide (cat_hi HL.out h)
      clear hown HL
      go_wp2
      go_roundw
      case rel => exact ⟨m / 128, _, by go_num, by omega, HC.out, by simpa using h1, hb.trans h2⟩
      case measure => simp [intOf]; omega

theorem packPut (n : Int) (w : World) :
    Calls Try.prog 85 #[.int .i64 n] w fun e w' => e = .returned (.string ⟨(putI n).toArray⟩) ∧ Mem w w' := by
  by_cases h : n < 0 ∨ 1099511627776 < n
  · exact packPut_no n w h
  · obtain ⟨N, rfl⟩ := Int.eq_ofNat_of_zero_le (show 0 ≤ n by omega)
    have hN : N ≤ maxN := by unfold maxN; omega
    rw [putI_nat hN]
    exact packPut_yes N w hN

set_option maxHeartbeats 1000000 in
theorem refPut_no (n : Int) (w : World) (h : n < 0 ∨ 1099511627776 < n) :
    Calls Try.prog 81 #[.int .i64 n] w fun e w' => e = .returned (.string ⟨(putI n).toArray⟩) ∧ Mem w w' := by
  rw [putI_no h]
  rcases h with h | h
  · go_enter Try.func81, Try.ntmps81
    go_wp2
    go_ret
    exact ⟨rfl, Mem.refl _⟩
  · have h0 : ¬ n < 0 := by omega
    go_enter Try.func81, Try.ntmps81
    go_wp2
    go_ret
    exact ⟨rfl, Mem.refl _⟩
theorem cat_mk (l : List UInt8) (b : UInt8) : (⟨l.toArray⟩ ++ ⟨#[b]⟩ : ByteArray) = ⟨(l ++ [b]).toArray⟩ := by
  apply ByteArray.ext; simp

set_option maxHeartbeats 1000000 in
set_option maxRecDepth 100000 in
theorem refPut_yes (N : Nat) (w : World) (hN : N ≤ maxN) :
    Calls Try.prog 81 #[.int .i64 N] w fun e w' => e = .returned (.string ⟨(put N).toArray⟩) ∧ Mem w w' := by
  have hN' := hN
  unfold maxN at hN'
  have h0 : ¬ ((N : Int) < 0) := by omega
  have h1 : ¬ (1099511627776 < (N : Int)) := by omega
  go_enter Try.func81, Try.ntmps81
  go_wp2
  go_loopw [0, 3] (fun n out wr => ∃ (m : Nat) (l : List UInt8), n = .int .i64 m ∧ m ≤ N ∧ l ++ put m = put N ∧ out = .string ⟨l.toArray⟩ ∧ Mem w wr) (fun n _ _ => (intOf n).toNat)
  case atStart => exact ⟨N, [], rfl, Nat.le_refl _, rfl, rfl, Mem.refl _⟩
  case round =>
    obtain ⟨m, l, rfl, hm, hl, rfl, hb⟩ := hrel
    have hlen := cat_len hN hl
    have HL := hide hl
    clear hl
    by_cases h : m < 128
    · have kc := fun w t => conv_one w (m : Int) _ (byte_lo m h) t
      go_wp2
      go_ret
      exact ⟨ret_str (by rw [cat_mk, cat_lo HL.out h]), hb.alloc _⟩
    · have HC := hide (cat_hi HL.out h)
      have hby := byte_hi' m
      generalize (m % 128 + 128).toUInt8 = b at *
      have kc := fun w t => conv_one w (128 + (m : Int) % 128) b hby t
      clear hby
      go_wp2
      go_roundw
      case rel => exact ⟨m / 128, _, by go_num, by omega, HC.out, str_eq (cat_mk _ _), hb.alloc _⟩
      case measure => simp [intOf]; omega
theorem refPut (n : Int) (w : World) :
    Calls Try.prog 81 #[.int .i64 n] w fun e w' => e = .returned (.string ⟨(putI n).toArray⟩) ∧ Mem w w' := by
  by_cases h : n < 0 ∨ 1099511627776 < n
  · exact refPut_no n w h
  · obtain ⟨N, rfl⟩ := Int.eq_ofNat_of_zero_le (show 0 ≤ n by omega)
    have hN : N ≤ maxN := by unfold maxN; omega
    rw [putI_nat hN]
    exact refPut_yes N w hN
end Go.Proofs.Ytcjhaapmehegkaa.Pack
