/-
  Contracts of the functions of package crc and of the document's answer for it.
-/
import Derived.Test.YtcjhaapmehegkaaBase
import Derived.Test.YtcjhaapmehegkaaCrcMath
namespace Go.Proofs.Ytcjhaapmehegkaa.Crc
open Go.RowKit

theorem bit_odd {c : Nat} (h : c % 2 = 1) : bit c = c / 2 ^^^ 3988292384 := by unfold bit; rw [if_pos h]
theorem bit_ev {c : Nat} (h : ¬ c % 2 = 1) : bit c = c / 2 := by unfold bit; rw [if_neg h]

set_option maxHeartbeats 400000 in
theorem refstep (c : Nat) (w : World) (hc : c < 4294967296) :
    Calls Try.prog 69 #[.int .i64 c] w fun e w' => e = .returned (.int .i64 (bit c : Nat)) ∧ w' = w := by
  by_cases h : c % 2 = 1
  · have h' : ((c : Int) % 2 == 1) = true := by rw [beq_iff_eq]; omega
    go_enter Try.func69, Try.ntmps69
    go_wp2
    go_ret
    exact ⟨ret_int (by rw [bit_odd h, show ((c : Int) / 2) = ((c / 2 : Nat) : Int) from by omega]; exact i64_xor_nat (c / 2) 3988292384 (by omega) (by omega)), rfl⟩
  · have h' : ((c : Int) % 2 == 1) = false := by rw [beq_eq_false_iff_ne]; omega
    go_enter Try.func69, Try.ntmps69
    go_wp2
    go_ret
    exact ⟨ret_int (by rw [bit_ev h]; omega), rfl⟩

theorem and1_odd (x : Nat) (hx : x < 4294967296) (h : x % 2 = 1) : (bits .and .u32 (x : Int) 1 == 1) = true := by
  rw [show (1 : Int) = ((1 : Nat) : Int) from rfl, u32_and_nat x 1 hx (by omega), nat_mask1, h]; rfl
theorem and1_ev (x : Nat) (hx : x < 4294967296) (h : ¬ x % 2 = 1) : (bits .and .u32 (x : Int) 1 == 1) = false := by
  rw [show (1 : Int) = ((1 : Nat) : Int) from rfl, u32_and_nat x 1 hx (by omega), nat_mask1, show x % 2 = 0 from by omega]; rfl

set_option maxHeartbeats 400000 in
theorem crcstep (c b : Nat) (w : World) (hc : c < 4294967296) (hb : b < 256) :
    Calls Try.prog 86 #[.int .u32 c, .int .u8 b] w fun e w' => e = .returned (.int .u32 (byteStep c b : Nat)) ∧ w' = w := by
  go_enter Try.func86, Try.ntmps86
  go_wp2
  go_loop [0, 10] (fun s i => ∃ k : Nat, k ≤ 8 ∧ i = .int .i64 k ∧ s = .int .u32 (bitTo k (c ^^^ b) : Nat)) (fun _ i => 8 - (intOf i).toNat)
  case atStart => exact ⟨0, Nat.zero_le _, rfl, int_eq (u32_xor_nat c b hc (by omega))⟩
  case round =>
    obtain ⟨k, hk, rfl, rfl⟩ := hrel
    have hlt : bitTo k (c ^^^ b) < 4294967296 := bitTo_lt k (xor_lt32 hc (by omega))
    by_cases hk8 : k < 8
    · generalize hx : bitTo k (c ^^^ b) = x at *
      have HX : Hid (bitTo (k + 1) (c ^^^ b) = bit x) := by show bit (bitTo k (c ^^^ b)) = bit x; rw [hx]
      clear hx
      by_cases h : x % 2 = 1
      · have h' := and1_odd x hlt h
        go_wp2
        exact ⟨⟨k + 1, by omega, by go_num, int_eq (by rw [HX.out, bit_odd h, show ((x : Int) / 2) = ((x / 2 : Nat) : Int) from by omega]; exact u32_xor_nat (x / 2) 3988292384 (by omega) (by omega))⟩, by simp [intOf]; omega⟩
      · have h' := and1_ev x hlt h
        go_wp2
        exact ⟨⟨k + 1, by omega, by go_num, int_eq (by rw [HX.out, bit_ev h]; omega)⟩, by simp [intOf]; omega⟩
    · have h8 : k = 8 := by omega
      subst h8
      go_wp2
      go_ret
      exact ⟨rfl, rfl⟩

theorem take_snoc (s : ByteArray) (k : Nat) (h : k < s.size) : s.data.toList.take (k + 1) = s.data.toList.take k ++ [s[k]] := by
  rw [List.take_succ_eq_append_getElem (by simpa using h)]; rfl
theorem raw_snoc (c : Nat) (s : ByteArray) (k : Nat) (h : k < s.size) : raw c (s.data.toList.take (k + 1)) = byteStep (raw c (s.data.toList.take k)) s[k].toNat := by
  rw [take_snoc s k h, raw_append]; rfl

theorem turn_all (r : Nat) (hr : r < 4294967296) : wrap64 (bits .xor .u32 IntKind.u32.max (r : Int)) = ((r ^^^ 4294967295 : Nat) : Int) := by
  rw [show IntKind.u32.max = ((4294967295 : Nat) : Int) from by decide, u32_xor_nat _ _ (by omega) hr, Nat.xor_comm]
  have := xor_lt32 hr (show 4294967295 < 4294967296 by omega)
  unfold wrap64; omega
theorem sum_all (s : ByteArray) : raw 4294967295 (s.data.toList.take s.size) ^^^ 4294967295 = sum s.data.toList := by
  rw [List.take_of_length_le (by simp)]; rfl

set_option maxHeartbeats 400000 in
theorem crcSum (s : ByteArray) (w : World) (hs : s.size ≤ maxLen) :
    Calls Try.prog 75 #[.string s] w fun e w' => e = .returned (.int .i64 (sum s.data.toList : Nat)) ∧ w' = w := by
  unfold maxLen at hs
  go_enter Try.func75, Try.ntmps75
  go_wp2
  go_loop [3, 7] (fun c i => ∃ k : Nat, k ≤ s.size ∧ i = .int .i64 k ∧ c = .int .u32 (raw 4294967295 (s.data.toList.take k) : Nat)) (fun _ i => s.size - (intOf i).toNat)
  case atStart => exact ⟨0, Nat.zero_le _, rfl, rfl⟩
  case round =>
    obtain ⟨k, hk, rfl, rfl⟩ := hrel
    have hlt : raw 4294967295 (s.data.toList.take k) < 4294967296 := raw_lt _ (by omega)
    by_cases hk8 : k < s.size
    · have HX := hide (raw_snoc 4294967295 s k hk8)
      generalize raw 4294967295 (s.data.toList.take k) = x at *
      go_wp2_with (first | (go_at_call 86; refine (crcstep _ _ _ hlt s[k].toNat_lt).mono ?_; rintro e w' ⟨rfl, rfl⟩))
      exact ⟨⟨k + 1, by omega, by go_num, int_eq (by rw [HX.out])⟩, by simp [intOf]; omega⟩
    · have h8 : k = s.size := by omega
      subst h8
      go_wp2
      go_ret
      exact ⟨ret_int (by rw [turn_all _ hlt, sum_all]), rfl⟩

set_option maxHeartbeats 400000 in
theorem refSum (s : ByteArray) (w : World) (hs : s.size ≤ maxLen) :
    Calls Try.prog 52 #[.string s] w fun e w' => e = .returned (.int .i64 (sum s.data.toList : Nat)) ∧ w' = w := by
  unfold maxLen at hs
  go_enter Try.func52, Try.ntmps52
  go_wp2
  go_loop [3, 4] (fun c i => ∃ k : Nat, k ≤ s.size ∧ i = .int .i64 k ∧ c = .int .i64 (raw 4294967295 (s.data.toList.take k) : Nat)) (fun _ i => s.size - (intOf i).toNat)
  case atStart => exact ⟨0, Nat.zero_le _, rfl, rfl⟩
  case round =>
    obtain ⟨k, hk, rfl, rfl⟩ := hrel
    have hlt : raw 4294967295 (s.data.toList.take k) < 4294967296 := raw_lt _ (by omega)
    by_cases hk8 : k < s.size
    · have HX := hide (raw_snoc 4294967295 s k hk8)
      have hb := s[k].toNat_lt
      generalize raw 4294967295 (s.data.toList.take k) = x at *
      go_wp2
      go_loop [3, 5] (fun c i => ∃ j : Nat, j ≤ 8 ∧ i = .int .i64 j ∧ c = .int .i64 (bitTo j (x ^^^ s[k].toNat) : Nat)) (fun _ i => 8 - (intOf i).toNat)
      case atStart => exact ⟨0, Nat.zero_le _, rfl, int_eq (i64_xor_nat x _ hlt (by omega))⟩
      case round =>
        obtain ⟨j, hj, rfl, rfl⟩ := hrel
        have hlt' : bitTo j (x ^^^ s[k].toNat) < 4294967296 := bitTo_lt j (xor_lt32 hlt (by omega))
        by_cases hj8 : j < 8
        · go_wp2_with (first | (go_at_call 69; refine (refstep _ _ hlt').mono ?_; rintro e w' ⟨rfl, rfl⟩))
          exact ⟨⟨j + 1, by omega, by go_num, rfl⟩, by simp [intOf]; omega⟩
        · have h8 : j = 8 := by omega
          subst h8
          go_wp2
          exact ⟨⟨k + 1, by omega, by go_num, int_eq (by rw [HX.out]; rfl)⟩, by simp [intOf]; omega⟩
    · have h8 : k = s.size := by omega
      subst h8
      go_wp2
      go_ret
      exact ⟨ret_int (by rw [← sum_all]; exact i64_xor_nat _ 4294967295 hlt (by omega)), rfl⟩

end Go.Proofs.Ytcjhaapmehegkaa.Crc
