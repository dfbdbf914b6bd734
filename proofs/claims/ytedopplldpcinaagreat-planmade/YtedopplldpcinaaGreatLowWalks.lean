/-
  CrcWalks, CrcBytes, PackPuts, PackTakes, PackLists, PackPacks, TagRights, TagRefRights: in one text (merge.json).
-/
import Derived.Test.YtedopplldpcinaaGreatMemLow
import Derived.Test.YtedopplldpcinaaGreatMathLow
import Derived.Laws.BytesArg
import Derived.Laws.IdiomStrings
import Derived.LoopN
/-
  Contracts of the functions of package crc and of the document's answer for it.
-/
namespace Go.Proofs.YtedopplldpcinaaGreat.Crc
open Go.RowKit

theorem bit_odd {c : Nat} (h : c % 2 = 1) : bit c = c / 2 ^^^ 3988292384 := by unfold bit; rw [if_pos h]
theorem bit_ev {c : Nat} (h : ¬ c % 2 = 1) : bit c = c / 2 := by unfold bit; rw [if_neg h]

set_option maxHeartbeats 400000 in
theorem refstep (c : Nat) (w : World) (hc : c < 4294967296) :
    Calls Tryz.prog 104 #[.int .i64 c] w fun e w' => e = .returned (.int .i64 (bit c : Nat)) ∧ w' = w := by
  by_cases h : c % 2 = 1
  · have h' : ((c : Int) % 2 == 1) = true := by rw [beq_iff_eq]; omega
    go_enter Tryz.func104, Tryz.ntmps104
    go_wp2
    go_ret
    exact ⟨ret_int (by rw [bit_odd h, show ((c : Int) / 2) = ((c / 2 : Nat) : Int) from by omega]; exact i64_xor_nat (c / 2) 3988292384 (by omega) (by omega)), rfl⟩
  · have h' : ((c : Int) % 2 == 1) = false := by rw [beq_eq_false_iff_ne]; omega
    go_enter Tryz.func104, Tryz.ntmps104
    go_wp2
    go_ret
    exact ⟨ret_int (by rw [bit_ev h]; omega), rfl⟩

theorem and1_odd (x : Nat) (hx : x < 4294967296) (h : x % 2 = 1) : (bits .and .u32 (x : Int) 1 == 1) = true := by
  rw [show (1 : Int) = ((1 : Nat) : Int) from rfl, u32_and_nat x 1 hx (by omega), nat_mask1, h]; rfl
theorem and1_ev (x : Nat) (hx : x < 4294967296) (h : ¬ x % 2 = 1) : (bits .and .u32 (x : Int) 1 == 1) = false := by
  rw [show (1 : Int) = ((1 : Nat) : Int) from rfl, u32_and_nat x 1 hx (by omega), nat_mask1, show x % 2 = 0 from by omega]; rfl

set_option maxHeartbeats 400000 in
theorem crcstep (c b : Nat) (w : World) (hc : c < 4294967296) (hb : b < 256) :
    Calls Tryz.prog 88 #[.int .u32 c, .int .u8 b] w fun e w' => e = .returned (.int .u32 (byteStep c b : Nat)) ∧ w' = w := by
  go_enter Tryz.func88, Tryz.ntmps88
  go_wp2
  go_loop [0, 10] (fun s i => ∃ k : Nat, k ≤ 8 ∧ i = .int .i64 k ∧ s = .int .u32 (bitTo k (c ^^^ b) : Nat)) (fun _ i => 8 - (intOf i).toNat)
  case atStart => exact ⟨0, Nat.zero_le _, rfl, int_eq (u32_xor_nat c b hc (by omega))⟩
  case round =>
    obtain ⟨k, hk, rfl, rfl⟩ := hrel
    have hlt : bitTo k (c ^^^ b) < 4294967296 := bitTo_lt k (xor_lt32 hc (by omega))
    by_cases hk8 : k < 8
    · generalize hx : bitTo k (c ^^^ b) = x at *
      have HX : Hid (bitTo (k + 1) (c ^^^ b) = bit x) := by show bit (bitTo k (c ^^^ b)) = bit x; rw [hx]
      clear hx
      by_cases h : x % 2 = 1
      · have h' := and1_odd x hlt h
        go_wp2
        exact ⟨⟨k + 1, by omega, by go_num, int_eq (by rw [HX.out, bit_odd h, show ((x : Int) / 2) = ((x / 2 : Nat) : Int) from by omega]; exact u32_xor_nat (x / 2) 3988292384 (by omega) (by omega))⟩, by simp [intOf]; omega⟩
      · have h' := and1_ev x hlt h
        go_wp2
        exact ⟨⟨k + 1, by omega, by go_num, int_eq (by rw [HX.out, bit_ev h]; omega)⟩, by simp [intOf]; omega⟩
    · have h8 : k = 8 := by omega
      subst h8
      go_wp2
      go_ret
      exact ⟨rfl, rfl⟩

theorem take_snoc (s : ByteArray) (k : Nat) (h : k < s.size) : s.data.toList.take (k + 1) = s.data.toList.take k ++ [s[k]] := by
  rw [List.take_succ_eq_append_getElem (by simpa using h)]; rfl
theorem raw_snoc (c : Nat) (s : ByteArray) (k : Nat) (h : k < s.size) : raw c (s.data.toList.take (k + 1)) = byteStep (raw c (s.data.toList.take k)) s[k].toNat := by
  rw [take_snoc s k h, raw_append]; rfl

theorem turn_all (r : Nat) (hr : r < 4294967296) : wrap64 (bits .xor .u32 IntKind.u32.max (r : Int)) = ((r ^^^ 4294967295 : Nat) : Int) := by
  rw [show IntKind.u32.max = ((4294967295 : Nat) : Int) from by decide, u32_xor_nat _ _ (by omega) hr, Nat.xor_comm]
  have := xor_lt32 hr (show 4294967295 < 4294967296 by omega)
  unfold wrap64; omega
theorem sum_all (s : ByteArray) : raw 4294967295 (s.data.toList.take s.size) ^^^ 4294967295 = sum s.data.toList := by
  rw [List.take_of_length_le (by simp)]; rfl

set_option maxHeartbeats 400000 in
theorem crcSum (s : ByteArray) (w : World) (hs : s.size ≤ maxLen) :
    Calls Tryz.prog 69 #[.string s] w fun e w' => e = .returned (.int .i64 (sum s.data.toList : Nat)) ∧ w' = w := by
  unfold maxLen at hs
  go_enter Tryz.func69, Tryz.ntmps69
  go_wp2
  go_loop [3, 7] (fun c i => ∃ k : Nat, k ≤ s.size ∧ i = .int .i64 k ∧ c = .int .u32 (raw 4294967295 (s.data.toList.take k) : Nat)) (fun _ i => s.size - (intOf i).toNat)
  case atStart => exact ⟨0, Nat.zero_le _, rfl, rfl⟩
  case round =>
    obtain ⟨k, hk, rfl, rfl⟩ := hrel
    have hlt : raw 4294967295 (s.data.toList.take k) < 4294967296 := raw_lt _ (by omega)
    by_cases hk8 : k < s.size
    · have HX := hide (raw_snoc 4294967295 s k hk8)
      generalize raw 4294967295 (s.data.toList.take k) = x at *
      go_wp2_with (first | (go_at_call 88; refine (crcstep _ _ _ hlt s[k].toNat_lt).mono ?_; rintro e w' ⟨rfl, rfl⟩))
      exact ⟨⟨k + 1, by omega, by go_num, int_eq (by rw [HX.out])⟩, by simp [intOf]; omega⟩
    · have h8 : k = s.size := by omega
      subst h8
      go_wp2
      go_ret
      exact ⟨ret_int (by rw [turn_all _ hlt, sum_all]), rfl⟩

set_option maxHeartbeats 400000 in
theorem refSum (s : ByteArray) (w : World) (hs : s.size ≤ maxLen) :
    Calls Tryz.prog 79 #[.string s] w fun e w' => e = .returned (.int .i64 (sum s.data.toList : Nat)) ∧ w' = w := by
  unfold maxLen at hs
  go_enter Tryz.func79, Tryz.ntmps79
  go_wp2
  go_loop [3, 4] (fun c i => ∃ k : Nat, k ≤ s.size ∧ i = .int .i64 k ∧ c = .int .i64 (raw 4294967295 (s.data.toList.take k) : Nat)) (fun _ i => s.size - (intOf i).toNat)
  case atStart => exact ⟨0, Nat.zero_le _, rfl, rfl⟩
  case round =>
    obtain ⟨k, hk, rfl, rfl⟩ := hrel
    have hlt : raw 4294967295 (s.data.toList.take k) < 4294967296 := raw_lt _ (by omega)
    by_cases hk8 : k < s.size
    · have HX := hide (raw_snoc 4294967295 s k hk8)
      have hb := s[k].toNat_lt
      generalize raw 4294967295 (s.data.toList.take k) = x at *
      go_wp2
      go_loop [3, 5] (fun c i => ∃ j : Nat, j ≤ 8 ∧ i = .int .i64 j ∧ c = .int .i64 (bitTo j (x ^^^ s[k].toNat) : Nat)) (fun _ i => 8 - (intOf i).toNat)
      case atStart => exact ⟨0, Nat.zero_le _, rfl, int_eq (i64_xor_nat x _ hlt (by omega))⟩
      case round =>
        obtain ⟨j, hj, rfl, rfl⟩ := hrel
        have hlt' : bitTo j (x ^^^ s[k].toNat) < 4294967296 := bitTo_lt j (xor_lt32 hlt (by omega))
        by_cases hj8 : j < 8
        · go_wp2_with (first | (go_at_call 104; refine (refstep _ _ hlt').mono ?_; rintro e w' ⟨rfl, rfl⟩))
          exact ⟨⟨j + 1, by omega, by go_num, rfl⟩, by simp [intOf]; omega⟩
        · have h8 : j = 8 := by omega
          subst h8
          go_wp2
          exact ⟨⟨k + 1, by omega, by go_num, int_eq (by rw [HX.out]; rfl)⟩, by simp [intOf]; omega⟩
    · have h8 : k = s.size := by omega
      subst h8
      go_wp2
      go_ret
      exact ⟨ret_int (by rw [← sum_all]; exact i64_xor_nat _ 4294967295 hlt (by omega)), rfl⟩

set_option maxHeartbeats 400000 in
theorem crcPrint (s : ByteArray) (w : World) (hs : s.size ≤ maxLen) :
    Calls Tryz.prog 43 #[.string s] w fun e w' => e = .returned (.int .i64 (sum s.data.toList % 16 : Nat)) ∧ w' = w := by
  have hlt := sum_lt s.data.toList
  go_enter Tryz.func43, Tryz.ntmps43
  go_wp2_with (first | (go_at_call 69; refine (crcSum _ _ hs).mono ?_; rintro e w' ⟨rfl, rfl⟩))
  go_ret
  exact ⟨ret_int (by rw [← nat_mask4]; exact i64_and_nat _ 15 hlt (by omega)), rfl⟩
end Go.Proofs.YtedopplldpcinaaGreat.Crc
/-
  Contracts of crc.Bytes and of the document's answer for it.
-/
namespace Go.Proofs.YtedopplldpcinaaGreat.Crc
open Go.RowKit

theorem conv4 (w : World) (a b c d : Int) (t : TypeId) :
    (convert 41 9 (.slice (some ⟨w.heap.size, 0, none⟩) 4 4)).run Tryz.prog (w.alloc (.cells #[.int .u8 a, .int .u8 b, .int .u8 c, .int .u8 d] t)) = .ok (.string (strOfNums [a, b, c, d])) (w.alloc (.cells #[.int .u8 a, .int .u8 b, .int .u8 c, .int .u8 d] t)) := by
  refine run_convert_bytes_arg _ 41 5 Tryz.underlying41 Tryz.underlying5 w.heap.size 0 4 4 [a, b, c, d] rfl ?_ 9 Tryz.underlying9
  intro i hi
  have : i = 0 ∨ i = 1 ∨ i = 2 ∨ i = 3 := by omega
  rcases this with rfl | rfl | rfl | rfl <;> exact World.cell?_alloc_mark w _ t _ _

theorem strOf4 (n : Nat) (h : n < 4294967296) (a b c d : Int) (ha : a = (n : Int) % 256) (hb : b = (n : Int) / 256 % 256) (hc : c = (n : Int) / 65536 % 256) (hd : d = (n : Int) / 16777216) :
    strOfNums [a, b, c, d] = ⟨(four n).toArray⟩ := by
  subst ha hb hc hd
  have e0 : ((n : Int) % 256).toNat = n % 256 := by omega
  have e1 : ((n : Int) / 256 % 256).toNat = n / 256 % 256 := by omega
  have e2 : ((n : Int) / 65536 % 256).toNat = n / 65536 % 256 := by omega
  have e3 : ((n : Int) / 16777216).toNat = n / 16777216 % 256 := by omega
  unfold strOfNums four
  simp only [List.map_cons, List.map_nil, e0, e1, e2, e3]

set_option maxHeartbeats 400000 in
theorem refBytes_no (n : Int) (w : World) (h : n < 0 ∨ 4294967295 < n) :
    Calls Tryz.prog 78 #[.int .i64 n] w fun e w' => e = .returned (.string ByteArray.empty) ∧ w' = w := by
  rcases h with h | h
  · go_enter Tryz.func78, Tryz.ntmps78
    go_wp2
    go_ret
    exact ⟨rfl, rfl⟩
  · have h0 : ¬ n < 0 := by omega
    go_enter Tryz.func78, Tryz.ntmps78
    go_wp2
    go_ret
    exact ⟨rfl, rfl⟩

set_option maxHeartbeats 400000 in
theorem refBytes_yes (n : Nat) (w : World) (h : n < 4294967296) :
    Calls Tryz.prog 78 #[.int .i64 n] w fun e w' => e = .returned (.string ⟨(four n).toArray⟩) ∧ Mem w w' := by
  have h0 : ¬ ((n : Int) < 0) := by omega
  have h1 : ¬ (4294967295 < (n : Int)) := by omega
  have kc := conv4 w
  go_enter Tryz.func78, Tryz.ntmps78
  go_wp2
  go_ret
  exact ⟨ret_str (strOf4 n h _ _ _ _ rfl rfl rfl rfl), (Mem.refl _).alloc _⟩

end Go.Proofs.YtedopplldpcinaaGreat.Crc
/-
  Contracts of pack.Put and of the document's answer for it.
-/
namespace Go.Proofs.YtedopplldpcinaaGreat.Pack
open Go.RowKit

theorem cat_len {l : List UInt8} {m N : Nat} (hN : N ≤ maxN) (h : l ++ put m = put N) : l.length ≤ 5 := by
  have := congrArg List.length h
  rw [List.length_append] at this
  have := put_pos m
  have := put_six hN
  omega
theorem byte_hi (m : Nat) : (m : Int) % 128 + 128 = (((m % 128 + 128).toUInt8).toNat : Int) := by rw [u8_nat _ (by omega)]; omega
theorem byte_hi' (m : Nat) : 128 + (m : Int) % 128 = (((m % 128 + 128).toUInt8).toNat : Int) := by rw [u8_nat _ (by omega)]; omega
theorem byte_lo (m : Nat) (h : m < 128) : (m : Int) = ((m.toUInt8).toNat : Int) := by rw [u8_nat _ (by omega)]
theorem cat_hi {l : List UInt8} {m N : Nat} (h : l ++ put m = put N) (hm : ¬ m < 128) : (l ++ [(m % 128 + 128).toUInt8]) ++ put (m / 128) = put N := by
  rw [← h, put_hi hm, List.append_assoc]; rfl
theorem cat_lo {l : List UInt8} {m N : Nat} (h : l ++ put m = put N) (hm : m < 128) : l ++ [m.toUInt8] = put N := by
  rw [← h, put_lo hm]

set_option maxHeartbeats 1000000 in
theorem refPut_no (n : Int) (w : World) (h : n < 0 ∨ 1099511627776 < n) :
    Calls Tryz.prog 114 #[.int .i64 n] w fun e w' => e = .returned (.string ⟨(putI n).toArray⟩) ∧ Mem w w' := by
  rw [putI_no h]
  rcases h with h | h
  · go_enter Tryz.func114, Tryz.ntmps114
    go_wp2
    go_ret
    exact ⟨rfl, Mem.refl _⟩
  · have h0 : ¬ n < 0 := by omega
    go_enter Tryz.func114, Tryz.ntmps114
    go_wp2
    go_ret
    exact ⟨rfl, Mem.refl _⟩
theorem cat_mk (l : List UInt8) (b : UInt8) : (⟨l.toArray⟩ ++ ⟨#[b]⟩ : ByteArray) = ⟨(l ++ [b]).toArray⟩ := by
  apply ByteArray.ext; simp

set_option maxHeartbeats 1000000 in
set_option maxRecDepth 100000 in
theorem refPut_yes (N : Nat) (w : World) (hN : N ≤ maxN) :
    Calls Tryz.prog 114 #[.int .i64 N] w fun e w' => e = .returned (.string ⟨(put N).toArray⟩) ∧ Mem w w' := by
  have hN' := hN
  unfold maxN at hN'
  have h0 : ¬ ((N : Int) < 0) := by omega
  have h1 : ¬ (1099511627776 < (N : Int)) := by omega
  go_enter Tryz.func114, Tryz.ntmps114
  go_wp2
  go_loopw [0, 3] (fun n out wr => ∃ (m : Nat) (l : List UInt8), n = .int .i64 m ∧ m ≤ N ∧ l ++ put m = put N ∧ out = .string ⟨l.toArray⟩ ∧ Mem w wr) (fun n _ _ => (intOf n).toNat)
  case atStart => exact ⟨N, [], rfl, Nat.le_refl _, rfl, rfl, Mem.refl _⟩
  case round =>
    obtain ⟨m, l, rfl, hm, hl, rfl, hb⟩ := hrel
    have hlen := cat_len hN hl
    have HL := hide hl
    clear hl
    by_cases h : m < 128
    · have kc := fun w t => conv_one w (m : Int) _ (byte_lo m h) t
      go_wp2
      go_ret
      exact ⟨ret_str (by rw [cat_mk, cat_lo HL.out h]), hb.alloc _⟩
    · have HC := hide (cat_hi HL.out h)
      have hby := byte_hi' m
      generalize (m % 128 + 128).toUInt8 = b at *
      have kc := fun w t => conv_one w (128 + (m : Int) % 128) b hby t
      clear hby
      go_wp2
      go_roundw
      case rel => exact ⟨m / 128, _, by go_num, by omega, HC.out, str_eq (cat_mk _ _), hb.alloc _⟩
      case measure => simp [intOf]; omega
theorem refPut (n : Int) (w : World) :
    Calls Tryz.prog 114 #[.int .i64 n] w fun e w' => e = .returned (.string ⟨(putI n).toArray⟩) ∧ Mem w w' := by
  by_cases h : n < 0 ∨ 1099511627776 < n
  · exact refPut_no n w h
  · obtain ⟨N, rfl⟩ := Int.eq_ofNat_of_zero_le (show 0 ≤ n by omega)
    have hN : N ≤ maxN := by unfold maxN; omega
    rw [putI_nat hN]
    exact refPut_yes N w hN
end Go.Proofs.YtedopplldpcinaaGreat.Pack
/-
  Contracts of pack.Take and of the document's answer for it.
-/
namespace Go.Proofs.YtedopplldpcinaaGreat.Pack
open Go.RowKit

/-- what Take answers -/
def takeV : Option (Nat × List UInt8) → Value
  | none => .tuple #[.int .i64 0, .string ⟨#[]⟩, .bool false]
  | some (n, r) => .tuple #[.int .i64 n, .string ⟨r.toArray⟩, .bool true]

theorem drop_at (s : ByteArray) (k : Nat) (h : k < s.size) : s.data.toList.drop k = s[k] :: s.data.toList.drop (k + 1) := by
  rw [List.drop_eq_getElem_cons (by simpa using h)]; rfl
theorem tk_next (s : ByteArray) (k S U : Nat) (h : k < s.size) (h6 : k < 6) (hb : 128 ≤ s[k].toNat) :
    tk k S U (s.data.toList.drop k) = tk (k + 1) (S + s[k].toNat % 128 * U) (U * 128) (s.data.toList.drop (k + 1)) := by
  rw [drop_at s k h]
  conv => lhs; unfold tk
  rw [if_neg (by omega), if_pos hb]
theorem tk_last (s : ByteArray) (k S U : Nat) (h : k < s.size) (h6 : k < 6) (hb : s[k].toNat < 128) :
    tk k S U (s.data.toList.drop k) = if (0 < s[k].toNat ∨ k = 0) ∧ S + s[k].toNat * U ≤ maxN then some (S + s[k].toNat * U, s.data.toList.drop (k + 1)) else none := by
  rw [drop_at s k h]
  unfold tk
  rw [if_neg (by omega), if_neg (by omega)]
theorem tk_over (s : ByteArray) (k S U : Nat) (h : 6 ≤ k ∨ s.size ≤ k) : tk k S U (s.data.toList.drop k) = none := by
  by_cases hk : k < s.size
  · rw [drop_at s k hk]; unfold tk; rw [if_pos (by omega)]
  · rw [List.drop_of_length_le (by simp; omega)]; rfl
theorem pow_le5 {k : Nat} (h : k < 6) : 128 ^ k ≤ 34359738368 := by
  have := Nat.pow_le_pow_right (n := 128) (by omega) (show k ≤ 5 by omega)
  simpa using this
theorem prod_le {d U : Nat} (hd : d < 128) : d * U ≤ 127 * U := Nat.mul_le_mul_right U (by omega)

theorem mul_cast (d U : Nat) : ((d * U : Nat) : Int) = (d : Int) * (U : Int) := by simp
theorem sum_lt {d S U : Nat} (hd : d < 128) (hS : S < U) : S + d * U < U * 128 := by
  have := prod_le (U := U) hd; omega

theorem ext_drop (s : ByteArray) (k : Nat) : s.extract k s.size = ⟨(s.data.toList.drop k).toArray⟩ := by
  apply ByteArray.ext
  rw [ByteArray.data_extract]
  apply Array.ext'
  rw [Array.toList_extract, List.extract_eq_take_drop]
  rw [List.take_of_length_le (by simp)]
theorem fin_yes (s : ByteArray) (k S U : Nat) (h : k < s.size) (h6 : k < 6) (hb : s[k].toNat < 128) (h0 : 0 < s[k].toNat ∨ k = 0) (hm : (S : Int) + (s[k].toNat : Int) % 128 * (U : Int) ≤ 1099511627776) (ht : tk k S U (s.data.toList.drop k) = take s.data.toList) :
    .tuple #[.int .i64 ((S : Int) + (s[k].toNat : Int) % 128 * (U : Int)), .string (s.extract (k + 1) s.size), .bool true] = takeV (take s.data.toList) := by
  have e : (s[k].toNat : Int) % 128 = (s[k].toNat : Int) := by omega
  rw [e] at hm ⊢
  have e2 : (S : Int) + (s[k].toNat : Int) * (U : Int) = ((S + s[k].toNat * U : Nat) : Int) := by simp
  rw [e2] at hm ⊢
  rw [← ht, tk_last s k S U h h6 hb, if_pos ⟨h0, by unfold maxN; omega⟩, ext_drop]
  rfl
theorem fin_big (s : ByteArray) (k S U : Nat) (h : k < s.size) (h6 : k < 6) (hb : s[k].toNat < 128) (hm : 1099511627776 < (S : Int) + (s[k].toNat : Int) % 128 * (U : Int)) (ht : tk k S U (s.data.toList.drop k) = take s.data.toList) :
    .tuple #[.int .i64 0, .string ⟨#[]⟩, .bool false] = takeV (take s.data.toList) := by
  have e : (s[k].toNat : Int) % 128 = (s[k].toNat : Int) := by omega
  rw [e] at hm
  have e2 : (S : Int) + (s[k].toNat : Int) * (U : Int) = ((S + s[k].toNat * U : Nat) : Int) := by simp
  rw [e2] at hm
  rw [← ht, tk_last s k S U h h6 hb, if_neg (by unfold maxN; omega)]
  rfl
theorem fin_nought (s : ByteArray) (k S U : Nat) (h : k < s.size) (h6 : k < 6) (hb : s[k].toNat < 128) (h0 : ¬ (0 < s[k].toNat ∨ k = 0)) (ht : tk k S U (s.data.toList.drop k) = take s.data.toList) :
    .tuple #[.int .i64 0, .string ⟨#[]⟩, .bool false] = takeV (take s.data.toList) := by
  rw [← ht, tk_last s k S U h h6 hb, if_neg (fun x => h0 x.1)]
  rfl
theorem fin_over (s : ByteArray) (k S U : Nat) (h : 6 ≤ k ∨ s.size ≤ k) (ht : tk k S U (s.data.toList.drop k) = take s.data.toList) :
    .tuple #[.int .i64 0, .string ⟨#[]⟩, .bool false] = takeV (take s.data.toList) := by
  rw [← ht, tk_over s k S U h]
  rfl
theorem next_sum (d S U : Nat) : (S : Int) + (d : Int) % 128 * (U : Int) = ((S + d % 128 * U : Nat) : Int) := by simp
theorem next_rel (s : ByteArray) (k S U : Nat) (h : k < s.size) (h6 : k < 6) (hb : 128 ≤ s[k].toNat) (hU : U = 128 ^ k) (hS : S < U) (ht : tk k S U (s.data.toList.drop k) = take s.data.toList) :
    U * 128 = 128 ^ (k + 1) ∧ S + s[k].toNat % 128 * U < U * 128 ∧ tk (k + 1) (S + s[k].toNat % 128 * U) (U * 128) (s.data.toList.drop (k + 1)) = take s.data.toList :=
  ⟨by rw [hU, Nat.pow_succ], sum_lt (by omega) hS, by rw [← ht, tk_next s k S U h h6 hb]⟩

set_option maxHeartbeats 1000000 in
set_option maxRecDepth 100000 in
theorem refTake (s : ByteArray) (w : World) (hs : s.size ≤ maxLen) :
    Calls Tryz.prog 113 #[.string s] w fun e w' => e = .returned (takeV (take s.data.toList)) ∧ ∃ n, w' = w.drewN n := by
  unfold maxLen at hs
  go_enter Tryz.func113, Tryz.ntmps113
  go_wp2
  go_loop [5, 6, 7] (fun sm wt i => ∃ k S U : Nat, i = .int .i64 k ∧ sm = .int .i64 S ∧ wt = .int .i64 U ∧ k ≤ 6 ∧ k ≤ s.size ∧ U = 128 ^ k ∧ S < U ∧ tk k S U (s.data.toList.drop k) = take s.data.toList) (fun _ _ i => 6 - (intOf i).toNat)
  case atStart => exact ⟨0, 0, 1, rfl, rfl, rfl, by omega, by omega, rfl, by omega, rfl⟩
  case round =>
    obtain ⟨k, S, U, rfl, rfl, rfl, hk6, hks, hU, hS, htk⟩ := hrel
    have HU := hide hU
    have HT := hide htk
    clear hU htk
    by_cases hlt : k < 6 ∧ k < s.size
    · obtain ⟨h6, hsz⟩ := hlt
      have hUb : U ≤ 34359738368 := by rw [HU.out]; exact pow_le5 h6
      have hb := s[k].toNat_lt
      have hp0 : 0 ≤ (s[k].toNat : Int) % 128 * (U : Int) := Int.mul_nonneg (by omega) (by omega)
      have hp1 : (s[k].toNat : Int) % 128 * (U : Int) ≤ 127 * (U : Int) := Int.mul_le_mul_of_nonneg_right (by omega) (by omega)
      by_cases h128 : 128 ≤ s[k].toNat
      · have HN := hide (next_rel s k S U hsz h6 h128 HU.out hS HT.out)
        go_wp2
        go_round
        case rel => exact ⟨k + 1, S + s[k].toNat % 128 * U, U * 128, by go_num, int_eq (next_sum _ _ _), int_eq (by simp), by omega, by omega, HN.out.1, HN.out.2.1, HN.out.2.2⟩
        case measure => simp [intOf]; omega
      · have hlo : s[k].toNat < 128 := by omega
        by_cases hc : 0 < s[k].toNat ∨ k = 0
        · by_cases hm : (S : Int) + (s[k].toNat : Int) % 128 * (U : Int) ≤ 1099511627776
          · have HF := hide (fin_yes s k S U hsz h6 hlo hc hm HT.out)
            have hm' : decide (1099511627776 < (S : Int) + (s[k].toNat : Int) % 128 * (U : Int)) = false := by rw [decide_eq_false_iff_not]; omega
            by_cases hk0 : k = 0
            · have hk1 : (k : Int) ≤ 0 := by omega
              clear hc hk0
              go_wp2
              go_quiet (fail)
              go_wp2
              go_ret3
              exact ⟨ret_eq HF.out, _, rfl⟩
            · have hk1 : 0 < (k : Int) := by omega
              have h0' : ((s[k].toNat : Int) == 0) = false := by rw [beq_eq_false_iff_ne]; omega
              clear hc
              go_wp2
              go_quiet (fail)
              go_wp2
              go_ret3
              exact ⟨ret_eq HF.out, _, rfl⟩
          · have HF := hide (fin_big s k S U hsz h6 hlo (by omega) HT.out)
            have hm' : decide (1099511627776 < (S : Int) + (s[k].toNat : Int) % 128 * (U : Int)) = true := by rw [decide_eq_true_iff]; omega
            clear hc
            go_wp2
            go_ret3
            exact ⟨ret_eq HF.out, 0, rfl⟩
        · have HF := hide (fin_nought s k S U hsz h6 hlo hc HT.out)
          have h0' : ((s[k].toNat : Int) == 0) = true := by rw [beq_iff_eq]; omega
          have hk1 : 0 < (k : Int) := by omega
          by_cases hm : (S : Int) + (s[k].toNat : Int) % 128 * (U : Int) ≤ 1099511627776
          · have hm' : decide (1099511627776 < (S : Int) + (s[k].toNat : Int) % 128 * (U : Int)) = false := by rw [decide_eq_false_iff_not]; omega
            clear hc
            go_wp2
            go_ret3
            exact ⟨ret_eq HF.out, 0, rfl⟩
          · have hm' : decide (1099511627776 < (S : Int) + (s[k].toNat : Int) % 128 * (U : Int)) = true := by rw [decide_eq_true_iff]; omega
            clear hc
            go_wp2
            go_ret3
            exact ⟨ret_eq HF.out, 0, rfl⟩
    · have HF := hide (fin_over s k S U (by omega) HT.out)
      by_cases hsz : k < s.size
      · go_wp2
        go_ret3
        exact ⟨ret_eq HF.out, 0, rfl⟩
      · go_wp2
        go_ret3
        exact ⟨ret_eq HF.out, 0, rfl⟩
end Go.Proofs.YtedopplldpcinaaGreat.Pack
/-
  Contracts of pack.Unpack, pack.Pack, of the document's answers for them, and of the laws' own helpers.
-/
namespace Go.Proofs.YtedopplldpcinaaGreat.Pack
open Go.RowKit

/-- numbers as Go's -/
def ints (l : List Nat) : List Int := l.map fun n : Nat => (n : Int)
theorem ints_snoc (l : List Nat) (n : Nat) : ints (l ++ [n]) = ints l ++ [(n : Int)] := by simp [ints]
theorem ints_length (l : List Nat) : (ints l).length = l.length := by simp [ints]
/-- what Unpack answers -/
def unpackOk (base : Nat) (o : Option (List Nat × List UInt8)) (e : Ending) (w' : World) : Prop := match o with
  | none => e = .returned (.tuple #[.slice none 0 0, .string ⟨#[]⟩, .int .i64 20])
  | some (l, r) => ∃ v, e = .returned (.tuple #[v, .string ⟨r.toArray⟩, .int .i64 0]) ∧ w'.ownsRow base 3 1 v l.length (icells (ints l))
theorem size_mk (l : List UInt8) : (ByteArray.mk l.toArray).size = l.length := by simp [ByteArray.size]
theorem round_in {k c : Nat} {r0 q : List UInt8} {l : List Nat} (h : takes k r0 = some (l, q)) (hk : k < c) (hn : take q = none) : takes c r0 = none := takes_stop h hn hk

set_option maxHeartbeats 1000000 in
set_option maxRecDepth 100000 in
theorem refUnpack (s : ByteArray) (w : World) (hs : s.size ≤ maxLen) :
    Calls Tryz.prog 101 #[.string s] w fun e w' => unpackOk w.heap.size (unpack s.data.toList) e w' ∧ Mem w w' := by
  cases ht : take s.data.toList with
  | none =>
    have HF := hide (unpack_none ht)
    have HT := hide ht
    clear ht
    go_enter Tryz.func101, Tryz.ntmps101
    go_wp2_with fail
    refine (refTake s _ hs).mono ?_
    rintro e w1 ⟨rfl, n1, rfl⟩
    rw [HT.out]
    simp only [takeV]
    go_wp2_with fail
    go_ret3
    refine ⟨?_, (Mem.refl _).drewN _⟩
    rw [HF.out]; exact rfl
  | some p =>
    obtain ⟨c, r0⟩ := p
    have HF := hide (unpack_at ht)
    have hc := (take_some ht).2
    have hr0 := take_len ht
    have hr1 : r0.length ≤ maxLen := by simp at hr0; omega
    have hr2 := hr1
    unfold maxLen at hr2
    have HT := hide ht
    unfold maxN at hc
    clear ht
    by_cases hover : r0.length < c
    · have HR : Hid (takes c r0 = none) := by
        show takes c r0 = none
        cases h : takes c r0 with
        | none => rfl
        | some y => have := takes_len (l := y.1) (z := y.2) h; omega
      have hover' : (r0.length : Int) < (c : Int) := by omega
      go_enter Tryz.func101, Tryz.ntmps101
      go_wp2_with fail
      refine (refTake s _ hs).mono ?_
      rintro e w1 ⟨rfl, n1, rfl⟩
      rw [HT.out]
      simp only [takeV]
      go_wp2_with fail
      go_ret3
      refine ⟨?_, (Mem.refl _).drewN _⟩
      rw [HF.out, HR.out]; exact rfl
    have hover' : ¬ (r0.length : Int) < (c : Int) := by omega
    go_enter Tryz.func101, Tryz.ntmps101
    go_wp2_with fail
    refine (refTake s _ hs).mono ?_
    rintro e w1 ⟨rfl, n1, rfl⟩
    rw [HT.out]
    simp only [takeV]
    go_wp2_with fail
    go_loopw [6, 8, 9] (fun rest v i wr => ∃ (k : Nat) (l : List Nat) (q : List UInt8), k ≤ c ∧ i = .int .i64 k ∧ rest = .string ⟨q.toArray⟩ ∧ takes k r0 = some (l, q) ∧ wr.ownsRow w.heap.size 3 1 v k (icells (ints l)) ∧ Mem w wr) (fun _ _ i _ => c - (intOf i).toNat)
    case atStart => exact ⟨0, [], r0, Nat.zero_le _, rfl, rfl, rfl, World.ownsRow_nil _ _ _ _, (Mem.refl _).drewN _⟩
    case round =>
      obtain ⟨k, l, q, hk, rfl, rfl, hq, hown, hm⟩ := hrel
      have hql := takes_len hq
      have hqs : (ByteArray.mk q.toArray).size ≤ maxLen := by rw [size_mk]; omega
      have HQ := hide hq
      clear hq
      by_cases hlt : k < c
      · cases hn : take q with
        | none =>
          have HN := hide hn
          have HR := hide (round_in HQ.out hlt hn)
          clear hn
          go_wp2_with fail
          refine (refTake _ _ hqs).mono ?_
          rintro e w2 ⟨rfl, n2, rfl⟩
          rw [show take (ByteArray.mk q.toArray).data.toList = none from HN.out]
          simp only [takeV]
          go_wp2_with fail
          go_ret3
          refine ⟨?_, hm.drewN _⟩
          rw [HF.out, HR.out]; exact rfl
        | some y =>
          obtain ⟨n, z⟩ := y
          have HN := hide hn
          have HR := hide (takes_snoc HQ.out hn)
          clear hn
          go_wp2_with fail
          refine (refTake _ _ hqs).mono ?_
          rintro e w2 ⟨rfl, n2, rfl⟩
          rw [show take (ByteArray.mk q.toArray).data.toList = some (n, z) from HN.out]
          simp only [takeV]
          have hm2 := hm.drewN n2
          have hown2 := owns_below hown ((Mem.refl wr).drewN n2)
          generalize wr.drewN n2 = w2 at *
          go_wp2_with (first | (at_builtin; refine pushI rfl _ _ rfl w.heap.size _ (ints l) k rfl hown2 hm2.size (n : Int) rfl (by omega) ?_) | fail)
          intro v' w' h1 h2
          rw [← ints_snoc] at h1
          clear hown hown2
          go_wp2_with fail
          go_roundw
          case rel => exact ⟨k + 1, _, z, by omega, by go_num, rfl, HR.out, h1, Below.trans hm2 h2⟩
          case measure => simp [intOf]; omega
      · have hke : k = c := by omega
        subst hke
        have hlk := (takes_some HQ.out).2.1
        go_wp2_with fail
        go_ret3
        refine ⟨?_, hm⟩
        rw [HF.out, HQ.out]
        exact ⟨_, rfl, by rw [hlk]; exact hown⟩

/-- two lists that are the same ahead of k -/
theorem same_end {a b : List Int} (hl : a.length = b.length) (h : ∀ j, j < a.length → a.getD j 0 = b.getD j 0) : a = b := by
  apply List.ext_getElem hl
  intro i h1 h2
  have := h i h1
  simpa [h1, h2] using this

set_option maxHeartbeats 1000000 in
set_option maxRecDepth 100000 in
theorem refSame (va vb : Value) (za zb : List Int) (w : World) (ha : Ints .i64 w va za) (hb : Ints .i64 w vb zb) :
    Calls Tryz.prog 15 #[va, vb] w fun e w' => e = .returned (.bool (decide (za = zb))) ∧ ∃ n, w' = w.drewN n := by
  obtain ⟨oa, ca, rfl⟩ := ha.shape
  obtain ⟨ob, cb, rfl⟩ := hb.shape
  have hla := ha.1
  have hlb := hb.1
  unfold maxLen at hla hlb
  by_cases hl : za.length = zb.length
  · have hl' : ((za.length : Int) != (zb.length : Int)) = false := by rw [bne_eq_false_iff_eq]; omega
    by_cases h0 : 0 < za.length
    · obtain ⟨ba, fa, rfl, hca⟩ := ha.at h0
      obtain ⟨bb, fb, rfl, hcb⟩ := hb.at (by omega)
      have HL := hide hl
      clear hl
      go_enter Tryz.func15, Tryz.ntmps15
      go_wp2
      go_loopw [5] (fun i wr => ∃ k : Nat, k ≤ za.length ∧ i = .int .i64 k ∧ (∀ j, j < k → za.getD j 0 = zb.getD j 0) ∧ ∃ n, wr = w.drewN n) (fun i _ => za.length - (intOf i).toNat)
      case atStart => exact ⟨0, Nat.zero_le _, rfl, by omega, 0, rfl⟩
      case round =>
        obtain ⟨k, hk, rfl, hpre, n, rfl⟩ := hrel
        have HP := hide hpre
        clear hpre
        by_cases hlt : k < za.length
        · have hltb : k < zb.length := by rw [← HL.out]; exact hlt
          have c1 := hca k hlt
          have c2 := hcb k hltb
          have hltb' : (k : Int) < (zb.length : Int) := by omega
          have hlt' : (k : Int) < (za.length : Int) := by omega
          clear hca hcb
          obtain ⟨x, hx⟩ : ∃ x, x = za.getD k 0 := ⟨_, rfl⟩
          obtain ⟨y, hy⟩ : ∃ y, y = zb.getD k 0 := ⟨_, rfl⟩
          rw [← hx] at c1
          rw [← hy] at c2
          have HX := hide hx
          have HY := hide hy
          clear hx hy
          by_cases he : x = y
          · have hne : (x != y) = false := by rw [bne_eq_false_iff_eq]; exact he
            have HE := hide he
            clear he
            go_wp2
            go_quiet (fail)
            go_wp2
            go_roundw
            case rel =>
              refine ⟨k + 1, by omega, by go_num, ?_, _, rfl⟩
              intro j hj
              by_cases hjk : j < k
              · exact HP.out j hjk
              · have : j = k := by omega
                subst this
                rw [← HX.out, ← HY.out, HE.out]
            case measure => simp [intOf]; omega
          · have hne : (x != y) = true := by rw [bne_iff_ne]; exact he
            go_wp2
            go_quiet (fail)
            go_wp2
            go_ret
            have : decide (za = zb) = false := by
              rw [decide_eq_false_iff_not]
              intro h
              exact he (by rw [HX.out, HY.out, h])
            exact ⟨ret_b this.symm, _, World.drewN_drewN _ _ _⟩
        · have hke : k = za.length := by omega
          subst hke
          go_wp2
          go_ret
          have : decide (za = zb) = true := by
            rw [decide_eq_true_iff]
            exact same_end HL.out HP.out
          exact ⟨ret_b this.symm, _, rfl⟩
    · have ea : za = [] := List.length_eq_zero_iff.1 (by omega)
      have eb : zb = [] := List.length_eq_zero_iff.1 (by omega)
      subst ea
      subst eb
      go_enter Tryz.func15, Tryz.ntmps15
      go_wp2
      refine wp_loop_rounds 1 ?_
      rw [rounds_succ]
      go_wp2
      go_ret
      exact ⟨rfl, 0, rfl⟩
  · have hl' : ((za.length : Int) != (zb.length : Int)) = true := by rw [bne_iff_ne]; omega
    have HD : Hid (decide (za = zb) = false) := by
      show decide (za = zb) = false
      rw [decide_eq_false_iff_not]; intro h; exact hl (by rw [h])
    go_enter Tryz.func15, Tryz.ntmps15
    go_wp2
    go_ret
    exact ⟨ret_b HD.out.symm, 0, rfl⟩
end Go.Proofs.YtedopplldpcinaaGreat.Pack
/-
  Contracts of pack.Pack, of the document's answer for it, and of the laws' own helper.
-/
namespace Go.Proofs.YtedopplldpcinaaGreat.Pack
open Go.RowKit

/-- each may be packed -/
abbrev okAll (zs : List Int) : Prop := ∀ z ∈ zs, 0 ≤ z ∧ z ≤ 1099511627776
/-- what Pack answers -/
def packV (zs : List Int) : Value := if okAll zs then .tuple #[.string ⟨(packI zs).toArray⟩, .int .i64 0] else .tuple #[.string ⟨#[]⟩, .int .i64 1]
theorem packV_yes {zs : List Int} (h : okAll zs) : packV zs = .tuple #[.string ⟨(packI zs).toArray⟩, .int .i64 0] := by unfold packV; rw [if_pos h]
theorem packV_no {zs : List Int} {k : Nat} (h : k < zs.length) (hk : ¬ (0 ≤ zs.getD k 0 ∧ zs.getD k 0 ≤ 1099511627776)) : packV zs = .tuple #[.string ⟨#[]⟩, .int .i64 1] := by
  unfold packV; rw [if_neg]
  intro ha
  have hm : zs.getD k 0 ∈ zs := by simp [h]
  exact hk (ha _ hm)
theorem okAll_snoc {zs : List Int} {k : Nat} (h : k < zs.length) (hk : okAll (zs.take k)) (hz : 0 ≤ zs.getD k 0 ∧ zs.getD k 0 ≤ 1099511627776) : okAll (zs.take (k + 1)) := by
  intro z hm
  rw [List.take_succ_eq_append_getElem h] at hm
  rcases List.mem_append.1 hm with hm | hm
  · exact hk z hm
  · rw [List.mem_singleton] at hm
    have : zs.getD k 0 = zs[k] := by simp [h]
    rw [hm, ← this]; exact hz
theorem putsI_at {zs : List Int} {k : Nat} (h : k < zs.length) (p : List UInt8) : p ++ putsI (zs.take k) ++ putI (zs.getD k 0) = p ++ putsI (zs.take (k + 1)) := by
  rw [List.take_succ_eq_append_getElem h, putsI_snoc, List.append_assoc]
  have : zs.getD k 0 = zs[k] := by simp [h]
  rw [this]
theorem packI_end (zs : List Int) : put zs.length ++ putsI (zs.take zs.length) = packI zs := by rw [List.take_of_length_le (Nat.le_refl _)]; rfl
theorem pre_len (zs : List Int) (k : Nat) (h : zs.length ≤ 1099511627776) : (put zs.length ++ putsI (zs.take k)).length ≤ 6 * zs.length + 6 := by
  rw [List.length_append]
  have h1 := put_six (show zs.length ≤ maxN from h)
  have h2 := putsI_len (zs.take k)
  have h3 : (zs.take k).length ≤ zs.length := by rw [List.length_take]; omega
  omega
theorem putI_ne {z : Int} (h : 0 ≤ z ∧ z ≤ 1099511627776) : (putI z).isEmpty = false := by
  rw [putI_yes h.1 h.2]
  cases hp : put z.toNat with
  | nil => exact absurd hp (put_ne _)
  | cons a l => rfl

theorem cat_two (l m : List UInt8) : (⟨l.toArray⟩ ++ ⟨m.toArray⟩ : ByteArray) = ⟨(l ++ m).toArray⟩ := by
  apply ByteArray.ext; simp

set_option maxHeartbeats 2000000 in
set_option maxRecDepth 100000 in
theorem refPack (v : Value) (zs : List Int) (w : World) (h : Ints .i64 w v zs) (hl : zs.length ≤ 1099511627776) :
    Calls Tryz.prog 103 #[v] w fun e w' => e = .returned (packV zs) ∧ Mem w w' := by
  obtain ⟨oa, ca, rfl⟩ := h.shape
  have hS6 := put_six (show zs.length ≤ maxN from hl)
  go_enter Tryz.func103, Tryz.ntmps103
  go_wp2_with fail
  refine (refPut _ _).mono ?_
  rintro e w1 ⟨rfl, hm1⟩
  rw [putI_nat (show zs.length ≤ maxN from hl)]
  go_wp2_with fail
  go_loopw [4, 5] (fun out i wr => ∃ k : Nat, k ≤ zs.length ∧ i = .int .i64 k ∧ okAll (zs.take k) ∧ out = .string ⟨(put zs.length ++ putsI (zs.take k)).toArray⟩ ∧ Mem w wr) (fun _ i _ => zs.length - (intOf i).toNat)
  case atStart =>
    refine ⟨0, Nat.zero_le _, rfl, by intro z hz; simp at hz, ?_, hm1⟩
    rw [List.take_zero, show putsI [] = [] from rfl, List.append_nil]
  case round =>
    obtain ⟨k, hk, rfl, hok, ho, hm⟩ := hrel
    have HO := hide hok
    clear hok
    by_cases hlt : k < zs.length
    · subst ho
      obtain ⟨b, off, rfl, hc⟩ := (h.mem hm).at (by omega)
      have hck := hc k hlt
      clear hc
      have hpl := pre_len zs k hl
      have HN := @packV_no zs k hlt
      have HS := hide (okAll_snoc hlt HO.out)
      have HP := hide (putsI_at hlt (put zs.length))
      have HV := hide HN
      clear HN
      generalize zs.getD k 0 = z at *
      generalize put zs.length ++ putsI (zs.take k) = L at *
      by_cases hz : 0 ≤ z ∧ z ≤ 1099511627776
      · have hze := putI_ne hz
        have hz6 := putI_six z
        have HZ := hide hz
        clear hz
        go_wp2_with fail
        refine (refPut z _).mono ?_
        rintro e w2 ⟨rfl, hm2'⟩
        have hm3 := hm.trans hm2'
        clear hck
        have hsum : ¬ (9223372036854775807 < L.length + (putI z).length) := by omega
        go_wp2_with fail
        go_roundw
        case rel => exact ⟨k + 1, by omega, by go_num, HS.out HZ.out, str_eq (by rw [cat_two, HP.out]), hm3⟩
        case measure => simp [intOf]; omega
      · go_wp2_with fail
        refine (refPut z _).mono ?_
        rintro e w2 ⟨rfl, hm2'⟩
        rw [putI_no (by omega)]
        go_wp2_with fail
        go_ret2
        exact ⟨ret_eq (HV.out hz).symm, hm.trans hm2'⟩
    · have hke : k = zs.length := by omega
      subst hke
      have HV : Hid (packV zs = _) := packV_yes (by have := HO.out; rwa [List.take_of_length_le (Nat.le_refl _)] at this)
      rw [packI_end] at ho
      subst ho
      go_wp2_with fail
      go_ret2
      exact ⟨ret_eq HV.out.symm, hm⟩

end Go.Proofs.YtedopplldpcinaaGreat.Pack
/-
  Layer 3: which records are right (the program's and the document's).
-/
namespace Go.Proofs.YtedopplldpcinaaGreat.Tag
open Go.RowKit

theorem drop_get (l : List Int) (k : Nat) (h : k < l.length) : l.drop k = l.getD k 0 :: l.drop (k + 1) := by
  rw [List.drop_eq_getElem_cons h]; simp [h]
theorem places_at {l : List Int} {k : Nat} (h : k < l.length) : places (l.drop k) = (place (l.getD k 0) && places (l.drop (k + 1))) := by rw [drop_get l k h]; rfl
theorem place_yes {z : Int} (h : -1 ≤ z) (h' : z < 512) : place z = true := by simp [place, h, h']
theorem place_no {z : Int} (h : z < -1 ∨ 512 ≤ z) : place z = false := by
  unfold place; rw [Bool.and_eq_false_iff]
  rcases h with h | h
  · exact .inl (by simp; omega)
  · exact .inr (by simp; omega)
theorem rise_at {l : List Int} {k : Nat} (last : Int) (h : k < l.length) : rise last (l.drop k) = (decide (last < l.getD k 0) && decide (l.getD k 0 < 64) && rise (l.getD k 0) (l.drop (k + 1))) := by rw [drop_get l k h]; rfl
theorem rise_end (last : Int) (l : List Int) : rise last (l.drop l.length) = true := by rw [List.drop_length]; rfl
theorem places_end (l : List Int) : places (l.drop l.length) = true := by rw [List.drop_length]; rfl

theorem keysOk_no {l : List Int} (h : l.length < 1 ∨ 8 < l.length) : keysOk l = false := by
  unfold keysOk
  rw [Bool.and_eq_false_iff, Bool.and_eq_false_iff]
  rcases h with h | h
  · exact .inl (.inl (decide_eq_false (by omega)))
  · exact .inl (.inr (decide_eq_false (by omega)))
theorem keysOk_in {l : List Int} (h1 : 1 ≤ l.length) (h8 : l.length ≤ 8) : keysOk l = rise (-1) l := by
  unfold keysOk; simp [h1, h8]

theorem valsOk_1 (ks vs : List Int) : valsOk 1 ks vs = decide (vs.length = 0) := by unfold valsOk; rw [if_pos rfl]
theorem valsOk_2 (ks vs : List Int) : valsOk 2 ks vs = (decide (vs.length = ks.length) && places vs) := by unfold valsOk; rw [if_neg (by decide), if_pos rfl]
theorem valsOk_no {k : Int} (ks vs : List Int) (h1 : ¬ k = 1) (h2 : ¬ k = 2) : valsOk k ks vs = false := by unfold valsOk; rw [if_neg h1, if_neg h2]
theorem len_eq (a b : Nat) : (((a : Int) == (b : Int)) : Bool) = decide (a = b) := by
  by_cases h : a = b
  · subst h; simp
  · rw [decide_eq_false h]; simp; omega

theorem seqOk_yes {s : Int} (h0 : 0 ≤ s) (h1 : s ≤ 1099511627776) : seqOk s = true := by simp [seqOk, h0, h1]
theorem seqOk_no {s : Int} (h : s < 0 ∨ 1099511627776 < s) : seqOk s = false := by
  unfold seqOk; rw [Bool.and_eq_false_iff]
  rcases h with h | h
  · exact .inl (decide_eq_false (by omega))
  · exact .inr (decide_eq_false (by omega))

end Go.Proofs.YtedopplldpcinaaGreat.Tag
/-
  Layer 3: which records are right, by the document.
-/
namespace Go.Proofs.YtedopplldpcinaaGreat.Tag
open Go.RowKit

/-- the key ahead of place k -/
def ahead (l : List Int) (k : Nat) : Int := if k = 0 then -1 else l.getD (k - 1) 0
theorem ahead_zero (l : List Int) : ahead l 0 = -1 := by simp [ahead]
theorem ahead_succ (l : List Int) (k : Nat) : ahead l (k + 1) = l.getD k 0 := by simp [ahead]
theorem keysOk_f {l : List Int} (h : rise (-1) l = false) : keysOk l = false := by unfold keysOk; rw [h, Bool.and_false]
theorem keysOk_t {l : List Int} (h : rise (-1) l = true) : keysOk l = (decide (1 ≤ l.length) && decide (l.length ≤ 8)) := by unfold keysOk; rw [h, Bool.and_true]

set_option maxHeartbeats 1000000 in
set_option maxRecDepth 100000 in
theorem refKeys (v : Value) (ks : List Int) (w : World) (h : Ints .i64 w v ks) :
    Calls Tryz.prog 102 #[v] w fun e w' => e = .returned (.bool (keysOk ks)) ∧ ∃ n, w' = w.drewN n := by
  obtain ⟨oa, ca, rfl⟩ := h.shape
  have hl := h.1
  unfold maxLen at hl
  go_enter Tryz.func102, Tryz.ntmps102
  go_wp2
  go_loopw [3] (fun i wr => ∃ (k : Nat), k ≤ ks.length ∧ i = .int .i64 k ∧ rise (-1) ks = rise (ahead ks k) (ks.drop k) ∧ -1 ≤ ahead ks k ∧ ∃ n, wr = w.drewN n) (fun i _ => ks.length - (intOf i).toNat)
  case atStart => exact ⟨0, Nat.zero_le _, rfl, rfl, by simp [ahead], 0, rfl⟩
  case round =>
    obtain ⟨k, hk, rfl, hp, hx, n, rfl⟩ := hrel
    by_cases hlt : k < ks.length
    · obtain ⟨b, off, rfl, hc⟩ := h.at (by omega)
      have c1 := hc k hlt
      rw [rise_at _ hlt] at hp
      have hlt' : (k : Int) < (ks.length : Int) := by omega
      have hz0 : (0 : Int) ≤ (k : Int) := by omega
      have hnext : ahead ks (k + 1) = ks.getD k 0 := by simp [ahead]
      have HN := hide hnext
      clear hnext
      have HP := hide hp
      clear hp
      by_cases h1 : ks.getD k 0 < 0
      · have HV : Hid (keysOk ks = false) := by
          refine keysOk_f ?_
          rw [HP.out, decide_eq_false (show ¬ ahead ks k < ks.getD k 0 by omega)]; rfl
        clear HP hx hc HN
        generalize ks.getD k 0 = z at *
        have g1 : decide (z < 0) = true := decide_eq_true h1
        go_wp2_with fail
        go_quiet (fail)
        go_wp2_with fail
        go_ret
        exact ⟨ret_b HV.out.symm, _, World.drewN_drewN _ _ _⟩
      by_cases h2 : 64 ≤ ks.getD k 0
      · have HV : Hid (keysOk ks = false) := by
          refine keysOk_f ?_
          rw [HP.out, decide_eq_false (show ¬ ks.getD k 0 < 64 by omega), Bool.and_false]; rfl
        clear HP hx hc HN
        generalize ks.getD k 0 = z at *
        have g1 : decide (z < 0) = false := decide_eq_false h1
        have g2 : decide (64 ≤ z) = true := decide_eq_true h2
        go_wp2_with fail
        go_quiet (fail)
        go_wp2_with fail
        go_ret
        exact ⟨ret_b HV.out.symm, _, World.drewN_drewN _ _ _⟩
      have h64 : decide (ks.getD k 0 < 64) = true := decide_eq_true (by omega)
      by_cases hk0 : k = 0
      · subst hk0
        have HV : Hid (rise (-1) ks = rise (ahead ks 1) (ks.drop 1)) := by
          show _ = _
          have e := HP.out
          rw [decide_eq_true (show ahead ks 0 < ks.getD 0 0 by rw [ahead_zero]; omega), h64] at e
          exact e
        have hge : -1 ≤ ahead ks 1 := by rw [ahead_succ]; omega
        rw [Nat.add_zero] at c1
        clear HP hx hc HN h64
        generalize ks.getD 0 0 = z at *
        have g1 : decide (z < 0) = false := decide_eq_false h1
        have g2 : decide (64 ≤ z) = false := decide_eq_false h2
        go_wp2_with fail
        go_quiet (fail)
        go_wp2_with fail
        go_roundw
        case rel => exact ⟨1, by omega, by go_num, HV.out, hge, _, rfl⟩
        case measure => simp [intOf]; omega
      · obtain ⟨j, rfl⟩ : ∃ j, k = j + 1 := ⟨k - 1, by omega⟩
        have c2 := hc j (by omega)
        have ha : ahead ks (j + 1) = ks.getD j 0 := by simp [ahead]
        rw [ha] at hx
        have HA := hide ha
        clear ha
        by_cases hz : ks.getD (j + 1) 0 ≤ ks.getD j 0
        · have HV : Hid (keysOk ks = false) := by
            refine keysOk_f ?_
            rw [HP.out, decide_eq_false (show ¬ ahead ks (j + 1) < ks.getD (j + 1) 0 by rw [HA.out]; omega)]; rfl
          clear HP hx hc HN h64 HA
          generalize ks.getD (j + 1) 0 = z at *
          generalize ks.getD j 0 = y at *
          have g1 : decide (z < 0) = false := decide_eq_false h1
          have g2 : decide (64 ≤ z) = false := decide_eq_false h2
          have g3 : decide (z ≤ y) = true := decide_eq_true hz
          go_wp2_with fail
          go_quiet (fail)
          go_wp2_with fail
          go_ret
          exact ⟨ret_b HV.out.symm, _, World.drewN_drewN _ _ _⟩
        · have HV : Hid (rise (-1) ks = rise (ahead ks (j + 1 + 1)) (ks.drop (j + 1 + 1))) := by
            show _ = _
            have e := HP.out
            rw [decide_eq_true (show ahead ks (j + 1) < ks.getD (j + 1) 0 by rw [HA.out]; omega), h64] at e
            rw [HN.out]
            exact e
          have hge : -1 ≤ ahead ks (j + 1 + 1) := by rw [HN.out]; omega
          clear HP hx hc HN h64 HA
          generalize ks.getD (j + 1) 0 = z at *
          generalize ks.getD j 0 = y at *
          have g1 : decide (z < 0) = false := decide_eq_false h1
          have g2 : decide (64 ≤ z) = false := decide_eq_false h2
          have g3 : decide (z ≤ y) = false := decide_eq_false hz
          go_wp2_with fail
          go_quiet (fail)
          go_wp2_with fail
          go_roundw
          case rel => exact ⟨j + 1 + 1, by omega, by go_num, HV.out, hge, _, rfl⟩
          case measure => simp [intOf]; omega
    · have hke : k = ks.length := by omega
      subst hke
      rw [rise_end] at hp
      have HP := hide (keysOk_t hp)
      clear hp hx
      by_cases h1 : 1 ≤ ks.length
      · have h1' : (0 : Int) < (ks.length : Int) := by omega
        go_wp2
        go_ret
        refine ⟨ret_b ?_, _, rfl⟩
        rw [HP.out, decide_eq_true h1, Bool.true_and]
        exact decide_eq_decide.2 (by omega)
      · have h1' : (ks.length : Int) ≤ 0 := by omega
        go_wp2
        go_ret
        refine ⟨ret_b ?_, _, rfl⟩
        rw [HP.out, decide_eq_false h1, Bool.false_and]

set_option maxHeartbeats 1000000 in
set_option maxRecDepth 100000 in
theorem refRight (k s : Int) (vk vv : Value) (ks vs : List Int) (w : World) (hk : Ints .i64 w vk ks) (hv : Ints .i64 w vv vs) :
    Calls Tryz.prog 76 #[.agg #[.int .i64 k, .int .i64 s, vk, vv]] w fun e w' => e = .returned (.bool (right k s ks vs)) ∧ Mem w w' := by
  obtain ⟨oa, ca, rfl⟩ := hk.shape
  obtain ⟨ob, cb, rfl⟩ := hv.shape
  have hvl := hv.1
  unfold maxLen at hvl
  have hm : Mem w (w.alloc (.cells #[.int .i64 k, .int .i64 s, .slice oa ks.length ca, .slice ob vs.length cb] 50)) := (Mem.refl w).alloc _
  by_cases h0 : s < 0
  · have HV : Hid (right k s ks vs = false) := by
      show right k s ks vs = false
      unfold right; rw [seqOk_no (.inl h0)]; rfl
    go_enter Tryz.func76, Tryz.ntmps76
    go_wp2_with fail
    go_ret
    exact ⟨ret_b HV.out.symm, hm⟩
  by_cases h1 : 1099511627776 < s
  · have HV : Hid (right k s ks vs = false) := by
      show right k s ks vs = false
      unfold right; rw [seqOk_no (.inr h1)]; rfl
    go_enter Tryz.func76, Tryz.ntmps76
    go_wp2_with fail
    go_ret
    exact ⟨ret_b HV.out.symm, hm⟩
  have h0' : 0 ≤ s := by omega
  have h1' : s ≤ 1099511627776 := by omega
  cases hkk : keysOk ks with
  | false =>
    have HV : Hid (right k s ks vs = false) := by
      show right k s ks vs = false
      unfold right; rw [hkk, Bool.and_false]; rfl
    have HK := hide hkk
    clear hkk
    go_enter Tryz.func76, Tryz.ntmps76
    go_wp2_with fail
    refine (refKeys _ ks _ (hk.mem hm)).mono ?_
    rintro e w1 ⟨rfl, n, rfl⟩
    rw [HK.out]
    go_wp2_with fail
    go_ret
    exact ⟨ret_b HV.out.symm, hm.drewN n⟩
  | true =>
    have HR : Hid (right k s ks vs = valsOk k ks vs) := by
      show right k s ks vs = _
      unfold right; rw [hkk, seqOk_yes h0' h1', Bool.true_and, Bool.true_and]
    have HK := hide hkk
    clear hkk
    by_cases hk1 : k = 1
    · subst hk1
      go_enter Tryz.func76, Tryz.ntmps76
      go_wp2_with fail
      refine (refKeys _ ks _ (hk.mem hm)).mono ?_
      rintro e w1 ⟨rfl, n, rfl⟩
      rw [HK.out]
      go_wp2_with fail
      go_ret
      exact ⟨ret_b ((len_eq vs.length 0).trans ((valsOk_1 ks vs).symm.trans HR.out.symm)), hm.drewN n⟩
    · have hk1' : (k == 1) = false := by simp [hk1]
      go_enter Tryz.func76, Tryz.ntmps76
      go_wp2_with fail
      refine (refKeys _ ks _ (hk.mem hm)).mono ?_
      rintro e w1 ⟨rfl, n, rfl⟩
      rw [HK.out]
      go_wp2_with fail
      go_loop [3] (fun i => ∃ j : Nat, j ≤ vs.length ∧ i = .int .i64 j ∧ places vs = places (vs.drop j)) (fun i => vs.length - (intOf i).toNat)
      case atStart => exact ⟨0, Nat.zero_le _, rfl, rfl⟩
      case round =>
        obtain ⟨j, hj, rfl, hp⟩ := hrel
        by_cases hlt : j < vs.length
        · obtain ⟨b, off, rfl, hc⟩ := (hv.mem hm).at (by omega)
          have c1 := hc j hlt
          rw [places_at hlt] at hp
          have HP := hide hp
          clear hp hc
          generalize vs.getD j 0 = z at *
          have HF : Hid (place z = false → right k s ks vs = false) := by
            show _ → _
            intro hz
            rw [HR.out]
            unfold valsOk; rw [if_neg hk1]
            by_cases h2 : k = 2
            · rw [if_pos h2, HP.out, hz, Bool.false_and, Bool.and_false]
            · rw [if_neg h2]
          by_cases g1 : z < -1
          · go_wp2_with fail
            go_ret
            exact ⟨ret_b (HF.out (place_no (.inl g1))).symm, hm.drewN n⟩
          · by_cases g2 : 512 ≤ z
            · go_wp2_with fail
              go_ret
              exact ⟨ret_b (HF.out (place_no (.inr g2))).symm, hm.drewN n⟩
            · go_wp2_with fail
              go_round
              case rel => exact ⟨j + 1, by omega, by go_num, by rw [HP.out, place_yes (by omega) (by omega)]; rfl⟩
              case measure => simp [intOf]; omega
        · have hje : j = vs.length := by omega
          subst hje
          rw [places_end] at hp
          have HP := hide hp
          clear hp
          by_cases hk2 : k = 2
          · subst hk2
            go_wp2_with fail
            go_ret
            refine ⟨ret_b ?_, hm.drewN n⟩
            rw [len_eq, HR.out, valsOk_2, HP.out, Bool.and_true]
          · have hk2' : (k == 2) = false := by simp [hk2]
            go_wp2_with fail
            go_ret
            refine ⟨ret_b ?_, hm.drewN n⟩
            rw [HR.out, valsOk_no ks vs hk1 hk2]
end Go.Proofs.YtedopplldpcinaaGreat.Tag
