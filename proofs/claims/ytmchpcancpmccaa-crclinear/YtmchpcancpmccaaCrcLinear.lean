/-
  The walk of CrcLinear.
-/
import Derived.Test.YtmchpcancpmccaaRows8
import Derived.Deep.RegionLaw
import Derived.Deep.QuietTactic
import Derived.BigQuiet
namespace Go.Proofs.Ytmchpcancpmccaa.Crc
open Go.RowKit
set_option linter.unusedVariables false

/-- the exclusive or of three texts' first k bytes -/
def mix3 (a b c : ByteArray) (k : Nat) : List UInt8 := mix (a.data.toList.take k) (b.data.toList.take k) (c.data.toList.take k)

theorem mix_length (a b c : List UInt8) (h1 : a.length = b.length) (h2 : a.length = c.length) : (mix a b c).length = a.length := by
  induction a generalizing b c with
  | nil => cases b <;> cases c <;> rfl
  | cons x a ih => cases b with
    | nil => simp at h1
    | cons y b => cases c with
      | nil => simp at h2
      | cons z c => simp only [mix, List.length_cons]; rw [ih b c (by simpa using h1) (by simpa using h2)]
theorem mix_snoc (a b c : List UInt8) (x y z : UInt8) (h1 : a.length = b.length) (h2 : a.length = c.length) : mix (a ++ [x]) (b ++ [y]) (c ++ [z]) = mix a b c ++ [x ^^^ y ^^^ z] := by
  induction a generalizing b c with
  | nil => cases b with
    | nil => cases c with
      | nil => rfl
      | cons _ _ => simp at h2
    | cons _ _ => simp at h1
  | cons x' a ih => cases b with
    | nil => simp at h1
    | cons y' b => cases c with
      | nil => simp at h2
      | cons z' c =>
        show (x' ^^^ y' ^^^ z') :: mix (a ++ [x]) (b ++ [y]) (c ++ [z]) = (x' ^^^ y' ^^^ z') :: (mix a b c ++ [x ^^^ y ^^^ z])
        rw [ih b c (by simpa using h1) (by simpa using h2)]
theorem take_len (a : ByteArray) (k : Nat) (h : k ≤ a.size) : (a.data.toList.take k).length = k := by
  rw [List.length_take]; have : a.data.toList.length = a.size := by simp
  omega
theorem mix3_snoc (a b c : ByteArray) (k : Nat) (ha : k < a.size) (hb : k < b.size) (hc : k < c.size) : mix3 a b c k ++ [a[k] ^^^ b[k] ^^^ c[k]] = mix3 a b c (k + 1) := by
  unfold mix3
  rw [take_snoc a k ha, take_snoc b k hb, take_snoc c k hc, mix_snoc]
  · rw [take_len a k (by omega), take_len b k (by omega)]
  · rw [take_len a k (by omega), take_len c k (by omega)]
theorem mix3_length (a b c : ByteArray) (k : Nat) (ha : k ≤ a.size) (hb : k ≤ b.size) (hc : k ≤ c.size) : (mix3 a b c k).length = k := by
  unfold mix3
  rw [mix_length _ _ _ (by rw [take_len a k ha, take_len b k hb]) (by rw [take_len a k ha, take_len c k hc]), take_len a k ha]
theorem xor3 (x y z : UInt8) : bits .xor .u8 (bits .xor .u8 (x.toNat : Int) (y.toNat : Int)) (z.toNat : Int) = ((x ^^^ y ^^^ z).toNat : Int) := by
  rw [u8_xor_nat _ _ x.toNat_lt y.toNat_lt, u8_xor_nat _ _ (xor_lt8 x.toNat_lt y.toNat_lt) z.toNat_lt, UInt8.toNat_xor, UInt8.toNat_xor]

theorem lin_fin (a b c : ByteArray) (k : Nat) (ha : k ≤ a.size) (hb : k ≤ b.size) (hc : k ≤ c.size) :
    (((sum (mix3 a b c k) : Nat) : Int) == bits .xor .i64 (bits .xor .i64 ((sum (a.data.toList.take k) : Nat) : Int) ((sum (b.data.toList.take k) : Nat) : Int)) ((sum (c.data.toList.take k) : Nat) : Int)) = true := by
  rw [i64_xor_nat _ _ (sum_lt _) (sum_lt _), i64_xor_nat _ _ (xor_lt32 (sum_lt _) (sum_lt _)) (sum_lt _)]
  unfold mix3
  rw [sum_mix _ _ _ (by rw [take_len a k ha, take_len b k hb]) (by rw [take_len a k ha, take_len c k hc])]
  exact beq_self_eq_true _
theorem ext_ok (s : ByteArray) (k : Nat) (h : s.size ≤ 9223372036854775807) : (s.extract 0 k).size ≤ maxLen := by
  rw [ByteArray.size_extract]; unfold maxLen; omega

set_option maxHeartbeats 1000000 in
set_option maxRecDepth 100000 in
theorem crcLinear_walk (a0 : ByteArray) (a1 : ByteArray) (a2 : ByteArray) (w0 : a0.size ≤ maxLen) (w1 : a1.size ≤ maxLen) (w2 : a2.size ≤ maxLen) (w : World) :
    Calls Try.prog 5 #[.string a0, .string a1, .string a2] w fun e w' => e = .returned (.bool true) ∧ Mem w w' := by
  unfold maxLen at w0 w1 w2
  obtain ⟨m, e1, m1, m2⟩ : ∃ m : Nat, (if a2.size < a1.size then (a2.size : Int) else (a1.size : Int)) = (m : Int) ∧ m ≤ a1.size ∧ m ≤ a2.size :=
    ⟨if a2.size < a1.size then a2.size else a1.size, by split <;> rfl, by split <;> omega, by split <;> omega⟩
  obtain ⟨n0, e2, n1, n2⟩ : ∃ n : Nat, (if m < a0.size then (m : Int) else (a0.size : Int)) = (n : Int) ∧ n ≤ m ∧ n ≤ a0.size :=
    ⟨if m < a0.size then m else a0.size, by split <;> rfl, by split <;> omega, by split <;> omega⟩
  obtain ⟨n, hn, l0, l1, l2⟩ : ∃ n : Nat, (200 < n0 ∧ n = 200 ∨ ¬ 200 < n0 ∧ n = n0) ∧ n ≤ a0.size ∧ n ≤ a1.size ∧ n ≤ a2.size := by
    by_cases h : 200 < n0
    · exact ⟨200, .inl ⟨h, rfl⟩, by omega, by omega, by omega⟩
    · exact ⟨n0, .inr ⟨h, rfl⟩, by omega, by omega, by omega⟩
  have hn200 : n ≤ 200 := by omega
  rcases hn with ⟨hb, rfl⟩ | ⟨hb, rfl⟩
  · have hb' : (200 : Int) < (n0 : Int) := by omega
    go_enter Try.func5, Try.ntmps5
    go_wp2_with fail
    refine (awake _).mono ?_
    rintro e w1 ⟨rfl, hg⟩
    go_wp2_with fail
    go_loopw [9, 10] (fun l i wr => ∃ k : Nat, k ≤ 200 ∧ i = .int .i64 k ∧ wr.ownsRow w1.heap.size 5 1 l k (bcells (mix3 a0 a1 a2 k)) ∧ Below w1.heap.size w1 wr) (fun _ i _ => 200 - (intOf i).toNat)
    case atStart => exact ⟨0, Nat.zero_le _, rfl, World.ownsRow_nil _ _ _ _, Below.refl _ _⟩
    case round =>
      obtain ⟨k, hk, rfl, hown, hm⟩ := hrel
      by_cases hlt : k < 200
      · have hln := mix3_length a0 a1 a2 k (by omega) (by omega) (by omega)
        have HS := hide (mix3_snoc a0 a1 a2 k (by omega) (by omega) (by omega))
        have k0 : k < a0.size := by omega
        have k1 : k < a1.size := by omega
        have k2 : k < a2.size := by omega
        go_wp2_with fail
        go_region_law (refine step_push8_drew rfl (.tmp 29) (.tmp 41) rfl w1.heap.size _ (mix3 a0 a1 a2 k) k rfl hown hm.size (a0[k] ^^^ a1[k] ^^^ a2[k]) _ (xor3 _ _ _) rfl (by omega) ?_; intro v' w' h1 h2)
        all_goals rw [HS.out] at h1
        all_goals clear HS hown
        all_goals go_wp2_with fail
        all_goals go_roundw
        case rel => exact ⟨k + 1, by omega, by go_num, h1, hm.trans h2⟩
        case measure => simp [intOf]; omega
        case rel => exact ⟨k + 1, by omega, by go_num, h1, hm.trans h2⟩
        case measure => simp [intOf]; omega
        case rel => exact ⟨k + 1, by omega, by go_num, h1, hm.trans h2⟩
        case measure => simp [intOf]; omega
        case rel => exact ⟨k + 1, by omega, by go_num, h1, hm.trans h2⟩
        case measure => simp [intOf]; omega
        case rel => exact ⟨k + 1, by omega, by go_num, h1, hm.trans h2⟩
        case measure => simp [intOf]; omega
        case rel => exact ⟨k + 1, by omega, by go_num, h1, hm.trans h2⟩
        case measure => simp [intOf]; omega
      · have hke : k = 200 := by omega
        subst hke
        have hln := mix3_length a0 a1 a2 200 (by omega) (by omega) (by omega)
        have hcv := conv_owned_drew (l := mix3 a0 a1 a2 200) (by rw [hln]; exact hown)
        have hLs : (ByteArray.mk (mix3 a0 a1 a2 200).toArray).size ≤ maxLen := by show (mix3 a0 a1 a2 200).toArray.size ≤ maxLen; rw [List.size_toArray, hln]; unfold maxLen; omega
        have x0 := ext_ok a0 200 (by omega)
        have x1 := ext_ok a1 200 (by omega)
        have x2 := ext_ok a2 200 (by omega)
        clear hown
        go_wp2_with fail
        go_quiet ((go_at_call 9; exact Calls.quiet_of_same (crcSum _ _ (by assumption))))
        go_wp2_with fail
        go_ret
        exact ⟨ret_bool (lin_fin a0 a1 a2 200 (by omega) (by omega) (by omega)), hg.trans (Below.trans hm ((Below.refl _ _).mono (Nat.le_refl _) |> fun h => below_drewN h nq))⟩
  · have hb' : ¬ (200 : Int) < (n : Int) := by omega
    go_enter Try.func5, Try.ntmps5
    go_wp2_with fail
    refine (awake _).mono ?_
    rintro e w1 ⟨rfl, hg⟩
    go_wp2_with fail
    go_loopw [9, 10] (fun l i wr => ∃ k : Nat, k ≤ n ∧ i = .int .i64 k ∧ wr.ownsRow w1.heap.size 5 1 l k (bcells (mix3 a0 a1 a2 k)) ∧ Below w1.heap.size w1 wr) (fun _ i _ => n - (intOf i).toNat)
    case atStart => exact ⟨0, Nat.zero_le _, rfl, World.ownsRow_nil _ _ _ _, Below.refl _ _⟩
    case round =>
      obtain ⟨k, hk, rfl, hown, hm⟩ := hrel
      by_cases hlt : k < n
      · have hln := mix3_length a0 a1 a2 k (by omega) (by omega) (by omega)
        have HS := hide (mix3_snoc a0 a1 a2 k (by omega) (by omega) (by omega))
        have k0 : k < a0.size := by omega
        have k1 : k < a1.size := by omega
        have k2 : k < a2.size := by omega
        go_wp2_with fail
        go_region_law (refine step_push8_drew rfl (.tmp 29) (.tmp 41) rfl w1.heap.size _ (mix3 a0 a1 a2 k) k rfl hown hm.size (a0[k] ^^^ a1[k] ^^^ a2[k]) _ (xor3 _ _ _) rfl (by omega) ?_; intro v' w' h1 h2)
        all_goals rw [HS.out] at h1
        all_goals clear HS hown
        all_goals go_wp2_with fail
        all_goals go_roundw
        case rel => exact ⟨k + 1, by omega, by go_num, h1, hm.trans h2⟩
        case measure => simp [intOf]; omega
        case rel => exact ⟨k + 1, by omega, by go_num, h1, hm.trans h2⟩
        case measure => simp [intOf]; omega
        case rel => exact ⟨k + 1, by omega, by go_num, h1, hm.trans h2⟩
        case measure => simp [intOf]; omega
        case rel => exact ⟨k + 1, by omega, by go_num, h1, hm.trans h2⟩
        case measure => simp [intOf]; omega
        case rel => exact ⟨k + 1, by omega, by go_num, h1, hm.trans h2⟩
        case measure => simp [intOf]; omega
        case rel => exact ⟨k + 1, by omega, by go_num, h1, hm.trans h2⟩
        case measure => simp [intOf]; omega
      · have hke : k = n := by omega
        rw [hke] at hown hk ⊢
        clear hke hlt hk k
        have hln := mix3_length a0 a1 a2 n (by omega) (by omega) (by omega)
        have hcv := conv_owned_drew (l := mix3 a0 a1 a2 n) (by rw [hln]; exact hown)
        have hLs : (ByteArray.mk (mix3 a0 a1 a2 n).toArray).size ≤ maxLen := by show (mix3 a0 a1 a2 n).toArray.size ≤ maxLen; rw [List.size_toArray, hln]; unfold maxLen; omega
        have x0 := ext_ok a0 n (by omega)
        have x1 := ext_ok a1 n (by omega)
        have x2 := ext_ok a2 n (by omega)
        clear hown
        go_wp2_with fail
        go_quiet ((go_at_call 9; exact Calls.quiet_of_same (crcSum _ _ (by assumption))))
        go_wp2_with fail
        go_ret
        exact ⟨ret_bool (lin_fin a0 a1 a2 n (by omega) (by omega) (by omega)), hg.trans (Below.trans hm ((Below.refl _ _).mono (Nat.le_refl _) |> fun h => below_drewN h nq))⟩
end Go.Proofs.Ytmchpcancpmccaa.Crc
