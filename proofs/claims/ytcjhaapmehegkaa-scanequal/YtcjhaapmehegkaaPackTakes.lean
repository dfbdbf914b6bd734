/-
  Contracts of pack.Take and of the document's answer for it.
-/
import Derived.Test.YtcjhaapmehegkaaPackPuts
namespace Go.Proofs.Ytcjhaapmehegkaa.Pack
open Go.RowKit

/-- what Take answers -/
def takeV : Option (Nat × List UInt8) → Value
  | none => .tuple #[.int .i64 0, .string ⟨#[]⟩, .bool false]
  | some (n, r) => .tuple #[.int .i64 n, .string ⟨r.toArray⟩, .bool true]

theorem drop_at (s : ByteArray) (k : Nat) (h : k < s.size) : s.data.toList.drop k = s[k] :: s.data.toList.drop (k + 1) := by
  rw [List.drop_eq_getElem_cons (by simpa using h)]; rfl
theorem tk_next (s : ByteArray) (k S U : Nat) (h : k < s.size) (h6 : k < 6) (hb : 128 ≤ s[k].toNat) :
    tk k S U (s.data.toList.drop k) = tk (k + 1) (S + s[k].toNat % 128 * U) (U * 128) (s.data.toList.drop (k + 1)) := by
  rw [drop_at s k h]
  conv => lhs; unfold tk
  rw [if_neg (by omega), if_pos hb]
theorem tk_last (s : ByteArray) (k S U : Nat) (h : k < s.size) (h6 : k < 6) (hb : s[k].toNat < 128) :
    tk k S U (s.data.toList.drop k) = if (0 < s[k].toNat ∨ k = 0) ∧ S + s[k].toNat * U ≤ maxN then some (S + s[k].toNat * U, s.data.toList.drop (k + 1)) else none := by
  rw [drop_at s k h]
  unfold tk
  rw [if_neg (by omega), if_neg (by omega)]
theorem tk_over (s : ByteArray) (k S U : Nat) (h : 6 ≤ k ∨ s.size ≤ k) : tk k S U (s.data.toList.drop k) = none := by
  by_cases hk : k < s.size
  · rw [drop_at s k hk]; unfold tk; rw [if_pos (by omega)]
  · rw [List.drop_of_length_le (by simp; omega)]; rfl
theorem pow_le5 {k : Nat} (h : k < 6) : 128 ^ k ≤ 34359738368 := by
  have := Nat.pow_le_pow_right (n := 128) (by omega) (show k ≤ 5 by omega)
  simpa using this
theorem prod_le {d U : Nat} (hd : d < 128) : d * U ≤ 127 * U := Nat.mul_le_mul_right U (by omega)

theorem mul_cast (d U : Nat) : ((d * U : Nat) : Int) = (d : Int) * (U : Int) := by simp
theorem sum_lt {d S U : Nat} (hd : d < 128) (hS : S < U) : S + d * U < U * 128 := by
  have := prod_le (U := U) hd; omega

theorem ext_drop (s : ByteArray) (k : Nat) : s.extract k s.size = ⟨(s.data.toList.drop k).toArray⟩ := by
  apply ByteArray.ext
  rw [ByteArray.data_extract]
  apply Array.ext'
  rw [Array.toList_extract, List.extract_eq_take_drop]
  rw [List.take_of_length_le (by simp)]
theorem fin_yes (s : ByteArray) (k S U : Nat) (h : k < s.size) (h6 : k < 6) (hb : s[k].toNat < 128) (h0 : 0 < s[k].toNat ∨ k = 0) (hm : (S : Int) + (s[k].toNat : Int) % 128 * (U : Int) ≤ 1099511627776) (ht : tk k S U (s.data.toList.drop k) = take s.data.toList) :
    .tuple #[.int .i64 ((S : Int) + (s[k].toNat : Int) % 128 * (U : Int)), .string (s.extract (k + 1) s.size), .bool true] = takeV (take s.data.toList) := by
  have e : (s[k].toNat : Int) % 128 = (s[k].toNat : Int) := by omega
  rw [e] at hm ⊢
  have e2 : (S : Int) + (s[k].toNat : Int) * (U : Int) = ((S + s[k].toNat * U : Nat) : Int) := by simp
  rw [e2] at hm ⊢
  rw [← ht, tk_last s k S U h h6 hb, if_pos ⟨h0, by unfold maxN; omega⟩, ext_drop]
  rfl
theorem fin_big (s : ByteArray) (k S U : Nat) (h : k < s.size) (h6 : k < 6) (hb : s[k].toNat < 128) (hm : 1099511627776 < (S : Int) + (s[k].toNat : Int) % 128 * (U : Int)) (ht : tk k S U (s.data.toList.drop k) = take s.data.toList) :
    .tuple #[.int .i64 0, .string ⟨#[]⟩, .bool false] = takeV (take s.data.toList) := by
  have e : (s[k].toNat : Int) % 128 = (s[k].toNat : Int) := by omega
  rw [e] at hm
  have e2 : (S : Int) + (s[k].toNat : Int) * (U : Int) = ((S + s[k].toNat * U : Nat) : Int) := by simp
  rw [e2] at hm
  rw [← ht, tk_last s k S U h h6 hb, if_neg (by unfold maxN; omega)]
  rfl
theorem fin_nought (s : ByteArray) (k S U : Nat) (h : k < s.size) (h6 : k < 6) (hb : s[k].toNat < 128) (h0 : ¬ (0 < s[k].toNat ∨ k = 0)) (ht : tk k S U (s.data.toList.drop k) = take s.data.toList) :
    .tuple #[.int .i64 0, .string ⟨#[]⟩, .bool false] = takeV (take s.data.toList) := by
  rw [← ht, tk_last s k S U h h6 hb, if_neg (fun x => h0 x.1)]
  rfl
theorem fin_over (s : ByteArray) (k S U : Nat) (h : 6 ≤ k ∨ s.size ≤ k) (ht : tk k S U (s.data.toList.drop k) = take s.data.toList) :
    .tuple #[.int .i64 0, .string ⟨#[]⟩, .bool false] = takeV (take s.data.toList) := by
  rw [← ht, tk_over s k S U h]
  rfl
theorem next_sum (d S U : Nat) : (S : Int) + (d : Int) % 128 * (U : Int) = ((S + d % 128 * U : Nat) : Int) := by simp
theorem next_rel (s : ByteArray) (k S U : Nat) (h : k < s.size) (h6 : k < 6) (hb : 128 ≤ s[k].toNat) (hU : U = 128 ^ k) (hS : S < U) (ht : tk k S U (s.data.toList.drop k) = take s.data.toList) :
    U * 128 = 128 ^ (k + 1) ∧ S + s[k].toNat % 128 * U < U * 128 ∧ tk (k + 1) (S + s[k].toNat % 128 * U) (U * 128) (s.data.toList.drop (k + 1)) = take s.data.toList :=
  ⟨by rw [hU, Nat.pow_succ], sum_lt (by omega) hS, by rw [← ht, tk_next s k S U h h6 hb]⟩

set_option maxHeartbeats 1000000 in
set_option maxRecDepth 100000 in
theorem packTake (s : ByteArray) (w : World) (hs : s.size ≤ maxLen) :
    Calls Try.prog 88 #[.string s] w fun e w' => e = .returned (takeV (take s.data.toList)) ∧ ∃ n, w' = w.drewN n := by
  unfold maxLen at hs
  go_enter Try.func88, Try.ntmps88
  go_wp2
  all_goals
    go_loop [2, 3, 4, 5, 6, 12] (fun n r ok sm wt i => ∃ k S U : Nat, n = .int .i64 0 ∧ r = .string ⟨#[]⟩ ∧ ok = .bool false ∧ i = .int .i64 k ∧ sm = .int .i64 S ∧ wt = .int .i64 U ∧ k ≤ 6 ∧ k ≤ s.size ∧ U = 128 ^ k ∧ S < U ∧ tk k S U (s.data.toList.drop k) = take s.data.toList) (fun _ _ _ _ _ i => 6 - (intOf i).toNat)
    case atStart => exact ⟨0, 0, 1, rfl, rfl, rfl, rfl, rfl, rfl, by omega, by omega, rfl, by omega, rfl⟩
    case round =>
      obtain ⟨k, S, U, rfl, rfl, rfl, rfl, rfl, rfl, hk6, hks, hU, hS, htk⟩ := hrel
      have HU := hide hU
      have HT := hide htk
      clear hU htk
      by_cases hlt : k < 6 ∧ k < s.size
      · obtain ⟨h6, hsz⟩ := hlt
        have hUb : U ≤ 34359738368 := by rw [HU.out]; exact pow_le5 h6
        have hb := s[k].toNat_lt
        have hp0 : 0 ≤ (s[k].toNat : Int) % 128 * (U : Int) := Int.mul_nonneg (by omega) (by omega)
        have hp1 : (s[k].toNat : Int) % 128 * (U : Int) ≤ 127 * (U : Int) := Int.mul_le_mul_of_nonneg_right (by omega) (by omega)
        by_cases h128 : 128 ≤ s[k].toNat
        · have HN := hide (next_rel s k S U hsz h6 h128 HU.out hS HT.out)
          go_wp2
          go_round
          case rel => exact ⟨k + 1, S + s[k].toNat % 128 * U, U * 128, rfl, rfl, rfl, by go_num, int_eq (next_sum _ _ _), int_eq (by simp), by omega, by omega, HN.out.1, HN.out.2.1, HN.out.2.2⟩
          case measure => simp [intOf]; omega
        · have hlo : s[k].toNat < 128 := by omega
          by_cases hc : 0 < s[k].toNat ∨ k = 0
          · by_cases hm : (S : Int) + (s[k].toNat : Int) % 128 * (U : Int) ≤ 1099511627776
            · have HF := hide (fin_yes s k S U hsz h6 hlo hc hm HT.out)
              by_cases h0 : 0 < s[k].toNat
              · have h0' : decide (0 < (s[k].toNat : Int) % 128) = true := by rw [decide_eq_true_iff]; omega
                clear hc
                go_wp2
                go_quiet (fail)
                go_wp2
                go_ret3
                exact ⟨ret_eq HF.out, _, rfl⟩
              · have h0' : decide (0 < (s[k].toNat : Int) % 128) = false := by rw [decide_eq_false_iff_not]; omega
                have hk0 : ((k : Int) == 0) = true := by rw [beq_iff_eq]; omega
                clear hc
                go_wp2
                go_quiet (fail)
                go_wp2
                go_ret3
                exact ⟨ret_eq HF.out, _, rfl⟩
            · have HF := hide (fin_big s k S U hsz h6 hlo (by omega) HT.out)
              have hm' : decide ((S : Int) + (s[k].toNat : Int) % 128 * (U : Int) ≤ 1099511627776) = false := by rw [decide_eq_false_iff_not]; exact hm
              by_cases h0 : 0 < s[k].toNat
              · have h0' : decide (0 < (s[k].toNat : Int) % 128) = true := by rw [decide_eq_true_iff]; omega
                clear hc
                go_wp2
                go_ret3
                exact ⟨ret_eq HF.out, 0, rfl⟩
              · have h0' : decide (0 < (s[k].toNat : Int) % 128) = false := by rw [decide_eq_false_iff_not]; omega
                have hk0 : ((k : Int) == 0) = true := by rw [beq_iff_eq]; omega
                clear hc
                go_wp2
                go_ret3
                exact ⟨ret_eq HF.out, 0, rfl⟩
          · have HF := hide (fin_nought s k S U hsz h6 hlo hc HT.out)
            have h0' : decide (0 < (s[k].toNat : Int) % 128) = false := by rw [decide_eq_false_iff_not]; omega
            have hk0 : ((k : Int) == 0) = false := by rw [beq_eq_false_iff_ne]; omega
            clear hc
            go_wp2
            go_ret3
            exact ⟨ret_eq HF.out, 0, rfl⟩
      · have HF := hide (fin_over s k S U (by omega) HT.out)
        go_wp2
        go_ret3
        exact ⟨ret_eq HF.out, 0, rfl⟩

set_option maxHeartbeats 1000000 in
set_option maxRecDepth 100000 in
theorem refTake (s : ByteArray) (w : World) (hs : s.size ≤ maxLen) :
    Calls Try.prog 48 #[.string s] w fun e w' => e = .returned (takeV (take s.data.toList)) ∧ ∃ n, w' = w.drewN n := by
  unfold maxLen at hs
  go_enter Try.func48, Try.ntmps48
  go_wp2
  go_loop [5, 6, 7] (fun sm wt i => ∃ k S U : Nat, i = .int .i64 k ∧ sm = .int .i64 S ∧ wt = .int .i64 U ∧ k ≤ 6 ∧ k ≤ s.size ∧ U = 128 ^ k ∧ S < U ∧ tk k S U (s.data.toList.drop k) = take s.data.toList) (fun _ _ i => 6 - (intOf i).toNat)
  case atStart => exact ⟨0, 0, 1, rfl, rfl, rfl, by omega, by omega, rfl, by omega, rfl⟩
  case round =>
    obtain ⟨k, S, U, rfl, rfl, rfl, hk6, hks, hU, hS, htk⟩ := hrel
    have HU := hide hU
    have HT := hide htk
    clear hU htk
    by_cases hlt : k < 6 ∧ k < s.size
    · obtain ⟨h6, hsz⟩ := hlt
      have hUb : U ≤ 34359738368 := by rw [HU.out]; exact pow_le5 h6
      have hb := s[k].toNat_lt
      have hp0 : 0 ≤ (s[k].toNat : Int) % 128 * (U : Int) := Int.mul_nonneg (by omega) (by omega)
      have hp1 : (s[k].toNat : Int) % 128 * (U : Int) ≤ 127 * (U : Int) := Int.mul_le_mul_of_nonneg_right (by omega) (by omega)
      by_cases h128 : 128 ≤ s[k].toNat
      · have HN := hide (next_rel s k S U hsz h6 h128 HU.out hS HT.out)
        go_wp2
        go_round
        case rel => exact ⟨k + 1, S + s[k].toNat % 128 * U, U * 128, by go_num, int_eq (next_sum _ _ _), int_eq (by simp), by omega, by omega, HN.out.1, HN.out.2.1, HN.out.2.2⟩
        case measure => simp [intOf]; omega
      · have hlo : s[k].toNat < 128 := by omega
        by_cases hc : 0 < s[k].toNat ∨ k = 0
        · by_cases hm : (S : Int) + (s[k].toNat : Int) % 128 * (U : Int) ≤ 1099511627776
          · have HF := hide (fin_yes s k S U hsz h6 hlo hc hm HT.out)
            have hm' : decide (1099511627776 < (S : Int) + (s[k].toNat : Int) % 128 * (U : Int)) = false := by rw [decide_eq_false_iff_not]; omega
            by_cases hk0 : k = 0
            · have hk1 : (k : Int) ≤ 0 := by omega
              clear hc hk0
              go_wp2
              go_quiet (fail)
              go_wp2
              go_ret3
              exact ⟨ret_eq HF.out, _, rfl⟩
            · have hk1 : 0 < (k : Int) := by omega
              have h0' : ((s[k].toNat : Int) == 0) = false := by rw [beq_eq_false_iff_ne]; omega
              clear hc
              go_wp2
              go_quiet (fail)
              go_wp2
              go_ret3
              exact ⟨ret_eq HF.out, _, rfl⟩
          · have HF := hide (fin_big s k S U hsz h6 hlo (by omega) HT.out)
            have hm' : decide (1099511627776 < (S : Int) + (s[k].toNat : Int) % 128 * (U : Int)) = true := by rw [decide_eq_true_iff]; omega
            clear hc
            go_wp2
            go_ret3
            exact ⟨ret_eq HF.out, 0, rfl⟩
        · have HF := hide (fin_nought s k S U hsz h6 hlo hc HT.out)
          have h0' : ((s[k].toNat : Int) == 0) = true := by rw [beq_iff_eq]; omega
          have hk1 : 0 < (k : Int) := by omega
          by_cases hm : (S : Int) + (s[k].toNat : Int) % 128 * (U : Int) ≤ 1099511627776
          · have hm' : decide (1099511627776 < (S : Int) + (s[k].toNat : Int) % 128 * (U : Int)) = false := by rw [decide_eq_false_iff_not]; omega
            clear hc
            go_wp2
            go_ret3
            exact ⟨ret_eq HF.out, 0, rfl⟩
          · have hm' : decide (1099511627776 < (S : Int) + (s[k].toNat : Int) % 128 * (U : Int)) = true := by rw [decide_eq_true_iff]; omega
            clear hc
            go_wp2
            go_ret3
            exact ⟨ret_eq HF.out, 0, rfl⟩
    · have HF := hide (fin_over s k S U (by omega) HT.out)
      by_cases hsz : k < s.size
      · go_wp2
        go_ret3
        exact ⟨ret_eq HF.out, 0, rfl⟩
      · go_wp2
        go_ret3
        exact ⟨ret_eq HF.out, 0, rfl⟩
end Go.Proofs.Ytcjhaapmehegkaa.Pack
