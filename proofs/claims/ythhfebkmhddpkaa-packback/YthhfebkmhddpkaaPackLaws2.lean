/-
  The walks of PackPack, PackShort and PackHeads.
-/
import Derived.Test.YthhfebkmhddpkaaPackLaws1
namespace Go.Proofs.Ythhfebkmhddpkaa.Pack
open Go.RowKit
set_option linter.unusedVariables false

theorem packV_cases (zs : List Int) : ∃ (r : ByteArray) (n : Int), packV zs = .tuple #[.string r, .int .i64 n] := by
  unfold packV; split
  · exact ⟨_, _, rfl⟩
  · exact ⟨_, _, rfl⟩

set_option maxHeartbeats 1000000 in
theorem packPack_walk (a0 : Option Addr) (len0 cap0 : Nat) (z0 : List Int) (w : World) (w0 : IsRow .i64 w a0 len0 cap0 z0) :
    Calls Try.prog 5 #[.slice a0 len0 cap0] w fun e w' => e = .returned (.bool true) ∧ Mem w w' := by
  obtain ⟨hi, _⟩ := Ints.of_row w0
  obtain ⟨oa, ca, hv⟩ := hi.shape
  injection hv with h1 h2 h3
  have hl := hi.1
  unfold maxLen at hl
  generalize z0.take len0 = zs at *
  clear w0 h1 h3
  subst h2
  by_cases h : 300 < zs.length
  · have h' : (300 : Int) < (zs.length : Int) := by omega
    go_enter Try.func5, Try.ntmps5
    go_wp2_with fail
    refine (awake _).mono ?_
    rintro e w1 ⟨rfl, hg⟩
    go_wp2_with fail
    go_ret
    exact ⟨rfl, hg⟩
  · have h' : ¬ (300 : Int) < (zs.length : Int) := by omega
    obtain ⟨r, n, hp⟩ := packV_cases zs
    have HP := hide hp
    clear hp
    go_enter Try.func5, Try.ntmps5
    go_wp2_with fail
    refine (packPack _ zs _ hi (by omega)).mono ?_
    rintro e w1 ⟨rfl, g1⟩
    rw [HP.out]
    go_wp2_with fail
    refine (refPack _ zs _ (hi.mem g1) (by omega)).mono ?_
    rintro e w2 ⟨rfl, g2⟩
    rw [HP.out]
    go_wp2_with fail
    refine (awake _).mono ?_
    rintro e w3 ⟨rfl, g3⟩
    go_wp2_with fail
    go_ret
    exact ⟨rfl, (g1.trans g2).trans g3⟩

/-! how many bytes -/
theorem put_count {n m k : Nat} (h : (put n).length = k + (put m).length) (hm : ¬ m < 128) : (put n).length = k + 1 + (put (m / 128)).length := by
  rw [h, put_hi hm, List.length_cons]; omega
theorem put_count_end {n m k : Nat} (h : (put n).length = k + (put m).length) (hm : m < 128) : (put n).length = k + 1 := by
  rw [h, put_lo hm]; rfl
theorem putI_len {n : Nat} (h : n ≤ maxN) : (ByteArray.mk (putI (n : Int)).toArray).size = (put n).length := by rw [putI_nat h]; simp [ByteArray.size]

set_option maxHeartbeats 1000000 in
set_option maxRecDepth 100000 in
theorem packShort_walk (a0 : Int) (w0 : (Lit.int .i64 a0).wf = true) (w : World) :
    Calls Try.prog 11 #[.int .i64 a0] w fun e w' => e = .returned (.bool true) ∧ Mem w w' := by
  by_cases h : a0 < 0 ∨ 1099511627776 < a0
  · have HP := hide (putI_no h)
    rcases h with h | h
    · go_enter Try.func11, Try.ntmps11
      go_wp2_with fail
      refine (awake _).mono ?_
      rintro e w1 ⟨rfl, g1⟩
      go_wp2_with fail
      refine (packPut _ _).mono ?_
      rintro e w2 ⟨rfl, g2⟩
      rw [HP.out]
      go_wp2_with fail
      go_ret
      exact ⟨rfl, g1.trans g2⟩
    · have h0 : ¬ a0 < 0 := by omega
      go_enter Try.func11, Try.ntmps11
      go_wp2_with fail
      refine (awake _).mono ?_
      rintro e w1 ⟨rfl, g1⟩
      go_wp2_with fail
      refine (packPut _ _).mono ?_
      rintro e w2 ⟨rfl, g2⟩
      rw [HP.out]
      go_wp2_with fail
      go_ret
      exact ⟨rfl, g1.trans g2⟩
  · obtain ⟨n, rfl⟩ := Int.eq_ofNat_of_zero_le (show 0 ≤ a0 by omega)
    have hn : n ≤ maxN := by unfold maxN; omega
    have hn1 : (n : Int) ≤ 1099511627776 := by omega
    have h0 : ¬ (n : Int) < 0 := by omega
    have h1 : ¬ 1099511627776 < (n : Int) := by omega
    have h6 := put_six hn
    have HN := hide (putI_nat hn)
    clear h
    go_enter Try.func11, Try.ntmps11
    go_wp2_with fail
    refine (awake _).mono ?_
    rintro e w1 ⟨rfl, g1⟩
    go_wp2_with fail
    refine (packPut _ _).mono ?_
    rintro e w2 ⟨rfl, g2⟩
    rw [HN.out]
    go_wp2_with fail
    go_loop [5, 6] (fun many k => ∃ c m : Nat, many = .int .i64 ((c : Int) + 1) ∧ c ≤ 6 ∧ k = .int .i64 ((m / 128 : Nat) : Int) ∧ m ≤ n ∧ (put n).length = c + (put m).length) (fun _ k => (intOf k).toNat)
    case atStart => exact ⟨0, n, rfl, by omega, by go_num, Nat.le_refl _, by omega⟩
    case round =>
      obtain ⟨c, m, rfl, hc, rfl, hm, hl⟩ := hrel
      by_cases h128 : m < 128
      · have hd : m / 128 = 0 := by omega
        have he := put_count_end hl h128
        have hce : (((put n).length : Int) == (c : Int) + 1) = true := by rw [beq_iff_eq]; omega
        have hc5 : (c : Int) + 1 ≤ 6 := by omega
        rw [hd]
        clear hl hd he
        go_wp2_with fail
        go_ret
        exact ⟨rfl, g1.trans g2⟩
      · have HL := hide (put_count hl h128)
        have hp := put_pos (m / 128)
        have hpos : 0 < m / 128 := by omega
        have hc5 : c + 1 ≤ 6 := by have := HL.out; omega
        clear hl
        go_wp2_with fail
        go_round
        case rel => exact ⟨c + 1, m / 128, by go_num, hc5, by go_num, by omega, HL.out⟩
        case measure => simp [intOf]; omega
end Go.Proofs.Ythhfebkmhddpkaa.Pack
