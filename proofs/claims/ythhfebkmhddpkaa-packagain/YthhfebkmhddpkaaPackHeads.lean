/-
  The walk of PackHeads.
-/
import Derived.Test.YthhfebkmhddpkaaPackLaws2
namespace Go.Proofs.Ythhfebkmhddpkaa.Pack
open Go.RowKit
set_option linter.unusedVariables false

theorem put_ne_e (n : Nat) : (put n).isEmpty = false := by
  cases hp : put n with
  | nil => exact absurd hp (put_ne _)
  | cons a l => rfl
theorem ext_take (l : List UInt8) (k : Nat) : ((⟨l.toArray⟩ : ByteArray).extract 0 k) = ⟨(l.take k).toArray⟩ := by
  apply ByteArray.ext
  rw [ByteArray.data_extract]
  apply Array.ext'
  rw [Array.toList_extract, List.extract_eq_take_drop]
  simp
theorem not_begins {a b : Nat} (ha : a ≤ maxN) (hb : b ≤ maxN) (hab : ¬ a = b) : ((put b).take (put a).length == put a) = false := by
  rw [beq_eq_false_iff_ne]
  intro h
  have e : put a ++ (put b).drop (put a).length = put b ++ [] := by
    rw [List.append_nil]
    conv => lhs; lhs; rw [← h]
    exact List.take_append_drop _ _
  exact hab (put_inj ha hb e).1

set_option maxHeartbeats 1000000 in
set_option maxRecDepth 100000 in
theorem packHeads_walk (a0 : Int) (a1 : Int) (w0 : (Lit.int .i64 a0).wf = true) (w1 : (Lit.int .i64 a1).wf = true) (w : World) :
    Calls Try.prog 7 #[.int .i64 a0, .int .i64 a1] w fun e w' => e = .returned (.bool true) ∧ Mem w w' := by
  by_cases h : a0 < 0 ∨ 1099511627776 < a0
  · have HP := hide (putI_no h)
    rcases h with h | h
    · go_enter Try.func7, Try.ntmps7
      go_wp2_with fail
      refine (awake _).mono ?_
      rintro e w1 ⟨rfl, g1⟩
      go_wp2_with fail
      refine (packPut a0 _).mono ?_
      rintro e w2 ⟨rfl, g2⟩
      rw [HP.out]
      go_wp2_with fail
      refine (packPut a1 _).mono ?_
      rintro e w3 ⟨rfl, g3⟩
      go_wp2_with fail
      go_ret
      exact ⟨rfl, (g1.trans g2).trans g3⟩
    · have h0 : ¬ a0 < 0 := by omega
      go_enter Try.func7, Try.ntmps7
      go_wp2_with fail
      refine (awake _).mono ?_
      rintro e w1 ⟨rfl, g1⟩
      go_wp2_with fail
      refine (packPut a0 _).mono ?_
      rintro e w2 ⟨rfl, g2⟩
      rw [HP.out]
      go_wp2_with fail
      refine (packPut a1 _).mono ?_
      rintro e w3 ⟨rfl, g3⟩
      go_wp2_with fail
      go_ret
      exact ⟨rfl, (g1.trans g2).trans g3⟩
  · obtain ⟨a, rfl⟩ := Int.eq_ofNat_of_zero_le (show 0 ≤ a0 by omega)
    have ha : a ≤ maxN := by unfold maxN; omega
    have HA := hide (putI_nat ha)
    have hae := put_ne_e a
    have ha6 := put_six ha
    have ha1 := put_pos a
    clear h w0
    by_cases h : a1 < 0 ∨ 1099511627776 < a1
    · have HB := hide (putI_no h)
      clear h
      go_enter Try.func7, Try.ntmps7
      go_wp2_with fail
      refine (awake _).mono ?_
      rintro e w1 ⟨rfl, g1⟩
      go_wp2_with fail
      refine (packPut _ _).mono ?_
      rintro e w2 ⟨rfl, g2⟩
      rw [HA.out]
      go_wp2_with fail
      refine (packPut a1 _).mono ?_
      rintro e w3 ⟨rfl, g3⟩
      rw [HB.out]
      go_wp2_with fail
      go_ret
      exact ⟨rfl, (g1.trans g2).trans g3⟩
    · obtain ⟨b, rfl⟩ := Int.eq_ofNat_of_zero_le (show 0 ≤ a1 by omega)
      have hb : b ≤ maxN := by unfold maxN; omega
      have HB := hide (putI_nat hb)
      have hbe := put_ne_e b
      have hb6 := put_six hb
      have hb1 := put_pos b
      clear h w1
      go_enter Try.func7, Try.ntmps7
      go_wp2_with fail
      refine (awake _).mono ?_
      rintro e w1 ⟨rfl, g1⟩
      go_wp2_with fail
      refine (packPut _ _).mono ?_
      rintro e w2 ⟨rfl, g2⟩
      rw [HA.out]
      go_wp2_with fail
      refine (packPut _ _).mono ?_
      rintro e w3 ⟨rfl, g3⟩
      rw [HB.out]
      go_wp2_with fail
      have HC := hide (take_cut ha)
      have hsz : (ByteArray.mk ((put a).take ((put a).length - 1)).toArray).size ≤ maxLen := by rw [size_mk, List.length_take]; unfold maxLen; omega
      rw [ext_take]
      refine (packTake _ _ hsz).mono ?_
      rintro e w4 ⟨rfl, n4, rfl⟩
      rw [show take (ByteArray.mk ((put a).take ((put a).length - 1)).toArray).data.toList = none from HC.out]
      simp only [takeV]
      go_wp2_with fail
      rw [cat_two]
      have hsz2 : (ByteArray.mk (put a ++ put b).toArray).size ≤ maxLen := by rw [size_mk, List.length_append]; unfold maxLen; omega
      refine (packTake _ _ hsz2).mono ?_
      rintro e w5 ⟨rfl, n5, rfl⟩
      rw [show take (ByteArray.mk (put a ++ put b).toArray).data.toList = some (a, put b) from take_put ha _]
      simp only [takeV]
      clear hsz hsz2
      by_cases hab : a = b
      · subst hab
        have he := ext_take (put a) (put a).length
        rw [List.take_of_length_le (Nat.le_refl _)] at he
        go_wp2_with fail
        go_ret
        exact ⟨rfl, ((g1.trans g2).trans g3).drewN _⟩
      · have hab' : ((a : Int) == (b : Int)) = false := by rw [beq_eq_false_iff_ne]; omega
        by_cases hlen : (put b).length < (put a).length
        · have hlen' : ¬ ((put a).length : Int) ≤ ((put b).length : Int) := by omega
          go_wp2_with fail
          go_ret
          exact ⟨rfl, ((g1.trans g2).trans g3).drewN _⟩
        · have hlen' : ((put a).length : Int) ≤ ((put b).length : Int) := by omega
          have he := ext_take (put b) (put a).length
          have hnb := not_begins ha hb hab
          go_wp2_with fail
          go_ret
          exact ⟨rfl, ((g1.trans g2).trans g3).drewN _⟩
end Go.Proofs.Ythhfebkmhddpkaa.Pack
