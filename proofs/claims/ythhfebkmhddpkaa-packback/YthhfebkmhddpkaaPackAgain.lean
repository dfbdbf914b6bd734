/-
  The walk of PackAgain.
-/
import Derived.Test.YthhfebkmhddpkaaPackHeads
namespace Go.Proofs.Ythhfebkmhddpkaa.Pack
open Go.RowKit
set_option linter.unusedVariables false

theorem packV_nat (l : List Nat) (h : ∀ n ∈ l, n ≤ maxN) : packV (ints l) = .tuple #[.string ⟨(pack l).toArray⟩, .int .i64 0] := by
  rw [packV_yes, show packI (ints l) = pack l from packI_nat l h]
  intro z hz
  obtain ⟨n, hn, rfl⟩ := List.mem_map.1 hz
  have := h n hn
  unfold maxN at this
  omega
theorem toList_mk (l : List UInt8) : (⟨l.toArray⟩ : ByteArray).toList = l := by simp [go_sem]
theorem cat_is {l m L : List UInt8} (h : L = l ++ m) : ((⟨l.toArray⟩ ++ ⟨m.toArray⟩ : ByteArray).toList == L) = true := by
  rw [cat_two, toList_mk, beq_iff_eq]; exact h.symm

set_option maxHeartbeats 1000000 in
set_option maxRecDepth 100000 in
theorem packAgain_walk (a0 : ByteArray) (w0 : a0.size ≤ maxLen) (w : World) :
    Calls Try.prog 8 #[.string a0] w fun e w' => e = .returned (.bool true) ∧ Mem w w' := by
  obtain ⟨L, rfl⟩ : ∃ L : List UInt8, a0 = ⟨L.toArray⟩ := ⟨a0.data.toList, by simp⟩
  have hs := w0
  rw [size_mk] at w0
  unfold maxLen at w0
  cases ht : take L with
  | none =>
    have HT := hide ht
    clear ht
    go_enter Try.func8, Try.ntmps8
    go_wp2_with fail
    refine (awake _).mono ?_
    rintro e w1 ⟨rfl, g1⟩
    go_wp2_with fail
    refine (packTake _ _ hs).mono ?_
    rintro e w2 ⟨rfl, n2, rfl⟩
    rw [show take (ByteArray.mk L.toArray).data.toList = none from HT.out]
    simp only [takeV]
    go_wp2_with fail
    go_ret
    exact ⟨rfl, g1.drewN _⟩
  | some p =>
    obtain ⟨n, r⟩ := p
    obtain ⟨hL, hn⟩ := take_some ht
    have HT := hide ht
    have hlen := congrArg List.length hL
    rw [List.length_append] at hlen
    have hbq := cat_is hL
    have hsum : ¬ (9223372036854775807 < (put n).length + r.length) := by omega
    have HP := hide (putI_nat hn)
    clear ht hL hlen
    cases hu : unpack L with
    | none =>
      have HU := hide hu
      clear hu
      by_cases h300 : 300 < L.length
      · have h300' : (300 : Int) < (L.length : Int) := by omega
        go_enter Try.func8, Try.ntmps8
        go_wp2_with fail
        refine (awake _).mono ?_
        rintro e w1 ⟨rfl, g1⟩
        go_wp2_with fail
        refine (packTake _ _ hs).mono ?_
        rintro e w2 ⟨rfl, n2, rfl⟩
        rw [show take (ByteArray.mk L.toArray).data.toList = some (n, r) from HT.out]
        simp only [takeV]
        go_wp2_with fail
        refine (packUnpack _ _ hs).mono ?_
        rintro e w3 ⟨hun, g3⟩
        rw [show unpack (ByteArray.mk L.toArray).data.toList = none from HU.out] at hun
        subst hun
        go_wp2_with fail
        refine (packPut _ _).mono ?_
        rintro e w4 ⟨rfl, g4⟩
        rw [HP.out]
        go_wp2_with fail
        go_ret
        exact ⟨rfl, ((g1.drewN _).trans g3).trans g4⟩
      · have h300' : ¬ (300 : Int) < (L.length : Int) := by omega
        go_enter Try.func8, Try.ntmps8
        go_wp2_with fail
        refine (awake _).mono ?_
        rintro e w1 ⟨rfl, g1⟩
        go_wp2_with fail
        refine (packTake _ _ hs).mono ?_
        rintro e w2 ⟨rfl, n2, rfl⟩
        rw [show take (ByteArray.mk L.toArray).data.toList = some (n, r) from HT.out]
        simp only [takeV]
        go_wp2_with fail
        refine (packUnpack _ _ hs).mono ?_
        rintro e w3 ⟨hun, g3⟩
        rw [show unpack (ByteArray.mk L.toArray).data.toList = none from HU.out] at hun
        subst hun
        go_wp2_with fail
        refine (packPut _ _).mono ?_
        rintro e w4 ⟨rfl, g4⟩
        rw [HP.out]
        go_wp2_with fail
        go_ret
        exact ⟨rfl, ((g1.drewN _).trans g3).trans g4⟩
    | some y =>
      obtain ⟨l, q⟩ := y
      obtain ⟨hL2, hl2, hl3⟩ := unpack_some hu
      have HU := hide hu
      have hlen2 := congrArg List.length hL2
      rw [List.length_append] at hlen2
      have hbq2 := cat_is hL2
      have hsum2 : ¬ (9223372036854775807 < (pack l).length + q.length) := by omega
      have HV := hide (packV_nat l hl3)
      have hli : (ints l).length ≤ 1099511627776 := by rw [ints_length]; exact hl2
      clear hu hL2 hlen2 hl3
      by_cases h300 : 300 < L.length
      · have h300' : (300 : Int) < (L.length : Int) := by omega
        go_enter Try.func8, Try.ntmps8
        go_wp2_with fail
        refine (awake _).mono ?_
        rintro e w1 ⟨rfl, g1⟩
        go_wp2_with fail
        refine (packTake _ _ hs).mono ?_
        rintro e w2 ⟨rfl, n2, rfl⟩
        rw [show take (ByteArray.mk L.toArray).data.toList = some (n, r) from HT.out]
        simp only [takeV]
        go_wp2_with fail
        refine (packUnpack _ _ hs).mono ?_
        rintro e w3 ⟨hun, g3⟩
        rw [show unpack (ByteArray.mk L.toArray).data.toList = some (l, q) from HU.out] at hun
        obtain ⟨v, rfl, hown⟩ := hun
        go_wp2_with fail
        refine (packPut _ _).mono ?_
        rintro e w4 ⟨rfl, g4⟩
        rw [HP.out]
        go_wp2_with fail
        go_ret
        exact ⟨rfl, ((g1.drewN _).trans g3).trans g4⟩
      · have h300' : ¬ (300 : Int) < (L.length : Int) := by omega
        go_enter Try.func8, Try.ntmps8
        go_wp2_with fail
        refine (awake _).mono ?_
        rintro e w1 ⟨rfl, g1⟩
        go_wp2_with fail
        refine (packTake _ _ hs).mono ?_
        rintro e w2 ⟨rfl, n2, rfl⟩
        rw [show take (ByteArray.mk L.toArray).data.toList = some (n, r) from HT.out]
        simp only [takeV]
        go_wp2_with fail
        refine (packUnpack _ _ hs).mono ?_
        rintro e w3 ⟨hun, g3⟩
        rw [show unpack (ByteArray.mk L.toArray).data.toList = some (l, q) from HU.out] at hun
        obtain ⟨v, rfl, hown⟩ := hun
        have hi := Ints.of_owns hown
        clear hown
        go_wp2_with fail
        refine (packPack v _ _ hi hli).mono ?_
        rintro e w4 ⟨rfl, g4⟩
        rw [HV.out]
        go_wp2_with fail
        refine (packPut _ _).mono ?_
        rintro e w5 ⟨rfl, g5⟩
        rw [HP.out]
        go_wp2_with fail
        go_ret
        exact ⟨rfl, (((g1.drewN _).trans g3).trans g4).trans g5⟩
end Go.Proofs.Ythhfebkmhddpkaa.Pack
