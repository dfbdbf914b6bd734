/-
  The walks of PackBack, PackCut and PackTwo.
-/
import Derived.Test.YthhfebkmhddpkaaPackAgain
import GoSem.ClaimJoined
namespace Go.Proofs.Ythhfebkmhddpkaa.Pack
open Go.RowKit
set_option linter.unusedVariables false

theorem wf_u32 {z : Int} (h : (Lit.int .u32 z).wf = true) : 0 ≤ z ∧ z < 4294967296 := by
  have := bounds_u32 h
  omega
theorem pack_len (l : List Nat) (h : ∀ n ∈ l, n ≤ maxN) (hl : l.length ≤ 20) : (pack l).length ≤ 200 := by
  have h1 := packI_len (ints l) (by rw [ints_length]; unfold maxN; omega)
  rw [show packI (ints l) = pack l from packI_nat l h, ints_length] at h1
  omega

set_option maxHeartbeats 1000000 in
set_option maxRecDepth 100000 in
theorem packBack_walk (a0 : Option Addr) (len0 cap0 : Nat) (z0 : List Int) (a1 : ByteArray) (w : World) (w0 : IsRow .u32 w a0 len0 cap0 z0) (w1 : a1.size ≤ maxLen) (s1 : a1.data.toList.length ≤ reachBytes) :
    Calls Try.prog 6 #[.slice a0 len0 cap0, .string a1] w fun e w' => e = .returned (.bool true) ∧ Mem w w' := by
  obtain ⟨hi, hwf⟩ := Ints.of_row w0
  obtain ⟨B, rfl⟩ : ∃ L : List UInt8, a1 = ⟨L.toArray⟩ := ⟨a1.data.toList, by simp⟩
  have hB : B.length ≤ 140737488351232 := s1
  generalize z0.take len0 = zs at *
  have hz : ∀ z ∈ zs, 0 ≤ z ∧ z < 4294967296 := fun z h => wf_u32 (hwf z h)
  have hle := few_le zs hz
  have hfl := few_length zs
  have hpl := pack_len (few zs) hle hfl
  have hli : (ints (few zs)).length ≤ 1099511627776 := by rw [ints_length]; omega
  have HV := hide (packV_nat (few zs) hle)
  have HU := hide (unpack_pack (few zs) (by unfold maxN; omega) hle B)
  have hsum : ¬ (9223372036854775807 < (pack (few zs)).length + B.length) := by omega
  have hsz : (ByteArray.mk (pack (few zs) ++ B).toArray).size ≤ maxLen := by rw [size_mk, List.length_append]; unfold maxLen; omega
  have HW := hide hz
  clear w0 w1 s1 hwf hz hle
  go_enter Try.func6, Try.ntmps6
  go_wp2_with fail
  refine (awake _).mono ?_
  rintro e w1 ⟨rfl, g1⟩
  go_wp2_with fail
  refine (lawFew _ zs _ (hi.mem g1) HW.out).mono ?_
  rintro e w2 ⟨⟨v, rfl, hown⟩, g2⟩
  have hi2 := Ints.of_owns hown
  clear hown hi
  go_wp2_with fail
  refine (packPack v _ _ hi2 hli).mono ?_
  rintro e w3 ⟨rfl, g3⟩
  rw [HV.out]
  have hi3 := hi2.mem g3
  clear hi2
  go_wp2_with fail
  rw [cat_two]
  refine (packUnpack _ _ hsz).mono ?_
  rintro e w4 ⟨hun, g4⟩
  rw [show unpack (ByteArray.mk (pack (few zs) ++ B).toArray).data.toList = some (few zs, B) from HU.out] at hun
  obtain ⟨v2, rfl, hown⟩ := hun
  have hi4 := Ints.of_owns hown
  have hi5 := hi3.mem g4
  clear hown hi3
  go_wp2_with fail
  refine (refSame v v2 _ _ _ hi5 hi4).mono ?_
  rintro e w6 ⟨rfl, n6, rfl⟩
  have hd : decide (ints (few zs) = ints (few zs)) = true := decide_eq_true rfl
  go_wp2_with fail
  go_ret
  exact ⟨rfl, (((g1.trans g2).trans g3).trans g4).drewN _⟩

theorem pack_ne_e (l : List Nat) : (pack l).isEmpty = false := by
  cases hp : pack l with
  | nil => have := pack_pos l; rw [hp] at this; simp at this
  | cons a l => rfl

set_option maxHeartbeats 1000000 in
set_option maxRecDepth 100000 in
theorem packCut_walk (a0 : Option Addr) (len0 cap0 : Nat) (z0 : List Int) (w : World) (w0 : IsRow .u32 w a0 len0 cap0 z0) :
    Calls Try.prog 9 #[.slice a0 len0 cap0] w fun e w' => e = .returned (.bool true) ∧ Mem w w' := by
  obtain ⟨hi, hwf⟩ := Ints.of_row w0
  generalize z0.take len0 = zs at *
  have hz : ∀ z ∈ zs, 0 ≤ z ∧ z < 4294967296 := fun z h => wf_u32 (hwf z h)
  have hle := few_le zs hz
  have hfl := few_length zs
  have hpl := pack_len (few zs) hle hfl
  have hpp := pack_pos (few zs)
  have hli : (ints (few zs)).length ≤ 1099511627776 := by rw [ints_length]; omega
  have HV := hide (packV_nat (few zs) hle)
  have HU := hide (unpack_cut (few zs) (by unfold maxN; omega) hle)
  have hsz : (ByteArray.mk ((pack (few zs)).take ((pack (few zs)).length - 1)).toArray).size ≤ maxLen := by rw [size_mk, List.length_take]; unfold maxLen; omega
  have hne := pack_ne_e (few zs)
  have HW := hide hz
  clear w0 hwf hz hle
  go_enter Try.func9, Try.ntmps9
  go_wp2_with fail
  refine (awake _).mono ?_
  rintro e w1 ⟨rfl, g1⟩
  go_wp2_with fail
  refine (lawFew _ zs _ (hi.mem g1) HW.out).mono ?_
  rintro e w2 ⟨⟨v, rfl, hown⟩, g2⟩
  have hi2 := Ints.of_owns hown
  clear hown hi
  go_wp2_with fail
  refine (packPack v _ _ hi2 hli).mono ?_
  rintro e w3 ⟨rfl, g3⟩
  rw [HV.out]
  clear hi2
  go_wp2_with fail
  rw [ext_take]
  refine (packUnpack _ _ hsz).mono ?_
  rintro e w4 ⟨hun, g4⟩
  rw [show unpack (ByteArray.mk ((pack (few zs)).take ((pack (few zs)).length - 1)).toArray).data.toList = none from HU.out] at hun
  subst hun
  go_wp2_with fail
  go_ret
  exact ⟨rfl, ((g1.trans g2).trans g3).trans g4⟩

set_option maxHeartbeats 1000000 in
set_option maxRecDepth 100000 in
theorem packTwo_walk (a0 : Option Addr) (len0 cap0 : Nat) (z0 : List Int) (a1 : Option Addr) (len1 cap1 : Nat) (z1 : List Int) (w : World) (w0 : IsRow .u32 w a0 len0 cap0 z0) (w1 : IsRow .u32 w a1 len1 cap1 z1) :
    Calls Try.prog 10 #[.slice a0 len0 cap0, .slice a1 len1 cap1] w fun e w' => e = .returned (.bool true) ∧ Mem w w' := by
  obtain ⟨hi, hwf⟩ := Ints.of_row w0
  obtain ⟨hj, hwg⟩ := Ints.of_row w1
  generalize z0.take len0 = zs at *
  generalize z1.take len1 = ys at *
  have hz : ∀ z ∈ zs, 0 ≤ z ∧ z < 4294967296 := fun z h => wf_u32 (hwf z h)
  have hy : ∀ z ∈ ys, 0 ≤ z ∧ z < 4294967296 := fun z h => wf_u32 (hwg z h)
  have hle := few_le zs hz
  have hlf := few_le ys hy
  have hfl := few_length zs
  have hfm := few_length ys
  have hpl := pack_len (few zs) hle hfl
  have hpm := pack_len (few ys) hlf hfm
  have hli : (ints (few zs)).length ≤ 1099511627776 := by rw [ints_length]; omega
  have hlj : (ints (few ys)).length ≤ 1099511627776 := by rw [ints_length]; omega
  have HV := hide (packV_nat (few zs) hle)
  have HY := hide (packV_nat (few ys) hlf)
  have HU := hide (unpack_pack (few zs) (by unfold maxN; omega) hle (pack (few ys)))
  have hu2 := unpack_pack (few ys) (by unfold maxN; omega) hlf []
  rw [List.append_nil] at hu2
  have HT := hide hu2
  have hsum : ¬ (9223372036854775807 < (pack (few zs)).length + (pack (few ys)).length) := by omega
  have hsz : (ByteArray.mk (pack (few zs) ++ pack (few ys)).toArray).size ≤ maxLen := by rw [size_mk, List.length_append]; unfold maxLen; omega
  have hsy : (ByteArray.mk (pack (few ys)).toArray).size ≤ maxLen := by rw [size_mk]; unfold maxLen; omega
  have HW := hide hz
  have HX := hide hy
  clear w0 w1 hwf hwg hz hy hle hlf hu2
  go_enter Try.func10, Try.ntmps10
  go_wp2_with fail
  refine (awake _).mono ?_
  rintro e w1 ⟨rfl, g1⟩
  go_wp2_with fail
  refine (lawFew _ zs _ (hi.mem g1) HW.out).mono ?_
  rintro e w2 ⟨⟨v, rfl, hown⟩, g2⟩
  have g02 := g1.trans g2
  have k2 := Ints.of_owns hown
  clear hown g1 g2
  go_wp2_with fail
  refine (packPack v _ _ k2 hli).mono ?_
  rintro e w3 ⟨rfl, g3⟩
  rw [HV.out]
  have g03 := g02.trans g3
  clear k2 g02 g3
  go_wp2_with fail
  refine (lawFew _ ys _ (hj.mem g03) HX.out).mono ?_
  rintro e w4 ⟨⟨v4, rfl, hown⟩, g4⟩
  have g04 := g03.trans g4
  have k4 := Ints.of_owns hown
  clear hown g03 g4
  go_wp2_with fail
  refine (packPack v4 _ _ k4 hlj).mono ?_
  rintro e w5 ⟨rfl, g5⟩
  rw [HY.out]
  have g05 := g04.trans g5
  clear k4 g04 g5
  go_wp2_with fail
  rw [cat_two]
  refine (packUnpack _ _ hsz).mono ?_
  rintro e w6 ⟨hun, g6⟩
  rw [show unpack (ByteArray.mk (pack (few zs) ++ pack (few ys)).toArray).data.toList = some (few zs, pack (few ys)) from HU.out] at hun
  obtain ⟨v6, rfl, hown⟩ := hun
  have g06 := g05.trans g6
  have k6 := Ints.of_owns hown
  clear hown g05 g6
  go_wp2_with fail
  refine (packUnpack _ _ hsy).mono ?_
  rintro e w7 ⟨hun, g7⟩
  rw [show unpack (ByteArray.mk (pack (few ys)).toArray).data.toList = some (few ys, []) from HT.out] at hun
  obtain ⟨v7, rfl, hown⟩ := hun
  have g07 := g06.trans g7
  have k7 := Ints.of_owns hown
  have k6' := k6.mem g7
  clear hown g06 g7 k6
  go_wp2_with fail
  refine (lawFew _ zs _ (hi.mem g07) HW.out).mono ?_
  rintro e w8 ⟨⟨v8, rfl, hown⟩, g8⟩
  have g08 := g07.trans g8
  have k8 := Ints.of_owns hown
  have k6'' := k6'.mem g8
  have k7' := k7.mem g8
  clear hown g07 g8 k6' k7
  go_wp2_with fail
  refine (refSame v6 v8 _ _ _ k6'' k8).mono ?_
  rintro e w9 ⟨rfl, n9, rfl⟩
  have hd : decide (ints (few zs) = ints (few zs)) = true := decide_eq_true rfl
  have g09 := g08.drewN n9
  have k7'' := k7'.drewN n9
  generalize w8.drewN n9 = w9 at *
  clear g08 k8 k6'' k7'
  go_wp2_with fail
  refine (lawFew _ ys _ (hj.mem g09) HX.out).mono ?_
  rintro e w10 ⟨⟨v10, rfl, hown⟩, g10⟩
  have g010 := g09.trans g10
  have k10 := Ints.of_owns hown
  have k7a := k7''.mem g10
  clear hown g09 g10 k7''
  go_wp2_with fail
  refine (refSame v7 v10 _ _ _ k7a k10).mono ?_
  rintro e w11 ⟨rfl, n11, rfl⟩
  have hd2 : decide (ints (few ys) = ints (few ys)) = true := decide_eq_true rfl
  go_wp2_with fail
  go_ret
  exact ⟨rfl, g010.drewN _⟩
end Go.Proofs.Ythhfebkmhddpkaa.Pack
