/-
  Contracts of pack.Pack, of the document's answer for it, and of the laws' own helper.
-/
import Derived.Test.YthhfebkmhddpkaaPackLists
namespace Go.Proofs.Ythhfebkmhddpkaa.Pack
open Go.RowKit

/-- each may be packed -/
abbrev okAll (zs : List Int) : Prop := ∀ z ∈ zs, 0 ≤ z ∧ z ≤ 1099511627776
/-- what Pack answers -/
def packV (zs : List Int) : Value := if okAll zs then .tuple #[.string ⟨(packI zs).toArray⟩, .int .i64 0] else .tuple #[.string ⟨#[]⟩, .int .i64 1]
theorem packV_yes {zs : List Int} (h : okAll zs) : packV zs = .tuple #[.string ⟨(packI zs).toArray⟩, .int .i64 0] := by unfold packV; rw [if_pos h]
theorem packV_no {zs : List Int} {k : Nat} (h : k < zs.length) (hk : ¬ (0 ≤ zs.getD k 0 ∧ zs.getD k 0 ≤ 1099511627776)) : packV zs = .tuple #[.string ⟨#[]⟩, .int .i64 1] := by
  unfold packV; rw [if_neg]
  intro ha
  have hm : zs.getD k 0 ∈ zs := by simp [h]
  exact hk (ha _ hm)
theorem okAll_snoc {zs : List Int} {k : Nat} (h : k < zs.length) (hk : okAll (zs.take k)) (hz : 0 ≤ zs.getD k 0 ∧ zs.getD k 0 ≤ 1099511627776) : okAll (zs.take (k + 1)) := by
  intro z hm
  rw [List.take_succ_eq_append_getElem h] at hm
  rcases List.mem_append.1 hm with hm | hm
  · exact hk z hm
  · rw [List.mem_singleton] at hm
    have : zs.getD k 0 = zs[k] := by simp [h]
    rw [hm, ← this]; exact hz
theorem putsI_at {zs : List Int} {k : Nat} (h : k < zs.length) (p : List UInt8) : p ++ putsI (zs.take k) ++ putI (zs.getD k 0) = p ++ putsI (zs.take (k + 1)) := by
  rw [List.take_succ_eq_append_getElem h, putsI_snoc, List.append_assoc]
  have : zs.getD k 0 = zs[k] := by simp [h]
  rw [this]
theorem packI_end (zs : List Int) : put zs.length ++ putsI (zs.take zs.length) = packI zs := by rw [List.take_of_length_le (Nat.le_refl _)]; rfl
theorem pre_len (zs : List Int) (k : Nat) (h : zs.length ≤ 1099511627776) : (put zs.length ++ putsI (zs.take k)).length ≤ 6 * zs.length + 6 := by
  rw [List.length_append]
  have h1 := put_six (show zs.length ≤ maxN from h)
  have h2 := putsI_len (zs.take k)
  have h3 : (zs.take k).length ≤ zs.length := by rw [List.length_take]; omega
  omega
theorem putI_ne {z : Int} (h : 0 ≤ z ∧ z ≤ 1099511627776) : (putI z).isEmpty = false := by
  rw [putI_yes h.1 h.2]
  cases hp : put z.toNat with
  | nil => exact absurd hp (put_ne _)
  | cons a l => rfl

set_option maxHeartbeats 2000000 in
set_option maxRecDepth 100000 in
theorem packPack (v : Value) (zs : List Int) (w : World) (h : Ints .i64 w v zs) (hl : zs.length ≤ 1099511627776) :
    Calls Try.prog 20 #[v] w fun e w' => e = .returned (packV zs) ∧ Mem w w' := by
  obtain ⟨oa, ca, rfl⟩ := h.shape
  have kc := run_bytesOf
  have hS6 := put_six (show zs.length ≤ maxN from hl)
  go_enter Try.func20, Try.ntmps20
  go_wp2_with fail
  refine (packPut _ _).mono ?_
  rintro e w1 ⟨rfl, hm1⟩
  rw [putI_nat (show zs.length ≤ maxN from hl)]
  have hst := ownsB_start w1 ⟨(put zs.length).toArray⟩ w.heap.size hm1.size (by rw [size_mk]; unfold maxLen; omega)
  have hst' : ownsB (w1.drew.alloc (rowOf w1 ⟨(put zs.length).toArray⟩)) w.heap.size (.slice (some ⟨w1.heap.size, 0, none⟩) (put zs.length).length (rowCap w1 ⟨(put zs.length).toArray⟩)) (put zs.length) := by
    rw [size_mk] at hst; exact hst
  clear hst
  have hm2 : Mem w (w1.drew.alloc (rowOf w1 ⟨(put zs.length).toArray⟩)) := hm1.drew.alloc _
  go_wp2_with fail
  go_loopw [4, 14] (fun out i wr => ∃ k : Nat, k ≤ zs.length ∧ i = .int .i64 k ∧ okAll (zs.take k) ∧ ownsB wr w.heap.size out (put zs.length ++ putsI (zs.take k)) ∧ Mem w wr) (fun _ i _ => zs.length - (intOf i).toNat)
  case atStart =>
    refine ⟨0, Nat.zero_le _, rfl, by intro z hz; simp at hz, ?_, hm2⟩
    rw [List.take_zero, show putsI [] = [] from rfl, List.append_nil]
    exact hst'
  case round =>
    obtain ⟨k, hk, rfl, hok, hown, hm⟩ := hrel
    have HO := hide hok
    clear hok
    by_cases hlt : k < zs.length
    · obtain ⟨b, off, rfl, hc⟩ := (h.mem hm).at (by omega)
      have hck := hc k hlt
      clear hc
      have hpl := pre_len zs k hl
      have HN := @packV_no zs k hlt
      have HS := hide (okAll_snoc hlt HO.out)
      have HP := hide (putsI_at hlt (put zs.length))
      have HV := hide HN
      clear HN
      generalize zs.getD k 0 = z at *
      generalize put zs.length ++ putsI (zs.take k) = L at *
      by_cases hz : 0 ≤ z ∧ z ≤ 1099511627776
      · have hze := putI_ne hz
        have hz6 := putI_six z
        have HZ := hide hz
        clear hz
        go_wp2_with fail
        refine (packPut z _).mono ?_
        rintro e w2 ⟨rfl, hm2'⟩
        have hown2 := hown.mem hm2'
        have hm3 := hm.trans hm2'
        clear hown hst' hck
        have hsz : (ByteArray.mk (putI z).toArray).size = (putI z).length := size_mk _
        have hb : w.heap.size ≤ w2.heap.size := hm3.size
        go_wp2_with (first | (at_builtin; refine push_text rfl _ _ rfl w.heap.size _ L rfl hown2 hb ⟨(putI z).toArray⟩ rfl (by rw [hsz]; omega) ?_) | fail)
        intro v' w' h1 h2
        have h1' : ownsB w' w.heap.size v' (put zs.length ++ putsI (zs.take (k + 1))) := by rw [← HP.out]; exact h1
        clear h1 hown2
        go_wp2_with fail
        go_roundw
        case rel => exact ⟨k + 1, by omega, by go_num, HS.out HZ.out, h1', Below.trans hm3 h2⟩
        case measure => simp [intOf]; omega
      · go_wp2_with fail
        refine (packPut z _).mono ?_
        rintro e w2 ⟨rfl, hm2'⟩
        rw [putI_no (by omega)]
        go_wp2_with fail
        go_ret2
        exact ⟨ret_eq (HV.out hz).symm, hm.trans hm2'⟩
    · have hke : k = zs.length := by omega
      subst hke
      rw [packI_end] at hown
      have hcv := hown.conv
      have HV : Hid (packV zs = _) := packV_yes (by have := HO.out; rwa [List.take_of_length_le (Nat.le_refl _)] at this)
      clear hown hst'
      go_wp2_with fail
      go_ret2
      exact ⟨ret_eq HV.out.symm, hm⟩

theorem cat_two (l m : List UInt8) : (⟨l.toArray⟩ ++ ⟨m.toArray⟩ : ByteArray) = ⟨(l ++ m).toArray⟩ := by
  apply ByteArray.ext; simp

set_option maxHeartbeats 2000000 in
set_option maxRecDepth 100000 in
theorem refPack (v : Value) (zs : List Int) (w : World) (h : Ints .i64 w v zs) (hl : zs.length ≤ 1099511627776) :
    Calls Try.prog 21 #[v] w fun e w' => e = .returned (packV zs) ∧ Mem w w' := by
  obtain ⟨oa, ca, rfl⟩ := h.shape
  have hS6 := put_six (show zs.length ≤ maxN from hl)
  go_enter Try.func21, Try.ntmps21
  go_wp2_with fail
  refine (refPut _ _).mono ?_
  rintro e w1 ⟨rfl, hm1⟩
  rw [putI_nat (show zs.length ≤ maxN from hl)]
  go_wp2_with fail
  go_loopw [4, 5] (fun out i wr => ∃ k : Nat, k ≤ zs.length ∧ i = .int .i64 k ∧ okAll (zs.take k) ∧ out = .string ⟨(put zs.length ++ putsI (zs.take k)).toArray⟩ ∧ Mem w wr) (fun _ i _ => zs.length - (intOf i).toNat)
  case atStart =>
    refine ⟨0, Nat.zero_le _, rfl, by intro z hz; simp at hz, ?_, hm1⟩
    rw [List.take_zero, show putsI [] = [] from rfl, List.append_nil]
  case round =>
    obtain ⟨k, hk, rfl, hok, ho, hm⟩ := hrel
    have HO := hide hok
    clear hok
    by_cases hlt : k < zs.length
    · subst ho
      obtain ⟨b, off, rfl, hc⟩ := (h.mem hm).at (by omega)
      have hck := hc k hlt
      clear hc
      have hpl := pre_len zs k hl
      have HN := @packV_no zs k hlt
      have HS := hide (okAll_snoc hlt HO.out)
      have HP := hide (putsI_at hlt (put zs.length))
      have HV := hide HN
      clear HN
      generalize zs.getD k 0 = z at *
      generalize put zs.length ++ putsI (zs.take k) = L at *
      by_cases hz : 0 ≤ z ∧ z ≤ 1099511627776
      · have hze := putI_ne hz
        have hz6 := putI_six z
        have HZ := hide hz
        clear hz
        go_wp2_with fail
        refine (refPut z _).mono ?_
        rintro e w2 ⟨rfl, hm2'⟩
        have hm3 := hm.trans hm2'
        clear hck
        have hsum : ¬ (9223372036854775807 < L.length + (putI z).length) := by omega
        go_wp2_with fail
        go_roundw
        case rel => exact ⟨k + 1, by omega, by go_num, HS.out HZ.out, str_eq (by rw [cat_two, HP.out]), hm3⟩
        case measure => simp [intOf]; omega
      · go_wp2_with fail
        refine (refPut z _).mono ?_
        rintro e w2 ⟨rfl, hm2'⟩
        rw [putI_no (by omega)]
        go_wp2_with fail
        go_ret2
        exact ⟨ret_eq (HV.out hz).symm, hm.trans hm2'⟩
    · have hke : k = zs.length := by omega
      subst hke
      have HV : Hid (packV zs = _) := packV_yes (by have := HO.out; rwa [List.take_of_length_le (Nat.le_refl _)] at this)
      rw [packI_end] at ho
      subst ho
      go_wp2_with fail
      go_ret2
      exact ⟨ret_eq HV.out.symm, hm⟩

/-- the laws' numbers that may be packed -/
def fewN (z : Nat) : Nat := if (if z % 3 = 0 then z % 300 else z) % 7 = 1 then (if z % 3 = 0 then z % 300 else z) * 250 else (if z % 3 = 0 then z % 300 else z)
def few (zs : List Int) : List Nat := (zs.take 20).map fun z => fewN z.toNat
theorem fewN_le {z : Nat} (h : z < 4294967296) : fewN z ≤ maxN := by unfold fewN maxN; split <;> split <;> omega
theorem few_length (zs : List Int) : (few zs).length ≤ 20 := by unfold few; rw [List.length_map, List.length_take]; omega
theorem few_le (zs : List Int) (h : ∀ z ∈ zs, 0 ≤ z ∧ z < 4294967296) : ∀ n ∈ few zs, n ≤ maxN := by
  intro n hn
  unfold few at hn
  obtain ⟨z, hz, rfl⟩ := List.mem_map.1 hn
  have := h z (List.mem_of_mem_take hz)
  exact fewN_le (by omega)
theorem few_snoc (zs : List Int) (k : Nat) (h : k < zs.length) (h20 : k < 20) : (few zs).take k ++ [fewN (zs.getD k 0).toNat] = (few zs).take (k + 1) := by
  have hl : (few zs).length = min 20 zs.length := by unfold few; rw [List.length_map, List.length_take]
  rw [List.take_succ_eq_append_getElem (by omega)]
  congr 2
  unfold few
  simp [h]
theorem fewN_11 {z : Nat} (h : z % 3 = 0) (h7 : z % 300 % 7 = 1) : fewN z = z % 300 * 250 := by unfold fewN; rw [if_pos h, if_pos h7]
theorem fewN_12 {z : Nat} (h : z % 3 = 0) (h7 : ¬ z % 300 % 7 = 1) : fewN z = z % 300 := by unfold fewN; rw [if_pos h, if_neg h7]
theorem fewN_21 {z : Nat} (h : ¬ z % 3 = 0) (h7 : z % 7 = 1) : fewN z = z * 250 := by unfold fewN; rw [if_neg h, if_pos h7]
theorem fewN_22 {z : Nat} (h : ¬ z % 3 = 0) (h7 : ¬ z % 7 = 1) : fewN z = z := by unfold fewN; rw [if_neg h, if_neg h7]
theorem few_end (zs : List Int) (k : Nat) (h : 20 ≤ k ∨ zs.length ≤ k) : (few zs).take k = few zs := by
  have hl : (few zs).length = min 20 zs.length := by unfold few; rw [List.length_map, List.length_take]
  exact List.take_of_length_le (by omega)
theorem few_take_len (zs : List Int) (k : Nat) (h : k ≤ zs.length) (h20 : k ≤ 20) : ((few zs).take k).length = k := by
  have hl : (few zs).length = min 20 zs.length := by unfold few; rw [List.length_map, List.length_take]
  rw [List.length_take]; omega

set_option maxHeartbeats 2000000 in
set_option maxRecDepth 100000 in
theorem lawFew (v : Value) (zs : List Int) (w : World) (h : Ints .u32 w v zs) (hw : ∀ z ∈ zs, 0 ≤ z ∧ z < 4294967296) :
    Calls Try.prog 22 #[v] w fun e w' => (∃ v', e = .returned v' ∧ w'.ownsRow w.heap.size 3 1 v' (few zs).length (icells (ints (few zs)))) ∧ Mem w w' := by
  obtain ⟨oa, ca, rfl⟩ := h.shape
  have hl := h.1
  unfold maxLen at hl
  go_enter Try.func22, Try.ntmps22
  go_wp2_with fail
  go_loopw [3, 4] (fun out i wr => ∃ k : Nat, k ≤ zs.length ∧ k ≤ 20 ∧ i = .int .i64 k ∧ wr.ownsRow w.heap.size 3 1 out k (icells (ints ((few zs).take k))) ∧ Mem w wr) (fun _ i _ => 20 - (intOf i).toNat)
  case atStart => exact ⟨0, Nat.zero_le _, by omega, rfl, World.ownsRow_nil _ _ _ _, Mem.refl _⟩
  case round =>
    obtain ⟨k, hk, hk20, rfl, hown, hm⟩ := hrel
    by_cases hlt : k < zs.length ∧ k < 20
    · obtain ⟨hkl, hk2⟩ := hlt
      obtain ⟨b, off, rfl, hc⟩ := (h.mem hm).at (by omega)
      have hck := hc k hkl
      clear hc
      have hzz := hw (zs.getD k 0) (by simp [hkl])
      have HS := hide (few_snoc zs k hkl hk2)
      generalize zs.getD k 0 = z at *
      obtain ⟨n, rfl⟩ := Int.eq_ofNat_of_zero_le hzz.1
      rw [Int.toNat_natCast] at HS
      have hn : (n : Int) ≤ 4294967295 := by have := hzz.2; omega
      clear hzz hw
      have fin : ∀ (v' : Value) (w' : World), w'.ownsRow w.heap.size 3 1 v' (k + 1) (icells (ints ((few zs).take k) ++ [(fewN n : Int)])) → w'.ownsRow w.heap.size 3 1 v' (k + 1) (icells (ints ((few zs).take (k + 1)))) := by
        intro v' w' h1
        rw [← HS.out, ints_snoc]; exact h1
      have FIN := hide fin
      clear fin HS
      by_cases h3 : n % 3 = 0
      · have h3' : ((n : Int) % 3 == 0) = true := by rw [beq_iff_eq]; omega
        by_cases h7 : n % 300 % 7 = 1
        · have h7' : ((n : Int) % 300 % 7 == 1) = true := by rw [beq_iff_eq]; omega
          have hf := fewN_11 h3 h7
          have HF : Hid ((n : Int) % 300 * 250 = (fewN n : Int)) := by show _ = _; rw [hf]; simp
          clear hf h3 h7
          go_wp2_with (first | (at_builtin; refine pushI rfl _ _ rfl w.heap.size _ (ints ((few zs).take k)) k rfl hown hm.size _ rfl (by omega) ?_) | fail)
          intro v' w' h1 h2
          rw [HF.out] at h1
          have h1 := FIN.out _ _ h1
          clear hown
          go_wp2_with fail
          go_roundw
          case rel => exact ⟨k + 1, by omega, by omega, by go_num, h1, Below.trans hm h2⟩
          case measure => simp [intOf]; omega
        · have h7' : ((n : Int) % 300 % 7 == 1) = false := by rw [beq_eq_false_iff_ne]; omega
          have hf := fewN_12 h3 h7
          have HF : Hid ((n : Int) % 300 = (fewN n : Int)) := by show _ = _; rw [hf]; simp
          clear hf h3 h7
          go_wp2_with (first | (at_builtin; refine pushI rfl _ _ rfl w.heap.size _ (ints ((few zs).take k)) k rfl hown hm.size _ rfl (by omega) ?_) | fail)
          intro v' w' h1 h2
          rw [HF.out] at h1
          have h1 := FIN.out _ _ h1
          clear hown
          go_wp2_with fail
          go_roundw
          case rel => exact ⟨k + 1, by omega, by omega, by go_num, h1, Below.trans hm h2⟩
          case measure => simp [intOf]; omega
      · have h3' : ((n : Int) % 3 == 0) = false := by rw [beq_eq_false_iff_ne]; omega
        by_cases h7 : n % 7 = 1
        · have h7' : ((n : Int) % 7 == 1) = true := by rw [beq_iff_eq]; omega
          have hf := fewN_21 h3 h7
          have HF : Hid ((n : Int) * 250 = (fewN n : Int)) := by show _ = _; rw [hf]; simp
          clear hf h3 h7
          go_wp2_with (first | (at_builtin; refine pushI rfl _ _ rfl w.heap.size _ (ints ((few zs).take k)) k rfl hown hm.size _ rfl (by omega) ?_) | fail)
          intro v' w' h1 h2
          rw [HF.out] at h1
          have h1 := FIN.out _ _ h1
          clear hown
          go_wp2_with fail
          go_roundw
          case rel => exact ⟨k + 1, by omega, by omega, by go_num, h1, Below.trans hm h2⟩
          case measure => simp [intOf]; omega
        · have h7' : ((n : Int) % 7 == 1) = false := by rw [beq_eq_false_iff_ne]; omega
          have hf := fewN_22 h3 h7
          have HF : Hid ((n : Int) = (fewN n : Int)) := by show _ = _; rw [hf]
          clear hf h3 h7
          go_wp2_with (first | (at_builtin; refine pushI rfl _ _ rfl w.heap.size _ (ints ((few zs).take k)) k rfl hown hm.size _ rfl (by omega) ?_) | fail)
          intro v' w' h1 h2
          rw [HF.out] at h1
          have h1 := FIN.out _ _ h1
          clear hown
          go_wp2_with fail
          go_roundw
          case rel => exact ⟨k + 1, by omega, by omega, by go_num, h1, Below.trans hm h2⟩
          case measure => simp [intOf]; omega
    · have hfl := few_take_len zs k hk hk20
      rw [few_end zs k (by omega)] at hown hfl
      have HFL := hide hfl
      clear hfl
      by_cases hkl : k < zs.length
      · have hkl' : (k : Int) < (zs.length : Int) := by omega
        have hk2 : ¬ (k : Int) < 20 := by omega
        clear hlt
        go_wp2_with fail
        go_ret
        exact ⟨⟨_, rfl, by rw [HFL.out]; exact hown⟩, hm⟩
      · have hkl' : ¬ (k : Int) < (zs.length : Int) := by omega
        clear hlt
        go_wp2_with fail
        go_ret
        exact ⟨⟨_, rfl, by rw [HFL.out]; exact hown⟩, hm⟩
end Go.Proofs.Ythhfebkmhddpkaa.Pack
