/-
  Contracts of pack.Pack, of the document's answer for it, and of the laws' own helper.
-/
import Derived.Test.YtcjhaapmehegkaaPackLists
namespace Go.Proofs.Ytcjhaapmehegkaa.Pack
open Go.RowKit

/-- each may be packed -/
abbrev okAll (zs : List Int) : Prop := ∀ z ∈ zs, 0 ≤ z ∧ z ≤ 1099511627776
/-- what Pack answers -/
def packV (zs : List Int) : Value := if okAll zs then .tuple #[.string ⟨(packI zs).toArray⟩, .int .i64 0] else .tuple #[.string ⟨#[]⟩, .int .i64 1]
theorem packV_yes {zs : List Int} (h : okAll zs) : packV zs = .tuple #[.string ⟨(packI zs).toArray⟩, .int .i64 0] := by unfold packV; rw [if_pos h]
theorem packV_no {zs : List Int} {k : Nat} (h : k < zs.length) (hk : ¬ (0 ≤ zs.getD k 0 ∧ zs.getD k 0 ≤ 1099511627776)) : packV zs = .tuple #[.string ⟨#[]⟩, .int .i64 1] := by
  unfold packV; rw [if_neg]
  intro ha
  have hm : zs.getD k 0 ∈ zs := by simp [h]
  exact hk (ha _ hm)
theorem okAll_snoc {zs : List Int} {k : Nat} (h : k < zs.length) (hk : okAll (zs.take k)) (hz : 0 ≤ zs.getD k 0 ∧ zs.getD k 0 ≤ 1099511627776) : okAll (zs.take (k + 1)) := by
  intro z hm
  rw [List.take_succ_eq_append_getElem h] at hm
  rcases List.mem_append.1 hm with hm | hm
  · exact hk z hm
  · rw [List.mem_singleton] at hm
    have : zs.getD k 0 = zs[k] := by simp [h]
    rw [hm, ← this]; exact hz
theorem putsI_at {zs : List Int} {k : Nat} (h : k < zs.length) (p : List UInt8) : p ++ putsI (zs.take k) ++ putI (zs.getD k 0) = p ++ putsI (zs.take (k + 1)) := by
  rw [List.take_succ_eq_append_getElem h, putsI_snoc, List.append_assoc]
  have : zs.getD k 0 = zs[k] := by simp [h]
  rw [this]
theorem packI_end (zs : List Int) : put zs.length ++ putsI (zs.take zs.length) = packI zs := by rw [List.take_of_length_le (Nat.le_refl _)]; rfl
theorem pre_len (zs : List Int) (k : Nat) (h : zs.length ≤ 1099511627776) : (put zs.length ++ putsI (zs.take k)).length ≤ 6 * zs.length + 6 := by
  rw [List.length_append]
  have h1 := put_six (show zs.length ≤ maxN from h)
  have h2 := putsI_len (zs.take k)
  have h3 : (zs.take k).length ≤ zs.length := by rw [List.length_take]; omega
  omega
theorem putI_ne {z : Int} (h : 0 ≤ z ∧ z ≤ 1099511627776) : (putI z).isEmpty = false := by
  rw [putI_yes h.1 h.2]
  cases hp : put z.toNat with
  | nil => exact absurd hp (put_ne _)
  | cons a l => rfl

set_option maxHeartbeats 2000000 in
set_option maxRecDepth 100000 in
theorem packPack (v : Value) (zs : List Int) (w : World) (h : Ints .i64 w v zs) (hl : zs.length ≤ 1099511627776) :
    Calls Try.prog 73 #[v] w fun e w' => e = .returned (packV zs) ∧ Mem w w' := by
  obtain ⟨oa, ca, rfl⟩ := h.shape
  have kc := run_bytesOf
  have hS6 := put_six (show zs.length ≤ maxN from hl)
  go_enter Try.func73, Try.ntmps73
  go_wp2_with fail
  refine (packPut _ _).mono ?_
  rintro e w1 ⟨rfl, hm1⟩
  rw [putI_nat (show zs.length ≤ maxN from hl)]
  have hst := ownsB_start w1 ⟨(put zs.length).toArray⟩ w.heap.size hm1.size (by rw [size_mk]; unfold maxLen; omega)
  have hst' : ownsB (w1.drew.alloc (rowOf w1 ⟨(put zs.length).toArray⟩)) w.heap.size (.slice (some ⟨w1.heap.size, 0, none⟩) (put zs.length).length (rowCap w1 ⟨(put zs.length).toArray⟩)) (put zs.length) := by
    rw [size_mk] at hst; exact hst
  clear hst
  have hm2 : Mem w (w1.drew.alloc (rowOf w1 ⟨(put zs.length).toArray⟩)) := hm1.drew.alloc _
  go_wp2_with fail
  go_loopw [4, 14] (fun out i wr => ∃ k : Nat, k ≤ zs.length ∧ i = .int .i64 k ∧ okAll (zs.take k) ∧ ownsB wr w.heap.size out (put zs.length ++ putsI (zs.take k)) ∧ Mem w wr) (fun _ i _ => zs.length - (intOf i).toNat)
  case atStart =>
    refine ⟨0, Nat.zero_le _, rfl, by intro z hz; simp at hz, ?_, hm2⟩
    rw [List.take_zero, show putsI [] = [] from rfl, List.append_nil]
    exact hst'
  case round =>
    obtain ⟨k, hk, rfl, hok, hown, hm⟩ := hrel
    have HO := hide hok
    clear hok
    by_cases hlt : k < zs.length
    · obtain ⟨b, off, rfl, hc⟩ := (h.mem hm).at (by omega)
      have hck := hc k hlt
      clear hc
      have hpl := pre_len zs k hl
      have HN := @packV_no zs k hlt
      have HS := hide (okAll_snoc hlt HO.out)
      have HP := hide (putsI_at hlt (put zs.length))
      have HV := hide HN
      clear HN
      generalize zs.getD k 0 = z at *
      generalize put zs.length ++ putsI (zs.take k) = L at *
      by_cases hz : 0 ≤ z ∧ z ≤ 1099511627776
      · have hze := putI_ne hz
        have hz6 := putI_six z
        have HZ := hide hz
        clear hz
        go_wp2_with fail
        refine (packPut z _).mono ?_
        rintro e w2 ⟨rfl, hm2'⟩
        have hown2 := hown.mem hm2'
        have hm3 := hm.trans hm2'
        clear hown hst' hck
        have hsz : (ByteArray.mk (putI z).toArray).size = (putI z).length := size_mk _
        have hb : w.heap.size ≤ w2.heap.size := hm3.size
        go_wp2_with (first | (at_builtin; refine push_text rfl _ _ rfl w.heap.size _ L rfl hown2 hb ⟨(putI z).toArray⟩ rfl (by rw [hsz]; omega) ?_) | fail)
        intro v' w' h1 h2
        have h1' : ownsB w' w.heap.size v' (put zs.length ++ putsI (zs.take (k + 1))) := by rw [← HP.out]; exact h1
        clear h1 hown2
        go_wp2_with fail
        go_roundw
        case rel => exact ⟨k + 1, by omega, by go_num, HS.out HZ.out, h1', Below.trans hm3 h2⟩
        case measure => simp [intOf]; omega
      · go_wp2_with fail
        refine (packPut z _).mono ?_
        rintro e w2 ⟨rfl, hm2'⟩
        rw [putI_no (by omega)]
        go_wp2_with fail
        go_ret2
        exact ⟨ret_eq (HV.out hz).symm, hm.trans hm2'⟩
    · have hke : k = zs.length := by omega
      subst hke
      rw [packI_end] at hown
      have hcv := hown.conv
      have HV : Hid (packV zs = _) := packV_yes (by have := HO.out; rwa [List.take_of_length_le (Nat.le_refl _)] at this)
      clear hown hst'
      go_wp2_with fail
      go_ret2
      exact ⟨ret_eq HV.out.symm, hm⟩

theorem cat_two (l m : List UInt8) : (⟨l.toArray⟩ ++ ⟨m.toArray⟩ : ByteArray) = ⟨(l ++ m).toArray⟩ := by
  apply ByteArray.ext; simp

set_option maxHeartbeats 2000000 in
set_option maxRecDepth 100000 in
theorem refPack (v : Value) (zs : List Int) (w : World) (h : Ints .i64 w v zs) (hl : zs.length ≤ 1099511627776) :
    Calls Try.prog 68 #[v] w fun e w' => e = .returned (packV zs) ∧ Mem w w' := by
  obtain ⟨oa, ca, rfl⟩ := h.shape
  have hS6 := put_six (show zs.length ≤ maxN from hl)
  go_enter Try.func68, Try.ntmps68
  go_wp2_with fail
  refine (refPut _ _).mono ?_
  rintro e w1 ⟨rfl, hm1⟩
  rw [putI_nat (show zs.length ≤ maxN from hl)]
  go_wp2_with fail
  go_loopw [4, 5] (fun out i wr => ∃ k : Nat, k ≤ zs.length ∧ i = .int .i64 k ∧ okAll (zs.take k) ∧ out = .string ⟨(put zs.length ++ putsI (zs.take k)).toArray⟩ ∧ Mem w wr) (fun _ i _ => zs.length - (intOf i).toNat)
  case atStart =>
    refine ⟨0, Nat.zero_le _, rfl, by intro z hz; simp at hz, ?_, hm1⟩
    rw [List.take_zero, show putsI [] = [] from rfl, List.append_nil]
  case round =>
    obtain ⟨k, hk, rfl, hok, ho, hm⟩ := hrel
    have HO := hide hok
    clear hok
    by_cases hlt : k < zs.length
    · subst ho
      obtain ⟨b, off, rfl, hc⟩ := (h.mem hm).at (by omega)
      have hck := hc k hlt
      clear hc
      have hpl := pre_len zs k hl
      have HN := @packV_no zs k hlt
      have HS := hide (okAll_snoc hlt HO.out)
      have HP := hide (putsI_at hlt (put zs.length))
      have HV := hide HN
      clear HN
      generalize zs.getD k 0 = z at *
      generalize put zs.length ++ putsI (zs.take k) = L at *
      by_cases hz : 0 ≤ z ∧ z ≤ 1099511627776
      · have hze := putI_ne hz
        have hz6 := putI_six z
        have HZ := hide hz
        clear hz
        go_wp2_with fail
        refine (refPut z _).mono ?_
        rintro e w2 ⟨rfl, hm2'⟩
        have hm3 := hm.trans hm2'
        clear hck
        have hsum : ¬ (9223372036854775807 < L.length + (putI z).length) := by omega
        go_wp2_with fail
        go_roundw
        case rel => exact ⟨k + 1, by omega, by go_num, HS.out HZ.out, str_eq (by rw [cat_two, HP.out]), hm3⟩
        case measure => simp [intOf]; omega
      · go_wp2_with fail
        refine (refPut z _).mono ?_
        rintro e w2 ⟨rfl, hm2'⟩
        rw [putI_no (by omega)]
        go_wp2_with fail
        go_ret2
        exact ⟨ret_eq (HV.out hz).symm, hm.trans hm2'⟩
    · have hke : k = zs.length := by omega
      subst hke
      have HV : Hid (packV zs = _) := packV_yes (by have := HO.out; rwa [List.take_of_length_le (Nat.le_refl _)] at this)
      rw [packI_end] at ho
      subst ho
      go_wp2_with fail
      go_ret2
      exact ⟨ret_eq HV.out.symm, hm⟩

end Go.Proofs.Ytcjhaapmehegkaa.Pack
