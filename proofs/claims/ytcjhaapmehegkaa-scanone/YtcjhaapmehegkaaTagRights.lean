/-
  Layer 3: which records are right (the program's and the document's).
-/
import Derived.Test.YtcjhaapmehegkaaInts
import Derived.Test.YtcjhaapmehegkaaTagMath
namespace Go.Proofs.Ytcjhaapmehegkaa.Tag
open Go.RowKit

theorem drop_get (l : List Int) (k : Nat) (h : k < l.length) : l.drop k = l.getD k 0 :: l.drop (k + 1) := by
  rw [List.drop_eq_getElem_cons h]; simp [h]
theorem places_at {l : List Int} {k : Nat} (h : k < l.length) : places (l.drop k) = (place (l.getD k 0) && places (l.drop (k + 1))) := by rw [drop_get l k h]; rfl
theorem place_yes {z : Int} (h : -1 ≤ z) (h' : z < 512) : place z = true := by simp [place, h, h']
theorem place_no {z : Int} (h : z < -1 ∨ 512 ≤ z) : place z = false := by
  unfold place; rw [Bool.and_eq_false_iff]
  rcases h with h | h
  · exact .inl (by simp; omega)
  · exact .inr (by simp; omega)
theorem rise_at {l : List Int} {k : Nat} (last : Int) (h : k < l.length) : rise last (l.drop k) = (decide (last < l.getD k 0) && decide (l.getD k 0 < 64) && rise (l.getD k 0) (l.drop (k + 1))) := by rw [drop_get l k h]; rfl
theorem rise_end (last : Int) (l : List Int) : rise last (l.drop l.length) = true := by rw [List.drop_length]; rfl
theorem places_end (l : List Int) : places (l.drop l.length) = true := by rw [List.drop_length]; rfl

set_option maxHeartbeats 1000000 in
set_option maxRecDepth 100000 in
theorem tagPlaces (v : Value) (vs : List Int) (w : World) (h : Ints .i64 w v vs) :
    Calls Try.prog 89 #[v] w fun e w' => e = .returned (.bool (places vs)) ∧ w' = w := by
  obtain ⟨oa, ca, rfl⟩ := h.shape
  have hl := h.1
  unfold maxLen at hl
  go_enter Try.func89, Try.ntmps89
  go_wp2
  go_loop [7] (fun i => ∃ k : Nat, k ≤ vs.length ∧ i = .int .i64 k ∧ places vs = places (vs.drop k)) (fun i => vs.length - (intOf i).toNat)
  case atStart => exact ⟨0, Nat.zero_le _, rfl, rfl⟩
  case round =>
    obtain ⟨k, hk, rfl, hp⟩ := hrel
    by_cases hlt : k < vs.length
    · obtain ⟨b, off, rfl, hc⟩ := h.at (by omega)
      have c1 := hc k hlt
      rw [places_at hlt] at hp
      have HP := hide hp
      clear hp hc
      generalize vs.getD k 0 = z at *
      by_cases h1 : z < -1
      · go_wp2
        go_ret
        refine ⟨ret_b ?_, rfl⟩
        rw [HP.out, place_no (.inl h1)]; rfl
      · by_cases h2 : 512 ≤ z
        · go_wp2
          go_ret
          refine ⟨ret_b ?_, rfl⟩
          rw [HP.out, place_no (.inr h2)]; rfl
        · go_wp2
          go_round
          case rel => exact ⟨k + 1, by omega, by go_num, by rw [HP.out, place_yes (by omega) (by omega)]; rfl⟩
          case measure => simp [intOf]; omega
    · have hke : k = vs.length := by omega
      subst hke
      have HP : Hid (places vs = true) := hp.trans (places_end vs)
      clear hp
      go_wp2
      go_ret
      exact ⟨ret_b HP.out.symm, rfl⟩

theorem keysOk_no {l : List Int} (h : l.length < 1 ∨ 8 < l.length) : keysOk l = false := by
  unfold keysOk
  rw [Bool.and_eq_false_iff, Bool.and_eq_false_iff]
  rcases h with h | h
  · exact .inl (.inl (decide_eq_false (by omega)))
  · exact .inl (.inr (decide_eq_false (by omega)))
theorem keysOk_in {l : List Int} (h1 : 1 ≤ l.length) (h8 : l.length ≤ 8) : keysOk l = rise (-1) l := by
  unfold keysOk; simp [h1, h8]

set_option maxHeartbeats 1000000 in
set_option maxRecDepth 100000 in
theorem tagKeys (v : Value) (ks : List Int) (w : World) (h : Ints .i64 w v ks) :
    Calls Try.prog 83 #[v] w fun e w' => e = .returned (.bool (keysOk ks)) ∧ w' = w := by
  obtain ⟨oa, ca, rfl⟩ := h.shape
  have hl := h.1
  unfold maxLen at hl
  by_cases h1 : ks.length < 1
  · have h1' : (ks.length : Int) < 1 := by omega
    have HV : Hid (keysOk ks = false) := keysOk_no (.inl h1)
    go_enter Try.func83, Try.ntmps83
    go_wp2
    go_ret
    exact ⟨ret_b HV.out.symm, rfl⟩
  by_cases h8 : 8 < ks.length
  · have h1' : (1 : Int) ≤ (ks.length : Int) := by omega
    have h8' : (8 : Int) < (ks.length : Int) := by omega
    have HV : Hid (keysOk ks = false) := keysOk_no (.inr h8)
    go_enter Try.func83, Try.ntmps83
    go_wp2
    go_ret
    exact ⟨ret_b HV.out.symm, rfl⟩
  have h1' : (1 : Int) ≤ (ks.length : Int) := by omega
  have h8' : (ks.length : Int) ≤ 8 := by omega
  have HV : Hid (keysOk ks = rise (-1) ks) := keysOk_in (by omega) (by omega)
  obtain ⟨b, off, rfl, hc⟩ := h.at (by omega)
  go_enter Try.func83, Try.ntmps83
  go_wp2
  go_loop [3, 16] (fun la i => ∃ (k : Nat) (x : Int), k ≤ ks.length ∧ la = .int .i64 x ∧ i = .int .i64 k ∧ keysOk ks = rise x (ks.drop k)) (fun _ i => ks.length - (intOf i).toNat)
  case atStart => exact ⟨0, -1, Nat.zero_le _, rfl, rfl, HV.out⟩
  case round =>
    obtain ⟨k, x, hk, rfl, rfl, hp⟩ := hrel
    by_cases hlt : k < ks.length
    · have c1 := hc k hlt
      rw [rise_at x hlt] at hp
      have HP := hide hp
      clear hp hc
      generalize ks.getD k 0 = z at *
      by_cases hx : z ≤ x
      · go_wp2
        go_ret
        refine ⟨ret_b ?_, rfl⟩
        have : decide (x < z) = false := by simp; omega
        rw [HP.out, this]; rfl
      · have hx1 : x < z := by omega
        by_cases h2 : 64 ≤ z
        · go_wp2
          go_ret
          refine ⟨ret_b ?_, rfl⟩
          have : decide (z < 64) = false := by simp; omega
          rw [HP.out, this, Bool.and_false]; rfl
        · have h2' : z < 64 := by omega
          go_wp2
          go_round
          case rel => exact ⟨k + 1, z, by omega, rfl, by go_num, by rw [HP.out]; simp [hx1, h2']⟩
          case measure => simp [intOf]; omega
    · have hke : k = ks.length := by omega
      subst hke
      rw [rise_end] at hp
      have HP := hide hp
      clear hp HV
      go_wp2
      go_ret
      exact ⟨ret_b HP.out.symm, rfl⟩

theorem valsOk_1 (ks vs : List Int) : valsOk 1 ks vs = decide (vs.length = 0) := by unfold valsOk; rw [if_pos rfl]
theorem valsOk_2 (ks vs : List Int) : valsOk 2 ks vs = (decide (vs.length = ks.length) && places vs) := by unfold valsOk; rw [if_neg (by decide), if_pos rfl]
theorem valsOk_no {k : Int} (ks vs : List Int) (h1 : ¬ k = 1) (h2 : ¬ k = 2) : valsOk k ks vs = false := by unfold valsOk; rw [if_neg h1, if_neg h2]
theorem len_eq (a b : Nat) : (((a : Int) == (b : Int)) : Bool) = decide (a = b) := by
  by_cases h : a = b
  · subst h; simp
  · rw [decide_eq_false h]; simp; omega

set_option maxHeartbeats 1000000 in
set_option maxRecDepth 100000 in
theorem tagValues (k s : Int) (vk vv : Value) (ks vs : List Int) (w : World) (hk : Ints .i64 w vk ks) (hv : Ints .i64 w vv vs) :
    Calls Try.prog 84 #[.agg #[.int .i64 k, .int .i64 s, vk, vv]] w fun e w' => e = .returned (.bool (valsOk k ks vs)) ∧ Mem w w' := by
  obtain ⟨oa, ca, rfl⟩ := hk.shape
  obtain ⟨ob, cb, rfl⟩ := hv.shape
  have hm : Mem w (w.alloc (.cells #[.int .i64 k, .int .i64 s, .slice oa ks.length ca, .slice ob vs.length cb] 51)) := (Mem.refl w).alloc _
  by_cases h1 : k = 1
  · subst h1
    go_enter Try.func84, Try.ntmps84
    go_wp2_with fail
    go_ret
    exact ⟨ret_b ((len_eq vs.length 0).trans (valsOk_1 ks vs).symm), hm⟩
  by_cases h2 : k = 2
  · subst h2
    by_cases hl : vs.length = ks.length
    · have hl' : ((vs.length : Int) == (ks.length : Int)) = true := by rw [len_eq]; exact decide_eq_true hl
      have HL := hide hl
      clear hl
      go_enter Try.func84, Try.ntmps84
      go_wp2_with fail
      refine (tagPlaces _ vs _ (hv.mem hm)).mono ?_
      rintro e w1 ⟨rfl, rfl⟩
      go_wp2_with fail
      go_ret
      refine ⟨ret_b ?_, hm⟩
      rw [valsOk_2, decide_eq_true HL.out, Bool.true_and]
    · have hl' : ((vs.length : Int) == (ks.length : Int)) = false := by rw [len_eq]; exact decide_eq_false hl
      go_enter Try.func84, Try.ntmps84
      go_wp2_with fail
      go_ret
      refine ⟨ret_b ?_, hm⟩
      rw [valsOk_2, decide_eq_false hl, Bool.false_and]
  · have h1' : (k == 1) = false := by simp [h1]
    have h2' : (k == 2) = false := by simp [h2]
    go_enter Try.func84, Try.ntmps84
    go_wp2_with fail
    go_ret
    exact ⟨ret_b (valsOk_no ks vs h1 h2).symm, hm⟩

theorem seqOk_yes {s : Int} (h0 : 0 ≤ s) (h1 : s ≤ 1099511627776) : seqOk s = true := by simp [seqOk, h0, h1]
theorem seqOk_no {s : Int} (h : s < 0 ∨ 1099511627776 < s) : seqOk s = false := by
  unfold seqOk; rw [Bool.and_eq_false_iff]
  rcases h with h | h
  · exact .inl (decide_eq_false (by omega))
  · exact .inr (decide_eq_false (by omega))

set_option maxHeartbeats 1000000 in
set_option maxRecDepth 100000 in
theorem tagRight (k s : Int) (vk vv : Value) (ks vs : List Int) (w : World) (hk : Ints .i64 w vk ks) (hv : Ints .i64 w vv vs) :
    Calls Try.prog 72 #[.agg #[.int .i64 k, .int .i64 s, vk, vv]] w fun e w' => e = .returned (.bool (right k s ks vs)) ∧ Mem w w' := by
  obtain ⟨oa, ca, rfl⟩ := hk.shape
  obtain ⟨ob, cb, rfl⟩ := hv.shape
  have hm : Mem w (w.alloc (.cells #[.int .i64 k, .int .i64 s, .slice oa ks.length ca, .slice ob vs.length cb] 51)) := (Mem.refl w).alloc _
  by_cases h0 : 0 ≤ s
  · by_cases h1 : s ≤ 1099511627776
    · have hq := seqOk_yes h0 h1
      have HQ := hide hq
      clear hq
      cases hkk : keysOk ks with
      | true =>
        have HK := hide hkk
        go_enter Try.func72, Try.ntmps72
        go_wp2_with fail
        refine (tagKeys _ ks _ (hk.mem hm)).mono ?_
        rintro e w1 ⟨rfl, rfl⟩
        rw [HK.out]
        clear hkk
        go_wp2_with fail
        refine (tagValues k s _ _ ks vs _ (hk.mem hm) (hv.mem hm)).mono ?_
        rintro e w1 ⟨rfl, hm1⟩
        go_wp2_with fail
        go_ret
        refine ⟨ret_b ?_, hm.trans hm1⟩
        unfold right; rw [HQ.out, HK.out, Bool.true_and, Bool.true_and]
      | false =>
        have HK := hide hkk
        go_enter Try.func72, Try.ntmps72
        go_wp2_with fail
        refine (tagKeys _ ks _ (hk.mem hm)).mono ?_
        rintro e w1 ⟨rfl, rfl⟩
        rw [HK.out]
        clear hkk
        go_wp2_with fail
        go_ret
        refine ⟨ret_b ?_, hm⟩
        unfold right; rw [HK.out, Bool.and_false, Bool.false_and]
    · have hq := seqOk_no (s := s) (.inr (by omega))
      have HQ := hide hq
      clear hq
      go_enter Try.func72, Try.ntmps72
      go_wp2_with fail
      go_ret
      refine ⟨ret_b ?_, hm⟩
      unfold right; rw [HQ.out]; rfl
  · have hq := seqOk_no (s := s) (.inl (by omega))
    have HQ := hide hq
    clear hq
    go_enter Try.func72, Try.ntmps72
    go_wp2_with fail
    go_ret
    refine ⟨ret_b ?_, hm⟩
    unfold right; rw [HQ.out]; rfl
end Go.Proofs.Ytcjhaapmehegkaa.Tag
