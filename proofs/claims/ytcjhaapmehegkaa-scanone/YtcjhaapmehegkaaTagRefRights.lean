/-
  Layer 3: which records are right, by the document.
-/
import Derived.Test.YtcjhaapmehegkaaTagRights
namespace Go.Proofs.Ytcjhaapmehegkaa.Tag
open Go.RowKit

/-- the key ahead of place k -/
def ahead (l : List Int) (k : Nat) : Int := if k = 0 then -1 else l.getD (k - 1) 0
theorem ahead_zero (l : List Int) : ahead l 0 = -1 := by simp [ahead]
theorem ahead_succ (l : List Int) (k : Nat) : ahead l (k + 1) = l.getD k 0 := by simp [ahead]
theorem keysOk_f {l : List Int} (h : rise (-1) l = false) : keysOk l = false := by unfold keysOk; rw [h, Bool.and_false]
theorem keysOk_t {l : List Int} (h : rise (-1) l = true) : keysOk l = (decide (1 ≤ l.length) && decide (l.length ≤ 8)) := by unfold keysOk; rw [h, Bool.and_true]

set_option maxHeartbeats 1000000 in
set_option maxRecDepth 100000 in
theorem refKeys (v : Value) (ks : List Int) (w : World) (h : Ints .i64 w v ks) :
    Calls Try.prog 67 #[v] w fun e w' => e = .returned (.bool (keysOk ks)) ∧ ∃ n, w' = w.drewN n := by
  obtain ⟨oa, ca, rfl⟩ := h.shape
  have hl := h.1
  unfold maxLen at hl
  go_enter Try.func67, Try.ntmps67
  go_wp2
  go_loopw [3] (fun i wr => ∃ (k : Nat), k ≤ ks.length ∧ i = .int .i64 k ∧ rise (-1) ks = rise (ahead ks k) (ks.drop k) ∧ -1 ≤ ahead ks k ∧ ∃ n, wr = w.drewN n) (fun i _ => ks.length - (intOf i).toNat)
  case atStart => exact ⟨0, Nat.zero_le _, rfl, rfl, by simp [ahead], 0, rfl⟩
  case round =>
    obtain ⟨k, hk, rfl, hp, hx, n, rfl⟩ := hrel
    by_cases hlt : k < ks.length
    · obtain ⟨b, off, rfl, hc⟩ := h.at (by omega)
      have c1 := hc k hlt
      rw [rise_at _ hlt] at hp
      have hlt' : (k : Int) < (ks.length : Int) := by omega
      have hz0 : (0 : Int) ≤ (k : Int) := by omega
      have hnext : ahead ks (k + 1) = ks.getD k 0 := by simp [ahead]
      have HN := hide hnext
      clear hnext
      have HP := hide hp
      clear hp
      by_cases h1 : ks.getD k 0 < 0
      · have HV : Hid (keysOk ks = false) := by
          refine keysOk_f ?_
          rw [HP.out, decide_eq_false (show ¬ ahead ks k < ks.getD k 0 by omega)]; rfl
        clear HP hx hc HN
        generalize ks.getD k 0 = z at *
        have g1 : decide (z < 0) = true := decide_eq_true h1
        go_wp2_with fail
        go_quiet (fail)
        go_wp2_with fail
        go_ret
        exact ⟨ret_b HV.out.symm, _, World.drewN_drewN _ _ _⟩
      by_cases h2 : 64 ≤ ks.getD k 0
      · have HV : Hid (keysOk ks = false) := by
          refine keysOk_f ?_
          rw [HP.out, decide_eq_false (show ¬ ks.getD k 0 < 64 by omega), Bool.and_false]; rfl
        clear HP hx hc HN
        generalize ks.getD k 0 = z at *
        have g1 : decide (z < 0) = false := decide_eq_false h1
        have g2 : decide (64 ≤ z) = true := decide_eq_true h2
        go_wp2_with fail
        go_quiet (fail)
        go_wp2_with fail
        go_ret
        exact ⟨ret_b HV.out.symm, _, World.drewN_drewN _ _ _⟩
      have h64 : decide (ks.getD k 0 < 64) = true := decide_eq_true (by omega)
      by_cases hk0 : k = 0
      · subst hk0
        have HV : Hid (rise (-1) ks = rise (ahead ks 1) (ks.drop 1)) := by
          show _ = _
          have e := HP.out
          rw [decide_eq_true (show ahead ks 0 < ks.getD 0 0 by rw [ahead_zero]; omega), h64] at e
          exact e
        have hge : -1 ≤ ahead ks 1 := by rw [ahead_succ]; omega
        rw [Nat.add_zero] at c1
        clear HP hx hc HN h64
        generalize ks.getD 0 0 = z at *
        have g1 : decide (z < 0) = false := decide_eq_false h1
        have g2 : decide (64 ≤ z) = false := decide_eq_false h2
        go_wp2_with fail
        go_quiet (fail)
        go_wp2_with fail
        go_roundw
        case rel => exact ⟨1, by omega, by go_num, HV.out, hge, _, rfl⟩
        case measure => simp [intOf]; omega
      · obtain ⟨j, rfl⟩ : ∃ j, k = j + 1 := ⟨k - 1, by omega⟩
        have c2 := hc j (by omega)
        have ha : ahead ks (j + 1) = ks.getD j 0 := by simp [ahead]
        rw [ha] at hx
        have HA := hide ha
        clear ha
        by_cases hz : ks.getD (j + 1) 0 ≤ ks.getD j 0
        · have HV : Hid (keysOk ks = false) := by
            refine keysOk_f ?_
            rw [HP.out, decide_eq_false (show ¬ ahead ks (j + 1) < ks.getD (j + 1) 0 by rw [HA.out]; omega)]; rfl
          clear HP hx hc HN h64 HA
          generalize ks.getD (j + 1) 0 = z at *
          generalize ks.getD j 0 = y at *
          have g1 : decide (z < 0) = false := decide_eq_false h1
          have g2 : decide (64 ≤ z) = false := decide_eq_false h2
          have g3 : decide (z ≤ y) = true := decide_eq_true hz
          go_wp2_with fail
          go_quiet (fail)
          go_wp2_with fail
          go_ret
          exact ⟨ret_b HV.out.symm, _, World.drewN_drewN _ _ _⟩
        · have HV : Hid (rise (-1) ks = rise (ahead ks (j + 1 + 1)) (ks.drop (j + 1 + 1))) := by
            show _ = _
            have e := HP.out
            rw [decide_eq_true (show ahead ks (j + 1) < ks.getD (j + 1) 0 by rw [HA.out]; omega), h64] at e
            rw [HN.out]
            exact e
          have hge : -1 ≤ ahead ks (j + 1 + 1) := by rw [HN.out]; omega
          clear HP hx hc HN h64 HA
          generalize ks.getD (j + 1) 0 = z at *
          generalize ks.getD j 0 = y at *
          have g1 : decide (z < 0) = false := decide_eq_false h1
          have g2 : decide (64 ≤ z) = false := decide_eq_false h2
          have g3 : decide (z ≤ y) = false := decide_eq_false hz
          go_wp2_with fail
          go_quiet (fail)
          go_wp2_with fail
          go_roundw
          case rel => exact ⟨j + 1 + 1, by omega, by go_num, HV.out, hge, _, rfl⟩
          case measure => simp [intOf]; omega
    · have hke : k = ks.length := by omega
      subst hke
      rw [rise_end] at hp
      have HP := hide (keysOk_t hp)
      clear hp hx
      by_cases h1 : 1 ≤ ks.length
      · have h1' : (0 : Int) < (ks.length : Int) := by omega
        go_wp2
        go_ret
        refine ⟨ret_b ?_, _, rfl⟩
        rw [HP.out, decide_eq_true h1, Bool.true_and]
        exact decide_eq_decide.2 (by omega)
      · have h1' : (ks.length : Int) ≤ 0 := by omega
        go_wp2
        go_ret
        refine ⟨ret_b ?_, _, rfl⟩
        rw [HP.out, decide_eq_false h1, Bool.false_and]

set_option maxHeartbeats 1000000 in
set_option maxRecDepth 100000 in
theorem refRight (k s : Int) (vk vv : Value) (ks vs : List Int) (w : World) (hk : Ints .i64 w vk ks) (hv : Ints .i64 w vv vs) :
    Calls Try.prog 49 #[.agg #[.int .i64 k, .int .i64 s, vk, vv]] w fun e w' => e = .returned (.bool (right k s ks vs)) ∧ Mem w w' := by
  obtain ⟨oa, ca, rfl⟩ := hk.shape
  obtain ⟨ob, cb, rfl⟩ := hv.shape
  have hvl := hv.1
  unfold maxLen at hvl
  have hm : Mem w (w.alloc (.cells #[.int .i64 k, .int .i64 s, .slice oa ks.length ca, .slice ob vs.length cb] 51)) := (Mem.refl w).alloc _
  by_cases h0 : s < 0
  · have HV : Hid (right k s ks vs = false) := by
      show right k s ks vs = false
      unfold right; rw [seqOk_no (.inl h0)]; rfl
    go_enter Try.func49, Try.ntmps49
    go_wp2_with fail
    go_ret
    exact ⟨ret_b HV.out.symm, hm⟩
  by_cases h1 : 1099511627776 < s
  · have HV : Hid (right k s ks vs = false) := by
      show right k s ks vs = false
      unfold right; rw [seqOk_no (.inr h1)]; rfl
    go_enter Try.func49, Try.ntmps49
    go_wp2_with fail
    go_ret
    exact ⟨ret_b HV.out.symm, hm⟩
  have h0' : 0 ≤ s := by omega
  have h1' : s ≤ 1099511627776 := by omega
  cases hkk : keysOk ks with
  | false =>
    have HV : Hid (right k s ks vs = false) := by
      show right k s ks vs = false
      unfold right; rw [hkk, Bool.and_false]; rfl
    have HK := hide hkk
    clear hkk
    go_enter Try.func49, Try.ntmps49
    go_wp2_with fail
    refine (refKeys _ ks _ (hk.mem hm)).mono ?_
    rintro e w1 ⟨rfl, n, rfl⟩
    rw [HK.out]
    go_wp2_with fail
    go_ret
    exact ⟨ret_b HV.out.symm, hm.drewN n⟩
  | true =>
    have HR : Hid (right k s ks vs = valsOk k ks vs) := by
      show right k s ks vs = _
      unfold right; rw [hkk, seqOk_yes h0' h1', Bool.true_and, Bool.true_and]
    have HK := hide hkk
    clear hkk
    by_cases hk1 : k = 1
    · subst hk1
      go_enter Try.func49, Try.ntmps49
      go_wp2_with fail
      refine (refKeys _ ks _ (hk.mem hm)).mono ?_
      rintro e w1 ⟨rfl, n, rfl⟩
      rw [HK.out]
      go_wp2_with fail
      go_ret
      exact ⟨ret_b ((len_eq vs.length 0).trans ((valsOk_1 ks vs).symm.trans HR.out.symm)), hm.drewN n⟩
    · have hk1' : (k == 1) = false := by simp [hk1]
      go_enter Try.func49, Try.ntmps49
      go_wp2_with fail
      refine (refKeys _ ks _ (hk.mem hm)).mono ?_
      rintro e w1 ⟨rfl, n, rfl⟩
      rw [HK.out]
      go_wp2_with fail
      go_loop [3] (fun i => ∃ j : Nat, j ≤ vs.length ∧ i = .int .i64 j ∧ places vs = places (vs.drop j)) (fun i => vs.length - (intOf i).toNat)
      case atStart => exact ⟨0, Nat.zero_le _, rfl, rfl⟩
      case round =>
        obtain ⟨j, hj, rfl, hp⟩ := hrel
        by_cases hlt : j < vs.length
        · obtain ⟨b, off, rfl, hc⟩ := (hv.mem hm).at (by omega)
          have c1 := hc j hlt
          rw [places_at hlt] at hp
          have HP := hide hp
          clear hp hc
          generalize vs.getD j 0 = z at *
          have HF : Hid (place z = false → right k s ks vs = false) := by
            show _ → _
            intro hz
            rw [HR.out]
            unfold valsOk; rw [if_neg hk1]
            by_cases h2 : k = 2
            · rw [if_pos h2, HP.out, hz, Bool.false_and, Bool.and_false]
            · rw [if_neg h2]
          by_cases g1 : z < -1
          · go_wp2_with fail
            go_ret
            exact ⟨ret_b (HF.out (place_no (.inl g1))).symm, hm.drewN n⟩
          · by_cases g2 : 512 ≤ z
            · go_wp2_with fail
              go_ret
              exact ⟨ret_b (HF.out (place_no (.inr g2))).symm, hm.drewN n⟩
            · go_wp2_with fail
              go_round
              case rel => exact ⟨j + 1, by omega, by go_num, by rw [HP.out, place_yes (by omega) (by omega)]; rfl⟩
              case measure => simp [intOf]; omega
        · have hje : j = vs.length := by omega
          subst hje
          rw [places_end] at hp
          have HP := hide hp
          clear hp
          by_cases hk2 : k = 2
          · subst hk2
            go_wp2_with fail
            go_ret
            refine ⟨ret_b ?_, hm.drewN n⟩
            rw [len_eq, HR.out, valsOk_2, HP.out, Bool.and_true]
          · have hk2' : (k == 2) = false := by simp [hk2]
            go_wp2_with fail
            go_ret
            refine ⟨ret_b ?_, hm.drewN n⟩
            rw [HR.out, valsOk_no ks vs hk1 hk2]
end Go.Proofs.Ytcjhaapmehegkaa.Tag
