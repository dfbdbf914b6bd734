/-
  The walk of CrcBehind.
-/
import Derived.Test.YtmchpcancpmccaaRows8
namespace Go.Proofs.Ytmchpcancpmccaa.Crc
open Go.RowKit
set_option linter.unusedVariables false

/-- the text with the byte at p turned by b -/
def chg (s : ByteArray) (p : Nat) (b : UInt8) : List UInt8 := s.data.toList.modify p (· ^^^ b)
theorem chg_length (s : ByteArray) (p : Nat) (b : UInt8) : (chg s p b).length = s.size := by simp [chg]
theorem chg_snoc (s : ByteArray) (p : Nat) (b : UInt8) (k : Nat) (h : k < s.size) :
    (chg s p b).take (k + 1) = (chg s p b).take k ++ [if p = k then s[k] ^^^ b else s[k]] := by
  rw [List.take_succ_eq_append_getElem (by rw [chg_length]; exact h)]
  congr 2
  unfold chg
  rw [List.getElem_modify]
  split <;> rfl

theorem chg_same (s : ByteArray) (p : Nat) (b : UInt8) (hp : p < s.size) (h : sum (chg s p b) = sum s.data.toList) : b = 0 := by
  have hp' : p < s.data.toList.length := by simpa using hp
  have e1 : chg s p b = s.data.toList.take p ++ (s.data.toList[p] ^^^ b) :: s.data.toList.drop (p + 1) := List.modify_eq_take_cons_drop hp'
  have e2 : s.data.toList = s.data.toList.take p ++ s.data.toList[p] :: s.data.toList.drop (p + 1) := by
    rw [List.getElem_cons_drop, List.take_append_drop]
  rw [e1] at h
  conv at h => rhs; rw [e2]
  have h1 := sum_one _ _ _ _ h
  have h2 : (s.data.toList[p] ^^^ b).toNat = s.data.toList[p].toNat := by rw [h1]
  rw [UInt8.toNat_xor] at h2
  have h3 : b.toNat = 0 := xor_right_inj (c := s.data.toList[p].toNat) (by rw [h2, Nat.xor_zero])
  exact UInt8.toNat_inj.1 h3
theorem modify_id {l : List UInt8} {p : Nat} : l.modify p (· ^^^ 0) = l := by
  have : (fun x : UInt8 => x ^^^ 0) = id := by funext x; simp
  rw [this, List.modify_id]
/-- what is told of a byte that is another one: three cases -/
theorem key (s : ByteArray) (p : Nat) (b : UInt8) :
    ((((sum (chg s (p % s.size) b) : Nat) : Int) == ((sum s.data.toList : Nat) : Int)) = true ∧ ((b.toNat : Int) == 0) = true) ∨
    ((((sum (chg s (p % s.size) b) : Nat) : Int) == ((sum s.data.toList : Nat) : Int)) = true ∧ ((b.toNat : Int) == 0) = false ∧ ((s.size : Int) == 0) = true) ∨
    ((((sum (chg s (p % s.size) b) : Nat) : Int) == ((sum s.data.toList : Nat) : Int)) = false ∧ ((b.toNat : Int) == 0) = false ∧ ((s.size : Int) == 0) = false) := by
  by_cases hb : b = 0
  · subst hb
    exact .inl ⟨by unfold chg; rw [modify_id]; simp, rfl⟩
  · have hb' : ((b.toNat : Int) == 0) = false := by
      rw [beq_eq_false_iff_ne]; intro e; exact hb (UInt8.toNat_inj.1 (by show b.toNat = 0; omega))
    by_cases hs : s.size = 0
    · refine .inr (.inl ⟨?_, hb', by rw [beq_iff_eq]; omega⟩)
      have : s.data.toList = [] := List.length_eq_zero_iff.1 (by simpa using hs)
      unfold chg; rw [this]; simp
    · refine .inr (.inr ⟨?_, hb', by rw [beq_eq_false_iff_ne]; omega⟩)
      rw [beq_eq_false_iff_ne]; intro e
      exact hb (chg_same s (p % s.size) b (Nat.mod_lt _ (by omega)) (by omega))
theorem cat_sum (s : ByteArray) : sum (s ++ ⟨(four (sum s.data.toList)).toArray⟩ : ByteArray).data.toList = sum (four 0) := by
  rw [← sum_behind s.data.toList]
  congr 1
theorem cat_size (s : ByteArray) (n : Nat) (h : s.size ≤ 200) : (s ++ ⟨(four n).toArray⟩ : ByteArray).size ≤ maxLen := by
  rw [ByteArray.size_append]
  have : (ByteArray.mk (four n).toArray).size = 4 := rfl
  unfold maxLen; omega

set_option maxHeartbeats 1000000 in
set_option maxRecDepth 100000 in
theorem crcBehind_walk (a0 : ByteArray) (a1 : Int) (a2 : Int) (w0 : a0.size ≤ maxLen) (w1 : (Lit.int .u8 a1).wf = true) (w2 : (Lit.int .u8 a2).wf = true) (w : World) :
    Calls Try.prog 6 #[.string a0, .int .u8 a1, .int .u8 a2] w fun e w' => e = .returned (.bool true) ∧ Mem w w' := by
  have hb1 : 0 ≤ a1 ∧ a1 ≤ 255 := bounds_u8 w1
  have hb2 : 0 ≤ a2 ∧ a2 ≤ 255 := bounds_u8 w2
  obtain ⟨p, rfl⟩ := Int.eq_ofNat_of_zero_le hb1.1
  obtain ⟨b, rfl⟩ : ∃ b : UInt8, a2 = (b.toNat : Int) := ⟨UInt8.ofNat a2.toNat, by rw [UInt8.toNat_ofNat']; omega⟩
  obtain ⟨i0, hi, hz0, hz1, hz2⟩ := info_parts info_u8
  clear w1 w2
  unfold maxLen at w0
  obtain ⟨t, hsz, hcase⟩ : ∃ t : ByteArray, t.size ≤ 200 ∧ ((200 < a0.size ∧ a0.extract 0 200 = t) ∨ (¬ 200 < a0.size ∧ a0 = t)) := by
    by_cases h : 200 < a0.size
    · exact ⟨_, by rw [ByteArray.size_extract]; omega, .inl ⟨h, rfl⟩⟩
    · exact ⟨a0, by omega, .inr ⟨h, rfl⟩⟩
  rcases hcase with ⟨h, hT⟩ | ⟨h, rfl⟩
  · have h' : (200 : Int) < (a0.size : Int) := by omega
    have HT := hide hT
    clear hT
    go_enter Try.func6, Try.ntmps6
    go_wp2_with fail
    refine (awake _).mono ?_
    rintro e w1 ⟨rfl, hg⟩
    go_wp2_with fail
    rw [HT.out]
    clear HT
    go_loopw [8, 9] (fun l i wr => ∃ k : Nat, k ≤ t.size ∧ i = .int .i64 k ∧ wr.ownsRow w1.heap.size 5 1 l k (bcells ((chg t (p % t.size) b).take k)) ∧ Below w1.heap.size w1 wr) (fun _ i _ => t.size - (intOf i).toNat)
    case atStart => exact ⟨0, Nat.zero_le _, rfl, World.ownsRow_nil _ _ _ _, Below.refl _ _⟩
    case round =>
      obtain ⟨k, hk, rfl, hown, hm⟩ := hrel
      by_cases hlt : k < t.size
      · have hne : ((t.size : Int) == 0) = false := by rw [beq_eq_false_iff_ne]; omega
        have hsn := hide (chg_snoc t (p % t.size) b k hlt)
        have hcl := chg_length t (p % t.size) b
        generalize hL : chg t (p % t.size) b = L at *
        clear hL
        have hln : (L.take k).length = k := by rw [List.length_take]; omega
        by_cases hp : p % t.size = k
        · have hpk : ((k : Int) == (p : Int) % (t.size : Int)) = true := by rw [beq_iff_eq]; omega
          have HX := hide (u8_xor_nat t[k].toNat b.toNat t[k].toNat_lt b.toNat_lt)
          go_wp2_with (first | (at_builtin; refine push8 rfl _ _ rfl w1.heap.size _ (L.take k) k hln rfl hown hm.size (t[k] ^^^ b) _ (by rw [HX.out, UInt8.toNat_xor]) rfl (by omega) ?_) | fail)
          intro v' w' h1 h2
          rw [show L.take k ++ [t[k] ^^^ b] = L.take (k + 1) from by rw [hsn.out, if_pos hp]] at h1
          clear hown
          go_wp2_with fail
          go_roundw
          case rel => exact ⟨k + 1, by omega, by go_num, h1, hm.trans h2⟩
          case measure => simp [intOf]; omega
        · have hpk : ((k : Int) == (p : Int) % (t.size : Int)) = false := by rw [beq_eq_false_iff_ne]; omega
          go_wp2_with (first | (at_builtin; refine push8 rfl _ _ rfl w1.heap.size _ (L.take k) k hln rfl hown hm.size t[k] _ rfl rfl (by omega) ?_) | fail)
          intro v' w' h1 h2
          rw [show L.take k ++ [t[k]] = L.take (k + 1) from by rw [hsn.out, if_neg hp]] at h1
          clear hown
          go_wp2_with fail
          go_roundw
          case rel => exact ⟨k + 1, by omega, by go_num, h1, hm.trans h2⟩
          case measure => simp [intOf]; omega
      · have hke : k = t.size := by omega
        subst hke
        have hcl := chg_length t (p % t.size) b
        generalize hL : chg t (p % t.size) b = L at *
        rw [List.take_of_length_le (by omega)] at hown
        have hcv := conv_owned (l := L) (by rw [hcl]; exact hown)
        have HL := hide hL
        clear hL hown
        have hLs : (ByteArray.mk L.toArray).size ≤ maxLen := by show L.toArray.size ≤ maxLen; rw [List.size_toArray, hcl]; unfold maxLen; omega
        have hts : t.size ≤ maxLen := by unfold maxLen; omega
        have hlt := sum_lt t.data.toList
        go_wp2_with fail
        refine (crcSum ⟨L.toArray⟩ _ hLs).mono ?_
        rintro e w2 ⟨rfl, rfl⟩
        go_wp2_with fail
        refine (crcSum t _ hts).mono ?_
        rintro e w3 ⟨rfl, rfl⟩
        go_wp2_with fail
        refine (crcSum t _ hts).mono ?_
        rintro e w4 ⟨rfl, rfl⟩
        go_wp2_with fail
        have hfl : ∀ n, (four n).length = 4 := fun _ => rfl
        refine (crcBytes_yes _ _ hlt).mono ?_
        rintro e w5 ⟨rfl, hg5⟩
        go_wp2_with fail
        refine (crcSum _ _ (cat_size t _ hsz)).mono ?_
        rintro e w6 ⟨rfl, rfl⟩
        rw [cat_sum]
        go_wp2_with fail
        refine (crcBytes_yes 0 _ (by omega)).mono ?_
        rintro e w7 ⟨rfl, hg7⟩
        go_wp2_with fail
        refine (crcSum _ _ (by simp [ByteArray.size, hfl, maxLen])).mono ?_
        rintro e w8 ⟨rfl, rfl⟩
        rw [show (ByteArray.mk (four 0).toArray).data.toList = four 0 from rfl]
        have hk := key t p b
        rw [HL.out] at hk
        clear HL
        generalize sum (four 0) = z at *
        rcases hk with ⟨k1, k2⟩ | ⟨k1, k2, k3⟩ | ⟨k1, k2, k3⟩
        all_goals go_wp2_with fail
        all_goals go_ret
        all_goals exact ⟨rfl, (hg.trans hm).trans (hg5.trans hg7)⟩
  · have h' : ¬ (200 : Int) < (a0.size : Int) := by omega
    generalize a0 = t at *
    go_enter Try.func6, Try.ntmps6
    go_wp2_with fail
    refine (awake _).mono ?_
    rintro e w1 ⟨rfl, hg⟩
    go_wp2_with fail
    go_loopw [8, 9] (fun l i wr => ∃ k : Nat, k ≤ t.size ∧ i = .int .i64 k ∧ wr.ownsRow w1.heap.size 5 1 l k (bcells ((chg t (p % t.size) b).take k)) ∧ Below w1.heap.size w1 wr) (fun _ i _ => t.size - (intOf i).toNat)
    case atStart => exact ⟨0, Nat.zero_le _, rfl, World.ownsRow_nil _ _ _ _, Below.refl _ _⟩
    case round =>
      obtain ⟨k, hk, rfl, hown, hm⟩ := hrel
      by_cases hlt : k < t.size
      · have hne : ((t.size : Int) == 0) = false := by rw [beq_eq_false_iff_ne]; omega
        have hsn := hide (chg_snoc t (p % t.size) b k hlt)
        have hcl := chg_length t (p % t.size) b
        generalize hL : chg t (p % t.size) b = L at *
        clear hL
        have hln : (L.take k).length = k := by rw [List.length_take]; omega
        by_cases hp : p % t.size = k
        · have hpk : ((k : Int) == (p : Int) % (t.size : Int)) = true := by rw [beq_iff_eq]; omega
          have HX := hide (u8_xor_nat t[k].toNat b.toNat t[k].toNat_lt b.toNat_lt)
          go_wp2_with (first | (at_builtin; refine push8 rfl _ _ rfl w1.heap.size _ (L.take k) k hln rfl hown hm.size (t[k] ^^^ b) _ (by rw [HX.out, UInt8.toNat_xor]) rfl (by omega) ?_) | fail)
          intro v' w' h1 h2
          rw [show L.take k ++ [t[k] ^^^ b] = L.take (k + 1) from by rw [hsn.out, if_pos hp]] at h1
          clear hown
          go_wp2_with fail
          go_roundw
          case rel => exact ⟨k + 1, by omega, by go_num, h1, hm.trans h2⟩
          case measure => simp [intOf]; omega
        · have hpk : ((k : Int) == (p : Int) % (t.size : Int)) = false := by rw [beq_eq_false_iff_ne]; omega
          go_wp2_with (first | (at_builtin; refine push8 rfl _ _ rfl w1.heap.size _ (L.take k) k hln rfl hown hm.size t[k] _ rfl rfl (by omega) ?_) | fail)
          intro v' w' h1 h2
          rw [show L.take k ++ [t[k]] = L.take (k + 1) from by rw [hsn.out, if_neg hp]] at h1
          clear hown
          go_wp2_with fail
          go_roundw
          case rel => exact ⟨k + 1, by omega, by go_num, h1, hm.trans h2⟩
          case measure => simp [intOf]; omega
      · have hke : k = t.size := by omega
        subst hke
        have hcl := chg_length t (p % t.size) b
        generalize hL : chg t (p % t.size) b = L at *
        rw [List.take_of_length_le (by omega)] at hown
        have hcv := conv_owned (l := L) (by rw [hcl]; exact hown)
        have HL := hide hL
        clear hL hown
        have hLs : (ByteArray.mk L.toArray).size ≤ maxLen := by show L.toArray.size ≤ maxLen; rw [List.size_toArray, hcl]; unfold maxLen; omega
        have hts : t.size ≤ maxLen := by unfold maxLen; omega
        have hlt := sum_lt t.data.toList
        go_wp2_with fail
        refine (crcSum ⟨L.toArray⟩ _ hLs).mono ?_
        rintro e w2 ⟨rfl, rfl⟩
        go_wp2_with fail
        refine (crcSum t _ hts).mono ?_
        rintro e w3 ⟨rfl, rfl⟩
        go_wp2_with fail
        refine (crcSum t _ hts).mono ?_
        rintro e w4 ⟨rfl, rfl⟩
        go_wp2_with fail
        have hfl : ∀ n, (four n).length = 4 := fun _ => rfl
        refine (crcBytes_yes _ _ hlt).mono ?_
        rintro e w5 ⟨rfl, hg5⟩
        go_wp2_with fail
        refine (crcSum _ _ (cat_size t _ hsz)).mono ?_
        rintro e w6 ⟨rfl, rfl⟩
        rw [cat_sum]
        go_wp2_with fail
        refine (crcBytes_yes 0 _ (by omega)).mono ?_
        rintro e w7 ⟨rfl, hg7⟩
        go_wp2_with fail
        refine (crcSum _ _ (by simp [ByteArray.size, hfl, maxLen])).mono ?_
        rintro e w8 ⟨rfl, rfl⟩
        rw [show (ByteArray.mk (four 0).toArray).data.toList = four 0 from rfl]
        have hk := key t p b
        rw [HL.out] at hk
        clear HL
        generalize sum (four 0) = z at *
        rcases hk with ⟨k1, k2⟩ | ⟨k1, k2, k3⟩ | ⟨k1, k2, k3⟩
        all_goals go_wp2_with fail
        all_goals go_ret
        all_goals exact ⟨rfl, (hg.trans hm).trans (hg5.trans hg7)⟩
end Go.Proofs.Ytmchpcancpmccaa.Crc
