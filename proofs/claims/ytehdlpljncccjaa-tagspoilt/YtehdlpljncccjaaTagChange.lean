/-
  The statements' own helper: a text with one byte another one.
-/
import Derived.Test.YtehdlpljncccjaaBase
import Derived.Test.YtehdlpljncccjaaTagMadeMath
namespace Go.Proofs.Ytehdlpljncccjaa.Tag
open Go.RowKit Go.Proofs.Ytehdlpljncccjaa.Pack Go.Proofs.Ytehdlpljncccjaa.Crc

theorem byte_sum (c : UInt8) (d : Nat) : ((c.toNat : Int) + (d : Int)) % 256 = (((((c.toNat + d) % 256).toUInt8).toNat : Nat) : Int) := by
  rw [u8_nat _ (Nat.mod_lt _ (by omega))]; omega

set_option maxHeartbeats 1000000 in
set_option maxRecDepth 100000 in
theorem lawChange (l : List UInt8) (n d : Nat) (w : World) (hl : l.length ≤ 1000) (_h1 : 1 ≤ d) (h2 : d ≤ 255) :
    Calls Try.prog 19 #[.string ⟨l.toArray⟩, .int .i64 n, .int .i64 d] w fun e w' => e = .returned (.string ⟨(chg n d l).toArray⟩) ∧ Mem w w' := by
  have hsz : (⟨l.toArray⟩ : ByteArray).size = l.length := by simp [ByteArray.size]
  go_enter Try.func19, Try.ntmps19
  go_wp2
  go_loopw [7, 8] (fun out i wr => ∃ k : Nat, k ≤ l.length ∧ i = .int .i64 k ∧ wr.ownsRow w.heap.size 5 1 out k (bcells ((chg n d l).take k)) ∧ Mem w wr) (fun _ i _ => l.length - (intOf i).toNat)
  case atStart => exact ⟨0, Nat.zero_le _, rfl, ⟨rfl, .inl ⟨rfl, rfl⟩⟩, Mem.refl _⟩
  case round =>
    obtain ⟨k, hk, rfl, hown, hm⟩ := hrel
    by_cases hlt : k < l.length
    · have HT := hide (chg_take n d l k hlt)
      have hpl : ((chg n d l).take k).length = k := by rw [List.length_take, chg_length]; omega
      have hlt' : (k : Int) < (l.length : Int) := by omega
      have hltA : k < (⟨l.toArray⟩ : ByteArray).size := by rw [hsz]; exact hlt
      have hb := hm.size
      have hget : (⟨l.toArray⟩ : ByteArray)[k]'hltA = l[k] := by simp [ByteArray.getElem_eq_getElem_data]
      have hclt := (l[k]).toNat_lt
      generalize hc : l[k] = c at *
      generalize hL : (chg n d l).take k = L at *
      clear hL hc
      by_cases hkn : k = n
      · have hq : ((k : Int) == (n : Int)) = true := by rw [beq_iff_eq]; omega
        rw [if_pos hkn] at HT
        clear hkn
        go_wp2_with (first | (at_builtin; refine push8 rfl _ _ rfl w.heap.size _ L k hpl rfl hown hb (((c.toNat + d) % 256).toUInt8) _ (byte_sum c d) rfl (by omega) ?_) | fail)
        intro v' w' h1 h2
        rw [HT.out] at h1
        clear hown
        go_wp2_with fail
        go_roundw
        case rel => exact ⟨k + 1, by omega, by go_num, h1, Below.trans hm h2⟩
        case measure => simp [intOf]; omega
      · have hq : ((k : Int) == (n : Int)) = false := by rw [beq_eq_false_iff_ne]; omega
        rw [if_neg hkn] at HT
        clear hkn
        go_wp2_with (first | (at_builtin; refine push8 rfl _ _ rfl w.heap.size _ L k hpl rfl hown hb c _ rfl rfl (by omega) ?_) | fail)
        intro v' w' h1 h2
        rw [HT.out] at h1
        clear hown
        go_wp2_with fail
        go_roundw
        case rel => exact ⟨k + 1, by omega, by go_num, h1, Below.trans hm h2⟩
        case measure => simp [intOf]; omega
    · have hke : k = l.length := by omega
      subst hke
      rw [List.take_of_length_le (by rw [chg_length]; exact Nat.le_refl _), ← chg_length n d l] at hown
      have hcv := conv_owned hown
      clear hown
      go_wp2_with fail
      go_ret
      exact ⟨rfl, hm⟩
end Go.Proofs.Ytehdlpljncccjaa.Tag
