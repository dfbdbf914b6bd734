/-
  Layer 8: the walk of LiveBound.
-/
import Derived.Test.YtamngecgkkgnpaaLiveAwake
import Derived.Test.YtamngecgkkgnpaaLiveLawMath
import Derived.Test.YtamngecgkkgnpaaReplayRefFold
import Derived.Test.YtamngecgkkgnpaaScanMadeC
namespace Go.Proofs.Ytamngecgkkgnpaa.Live
open Go.RowKit Go.Proofs.Ytamngecgkkgnpaa.Replay Go.Proofs.Ytamngecgkkgnpaa.Scan Go.Proofs.Ytamngecgkkgnpaa.Nand
attribute [local irreducible] applyT foldT newT

set_option maxHeartbeats 4000000 in
set_option maxRecDepth 100000 in
theorem liveBound_walk (a0 : Option Addr) (len0 cap0 : Nat) (z0 : List Int) (a1 : Int) (w : World) (w0 : IsRow .u16 w a0 len0 cap0 z0) (w1 : (Lit.int .u8 a1).wf = true) :
    Calls Try.prog 5 #[.slice a0 len0 cap0, .int .u8 a1] w fun e w' => e = .returned (.bool true) ∧ Mem w w' := by
  obtain ⟨hz, hwf⟩ := Ints.of_row w0
  obtain ⟨hl1, hl2⟩ := row_len w0
  have HZ : Hid (∀ x ∈ z0.take len0, 0 ≤ x ∧ x ≤ 65535) := fun x h => wf_u16 (hwf x h)
  clear hwf w0
  generalize z0.take len0 = z at *
  subst hl1
  have hb1 := wf_u8 w1
  clear w1
  obtain ⟨n1, rfl⟩ := Int.eq_ofNat_of_zero_le hb1.1
  obtain ⟨n, hn⟩ : ∃ a : Nat, (n1 : Int) % 65 = (a : Int) := ⟨n1 % 65, by omega⟩
  have hn1 : n ≤ 64 := by omega
  go_enter Try.func5, Try.ntmps5
  go_wp2_with fail
  refine (awake _).mono ?_
  rintro e w1 ⟨rfl, m1⟩
  go_wp2_with fail
  refine (lawMade06 a0 cap0 z 4 5 _ (hz.mem m1) hl2 HZ.out (by decide) (by decide) (by decide) (by decide)).mono ?_
  rintro e w2 ⟨⟨v2, bs, br, off, ops, rfl, hb, hI⟩, m2⟩
  have HF := hide (few_inv hI (by omega) (by omega))
  have HSZ : Hid (∀ b ∈ bs, ∀ p ∈ b.1, p.2.2.size ≤ maxLen) := hI.2.2
  clear hz HZ hI hl2
  obtain ⟨oc, cc, rfl⟩ := hb.shape
  simp only [chipV]
  have ha : Mem w2 (w2.alloc (.cells #[.slice oc bs.length cc, .bool br, .bool off, .int .i64 ops] 32)) := (Mem.refl w2).alloc _
  have hX := Blk.new w2 #[.slice oc bs.length cc, .bool br, .bool off, .int .i64 ops] 32
  have hm := m1.trans (m2.trans ha)
  replace hb := hb.mem ha
  clear m2 ha
  go_wp2_with fail
  (try rw [hn])
  generalize hW : w2.alloc (.cells #[.slice oc bs.length cc, .bool br, .bool off, .int .i64 ops] 32) = W2 at *
  generalize w2.heap.size = Bc at *
  clear hW
  refine (refReplay _ _ bs br off ops n _ hb HF.out HSZ.out).mono ?_
  rintro e w3 ⟨⟨v3, rfl, ht⟩, m3⟩
  have HS := hide (chip_small bs n)
  have hlen : (foldT (allC bs) (newT n)).1.length = n ∧ (foldT (allC bs) (newT n)).2.length = n := by
    have h1 := foldT_len (allC bs) (newT n)
    have h2 := newT_len n
    have h3 : cutN n = n := by unfold cutN; omega
    omega
  generalize foldT (allC bs) (newT n) = t at *
  generalize seqT (allC bs) 0 = sq at *
  obtain ⟨om, cm, ob, cb, rfl, i1, i2⟩ := ht
  obtain ⟨hn5, hn6⟩ := hlen
  have HL := hide (And.intro hn5 hn6)
  have hl1 : t.1.length ≤ 1000 := by omega
  have hl2 : t.2.length ≤ 1000 := by omega
  have HW := hide HS.out.wf
  clear hn5 hn6
  have ha : Mem w3 (w3.alloc (.cells #[.slice om t.1.length cm, .slice ob t.2.length cb] 24)) := (Mem.refl w3).alloc _
  have hT := Blk.new w3 #[.slice om t.1.length cm, .slice ob t.2.length cb] 24
  have mm := m3.trans ha
  have hm3 := hm.trans mm
  replace i1 := i1.ints.mem ha
  replace i2 := i2.ints.mem ha
  have HB : Hid (allN t 32 ≤ 2 * n ∧ allN t 32 = liveN t 512) := by
    have h1 : allN t 32 = liveN t 512 := allN_live t 32 (by omega)
    have h2 := liveN_le t 512
    have h3 := HL.out
    exact ⟨by rw [h1]; omega, h1⟩
  clear hX hb hm mm m3 m1 ha HF HSZ HS HL
  go_wp2_with fail
  generalize hW : w3.alloc (.cells #[.slice om t.1.length cm, .slice ob t.2.length cb] 24) = W3 at *
  generalize w3.heap.size = Bt at *
  clear hW
  have HK : Hid (∀ w', Mem W3 w' → w'.cell? ⟨Bt, 0, none⟩ = some (.slice om t.1.length cm) ∧ w'.cell? ⟨Bt, 1, none⟩ = some (.slice ob t.2.length cb) ∧ Ints .i64 w' (.slice om t.1.length cm) t.1 ∧ Ints .i64 w' (.slice ob t.2.length cb) t.2) := fun w' h => ⟨(hT.mem h).cell (j := 0) rfl, (hT.mem h).cell (j := 1) rfl, i1.mem h, i2.mem h⟩
  clear i1 i2 hT
  go_loopw [10, 11] (fun a c wr => ∃ b : Nat, b ≤ 32 ∧ c = .int .i64 b ∧ a = .int .i64 (allN t b) ∧ Mem W3 wr) (fun _ c _ => 32 - (intOf c).toNat)
  case atStart => exact ⟨0, Nat.zero_le _, rfl, rfl, Mem.refl _⟩
  case round =>
    obtain ⟨b, hbk, rfl, rfl, hmr⟩ := hrel
    by_cases hlt : b < 32
    · have hlt' : (b : Int) < 32 := by omega
      obtain ⟨x0, x1, j1, j2⟩ := HK.out _ hmr
      have hab := allN_le t b
      have hcb := countN_le t b 16
      have HC : Hid (((allN t b : Nat) : Int) + ((countT t b : Nat) : Int) = ((allN t (b + 1) : Nat) : Int)) := by show _ = _; rw [allN]; omega
      go_wp2_with fail
      refine (codeCount t om ob cm cb b _ j1 j2 hl1 hl2 HW.out).mono ?_
      rintro e w4 ⟨rfl, m4⟩
      have m4' := hmr.trans m4
      have hcc : countT t b ≤ 16 := hcb
      clear x0 x1 j1 j2 hcb
      go_wp2_with fail
      go_roundw
      case rel => exact ⟨b + 1, by omega, by go_num, int_eq HC.out, m4'⟩
      case measure => simp [intOf]; omega
    · have hb32 : 32 ≤ (b : Int) := by omega
      have HB2 : Hid (allN t b ≤ 2 * n ∧ allN t b = liveN t 512) := by
        have hbe : b = 32 := by omega
        subst hbe
        exact HB.out
      clear hlt hbk
      generalize allN t b = al at *
      go_wp2_with fail
      go_loopw [12, 13] (fun a c wq => ∃ p : Nat, p ≤ 512 ∧ c = .int .i64 p ∧ a = .int .i64 (liveN t p) ∧ Mem W3 wq) (fun _ c _ => 512 - (intOf c).toNat)
      case atStart => exact ⟨0, Nat.zero_le _, rfl, rfl, hmr⟩
      case round =>
        obtain ⟨p, hp, rfl, rfl, hmq⟩ := hrel
        by_cases hlp : p < 512
        · have hlp' : (p : Int) < 512 := by omega
          obtain ⟨x0, x1, j1, j2⟩ := HK.out _ hmq
          have hle := liveN_le_m t p
          have HY := hide (fun h => cnt_yes (P := fun p => liveT t p) (k := p) h)
          have HN := hide (fun h => cnt_no (P := fun p => liveT t p) (k := p) h)
          go_wp2_with fail
          refine (codeLive t om ob cm cb p _ j1 j2 hl1 hl2 HW.out (wfZ_small (by omega) (by omega))).mono ?_
          rintro e w5 ⟨rfl, m5⟩
          have m5' := hmq.trans m5
          clear x0 x1 j1 j2
          cases hv : liveT t p with
          | true =>
            have HE : Hid (((liveN t p : Nat) : Int) + 1 = ((liveN t (p + 1) : Nat) : Int)) := by show _ = _; unfold liveN; rw [HY.out hv]; omega
            clear hv
            go_wp2_with fail
            go_roundw
            case rel => exact ⟨p + 1, by omega, by go_num, int_eq HE.out, m5'⟩
            case measure => simp [intOf]; omega
          | false =>
            have HE : Hid (((liveN t p : Nat) : Int) = ((liveN t (p + 1) : Nat) : Int)) := by show _ = _; unfold liveN; rw [HN.out hv]
            clear hv
            go_wp2_with fail
            go_roundw
            case rel => exact ⟨p + 1, by omega, by go_num, int_eq HE.out, m5'⟩
            case measure => simp [intOf]; omega
        · have hpe : p = 512 := by omega
          subst hpe
          clear hlp
          obtain ⟨hB1, hB2⟩ := HB2.out
          rw [← hB2]
          have hB3 : (al : Int) ≤ 2 * (n : Int) := by omega
          clear hB1 hB2
          go_wp2_with fail
          go_ret
          exact ⟨rfl, hm3.trans hmq⟩
end Go.Proofs.Ytamngecgkkgnpaa.Live
