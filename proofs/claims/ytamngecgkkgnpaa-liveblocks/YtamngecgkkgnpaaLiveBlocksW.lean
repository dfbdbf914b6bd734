/-
  Layer 8: the walk of LiveBlocks.
-/
import Derived.Test.YtamngecgkkgnpaaLiveAwake
import Derived.Test.YtamngecgkkgnpaaLiveLawMath
import Derived.Test.YtamngecgkkgnpaaReplayRefFold
import Derived.Test.YtamngecgkkgnpaaScanMadeC
namespace Go.Proofs.Ytamngecgkkgnpaa.Live
open Go.RowKit Go.Proofs.Ytamngecgkkgnpaa.Replay Go.Proofs.Ytamngecgkkgnpaa.Scan Go.Proofs.Ytamngecgkkgnpaa.Nand
attribute [local irreducible] applyT foldT newT

set_option maxHeartbeats 4000000 in
set_option maxRecDepth 100000 in
theorem liveBlocks_walk (a0 : Option Addr) (len0 cap0 : Nat) (z0 : List Int) (a1 : Int) (w : World) (w0 : IsRow .u16 w a0 len0 cap0 z0) (w1 : (Lit.int .u8 a1).wf = true) :
    Calls Try.prog 8 #[.slice a0 len0 cap0, .int .u8 a1] w fun e w' => e = .returned (.bool true) ∧ Mem w w' := by
  obtain ⟨hz, hwf⟩ := Ints.of_row w0
  obtain ⟨hl1, hl2⟩ := row_len w0
  have HZ : Hid (∀ x ∈ z0.take len0, 0 ≤ x ∧ x ≤ 65535) := fun x h => wf_u16 (hwf x h)
  clear hwf w0
  generalize z0.take len0 = z at *
  subst hl1
  have hb1 := wf_u8 w1
  clear w1
  obtain ⟨n1, rfl⟩ := Int.eq_ofNat_of_zero_le hb1.1
  obtain ⟨n, hn⟩ : ∃ a : Nat, (n1 : Int) % 65 = (a : Int) := ⟨n1 % 65, by omega⟩
  have hn1 : n ≤ 64 := by omega
  go_enter Try.func8, Try.ntmps8
  go_wp2_with fail
  refine (lawMade06 a0 cap0 z 5 6 _ (hz.mem (Mem.refl _)) hl2 HZ.out (by decide) (by decide) (by decide) (by decide)).mono ?_
  rintro e w2 ⟨⟨v2, bs, br, off, ops, rfl, hb, hI⟩, m2⟩
  have HF := hide (few_inv hI (by omega) (by omega))
  have HSZ : Hid (∀ b ∈ bs, ∀ p ∈ b.1, p.2.2.size ≤ maxLen) := hI.2.2
  clear hz HZ hI hl2
  obtain ⟨oc, cc, rfl⟩ := hb.shape
  simp only [chipV]
  have hm := m2
  clear m2
  go_wp2_with fail
  (try rw [hn])
  generalize hW : w2 = W2 at *
  clear hW
  refine (refReplay _ _ bs br off ops n _ hb HF.out HSZ.out).mono ?_
  rintro e w3 ⟨⟨v3, rfl, ht⟩, m3⟩
  have HS := hide (chip_small bs n)
  have hlen : (foldT (allC bs) (newT n)).1.length = n ∧ (foldT (allC bs) (newT n)).2.length = n := by
    have h1 := foldT_len (allC bs) (newT n)
    have h2 := newT_len n
    have h3 : cutN n = n := by unfold cutN; omega
    omega
  generalize foldT (allC bs) (newT n) = t at *
  generalize seqT (allC bs) 0 = sq at *
  obtain ⟨om, cm, ob, cb, rfl, i1, i2⟩ := ht
  obtain ⟨hn5, hn6⟩ := hlen
  have HL := hide (And.intro hn5 hn6)
  have hl1 : t.1.length ≤ 1000 := by omega
  have hl2 : t.2.length ≤ 1000 := by omega
  have HW := hide HS.out.wf
  clear hn5 hn6
  have ha : Mem w3 (w3.alloc (.cells #[.slice om t.1.length cm, .slice ob t.2.length cb] 24)) := (Mem.refl w3).alloc _
  have hT := Blk.new w3 #[.slice om t.1.length cm, .slice ob t.2.length cb] 24
  have mm := m3.trans ha
  have hm3 := hm.trans mm
  replace i1 := i1.ints.mem ha
  replace i2 := i2.ints.mem ha
  clear hb hm mm m3 ha HF HSZ HS HL
  go_wp2_with fail
  generalize hW : w3.alloc (.cells #[.slice om t.1.length cm, .slice ob t.2.length cb] 24) = W3 at *
  generalize w3.heap.size = Bt at *
  clear hW
  have HK0 : Hid (∀ w', Mem W3 w' → w'.cell? ⟨Bt, 0, none⟩ = some (.slice om t.1.length cm) ∧ w'.cell? ⟨Bt, 1, none⟩ = some (.slice ob t.2.length cb) ∧ Ints .i64 w' (.slice om t.1.length cm) t.1 ∧ Ints .i64 w' (.slice ob t.2.length cb) t.2) := fun w' h => ⟨(hT.mem h).cell (j := 0) rfl, (hT.mem h).cell (j := 1) rfl, i1.mem h, i2.mem h⟩
  have HK : Hid (∀ w', Mem W3 w' → (w'.cell? ⟨Bt, 0, none⟩ = some (.slice om t.1.length cm) ∧ w'.cell? ⟨Bt, 1, none⟩ = some (.slice ob t.2.length cb))) := fun w' h => ⟨(HK0.out _ h).1, (HK0.out _ h).2.1⟩
  have HI : Hid (∀ w', Mem W3 w' → (Ints .i64 w' (.slice om t.1.length cm) t.1 ∧ Ints .i64 w' (.slice ob t.2.length cb) t.2)) := fun w' h => (HK0.out _ h).2.2
  clear i1 i2 hT HK0
  go_loopw [7] (fun c wr => ∃ k : Nat, k ≤ 35 ∧ c = .int .i64 ((k : Int) - 1) ∧ Mem W3 wr) (fun c _ => 35 - (intOf c + 1).toNat)
  case atStart => exact ⟨0, Nat.zero_le _, rfl, Mem.refl _⟩
  case round =>
    obtain ⟨k, hk, rfl, hmr⟩ := hrel
    by_cases hlt : k < 35
    · have hlt' : (k : Int) - 1 < 34 := by omega
      obtain ⟨x0, x1⟩ := HK.out _ hmr
      have N0 := hide (Mem.drew hmr)
      obtain ⟨q, hq⟩ : ∃ q : Int, (k : Int) - 1 = q := ⟨_, rfl⟩
      have HQ : Hid (q + 1 = ((k + 1 : Nat) : Int) - 1) := by show _ = _; omega
      have hq1 : -1 ≤ q := by omega
      have hq2 : q ≤ 33 := by omega
      rw [hq] at hlt' ⊢
      clear hq
      go_wp2_with fail
      go_region_held3 (fun w' => w'.cell? ⟨Bt, 0, none⟩ = some (.slice om t.1.length cm) ∧ w'.cell? ⟨Bt, 1, none⟩ = some (.slice ob t.2.length cb))
        (first | with_reducible exact (HK.out _ N0.out) | with_reducible exact (HK.out _ N1.out) | with_reducible exact (HK.out _ N2.out))
        (first
          | (go_at_call 13; refine (codeCount t om ob cm cb q _ (HI.out _ N0.out).1 (HI.out _ N0.out).2 hl1 hl2 HW.out).mono ?_; rintro e w4 ⟨rfl, n1⟩; have N1 := hide (Mem.trans N0.out n1); clear n1)
          | (go_at_call 18; refine (refCount t om ob cm cb q _ (HI.out _ N1.out).1 (HI.out _ N1.out).2 hl1 hl2).mono ?_; rintro e w5 ⟨rfl, n2⟩; have N2 := hide (Mem.trans N1.out n2); clear n2))
      go_wp2_with fail
      go_roundw
      case rel => exact ⟨k + 1, by omega, int_eq HQ.out, N2.out⟩
      case measure => simp [intOf]; omega
    · obtain ⟨q0, hq0⟩ : ∃ q0 : Int, (k : Int) - 1 = q0 := ⟨_, rfl⟩
      have hq1 : 34 ≤ q0 := by omega
      rw [hq0]
      clear hlt hq0 hk
      go_wp2_with fail
      go_loopw [8] (fun c wq => ∃ k : Nat, k ≤ 174 ∧ c = .int .i64 (3 * (k : Int) - 1) ∧ Mem W3 wq) (fun c _ => 174 - ((intOf c + 1) / 3).toNat)
      case atStart => exact ⟨0, Nat.zero_le _, rfl, hmr⟩
      case round =>
        obtain ⟨k, hk, rfl, hmq⟩ := hrel
        by_cases hlp : k < 174
        · have hlp' : 3 * (k : Int) - 1 < 520 := by omega
          obtain ⟨x0, x1⟩ := HK.out _ hmq
          have N0 := hide (Mem.drew hmq)
          obtain ⟨q, hq⟩ : ∃ q : Int, 3 * (k : Int) - 1 = q := ⟨_, rfl⟩
          have HQ : Hid (q + 3 = 3 * ((k + 1 : Nat) : Int) - 1) := by show _ = _; omega
          have hq1 : -1 ≤ q := by omega
          have hq2 : q ≤ 519 := by omega
          rw [hq] at hlp' ⊢
          clear hq
          go_wp2_with fail
          go_region_held3 (fun w' => w'.cell? ⟨Bt, 0, none⟩ = some (.slice om t.1.length cm) ∧ w'.cell? ⟨Bt, 1, none⟩ = some (.slice ob t.2.length cb))
            (first | with_reducible exact (HK.out _ N0.out) | with_reducible exact (HK.out _ N1.out) | with_reducible exact (HK.out _ N2.out))
            (first
              | (go_at_call 14; refine (codeLive t om ob cm cb q _ (HI.out _ N0.out).1 (HI.out _ N0.out).2 hl1 hl2 HW.out (wfZ_small (by omega) (by omega))).mono ?_; rintro e w4 ⟨rfl, n1⟩; have N1 := hide (Mem.trans N0.out n1); clear n1)
              | (go_at_call 19; refine (refLive t om ob cm cb q _ (HI.out _ N1.out).1 (HI.out _ N1.out).2 hl1 hl2).mono ?_; rintro e w5 ⟨rfl, n2⟩; have N2 := hide (Mem.trans N1.out n2); clear n2))
          go_wp2_with fail
          go_roundw
          case rel => exact ⟨k + 1, by omega, int_eq HQ.out, N2.out⟩
          case measure => simp [intOf]; omega
        · have hpe : k = 174 := by omega
          subst hpe
          clear hlp
          go_wp2_with fail
          refine (awake _).mono ?_
          rintro e w6 ⟨rfl, m6⟩
          go_wp2_with fail
          go_ret
          exact ⟨rfl, hm3.trans (hmq.trans m6)⟩
end Go.Proofs.Ytamngecgkkgnpaa.Live
