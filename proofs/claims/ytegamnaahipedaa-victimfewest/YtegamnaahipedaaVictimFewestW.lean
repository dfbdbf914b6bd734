/-
  Layer 11: the walk of VictimFewest. (By mk_victim.py.)
-/
import Derived.Test.YtegamnaahipedaaVictimCode
import Derived.Test.YtegamnaahipedaaVictimWorn
import Derived.Test.YtegamnaahipedaaVictimLawMath
import Derived.Test.YtegamnaahipedaaVictimMadeC
import Derived.Test.YtegamnaahipedaaStatesLawMath
import Derived.Test.YtegamnaahipedaaLiveLawMath
import Derived.Test.YtegamnaahipedaaReplayRefFold
import Derived.Test.YtegamnaahipedaaMemLow
namespace Go.Proofs.Ytegamnaahipedaa.Victim
open Go.RowKit Go.Proofs.Ytegamnaahipedaa.Nand Go.Proofs.Ytegamnaahipedaa.States Go.Proofs.Ytegamnaahipedaa.Live Go.Proofs.Ytegamnaahipedaa.Replay Go.Proofs.Ytegamnaahipedaa.Scan
attribute [local irreducible] applyT foldT newT

set_option maxHeartbeats 8000000 in
set_option maxRecDepth 100000 in
theorem victimFewest_walk (a0 : Option Addr) (len0 cap0 : Nat) (z0 : List Int) (a1 : Int) (a2 : Int) (w : World) (w0 : IsRow .u16 w a0 len0 cap0 z0) (w1 : (Lit.int .u8 a1).wf = true) (w2 : (Lit.int .u8 a2).wf = true) :
    Calls Try.prog 5 #[.slice a0 len0 cap0, .int .u8 a1, .int .u8 a2] w fun e w' => e = .returned (.bool true) ∧ Below w.heap.size w w' := by
  obtain ⟨hz, hwf0⟩ := Ints.of_row w0
  obtain ⟨hl01, hl02⟩ := row_len w0
  have HZ : Hid (∀ x ∈ z0.take len0, 0 ≤ x ∧ x ≤ 65535) := fun x h => wf_u16 (hwf0 x h)
  clear hwf0 w0
  generalize z0.take len0 = z at *
  subst hl01
  have hb1 := wf_u8 w1
  clear w1
  obtain ⟨n1, rfl⟩ := Int.eq_ofNat_of_zero_le hb1.1
  have hb2 := wf_u8 w2
  clear w2
  obtain ⟨n2, rfl⟩ := Int.eq_ofNat_of_zero_le hb2.1
  obtain ⟨N, hN⟩ : ∃ N : Nat, 1 + (n2 : Int) % 6 = (N : Int) := ⟨1 + n2 % 6, by omega⟩
  have hN1 : 1 ≤ N ∧ N ≤ 6 := by omega
  obtain ⟨mm, hmm⟩ : ∃ mm : Nat, 1 + (n2 : Int) % 64 = (mm : Int) := ⟨1 + n2 % 64, by omega⟩
  have hmm1 : mm ≤ 64 := by omega
  obtain ⟨q, hq, hq8⟩ : ∃ q : Nat, (n1 : Int) % 8 = (q : Int) ∧ q < 8 := ⟨n1 % 8, by omega, by omega⟩
  go_enter Try.func5, Try.ntmps5
  go_wp2_with fail
  refine (awake w).mono ?_
  rintro e wa ⟨rfl, ma⟩
  go_wp2_with fail
  (try rw [hN])
  refine (lawMade11 a0 cap0 z N 4 _ (hz.mem ma) hl02 HZ.out hN1.1 (by omega) (by omega) (by omega)).mono ?_
  rintro e w2 ⟨⟨v2, bs, br, off, ops, rfl, hb, kk, hkk, hI, hNX⟩, m2⟩
  have HNX := hide hNX
  clear hNX
  have hl6 : 1 ≤ bs.length ∧ bs.length ≤ 6 := by
    have hl0 : bs.length = N := dims_len hI.1.1
    omega
  obtain rfl : off = false := hI.2.1
  have HF := hide (few_inv hI.1 (show N ≤ 32 by omega) (by omega))
  have HSZ : Hid (∀ b ∈ bs, ∀ p ∈ b.1, p.2.2.size ≤ maxLen) := hI.1.2.2
  have HER : Hid (∀ b ∈ bs, 0 ≤ b.2.2.1 ∧ b.2.2.1 ≤ 1099511627776) := fun b hb' => by have := hI.2.2 b hb'; omega
  have HD4 : Hid (∀ k, k < bs.length → (blkT bs k).1.length = 4) := fun k hk => by have := dims_get hI.1.1 hk; rw [blk_at hk] at this; exact this
  have hm := ma.trans m2
  obtain ⟨oc, cc, rfl⟩ := hb.shape
  simp only [chipV]
  clear hz HZ hl02 hN hI m2 ma hkk hN1
  have hax : Mem w2 (w2.alloc (.cells #[.slice oc bs.length cc, .bool br, .bool false, .int .i64 ops] 24)) := (Mem.refl w2).alloc _
  have hX := Blk.new w2 #[.slice oc bs.length cc, .bool br, .bool false, .int .i64 ops] 24
  have hbX := (hb.mono (S' := fun x => x < w2.heap.size) fun g _ hl => hl).mem hax
  have hmX := hm.trans hax
  have hBw : w.heap.size ≤ w2.heap.size := hm.size
  have c0 := hX.cell (j := 0) rfl
  have c1 := hX.cell (j := 1) rfl
  have c2 := hX.cell (j := 2) rfl
  have c3 := hX.cell (j := 3) rfl
  clear hb hm
  go_wp2_with fail
  generalize hWX : w2.alloc (.cells #[.slice oc bs.length cc, .bool br, .bool false, .int .i64 ops] 24) = W at *
  clear hWX hax
  generalize w2.heap.size = Bc at *
  (try rw [hmm])
  refine (refReplay _ _ bs br false ops mm _ hbX HF.out HSZ.out).mono ?_
  rintro e w4 ⟨⟨v4, rfl, ht⟩, m4⟩
  have HSm := hide (chip_small bs mm)
  have hlt4 : (foldT (allC bs) (newT mm)).1.length ≤ 1000 ∧ (foldT (allC bs) (newT mm)).2.length ≤ 1000 := by
    have h1 := foldT_len (allC bs) (newT mm)
    have h2 := newT_len mm
    have h3 := cutN_le mm
    omega
  generalize foldT (allC bs) (newT mm) = t at *
  generalize seqT (allC bs) 0 = sq at *
  obtain ⟨om, cm, ob, cb, rfl, i1, i2⟩ := ht
  obtain ⟨hlt1, hlt2⟩ := hlt4
  have HW := hide HSm.out.wf
  have hat : Mem w4 (w4.alloc (.cells #[.slice om t.1.length cm, .slice ob t.2.length cb] 27)) := (Mem.refl w4).alloc _
  have hT := Blk.new w4 #[.slice om t.1.length cm, .slice ob t.2.length cb] 27
  have hC5 := (hX.mem m4).mem hat
  have hb5 := (hbX.mem m4).mem hat
  have hm5 := (hmX.trans m4).trans hat
  replace i1 := i1.ints.mem hat
  replace i2 := i2.ints.mem hat
  clear c0 c1 c2 c3 hX hbX hmX m4 HSZ HSm
  have d0 := hC5.cell (j := 0) rfl
  have d1 := hC5.cell (j := 1) rfl
  have d2 := hC5.cell (j := 2) rfl
  have d3 := hC5.cell (j := 3) rfl
  have y0 := hT.cell (j := 0) rfl
  have y1 := hT.cell (j := 1) rfl
  go_wp2_with fail
  generalize hWT : w4.alloc (.cells #[.slice om t.1.length cm, .slice ob t.2.length cb] 27) = W5 at *
  clear hWT hat
  generalize w4.heap.size = Bt at *
  have HC : Hid (∀ w', Mem W5 w' → w'.cell? ⟨Bc, 0, none⟩ = some (.slice oc bs.length cc) ∧ w'.cell? ⟨Bc, 1, none⟩ = some (.bool br) ∧ w'.cell? ⟨Bc, 2, none⟩ = some (.bool false) ∧ w'.cell? ⟨Bc, 3, none⟩ = some (.int .i64 ops)) := fun w' m => ⟨(hC5.mem m).cell (j := 0) rfl, (hC5.mem m).cell (j := 1) rfl, (hC5.mem m).cell (j := 2) rfl, (hC5.mem m).cell (j := 3) rfl⟩
  have HT : Hid (∀ w', Mem W5 w' → w'.cell? ⟨Bt, 0, none⟩ = some (.slice om t.1.length cm) ∧ w'.cell? ⟨Bt, 1, none⟩ = some (.slice ob t.2.length cb)) := fun w' m => ⟨(hT.mem m).cell (j := 0) rfl, (hT.mem m).cell (j := 1) rfl⟩
  have HB := hide (fun (w' : World) (m : Mem W5 w') => hb5.mem m)
  have HI1 := hide (fun (w' : World) (m : Mem W5 w') => i1.mem m)
  have HI2 := hide (fun (w' : World) (m : Mem W5 w') => i2.mem m)
  clear hC5 hT hb5 i1 i2 d0 d1 d2 d3 y0 y1
  clear hmm hmm1
  obtain ⟨o, ho⟩ : ∃ o : Int, (q : Int) - 1 = o := ⟨_, rfl⟩
  (try rw [hq])
  (try rw [ho])
  clear ho hq hq8
  have HV := hide (codeVictim _ _ bs br false ops t om ob cm cb o _ (HB.out _ (Mem.refl _)) (by omega) (HI1.out _ (Mem.refl _)) (HI2.out _ (Mem.refl _)) hlt1 hlt2 HW.out)
  rw [vict_small (by omega)] at HV
  have HSm := hide (fun j hv => vict_some (bs := bs) (t := t) (o := o) (j := j) hv HD4.out)
  have HNo := hide (fun hv => vict_none (bs := bs) (t := t) (o := o) hv HD4.out)
  have HRS := hide (fun (b : Int) (w' : World) (m : Mem W5 w') => refState _ _ bs br false ops o b w' (HB.out w' m))
  have HRC := hide (fun (b : Int) (w' : World) (m : Mem W5 w') => refCount t om ob cm cb b w' (HI1.out w' m) (HI2.out w' m) hlt1 hlt2)
  have HC16 := hide (fun b => count_le t b)
  refine HV.out.mono ?_
  rintro e w6 ⟨rfl, m6⟩
  obtain ⟨c0, c1, c2, c3⟩ := HC.out _ m6
  clear HV HI1 HI2 HER HF HB HW
  cases hv : victN bs t o bs.length with
  | none =>
    have HN := hide (HNo.out hv)
    clear hv HSm HNo
    rw [show optI (none : Option Nat) = -1 from rfl]
    go_wp2_with fail
    clear c0 c1 c2 c3
    go_loopw [13] (fun i wr => ∃ k : Nat, k ≤ bs.length ∧ i = .int .i64 k ∧ Mem W5 wr) (fun i _ => bs.length - (intOf i).toNat)
    case atStart => exact ⟨0, Nat.zero_le _, rfl, m6⟩
    case round =>
      obtain ⟨k, hk, rfl, hmr⟩ := hrel
      obtain ⟨c0, c1, c2, c3⟩ := HC.out _ hmr
      by_cases hlt : k < bs.length
      · have hlt' : (k : Int) < (bs.length : Int) := by omega
        have hk0 : (0 : Int) ≤ (k : Int) := by omega
        have HS := hide (HRS.out k wr hmr)
        have H4 := hide (HN.out k hlt)
        by_cases h2 : stateT bs o k = 2
        · have h4 := H4.out h2
          rw [h2] at HS
          clear h2 H4
          go_wp2_with fail
          refine HS.out.mono ?_
          rintro e w7 ⟨rfl, m7⟩
          have hm7 := hmr.trans m7
          obtain ⟨t0, t1⟩ := HT.out _ hm7
          have HK := hide (HRC.out k w7 hm7)
          have h16 := HC16.out (k : Int)
          generalize countT t k = c at *
          have hd4 : decide ((c : Int) < 4) = false := decide_eq_false (by omega)
          have hdn : decide (c < 4) = false := decide_eq_false (by omega)
          have hn4 : ¬ (c < 4) := by omega
          go_wp2_with fail
          refine HK.out.mono ?_
          rintro e w8 ⟨rfl, m8⟩
          go_wp2_with fail
          go_roundw
          case rel => exact ⟨k + 1, by omega, by go_num, hm7.trans m8⟩
          case measure => simp [intOf]; omega
        · have hne : (stateT bs o k != 2) = true := by simpa using h2
          clear h2 H4
          generalize stateT bs o k = st at *
          go_wp2_with fail
          refine HS.out.mono ?_
          rintro e w7 ⟨rfl, m7⟩
          go_wp2_with fail
          go_roundw
          case rel => exact ⟨k + 1, by omega, by go_num, hmr.trans m7⟩
          case measure => simp [intOf]; omega
      · have hke : k = bs.length := by omega
        subst hke
        have hlt' : ¬ ((bs.length : Int) < (bs.length : Int)) := by omega
        go_wp2_with fail
        go_ret
        exact ⟨rfl, hm5.trans hmr⟩
  | some j =>
    obtain ⟨hjl, hjs, hj4, hjm⟩ := HSm.out j hv
    have HJM := hide hjm
    clear hv HSm HNo hjm
    rw [show optI (some j) = (j : Int) from rfl]
    have hj0 : (0 : Int) ≤ (j : Int) := by omega
    have hj1 : (j : Int) < (bs.length : Int) := by omega
    have hdj : decide ((bs.length : Int) ≤ (j : Int)) = false := decide_eq_false (by omega)
    have hdjn : decide (bs.length ≤ j) = false := decide_eq_false (by omega)
    have hdj0 : decide ((j : Int) < 0) = false := decide_eq_false (by omega)
    have HS0 := hide (HRS.out j w6 m6)
    rw [hjs] at HS0
    clear hjs
    go_wp2_with fail
    refine HS0.out.mono ?_
    rintro e w9 ⟨rfl, m9⟩
    have hm9 := m6.trans m9
    clear m6 m9 HS0
    go_wp2_with fail
    clear c0 c1 c2 c3
    go_loopw [13] (fun i wr => ∃ k : Nat, k ≤ bs.length ∧ i = .int .i64 k ∧ Mem W5 wr) (fun i _ => bs.length - (intOf i).toNat)
    case atStart => exact ⟨0, Nat.zero_le _, rfl, hm9⟩
    case round =>
      obtain ⟨k, hk, rfl, hmr⟩ := hrel
      obtain ⟨c0, c1, c2, c3⟩ := HC.out _ hmr
      by_cases hlt : k < bs.length
      · have hlt' : (k : Int) < (bs.length : Int) := by omega
        have hk0 : (0 : Int) ≤ (k : Int) := by omega
        have HS := hide (HRS.out k wr hmr)
        have H4 := hide (HJM.out k hlt)
        by_cases h2 : stateT bs o k = 2
        · have h4 := H4.out h2
          rw [h2] at HS
          clear h2 H4
          go_wp2_with fail
          refine HS.out.mono ?_
          rintro e w7 ⟨rfl, m7⟩
          have hm7 := hmr.trans m7
          obtain ⟨t0, t1⟩ := HT.out _ hm7
          have HK := hide (HRC.out k w7 hm7)
          have HKJ := hide (fun (w' : World) (m : Mem W5 w') => HRC.out j w' m)
          have h16 := HC16.out (k : Int)
          generalize countT t k = c at *
          generalize countT t j = cj at *
          have hd4 : decide ((c : Int) < (cj : Int)) = false := decide_eq_false (by omega)
          have hdn : decide (c < cj) = false := decide_eq_false (by omega)
          have hn4 : ¬ (c < cj) := by omega
          go_wp2_with fail
          refine HK.out.mono ?_
          rintro e w8 ⟨rfl, m8⟩
          have hm8 := hm7.trans m8
          clear t0 t1
          obtain ⟨t0, t1⟩ := HT.out _ hm8
          go_wp2_with fail
          refine (HKJ.out _ hm8).mono ?_
          rintro e w10 ⟨rfl, m10⟩
          go_wp2_with fail
          go_roundw
          case rel => exact ⟨k + 1, by omega, by go_num, hm8.trans m10⟩
          case measure => simp [intOf]; omega
        · have hne : (stateT bs o k != 2) = true := by simpa using h2
          clear h2 H4
          generalize stateT bs o k = st at *
          go_wp2_with fail
          refine HS.out.mono ?_
          rintro e w7 ⟨rfl, m7⟩
          go_wp2_with fail
          go_roundw
          case rel => exact ⟨k + 1, by omega, by go_num, hmr.trans m7⟩
          case measure => simp [intOf]; omega
      · have hke : k = bs.length := by omega
        subst hke
        have hlt' : ¬ ((bs.length : Int) < (bs.length : Int)) := by omega
        go_wp2_with fail
        go_ret
        exact ⟨rfl, hm5.trans hmr⟩
end Go.Proofs.Ytegamnaahipedaa.Victim
