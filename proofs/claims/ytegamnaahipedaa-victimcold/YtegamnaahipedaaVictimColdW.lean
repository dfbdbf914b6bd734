/-
  Layer 11: the walk of VictimCold. (By mk_victim.py.)
-/
import Derived.Test.YtegamnaahipedaaVictimCode
import Derived.Test.YtegamnaahipedaaVictimWorn
import Derived.Test.YtegamnaahipedaaVictimLawMath
import Derived.Test.YtegamnaahipedaaVictimMadeC
import Derived.Test.YtegamnaahipedaaStatesLawMath
import Derived.Test.YtegamnaahipedaaLiveLawMath
import Derived.Test.YtegamnaahipedaaReplayRefFold
import Derived.Test.YtegamnaahipedaaMemLow
namespace Go.Proofs.Ytegamnaahipedaa.Victim
open Go.RowKit Go.Proofs.Ytegamnaahipedaa.Nand Go.Proofs.Ytegamnaahipedaa.States Go.Proofs.Ytegamnaahipedaa.Live Go.Proofs.Ytegamnaahipedaa.Replay Go.Proofs.Ytegamnaahipedaa.Scan
attribute [local irreducible] applyT foldT newT

set_option maxHeartbeats 8000000 in
set_option maxRecDepth 100000 in
theorem victimCold_walk (a0 : Option Addr) (len0 cap0 : Nat) (z0 : List Int) (a1 : Option Addr) (len1 cap1 : Nat) (z1 : List Int) (a2 : Int) (a3 : Int) (w : World) (w0 : IsRow .u16 w a0 len0 cap0 z0) (w1 : IsRow .u8 w a1 len1 cap1 z1) (w2 : (Lit.int .u8 a2).wf = true) (w3 : (Lit.int .u8 a3).wf = true) :
    Calls Try.prog 6 #[.slice a0 len0 cap0, .slice a1 len1 cap1, .int .u8 a2, .int .u8 a3] w fun e w' => e = .returned (.bool true) ∧ Below w.heap.size w w' := by
  obtain ⟨hz, hwf0⟩ := Ints.of_row w0
  obtain ⟨hl01, hl02⟩ := row_len w0
  have HZ : Hid (∀ x ∈ z0.take len0, 0 ≤ x ∧ x ≤ 65535) := fun x h => wf_u16 (hwf0 x h)
  clear hwf0 w0
  generalize z0.take len0 = z at *
  subst hl01
  obtain ⟨hz1', hwf1⟩ := Ints.of_row w1
  obtain ⟨hl11, hl12⟩ := row_len w1
  have HZ1 : Hid (∀ x ∈ z1.take len1, 0 ≤ x ∧ x ≤ 255) := fun x h => wf_u8 (hwf1 x h)
  clear hwf1 w1
  generalize z1.take len1 = z1' at *
  subst hl11
  have hb2 := wf_u8 w2
  clear w2
  obtain ⟨n2, rfl⟩ := Int.eq_ofNat_of_zero_le hb2.1
  have hb3 := wf_u8 w3
  clear w3
  obtain ⟨n3, rfl⟩ := Int.eq_ofNat_of_zero_le hb3.1
  obtain ⟨N, hN⟩ : ∃ N : Nat, 1 + (n2 : Int) % 6 = (N : Int) := ⟨1 + n2 % 6, by omega⟩
  have hN1 : 1 ≤ N ∧ N ≤ 6 := by omega
  obtain ⟨r, hr, hr10⟩ : ∃ r : Nat, (n3 : Int) % 10 = (r : Int) ∧ r < 10 := ⟨n3 % 10, by omega, by omega⟩
  go_enter Try.func6, Try.ntmps6
  go_wp2_with fail
  refine (awake w).mono ?_
  rintro e wa ⟨rfl, ma⟩
  go_wp2_with fail
  (try rw [hN])
  refine (lawMade11 a0 cap0 z N 4 _ (hz.mem ma) hl02 HZ.out hN1.1 (by omega) (by omega) (by omega)).mono ?_
  rintro e w2 ⟨⟨v2, bs, br, off, ops, rfl, hb, kk, hkk, hI, hNX⟩, m2⟩
  have HNX := hide hNX
  clear hNX
  have hl6 : 1 ≤ bs.length ∧ bs.length ≤ 6 := by
    have hl0 : bs.length = N := dims_len hI.1.1
    omega
  obtain rfl : off = false := hI.2.1
  have HF := hide (few_inv hI.1 (show N ≤ 32 by omega) (by omega))
  have HSZ : Hid (∀ b ∈ bs, ∀ p ∈ b.1, p.2.2.size ≤ maxLen) := hI.1.2.2
  have HER : Hid (∀ b ∈ bs, 0 ≤ b.2.2.1 ∧ b.2.2.1 ≤ 1099511627776) := fun b hb' => by have := hI.2.2 b hb'; omega
  have HD4 : Hid (∀ k, k < bs.length → (blkT bs k).1.length = 4) := fun k hk => by have := dims_get hI.1.1 hk; rw [blk_at hk] at this; exact this
  have hm := ma.trans m2
  obtain ⟨oc, cc, rfl⟩ := hb.shape
  simp only [chipV]
  go_wp2_with fail
  refine (lawWorn _ _ bs br false ops a1 cap1 z1' _ hb HF.out (by omega) (hz1'.mem hm) HZ1.out).mono ?_
  rintro e w3 ⟨⟨v3, rfl, hb3⟩, m3⟩
  have hm3 := hm.trans m3
  have HF3 := hide (worn_few (zs := z1') (k := min bs.length z1'.length) HF.out)
  have HSZ3 := hide (worn_sized (zs := z1') (k := min bs.length z1'.length) HSZ.out)
  have HER3 := hide (worn_ers (zs := z1') (k := min bs.length z1'.length) HER.out)
  have hlen3 := worn_len bs z1' (min bs.length z1'.length)
  clear hI HF HSZ HER HD4 hb hm m2 m3 hz hz1' HZ HZ1 hl02 hl12 hN
  generalize wornN bs z1' (min bs.length z1'.length) = b3 at *
  rw [← hlen3] at hl6
  clear hlen3 hN1 hkk
  obtain ⟨oc, cc, rfl⟩ := hb3.shape
  simp only [chipV]
  clear ma
  have hax : Mem w3 (w3.alloc (.cells #[.slice oc b3.length cc, .bool br, .bool false, .int .i64 ops] 24)) := (Mem.refl w3).alloc _
  have hX := Blk.new w3 #[.slice oc b3.length cc, .bool br, .bool false, .int .i64 ops] 24
  have hbX := (hb3.mono (S' := fun x => x < w3.heap.size) fun g _ hl => hl).mem hax
  have hmX := hm3.trans hax
  have hBw : w.heap.size ≤ w3.heap.size := hm3.size
  have c0 := hX.cell (j := 0) rfl
  have c1 := hX.cell (j := 1) rfl
  have c2 := hX.cell (j := 2) rfl
  have c3 := hX.cell (j := 3) rfl
  clear hb3 hm3
  go_wp2_with fail
  generalize hWX : w3.alloc (.cells #[.slice oc b3.length cc, .bool br, .bool false, .int .i64 ops] 24) = W at *
  clear hWX hax
  generalize w3.heap.size = Bc at *
  (try rw [hr])
  clear hr
  refine (codeCold _ _ b3 br false ops (-1) r _ hbX (by omega) HER3.out).mono ?_
  rintro e w4 ⟨rfl, m4⟩
  have HC : Hid (∀ w', Mem W w' → w'.cell? ⟨Bc, 0, none⟩ = some (.slice oc b3.length cc) ∧ w'.cell? ⟨Bc, 1, none⟩ = some (.bool br) ∧ w'.cell? ⟨Bc, 2, none⟩ = some (.bool false) ∧ w'.cell? ⟨Bc, 3, none⟩ = some (.int .i64 ops)) := fun w' m => ⟨(hX.mem m).cell (j := 0) rfl, (hX.mem m).cell (j := 1) rfl, (hX.mem m).cell (j := 2) rfl, (hX.mem m).cell (j := 3) rfl⟩
  have HB := hide (fun (w' : World) (m : Mem W w') => hbX.mem m)
  clear hX hbX c0 c1 c2 c3
  have HRS := hide (fun (b : Int) (w' : World) (m : Mem W w') => refState _ _ b3 br false ops (-1) b w' (HB.out w' m))
  have HErs : Hid (∀ i, i < b3.length → 0 ≤ erT b3 i ∧ erT b3 i ≤ 1099511627776) := fun i hi => by
    have := HER3.out (b3[i]) (List.getElem_mem hi)
    rw [er_at hi] at this
    exact this
  clear HER3 HF3 HSZ3
  rcases cold_range b3 (-1) r with hcr | ⟨j, hcr⟩
  · rw [hcr]
    clear hcr
    go_wp2_with fail
    go_ret
    exact ⟨rfl, hmX.trans m4⟩
  · obtain ⟨hjl, hjs, -, -⟩ := cold_some hcr
    obtain ⟨hmin, hfar⟩ := cold_is hcr
    have HMin := hide hmin
    have HFar := hide hfar
    rw [hcr]
    clear hcr hmin hfar
    have hj0 : (0 : Int) ≤ (j : Int) := by omega
    have hj1 : (j : Int) < (b3.length : Int) := by omega
    have hdj : decide ((b3.length : Int) ≤ (j : Int)) = false := decide_eq_false (by omega)
    have hdjn : decide (b3.length ≤ j) = false := decide_eq_false (by omega)
    have hdj0 : decide ((j : Int) < 0) = false := decide_eq_false (by omega)
    have HS0 := hide (HRS.out j w4 m4)
    rw [hjs] at HS0
    obtain ⟨c0, c1, c2, c3⟩ := HC.out _ m4
    clear hjs
    go_wp2_with fail
    refine HS0.out.mono ?_
    rintro e w5 ⟨rfl, m5⟩
    have hm5 := m4.trans m5
    clear m4 m5 HS0 c0 c1 c2 c3
    go_wp2_with fail
    go_loopw [13, 14] (fun f i wr => ∃ k : Nat, k ≤ b3.length ∧ i = .int .i64 k ∧ f = .bool (farN b3 j r k) ∧ Mem W wr) (fun _ i _ => b3.length - (intOf i).toNat)
    case atStart => exact ⟨0, Nat.zero_le _, rfl, rfl, hm5⟩
    case round =>
      obtain ⟨k, hk, rfl, rfl, hmr⟩ := hrel
      obtain ⟨c0, c1, c2, c3⟩ := HC.out _ hmr
      by_cases hlt : k < b3.length
      · have hlt' : (k : Int) < (b3.length : Int) := by omega
        have hk0 : (0 : Int) ≤ (k : Int) := by omega
        have hbr := HB.out _ hmr
        obtain ⟨g, f, op, cp, rfl, _, _, _, x2, x3, _⟩ := hbr.at hlt
        obtain ⟨g', f', op', cp', e', _, _, _, y2, _, _⟩ := hbr.at hjl
        injection e' with e'
        injection e' with e1 e2
        subst e1 e2
        rw [er_at hlt] at x2
        rw [er_at hjl] at y2
        rw [blk_at hlt] at x3
        have HFB := hide (far_bad (bs := b3) (j := j) (m := (r : Int)) (k := k))
        have HFN := hide (far_not (bs := b3) (j := j) (m := (r : Int)) (k := k))
        have HMk := hide (HMin.out k hlt)
        obtain ⟨q1, q2⟩ := HErs.out k hlt
        obtain ⟨q3, q4⟩ := HErs.out j hjl
        clear hbr
        generalize farN b3 j r k = fk at *
        generalize erT b3 k = ek at *
        generalize erT b3 j = ej at *
        cases hbd : (blkT b3 k).2.2.2 with
        | true =>
          have HE := hide (HFB.out hbd)
          rw [hbd] at x3
          clear hbd HFB HFN HMk
          go_wp2_with fail
          go_roundw
          case rel => exact ⟨k + 1, by omega, by go_num, by rw [HE.out], hmr⟩
          case measure => simp [intOf]; omega
        | false =>
          have HE := hide (HFN.out hbd)
          have hle := HMk.out hbd
          rw [hbd] at x3
          have hdl : decide (ek < ej) = false := decide_eq_false (by omega)
          have hs1 : -9223372036854775808 ≤ ek - ej := by omega
          have hs2 : ek - ej ≤ 9223372036854775807 := by omega
          have hsw : IntKind.i64.wrap (ek - ej) = ek - ej := wrap_in (by omega) (by omega)
          clear hbd HFB HFN HMk
          cases fk with
          | true =>
            have HE2 : Hid (farN b3 j r (k + 1) = true) := by show _ = _; rw [HE.out]; exact Bool.true_or _
            go_wp2_with fail
            go_quiet (fail)
            go_wp2_with fail
            go_quiet (fail)
            go_wp2_with fail
            go_roundw
            case rel => exact ⟨k + 1, by omega, by go_num, by rw [HE2.out], hmr.drewN _⟩
            case measure => simp [intOf]; omega
          | false =>
            by_cases hd : (r : Int) < ek - ej
            · have hdd : decide ((r : Int) < ek - ej) = true := decide_eq_true hd
              have HE2 : Hid (farN b3 j r (k + 1) = true) := by show _ = _; rw [HE.out, hdd]; rfl
              go_wp2_with fail
              go_quiet (fail)
              go_wp2_with fail
              go_quiet (fail)
              go_wp2_with fail
              go_roundw
              case rel => exact ⟨k + 1, by omega, by go_num, by rw [HE2.out], hmr.drewN _⟩
              case measure => simp [intOf]; omega
            · have hdd : decide ((r : Int) < ek - ej) = false := decide_eq_false hd
              have HE2 : Hid (farN b3 j r (k + 1) = false) := by show _ = _; rw [HE.out, hdd]; rfl
              go_wp2_with fail
              go_quiet (fail)
              go_wp2_with fail
              go_quiet (fail)
              go_wp2_with fail
              go_roundw
              case rel => exact ⟨k + 1, by omega, by go_num, by rw [HE2.out], hmr.drewN _⟩
              case measure => simp [intOf]; omega
      · have hke : k = b3.length := by omega
        subst hke
        have hlt' : ¬ ((b3.length : Int) < (b3.length : Int)) := by omega
        rw [HFar.out]
        go_wp2_with fail
        go_ret
        exact ⟨rfl, hmX.trans hmr⟩
end Go.Proofs.Ytegamnaahipedaa.Victim
