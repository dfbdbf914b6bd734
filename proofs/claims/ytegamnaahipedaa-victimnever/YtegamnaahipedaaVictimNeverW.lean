/-
  Layer 11: the walk of VictimNever. (By mk_victim.py.)
-/
import Derived.Test.YtegamnaahipedaaVictimCode
import Derived.Test.YtegamnaahipedaaVictimWorn
import Derived.Test.YtegamnaahipedaaVictimLawMath
import Derived.Test.YtegamnaahipedaaVictimMadeC
import Derived.Test.YtegamnaahipedaaStatesLawMath
import Derived.Test.YtegamnaahipedaaLiveLawMath
import Derived.Test.YtegamnaahipedaaReplayRefFold
import Derived.Test.YtegamnaahipedaaMemLow
namespace Go.Proofs.Ytegamnaahipedaa.Victim
open Go.RowKit Go.Proofs.Ytegamnaahipedaa.Nand Go.Proofs.Ytegamnaahipedaa.States Go.Proofs.Ytegamnaahipedaa.Live Go.Proofs.Ytegamnaahipedaa.Replay Go.Proofs.Ytegamnaahipedaa.Scan
attribute [local irreducible] applyT foldT newT

set_option maxHeartbeats 8000000 in
set_option maxRecDepth 100000 in
theorem victimNever_walk (a0 : Option Addr) (len0 cap0 : Nat) (z0 : List Int) (a1 : Option Addr) (len1 cap1 : Nat) (z1 : List Int) (a2 : Int) (a3 : Int) (w : World) (w0 : IsRow .u16 w a0 len0 cap0 z0) (w1 : IsRow .u8 w a1 len1 cap1 z1) (w2 : (Lit.int .u8 a2).wf = true) (w3 : (Lit.int .u8 a3).wf = true) :
    Calls Try.prog 8 #[.slice a0 len0 cap0, .slice a1 len1 cap1, .int .u8 a2, .int .u8 a3] w fun e w' => e = .returned (.bool true) ∧ Below w.heap.size w w' := by
  obtain ⟨hz, hwf0⟩ := Ints.of_row w0
  obtain ⟨hl01, hl02⟩ := row_len w0
  have HZ : Hid (∀ x ∈ z0.take len0, 0 ≤ x ∧ x ≤ 65535) := fun x h => wf_u16 (hwf0 x h)
  clear hwf0 w0
  generalize z0.take len0 = z at *
  subst hl01
  obtain ⟨hz1', hwf1⟩ := Ints.of_row w1
  obtain ⟨hl11, hl12⟩ := row_len w1
  have HZ1 : Hid (∀ x ∈ z1.take len1, 0 ≤ x ∧ x ≤ 255) := fun x h => wf_u8 (hwf1 x h)
  clear hwf1 w1
  generalize z1.take len1 = z1' at *
  subst hl11
  have hb2 := wf_u8 w2
  clear w2
  obtain ⟨n2, rfl⟩ := Int.eq_ofNat_of_zero_le hb2.1
  have hb3 := wf_u8 w3
  clear w3
  obtain ⟨n3, rfl⟩ := Int.eq_ofNat_of_zero_le hb3.1
  obtain ⟨N, hN⟩ : ∃ N : Nat, 1 + (n3 : Int) % 6 = (N : Int) := ⟨1 + n3 % 6, by omega⟩
  have hN1 : 1 ≤ N ∧ N ≤ 6 := by omega
  obtain ⟨mm, hmm⟩ : ∃ mm : Nat, 1 + (n3 : Int) % 64 = (mm : Int) := ⟨1 + n3 % 64, by omega⟩
  have hmm1 : mm ≤ 64 := by omega
  obtain ⟨q, hq, hq8⟩ : ∃ q : Nat, (n2 : Int) % 8 = (q : Int) ∧ q < 8 := ⟨n2 % 8, by omega, by omega⟩
  go_enter Try.func8, Try.ntmps8
  go_wp2_with fail
  refine (awake w).mono ?_
  rintro e wa ⟨rfl, ma⟩
  go_wp2_with fail
  (try rw [hN])
  refine (lawMade11 a0 cap0 z N 4 _ (hz.mem ma) hl02 HZ.out hN1.1 (by omega) (by omega) (by omega)).mono ?_
  rintro e w2 ⟨⟨v2, bs, br, off, ops, rfl, hb, kk, hkk, hI, hNX⟩, m2⟩
  have HNX := hide hNX
  clear hNX
  have hl6 : 1 ≤ bs.length ∧ bs.length ≤ 6 := by
    have hl0 : bs.length = N := dims_len hI.1.1
    omega
  obtain rfl : off = false := hI.2.1
  have HF := hide (few_inv hI.1 (show N ≤ 32 by omega) (by omega))
  have HSZ : Hid (∀ b ∈ bs, ∀ p ∈ b.1, p.2.2.size ≤ maxLen) := hI.1.2.2
  have HER : Hid (∀ b ∈ bs, 0 ≤ b.2.2.1 ∧ b.2.2.1 ≤ 1099511627776) := fun b hb' => by have := hI.2.2 b hb'; omega
  have HD4 : Hid (∀ k, k < bs.length → (blkT bs k).1.length = 4) := fun k hk => by have := dims_get hI.1.1 hk; rw [blk_at hk] at this; exact this
  have hm := ma.trans m2
  obtain ⟨oc, cc, rfl⟩ := hb.shape
  simp only [chipV]
  go_wp2_with fail
  refine (lawWorn _ _ bs br false ops a1 cap1 z1' _ hb HF.out (by omega) (hz1'.mem hm) HZ1.out).mono ?_
  rintro e w3 ⟨⟨v3, rfl, hb3⟩, m3⟩
  have hm3 := hm.trans m3
  have HF3 := hide (worn_few (zs := z1') (k := min bs.length z1'.length) HF.out)
  have HSZ3 := hide (worn_sized (zs := z1') (k := min bs.length z1'.length) HSZ.out)
  have HER3 := hide (worn_ers (zs := z1') (k := min bs.length z1'.length) HER.out)
  have hlen3 := worn_len bs z1' (min bs.length z1'.length)
  clear hI HF HSZ HER HD4 hb hm m2 m3 hz hz1' HZ HZ1 hl02 hl12 hN
  generalize wornN bs z1' (min bs.length z1'.length) = b3 at *
  rw [← hlen3] at hl6
  clear hlen3 hN1 hkk
  obtain ⟨oc, cc, rfl⟩ := hb3.shape
  simp only [chipV]
  clear ma
  have hax : Mem w3 (w3.alloc (.cells #[.slice oc b3.length cc, .bool br, .bool false, .int .i64 ops] 24)) := (Mem.refl w3).alloc _
  have hX := Blk.new w3 #[.slice oc b3.length cc, .bool br, .bool false, .int .i64 ops] 24
  have hbX := (hb3.mono (S' := fun x => x < w3.heap.size) fun g _ hl => hl).mem hax
  have hmX := hm3.trans hax
  have hBw : w.heap.size ≤ w3.heap.size := hm3.size
  have c0 := hX.cell (j := 0) rfl
  have c1 := hX.cell (j := 1) rfl
  have c2 := hX.cell (j := 2) rfl
  have c3 := hX.cell (j := 3) rfl
  clear hb3 hm3
  go_wp2_with fail
  generalize hWX : w3.alloc (.cells #[.slice oc b3.length cc, .bool br, .bool false, .int .i64 ops] 24) = W at *
  clear hWX hax
  generalize w3.heap.size = Bc at *
  (try rw [hmm])
  refine (refReplay _ _ b3 br false ops mm _ hbX HF3.out HSZ3.out).mono ?_
  rintro e w4 ⟨⟨v4, rfl, ht⟩, m4⟩
  have HSm := hide (chip_small b3 mm)
  have hlt4 : (foldT (allC b3) (newT mm)).1.length ≤ 1000 ∧ (foldT (allC b3) (newT mm)).2.length ≤ 1000 := by
    have h1 := foldT_len (allC b3) (newT mm)
    have h2 := newT_len mm
    have h3 := cutN_le mm
    omega
  generalize foldT (allC b3) (newT mm) = t at *
  generalize seqT (allC b3) 0 = sq at *
  obtain ⟨om, cm, ob, cb, rfl, i1, i2⟩ := ht
  obtain ⟨hlt1, hlt2⟩ := hlt4
  have HW := hide HSm.out.wf
  have hat : Mem w4 (w4.alloc (.cells #[.slice om t.1.length cm, .slice ob t.2.length cb] 27)) := (Mem.refl w4).alloc _
  have hT := Blk.new w4 #[.slice om t.1.length cm, .slice ob t.2.length cb] 27
  have hC5 := (hX.mem m4).mem hat
  have hb5 := (hbX.mem m4).mem hat
  have hm5 := (hmX.trans m4).trans hat
  replace i1 := i1.ints.mem hat
  replace i2 := i2.ints.mem hat
  clear c0 c1 c2 c3 hX hbX hmX m4 HSZ3 HSm
  have d0 := hC5.cell (j := 0) rfl
  have d1 := hC5.cell (j := 1) rfl
  have d2 := hC5.cell (j := 2) rfl
  have d3 := hC5.cell (j := 3) rfl
  have y0 := hT.cell (j := 0) rfl
  have y1 := hT.cell (j := 1) rfl
  go_wp2_with fail
  generalize hWT : w4.alloc (.cells #[.slice om t.1.length cm, .slice ob t.2.length cb] 27) = W5 at *
  clear hWT hat
  generalize w4.heap.size = Bt at *
  have HCT : Hid (∀ w', Mem W5 w' → w'.cell? ⟨Bc, 0, none⟩ = some (.slice oc b3.length cc) ∧ w'.cell? ⟨Bc, 1, none⟩ = some (.bool br) ∧ w'.cell? ⟨Bc, 2, none⟩ = some (.bool false) ∧ w'.cell? ⟨Bc, 3, none⟩ = some (.int .i64 ops) ∧ w'.cell? ⟨Bt, 0, none⟩ = some (.slice om t.1.length cm) ∧ w'.cell? ⟨Bt, 1, none⟩ = some (.slice ob t.2.length cb)) := fun w' m => ⟨(hC5.mem m).cell (j := 0) rfl, (hC5.mem m).cell (j := 1) rfl, (hC5.mem m).cell (j := 2) rfl, (hC5.mem m).cell (j := 3) rfl, (hT.mem m).cell (j := 0) rfl, (hT.mem m).cell (j := 1) rfl⟩
  have HC : Hid (∀ w', Mem W5 w' → w'.cell? ⟨Bc, 0, none⟩ = some (.slice oc b3.length cc) ∧ w'.cell? ⟨Bc, 1, none⟩ = some (.bool br) ∧ w'.cell? ⟨Bc, 2, none⟩ = some (.bool false) ∧ w'.cell? ⟨Bc, 3, none⟩ = some (.int .i64 ops)) := fun w' m => ⟨(hC5.mem m).cell (j := 0) rfl, (hC5.mem m).cell (j := 1) rfl, (hC5.mem m).cell (j := 2) rfl, (hC5.mem m).cell (j := 3) rfl⟩
  have HT : Hid (∀ w', Mem W5 w' → w'.cell? ⟨Bt, 0, none⟩ = some (.slice om t.1.length cm) ∧ w'.cell? ⟨Bt, 1, none⟩ = some (.slice ob t.2.length cb)) := fun w' m => ⟨(hT.mem m).cell (j := 0) rfl, (hT.mem m).cell (j := 1) rfl⟩
  have HB := hide (fun (w' : World) (m : Mem W5 w') => hb5.mem m)
  have HI1 := hide (fun (w' : World) (m : Mem W5 w') => i1.mem m)
  have HI2 := hide (fun (w' : World) (m : Mem W5 w') => i2.mem m)
  clear hC5 hT hb5 i1 i2 d0 d1 d2 d3 y0 y1
  clear hmm hmm1
  obtain ⟨o, ho⟩ : ∃ o : Int, (q : Int) - 1 = o := ⟨_, rfl⟩
  (try rw [hq])
  (try rw [ho])
  clear ho hq hq8
  have HV := hide (fun (w' : World) (m : Mem W5 w') => codeVictim _ _ b3 br false ops t om ob cm cb o w' (HB.out _ m) (by omega) (HI1.out _ m) (HI2.out _ m) hlt1 hlt2 HW.out)
  have HC0 := hide (fun (w' : World) (m : Mem W5 w') => codeCold _ _ b3 br false ops o 0 w' (HB.out _ m) (by omega) HER3.out)
  have HC3 := hide (fun (w' : World) (m : Mem W5 w') => codeCold _ _ b3 br false ops o 3 w' (HB.out _ m) (by omega) HER3.out)
  have HRS := hide (fun (b : Int) (w' : World) (m : Mem W5 w') => refState _ _ b3 br false ops o b w' (HB.out w' m))
  have F1 := hide (vict_range b3 t o)
  have F2 := hide (cold_fits b3 o 0)
  have F3 := hide (cold_fits b3 o 3)
  clear HI1 HI2 HB HW HER3 HF3 hlt1 hlt2 HT
  generalize victT b3 t o = x1 at *
  generalize coldT b3 o 0 = x2 at *
  generalize coldT b3 o 3 = x3 at *
  have N0 := hide (Mem.drew (Mem.refl W5))
  go_region_held3 (fun w' => w'.cell? ⟨Bc, 0, none⟩ = some (.slice oc b3.length cc) ∧ w'.cell? ⟨Bc, 1, none⟩ = some (.bool br) ∧ w'.cell? ⟨Bc, 2, none⟩ = some (.bool false) ∧ w'.cell? ⟨Bc, 3, none⟩ = some (.int .i64 ops) ∧ w'.cell? ⟨Bt, 0, none⟩ = some (.slice om t.1.length cm) ∧ w'.cell? ⟨Bt, 1, none⟩ = some (.slice ob t.2.length cb))
    (first
      | with_reducible exact (HCT.out _ N0.out)
      | with_reducible exact (HCT.out _ N1.out)
      | with_reducible exact (HCT.out _ N2.out)
      | with_reducible exact (HCT.out _ N3.out)
      | with_reducible exact (HCT.out _ (Mem.alloc N3.out _)))
    (first
      | (go_at_call 14; with_reducible refine (HV.out _ N0.out).mono ?_; rintro e u1 ⟨rfl, nn1⟩; have N1 := hide (Mem.trans N0.out nn1))
      | (go_at_call 14; with_reducible refine (HV.out _ N1.out).mono ?_; rintro e u2 ⟨rfl, nn2⟩; have N2 := hide (Mem.trans N1.out nn2))
      | (go_at_call 14; with_reducible refine (HV.out _ N2.out).mono ?_; rintro e u3 ⟨rfl, nn3⟩; have N3 := hide (Mem.trans N2.out nn3))
      | (go_at_call 17; with_reducible refine (HC0.out _ N0.out).mono ?_; rintro e u1 ⟨rfl, nn1⟩; have N1 := hide (Mem.trans N0.out nn1))
      | (go_at_call 17; with_reducible refine (HC0.out _ N1.out).mono ?_; rintro e u2 ⟨rfl, nn2⟩; have N2 := hide (Mem.trans N1.out nn2))
      | (go_at_call 17; with_reducible refine (HC0.out _ N2.out).mono ?_; rintro e u3 ⟨rfl, nn3⟩; have N3 := hide (Mem.trans N2.out nn3))
      | (go_at_call 17; with_reducible refine (HC3.out _ N0.out).mono ?_; rintro e u1 ⟨rfl, nn1⟩; have N1 := hide (Mem.trans N0.out nn1))
      | (go_at_call 17; with_reducible refine (HC3.out _ N1.out).mono ?_; rintro e u2 ⟨rfl, nn2⟩; have N2 := hide (Mem.trans N1.out nn2))
      | (go_at_call 17; with_reducible refine (HC3.out _ N2.out).mono ?_; rintro e u3 ⟨rfl, nn3⟩; have N3 := hide (Mem.trans N2.out nn3)))
  all_goals (
    have X3 := Blk.new u3 #[.int .i64 x1, .int .i64 x2, .int .i64 x3] 3
    have ha3 : Mem u3 (u3.alloc (.cells #[.int .i64 x1, .int .i64 x2, .int .i64 x3] 3)) := (Mem.refl u3).alloc _
    have hm6 := Mem.trans N3.out ha3
    have HX : Hid (∀ k : Nat, k < 3 → ∃ x : Int, (x = -1 ∨ ∃ j : Nat, x = (j : Int) ∧ j < b3.length ∧ stateT b3 o j = 2) ∧ ∀ w', Mem (u3.alloc (.cells #[.int .i64 x1, .int .i64 x2, .int .i64 x3] 3)) w' → w'.cell? ⟨u3.heap.size, k, none⟩ = some (.int .i64 x)) := by
      intro k hk
      rcases (show k = 0 ∨ k = 1 ∨ k = 2 by omega) with rfl | rfl | rfl
      · exact ⟨x1, F1.out, fun w' m => (X3.mem m).cell (j := 0) rfl⟩
      · exact ⟨x2, F2.out, fun w' m => (X3.mem m).cell (j := 1) rfl⟩
      · exact ⟨x3, F3.out, fun w' m => (X3.mem m).cell (j := 2) rfl⟩
    go_wp2_with fail
    generalize u3.alloc (.cells #[.int .i64 x1, .int .i64 x2, .int .i64 x3] 3) = W6 at *
    generalize u3.heap.size = Bx at *
    clear X3 ha3
    go_loopw [52] (fun i wr => ∃ k : Nat, k ≤ 3 ∧ i = .int .i64 k ∧ Mem W6 wr) (fun i _ => 3 - (intOf i).toNat)
    case atStart => exact ⟨0, by omega, rfl, Mem.refl _⟩
    case round =>
      obtain ⟨k, hk, rfl, hmr⟩ := hrel
      obtain ⟨c0, c1, c2, c3⟩ := HC.out _ (hm6.trans hmr)
      by_cases hlt : k < 3
      · have hlt' : (k : Int) < 3 := by omega
        have hk0 : (0 : Int) ≤ (k : Int) := by omega
        obtain ⟨x, hx, hcx⟩ := HX.out k hlt
        have y0 := hcx _ hmr
        clear hcx
        rcases hx with rfl | ⟨j, rfl, hj, hs⟩
        · have hdm : decide ((b3.length : Int) ≤ -1) = false := decide_eq_false (by omega)
          go_wp2_with fail
          go_roundw
          case rel => exact ⟨k + 1, by omega, by go_num, hmr⟩
          case measure => simp [intOf]; omega
        · have hj0 : (0 : Int) ≤ (j : Int) := by omega
          have hj1 : (j : Int) < (b3.length : Int) := by omega
          have hdj : decide ((b3.length : Int) ≤ (j : Int)) = false := decide_eq_false (by omega)
          have hdjn : decide (b3.length ≤ j) = false := decide_eq_false (by omega)
          have hdj1 : decide ((j : Int) < -1) = false := decide_eq_false (by omega)
          have HS := hide (HRS.out j wr (hm6.trans hmr))
          rw [hs] at HS
          clear hs
          go_wp2_with fail
          refine HS.out.mono ?_
          rintro e w7 ⟨rfl, m7⟩
          go_wp2_with fail
          go_roundw
          case rel => exact ⟨k + 1, by omega, by go_num, hmr.trans m7⟩
          case measure => simp [intOf]; omega
      · have hke : k = 3 := by omega
        subst hke
        go_wp2_with fail
        go_ret
        exact ⟨rfl, hm5.trans (hm6.trans hmr)⟩)
end Go.Proofs.Ytegamnaahipedaa.Victim
