/-
  Layer 11: the walk of VictimMade. (By mk_victim.py.)
-/
import Derived.Test.YtegamnaahipedaaVictimCode
import Derived.Test.YtegamnaahipedaaVictimWorn
import Derived.Test.YtegamnaahipedaaVictimLawMath
import Derived.Test.YtegamnaahipedaaVictimMadeC
import Derived.Test.YtegamnaahipedaaStatesLawMath
import Derived.Test.YtegamnaahipedaaLiveLawMath
import Derived.Test.YtegamnaahipedaaReplayRefFold
import Derived.Test.YtegamnaahipedaaMemLow
namespace Go.Proofs.Ytegamnaahipedaa.Victim
open Go.RowKit Go.Proofs.Ytegamnaahipedaa.Nand Go.Proofs.Ytegamnaahipedaa.States Go.Proofs.Ytegamnaahipedaa.Live Go.Proofs.Ytegamnaahipedaa.Replay Go.Proofs.Ytegamnaahipedaa.Scan
attribute [local irreducible] applyT foldT newT

set_option maxHeartbeats 8000000 in
set_option maxRecDepth 100000 in
theorem victimMade_walk (a0 : Option Addr) (len0 cap0 : Nat) (z0 : List Int) (a1 : Option Addr) (len1 cap1 : Nat) (z1 : List Int) (a2 : Int) (a3 : Int) (a4 : Int) (w : World) (w0 : IsRow .u16 w a0 len0 cap0 z0) (w1 : IsRow .u8 w a1 len1 cap1 z1) (w2 : (Lit.int .u8 a2).wf = true) (w3 : (Lit.int .u8 a3).wf = true) (w4 : (Lit.int .u8 a4).wf = true) :
    Calls Try.prog 4 #[.slice a0 len0 cap0, .slice a1 len1 cap1, .int .u8 a2, .int .u8 a3, .int .u8 a4] w fun e w' => e = .returned (.bool true) ∧ Below w.heap.size w w' := by
  obtain ⟨hz, hwf0⟩ := Ints.of_row w0
  obtain ⟨hl01, hl02⟩ := row_len w0
  have HZ : Hid (∀ x ∈ z0.take len0, 0 ≤ x ∧ x ≤ 65535) := fun x h => wf_u16 (hwf0 x h)
  clear hwf0 w0
  generalize z0.take len0 = z at *
  subst hl01
  obtain ⟨hz1', hwf1⟩ := Ints.of_row w1
  obtain ⟨hl11, hl12⟩ := row_len w1
  have HZ1 : Hid (∀ x ∈ z1.take len1, 0 ≤ x ∧ x ≤ 255) := fun x h => wf_u8 (hwf1 x h)
  clear hwf1 w1
  generalize z1.take len1 = z1' at *
  subst hl11
  have hb2 := wf_u8 w2
  clear w2
  obtain ⟨n2, rfl⟩ := Int.eq_ofNat_of_zero_le hb2.1
  have hb3 := wf_u8 w3
  clear w3
  obtain ⟨n3, rfl⟩ := Int.eq_ofNat_of_zero_le hb3.1
  have hb4 := wf_u8 w4
  clear w4
  obtain ⟨n4, rfl⟩ := Int.eq_ofNat_of_zero_le hb4.1
  obtain ⟨N, hN⟩ : ∃ N : Nat, 1 + (n3 : Int) % 6 = (N : Int) := ⟨1 + n3 % 6, by omega⟩
  have hN1 : 1 ≤ N ∧ N ≤ 6 := by omega
  obtain ⟨mm, hmm⟩ : ∃ mm : Nat, 1 + (n3 : Int) % 64 = (mm : Int) := ⟨1 + n3 % 64, by omega⟩
  have hmm1 : mm ≤ 64 := by omega
  obtain ⟨q, hq, hq8⟩ : ∃ q : Nat, (n2 : Int) % 8 = (q : Int) ∧ q < 8 := ⟨n2 % 8, by omega, by omega⟩
  obtain ⟨r, hr, hr10⟩ : ∃ r : Nat, (n4 : Int) % 10 = (r : Int) ∧ r < 10 := ⟨n4 % 10, by omega, by omega⟩
  go_enter Try.func4, Try.ntmps4
  go_wp2_with fail
  (try rw [hN])
  refine (lawMade11 a0 cap0 z N 4 _ hz hl02 HZ.out hN1.1 (by omega) (by omega) (by omega)).mono ?_
  rintro e w2 ⟨⟨v2, bs, br, off, ops, rfl, hb, kk, hkk, hI, hNX⟩, m2⟩
  have HNX := hide hNX
  clear hNX
  have hl6 : 1 ≤ bs.length ∧ bs.length ≤ 6 := by
    have hl0 : bs.length = N := dims_len hI.1.1
    omega
  obtain rfl : off = false := hI.2.1
  have HF := hide (few_inv hI.1 (show N ≤ 32 by omega) (by omega))
  have HSZ : Hid (∀ b ∈ bs, ∀ p ∈ b.1, p.2.2.size ≤ maxLen) := hI.1.2.2
  have HER : Hid (∀ b ∈ bs, 0 ≤ b.2.2.1 ∧ b.2.2.1 ≤ 1099511627776) := fun b hb' => by have := hI.2.2 b hb'; omega
  have HD4 : Hid (∀ k, k < bs.length → (blkT bs k).1.length = 4) := fun k hk => by have := dims_get hI.1.1 hk; rw [blk_at hk] at this; exact this
  have hm := m2
  obtain ⟨oc, cc, rfl⟩ := hb.shape
  simp only [chipV]
  go_wp2_with fail
  refine (lawWorn _ _ bs br false ops a1 cap1 z1' _ hb HF.out (by omega) (hz1'.mem hm) HZ1.out).mono ?_
  rintro e w3 ⟨⟨v3, rfl, hb3⟩, m3⟩
  have hm3 := hm.trans m3
  have HF3 := hide (worn_few (zs := z1') (k := min bs.length z1'.length) HF.out)
  have HSZ3 := hide (worn_sized (zs := z1') (k := min bs.length z1'.length) HSZ.out)
  have HER3 := hide (worn_ers (zs := z1') (k := min bs.length z1'.length) HER.out)
  have hlen3 := worn_len bs z1' (min bs.length z1'.length)
  clear hI HF HSZ HER HD4 hb hm m2 m3 hz hz1' HZ HZ1 hl02 hl12 hN
  generalize wornN bs z1' (min bs.length z1'.length) = b3 at *
  rw [← hlen3] at hl6
  clear hlen3 hN1 hkk
  obtain ⟨oc, cc, rfl⟩ := hb3.shape
  simp only [chipV]
  have hax : Mem w3 (w3.alloc (.cells #[.slice oc b3.length cc, .bool br, .bool false, .int .i64 ops] 24)) := (Mem.refl w3).alloc _
  have hX := Blk.new w3 #[.slice oc b3.length cc, .bool br, .bool false, .int .i64 ops] 24
  have hbX := (hb3.mono (S' := fun x => x < w3.heap.size) fun g _ hl => hl).mem hax
  have hmX := hm3.trans hax
  have hBw : w.heap.size ≤ w3.heap.size := hm3.size
  have c0 := hX.cell (j := 0) rfl
  have c1 := hX.cell (j := 1) rfl
  have c2 := hX.cell (j := 2) rfl
  have c3 := hX.cell (j := 3) rfl
  clear hb3 hm3
  go_wp2_with fail
  generalize hWX : w3.alloc (.cells #[.slice oc b3.length cc, .bool br, .bool false, .int .i64 ops] 24) = W at *
  clear hWX hax
  generalize w3.heap.size = Bc at *
  (try rw [hmm])
  refine (refReplay _ _ b3 br false ops mm _ hbX HF3.out HSZ3.out).mono ?_
  rintro e w4 ⟨⟨v4, rfl, ht⟩, m4⟩
  have HSm := hide (chip_small b3 mm)
  have hlt4 : (foldT (allC b3) (newT mm)).1.length ≤ 1000 ∧ (foldT (allC b3) (newT mm)).2.length ≤ 1000 := by
    have h1 := foldT_len (allC b3) (newT mm)
    have h2 := newT_len mm
    have h3 := cutN_le mm
    omega
  generalize foldT (allC b3) (newT mm) = t at *
  generalize seqT (allC b3) 0 = sq at *
  obtain ⟨om, cm, ob, cb, rfl, i1, i2⟩ := ht
  obtain ⟨hlt1, hlt2⟩ := hlt4
  have HW := hide HSm.out.wf
  have hat : Mem w4 (w4.alloc (.cells #[.slice om t.1.length cm, .slice ob t.2.length cb] 27)) := (Mem.refl w4).alloc _
  have hT := Blk.new w4 #[.slice om t.1.length cm, .slice ob t.2.length cb] 27
  have hC5 := (hX.mem m4).mem hat
  have hb5 := (hbX.mem m4).mem hat
  have hm5 := (hmX.trans m4).trans hat
  replace i1 := i1.ints.mem hat
  replace i2 := i2.ints.mem hat
  clear c0 c1 c2 c3 hX hbX hmX m4 HSZ3 HSm
  have d0 := hC5.cell (j := 0) rfl
  have d1 := hC5.cell (j := 1) rfl
  have d2 := hC5.cell (j := 2) rfl
  have d3 := hC5.cell (j := 3) rfl
  have y0 := hT.cell (j := 0) rfl
  have y1 := hT.cell (j := 1) rfl
  go_wp2_with fail
  generalize hWT : w4.alloc (.cells #[.slice om t.1.length cm, .slice ob t.2.length cb] 27) = W5 at *
  clear hWT hat
  generalize w4.heap.size = Bt at *
  have HC : Hid (∀ w', Mem W5 w' → w'.cell? ⟨Bc, 0, none⟩ = some (.slice oc b3.length cc) ∧ w'.cell? ⟨Bc, 1, none⟩ = some (.bool br) ∧ w'.cell? ⟨Bc, 2, none⟩ = some (.bool false) ∧ w'.cell? ⟨Bc, 3, none⟩ = some (.int .i64 ops)) := fun w' m => ⟨(hC5.mem m).cell (j := 0) rfl, (hC5.mem m).cell (j := 1) rfl, (hC5.mem m).cell (j := 2) rfl, (hC5.mem m).cell (j := 3) rfl⟩
  have HT : Hid (∀ w', Mem W5 w' → w'.cell? ⟨Bt, 0, none⟩ = some (.slice om t.1.length cm) ∧ w'.cell? ⟨Bt, 1, none⟩ = some (.slice ob t.2.length cb)) := fun w' m => ⟨(hT.mem m).cell (j := 0) rfl, (hT.mem m).cell (j := 1) rfl⟩
  have HB := hide (fun (w' : World) (m : Mem W5 w') => hb5.mem m)
  have HI1 := hide (fun (w' : World) (m : Mem W5 w') => i1.mem m)
  have HI2 := hide (fun (w' : World) (m : Mem W5 w') => i2.mem m)
  clear hC5 hT hb5 i1 i2 d0 d1 d2 d3 y0 y1
  refine (awake _).mono ?_
  rintro e wa ⟨rfl, ma⟩
  obtain ⟨c0, c1, c2, c3⟩ := HC.out _ ma
  obtain ⟨t0, t1⟩ := HT.out _ ma
  have HS := hide (fun o most => same _ _ b3 br false ops t om ob cm cb o most _ (HB.out _ ma) (by omega) (HI1.out _ ma) (HI2.out _ ma) hlt1 hlt2 HW.out HER3.out)
  go_wp2_with fail
  (try rw [hq, hr])
  refine (HS.out _ _).mono ?_
  rintro e w6 ⟨rfl, m6⟩
  go_wp2_with fail
  go_ret
  exact ⟨rfl, (hm5.trans ma).trans m6⟩
end Go.Proofs.Ytegamnaahipedaa.Victim
