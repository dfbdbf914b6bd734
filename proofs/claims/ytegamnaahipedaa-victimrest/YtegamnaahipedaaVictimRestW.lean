/-
  Layer 11: the walk of VictimRest. (By mk_victim.py.)
-/
import Derived.Test.YtegamnaahipedaaVictimCode
import Derived.Test.YtegamnaahipedaaVictimWorn
import Derived.Test.YtegamnaahipedaaVictimLawMath
import Derived.Test.YtegamnaahipedaaVictimMadeC
import Derived.Test.YtegamnaahipedaaStatesLawMath
import Derived.Test.YtegamnaahipedaaLiveLawMath
import Derived.Test.YtegamnaahipedaaReplayRefFold
import Derived.Test.YtegamnaahipedaaMemLow
namespace Go.Proofs.Ytegamnaahipedaa.Victim
open Go.RowKit Go.Proofs.Ytegamnaahipedaa.Nand Go.Proofs.Ytegamnaahipedaa.States Go.Proofs.Ytegamnaahipedaa.Live Go.Proofs.Ytegamnaahipedaa.Replay Go.Proofs.Ytegamnaahipedaa.Scan
attribute [local irreducible] applyT foldT newT

set_option maxHeartbeats 8000000 in
set_option maxRecDepth 100000 in
theorem victimRest_walk (a0 : Option Addr) (len0 cap0 : Nat) (z0 : List Int) (a1 : Int) (a2 : Int) (w : World) (w0 : IsRow .u16 w a0 len0 cap0 z0) (w1 : (Lit.int .u8 a1).wf = true) (w2 : (Lit.int .u8 a2).wf = true) :
    Calls Try.prog 7 #[.slice a0 len0 cap0, .int .u8 a1, .int .u8 a2] w fun e w' => e = .returned (.bool true) ∧ Below w.heap.size w w' := by
  obtain ⟨hz, hwf0⟩ := Ints.of_row w0
  obtain ⟨hl01, hl02⟩ := row_len w0
  have HZ : Hid (∀ x ∈ z0.take len0, 0 ≤ x ∧ x ≤ 65535) := fun x h => wf_u16 (hwf0 x h)
  clear hwf0 w0
  generalize z0.take len0 = z at *
  subst hl01
  have hb1 := wf_u8 w1
  clear w1
  obtain ⟨n1, rfl⟩ := Int.eq_ofNat_of_zero_le hb1.1
  have hb2 := wf_u8 w2
  clear w2
  obtain ⟨n2, rfl⟩ := Int.eq_ofNat_of_zero_le hb2.1
  obtain ⟨N, hN⟩ : ∃ N : Nat, 1 + (n1 : Int) % 6 = (N : Int) := ⟨1 + n1 % 6, by omega⟩
  have hN1 : 1 ≤ N ∧ N ≤ 6 := by omega
  go_enter Try.func7, Try.ntmps7
  go_wp2_with fail
  refine (awake w).mono ?_
  rintro e wa ⟨rfl, ma⟩
  go_wp2_with fail
  (try rw [hN])
  refine (lawMade11 a0 cap0 z N 4 _ (hz.mem ma) hl02 HZ.out hN1.1 (by omega) (by omega) (by omega)).mono ?_
  rintro e w2 ⟨⟨v2, bs, br, off, ops, rfl, hb, kk, hkk, hI, hNX⟩, m2⟩
  have HNX := hide hNX
  clear hNX
  have hl6 : 1 ≤ bs.length ∧ bs.length ≤ 6 := by
    have hl0 : bs.length = N := dims_len hI.1.1
    omega
  obtain rfl : off = false := hI.2.1
  have HF := hide (few_inv hI.1 (show N ≤ 32 by omega) (by omega))
  have HSZ : Hid (∀ b ∈ bs, ∀ p ∈ b.1, p.2.2.size ≤ maxLen) := hI.1.2.2
  have HER : Hid (∀ b ∈ bs, 0 ≤ b.2.2.1 ∧ b.2.2.1 ≤ 1099511627776) := fun b hb' => by have := hI.2.2 b hb'; omega
  have HD4 : Hid (∀ k, k < bs.length → (blkT bs k).1.length = 4) := fun k hk => by have := dims_get hI.1.1 hk; rw [blk_at hk] at this; exact this
  have hm := ma.trans m2
  obtain ⟨oc, cc, rfl⟩ := hb.shape
  simp only [chipV]
  clear hz HZ hl02 hN hI m2 ma hkk hN1
  obtain ⟨k, hkv, hkl⟩ : ∃ k : Nat, (n2 : Int) % (bs.length : Int) = (k : Int) ∧ k < bs.length := ⟨n2 % bs.length, by omega, Nat.mod_lt _ (by omega)⟩
  have hne : ¬ ((bs.length : Int) = 0) := by omega
  have hne2 : ¬ (bs.length = 0) := by omega
  have htm : (n2 : Int).tmod (bs.length : Int) = (k : Int) := by rw [Int.tmod_eq_emod_of_nonneg (by omega)]; exact hkv
  have hax : Mem w2 (w2.alloc (.cells #[.slice oc bs.length cc, .bool br, .bool false, .int .i64 ops] 24)) := (Mem.refl w2).alloc _
  have hX := Blk.new w2 #[.slice oc bs.length cc, .bool br, .bool false, .int .i64 ops] 24
  have hbX := (hb.mono (S' := fun x => x < w2.heap.size) fun g _ hl => hl).mem hax
  have hmX := hm.trans hax
  have hBw : w.heap.size ≤ w2.heap.size := hm.size
  have c0 := hX.cell (j := 0) rfl
  have c1 := hX.cell (j := 1) rfl
  have c2 := hX.cell (j := 2) rfl
  have c3 := hX.cell (j := 3) rfl
  clear hb hm
  go_wp2_with fail
  generalize hWX : w2.alloc (.cells #[.slice oc bs.length cc, .bool br, .bool false, .int .i64 ops] 24) = W at *
  clear hWX hax
  generalize w2.heap.size = Bc at *
  (try rw [hkv])
  clear hkv htm
  refine (codeRest _ _ bs br false ops k _ hbX (by omega)).mono ?_
  rintro e w4 ⟨rfl, m4⟩
  have hX4 := hX.mem m4
  have hb4 := (hbX.mem m4).mono (S' := fun x => x ≠ Bc) (fun g hg _ => Nat.ne_of_lt hg)
  have hm4 := hmX.trans m4
  have HL4 := hide (HD4.out k hkl)
  obtain ⟨hx0, hx1⟩ := HNX.out (bs[k]) (List.getElem_mem hkl)
  rw [blk_at hkl] at hx0 hx1
  rw [HL4.out] at hx1
  obtain ⟨g, f, op, cp, rfl, _, x0, x1, _, x3, _⟩ := hb4.at hkl
  rw [blk_at hkl] at x0 x1 x3
  have c0' := hX4.cell (j := 0) rfl
  have hk0 : (0 : Int) ≤ (k : Int) := by omega
  have hk1 : (k : Int) < (bs.length : Int) := by omega
  clear c0 c1 c2 c3 hX hbX hmX m4 HNX HD4 HSZ HER hne hne2
  cases hbd : (blkT bs k).2.2.2 with
  | true =>
    have HE : Hid (restT bs k = 0) := by show _ = _; unfold restT; rw [if_neg (fun h => by have := ((state_open hkl).1 h).1; rw [hbd] at this; cases this)]
    rw [hbd] at x3
    rw [HE.out]
    clear hbd hx0 hx1
    go_wp2_with fail
    refine wp_loop_rounds 1 ?_
    rw [rounds_succ]
    go_wp2_with fail
    go_ret
    exact ⟨rfl, hm4⟩
  | false =>
    obtain ⟨nn, hnn⟩ := Int.eq_ofNat_of_zero_le hx0
    have hn4 : nn ≤ 4 := by omega
    have HR0 : Hid (RestI bs.length k ((nn : Nat) : Int) bs) := ⟨rfl, HF.out, hbd, HL4.out, hnn⟩
    have HE := hide (rest_is hkl HR0.out (by omega) (by omega))
    obtain ⟨mn, hmn⟩ : ∃ mn : Nat, (4 : Int) - (nn : Int) = (mn : Int) := ⟨4 - nn, by omega⟩
    rw [HE.out, hmn]
    rw [hnn] at x1
    rw [hbd] at x3
    have hmn4 : mn ≤ 4 := by omega
    have HSum : Hid ((nn : Int) + (mn : Int) = 4) := by show _ = _; omega
    have hd0 : decide ((mn : Int) < 0) = false := decide_eq_false (by omega)
    have hd4 : decide (4 < (mn : Int)) = false := decide_eq_false (by omega)
    have hd4n : decide (4 < mn) = false := decide_eq_false (by omega)
    have hcase : (mn = 0 ∧ nn = 4) ∨ (mn ≠ 0) := by omega
    clear hmn hnn hbd hx0 hx1 HE
    rcases hcase with ⟨rfl, rfl⟩ | hmne
    · clear HR0 HSum
      go_wp2_with fail
      refine wp_loop_rounds 1 ?_
      rw [rounds_succ]
      go_wp2_with fail
      go_ret
      exact ⟨rfl, hm4⟩
    · have hbe : ((mn : Int) == 0) = false := by rw [beq_eq_false_iff_ne]; omega
      have hbe2 : (mn == 0) = false := by rw [beq_eq_false_iff_ne]; exact hmne
      obtain ⟨L, hL⟩ : ∃ L, bs.length = L := ⟨_, rfl⟩
      have hb4' := hide hb4
      have hX4' := hide hX4
      go_wp2_with fail
      clear x0 x1 x3 c0' hb4 hX4
      rw [hL] at HR0 hX4' hkl hk1 hl6
      have hk4 : (k : Int) * 4 + 1 ≤ 10000 := by omega
      go_loopw [11] (fun ii wr => ∃ (i : Nat) (bi : List BlockT) (oi : Option Addr) (ci : Nat) (opi : Int), i ≤ mn ∧ ii = .int .i64 i ∧ Blk wr Bc 24 #[.slice oi L ci, .bool br, .bool false, .int .i64 opi] ∧ BlocksAt (fun x => x ≠ Bc) wr (.slice oi L ci) bi ∧ RestI L k ((nn : Int) + (i : Int)) bi ∧ Mem w wr) (fun ii _ => mn - (intOf ii).toNat)
      case atStart => exact ⟨0, bs, _, _, _, Nat.zero_le _, rfl, hX4'.out, by rw [← hL]; exact hb4'.out, by simpa using HR0.out, hm4⟩
      case round =>
        clear hm4 hX4' HR0
        obtain ⟨i, bi, oi, ci, opi, hi, rfl, hXr, hbr, hRi, hmr⟩ := hrel
        have c0 := hXr.cell (j := 0) rfl
        have c1 := hXr.cell (j := 1) rfl
        have c2 := hXr.cell (j := 2) rfl
        have c3 := hXr.cell (j := 3) rfl
        by_cases hlt : i < mn
        · have hlt' : (i : Int) < (mn : Int) := by omega
          have hi0 : (0 : Int) ≤ (i : Int) := by omega
          obtain ⟨bj, hpr, hRj⟩ := rest_next (br := br) (ops := opi) hkl hRi (by omega) (by have := HSum.out; omega)
          have hLi := hRi.1
          obtain ⟨gi, fi, pi, qi, rfl, hgne, -, y1, -, -, -⟩ := hbr.at (i := k) (by omega)
          rw [blk_at (by omega), hRi.2.2.2.2] at y1
          have HP0 := hide (fun (w' : World) (m : Mem wr w') => refProgram _ (.slice (some ⟨gi, fi, none⟩) L ci) bi br false opi (k : Int) ((nn : Int) + (i : Int)) zeroPage fate0 w' (hbr.mem m) hRi.2.1)
          rw [hpr] at HP0
          have HP : Hid (∀ w' : World, Mem wr w' → Calls Try.prog 19 #[.agg #[.slice (some ⟨gi, fi, none⟩) L ci, .bool br, .bool false, .int .i64 opi], .int .i64 k, .int .i64 ((nn : Int) + (i : Int)), .agg #[.bool false, .string ⟨#[]⟩, .string ⟨#[]⟩], .agg #[.int .i64 0, .string ⟨#[]⟩, .string ⟨#[]⟩, .int .i64 0]] w' fun e w'' => (∃ oj cj, e = .returned (.tuple #[.agg #[.slice oj L cj, .bool br, .bool false, .int .i64 (wrap64 (opi + 1))], .int .i64 0]) ∧ BlocksAt (fun x => w'.heap.size ≤ x) w'' (.slice oj L cj) bj) ∧ Mem w' w'') := by
            intro w' m
            refine (HP0.out w' m).mono ?_
            rintro e w'' ⟨⟨v, rfl, hO⟩, m'⟩
            have hlj : bj.length ≤ maxLen := by have := hRj.2.1.1; unfold maxLen; omega
            have hbb := hO.blocks hlj
            obtain ⟨oj, cj, rfl⟩ := hbb.shape
            have hLj : bj.length = L := hRj.1
            rw [hLj] at hbb
            exact ⟨⟨oj, cj, by rw [hLj], hbb⟩, m'⟩
          have HRj := hide hRj
          have HPx : Hid (∀ w' : World, Mem wr w' → (fun w' => w'.cell? ⟨Bc, 0, none⟩ = some (.slice (some ⟨gi, fi, none⟩) L ci) ∧ w'.cell? ⟨Bc, 1, none⟩ = some (.bool br) ∧ w'.cell? ⟨Bc, 2, none⟩ = some (.bool false) ∧ w'.cell? ⟨Bc, 3, none⟩ = some (.int .i64 opi) ∧ w'.cell? ⟨gi, fi + k * 4 + 1, none⟩ = some (.int .i64 ((nn : Int) + (i : Int)))) w') := fun w' m => ⟨(hXr.mem m).cell (j := 0) rfl, (hXr.mem m).cell (j := 1) rfl, (hXr.mem m).cell (j := 2) rfl, (hXr.mem m).cell (j := 3) rfl, (Below.cell m (p := ⟨gi, fi + k * 4 + 1, none⟩) (World.block_lt_of_cell? wr _ y1)).trans y1⟩
          have hBcl := hXr.lt
          clear hpr hRj HP0 hRi hLi hbr hb4'
          have N0 := hide (Mem.drew (Mem.refl wr))
          go_wp2_with fail
          go_region_held3 (fun w' => w'.cell? ⟨Bc, 0, none⟩ = some (.slice (some ⟨gi, fi, none⟩) L ci) ∧ w'.cell? ⟨Bc, 1, none⟩ = some (.bool br) ∧ w'.cell? ⟨Bc, 2, none⟩ = some (.bool false) ∧ w'.cell? ⟨Bc, 3, none⟩ = some (.int .i64 opi) ∧ w'.cell? ⟨gi, fi + k * 4 + 1, none⟩ = some (.int .i64 ((nn : Int) + (i : Int))))
            (first
              | with_reducible exact (HPx.out _ N0.out)
              | with_reducible exact (HPx.out _ N1.out)
              | with_reducible exact (HPx.out _ (Mem.drew (Mem.alloc (Mem.refl _) _)))
              | with_reducible exact (HPx.out _ (Mem.alloc N1.out _))
              | exact (HPx.out _ (Mem.put4 N1.out (Nat.le_refl _) _ _ _ _)))
            (first
              | (go_at_call 19; with_reducible refine (HP.out _ N0.out).mono ?_; rintro e u1 ⟨⟨oj, cj, rfl, hbj⟩, nn1⟩; have N1 := hide (Mem.trans N0.out nn1))
              | (go_at_call 19; with_reducible refine (HP.out _ (Mem.drew (Mem.alloc (Mem.refl _) _))).mono ?_; rintro e u1 ⟨⟨oj, cj, rfl, hbj⟩, nn1⟩; have N1 := hide (Mem.trans (Mem.drew (Mem.alloc (Mem.refl _) _)) nn1); have hD := ((Blk.new wr #[.slice none 0 0, .bool false, .bool false, .int .i64 0] 24).drew).mem nn1; have q0 := hD.cell (j := 0) rfl; have q1 := hD.cell (j := 1) rfl; have q2 := hD.cell (j := 2) rfl; have q3 := hD.cell (j := 3) rfl; have r0 := hD.frozen 0; have r1 := hD.frozen 1; have r2 := hD.frozen 2; have r3 := hD.frozen 3))
          · obtain ⟨W9, D, hW9, hD9⟩ : ∃ W9 D, u1.alloc (.cells #[.slice oj L cj, .bool br, .bool false, .int .i64 (wrap64 (opi + 1))] 24) = W9 ∧ u1.heap.size = D := ⟨_, _, rfl, rfl⟩
            have hY := Blk.new u1 #[.slice oj L cj, .bool br, .bool false, .int .i64 (wrap64 (opi + 1))] 24
            have mY : Mem wr (u1.alloc (.cells #[.slice oj L cj, .bool br, .bool false, .int .i64 (wrap64 (opi + 1))] 24)) := Mem.alloc N1.out _
            have hbY := (hbj.mono (S' := fun x => x ≠ Bc) (fun x hx _ => by have hx' : wr.heap.size ≤ x := hx; omega)).mem ((Mem.refl u1).alloc (.cells #[.slice oj L cj, .bool br, .bool false, .int .i64 (wrap64 (opi + 1))] 24))
            have hDne : D ≠ Bc := by have := N1.out.size; omega
            rw [hW9, hD9] at hY
            rw [hW9] at mY hbY ⊢
            (try rw [hD9])
            clear hW9 hD9 hbj HP HPx N0 N1 nn1
            have q0 := hY.cell (j := 0) rfl
            have q1 := hY.cell (j := 1) rfl
            have q2 := hY.cell (j := 2) rfl
            have q3 := hY.cell (j := 3) rfl
            have HV : Hid (restT bj k = (mn : Int) - (i : Int) - 1) := by
              show _ = _
              rw [rest_is hkl HRj.out (by omega) (by have := HSum.out; omega)]
              have := HSum.out
              omega
            have hRs := hide (codeRest _ _ bj br false (wrap64 (opi + 1)) k _ hbY (by have := HRj.out.1; omega))
            have hmr2 := hmr.trans mY
            have hXr2 := hXr.mem mY
            clear c0 c1 c2 c3
            go_wp2_with fail
            refine hRs.out.mono ?_
            rintro e w9 ⟨rfl, m9⟩
            rw [HV.out]
            have hY9 := hY.mem m9
            have hX9 := hXr2.mem m9
            have hb9 := hbY.mem m9
            have hm9 := hmr2.trans m9
            clear q0 q1 q2 q3 hY hXr2 hbY hmr2 hRs HV m9 mY
            have q0 := hY9.cell (j := 0) rfl
            have q1 := hY9.cell (j := 1) rfl
            have q2 := hY9.cell (j := 2) rfl
            have q3 := hY9.cell (j := 3) rfl
            have c0 := hX9.cell (j := 0) rfl
            have c1 := hX9.cell (j := 1) rfl
            have c2 := hX9.cell (j := 2) rfl
            have c3 := hX9.cell (j := 3) rfl
            have r0 := hX9.frozen 0
            have r1 := hX9.frozen 1
            have r2 := hX9.frozen 2
            have r3 := hX9.frozen 3
            have hX10 := hide (hX9.put4 (.slice oj L cj) (.bool br) (.bool false) (.int .i64 (wrap64 (opi + 1))))
            have hb10 := hide (hb9.put4 (b := Bc) (fun h => h rfl) (.slice oj L cj) (.bool br) (.bool false) (.int .i64 (wrap64 (opi + 1))))
            have hm10 := hide (hm9.put4 hBw (.slice oj L cj) (.bool br) (.bool false) (.int .i64 (wrap64 (opi + 1))))
            clear hX9 hb9 hm9
            go_wp2_with fail
            go_roundw
            case rel => exact ⟨i + 1, bj, _, _, _, by omega, by go_num, hX10.out, hb10.out, by rw [show ((nn : Int) + ((i + 1 : Nat) : Int)) = (nn : Int) + (i : Int) + 1 by omega]; exact HRj.out, hm10.out⟩
            case measure => simp [intOf]; omega
          · obtain ⟨D, hD9⟩ : ∃ D, wr.heap.size = D := ⟨_, rfl⟩
            have hY := hD.put4 (.slice oj L cj) (.bool br) (.bool false) (.int .i64 (wrap64 (opi + 1)))
            have mY := Mem.put4 N1.out (Nat.le_refl wr.heap.size) (.slice oj L cj) (.bool br) (.bool false) (.int .i64 (wrap64 (opi + 1)))
            have hbY := (hbj.put4 (b := wr.heap.size) (fun hx => by have hx' : wr.heap.size + 1 ≤ wr.heap.size := (by simpa using hx); omega) (.slice oj L cj) (.bool br) (.bool false) (.int .i64 (wrap64 (opi + 1)))).mono (S' := fun x => x ≠ Bc) (fun x hx _ => by have hx' : wr.heap.size + 1 ≤ x := (by simpa using hx); omega)
            have hDne : D ≠ Bc := by omega
            rw [hD9] at hY hbY mY ⊢
            obtain ⟨W9, hW9⟩ : ∃ W9, (((u1.setCell ⟨D, 0, none⟩ (.slice oj L cj)).setCell ⟨D, 1, none⟩ (.bool br)).setCell ⟨D, 2, none⟩ (.bool false)).setCell ⟨D, 3, none⟩ (.int .i64 (wrap64 (opi + 1))) = W9 := ⟨_, rfl⟩
            rw [hW9] at hY hbY mY ⊢
            clear hW9 hD9 hbj HP HPx N0 N1 nn1 hD q0 q1 q2 q3 r0 r1 r2 r3
            have q0 := hY.cell (j := 0) rfl
            have q1 := hY.cell (j := 1) rfl
            have q2 := hY.cell (j := 2) rfl
            have q3 := hY.cell (j := 3) rfl
            have HV : Hid (restT bj k = (mn : Int) - (i : Int) - 1) := by
              show _ = _
              rw [rest_is hkl HRj.out (by omega) (by have := HSum.out; omega)]
              have := HSum.out
              omega
            have hRs := hide (codeRest _ _ bj br false (wrap64 (opi + 1)) k _ hbY (by have := HRj.out.1; omega))
            have hmr2 := hmr.trans mY
            have hXr2 := hXr.mem mY
            clear c0 c1 c2 c3
            go_wp2_with fail
            refine hRs.out.mono ?_
            rintro e w9 ⟨rfl, m9⟩
            rw [HV.out]
            have hY9 := hY.mem m9
            have hX9 := hXr2.mem m9
            have hb9 := hbY.mem m9
            have hm9 := hmr2.trans m9
            clear q0 q1 q2 q3 hY hXr2 hbY hmr2 hRs HV m9 mY
            have q0 := hY9.cell (j := 0) rfl
            have q1 := hY9.cell (j := 1) rfl
            have q2 := hY9.cell (j := 2) rfl
            have q3 := hY9.cell (j := 3) rfl
            have c0 := hX9.cell (j := 0) rfl
            have c1 := hX9.cell (j := 1) rfl
            have c2 := hX9.cell (j := 2) rfl
            have c3 := hX9.cell (j := 3) rfl
            have r0 := hX9.frozen 0
            have r1 := hX9.frozen 1
            have r2 := hX9.frozen 2
            have r3 := hX9.frozen 3
            have hX10 := hide (hX9.put4 (.slice oj L cj) (.bool br) (.bool false) (.int .i64 (wrap64 (opi + 1))))
            have hb10 := hide (hb9.put4 (b := Bc) (fun h => h rfl) (.slice oj L cj) (.bool br) (.bool false) (.int .i64 (wrap64 (opi + 1))))
            have hm10 := hide (hm9.put4 hBw (.slice oj L cj) (.bool br) (.bool false) (.int .i64 (wrap64 (opi + 1))))
            clear hX9 hb9 hm9
            go_wp2_with fail
            go_roundw
            case rel => exact ⟨i + 1, bj, _, _, _, by omega, by go_num, hX10.out, hb10.out, by rw [show ((nn : Int) + ((i + 1 : Nat) : Int)) = (nn : Int) + (i : Int) + 1 by omega]; exact HRj.out, hm10.out⟩
            case measure => simp [intOf]; omega
        · have hle : (mn : Int) ≤ (i : Int) := by omega
          go_wp2_with fail
          go_ret
          exact ⟨rfl, hmr⟩
end Go.Proofs.Ytegamnaahipedaa.Victim
