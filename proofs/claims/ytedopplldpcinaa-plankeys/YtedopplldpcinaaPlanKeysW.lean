/-
  Layer 12: the walk of PlanKeys. (By mk_plan.py.)
-/
import Derived.Test.YtedopplldpcinaaPlanCode
import Derived.Test.YtedopplldpcinaaPlanMadeAll
import Derived.Test.YtedopplldpcinaaReplayLaws
import Derived.Test.YtedopplldpcinaaLiveLawMath
import Derived.Test.YtedopplldpcinaaReplayRefAll
import Derived.Test.YtedopplldpcinaaMemLow
import Derived.Test.YtedopplldpcinaaTabsAll
import Derived.Test.YtedopplldpcinaaPlanMaths
import Derived.Test.YtedopplldpcinaaNearAll
import Derived.Deep.DeepCutAuto
import Derived.Deep.LoopGhost
namespace Go.Proofs.Ytedopplldpcinaa.Plan
open Go.RowKit Go.Proofs.Ytedopplldpcinaa.Nand Go.Proofs.Ytedopplldpcinaa.States Go.Proofs.Ytedopplldpcinaa.Live Go.Proofs.Ytedopplldpcinaa.Replay Go.Proofs.Ytedopplldpcinaa.Scan Go.Proofs.Ytedopplldpcinaa.Victim
attribute [local irreducible] applyT foldT newT fillT

set_option maxHeartbeats 40000000 in
set_option maxRecDepth 100000 in
theorem planKeys_walk (a0 : Option Addr) (len0 cap0 : Nat) (z0 : List Int) (a1 : Int) (a2 : Int) (w : World) (w0 : IsRow .u16 w a0 len0 cap0 z0) (w1 : (Lit.int .u8 a1).wf = true) (w2 : (Lit.int .u8 a2).wf = true) :
    Calls Try.prog 4 #[.slice a0 len0 cap0, .int .u8 a1, .int .u8 a2] w fun e w' => e = .returned (.bool true) ∧ Below w.heap.size w w' := by
  obtain ⟨hz, hwf0⟩ := Ints.of_row w0
  obtain ⟨hl01, hl02⟩ := row_len w0
  have HZ : Hid (∀ x ∈ z0.take len0, 0 ≤ x ∧ x ≤ 65535) := fun x h => wf_u16 (hwf0 x h)
  clear hwf0 w0
  generalize z0.take len0 = z at *
  subst hl01
  have hb1 := wf_u8 w1
  clear w1
  obtain ⟨n1, rfl⟩ := Int.eq_ofNat_of_zero_le hb1.1
  have hb2 := wf_u8 w2
  clear w2
  obtain ⟨n2, rfl⟩ := Int.eq_ofNat_of_zero_le hb2.1
  obtain ⟨mm, hmm⟩ : ∃ mm : Nat, 1 + (n1 : Int) % 64 = (mm : Int) := ⟨1 + n1 % 64, by omega⟩
  have hmm1 : mm ≤ 64 := by omega
  obtain ⟨q, hq, hq4⟩ : ∃ q : Nat, (n2 : Int) % 4 = (q : Int) ∧ q < 4 := ⟨n2 % 4, by omega, by omega⟩
  go_enter Try.func4, Try.ntmps4
  go_wp2_with fail
  refine (awake w).mono ?_
  rintro e wa ⟨rfl, ma⟩
  go_wp2_with fail
  refine (lawMade12 a0 cap0 z 4 4 _ (hz.mem ma) hl02 HZ.out (by omega) (by omega) (by omega) (by omega)).mono ?_
  rintro e w2 ⟨⟨v2, bs0, br, off, ops, rfl, hb0, kk, hkk, hI⟩, m2⟩
  have hf0 := few_inv hI.1.1 (show 4 ≤ 32 by omega) (by omega)
  have hs0 := hI.1.1.2.2
  obtain ⟨oc0, cc0, rfl⟩ := hb0.shape
  simp only [chipV]
  clear hI hkk
  go_wp2_with fail
  refine (lawNear _ _ bs0 br off ops _ hb0.to hf0 hs0).mono ?_
  rintro e w3 ⟨⟨v3, bs, rfl, hb, hL⟩, m3⟩
  have HF := hide (hL.few hf0)
  have HSZ : Hid (∀ b ∈ bs, ∀ p ∈ b.1, p.2.2.size ≤ maxLen) := hL.2
  have hm := (ma.trans m2).trans m3
  clear hf0 hs0 hb0 hL
  obtain ⟨oc, cc, rfl⟩ := hb.shape
  simp only [chipV]
  have hbl := hb.1
  unfold maxLen at hbl
  have hax : Mem w3 (w3.alloc (.cells #[.slice oc bs.length cc, .bool br, .bool off, .int .i64 ops] 26)) := (Mem.refl w3).alloc _
  have hX := Blk.new w3 #[.slice oc bs.length cc, .bool br, .bool off, .int .i64 ops] 26
  have hbX := (hb.mono (S' := fun x => x < w3.heap.size) fun g _ hl => hl).mem hax
  have hmX := hm.trans hax
  have hBw : w.heap.size ≤ w3.heap.size := hm.size
  have c0 := hX.cell (j := 0) rfl
  have c1 := hX.cell (j := 1) rfl
  have c2 := hX.cell (j := 2) rfl
  have c3 := hX.cell (j := 3) rfl
  clear hb hm
  go_wp2_with fail
  generalize hWX : w3.alloc (.cells #[.slice oc bs.length cc, .bool br, .bool off, .int .i64 ops] 26) = W at *
  clear hWX hax
  generalize w3.heap.size = Bc at *
  (try rw [hmm])
  refine (refReplay _ _ bs br off ops mm _ hbX HF.out HSZ.out).mono ?_
  rintro e w4 ⟨⟨v4, rfl, ht⟩, m4⟩
  have HSm := hide (chip_small bs mm)
  have hlt4 : (foldT (allC bs) (newT mm)).1.length ≤ 1000 ∧ (foldT (allC bs) (newT mm)).2.length ≤ 1000 := by
    have h1 := foldT_len (allC bs) (newT mm)
    have h2 := newT_len mm
    have h3 := cutN_le mm
    omega
  have hlt5 : (foldT (allC bs) (newT mm)).1.length ≤ 64 ∧ (foldT (allC bs) (newT mm)).2.length = (foldT (allC bs) (newT mm)).1.length := by
    have h1 := foldT_len (allC bs) (newT mm)
    have h2 := newT_len mm
    have h3 := cutN_le mm
    omega
  have HLT5 := hide hlt5
  clear hlt5
  generalize foldT (allC bs) (newT mm) = t at *
  generalize seqT (allC bs) 0 = sq at *
  obtain ⟨om, cm, ob, cb, rfl, i1, i2⟩ := ht
  obtain ⟨hlt1, hlt2⟩ := hlt4
  have HW := hide HSm.out.wf
  have hat : Mem w4 (w4.alloc (.cells #[.slice om t.1.length cm, .slice ob t.2.length cb] 30)) := (Mem.refl w4).alloc _
  have hT := Blk.new w4 #[.slice om t.1.length cm, .slice ob t.2.length cb] 30
  have hC5 := (hX.mem m4).mem hat
  have hb5 := ((hbX.mono (S' := fun _ => True) fun _ _ _ => trivial).mem m4).mem hat
  have hm5 := (hmX.trans m4).trans hat
  replace i1 := (i1.mono (S' := fun _ => True) fun _ _ _ => trivial).mem hat
  replace i2 := (i2.mono (S' := fun _ => True) fun _ _ _ => trivial).mem hat
  have HSM := hide HSm.out
  clear c0 c1 c2 c3 hX hbX hmX m4 HSZ HSm
  have d0 := hC5.cell (j := 0) rfl
  have d1 := hC5.cell (j := 1) rfl
  have d2 := hC5.cell (j := 2) rfl
  have d3 := hC5.cell (j := 3) rfl
  have y0 := hT.cell (j := 0) rfl
  have y1 := hT.cell (j := 1) rfl
  clear hz HZ hl02 hmm hmm1 ma m2 m3
  go_wp2_with fail
  generalize hWT : w4.alloc (.cells #[.slice om t.1.length cm, .slice ob t.2.length cb] 30) = W5 at *
  clear hWT hat
  generalize w4.heap.size = Bt at *
  have HC : Hid (∀ w', Mem W5 w' → w'.cell? ⟨Bc, 0, none⟩ = some (.slice oc bs.length cc) ∧ w'.cell? ⟨Bc, 1, none⟩ = some (.bool br) ∧ w'.cell? ⟨Bc, 2, none⟩ = some (.bool off) ∧ w'.cell? ⟨Bc, 3, none⟩ = some (.int .i64 ops)) := fun w' m => ⟨(hC5.mem m).cell (j := 0) rfl, (hC5.mem m).cell (j := 1) rfl, (hC5.mem m).cell (j := 2) rfl, (hC5.mem m).cell (j := 3) rfl⟩
  have HT : Hid (∀ w', Mem W5 w' → w'.cell? ⟨Bt, 0, none⟩ = some (.slice om t.1.length cm) ∧ w'.cell? ⟨Bt, 1, none⟩ = some (.slice ob t.2.length cb)) := fun w' m => ⟨(hT.mem m).cell (j := 0) rfl, (hT.mem m).cell (j := 1) rfl⟩
  have HB := hide (fun (w' : World) (m : Mem W5 w') => hb5.mem m)
  have HI1 := hide (fun (w' : World) (m : Mem W5 w') => i1.mem m)
  have HI2 := hide (fun (w' : World) (m : Mem W5 w') => i2.mem m)
  clear hC5 hT hb5 i1 i2 d0 d1 d2 d3 y0 y1
  obtain ⟨hl64, hl12⟩ := HLT5.out
  have HOKM := hide (moves_ok (bs := bs) (t := t) (b := (q : Int)) hl64 (by omega) HSM.out.1)
  have HLEN := moves_len (bs := bs) (t := t) (b := (q : Int)) hl64 (by omega)
  have HCNT := hide (fun (i : Nat) (hi : i < t.1.length) => count_all (bs := bs) (t := t) (b := (q : Int)) (by omega) (by omega) i hi hl12)
  clear hl12
  have HMV := hide (codeMoves _ _ bs br off ops t om ob cm cb (q : Int) _ (HB.out _ (Mem.refl _)) (HI1.out _ (Mem.refl _)) (HI2.out _ (Mem.refl _)) hlt1 hlt2 HW.out)
  (try rw [hq])
  generalize movesT bs t (q : Int) = ws at *
  refine HMV.out.mono ?_
  rintro e w6 ⟨⟨vw, rfl, hw⟩, m6⟩
  obtain ⟨ow, cw, rfl⟩ := hw.shape
  have HTT : Hid (∀ w', Mem w6 w' → w'.cell? ⟨Bt, 0, none⟩ = some (.slice om t.1.length cm) ∧ w'.cell? ⟨Bt, 1, none⟩ = some (.slice ob t.2.length cb) ∧ Ints .i64 w' (.slice om t.1.length cm) t.1 ∧ Ints .i64 w' (.slice ob t.2.length cb) t.2 ∧ WritesAt (fun _ => True) w' (.slice ow ws.length cw) ws) := fun w' m => ⟨(HT.out _ (m6.trans m)).1, (HT.out _ (m6.trans m)).2, (HI1.out _ (m6.trans m)).ints, (HI2.out _ (m6.trans m)).ints, (hw.mono fun _ _ _ => trivial).mem m⟩
  have hm6 := hm5.trans m6
  have HSM2 := HSM
  clear hm5 m6 hw HC HT HB HI1 HI2 HW HF HMV hq HSM
  obtain ⟨n, hn⟩ : ∃ n, n = t.1.length := ⟨_, rfl⟩
  have HN := hide hn
  have hn64 : n ≤ 64 := by omega
  have hkn : (n : Int) ≤ 64 := by omega
  have hkn0 : (0 : Int) ≤ (n : Int) := by omega
  rw [← hn] at HTT
  clear hn
  have hmk := run_makeInts n (by omega) w6
  have hR := made_row w6 n
  have ma : Mem w6 (w6.alloc (.cells (madeCells #[.int .i64 0] (n * 1)) 3)) := (Mem.refl w6).alloc _
  obtain ⟨t0, t1, _⟩ := HTT.out _ (Mem.refl w6)
  generalize hWW : w6.alloc (.cells (madeCells #[.int .i64 0] (n * 1)) 3) = W7 at *
  have hWs : w6.heap.size < W7.heap.size := by rw [← hWW]; simp
  go_wp2_with fail
  clear hWW hmk t0 t1
  obtain ⟨G, hG⟩ : ∃ G, G = w6.heap.size := ⟨_, rfl⟩
  have HG := hide hG
  rw [← hG] at hR hWs ⊢
  clear hG
  have hR0 : RowAt W7 G (some ⟨G, 0, none⟩) (incK n []) := hR
  clear hR
  have hBel : Below G w6 W7 := by rw [HG.out]; exact ma
  go_loopg [14] ws.length (fun g i wr => ∃ k : Nat, i = .int .i64 k ∧ g = ws.length - k ∧ k ≤ ws.length ∧ RowAt wr G (some ⟨G, 0, none⟩) (incK n (keysL (ws.take k))) ∧ Below G w6 wr ∧ G < wr.heap.size)
  case atStart => exact ⟨0, rfl, rfl, Nat.zero_le _, by simpa [keysL] using hR0, hBel, hWs⟩
  case round =>
    clear hR0 hBel hWs ma
    obtain ⟨k, rfl, rfl, hk, hR, hBel, hWs⟩ := hrel
    have hk0 : (0 : Int) ≤ (k : Int) := by omega
    have hMr : Mem w6 wr := by have := hBel; rw [HG.out] at this; exact this
    obtain ⟨t0, t1, j1, j2, hwr⟩ := HTT.out _ hMr
    by_cases hlt : k < ws.length
    · have hlt' : (k : Int) < (ws.length : Int) := by omega
      have HWR : Hid (∀ w', Mem w6 w' → ∃ g of' ok ck ov cv, ow = some ⟨g, of', none⟩ ∧ w'.cell? ⟨g, of' + k * 5 + 1, none⟩ = some (.int .i64 ws[k].2.1) ∧ w'.cell? ⟨g, of' + k * 5 + 2, none⟩ = some (.int .i64 ws[k].2.2.1) ∧ w'.cell? ⟨g, of' + k * 5 + 3, none⟩ = some (.slice ok ws[k].2.2.2.1.length ck) ∧ w'.cell? ⟨g, of' + k * 5 + 4, none⟩ = some (.slice ov ws[k].2.2.2.2.length cv) ∧ Ints .i64 w' (.slice ok ws[k].2.2.2.1.length ck) ws[k].2.2.2.1 ∧ Ints .i64 w' (.slice ov ws[k].2.2.2.2.length cv) ws[k].2.2.2.2) := by
        intro w' m
        obtain ⟨g, of', ok, ck, ov, cv, e, _, _, e1, e2, e3, e4, i1, i2⟩ := (HTT.out w' m).2.2.2.2.at hlt
        exact ⟨g, of', ok, ck, ov, cv, e, e1, e2, e3, e4, i1.ints, i2.ints⟩
      obtain ⟨h1, h2, h3⟩ := HOKM.out ws[k] (List.getElem_mem hlt)
      have HRT := hide h1
      have HKR := hide h3
      have HKT := hide (keysL_take hlt)
      have HPC := hide (fun (i : Nat) (s : Int) => pre_count hlt i s)
      clear h1 h3 hwr
      generalize ws[k] = wk at *
      obtain ⟨wd, wkd, wsq, wks, wvs⟩ := wk
      simp only [] at h2 HRT HKR HKT HPC HWR
      obtain ⟨g, of', ok, ck, ov, cv, hg, e1, e2, e3, e4, i1, i2⟩ := HWR.out _ hMr
      subst hg
      go_wp2_with fail
      refine (Tag.refRight wkd wsq _ _ wks wvs _ i1 i2).mono ?_
      rw [HRT.out]
      rintro e w7 ⟨rfl, m7⟩
      have hR7 := hR.mem m7
      have hBel7 : Below G w6 w7 := Below.trans hBel (Below.mono m7 (Nat.le_of_lt hWs))
      have hWs7 : G < w7.heap.size := Nat.lt_of_lt_of_le hWs m7.size
      have hR8 : RowAt w7 G (some ⟨G, 0, none⟩) (incK n (keysL (ws.take k) ++ wks.take 0)) := by simpa using hR7
      obtain ⟨_, _, _, _, _, _, hg7, d1, d2, d3, d4, _, _⟩ := HWR.out _ (by have := hBel7; rw [HG.out] at this; exact this)
      injection hg7 with hg7
      injection hg7 with hg7 ho7 _
      subst hg7 ho7
      clear e1 e2 e3 e4 i1 i2 hR hBel hWs hMr t0 t1 j1 j2 m7 hR7
      go_wp2_with fail
      clear d1 d2 d3 d4
      go_loopg [15] wks.length (fun gg i wq => ∃ i' : Nat, i = .int .i64 i' ∧ gg = wks.length - i' ∧ i' ≤ wks.length ∧ RowAt wq G (some ⟨G, 0, none⟩) (incK n (keysL (ws.take k) ++ wks.take i')) ∧ Below G w6 wq ∧ G < wq.heap.size)
      case atStart => exact ⟨0, rfl, rfl, Nat.zero_le _, hR8, hBel7, hWs7⟩
      case round =>
        clear hR8 hBel7 hWs7
        obtain ⟨i, rfl, rfl, hi, hR, hBel, hWs⟩ := hrel
        have hi0 : (0 : Int) ≤ (i : Int) := by omega
        have hMr : Mem w6 wr := by have := hBel; rw [HG.out] at this; exact this
        obtain ⟨g2, of2, ok2, ck2, ov2, cv2, hg2, e1, e2, e3, e4, i1, i2⟩ := HWR.out _ hMr
        injection hg2 with hg2
        injection hg2 with hg2 ho2 _
        subst hg2 ho2
        clear e1 e2 e4 i2
        by_cases hli : i < wks.length
        · have hli' : (i : Int) < (wks.length : Int) := by omega
          obtain ⟨kb, ko, rfl, hc⟩ := i1.at (by omega)
          have kc := hc i hli
          have hkr := HKR.out (wks.getD i 0) (by rw [List.getD_eq_getElem?_getD, List.getElem?_eq_getElem hli]; exact List.getElem_mem hli)
          have HSN : Hid (wks.take i ++ [wks.getD i 0] = wks.take (i + 1)) := by
            show _ = _
            rw [List.take_succ_eq_append_getElem hli, List.getD_eq_getElem?_getD, List.getElem?_eq_getElem hli]
            rfl
          generalize wks.getD i 0 = kx at *
          obtain ⟨s, rfl⟩ := Int.eq_ofNat_of_zero_le hkr.1
          have hsn : s < n := by have h1 := hkr.2; have h2 := HN.out; omega
          have hsn' : (s : Int) < (n : Int) := by omega
          have hs0 : (0 : Int) ≤ (s : Int) := by omega
          have hlenR := incK_len n (keysL (ws.take k) ++ wks.take i)
          have c0 := hR.cell (k := s) (by omega)
          have f0 := hR.frozen (by omega) s
          have hR2 := hR.set s ((incK n (keysL (ws.take k) ++ wks.take i)).getD s 0 + 1)
          rw [incK_snoc, List.append_assoc, HSN.out] at hR2
          have hnn : ∀ z ∈ keysL (ws.take k) ++ wks.take i, 0 ≤ z := by
            intro z hz
            rcases List.mem_append.1 hz with hz | hz
            · obtain ⟨wx, hwx, hzx⟩ := List.mem_flatMap.1 hz
              exact ((HOKM.out wx (List.mem_of_mem_take hwx)).2.2 z hzx).1
            · exact (HKR.out z (List.mem_of_mem_take hz)).1
          have hcv := incK_count n _ hnn s hsn
          have hp1 := HPC.out i (s : Int)
          have hp2 := HCNT.out s (by have h2 := HN.out; omega)
          have hcx : 0 ≤ (incK n (keysL (ws.take k) ++ wks.take i)).getD s 0 ∧ (incK n (keysL (ws.take k) ++ wks.take i)).getD s 0 ≤ 1 := by
            rw [hcv]
            split at hp2 <;> omega
          clear hcv hp1 hp2 hlenR hnn hc hkr hR
          generalize (incK n (keysL (ws.take k) ++ wks.take i)).getD s 0 = cx at *
          obtain ⟨hcx0, hcx1⟩ := hcx
          have hB2 : Below G w6 (wr.setCell ⟨G, s, none⟩ (.int .i64 (cx + 1))) := Below.setCell hBel (p := ⟨G, s, none⟩) (Nat.le_refl _) _
          have hS2 : G < (wr.setCell ⟨G, s, none⟩ (.int .i64 (cx + 1))).heap.size := by rw [size_setCell]; exact hWs
          clear hBel
          go_wp2_with fail
          go_roundg (wks.length - (i + 1))
          case measure => omega
          case rel => exact ⟨i + 1, by go_num, rfl, by omega, hR2, hB2, hS2⟩
        · have hie : i = wks.length := by omega
          have hli' : ¬ ((i : Int) < (wks.length : Int)) := by omega
          rw [hie, List.take_length, ← HKT.out] at hR
          have HRR := hide hR
          clear hR hie i1
          go_wp2_with fail
          go_roundg (ws.length - (k + 1))
          case measure => omega
          case rel => exact ⟨k + 1, by go_num, rfl, by omega, HRR.out, hBel, hWs⟩
    · have hke : k = ws.length := by omega
      have hlt' : ¬ ((k : Int) < (ws.length : Int)) := by omega
      rw [hke, List.take_length] at hR
      have HRR := hide hR
      have hnn : Hid (∀ z ∈ keysL ws, 0 ≤ z) := by
        intro z hz
        obtain ⟨wx, hwx, hzx⟩ := List.mem_flatMap.1 hz
        exact ((HOKM.out wx hwx).2.2 z hzx).1
      clear hR hke hwr
      go_wp2_with fail
      go_loop [17] (fun i => ∃ s : Nat, s ≤ n ∧ i = .int .i64 s) (fun i => n - (intOf i).toNat)
      case atStart => exact ⟨0, Nat.zero_le _, rfl⟩
      case round =>
        obtain ⟨s, hs, rfl⟩ := hrel
        have hs0 : (0 : Int) ≤ (s : Int) := by omega
        by_cases hsl : s < n
        · have hsl' : (s : Int) < (n : Int) := by omega
          have hst : s < t.1.length := by have := HN.out; omega
          have hst2 : s < t.2.length := by have := HLT5.out.2; omega
          obtain ⟨mb, mo, rfl, hcm⟩ := j1.at (by omega)
          obtain ⟨nb, no, rfl, hcn⟩ := j2.at (by omega)
          have x1 := hcm s hst
          have x2 := hcn s hst2
          have z1s : smallZ (t.1.getD s 0) := HSM2.out.1 _ (by rw [List.getD_eq_getElem?_getD, List.getElem?_eq_getElem hst]; exact List.getElem_mem hst)
          have z2s : smallZ (t.2.getD s 0) := HSM2.out.2 _ (by rw [List.getD_eq_getElem?_getD, List.getElem?_eq_getElem hst2]; exact List.getElem_mem hst2)
          unfold smallZ at z1s z2s
          have c0 := HRR.out.cell (k := s) (by rw [incK_len]; exact hsl)
          have HV0 : Hid ((incK n (keysL ws)).getD s 0 = if inB q (t.1.getD s 0) = true ∨ inB q (t.2.getD s 0) = true then 1 else 0) := by
            show _ = _
            rw [incK_count n _ hnn.out s hsl, HCNT.out s hst]
            split <;> rfl
          generalize (incK n (keysL ws)).getD s 0 = cs at *
          generalize t.1.getD s 0 = z1 at *
          generalize t.2.getD s 0 = z2 at *
          obtain ⟨z1a, z1b⟩ := z1s
          obtain ⟨z2a, z2b⟩ := z2s
          have hst2' : (s : Int) < (t.2.length : Int) := by omega
          clear hcm hcn hst
          by_cases a1 : 0 ≤ z1
          · have ha1 : decide (0 ≤ z1) = true := decide_eq_true a1
            by_cases a2 : z1 / 16 = (q : Int)
            · have ha2 : (z1 / 16 == (q : Int)) = true := by rw [beq_iff_eq]; exact a2
              have hcv : cs = 1 := by rw [HV0.out]; exact if_pos (.inl (inB_yes a1 a2))
              subst hcv
              clear HV0
              go_wp2_with fail
              go_round
              case rel => exact ⟨s + 1, by omega, by go_num⟩
              case measure => simp [intOf]; omega
            · have ha2 : (z1 / 16 == (q : Int)) = false := by rw [beq_eq_false_iff_ne]; exact a2
              by_cases b1 : 0 ≤ z2
              · have hb1 : decide (0 ≤ z2) = true := decide_eq_true b1
                by_cases b2 : z2 / 16 = (q : Int)
                · have hb2 : (z2 / 16 == (q : Int)) = true := by rw [beq_iff_eq]; exact b2
                  have hcv : cs = 1 := by rw [HV0.out]; exact if_pos (.inr (inB_yes b1 b2))
                  subst hcv
                  clear HV0
                  go_wp2_with fail
                  go_round
                  case rel => exact ⟨s + 1, by omega, by go_num⟩
                  case measure => simp [intOf]; omega
                · have hb2 : (z2 / 16 == (q : Int)) = false := by rw [beq_eq_false_iff_ne]; exact b2
                  have hcv : cs = 0 := by rw [HV0.out]; exact if_neg (by rw [inB_no (fun h => a2 h.2), inB_no (fun h => b2 h.2)]; simp)
                  subst hcv
                  clear HV0
                  go_wp2_with fail
                  go_round
                  case rel => exact ⟨s + 1, by omega, by go_num⟩
                  case measure => simp [intOf]; omega
              · have hb1 : decide (0 ≤ z2) = false := decide_eq_false b1
                have hb1n : z2 < 0 := by omega
                have hcv : cs = 0 := by rw [HV0.out]; exact if_neg (by rw [inB_no (fun h => a2 h.2), inB_no (fun h => b1 h.1)]; simp)
                subst hcv
                clear HV0
                go_wp2_with fail
                go_round
                case rel => exact ⟨s + 1, by omega, by go_num⟩
                case measure => simp [intOf]; omega
          · have ha1 : decide (0 ≤ z1) = false := decide_eq_false a1
            have ha1n : z1 < 0 := by omega
            by_cases b1 : 0 ≤ z2
            · have hb1 : decide (0 ≤ z2) = true := decide_eq_true b1
              by_cases b2 : z2 / 16 = (q : Int)
              · have hb2 : (z2 / 16 == (q : Int)) = true := by rw [beq_iff_eq]; exact b2
                have hcv : cs = 1 := by rw [HV0.out]; exact if_pos (.inr (inB_yes b1 b2))
                subst hcv
                clear HV0
                go_wp2_with fail
                go_round
                case rel => exact ⟨s + 1, by omega, by go_num⟩
                case measure => simp [intOf]; omega
              · have hb2 : (z2 / 16 == (q : Int)) = false := by rw [beq_eq_false_iff_ne]; exact b2
                have hcv : cs = 0 := by rw [HV0.out]; exact if_neg (by rw [inB_no (fun h => a1 h.1), inB_no (fun h => b2 h.2)]; simp)
                subst hcv
                clear HV0
                go_wp2_with fail
                go_round
                case rel => exact ⟨s + 1, by omega, by go_num⟩
                case measure => simp [intOf]; omega
            · have hb1 : decide (0 ≤ z2) = false := decide_eq_false b1
              have hb1n : z2 < 0 := by omega
              have hcv : cs = 0 := by rw [HV0.out]; exact if_neg (by rw [inB_no (fun h => a1 h.1), inB_no (fun h => b1 h.1)]; simp)
              subst hcv
              clear HV0
              go_wp2_with fail
              go_round
              case rel => exact ⟨s + 1, by omega, by go_num⟩
              case measure => simp [intOf]; omega
        · have hse : s = n := by omega
          subst hse
          have hsl' : ¬ ((s : Int) < (s : Int)) := by omega
          go_wp2_with fail
          go_ret
          exact ⟨rfl, hm6.trans hMr⟩
end Go.Proofs.Ytedopplldpcinaa.Plan
