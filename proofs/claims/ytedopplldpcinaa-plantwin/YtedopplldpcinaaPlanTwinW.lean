/-
  Layer 12: the walk of PlanTwin. (By mk_plan.py.)
-/
import Derived.Test.YtedopplldpcinaaPlanCode
import Derived.Test.YtedopplldpcinaaPlanMadeAll
import Derived.Test.YtedopplldpcinaaReplayLaws
import Derived.Test.YtedopplldpcinaaLiveLawMath
import Derived.Test.YtedopplldpcinaaReplayRefAll
import Derived.Test.YtedopplldpcinaaMemLow
import Derived.Test.YtedopplldpcinaaTabsAll
import Derived.Test.YtedopplldpcinaaPlanMaths
import Derived.Deep.DeepCutAuto
import Derived.Deep.LoopGhost
namespace Go.Proofs.Ytedopplldpcinaa.Plan
open Go.RowKit Go.Proofs.Ytedopplldpcinaa.Nand Go.Proofs.Ytedopplldpcinaa.States Go.Proofs.Ytedopplldpcinaa.Live Go.Proofs.Ytedopplldpcinaa.Replay Go.Proofs.Ytedopplldpcinaa.Scan Go.Proofs.Ytedopplldpcinaa.Victim
attribute [local irreducible] applyT foldT newT fillT

set_option maxHeartbeats 40000000 in
set_option maxRecDepth 100000 in
theorem planTwin_walk (a0 : Option Addr) (len0 cap0 : Nat) (z0 : List Int) (a1 : Int) (a2 : Int) (w : World) (w0 : IsRow .u16 w a0 len0 cap0 z0) (w1 : (Lit.int .u8 a1).wf = true) (w2 : (Lit.int .u8 a2).wf = true) :
    Calls Try.prog 3 #[.slice a0 len0 cap0, .int .u8 a1, .int .u8 a2] w fun e w' => e = .returned (.bool true) ∧ Below w.heap.size w w' := by
  obtain ⟨hz, hwf0⟩ := Ints.of_row w0
  obtain ⟨hl01, hl02⟩ := row_len w0
  have HZ : Hid (∀ x ∈ z0.take len0, 0 ≤ x ∧ x ≤ 65535) := fun x h => wf_u16 (hwf0 x h)
  clear hwf0 w0
  generalize z0.take len0 = z at *
  subst hl01
  have hb1 := wf_u8 w1
  clear w1
  obtain ⟨n1, rfl⟩ := Int.eq_ofNat_of_zero_le hb1.1
  have hb2 := wf_u8 w2
  clear w2
  obtain ⟨n2, rfl⟩ := Int.eq_ofNat_of_zero_le hb2.1
  obtain ⟨mm, hmm⟩ : ∃ mm : Nat, 1 + (n1 : Int) % 64 = (mm : Int) := ⟨1 + n1 % 64, by omega⟩
  have hmm1 : mm ≤ 64 := by omega
  obtain ⟨q, hq⟩ : ∃ q : Nat, (n2 : Int) % 4 = (q : Int) := ⟨n2 % 4, by omega⟩
  have hq4 : q < 4 := by omega
  go_enter Try.func3, Try.ntmps3
  go_wp2_with fail
  refine (awake w).mono ?_
  rintro e wa ⟨rfl, ma⟩
  go_wp2_with fail
  (try rw [hN])
  refine (lawFilled a0 cap0 z 4 4 _ (hz.mem ma) hl02 HZ.out (by omega) (by omega) (by omega) (by omega)).mono ?_
  rintro e w2 ⟨⟨v2, bs0, br, off, ops, rfl, hb, kk, hkk, hI⟩, m2⟩
  have HF := hide (fillT_few (few_inv hI.1.1 (show 4 ≤ 32 by omega) (by omega)))
  have HSZ := hide (fillT_sized (n := maxLen) hI.1.1.2.2)
  have HDS : Hid (DataS (fillT bs0)) := fillT_data (by decide) hI.2.2
  clear hI hkk
  generalize fillT bs0 = bs at *
  have hm := ma.trans m2
  obtain ⟨oc, cc, rfl⟩ := hb.shape
  simp only [chipV]
  have hbl := hb.1
  unfold maxLen at hbl
  have hax : Mem w2 (w2.alloc (.cells #[.slice oc bs.length cc, .bool br, .bool off, .int .i64 ops] 26)) := (Mem.refl w2).alloc _
  have hX := Blk.new w2 #[.slice oc bs.length cc, .bool br, .bool off, .int .i64 ops] 26
  have hbX := (hb.mono (S' := fun x => x < w2.heap.size) fun g _ hl => hl).mem hax
  have hmX := hm.trans hax
  have hBw : w.heap.size ≤ w2.heap.size := hm.size
  have c0 := hX.cell (j := 0) rfl
  have c1 := hX.cell (j := 1) rfl
  have c2 := hX.cell (j := 2) rfl
  have c3 := hX.cell (j := 3) rfl
  clear hb hm
  go_wp2_with fail
  generalize hWX : w2.alloc (.cells #[.slice oc bs.length cc, .bool br, .bool off, .int .i64 ops] 26) = W at *
  clear hWX hax
  generalize w2.heap.size = Bc at *
  (try rw [hmm])
  refine (refReplay _ _ bs br off ops mm _ hbX HF.out HSZ.out).mono ?_
  rintro e w4 ⟨⟨v4, rfl, ht⟩, m4⟩
  have HSm := hide (chip_small bs mm)
  have hlt4 : (foldT (allC bs) (newT mm)).1.length ≤ 1000 ∧ (foldT (allC bs) (newT mm)).2.length ≤ 1000 := by
    have h1 := foldT_len (allC bs) (newT mm)
    have h2 := newT_len mm
    have h3 := cutN_le mm
    omega
  generalize foldT (allC bs) (newT mm) = t at *
  generalize seqT (allC bs) 0 = sq at *
  obtain ⟨om, cm, ob, cb, rfl, i1, i2⟩ := ht
  obtain ⟨hlt1, hlt2⟩ := hlt4
  have HW := hide HSm.out.wf
  have hat : Mem w4 (w4.alloc (.cells #[.slice om t.1.length cm, .slice ob t.2.length cb] 30)) := (Mem.refl w4).alloc _
  have hT := Blk.new w4 #[.slice om t.1.length cm, .slice ob t.2.length cb] 30
  have hC5 := (hX.mem m4).mem hat
  have hb5 := ((hbX.mono (S' := fun _ => True) fun _ _ _ => trivial).mem m4).mem hat
  have hm5 := (hmX.trans m4).trans hat
  replace i1 := (i1.mono (S' := fun _ => True) fun _ _ _ => trivial).mem hat
  replace i2 := (i2.mono (S' := fun _ => True) fun _ _ _ => trivial).mem hat
  clear c0 c1 c2 c3 hX hbX hmX m4 HSZ HSm
  have d0 := hC5.cell (j := 0) rfl
  have d1 := hC5.cell (j := 1) rfl
  have d2 := hC5.cell (j := 2) rfl
  have d3 := hC5.cell (j := 3) rfl
  have y0 := hT.cell (j := 0) rfl
  have y1 := hT.cell (j := 1) rfl
  clear hz HZ hl02 hmm hmm1 ma m2
  have hqd : q < ([.string ⟨#[100]⟩, .string ⟨#[101]⟩, .string ⟨#[]⟩, .string ⟨#[120]⟩] : List Value).length := hq4
  have hLd : ([.string ⟨#[100]⟩, .string ⟨#[101]⟩, .string ⟨#[]⟩, .string ⟨#[120]⟩] : List Value)[q]'hqd = .string (dT q) := dT_get q hqd
  have hq0 : (0 : Int) ≤ (q : Int) := by omega
  have hq3 : (q : Int) < 4 := by omega
  go_upto_region 6 with fail
  generalize hWT : w4.alloc (.cells #[.slice om t.1.length cm, .slice ob t.2.length cb] 30) = W5 at *
  clear hWT hat
  generalize w4.heap.size = Bt at *
  have HC : Hid (∀ w', Mem W5 w' → w'.cell? ⟨Bc, 0, none⟩ = some (.slice oc bs.length cc) ∧ w'.cell? ⟨Bc, 1, none⟩ = some (.bool br) ∧ w'.cell? ⟨Bc, 2, none⟩ = some (.bool off) ∧ w'.cell? ⟨Bc, 3, none⟩ = some (.int .i64 ops)) := fun w' m => ⟨(hC5.mem m).cell (j := 0) rfl, (hC5.mem m).cell (j := 1) rfl, (hC5.mem m).cell (j := 2) rfl, (hC5.mem m).cell (j := 3) rfl⟩
  have HT : Hid (∀ w', Mem W5 w' → w'.cell? ⟨Bt, 0, none⟩ = some (.slice om t.1.length cm) ∧ w'.cell? ⟨Bt, 1, none⟩ = some (.slice ob t.2.length cb)) := fun w' m => ⟨(hT.mem m).cell (j := 0) rfl, (hT.mem m).cell (j := 1) rfl⟩
  have HB := hide (fun (w' : World) (m : Mem W5 w') => hb5.mem m)
  have HI1 := hide (fun (w' : World) (m : Mem W5 w') => i1.mem m)
  have HI2 := hide (fun (w' : World) (m : Mem W5 w') => i2.mem m)
  clear hC5 hT hb5 i1 i2 d0 d1 d2 d3 y0 y1
  have mb : Mem W5 (W5.alloc (.cells #[.string ⟨#[100]⟩, .string ⟨#[101]⟩, .string ⟨#[]⟩, .string ⟨#[120]⟩] 9)) := (Mem.refl W5).alloc _
  obtain ⟨c0, c1, c2, c3⟩ := HC.out _ mb
  obtain ⟨t0, t1⟩ := HT.out _ mb
  have HH0 := hide (fun s (w' : World) (m : Mem W5 w') => codeHas _ _ bs br off ops t om ob cm cb s w' (HB.out _ m) (HI1.out _ m).ints (HI2.out _ m).ints hlt1 hlt2 HW.out)
  have HP0 := hide (fun z (w' : World) (m : Mem W5 w') hz => refPage _ _ bs br off ops z w' (HB.out _ m) hz)
  have HO0 := hide (fun z (w' : World) (m : Mem W5 w') => refOwners t om ob cm cb z w' (HI1.out _ m).ints hlt1)
  go_wp2_with fail
  clear c0 c1 c2 c3 t0 t1 hq hLd hqd hq0 hq3 hq4
  have hdq : (dT q).size ≤ maxLen := by unfold dT; split <;> decide
  generalize dT q = d at *
  refine (codeTwin _ _ bs br off ops t om ob cm cb d _ (HB.out _ mb) (HI1.out _ mb).ints (HI2.out _ mb).ints hlt1 hlt2 HW.out HDS.out hdq).mono ?_
  rintro e w6 ⟨rfl, m6⟩
  have hm6 := mb.trans m6
  clear mb m6
  by_cases hneg : twinT bs t d < 0
  · have hd : decide (twinT bs t d < 0) = true := decide_eq_true hneg
    have HNO := hide (fun i hi => twin_none hneg i hi)
    clear hneg
    generalize twinT bs t d = tw at *
    obtain ⟨t0, t1⟩ := HT.out _ hm6
    go_wp2_with fail
    clear t0 t1
    go_loopw [13] (fun i wr => ∃ s : Nat, s ≤ t.1.length ∧ i = .int .i64 s ∧ Mem W5 wr) (fun i _ => t.1.length - (intOf i).toNat)
    case atStart => exact ⟨0, Nat.zero_le _, rfl, hm6⟩
    case round =>
      clear hm6
      obtain ⟨s, hs, rfl, hmr⟩ := hrel
      have hs0 : (0 : Int) ≤ (s : Int) := by omega
      obtain ⟨c0, c1, c2, c3⟩ := HC.out _ hmr
      obtain ⟨t0, t1⟩ := HT.out _ hmr
      by_cases hlt : s < t.1.length
      · have hlt' : (s : Int) < (t.1.length : Int) := by omega
        have HN := hide (HNO.out s hlt)
        have HHI := hide (has_in (bs := bs) hlt)
        obtain ⟨zb, zo, rfl, hzc⟩ := (HI1.out _ hmr).ints.at (by omega)
        have z0 := hzc s hlt
        have hzw := HW.out.1 (t.1.getD s 0) (by rw [List.getD_eq_getElem?_getD, List.getElem?_eq_getElem hlt]; exact List.getElem_mem hlt)
        unfold wfZ at hzw
        clear hzc HNO
        have HHs := hide (fun (w' : World) (m : Mem W5 w') => HH0.out (s : Int) w' m)
        rw [HHI.out] at HHs
        generalize t.1.getD s 0 = z at *
        have HO := hide (fun (w' : World) (m : Mem wr w') => HO0.out z w' (hmr.trans m))
        have HP := hide (fun (w' : World) (m : Mem wr w') => HP0.out z w' (hmr.trans m) hzw.2)
        have HH := hide (fun (w' : World) (m : Mem wr w') => HHs.out w' (hmr.trans m))
        clear HH0 HP0 HO0 HHs HHI
        have hwl := which_len t.1 z
        generalize which t.1 z = wl at *
        generalize pageC bs z = pc at *
        obtain ⟨⟨pw, pd, pt⟩, pb⟩ := pc
        simp only [] at HN
        have HKZ0 : Hid (∀ w', Mem wr w' → w'.cell? ⟨Bc, 0, none⟩ = some (.slice oc bs.length cc) ∧ w'.cell? ⟨Bc, 1, none⟩ = some (.bool br) ∧ w'.cell? ⟨Bc, 2, none⟩ = some (.bool off) ∧ w'.cell? ⟨Bc, 3, none⟩ = some (.int .i64 ops) ∧ w'.cell? ⟨Bt, 0, none⟩ = some (.slice (some ⟨zb, zo, none⟩) t.1.length cm) ∧ w'.cell? ⟨Bt, 1, none⟩ = some (.slice ob t.2.length cb) ∧ w'.cell? ⟨zb, zo + s, none⟩ = some (.int .i64 z)) := fun w' m => by
          obtain ⟨e0, e1, e2, e3⟩ := HC.out w' (hmr.trans m)
          obtain ⟨e4, e5⟩ := HT.out w' (hmr.trans m)
          exact ⟨e0, e1, e2, e3, e4, e5, (Below.cell m (p := ⟨zb, zo + s, none⟩) (World.block_lt_of_cell? wr _ z0)).trans z0⟩
        have N0 := hide (Mem.drew (Mem.refl wr))
        go_wp2_with fail
        go_region_held3 (fun w' => w'.cell? ⟨Bc, 0, none⟩ = some (.slice oc bs.length cc) ∧ w'.cell? ⟨Bc, 1, none⟩ = some (.bool br) ∧ w'.cell? ⟨Bc, 2, none⟩ = some (.bool off) ∧ w'.cell? ⟨Bc, 3, none⟩ = some (.int .i64 ops) ∧ w'.cell? ⟨Bt, 0, none⟩ = some (.slice (some ⟨zb, zo, none⟩) t.1.length cm) ∧ w'.cell? ⟨Bt, 1, none⟩ = some (.slice ob t.2.length cb) ∧ w'.cell? ⟨zb, zo + s, none⟩ = some (.int .i64 z))
          (first
            | with_reducible exact (HKZ0.out _ N0.out)
            | with_reducible exact (HKZ0.out _ N1.out)
            | with_reducible exact (HKZ0.out _ (Mem.drew (Mem.alloc (Mem.refl _) _)))
            | with_reducible exact (HKZ0.out _ (Mem.alloc N1.out _))
            | exact (HKZ0.out _ (Mem.put3 N1.out (Nat.le_refl _) _ _ _)))
          (first
            | (go_at_call 9; with_reducible refine (HP.out _ N0.out).mono ?_; rintro e u1 ⟨rfl, nn1⟩; have N1 := hide (Mem.trans N0.out nn1))
            | (go_at_call 9; with_reducible refine (HP.out _ (Mem.drew (Mem.alloc (Mem.refl _) _))).mono ?_; rintro e u1 ⟨rfl, nn1⟩; have N1 := hide (Mem.trans (Mem.drew (Mem.alloc (Mem.refl _) _)) nn1); have hD := ((Blk.new wr #[.bool false, .string ⟨#[]⟩, .string ⟨#[]⟩] 36).drew).mem nn1; have q0 := hD.cell (j := 0) rfl; have q1 := hD.cell (j := 1) rfl; have q2 := hD.cell (j := 2) rfl; have r0 := hD.frozen 0; have r1 := hD.frozen 1; have r2 := hD.frozen 2))
        all_goals (first
          | (have N2 := Mem.put3 (b := wr.heap.size) N1.out (Nat.le_refl _) (.bool pw) (.string pd) (.string pt)
             clear N1 hD q0 q1 q2 r0 r1 r2
             generalize hux : ((u1.setCell ⟨wr.heap.size, 0, none⟩ (.bool pw)).setCell ⟨wr.heap.size, 1, none⟩ (.string pd)).setCell ⟨wr.heap.size, 2, none⟩ (.string pt) = ux at *
             generalize wr.heap.size = BY at *
             clear hux)
          | (have N2 := Mem.alloc N1.out (.cells #[.bool pw, .string pd, .string pt] 36)
             clear N1
             generalize hux : u1.alloc (.cells #[.bool pw, .string pd, .string pt] 36) = ux at *
             generalize u1.heap.size = BY at *
             clear hux))
        all_goals (
          have HKZ := HKZ0
          have NX := hide N2
          have NA := hide (Mem.drew N2)
          clear N2 N0 HKZ0 c0 c1 c2 c3 t0 t1 z0 HP
          cases pb with
          | false =>
            clear HN HH HO
            go_wp2_with fail
            refine wp_region_held_drew (S := (fun w' => w'.cell? ⟨Bc, 0, none⟩ = some (.slice oc bs.length cc) ∧ w'.cell? ⟨Bc, 1, none⟩ = some (.bool br) ∧ w'.cell? ⟨Bc, 2, none⟩ = some (.bool off) ∧ w'.cell? ⟨Bc, 3, none⟩ = some (.int .i64 ops) ∧ w'.cell? ⟨Bt, 0, none⟩ = some (.slice (some ⟨zb, zo, none⟩) t.1.length cm) ∧ w'.cell? ⟨Bt, 1, none⟩ = some (.slice ob t.2.length cb) ∧ w'.cell? ⟨zb, zo + s, none⟩ = some (.int .i64 z))) (by kernel_rfl) (HKZ.out _ NA.out) (fun hHeld => ?_)
            refine takeH_at (i := 0) (d := 62) (v := ?_) rfl (by kernel_rfl) (by kernel_rfl) (by kernel_rfl) (fun _ _ _ h => h) rfl (Or.inl ⟨by rfl, ?hy⟩) (by assumption) ?_
            case hy => (intro w hSw; (try dsimp only at hSw); (go_simp <;> with_reducible rfl))
            simp only [List.setIfInBounds_toArray, List.set_cons_zero, List.set_cons_succ]
            refine takeH_at (i := 1) (d := 63) (v := ?_) rfl (by kernel_rfl) (by kernel_rfl) (by kernel_rfl) (fun _ _ _ h => h) rfl (Or.inl ⟨by rfl, ?hy⟩) (by assumption) ?_
            case hy => (intro w hSw; (try dsimp only at hSw); (go_simp <;> with_reducible rfl))
            simp only [List.setIfInBounds_toArray, List.set_cons_zero, List.set_cons_succ]
            refine takeH_at (i := 2) (d := 64) (v := undef) rfl (by kernel_rfl) (by kernel_rfl) (by kernel_rfl) (fun _ _ _ h => h) rfl (Or.inr ⟨by rfl, rfl⟩) (by assumption) ?_
            simp only [List.setIfInBounds_toArray, List.set_cons_zero, List.set_cons_succ]
            refine takeH_at (i := 3) (d := 65) (v := undef) rfl (by kernel_rfl) (by kernel_rfl) (by kernel_rfl) (fun _ _ _ h => h) rfl (Or.inr ⟨by rfl, rfl⟩) (by assumption) ?_
            simp only [List.setIfInBounds_toArray, List.set_cons_zero, List.set_cons_succ]
            refine takeH_at (i := 4) (d := 66) (v := undef) rfl (by kernel_rfl) (by kernel_rfl) (by kernel_rfl) (fun _ _ _ h => h) rfl (Or.inr ⟨by rfl, rfl⟩) (by assumption) ?_
            simp only [List.setIfInBounds_toArray, List.set_cons_zero, List.set_cons_succ]
            refine takeH_at (i := 5) (d := 67) (v := undef) rfl (by kernel_rfl) (by kernel_rfl) (by kernel_rfl) (fun _ _ _ h => h) rfl (Or.inr ⟨by rfl, rfl⟩) (by assumption) ?_
            simp only [List.setIfInBounds_toArray, List.set_cons_zero, List.set_cons_succ]
            refine takeH_at (i := 6) (d := 68) (v := undef) rfl (by kernel_rfl) (by kernel_rfl) (by kernel_rfl) (fun _ _ _ h => h) rfl (Or.inr ⟨by rfl, rfl⟩) (by assumption) ?_
            simp only [List.setIfInBounds_toArray, List.set_cons_zero, List.set_cons_succ]
            refine takeH_at (i := 7) (d := 69) (v := undef) rfl (by kernel_rfl) (by kernel_rfl) (by kernel_rfl) (fun _ _ _ h => h) rfl (Or.inr ⟨by rfl, rfl⟩) (by assumption) ?_
            simp only [List.setIfInBounds_toArray, List.set_cons_zero, List.set_cons_succ]
            refine takeH_at (i := 8) (d := 70) (v := ?_) rfl (by kernel_rfl) (by kernel_rfl) (by kernel_rfl) (fun _ _ _ h => h) rfl (Or.inl ⟨by rfl, ?hy⟩) (by assumption) ?_
            case hy => (intro w hSw; (try dsimp only at hSw); (go_simp <;> with_reducible rfl))
            simp only [List.setIfInBounds_toArray, List.set_cons_zero, List.set_cons_succ]
            refine takeH_at (i := 9) (d := 71) (v := ?_) rfl (by kernel_rfl) (by kernel_rfl) (by kernel_rfl) (fun _ _ _ h => h) rfl (Or.inl ⟨by rfl, ?hy⟩) (by assumption) ?_
            case hy => (intro w hSw; (try dsimp only at hSw); (go_simp <;> with_reducible rfl))
            simp only [List.setIfInBounds_toArray, List.set_cons_zero, List.set_cons_succ]
            refine takeH_at (i := 10) (d := 72) (v := undef) rfl (by kernel_rfl) (by kernel_rfl) (by kernel_rfl) (fun _ _ _ h => h) rfl (Or.inr ⟨by rfl, rfl⟩) (by assumption) ?_
            simp only [List.setIfInBounds_toArray, List.set_cons_zero, List.set_cons_succ]
            refine takeH_at (i := 11) (d := 73) (v := undef) rfl (by kernel_rfl) (by kernel_rfl) (by kernel_rfl) (fun _ _ _ h => h) rfl (Or.inr ⟨by rfl, rfl⟩) (by assumption) ?_
            simp only [List.setIfInBounds_toArray, List.set_cons_zero, List.set_cons_succ]
            refine takeH_at (i := 12) (d := 74) (v := undef) rfl (by kernel_rfl) (by kernel_rfl) (by kernel_rfl) (fun _ _ _ h => h) rfl (Or.inr ⟨by rfl, rfl⟩) (by assumption) ?_
            simp only [List.setIfInBounds_toArray, List.set_cons_zero, List.set_cons_succ]
            refine takeH_at (i := 13) (d := 75) (v := undef) rfl (by kernel_rfl) (by kernel_rfl) (by kernel_rfl) (fun _ _ _ h => h) rfl (Or.inr ⟨by rfl, rfl⟩) (by assumption) ?_
            simp only [List.setIfInBounds_toArray, List.set_cons_zero, List.set_cons_succ]
            refine takeH_at (i := 14) (d := 76) (v := undef) rfl (by kernel_rfl) (by kernel_rfl) (by kernel_rfl) (fun _ _ _ h => h) rfl (Or.inr ⟨by rfl, rfl⟩) (by assumption) ?_
            simp only [List.setIfInBounds_toArray, List.set_cons_zero, List.set_cons_succ]
            refine takeH_at (i := 15) (d := 77) (v := undef) rfl (by kernel_rfl) (by kernel_rfl) (by kernel_rfl) (fun _ _ _ h => h) rfl (Or.inr ⟨by rfl, rfl⟩) (by assumption) ?_
            simp only [List.setIfInBounds_toArray, List.set_cons_zero, List.set_cons_succ]
            refine takeH_at (i := 16) (d := 78) (v := undef) rfl (by kernel_rfl) (by kernel_rfl) (by kernel_rfl) (fun _ _ _ h => h) rfl (Or.inr ⟨by rfl, rfl⟩) (by assumption) ?_
            simp only [List.setIfInBounds_toArray, List.set_cons_zero, List.set_cons_succ]
            refine takeH_at (i := 17) (d := 79) (v := undef) rfl (by kernel_rfl) (by kernel_rfl) (by kernel_rfl) (fun _ _ _ h => h) rfl (Or.inr ⟨by rfl, rfl⟩) (by assumption) ?_
            simp only [List.setIfInBounds_toArray, List.set_cons_zero, List.set_cons_succ]
            refine takeH_at (i := 18) (d := 80) (v := undef) rfl (by kernel_rfl) (by kernel_rfl) (by kernel_rfl) (fun _ _ _ h => h) rfl (Or.inr ⟨by rfl, rfl⟩) (by assumption) ?_
            simp only [List.setIfInBounds_toArray, List.set_cons_zero, List.set_cons_succ]
            refine takeH_at (i := 19) (d := 81) (v := ?_) rfl (by kernel_rfl) (by kernel_rfl) (by kernel_rfl) (fun _ _ _ h => h) rfl (Or.inl ⟨by rfl, ?hy⟩) (by assumption) ?_
            case hy => (intro w hSw; (try dsimp only at hSw); (go_simp <;> with_reducible rfl))
            simp only [List.setIfInBounds_toArray, List.set_cons_zero, List.set_cons_succ]
            refine wpAnyH_done (by kernel_rfl) ?_ _
            go_wp2_with fail
            go_roundw
            case rel => exact ⟨s + 1, by omega, by go_num, hmr.trans NA.out⟩
            case measure => simp [intOf]; omega
          | true =>
            by_cases hpd : pd = d
            · have hge : ¬ (wl.length < 8) := fun h => HN.out ⟨rfl, hpd, h⟩
              have hpl : (pd.toList == d.toList) = true := by rw [hpd]; simp
              have hdd : decide (pd = d) = true := decide_eq_true hpd
              have hd8 : decide (wl.length < 8) = false := decide_eq_false hge
              have hd8i : decide ((wl.length : Int) < 8) = false := decide_eq_false (by omega)
              clear HN hpd
              go_wp2_with fail
              refine wp_region_held_drew (S := (fun w' => w'.cell? ⟨Bc, 0, none⟩ = some (.slice oc bs.length cc) ∧ w'.cell? ⟨Bc, 1, none⟩ = some (.bool br) ∧ w'.cell? ⟨Bc, 2, none⟩ = some (.bool off) ∧ w'.cell? ⟨Bc, 3, none⟩ = some (.int .i64 ops) ∧ w'.cell? ⟨Bt, 0, none⟩ = some (.slice (some ⟨zb, zo, none⟩) t.1.length cm) ∧ w'.cell? ⟨Bt, 1, none⟩ = some (.slice ob t.2.length cb) ∧ w'.cell? ⟨zb, zo + s, none⟩ = some (.int .i64 z))) (by kernel_rfl) (HKZ.out _ NA.out) (fun hHeld => ?_)
              refine takeH_at (i := 0) (d := 62) (v := ?_) rfl (by kernel_rfl) (by kernel_rfl) (by kernel_rfl) (fun _ _ _ h => h) rfl (Or.inl ⟨by rfl, ?hy⟩) (by assumption) ?_
              case hy => (intro w hSw; (try dsimp only at hSw); (go_simp <;> with_reducible rfl))
              simp only [List.setIfInBounds_toArray, List.set_cons_zero, List.set_cons_succ]
              refine takeH_at (i := 1) (d := 63) (v := ?_) rfl (by kernel_rfl) (by kernel_rfl) (by kernel_rfl) (fun _ _ _ h => h) rfl (Or.inl ⟨by rfl, ?hy⟩) (by assumption) ?_
              case hy => (intro w hSw; (try dsimp only at hSw); (go_simp <;> with_reducible rfl))
              simp only [List.setIfInBounds_toArray, List.set_cons_zero, List.set_cons_succ]
              refine takeH_at (i := 2) (d := 64) (v := ?_) rfl (by kernel_rfl) (by kernel_rfl) (by kernel_rfl) (fun _ _ _ h => h) rfl (Or.inl ⟨by rfl, ?hy⟩) (by assumption) ?_
              case hy => (intro w hSw; (try dsimp only at hSw); (go_simp <;> with_reducible rfl))
              simp only [List.setIfInBounds_toArray, List.set_cons_zero, List.set_cons_succ]
              refine takeH_at (i := 3) (d := 65) (v := ?_) rfl (by kernel_rfl) (by kernel_rfl) (by kernel_rfl) (fun _ _ _ h => h) rfl (Or.inl ⟨by rfl, ?hy⟩) (by assumption) ?_
              case hy => (intro w hSw; (try dsimp only at hSw); (go_simp <;> with_reducible rfl))
              simp only [List.setIfInBounds_toArray, List.set_cons_zero, List.set_cons_succ]
              refine takeH_at (i := 4) (d := 66) (v := ?_) rfl (by kernel_rfl) (by kernel_rfl) (by kernel_rfl) (fun _ _ _ h => h) rfl (Or.inl ⟨by rfl, ?hy⟩) (by assumption) ?_
              case hy => (intro w hSw; (try dsimp only at hSw); (go_simp <;> with_reducible rfl))
              simp only [List.setIfInBounds_toArray, List.set_cons_zero, List.set_cons_succ]
              refine takeH_at (i := 6) (d := 68) (v := ?_) rfl (by kernel_rfl) (by kernel_rfl) (by kernel_rfl) (fun _ _ _ h => h) rfl (Or.inl ⟨by rfl, ?hy⟩) (by assumption) ?_
              case hy => (intro w hSw; (try dsimp only at hSw); (go_simp <;> with_reducible rfl))
              simp only [List.setIfInBounds_toArray, List.set_cons_zero, List.set_cons_succ]
              refine wpAnyH_ready (rs := [5]) (by kernel_rfl) (by simp) ?_
              refine AllReadyH.cons rfl (fun K hK => ?_) AllReadyH.nil
              rw [if_pos (by rfl)]
              go_simp
              go_at_call 10
              refine (HH.out _ NA.out).mono ?_
              rintro e u2 ⟨rfl, nn2⟩
              have NB := hide (Mem.trans NA.out nn2)
              go_wp2_with fail
              refine hK.out _ _ (HKZ.out _ NB.out) (fun hHeld5 => ?_)
              clear hK K
              try simp only [Act.put, List.setIfInBounds_toArray, List.set_cons_zero, List.set_cons_succ]
              refine takeH_at (i := 7) (d := 69) (v := ?_) rfl (by kernel_rfl) (by kernel_rfl) (by kernel_rfl) (fun _ _ _ h => h) rfl (Or.inl ⟨by rfl, ?hy⟩) (by assumption) ?_
              case hy => (intro w hSw; (try dsimp only at hSw); (go_simp <;> with_reducible rfl))
              simp only [List.setIfInBounds_toArray, List.set_cons_zero, List.set_cons_succ]
              refine takeH_at (i := 8) (d := 70) (v := ?_) rfl (by kernel_rfl) (by kernel_rfl) (by kernel_rfl) (fun _ _ _ h => h) rfl (Or.inl ⟨by rfl, ?hy⟩) (by assumption) ?_
              case hy => (intro w hSw; (try dsimp only at hSw); (go_simp <;> with_reducible rfl))
              simp only [List.setIfInBounds_toArray, List.set_cons_zero, List.set_cons_succ]
              refine takeH_at (i := 9) (d := 71) (v := ?_) rfl (by kernel_rfl) (by kernel_rfl) (by kernel_rfl) (fun _ _ _ h => h) rfl (Or.inl ⟨by rfl, ?hy⟩) (by assumption) ?_
              case hy => (intro w hSw; (try dsimp only at hSw); (go_simp <;> with_reducible rfl))
              simp only [List.setIfInBounds_toArray, List.set_cons_zero, List.set_cons_succ]
              refine takeH_at (i := 10) (d := 72) (v := ?_) rfl (by kernel_rfl) (by kernel_rfl) (by kernel_rfl) (fun _ _ _ h => h) rfl (Or.inl ⟨by rfl, ?hy⟩) (by assumption) ?_
              case hy => (intro w hSw; (try dsimp only at hSw); (go_simp <;> with_reducible rfl))
              simp only [List.setIfInBounds_toArray, List.set_cons_zero, List.set_cons_succ]
              refine takeH_at (i := 11) (d := 73) (v := ?_) rfl (by kernel_rfl) (by kernel_rfl) (by kernel_rfl) (fun _ _ _ h => h) rfl (Or.inl ⟨by rfl, ?hy⟩) (by assumption) ?_
              case hy => (intro w hSw; (try dsimp only at hSw); (go_simp <;> with_reducible rfl))
              simp only [List.setIfInBounds_toArray, List.set_cons_zero, List.set_cons_succ]
              refine takeH_at (i := 12) (d := 74) (v := ?_) rfl (by kernel_rfl) (by kernel_rfl) (by kernel_rfl) (fun _ _ _ h => h) rfl (Or.inl ⟨by rfl, ?hy⟩) (by assumption) ?_
              case hy => (intro w hSw; (try dsimp only at hSw); (go_simp <;> with_reducible rfl))
              simp only [List.setIfInBounds_toArray, List.set_cons_zero, List.set_cons_succ]
              refine takeH_at (i := 13) (d := 75) (v := ?_) rfl (by kernel_rfl) (by kernel_rfl) (by kernel_rfl) (fun _ _ _ h => h) rfl (Or.inl ⟨by rfl, ?hy⟩) (by assumption) ?_
              case hy => (intro w hSw; (try dsimp only at hSw); (go_simp <;> with_reducible rfl))
              simp only [List.setIfInBounds_toArray, List.set_cons_zero, List.set_cons_succ]
              refine takeH_at (i := 14) (d := 76) (v := ?_) rfl (by kernel_rfl) (by kernel_rfl) (by kernel_rfl) (fun _ _ _ h => h) rfl (Or.inl ⟨by rfl, ?hy⟩) (by assumption) ?_
              case hy => (intro w hSw; (try dsimp only at hSw); (go_simp <;> with_reducible rfl))
              simp only [List.setIfInBounds_toArray, List.set_cons_zero, List.set_cons_succ]
              refine takeH_at (i := 15) (d := 77) (v := ?_) rfl (by kernel_rfl) (by kernel_rfl) (by kernel_rfl) (fun _ _ _ h => h) rfl (Or.inl ⟨by rfl, ?hy⟩) (by assumption) ?_
              case hy => (intro w hSw; (try dsimp only at hSw); (go_simp <;> with_reducible rfl))
              simp only [List.setIfInBounds_toArray, List.set_cons_zero, List.set_cons_succ]
              refine wpAnyH_ready (rs := [16]) (by kernel_rfl) (by simp) ?_
              refine AllReadyH.cons rfl (fun K hK => ?_) AllReadyH.nil
              rw [if_pos (by rfl)]
              go_simp
              go_at_call 11
              refine (HO.out _ NB.out).mono ?_
              rintro e u3 ⟨⟨vo, rfl, io, -⟩, nn3⟩
              have NC := hide (Mem.trans NB.out nn3)
              obtain ⟨oo, co, rfl⟩ := io.ints.shape
              go_wp2_with fail
              refine hK.out _ _ (HKZ.out _ NC.out) (fun hHeld16 => ?_)
              clear hK K
              try simp only [Act.put, List.setIfInBounds_toArray, List.set_cons_zero, List.set_cons_succ]
              refine takeH_at (i := 17) (d := 79) (v := ?_) rfl (by kernel_rfl) (by kernel_rfl) (by kernel_rfl) (fun _ _ _ h => h) rfl (Or.inl ⟨by rfl, ?hy⟩) (by assumption) ?_
              case hy => (intro w hSw; (try dsimp only at hSw); (go_simp <;> with_reducible rfl))
              simp only [List.setIfInBounds_toArray, List.set_cons_zero, List.set_cons_succ]
              refine takeH_at (i := 18) (d := 80) (v := ?_) rfl (by kernel_rfl) (by kernel_rfl) (by kernel_rfl) (fun _ _ _ h => h) rfl (Or.inl ⟨by rfl, ?hy⟩) (by assumption) ?_
              case hy => (intro w hSw; (try dsimp only at hSw); (go_simp <;> with_reducible rfl))
              simp only [List.setIfInBounds_toArray, List.set_cons_zero, List.set_cons_succ]
              refine takeH_at (i := 19) (d := 81) (v := ?_) rfl (by kernel_rfl) (by kernel_rfl) (by kernel_rfl) (fun _ _ _ h => h) rfl (Or.inl ⟨by rfl, ?hy⟩) (by assumption) ?_
              case hy => (intro w hSw; (try dsimp only at hSw); (go_simp <;> with_reducible rfl))
              simp only [List.setIfInBounds_toArray, List.set_cons_zero, List.set_cons_succ]
              refine wpAnyH_done (by kernel_rfl) ?_ _
              go_wp2_with fail
              go_roundw
              case rel => exact ⟨s + 1, by omega, by go_num, hmr.trans NC.out⟩
              case measure => simp [intOf]; omega
            · have hpl : (pd.toList == d.toList) = false := by rw [beq_eq_false_iff_ne]; intro e; exact hpd (text_inj e)
              have hdd : decide (pd = d) = false := decide_eq_false hpd
              clear HN HO
              go_wp2_with fail
              refine wp_region_held_drew (S := (fun w' => w'.cell? ⟨Bc, 0, none⟩ = some (.slice oc bs.length cc) ∧ w'.cell? ⟨Bc, 1, none⟩ = some (.bool br) ∧ w'.cell? ⟨Bc, 2, none⟩ = some (.bool off) ∧ w'.cell? ⟨Bc, 3, none⟩ = some (.int .i64 ops) ∧ w'.cell? ⟨Bt, 0, none⟩ = some (.slice (some ⟨zb, zo, none⟩) t.1.length cm) ∧ w'.cell? ⟨Bt, 1, none⟩ = some (.slice ob t.2.length cb) ∧ w'.cell? ⟨zb, zo + s, none⟩ = some (.int .i64 z))) (by kernel_rfl) (HKZ.out _ NA.out) (fun hHeld => ?_)
              refine takeH_at (i := 0) (d := 62) (v := ?_) rfl (by kernel_rfl) (by kernel_rfl) (by kernel_rfl) (fun _ _ _ h => h) rfl (Or.inl ⟨by rfl, ?hy⟩) (by assumption) ?_
              case hy => (intro w hSw; (try dsimp only at hSw); (go_simp <;> with_reducible rfl))
              simp only [List.setIfInBounds_toArray, List.set_cons_zero, List.set_cons_succ]
              refine takeH_at (i := 1) (d := 63) (v := ?_) rfl (by kernel_rfl) (by kernel_rfl) (by kernel_rfl) (fun _ _ _ h => h) rfl (Or.inl ⟨by rfl, ?hy⟩) (by assumption) ?_
              case hy => (intro w hSw; (try dsimp only at hSw); (go_simp <;> with_reducible rfl))
              simp only [List.setIfInBounds_toArray, List.set_cons_zero, List.set_cons_succ]
              refine takeH_at (i := 2) (d := 64) (v := ?_) rfl (by kernel_rfl) (by kernel_rfl) (by kernel_rfl) (fun _ _ _ h => h) rfl (Or.inl ⟨by rfl, ?hy⟩) (by assumption) ?_
              case hy => (intro w hSw; (try dsimp only at hSw); (go_simp <;> with_reducible rfl))
              simp only [List.setIfInBounds_toArray, List.set_cons_zero, List.set_cons_succ]
              refine takeH_at (i := 3) (d := 65) (v := ?_) rfl (by kernel_rfl) (by kernel_rfl) (by kernel_rfl) (fun _ _ _ h => h) rfl (Or.inl ⟨by rfl, ?hy⟩) (by assumption) ?_
              case hy => (intro w hSw; (try dsimp only at hSw); (go_simp <;> with_reducible rfl))
              simp only [List.setIfInBounds_toArray, List.set_cons_zero, List.set_cons_succ]
              refine takeH_at (i := 4) (d := 66) (v := ?_) rfl (by kernel_rfl) (by kernel_rfl) (by kernel_rfl) (fun _ _ _ h => h) rfl (Or.inl ⟨by rfl, ?hy⟩) (by assumption) ?_
              case hy => (intro w hSw; (try dsimp only at hSw); (go_simp <;> with_reducible rfl))
              simp only [List.setIfInBounds_toArray, List.set_cons_zero, List.set_cons_succ]
              refine takeH_at (i := 6) (d := 68) (v := ?_) rfl (by kernel_rfl) (by kernel_rfl) (by kernel_rfl) (fun _ _ _ h => h) rfl (Or.inl ⟨by rfl, ?hy⟩) (by assumption) ?_
              case hy => (intro w hSw; (try dsimp only at hSw); (go_simp <;> with_reducible rfl))
              simp only [List.setIfInBounds_toArray, List.set_cons_zero, List.set_cons_succ]
              refine wpAnyH_ready (rs := [5]) (by kernel_rfl) (by simp) ?_
              refine AllReadyH.cons rfl (fun K hK => ?_) AllReadyH.nil
              rw [if_pos (by rfl)]
              go_simp
              go_at_call 10
              refine (HH.out _ NA.out).mono ?_
              rintro e u2 ⟨rfl, nn2⟩
              have NB := hide (Mem.trans NA.out nn2)
              go_wp2_with fail
              refine hK.out _ _ (HKZ.out _ NB.out) (fun hHeld5 => ?_)
              clear hK K
              try simp only [Act.put, List.setIfInBounds_toArray, List.set_cons_zero, List.set_cons_succ]
              refine takeH_at (i := 7) (d := 69) (v := ?_) rfl (by kernel_rfl) (by kernel_rfl) (by kernel_rfl) (fun _ _ _ h => h) rfl (Or.inl ⟨by rfl, ?hy⟩) (by assumption) ?_
              case hy => (intro w hSw; (try dsimp only at hSw); (go_simp <;> with_reducible rfl))
              simp only [List.setIfInBounds_toArray, List.set_cons_zero, List.set_cons_succ]
              refine takeH_at (i := 8) (d := 70) (v := ?_) rfl (by kernel_rfl) (by kernel_rfl) (by kernel_rfl) (fun _ _ _ h => h) rfl (Or.inl ⟨by rfl, ?hy⟩) (by assumption) ?_
              case hy => (intro w hSw; (try dsimp only at hSw); (go_simp <;> with_reducible rfl))
              simp only [List.setIfInBounds_toArray, List.set_cons_zero, List.set_cons_succ]
              refine takeH_at (i := 9) (d := 71) (v := ?_) rfl (by kernel_rfl) (by kernel_rfl) (by kernel_rfl) (fun _ _ _ h => h) rfl (Or.inl ⟨by rfl, ?hy⟩) (by assumption) ?_
              case hy => (intro w hSw; (try dsimp only at hSw); (go_simp <;> with_reducible rfl))
              simp only [List.setIfInBounds_toArray, List.set_cons_zero, List.set_cons_succ]
              refine takeH_at (i := 10) (d := 72) (v := undef) rfl (by kernel_rfl) (by kernel_rfl) (by kernel_rfl) (fun _ _ _ h => h) rfl (Or.inr ⟨by rfl, rfl⟩) (by assumption) ?_
              simp only [List.setIfInBounds_toArray, List.set_cons_zero, List.set_cons_succ]
              refine takeH_at (i := 11) (d := 73) (v := undef) rfl (by kernel_rfl) (by kernel_rfl) (by kernel_rfl) (fun _ _ _ h => h) rfl (Or.inr ⟨by rfl, rfl⟩) (by assumption) ?_
              simp only [List.setIfInBounds_toArray, List.set_cons_zero, List.set_cons_succ]
              refine takeH_at (i := 12) (d := 74) (v := undef) rfl (by kernel_rfl) (by kernel_rfl) (by kernel_rfl) (fun _ _ _ h => h) rfl (Or.inr ⟨by rfl, rfl⟩) (by assumption) ?_
              simp only [List.setIfInBounds_toArray, List.set_cons_zero, List.set_cons_succ]
              refine takeH_at (i := 13) (d := 75) (v := undef) rfl (by kernel_rfl) (by kernel_rfl) (by kernel_rfl) (fun _ _ _ h => h) rfl (Or.inr ⟨by rfl, rfl⟩) (by assumption) ?_
              simp only [List.setIfInBounds_toArray, List.set_cons_zero, List.set_cons_succ]
              refine takeH_at (i := 14) (d := 76) (v := undef) rfl (by kernel_rfl) (by kernel_rfl) (by kernel_rfl) (fun _ _ _ h => h) rfl (Or.inr ⟨by rfl, rfl⟩) (by assumption) ?_
              simp only [List.setIfInBounds_toArray, List.set_cons_zero, List.set_cons_succ]
              refine takeH_at (i := 15) (d := 77) (v := undef) rfl (by kernel_rfl) (by kernel_rfl) (by kernel_rfl) (fun _ _ _ h => h) rfl (Or.inr ⟨by rfl, rfl⟩) (by assumption) ?_
              simp only [List.setIfInBounds_toArray, List.set_cons_zero, List.set_cons_succ]
              refine takeH_at (i := 16) (d := 78) (v := undef) rfl (by kernel_rfl) (by kernel_rfl) (by kernel_rfl) (fun _ _ _ h => h) rfl (Or.inr ⟨by rfl, rfl⟩) (by assumption) ?_
              simp only [List.setIfInBounds_toArray, List.set_cons_zero, List.set_cons_succ]
              refine takeH_at (i := 17) (d := 79) (v := undef) rfl (by kernel_rfl) (by kernel_rfl) (by kernel_rfl) (fun _ _ _ h => h) rfl (Or.inr ⟨by rfl, rfl⟩) (by assumption) ?_
              simp only [List.setIfInBounds_toArray, List.set_cons_zero, List.set_cons_succ]
              refine takeH_at (i := 18) (d := 80) (v := undef) rfl (by kernel_rfl) (by kernel_rfl) (by kernel_rfl) (fun _ _ _ h => h) rfl (Or.inr ⟨by rfl, rfl⟩) (by assumption) ?_
              simp only [List.setIfInBounds_toArray, List.set_cons_zero, List.set_cons_succ]
              refine takeH_at (i := 19) (d := 81) (v := ?_) rfl (by kernel_rfl) (by kernel_rfl) (by kernel_rfl) (fun _ _ _ h => h) rfl (Or.inl ⟨by rfl, ?hy⟩) (by assumption) ?_
              case hy => (intro w hSw; (try dsimp only at hSw); (go_simp <;> with_reducible rfl))
              simp only [List.setIfInBounds_toArray, List.set_cons_zero, List.set_cons_succ]
              refine wpAnyH_done (by kernel_rfl) ?_ _
              go_wp2_with fail
              go_roundw
              case rel => exact ⟨s + 1, by omega, by go_num, hmr.trans NB.out⟩
              case measure => simp [intOf]; omega)
      · have hse : s = t.1.length := by omega
        subst hse
        have hlt' : ¬ ((t.1.length : Int) < (t.1.length : Int)) := by omega
        go_wp2_with fail
        go_ret
        exact ⟨rfl, hm5.trans hmr⟩
  · have hd : decide (twinT bs t d < 0) = false := decide_eq_false hneg
    obtain ⟨k1, k2, k3, k4⟩ := twin_some hneg
    have hle := page_le k1
    have hpos := page_pos k1
    clear hneg HH0
    generalize twinT bs t d = tw at *
    have HP := hide (HP0.out tw _ hm6 (by omega))
    have hwl := which_len t.1 tw
    have HO := hide (HO0.out tw)
    generalize which t.1 tw = wl at *
    obtain ⟨c0, c1, c2, c3⟩ := HC.out _ hm6
    generalize pageC bs tw = pc at *
    obtain ⟨⟨pw, pd, pt⟩, pb⟩ := pc
    simp only [] at k1 k2
    subst k1 k2
    clear HP0 HO0
    go_wp2_with fail
    refine HP.out.mono ?_
    rintro e w7 ⟨rfl, m7⟩
    have hm7 := hm6.trans m7
    have ma7 : Mem w7 (w7.alloc (.cells #[.bool pw, .string pd, .string pt] 36)) := (Mem.refl w7).alloc _
    have hY := Blk.new w7 #[.bool pw, .string pd, .string pt] 36
    obtain ⟨t0, t1⟩ := HT.out _ (hm7.trans ma7)
    clear c0 c1 c2 c3 HP
    go_wp2_with fail
    refine (HO.out _ (hm7.trans ma7)).mono ?_
    rintro e w8 ⟨⟨vo, rfl, io, -⟩, m8⟩
    obtain ⟨oo, co, rfl⟩ := io.ints.shape
    have y1 := (hY.mem m8).cell (j := 1) rfl
    have hd0 : decide (0 < wl.length) = true := decide_eq_true k3
    have hd8 : decide (wl.length < 8) = true := decide_eq_true k4
    have hd0i : decide (0 < (wl.length : Int)) = true := decide_eq_true (by omega)
    have hd8i : decide ((wl.length : Int) < 8) = true := decide_eq_true (by omega)
    clear t0 t1
    go_wp2_with fail
    go_ret
    exact ⟨rfl, ((hm5.trans hm7).trans ma7).trans m8⟩
end Go.Proofs.Ytedopplldpcinaa.Plan
