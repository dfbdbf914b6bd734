/-
  Layer 10: the walk of StatesPick.
-/
import Derived.Test.YtlgofanenkbgoaaStatesCode
import Derived.Test.YtlgofanenkbgoaaStatesLawMath
import Derived.Test.YtlgofanenkbgoaaNandNewAll
import Derived.Test.YtlgofanenkbgoaaNandSpecs
import Derived.Test.YtlgofanenkbgoaaMemLow
import Derived.Deep.DeepCutAuto
import Derived.BigRegion
namespace Go.Proofs.Ytlgofanenkbgoaa.States
open Go.RowKit Go.Proofs.Ytlgofanenkbgoaa.Nand Go.Proofs.Ytlgofanenkbgoaa.Replay

theorem erase_off (bs : List BlockT) (br : Bool) (ops b : Int) : (erase (bs, br, false, ops) b fate0).1.2.2.1 = false := by
  unfold erase
  split
  · rfl
  · split
    · rfl
    · rfl
set_option maxHeartbeats 8000000 in
set_option maxRecDepth 100000 in
theorem statesPick_walk (v : Value) (ss : List StepT) (a1 : Int) (w : World) (hs : StepsAt (fun g => g < w.heap.size) w v ss) (hok : ∀ s ∈ ss, StepOk s) (w1 : (Lit.int .u8 a1).wf = true) :
    Calls Try.prog 6 #[v, .int .u8 a1] w fun e w' => e = .returned (.bool true) ∧ Below w.heap.size w w' := by
  obtain ⟨ol, cl, rfl⟩ := hs.shape
  have hsl := hs.1
  unfold maxLen at hsl
  have hb1 := wf_u8 w1
  clear w1
  obtain ⟨n1, rfl⟩ := Int.eq_ofNat_of_zero_le hb1.1
  obtain ⟨N, hN⟩ : ∃ N : Nat, 2 + (n1 : Int) % 4 = (N : Int) := ⟨2 + n1 % 4, by omega⟩
  have hN1 : 2 ≤ N ∧ N ≤ 5 := by omega
  go_enter Try.func6, Try.ntmps6
  go_wp2_with fail
  refine (awake w).mono ?_
  rintro e w1 ⟨rfl, m1⟩
  go_wp2_with fail
  (try rw [hN])
  refine (refNew N 3 _ [] _ (Ints.nil _ _ _ _) (by decide)).mono ?_
  rintro e w2 ⟨hr, m2⟩
  have hnc : newC (N : Int) 3 [] = ((newBlocks N 3 [], false, false, 0), 0) := newC_yes (M := 3) (by omega) (by omega) (by decide) (by decide) (by simp)
  rw [hnc] at hr
  clear hnc
  obtain ⟨v1, rfl, hb⟩ := hr
  obtain ⟨oc, cc, rfl⟩ := hb.shape
  simp only [chipV] at hb ⊢
  have hd0 : dims (newBlocks N 3 []) = List.replicate N 3 := new_dims []
  generalize newBlocks N 3 [] = bs0 at *
  have hm := m1.trans m2
  have ha : Mem w2 (w2.alloc (.cells #[.slice oc bs0.length cc, .bool false, .bool false, .int .i64 0] 24)) := (Mem.refl w2).alloc _
  have hX := Blk.new w2 #[.slice oc bs0.length cc, .bool false, .bool false, .int .i64 0] 24
  replace hb := (hb.mono (S' := fun x => x ≠ w2.heap.size) fun g _ hl => Nat.ne_of_lt hl).mem ha
  have hBw := hm.size
  replace hm := hm.trans ha
  clear m1 m2 hb1
  go_wp2_with fail
  generalize hWA : w2.alloc (.cells #[.slice oc bs0.length cc, .bool false, .bool false, .int .i64 0] 24) = W at *
  clear hWA ha
  generalize w2.heap.size = Bc at *
  have HST := hide (fun (w' : World) (m : Mem w w') => hs.mem m)
  have HOK := hide hok
  clear hs hok
  go_loopw [8] (fun i wr => ∃ (k : Nat) (oc : Option Addr) (cc : Nat) (bs : List BlockT) (br : Bool) (ops : Int), k ≤ ss.length ∧ i = .int .i64 k ∧ Blk wr Bc 24 #[.slice oc bs.length cc, .bool br, .bool false, .int .i64 ops] ∧ BlocksAt (fun x => x ≠ Bc) wr (.slice oc bs.length cc) bs ∧ dims bs = List.replicate N 3 ∧ Mem w wr) (fun i _ => ss.length - (intOf i).toNat)
  case atStart => exact ⟨0, _, _, _, _, _, Nat.zero_le _, rfl, hX, hb, hd0, hm⟩
  case round =>
    clear hX hb hd0 hm
    obtain ⟨k, oc, cc, bs, br, ops, hk, rfl, hX, hb, hd, hm⟩ := hrel
    by_cases hlt : k < ss.length ∧ k < 12
    · obtain ⟨hk1, hk2⟩ := hlt
      have hk1' : (k : Int) < (ss.length : Int) := by omega
      have hk2' : (k : Int) < 12 := by omega
      have hk0 : (0 : Int) ≤ (k : Int) := by omega
      have hlen := dims_len hd
      have hl1 : (bs.length : Int) ≠ 0 := by omega
      have hn1 : ¬ (bs = []) := by intro e; rw [e] at hlen; simp at hlen; omega
      have hn2 : ¬ (bs.length = 0) := by omega
      obtain ⟨sg, so, rfl, _, _, t1, _, _, _, _⟩ := (HST.out _ hm).at hk1
      have hsb := (HOK.out _ (List.getElem_mem hk1)).2.1
      have c0 := hX.cell (j := 0) rfl
      have c1 := hX.cell (j := 1) rfl
      have c2 := hX.cell (j := 2) rfl
      have c3 := hX.cell (j := 3) rfl
      obtain ⟨q, hq, hql⟩ : ∃ q : Nat, ss[k].2.1 % (bs.length : Int) = (q : Int) ∧ q < bs.length := ⟨(ss[k].2.1 % (bs.length : Int)).toNat, by have := Int.emod_nonneg ss[k].2.1 hl1; omega, by have := Int.emod_nonneg ss[k].2.1 hl1; have := Int.emod_lt_of_pos ss[k].2.1 (show (0 : Int) < (bs.length : Int) by omega); omega⟩
      have HMod : Hid ((IntKind.i64.wrap ss[k].2.1).tmod (bs.length : Int) = (q : Int)) := by show _ = _; rw [mod_val hsb.1 hsb.2]; exact hq
      have HMod2 : Hid (ss[k].2.1 % (bs.length : Int) = (q : Int)) := hq
      have hf : Few bs := few_dims hd (by omega) (by decide)
      have HE := hide (eraseSpec_ref _ _ bs br false ops q fate0 wr.drew (hb.mem (Mem.drew (Mem.refl wr))) hf)
      have hoff := erase_off bs br ops q
      have hdim : dims (erase (bs, br, false, ops) q fate0).1.1 = List.replicate N 3 := (erase_dims (bs, br, false, ops) q fate0).trans hd
      clear hq hlen
      generalize erase (bs, br, false, ops) q fate0 = qq at *
      obtain ⟨⟨bs1, br1, off1, ops1⟩, en⟩ := qq
      simp only [] at hoff hdim
      subst hoff
      generalize ss[k] = st at *
      have N0 := hide (Mem.drew (Mem.refl wr))
      have hBl := hX.lt
      go_wp2_with fail
      go_cut [] (fun wx => ∃ (o5 : Option Addr) (c5 : Nat), Blk wx Bc 24 #[.slice o5 bs1.length c5, .bool br1, .bool false, .int .i64 ops1] ∧ BlocksAt (fun x => x ≠ Bc) wx (.slice o5 bs1.length c5) bs1 ∧ Mem w wx)
      case first =>
        go_region_with (go_at_call 16; (try rw [HMod.out]); (try rw [HMod2.out]); refine HE.out.mono ?_; rintro e w3 ⟨⟨v3, rfl, hb3⟩, m3⟩; obtain ⟨o3, c3', rfl⟩ := hb3.shape; have N1 := hide (Mem.trans N0.out m3); have bB := hX.mem N1.out; have z0 := bB.cell (j := 0) rfl; have z1 := bB.cell (j := 1) rfl; have z2 := bB.cell (j := 2) rfl; have z3 := bB.cell (j := 3) rfl; have f0 := bB.frozen 0; have f1 := bB.frozen 1; have f2 := bB.frozen 2; have f3 := bB.frozen 3; have HB3 := hide hb3; clear hb3 m3)
        all_goals (
          have hD := bB.put4 (.slice o3 bs1.length c3') (.bool br1) (.bool false) (.int .i64 ops1)
          have mD := (hm.trans N1.out).put4 (b := Bc) (by omega) (.slice o3 bs1.length c3') (.bool br1) (.bool false) (.int .i64 ops1)
          have hwd : wr.drew.heap.size = wr.heap.size := rfl
          have hbD := ((HB3.out.mono (S' := fun x => x ≠ Bc) fun x hx hl => by rcases hx with h | h <;> omega).put4 (b := Bc) (fun h => h rfl) (.slice o3 bs1.length c3') (.bool br1) (.bool false) (.int .i64 ops1))
          (try go_wp2_with fail)
          go_meet
          exact ⟨o3, c3', hD, hbD, mD⟩)
      case rest =>
        obtain ⟨o5, c5, hD, hbD, mD⟩ := hcut
        clear HE N0 hX hb hd hf hl1 hn1 hn2 HMod HMod2 c0 c1 c2 c3 t1 hsb
        have hf : Few bs1 := few_dims hdim (by omega) (by decide)
        have hl9 : bs1.length ≤ 1000 := hf.1
        have hBc := hD.lt
        have c0 := hD.cell (j := 0) rfl
        have c1 := hD.cell (j := 1) rfl
        have c2 := hD.cell (j := 2) rfl
        have c3 := hD.cell (j := 3) rfl
        have HPk := hide (codePick _ _ bs1 br1 false ops1 (-1) wc hbD hl9)
        have HMy := hide (fun (w' : World) (m : Mem wc w') => codeMany _ _ bs1 br1 false ops1 (-1) 0 w' (hbD.mem m) hl9)
        have HPT : Hid (pickT bs1 (-1) = optI (pickN bs1 (-1) bs1.length)) := rfl
        go_wp2_with fail
        refine HPk.out.mono ?_
        rintro e w3 ⟨rfl, m3⟩
        have hD3 := hD.mem m3
        have hm3 := mD.trans m3
        clear c0 c1 c2 c3 HPk
        have c0 := hD3.cell (j := 0) rfl
        have c1 := hD3.cell (j := 1) rfl
        have c2 := hD3.cell (j := 2) rfl
        have c3 := hD3.cell (j := 3) rfl
        cases hj : pickN bs1 (-1) bs1.length with
        | none =>
          have HZ0 := hide (many_none hj)
          have HE : Hid (pickT bs1 (-1) = -1) := by show _ = _; rw [HPT.out, hj]; rfl
          rw [HE.out]
          have hd1 : decide ((-1 : Int) < 0) = true := by decide
          clear HPT hj HE
          go_wp2_with fail
          refine (HMy.out _ m3).mono ?_
          rintro e w4 ⟨rfl, m4⟩
          rw [HZ0.out]
          have hm4 := hm3.trans m4
          go_wp2_with fail
          go_ret
          exact ⟨rfl, hm4⟩
        | some j =>
          have hjl := pick_lt hj
          have HE : Hid (pickT bs1 (-1) = (j : Int)) := by show _ = _; rw [HPT.out, hj]; rfl
          have hpj : 0 < (blkT bs1 j).1.length := by
            have e : blkT bs1 j = bs1[j] := by simp [blkT, hjl]
            rw [e, dims_get hdim hjl]
            decide
          have HTw := hide (twin (br := br1) (ops := ops1) hj hpj)
          have hdim2 : dims (Nand.program (bs1, br1, false, ops1) j 0 zeroPage fate0).1.1 = List.replicate N 3 := (program_dims (bs1, br1, false, ops1) j 0 zeroPage fate0).trans hdim
          have HPr := hide (progSpec_ref _ _ bs1 br1 false ops1 j 0 zeroPage fate0 w3 (hbD.mem m3) hf)
          rw [HE.out]
          have hj0 : (0 : Int) ≤ (j : Int) := by omega
          have hjl' : (j : Int) < (bs1.length : Int) := by omega
          have hd1 : decide ((j : Int) < 0) = false := decide_eq_false (by omega)
          have hd2 : decide ((bs1.length : Int) ≤ (j : Int)) = false := decide_eq_false (by omega)
          clear HPT hj HE HMy hpj
          generalize Nand.program (bs1, br1, false, ops1) j 0 zeroPage fate0 = qd at *
          obtain ⟨⟨ds, brd, offd, opsd⟩, ed⟩ := qd
          obtain ⟨e1, e2, HTk⟩ := HTw.out
          simp only [] at e1 e2 HTk hdim2
          subst e1
          have HTK := hide HTk
          have E2 := hide e2
          clear HTw HTk e2
          go_wp2_with fail
          refine HPr.out.mono ?_
          rintro e w4 ⟨⟨v4, rfl, hb4⟩, m4⟩
          obtain ⟨o4, c4, rfl⟩ := hb4.shape
          simp only [chipV] at hb4 ⊢
          have ma : Mem w4 (w4.alloc (.cells #[.slice o4 ds.length c4, .bool brd, .bool false, .int .i64 opsd] 24)) := (Mem.refl w4).alloc _
          have hY := Blk.new w4 #[.slice o4 ds.length c4, .bool brd, .bool false, .int .i64 opsd] 24
          have hs4 := (m3.trans m4).size
          have hbY := (hb4.mono (S' := fun x => x ≠ Bc ∧ x < w4.heap.size) fun x hx hl => by
            have := m3.size
            rcases hx with h | h
            · exact ⟨h, hl⟩
            · exact ⟨by omega, hl⟩).mem ma
          have hm5 := (hm3.trans m4).trans ma
          have m35 := (m3.trans m4).trans ma
          clear HPr hb4 c0 c1 c2 c3
          have hl9d : ds.length ≤ 1000 := by rw [E2.out]; exact hl9
          go_wp2_with fail
          generalize hWD : w4.alloc (.cells #[.slice o4 ds.length c4, .bool brd, .bool false, .int .i64 opsd] 24) = WD at *
          clear hWD ma m4
          generalize w4.heap.size = Bd at *
          have HPk2 := hide (codePick _ _ ds brd false opsd (-1) WD hbY hl9d)
          have HPT : Hid (pickT ds (-1) = optI (pickN ds (-1) bs1.length)) := by show _ = _; rw [← E2.out]; rfl
          refine HPk2.out.mono ?_
          rintro e w6 ⟨rfl, m6⟩
          have hm6 := hm5.trans m6
          have m36 := m35.trans m6
          have hD6 := hD.mem m36
          have hY6 := hY.mem m6
          have hbY6 := hbY.mem m6
          have hb6 := hbD.mem m36
          have c0 := hD6.cell (j := 0) rfl
          have y0 := hY6.cell (j := 0) rfl
          have y1 := hY6.cell (j := 1) rfl
          have y2 := hY6.cell (j := 2) rfl
          have y3 := hY6.cell (j := 3) rfl
          have g0 := hD6.frozen 0
          have g1 := hD6.frozen 1
          have g2 := hD6.frozen 2
          have g3 := hD6.frozen 3
          have k1 := hD6.cell (j := 1) rfl
          have k2 := hD6.cell (j := 2) rfl
          have k3 := hD6.cell (j := 3) rfl
          clear HPk2 hY hbY hD hD3 hbD m3 m35 m36 m6 hm5 hm3 mD
          have X8 := (Blk.drew hD6).put4 (.slice o4 ds.length c4) (.bool brd) (.bool false) (.int .i64 opsd)
          have B8 := ((hbY6.mem (Mem.drew (Mem.refl w6))).mono (S' := fun x => x ≠ Bc) fun x hx _ => hx.1).put4 (b := Bc) (fun h => h rfl) (.slice o4 ds.length c4) (.bool brd) (.bool false) (.int .i64 opsd)
          have M8 := (Mem.drew hm6).put4 (b := Bc) (by omega) (.slice o4 ds.length c4) (.bool brd) (.bool false) (.int .i64 opsd)
          have HX8 := hide X8
          have HB8 := hide B8
          have HM8 := hide M8
          clear X8 B8 M8 hD6 hY6 hbY6
          have hki : (j : Int) ≠ -1 := by omega
          cases hkk : pickN ds (-1) bs1.length with
          | none =>
            have HE2 : Hid (pickT ds (-1) = -1) := by show _ = _; rw [HPT.out, hkk]; rfl
            rw [HE2.out]
            have q1 : ((-1 : Int) == (j : Int)) = false := by rw [beq_eq_false_iff_ne]; omega
            have q2 : decide ((bs1.length : Int) ≤ -1) = false := decide_eq_false (by omega)
            have q3 : decide ((0 : Int) ≤ -1) = false := by decide
            clear HPT HE2 hkk HTK hb6
            go_wp2_with fail
            go_region
            go_wp2_with fail
            go_roundw
            case rel => exact ⟨k + 1, o4, c4, ds, brd, opsd, by omega, by go_num, HX8.out, HB8.out, hdim2, HM8.out⟩
            case measure => simp [intOf]; omega
          | some kk =>
            obtain ⟨g4, g5, g6⟩ := HTK.out kk hkk
            have HE2 : Hid (pickT ds (-1) = (kk : Int)) := by show _ = _; rw [HPT.out, hkk]; rfl
            rw [HE2.out]
            have hk9 : (0 : Int) ≤ (kk : Int) := by omega
            have hk8 : (kk : Int) < (bs1.length : Int) := by omega
            have q1 : ((kk : Int) == (j : Int)) = false := by rw [beq_eq_false_iff_ne]; omega
            have q2 : decide ((bs1.length : Int) ≤ (kk : Int)) = false := decide_eq_false (by omega)
            have q3 : decide ((0 : Int) ≤ (kk : Int)) = true := decide_eq_true hk9
            have e3 : erT bs1 kk = bs1[kk].2.2.1 := by simp [erT, blkT, g4]
            have e4 : erT bs1 j = bs1[j].2.2.1 := by simp [erT, blkT, hjl]
            obtain ⟨ga, fa, pa, qa, rfl, _, _, _, u2, _, _⟩ := hb6.at g4
            obtain ⟨_, _, _, _, ho, _, _, _, t2, _, _⟩ := hb6.at hjl
            injection ho with ho1
            injection ho1 with ho2 ho3
            subst ho2; subst ho3
            rw [← e3] at u2
            rw [← e4] at t2
            have q4 : decide (erT bs1 kk < erT bs1 j) = false := decide_eq_false (by omega)
            have q5 : erT bs1 j ≤ erT bs1 kk := g6
            generalize erT bs1 kk = ek at *
            generalize erT bs1 j = ej at *
            clear HPT HE2 hkk HTK hb6 e3 e4 g6 g5
            have q6 : ¬ (bs1.length ≤ kk) := by omega
            have q8 : decide (bs1.length ≤ kk) = false := decide_eq_false q6
            have q7 : ¬ (kk = j) := by intro e; rw [e] at q1; simp at q1
            have q9 : (kk == j) = false := by rw [beq_eq_false_iff_ne]; exact q7
            have HS := hide (And.intro c0 (And.intro u2 t2))
            go_wp2_with fail
            go_region_held3 (fun w' => w'.cell? ⟨Bc, 0, none⟩ = some (.slice (some ⟨ga, fa, none⟩) bs1.length c5) ∧ w'.cell? ⟨ga, fa + kk * 4 + 2, none⟩ = some (.int .i64 ek) ∧ w'.cell? ⟨ga, fa + j * 4 + 2, none⟩ = some (.int .i64 ej))
              (exact HS.out) (fail)
            go_wp2_with fail
            go_roundw
            case rel => exact ⟨k + 1, o4, c4, ds, brd, opsd, by omega, by go_num, HX8.out, HB8.out, hdim2, HM8.out⟩
            case measure => simp [intOf]; omega
    · have hend : (ss.length : Int) ≤ (k : Int) ∨ ((k : Int) < (ss.length : Int) ∧ (12 : Int) ≤ (k : Int)) := by omega
      rcases hend with h | ⟨h, h'⟩
      all_goals (
        go_wp2_with fail
        go_ret
        exact ⟨rfl, hm⟩)
end Go.Proofs.Ytlgofanenkbgoaa.States
