/-
  Layer 9: the walk of IndexKeeps.
-/
import Derived.Test.YtmkfinjhbhfaeaaIndexDropW
import Derived.Test.YtmkfinjhbhfaeaaIndexArr
import Derived.Deep.RegionHeld3
import Derived.BigRegion
namespace Go.Proofs.Ytmkfinjhbhfaeaa.Index
open Go.RowKit Go.Proofs.Ytmkfinjhbhfaeaa.Scan Go.Proofs.Ytmkfinjhbhfaeaa.Replay

set_option maxHeartbeats 8000000 in
set_option maxRecDepth 100000 in
theorem indexKeeps_walk (va : Value) (ss : List StepT) (a1 : Int) (w : World) (hs : StepsAt w va ss) (w1 : (Lit.int .u8 a1).wf = true) :
    Calls Try.prog 5 #[va, .int .u8 a1] w fun e w' => e = .returned (.bool true) ∧ Mem w w' := by
  obtain ⟨oa, ca, rfl, hsl, hsc⟩ := id hs
  unfold maxLen at hsl
  clear hsc
  have hb1 := wf_u8 w1
  clear w1
  obtain ⟨n1, rfl⟩ := Int.eq_ofNat_of_zero_le hb1.1
  obtain ⟨n, hn⟩ : ∃ a : Nat, (n1 : Int) % 9 = (a : Int) := ⟨n1 % 9, by omega⟩
  have hn8 : n ≤ 8 := by omega
  have hn8' : (n : Int) ≤ 8 := by omega
  have hn0' : (0 : Int) ≤ (n : Int) := by omega
  go_enter Try.func5, Try.ntmps5
  go_wp2_with fail
  refine (awake _).mono ?_
  rintro e w1 ⟨rfl, m1⟩
  replace hs := hs.mem m1
  have hmk := run_makeSlots n (by omega) w1
  have hR := made_slots w1 n
  have ma : Mem w1 (w1.alloc (.cells (madeCells #[.int .i64 0, .int .i64 0, .int .i64 0] (n * 3)) 42)) := (Mem.refl w1).alloc _
  generalize hW : w1.alloc (.cells (madeCells #[.int .i64 0, .int .i64 0, .int .i64 0] (n * 3)) 42) = W at *
  have hs0 := (hR.slots (S := fun _ => True) (by rw [empty_len]; unfold maxLen; omega) trivial n).mono (S' := fun x => x < W.heap.size) fun _ _ h => h
  have hl0 := empty_len n
  have hF0 := empty_reach n
  have hP0 := places_empty n
  have hU0 := empty_used n
  rw [hl0] at hs0
  go_wp2_with fail
  clear hW hmk hR hn
  obtain ⟨B, hB⟩ : ∃ B, B = W.heap.size := ⟨_, rfl⟩
  have hA0 : ∀ cs : Array Value, cs = Array.replicate 36 (.int .i64 0) → ArrAt (W.alloc (.cells cs 34)) B 34 36 (haveF (emptyT n)) := fun cs h => ⟨cs, by rw [hB]; exact Blk.new _ _ _, fun j hj => by rw [h, haveF_empty]; simp [hj]⟩
  have hmB : w1.heap.size ≤ B := by rw [hB]; exact ma.lt
  have hs1 : ∀ o, SlotsAt (fun x => x ≠ B) (W.alloc o) (.slice (some ⟨w1.heap.size, 0, none⟩) n n) (emptyT n) := fun o => (hs0.mono (S' := fun x => x ≠ B) fun x h _ => by rw [hB]; omega).mem ((Mem.refl W).alloc o)
  rw [← hB]
  go_loopw [6, 8, 9] (fun v al i wr => ∃ (j : Nat) (oc : Option Addr) (cc : Nat) (l : List SlotT) (u : Nat), j ≤ ss.length ∧ i = .int .i64 j ∧ v = .slice oc n cc ∧ al = .int .i64 (u : Int) ∧ u = usedN l ∧ l.length = n ∧ Reach l ∧ Places l ∧ SlotsAt (fun x => x ≠ B) wr (.slice oc n cc) l ∧ ArrAt wr B 34 36 (haveF l) ∧ Mem w1 wr) (fun _ _ i _ => ss.length - (intOf i).toNat)
  case atStart => exact ⟨0, _, _, emptyT n, 0, Nat.zero_le _, rfl, rfl, rfl, hU0.symm, hl0, hF0, hP0, hs1 _, hA0 _ rfl, ma.alloc _⟩
  case round =>
    clear hs0 hs1 hA0 ma hl0 hF0 hP0 hU0 hB
    obtain ⟨j, oc, cc, l, u, hj, rfl, rfl, rfl, hu, hll, hF, hP, hz, hA, hmr⟩ := hrel
    have hl : l.length ≤ 1000 := by omega
    have hU : u ≤ l.length := by rw [hu]; exact cntI_le (isU l) l.length
    have HU := hide hu
    clear hu
    subst hll
    have HF := hide hF
    have HP := hide hP
    clear hF hP
    by_cases hgo : j < ss.length ∧ j < 20
    · obtain ⟨hlt, hlt20⟩ := hgo
      have hlt' : (j : Int) < (ss.length : Int) := by omega
      have hlt20' : (j : Int) < 20 := by omega
      have hj0 : (0 : Int) ≤ (j : Int) := by omega
      obtain ⟨oa', ca', e, _, hc⟩ := hs.mem hmr
      injection e with e _ e2
      subst e
      subst e2
      obtain ⟨g, o, rfl, d0, d1, d2, hok⟩ := hc j hlt
      clear hc
      generalize ss[j] = s at *
      obtain ⟨dr, pr, pl⟩ := s
      obtain ⟨⟨hr0, hr1⟩, hr2, hr3⟩ := hok
      simp only [] at d0 d1 d2 hr0 hr1 hr2 hr3
      have HC : Hid (∀ w', Mem wr w' → w'.cell? ⟨g, o + j * 3, none⟩ = some (.bool dr)) := fun w' h => (Below.cell h (p := ⟨g, o + j * 3, none⟩) (World.block_lt_of_cell? wr _ d0)).trans d0
      clear d0
      go_wp2_with fail
      go_quiet (fail)
      have HM1 := hide ((Mem.refl wr).drewN nq)
      have hz1 := hz.mem HM1.out
      have hA1 := hA.mem HM1.out
      have hmq := hmr.trans HM1.out
      have d0 := HC.out _ HM1.out
      obtain ⟨a, ea, ha⟩ : ∃ a : Nat, pr % 12 = (a : Int) ∧ a < 12 := ⟨(pr % 12).toNat, by omega, by omega⟩
      obtain ⟨b, eb, hb⟩ : ∃ b : Nat, pl % 3 = (b : Int) ∧ b < 3 := ⟨(pl % 3).toNat, by omega, by omega⟩
      rw [ea, eb]
      clear ea eb hr0 hr1 hr2 hr3 d1 d2 HC hz hA HM1 hmr
      have ha' : (a : Int) < 12 := by omega
      have ha0 : (0 : Int) ≤ (a : Int) := by omega
      have hb' : (b : Int) < 3 := by omega
      have hb0 : (0 : Int) ≤ (b : Int) := by omega
      generalize wr.drewN nq = wd at *
      cases dr with
      | true =>
        go_wp2_with fail
        refine (codeDrop _ _ l a b _ hz1 hl).mono ?_
        rintro e w2 ⟨⟨v2, rfl, h2⟩, m2⟩
        have hdl := dropT_len l a b
        obtain ⟨o2, c2, rfl⟩ := h2.shape
        have hlB := hA1.lt
        replace h2 := h2.mono (S' := fun x => x ≠ B) fun x h _ => h.elim id fun h => by omega
        have hA2 := hA1.mem m2
        have hm2 := hmq.trans m2
        by_cases hcs : 0 < cntS l a b
        · obtain ⟨l', e1, e2, e3, e4, e5, e6, _⟩ := drop_does HF.out ha0 hcs
          have HP2 := hide (places_other HP.out hb e6)
          have HF2 := hide e3
          have HO := hide e6
          rw [e1, e2] at h2
          rw [e1, e2]
          have k0 := hA2.cell (j := a * 3 + b) (by omega)
          have f0 := hA2.frozen (a * 3 + b)
          have hc1 : cntS l' (a : Int) (b : Int) ≤ 1000 := by
            have := cntI_le (isS l' a b) l'.length
            unfold cntS
            omega
          obtain ⟨u', rfl, hu'⟩ : ∃ u' : Nat, u = u' + 1 ∧ u' = usedN l' := ⟨usedN l', by rw [HU.out, e4], rfl⟩
          have HU2 := hide hu'
          rw [haveF_at l a b hb, e5, Int.natCast_add] at k0
          obtain ⟨c, hc⟩ : ∃ c, c = cntS l' (a : Int) (b : Int) := ⟨_, rfl⟩
          rw [← hc] at k0 hc1
          have hcp : (0 : Int) < (c : Int) + 1 := by omega
          have hc1' : (c : Int) ≤ 1000 := by omega
          have hc0 : (0 : Int) ≤ (c : Int) := by omega
          have m5 := Mem.drew (Mem.refl (w2.setCell ⟨B, a * 3 + b, none⟩ (.int .i64 c)))
          have hA5 := (hA2.set (k := a * 3 + b) (by omega) (x := (c : Int)) (g := haveF l') (by rw [haveF_at l' a b hb, hc]) fun j _ hj => haveF_other HO.out hj).mem m5
          have hz5 := (h2.setCell (p := ⟨B, a * 3 + b, none⟩) (fun h => h rfl) (.int .i64 c)).mem m5
          have hm5 := (Mem.setCell hm2 (p := ⟨B, a * 3 + b, none⟩) hmB (.int .i64 c)).trans m5
          have HL := hide e2
          clear e1 e2 e3 e4 e5 e6 hdl hc hu' h2 hA2 m5
          go_wp2_with fail
          go_region
          go_wp2_with fail
          generalize (w2.setCell ⟨B, a * 3 + b, none⟩ (.int .i64 c)).drew = w5 at *
          generalize l' = t at *
          clear f0 k0
          go_loopw [14] (fun i wp => ∃ p : Nat, p ≤ 12 ∧ i = .int .i64 p ∧ Mem w5 wp) (fun i _ => 12 - (intOf i).toNat)
          case atStart => exact ⟨0, by omega, rfl, Mem.refl _⟩
          case round =>
            obtain ⟨p, hp, rfl, hmp⟩ := hrel
            obtain ⟨wq, hwq⟩ : ∃ wq, wq = wr := ⟨_, rfl⟩
            subst hwq
            have hzp := hz5.mem hmp
            have hAp := hA5.mem hmp
            have hmw := hm5.trans hmp
            clear hz5 hA5
            by_cases hlp : p < 12
            · have hlp' : (p : Int) < 12 := by omega
              have hp0 : (0 : Int) ≤ (p : Int) := by omega
              go_wp2_with fail
              refine (codeFind _ _ t p _ (hzp.mem ((Mem.refl wq).alloc _)) (by rw [HL.out]; exact hl)).mono ?_
              rintro e w6 ⟨⟨v6, rfl, h6⟩, m6⟩
              have mq6 := ((Mem.refl wq).alloc _).trans m6
              have hC6 : ArrAt w6 wq.heap.size 33 3 (countF (findT t p) 0) := ArrAt.mem ⟨_, Blk.new _ _ _, fun j hj => by rw [countF_zero]; match j, hj with | 0, _ => rfl | 1, _ => rfl | 2, _ => rfl⟩ m6
              have h6' := h6.mono (S' := fun x => x ≠ wq.heap.size) (fun x h _ => Nat.ne_of_gt (Nat.lt_of_lt_of_le (Blk.new wq _ _).lt h))
              have HPF := hide (fun k (h : k < (findT t p).length) => places_find HP2.out HF2.out hp0 h)
              have HCA := hide (fun b => countF_all HF2.out p b)
              have hfl := h6'.ints.1
              unfold maxLen at hfl
              obtain ⟨o6, c6, rfl⟩ := h6'.ints.shape
              clear h6 m6
              generalize findT t p = f at *
              go_wp2_with fail
              go_loopw [17] (fun i wk => ∃ k : Nat, k ≤ f.length ∧ i = .int .i64 k ∧ ArrAt wk wq.heap.size 33 3 (countF f k) ∧ IntsIn (fun x => x ≠ wq.heap.size) wk (.slice o6 f.length c6) f ∧ Mem wq wk) (fun i _ => f.length - (intOf i).toNat)
              case atStart => exact ⟨0, Nat.zero_le _, rfl, hC6, h6', mq6⟩
              case round =>
                clear hC6 h6' mq6
                obtain ⟨k, hk, rfl, hCk, hik, hmk⟩ := hrel
                by_cases hlk : k < f.length
                · have hlk' : (k : Int) < (f.length : Int) := by omega
                  have hk0 : (0 : Int) ≤ (k : Int) := by omega
                  obtain ⟨b1, eb1, hb1⟩ := HPF.out k hlk
                  obtain ⟨fb, fo, rfl, hcf⟩ := hik.ints.at (by omega)
                  have q0 := hcf k hlk
                  rw [eb1] at q0
                  have q1 := hCk.cell hb1
                  have q2 := hCk.frozen b1
                  have hcx : 0 ≤ countF f k b1 ∧ countF f k b1 ≤ k := by
                    unfold countF
                    have h1 := List.length_filter_le (fun x => decide (x = (b1 : Int))) (f.take k)
                    have h2 := List.length_take_le k f
                    omega
                  have hC7 := hCk.set hb1 (x := countF f k b1 + 1) (g := countF f (k + 1)) (by rw [countF_step hlk, eb1, if_pos rfl]) fun i _ hi => by
                    rw [countF_step hlk, eb1, if_neg (by omega), Int.add_zero]
                  have hi7 := hik.setCell (p := ⟨wq.heap.size, b1, none⟩) (fun h => h rfl) (.int .i64 (countF f k b1 + 1))
                  have hm7 := Mem.setCell hmk (p := ⟨wq.heap.size, b1, none⟩) (Nat.le_refl _) (.int .i64 (countF f k b1 + 1))
                  generalize countF f k b1 = cx at *
                  obtain ⟨hcx0, hcx1⟩ := hcx
                  have hb1' : (b1 : Int) < 3 := by omega
                  have hb10 : (0 : Int) ≤ (b1 : Int) := by omega
                  have hb12 : ¬ (2 : Int) < (b1 : Int) := by omega
                  have hb13 : ¬ (b1 : Int) < 0 := by omega
                  clear hcf hik hCk eb1
                  go_wp2_with fail
                  go_roundw
                  case rel => exact ⟨k + 1, by omega, by go_num, hC7, hi7, hm7⟩
                  case measure => simp [intOf]; omega
                · have hke : k = f.length := by omega
                  subst hke
                  have hlk' : ¬ ((f.length : Int) < (f.length : Int)) := by omega
                  have r0 := hCk.cell (j := 0) (by decide)
                  have r1 := hCk.cell (j := 1) (by decide)
                  have r2 := hCk.cell (j := 2) (by decide)
                  have hA9 := hAp.mem hmk
                  have t0 := hA9.cell (j := p * 3 + 0) (by omega)
                  have t1 := hA9.cell (j := p * 3 + 1) (by omega)
                  have t2 := hA9.cell (j := p * 3 + 2) (by omega)
                  rw [(HCA.out 0).resolve_right (by decide)] at r0
                  rw [(HCA.out 1).resolve_right (by decide)] at r1
                  rw [(HCA.out 2).resolve_right (by decide)] at r2
                  generalize haveF t (p * 3 + 0) = x0 at *
                  generalize haveF t (p * 3 + 1) = x1 at *
                  generalize haveF t (p * 3 + 2) = x2 at *
                  rw [Nat.add_zero] at t0
                  have hne : ∀ w', (Op.equalIn 10000 33 (.agg #[.int .i64 x0, .int .i64 x1, .int .i64 x2]) (.agg #[.int .i64 x0, .int .i64 x1, .int .i64 x2])).run Try.prog w' = .ok true w' := fun w' => by rw [eqArr]; simp
                  clear hCk hik hA9
                  go_wp2_with fail
                  go_quiet (fail)
                  have hm9 := (hmp.trans hmk).drewN nq
                  go_wp2_with fail
                  go_roundw
                  case rel => exact ⟨p + 1, by omega, by go_num, hm9⟩
                  case measure => simp [intOf]; omega
            · have hpe : p = 12 := by omega
              subst hpe
              go_wp2_with fail
              go_roundw
              case rel => exact ⟨j + 1, _, _, t, u', by omega, by go_num, rfl, (by first | rfl | go_num), HU2.out, HL.out, HF2.out, HP2.out, hzp, hAp, hmw⟩
              case measure => simp [intOf]; omega
        · have hce : cntS l (a : Int) (b : Int) = 0 := by omega
          have e1 := drop_none HF.out ha0 hce
          rw [e1] at h2 ⊢
          have k0 := hA2.cell (j := a * 3 + b) (by omega)
          rw [haveF_at l a b hb, hce] at k0
          clear e1 hdl hcs hce
          go_wp2_with fail
          clear k0
          obtain ⟨t, HL, HF2, HP2, hz5, hA5, HU2⟩ : ∃ t, Hid (t.length = l.length) ∧ Hid (Reach t) ∧ Hid (Places t) ∧ SlotsAt (fun x => x ≠ B) w2 (.slice o2 l.length c2) t ∧ ArrAt w2 B 34 36 (haveF t) ∧ Hid (u = usedN t) := ⟨l, hide rfl, HF, HP, h2, hA2, HU⟩
          clear h2 hA2
          have hm5 := hm2
          clear hm2
          obtain ⟨w5, hw5⟩ : ∃ w5, w5 = w2 := ⟨_, rfl⟩
          subst hw5
          go_loopw [14] (fun i wp => ∃ p : Nat, p ≤ 12 ∧ i = .int .i64 p ∧ Mem w5 wp) (fun i _ => 12 - (intOf i).toNat)
          case atStart => exact ⟨0, by omega, rfl, Mem.refl _⟩
          case round =>
            obtain ⟨p, hp, rfl, hmp⟩ := hrel
            obtain ⟨wq, hwq⟩ : ∃ wq, wq = wr := ⟨_, rfl⟩
            subst hwq
            have hzp := hz5.mem hmp
            have hAp := hA5.mem hmp
            have hmw := hm5.trans hmp
            clear hz5 hA5
            by_cases hlp : p < 12
            · have hlp' : (p : Int) < 12 := by omega
              have hp0 : (0 : Int) ≤ (p : Int) := by omega
              go_wp2_with fail
              refine (codeFind _ _ t p _ (hzp.mem ((Mem.refl wq).alloc _)) (by rw [HL.out]; exact hl)).mono ?_
              rintro e w6 ⟨⟨v6, rfl, h6⟩, m6⟩
              have mq6 := ((Mem.refl wq).alloc _).trans m6
              have hC6 : ArrAt w6 wq.heap.size 33 3 (countF (findT t p) 0) := ArrAt.mem ⟨_, Blk.new _ _ _, fun j hj => by rw [countF_zero]; match j, hj with | 0, _ => rfl | 1, _ => rfl | 2, _ => rfl⟩ m6
              have h6' := h6.mono (S' := fun x => x ≠ wq.heap.size) (fun x h _ => Nat.ne_of_gt (Nat.lt_of_lt_of_le (Blk.new wq _ _).lt h))
              have HPF := hide (fun k (h : k < (findT t p).length) => places_find HP2.out HF2.out hp0 h)
              have HCA := hide (fun b => countF_all HF2.out p b)
              have hfl := h6'.ints.1
              unfold maxLen at hfl
              obtain ⟨o6, c6, rfl⟩ := h6'.ints.shape
              clear h6 m6
              generalize findT t p = f at *
              go_wp2_with fail
              go_loopw [17] (fun i wk => ∃ k : Nat, k ≤ f.length ∧ i = .int .i64 k ∧ ArrAt wk wq.heap.size 33 3 (countF f k) ∧ IntsIn (fun x => x ≠ wq.heap.size) wk (.slice o6 f.length c6) f ∧ Mem wq wk) (fun i _ => f.length - (intOf i).toNat)
              case atStart => exact ⟨0, Nat.zero_le _, rfl, hC6, h6', mq6⟩
              case round =>
                clear hC6 h6' mq6
                obtain ⟨k, hk, rfl, hCk, hik, hmk⟩ := hrel
                by_cases hlk : k < f.length
                · have hlk' : (k : Int) < (f.length : Int) := by omega
                  have hk0 : (0 : Int) ≤ (k : Int) := by omega
                  obtain ⟨b1, eb1, hb1⟩ := HPF.out k hlk
                  obtain ⟨fb, fo, rfl, hcf⟩ := hik.ints.at (by omega)
                  have q0 := hcf k hlk
                  rw [eb1] at q0
                  have q1 := hCk.cell hb1
                  have q2 := hCk.frozen b1
                  have hcx : 0 ≤ countF f k b1 ∧ countF f k b1 ≤ k := by
                    unfold countF
                    have h1 := List.length_filter_le (fun x => decide (x = (b1 : Int))) (f.take k)
                    have h2 := List.length_take_le k f
                    omega
                  have hC7 := hCk.set hb1 (x := countF f k b1 + 1) (g := countF f (k + 1)) (by rw [countF_step hlk, eb1, if_pos rfl]) fun i _ hi => by
                    rw [countF_step hlk, eb1, if_neg (by omega), Int.add_zero]
                  have hi7 := hik.setCell (p := ⟨wq.heap.size, b1, none⟩) (fun h => h rfl) (.int .i64 (countF f k b1 + 1))
                  have hm7 := Mem.setCell hmk (p := ⟨wq.heap.size, b1, none⟩) (Nat.le_refl _) (.int .i64 (countF f k b1 + 1))
                  generalize countF f k b1 = cx at *
                  obtain ⟨hcx0, hcx1⟩ := hcx
                  have hb1' : (b1 : Int) < 3 := by omega
                  have hb10 : (0 : Int) ≤ (b1 : Int) := by omega
                  have hb12 : ¬ (2 : Int) < (b1 : Int) := by omega
                  have hb13 : ¬ (b1 : Int) < 0 := by omega
                  clear hcf hik hCk eb1
                  go_wp2_with fail
                  go_roundw
                  case rel => exact ⟨k + 1, by omega, by go_num, hC7, hi7, hm7⟩
                  case measure => simp [intOf]; omega
                · have hke : k = f.length := by omega
                  subst hke
                  have hlk' : ¬ ((f.length : Int) < (f.length : Int)) := by omega
                  have r0 := hCk.cell (j := 0) (by decide)
                  have r1 := hCk.cell (j := 1) (by decide)
                  have r2 := hCk.cell (j := 2) (by decide)
                  have hA9 := hAp.mem hmk
                  have t0 := hA9.cell (j := p * 3 + 0) (by omega)
                  have t1 := hA9.cell (j := p * 3 + 1) (by omega)
                  have t2 := hA9.cell (j := p * 3 + 2) (by omega)
                  rw [(HCA.out 0).resolve_right (by decide)] at r0
                  rw [(HCA.out 1).resolve_right (by decide)] at r1
                  rw [(HCA.out 2).resolve_right (by decide)] at r2
                  generalize haveF t (p * 3 + 0) = x0 at *
                  generalize haveF t (p * 3 + 1) = x1 at *
                  generalize haveF t (p * 3 + 2) = x2 at *
                  rw [Nat.add_zero] at t0
                  have hne : ∀ w', (Op.equalIn 10000 33 (.agg #[.int .i64 x0, .int .i64 x1, .int .i64 x2]) (.agg #[.int .i64 x0, .int .i64 x1, .int .i64 x2])).run Try.prog w' = .ok true w' := fun w' => by rw [eqArr]; simp
                  clear hCk hik hA9
                  go_wp2_with fail
                  go_quiet (fail)
                  have hm9 := (hmp.trans hmk).drewN nq
                  go_wp2_with fail
                  go_roundw
                  case rel => exact ⟨p + 1, by omega, by go_num, hm9⟩
                  case measure => simp [intOf]; omega
            · have hpe : p = 12 := by omega
              subst hpe
              go_wp2_with fail
              go_roundw
              case rel => exact ⟨j + 1, _, _, t, u, by omega, by go_num, rfl, (by first | rfl | go_num), HU2.out, HL.out, HF2.out, HP2.out, hzp, hAp, hmw⟩
              case measure => simp [intOf]; omega
      | false =>
        go_wp2_with fail
        refine (codePut _ _ l a b _ hz1 hl).mono ?_
        rintro e w2 ⟨⟨v2, rfl, h2⟩, m2⟩
        have hlB := hA1.lt
        replace h2 := h2.mono (S' := fun x => x ≠ B) fun x h _ => h.elim id fun h => by omega
        have hA2 := hA1.mem m2
        have hm2 := hmq.trans m2
        have hz2 := hz1.mem m2
        obtain ⟨o2, c2, rfl⟩ := h2.shape
        by_cases hus : u < l.length
        · obtain ⟨l', e1, e2, e3, e4, e5, e6⟩ := put_does (p := (b : Int)) HF.out ha0 (by rw [← HU.out]; exact hus)
          have HP2 := hide (places_other HP.out hb e6)
          have HF2 := hide e3
          have HO := hide e6
          rw [e1] at h2 ⊢
          simp only [] at h2 ⊢
          rw [e2] at h2 ⊢
          have k0 := hA2.cell (j := a * 3 + b) (by omega)
          have f0 := hA2.frozen (a * 3 + b)
          have hc1 : cntS l (a : Int) (b : Int) ≤ 1000 := by
            have := cntI_le (isS l a b) l.length
            unfold cntS
            omega
          have HU2 : Hid (u + 1 = usedN l') := by show _ = _; rw [HU.out, e4]
          rw [haveF_at l a b hb] at k0
          obtain ⟨c, hc⟩ : ∃ c, c = cntS l (a : Int) (b : Int) := ⟨_, rfl⟩
          rw [← hc] at k0 hc1
          have hus' : (u : Int) < (l.length : Int) := by omega
          have hc1' : (c : Int) ≤ 1000 := by omega
          have hc0 : (0 : Int) ≤ (c : Int) := by omega
          have m5 := Mem.drew (Mem.refl (w2.setCell ⟨B, a * 3 + b, none⟩ (.int .i64 ((c : Int) + 1))))
          have hA5 := (hA2.set (k := a * 3 + b) (by omega) (x := (c : Int) + 1) (g := haveF l') (by rw [haveF_at l' a b hb, e5, ← hc]; rfl) fun j _ hj => haveF_other HO.out hj).mem m5
          have hz5 := (h2.setCell (p := ⟨B, a * 3 + b, none⟩) (fun h => h rfl) (.int .i64 ((c : Int) + 1))).mem m5
          have hm5 := (Mem.setCell hm2 (p := ⟨B, a * 3 + b, none⟩) hmB (.int .i64 ((c : Int) + 1))).trans m5
          have HL := hide e2
          clear e1 e2 e3 e4 e5 e6 hc h2 hA2 m5 hz2
          go_wp2_with fail
          go_region
          go_wp2_with fail
          generalize (w2.setCell ⟨B, a * 3 + b, none⟩ (.int .i64 ((c : Int) + 1))).drew = w5 at *
          generalize l' = t at *
          clear f0 k0
          go_loopw [14] (fun i wp => ∃ p : Nat, p ≤ 12 ∧ i = .int .i64 p ∧ Mem w5 wp) (fun i _ => 12 - (intOf i).toNat)
          case atStart => exact ⟨0, by omega, rfl, Mem.refl _⟩
          case round =>
            obtain ⟨p, hp, rfl, hmp⟩ := hrel
            obtain ⟨wq, hwq⟩ : ∃ wq, wq = wr := ⟨_, rfl⟩
            subst hwq
            have hzp := hz5.mem hmp
            have hAp := hA5.mem hmp
            have hmw := hm5.trans hmp
            clear hz5 hA5
            by_cases hlp : p < 12
            · have hlp' : (p : Int) < 12 := by omega
              have hp0 : (0 : Int) ≤ (p : Int) := by omega
              go_wp2_with fail
              refine (codeFind _ _ t p _ (hzp.mem ((Mem.refl wq).alloc _)) (by rw [HL.out]; exact hl)).mono ?_
              rintro e w6 ⟨⟨v6, rfl, h6⟩, m6⟩
              have mq6 := ((Mem.refl wq).alloc _).trans m6
              have hC6 : ArrAt w6 wq.heap.size 33 3 (countF (findT t p) 0) := ArrAt.mem ⟨_, Blk.new _ _ _, fun j hj => by rw [countF_zero]; match j, hj with | 0, _ => rfl | 1, _ => rfl | 2, _ => rfl⟩ m6
              have h6' := h6.mono (S' := fun x => x ≠ wq.heap.size) (fun x h _ => Nat.ne_of_gt (Nat.lt_of_lt_of_le (Blk.new wq _ _).lt h))
              have HPF := hide (fun k (h : k < (findT t p).length) => places_find HP2.out HF2.out hp0 h)
              have HCA := hide (fun b => countF_all HF2.out p b)
              have hfl := h6'.ints.1
              unfold maxLen at hfl
              obtain ⟨o6, c6, rfl⟩ := h6'.ints.shape
              clear h6 m6
              generalize findT t p = f at *
              go_wp2_with fail
              go_loopw [17] (fun i wk => ∃ k : Nat, k ≤ f.length ∧ i = .int .i64 k ∧ ArrAt wk wq.heap.size 33 3 (countF f k) ∧ IntsIn (fun x => x ≠ wq.heap.size) wk (.slice o6 f.length c6) f ∧ Mem wq wk) (fun i _ => f.length - (intOf i).toNat)
              case atStart => exact ⟨0, Nat.zero_le _, rfl, hC6, h6', mq6⟩
              case round =>
                clear hC6 h6' mq6
                obtain ⟨k, hk, rfl, hCk, hik, hmk⟩ := hrel
                by_cases hlk : k < f.length
                · have hlk' : (k : Int) < (f.length : Int) := by omega
                  have hk0 : (0 : Int) ≤ (k : Int) := by omega
                  obtain ⟨b1, eb1, hb1⟩ := HPF.out k hlk
                  obtain ⟨fb, fo, rfl, hcf⟩ := hik.ints.at (by omega)
                  have q0 := hcf k hlk
                  rw [eb1] at q0
                  have q1 := hCk.cell hb1
                  have q2 := hCk.frozen b1
                  have hcx : 0 ≤ countF f k b1 ∧ countF f k b1 ≤ k := by
                    unfold countF
                    have h1 := List.length_filter_le (fun x => decide (x = (b1 : Int))) (f.take k)
                    have h2 := List.length_take_le k f
                    omega
                  have hC7 := hCk.set hb1 (x := countF f k b1 + 1) (g := countF f (k + 1)) (by rw [countF_step hlk, eb1, if_pos rfl]) fun i _ hi => by
                    rw [countF_step hlk, eb1, if_neg (by omega), Int.add_zero]
                  have hi7 := hik.setCell (p := ⟨wq.heap.size, b1, none⟩) (fun h => h rfl) (.int .i64 (countF f k b1 + 1))
                  have hm7 := Mem.setCell hmk (p := ⟨wq.heap.size, b1, none⟩) (Nat.le_refl _) (.int .i64 (countF f k b1 + 1))
                  generalize countF f k b1 = cx at *
                  obtain ⟨hcx0, hcx1⟩ := hcx
                  have hb1' : (b1 : Int) < 3 := by omega
                  have hb10 : (0 : Int) ≤ (b1 : Int) := by omega
                  have hb12 : ¬ (2 : Int) < (b1 : Int) := by omega
                  have hb13 : ¬ (b1 : Int) < 0 := by omega
                  clear hcf hik hCk eb1
                  go_wp2_with fail
                  go_roundw
                  case rel => exact ⟨k + 1, by omega, by go_num, hC7, hi7, hm7⟩
                  case measure => simp [intOf]; omega
                · have hke : k = f.length := by omega
                  subst hke
                  have hlk' : ¬ ((f.length : Int) < (f.length : Int)) := by omega
                  have r0 := hCk.cell (j := 0) (by decide)
                  have r1 := hCk.cell (j := 1) (by decide)
                  have r2 := hCk.cell (j := 2) (by decide)
                  have hA9 := hAp.mem hmk
                  have t0 := hA9.cell (j := p * 3 + 0) (by omega)
                  have t1 := hA9.cell (j := p * 3 + 1) (by omega)
                  have t2 := hA9.cell (j := p * 3 + 2) (by omega)
                  rw [(HCA.out 0).resolve_right (by decide)] at r0
                  rw [(HCA.out 1).resolve_right (by decide)] at r1
                  rw [(HCA.out 2).resolve_right (by decide)] at r2
                  generalize haveF t (p * 3 + 0) = x0 at *
                  generalize haveF t (p * 3 + 1) = x1 at *
                  generalize haveF t (p * 3 + 2) = x2 at *
                  rw [Nat.add_zero] at t0
                  have hne : ∀ w', (Op.equalIn 10000 33 (.agg #[.int .i64 x0, .int .i64 x1, .int .i64 x2]) (.agg #[.int .i64 x0, .int .i64 x1, .int .i64 x2])).run Try.prog w' = .ok true w' := fun w' => by rw [eqArr]; simp
                  clear hCk hik hA9
                  go_wp2_with fail
                  go_quiet (fail)
                  have hm9 := (hmp.trans hmk).drewN nq
                  go_wp2_with fail
                  go_roundw
                  case rel => exact ⟨p + 1, by omega, by go_num, hm9⟩
                  case measure => simp [intOf]; omega
            · have hpe : p = 12 := by omega
              subst hpe
              go_wp2_with fail
              go_roundw
              case rel => exact ⟨j + 1, _, _, t, u + 1, by omega, by go_num, rfl, (by first | rfl | go_num), HU2.out, HL.out, HF2.out, HP2.out, hzp, hAp, hmw⟩
              case measure => simp [intOf]; omega
        · have hue : u = l.length := by omega
          have e1 := put_full (p := (b : Int)) ha0 (show usedN l = l.length by rw [← HU.out]; exact hue)
          rw [e1]
          have hus' : ¬ (u : Int) < (l.length : Int) := by omega
          clear e1 h2
          go_wp2_with fail
          obtain ⟨t, HL, HF2, HP2, hz5, hA5, HU2⟩ : ∃ t, Hid (t.length = l.length) ∧ Hid (Reach t) ∧ Hid (Places t) ∧ SlotsAt (fun x => x ≠ B) w2 (.slice oc l.length cc) t ∧ ArrAt w2 B 34 36 (haveF t) ∧ Hid (u = usedN t) := ⟨l, hide rfl, HF, HP, hz2, hA2, HU⟩
          clear hz2 hA2 hue
          have hm5 := hm2
          clear hm2
          obtain ⟨w5, hw5⟩ : ∃ w5, w5 = w2 := ⟨_, rfl⟩
          subst hw5
          go_loopw [14] (fun i wp => ∃ p : Nat, p ≤ 12 ∧ i = .int .i64 p ∧ Mem w5 wp) (fun i _ => 12 - (intOf i).toNat)
          case atStart => exact ⟨0, by omega, rfl, Mem.refl _⟩
          case round =>
            obtain ⟨p, hp, rfl, hmp⟩ := hrel
            obtain ⟨wq, hwq⟩ : ∃ wq, wq = wr := ⟨_, rfl⟩
            subst hwq
            have hzp := hz5.mem hmp
            have hAp := hA5.mem hmp
            have hmw := hm5.trans hmp
            clear hz5 hA5
            by_cases hlp : p < 12
            · have hlp' : (p : Int) < 12 := by omega
              have hp0 : (0 : Int) ≤ (p : Int) := by omega
              go_wp2_with fail
              refine (codeFind _ _ t p _ (hzp.mem ((Mem.refl wq).alloc _)) (by rw [HL.out]; exact hl)).mono ?_
              rintro e w6 ⟨⟨v6, rfl, h6⟩, m6⟩
              have mq6 := ((Mem.refl wq).alloc _).trans m6
              have hC6 : ArrAt w6 wq.heap.size 33 3 (countF (findT t p) 0) := ArrAt.mem ⟨_, Blk.new _ _ _, fun j hj => by rw [countF_zero]; match j, hj with | 0, _ => rfl | 1, _ => rfl | 2, _ => rfl⟩ m6
              have h6' := h6.mono (S' := fun x => x ≠ wq.heap.size) (fun x h _ => Nat.ne_of_gt (Nat.lt_of_lt_of_le (Blk.new wq _ _).lt h))
              have HPF := hide (fun k (h : k < (findT t p).length) => places_find HP2.out HF2.out hp0 h)
              have HCA := hide (fun b => countF_all HF2.out p b)
              have hfl := h6'.ints.1
              unfold maxLen at hfl
              obtain ⟨o6, c6, rfl⟩ := h6'.ints.shape
              clear h6 m6
              generalize findT t p = f at *
              go_wp2_with fail
              go_loopw [17] (fun i wk => ∃ k : Nat, k ≤ f.length ∧ i = .int .i64 k ∧ ArrAt wk wq.heap.size 33 3 (countF f k) ∧ IntsIn (fun x => x ≠ wq.heap.size) wk (.slice o6 f.length c6) f ∧ Mem wq wk) (fun i _ => f.length - (intOf i).toNat)
              case atStart => exact ⟨0, Nat.zero_le _, rfl, hC6, h6', mq6⟩
              case round =>
                clear hC6 h6' mq6
                obtain ⟨k, hk, rfl, hCk, hik, hmk⟩ := hrel
                by_cases hlk : k < f.length
                · have hlk' : (k : Int) < (f.length : Int) := by omega
                  have hk0 : (0 : Int) ≤ (k : Int) := by omega
                  obtain ⟨b1, eb1, hb1⟩ := HPF.out k hlk
                  obtain ⟨fb, fo, rfl, hcf⟩ := hik.ints.at (by omega)
                  have q0 := hcf k hlk
                  rw [eb1] at q0
                  have q1 := hCk.cell hb1
                  have q2 := hCk.frozen b1
                  have hcx : 0 ≤ countF f k b1 ∧ countF f k b1 ≤ k := by
                    unfold countF
                    have h1 := List.length_filter_le (fun x => decide (x = (b1 : Int))) (f.take k)
                    have h2 := List.length_take_le k f
                    omega
                  have hC7 := hCk.set hb1 (x := countF f k b1 + 1) (g := countF f (k + 1)) (by rw [countF_step hlk, eb1, if_pos rfl]) fun i _ hi => by
                    rw [countF_step hlk, eb1, if_neg (by omega), Int.add_zero]
                  have hi7 := hik.setCell (p := ⟨wq.heap.size, b1, none⟩) (fun h => h rfl) (.int .i64 (countF f k b1 + 1))
                  have hm7 := Mem.setCell hmk (p := ⟨wq.heap.size, b1, none⟩) (Nat.le_refl _) (.int .i64 (countF f k b1 + 1))
                  generalize countF f k b1 = cx at *
                  obtain ⟨hcx0, hcx1⟩ := hcx
                  have hb1' : (b1 : Int) < 3 := by omega
                  have hb10 : (0 : Int) ≤ (b1 : Int) := by omega
                  have hb12 : ¬ (2 : Int) < (b1 : Int) := by omega
                  have hb13 : ¬ (b1 : Int) < 0 := by omega
                  clear hcf hik hCk eb1
                  go_wp2_with fail
                  go_roundw
                  case rel => exact ⟨k + 1, by omega, by go_num, hC7, hi7, hm7⟩
                  case measure => simp [intOf]; omega
                · have hke : k = f.length := by omega
                  subst hke
                  have hlk' : ¬ ((f.length : Int) < (f.length : Int)) := by omega
                  have r0 := hCk.cell (j := 0) (by decide)
                  have r1 := hCk.cell (j := 1) (by decide)
                  have r2 := hCk.cell (j := 2) (by decide)
                  have hA9 := hAp.mem hmk
                  have t0 := hA9.cell (j := p * 3 + 0) (by omega)
                  have t1 := hA9.cell (j := p * 3 + 1) (by omega)
                  have t2 := hA9.cell (j := p * 3 + 2) (by omega)
                  rw [(HCA.out 0).resolve_right (by decide)] at r0
                  rw [(HCA.out 1).resolve_right (by decide)] at r1
                  rw [(HCA.out 2).resolve_right (by decide)] at r2
                  generalize haveF t (p * 3 + 0) = x0 at *
                  generalize haveF t (p * 3 + 1) = x1 at *
                  generalize haveF t (p * 3 + 2) = x2 at *
                  rw [Nat.add_zero] at t0
                  have hne : ∀ w', (Op.equalIn 10000 33 (.agg #[.int .i64 x0, .int .i64 x1, .int .i64 x2]) (.agg #[.int .i64 x0, .int .i64 x1, .int .i64 x2])).run Try.prog w' = .ok true w' := fun w' => by rw [eqArr]; simp
                  clear hCk hik hA9
                  go_wp2_with fail
                  go_quiet (fail)
                  have hm9 := (hmp.trans hmk).drewN nq
                  go_wp2_with fail
                  go_roundw
                  case rel => exact ⟨p + 1, by omega, by go_num, hm9⟩
                  case measure => simp [intOf]; omega
            · have hpe : p = 12 := by omega
              subst hpe
              go_wp2_with fail
              go_roundw
              case rel => exact ⟨j + 1, _, _, t, u, by omega, by go_num, rfl, (by first | rfl | go_num), HU2.out, HL.out, HF2.out, HP2.out, hzp, hAp, hmw⟩
              case measure => simp [intOf]; omega
    · by_cases hlt : j < ss.length
      · have hlt' : (j : Int) < (ss.length : Int) := by omega
        have hge : (20 : Int) ≤ (j : Int) := by omega
        clear hgo hlt
        go_wp2_with fail
        go_ret
        exact ⟨rfl, m1.trans hmr⟩
      · have hge : (ss.length : Int) ≤ (j : Int) := by omega
        clear hgo hlt
        go_wp2_with fail
        go_ret
        exact ⟨rfl, m1.trans hmr⟩
end Go.Proofs.Ytmkfinjhbhfaeaa.Index
