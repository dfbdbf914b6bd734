/-
  Layer 11, the document: Victim. (By mk_victimrefs.py.)
-/
import Derived.Test.YtegamnaahipedaaVictimRefs
namespace Go.Proofs.Ytegamnaahipedaa.Victim
open Go.RowKit Go.Proofs.Ytegamnaahipedaa.Nand Go.Proofs.Ytegamnaahipedaa.States Go.Proofs.Ytegamnaahipedaa.Live Go.Proofs.Ytegamnaahipedaa.Replay

theorem count_le (t : TableT) (b : Int) : countT t b ≤ 16 := countN_le t b 16
set_option maxHeartbeats 8000000 in
set_option maxRecDepth 100000 in
theorem refVictim : VictimSpec 21 := by
  intro S vb bs br off ops t om ob cm cb o w hb hl hi1 hi2 hl1 hl2 _
  obtain ⟨oa, ca, rfl⟩ := hb.shape
  have hm0 : Mem w ((w.alloc (.cells #[.slice oa bs.length ca, .bool br, .bool off, .int .i64 ops] 24)).alloc (.cells #[.slice om t.1.length cm, .slice ob t.2.length cb] 27)) := ((Mem.refl w).alloc _).alloc _
  have hC := (Blk.new w #[.slice oa bs.length ca, .bool br, .bool off, .int .i64 ops] 24).alloc (.cells #[.slice om t.1.length cm, .slice ob t.2.length cb] 27)
  have hT := Blk.new (w.alloc (.cells #[.slice oa bs.length ca, .bool br, .bool off, .int .i64 ops] 24)) #[.slice om t.1.length cm, .slice ob t.2.length cb] 27
  rw [World.size_alloc] at hT
  have hb' := hide (hb.mem hm0)
  have HLen : Hid (∀ k, k < bs.length → (blkT bs k).1.length ≤ maxLen) := by
    intro k hk
    obtain ⟨_, _, _, _, _, _, _, _, _, _, hpa⟩ := hb.at hk
    rw [blk_at hk] at hpa
    exact hpa.1
  have HCT : Hid (∀ (k : Nat) (w' : World), Mem w w' → Calls Try.prog 16 #[.agg #[.slice om t.1.length cm, .slice ob t.2.length cb], .int .i64 (k : Int)] w' fun e w'' => e = .returned (.int .i64 (countT t k)) ∧ Mem w' w'') := fun k w' m => refCount t om ob cm cb k w' (hi1.mem m) (hi2.mem m) hl1 hl2
  have HE : Hid (victT bs t o = optI (victN bs t o (min bs.length 32))) := rfl
  simp only [chipV]
  clear hb hi1 hi2
  go_enter Try.func21, Try.ntmps21
  go_wp2_with fail
  obtain ⟨w1, hw1⟩ : ∃ w1, (w.alloc (.cells #[.slice oa bs.length ca, .bool br, .bool off, .int .i64 ops] 24)).alloc (.cells #[.slice om t.1.length cm, .slice ob t.2.length cb] 27) = w1 := ⟨_, rfl⟩
  rw [hw1] at hm0 hC hT hb' ⊢
  clear hw1
  go_loopw [7, 8, 9] (fun a b i wr => ∃ k : Nat, k ≤ min bs.length 32 ∧ i = .int .i64 k ∧ a = .int .i64 (optI (victN bs t o k)) ∧ b = .int .i64 (bestC t (victN bs t o k) : Int) ∧ Mem w1 wr) (fun _ _ i _ => bs.length - (intOf i).toNat)
  case atStart => exact ⟨0, Nat.zero_le _, rfl, rfl, rfl, Mem.refl _⟩
  case round =>
    obtain ⟨k, hk, rfl, rfl, rfl, hmr⟩ := hrel
    have hCr := hC.mem hmr
    have c0 := hCr.cell (j := 0) rfl
    have hTr := hT.mem hmr
    have t0 := hTr.cell (j := 0) rfl
    have t1 := hTr.cell (j := 1) rfl
    have hk0 : (0 : Int) ≤ (k : Int) := by omega
    by_cases hlt : k < bs.length
    · have hlt' : (k : Int) < (bs.length : Int) := by omega
      by_cases h32 : k < 32
      · have h32' : (k : Int) < 32 := by omega
        have hc16 := count_le t k
        have HCK := hide (HCT.out k)
        clear HCT
        have HS := hide (fun w' h => refState S (.slice oa bs.length ca) bs br off ops o (k : Int) w' h)
        have HSkip := hide (vict_skip (bs := bs) (t := t) (o := o) (k := k))
        have HFirst := hide (vict_first (bs := bs) (t := t) (o := o) (k := k))
        have HNew0 := hide (fun j => vict_new (bs := bs) (t := t) (o := o) (k := k) (j := j))
        have HOld := hide (fun j => vict_old (bs := bs) (t := t) (o := o) (k := k) (j := j))
        have HBk : Hid (bestC t (some k) = countT t k) := rfl
        by_cases h2 : stateT bs o k = 2
        · by_cases h3 : countT t k < (blkT bs k).1.length
          · have hc : candB bs t o k = true := decide_eq_true ⟨h2, h3⟩
            have HF := hide (HFirst.out hc)
            have HNew := hide (fun j hv ha => HNew0.out j hc hv ha)
            have HAh : Hid (∀ j, aheadB bs t k j = decide (countT t k < countT t j ∨ (countT t k = countT t j ∧ erT bs k < erT bs j))) := fun _ => rfl
            have hcell : Hid (∀ w', BlocksAt S w' (.slice oa bs.length ca) bs → ∃ g f op cp, oa = some ⟨g, f, none⟩ ∧ w'.cell? ⟨g, f + k * 4, none⟩ = some (.slice op (blkT bs k).1.length cp) ∧ ∀ j, j < bs.length → w'.cell? ⟨g, f + j * 4 + 2, none⟩ = some (.int .i64 (erT bs j))) := by
              intro w' h
              obtain ⟨g, f, op, cp, e, _, x0, _, _, _, _⟩ := h.at hlt
              rw [blk_at hlt] at x0
              refine ⟨g, f, op, cp, e, x0, fun j hj => ?_⟩
              obtain ⟨g', f', _, _, e', _, _, _, x2, _, _⟩ := h.at hj
              rw [e] at e'
              injection e' with e'
              injection e' with e1 e2
              subst e1 e2
              rw [blk_at hj] at x2
              exact x2
            rw [h2] at HS
            have h3' : ¬ (((blkT bs k).1.length : Int) ≤ (countT t k : Int)) := by omega
            have hdl : decide (((blkT bs k).1.length : Int) ≤ (countT t k : Int)) = false := decide_eq_false h3'
            have hdn : ¬ ((blkT bs k).1.length ≤ countT t k) := by omega
            have h3'' : (countT t k : Int) < ((blkT bs k).1.length : Int) := by omega
            have hlen : (blkT bs k).1.length ≤ maxLen := HLen.out k hlt
            unfold maxLen at hlen
            clear hc h2 h3 HSkip HFirst HNew0
            generalize (blkT bs k).1.length = len at *
            cases hv : victN bs t o k with
            | none =>
              have HV := hide (HF.out hv)
              clear HF HNew HOld HAh hv
              rw [show optI (none : Option Nat) = -1 from rfl, show bestC t none = 0 from rfl]
              generalize countT t k = c at *
              generalize erT bs k = ek at *
              go_wp2_with (first
                | (go_at_call 16; refine (HCK.out _ (hm0.trans hmr)).mono ?_; rintro e w2 ⟨rfl, m2⟩; have hC2 := hC.mem (hmr.trans m2); have d0 := hC2.cell (j := 0) rfl; have d1 := hC2.cell (j := 1) rfl; have d2 := hC2.cell (j := 2) rfl; have d3 := hC2.cell (j := 3) rfl)
                | (go_at_call 15; refine (HS.out _ (hb'.out.mem (hmr.trans m2))).mono ?_; rintro e w3 ⟨rfl, m3⟩; have e0 := (hC2.mem m3).cell (j := 0) rfl; obtain ⟨g, f, op, cp, rfl, x0, x2⟩ := hcell.out _ (hb'.out.mem ((hmr.trans m2).trans m3))))
              go_quiet (fail)
              go_wp2_with fail
              go_roundw
              case rel => exact ⟨k + 1, by omega, by go_num, by rw [HV.out]; rfl, by rw [HV.out]; exact int_eq (by rw [HBk.out]), ((hmr.trans m2).trans m3).drewN _⟩
              case measure => simp [intOf]; omega
            | some j =>
              have hjk := (vict_lt hv).1
              have hjl : j < bs.length := by omega
              have hj0 : (0 : Int) ≤ (j : Int) := by omega
              have hj1 : (j : Int) < (bs.length : Int) := by omega
              have hdj : decide ((j : Int) < 0) = false := decide_eq_false (by omega)
              have HN := hide (HNew.out j hv)
              have HO := hide (HOld.out j hv)
              have HA := hide (HAh.out j)
              have hcj := hide (count_le t j)
              have HBj : Hid (bestC t (some j) = countT t j) := rfl
              clear HF HNew HOld HAh hv
              rw [show optI (some j) = (j : Int) from rfl, show bestC t (some j) = countT t j from rfl]
              by_cases h4 : countT t k < countT t j
              · have HV := hide (HN.out (by rw [HA.out]; exact decide_eq_true (.inl h4)))
                have h4' : (countT t k : Int) < (countT t j : Int) := by omega
                have hd4 : decide ((countT t k : Int) < (countT t j : Int)) = true := decide_eq_true h4'
                clear HN HO HA
                generalize countT t k = c at *
                generalize countT t j = cj at *
                go_wp2_with (first
                  | (go_at_call 16; refine (HCK.out _ (hm0.trans hmr)).mono ?_; rintro e w2 ⟨rfl, m2⟩; have hC2 := hC.mem (hmr.trans m2); have d0 := hC2.cell (j := 0) rfl; have d1 := hC2.cell (j := 1) rfl; have d2 := hC2.cell (j := 2) rfl; have d3 := hC2.cell (j := 3) rfl)
                  | (go_at_call 15; refine (HS.out _ (hb'.out.mem (hmr.trans m2))).mono ?_; rintro e w3 ⟨rfl, m3⟩; have e0 := (hC2.mem m3).cell (j := 0) rfl; obtain ⟨g, f, op, cp, rfl, x0, x2⟩ := hcell.out _ (hb'.out.mem ((hmr.trans m2).trans m3))))
                go_quiet (fail)
                go_wp2_with fail
                go_roundw
                case rel => exact ⟨k + 1, by omega, by go_num, by rw [HV.out]; rfl, by rw [HV.out]; exact int_eq (by rw [HBk.out]), ((hmr.trans m2).trans m3).drewN _⟩
                case measure => simp [intOf]; omega
              · have hd4 : decide ((countT t k : Int) < (countT t j : Int)) = false := decide_eq_false (by omega)
                by_cases h5 : countT t k = countT t j
                · by_cases h6 : erT bs k < erT bs j
                  · have HV := hide (HN.out (by rw [HA.out]; exact decide_eq_true (.inr ⟨h5, h6⟩)))
                    have hd5 : ((countT t k : Int) == (countT t j : Int)) = true := by rw [h5]; simp
                    have hd6 : decide (erT bs k < erT bs j) = true := decide_eq_true h6
                    clear HN HO HA
                    generalize countT t k = c at *
                    generalize countT t j = cj at *
                    go_wp2_with (first
                      | (go_at_call 16; refine (HCK.out _ (hm0.trans hmr)).mono ?_; rintro e w2 ⟨rfl, m2⟩; have hC2 := hC.mem (hmr.trans m2); have d0 := hC2.cell (j := 0) rfl; have d1 := hC2.cell (j := 1) rfl; have d2 := hC2.cell (j := 2) rfl; have d3 := hC2.cell (j := 3) rfl)
                      | (go_at_call 15; refine (HS.out _ (hb'.out.mem (hmr.trans m2))).mono ?_; rintro e w3 ⟨rfl, m3⟩; have e0 := (hC2.mem m3).cell (j := 0) rfl; obtain ⟨g, f, op, cp, rfl, x0, x2⟩ := hcell.out _ (hb'.out.mem ((hmr.trans m2).trans m3)); have y1 := x2 k hlt; have y2 := x2 j hjl; clear x2; generalize erT bs k = ek at *; generalize erT bs j = ej at *))
                    go_quiet (fail)
                    go_wp2_with fail
                    go_roundw
                    case rel => exact ⟨k + 1, by omega, by go_num, by rw [HV.out]; rfl, by rw [HV.out]; exact int_eq (by rw [HBk.out]; omega), ((hmr.trans m2).trans m3).drewN _⟩
                    case measure => simp [intOf]; omega
                  · have HV := hide (HO.out (by rw [HA.out]; exact decide_eq_false (by omega)))
                    have hd5 : ((countT t k : Int) == (countT t j : Int)) = true := by rw [h5]; simp
                    have hd6 : decide (erT bs k < erT bs j) = false := decide_eq_false h6
                    clear HN HO HA
                    generalize countT t k = c at *
                    generalize countT t j = cj at *
                    go_wp2_with (first
                      | (go_at_call 16; refine (HCK.out _ (hm0.trans hmr)).mono ?_; rintro e w2 ⟨rfl, m2⟩; have hC2 := hC.mem (hmr.trans m2); have d0 := hC2.cell (j := 0) rfl; have d1 := hC2.cell (j := 1) rfl; have d2 := hC2.cell (j := 2) rfl; have d3 := hC2.cell (j := 3) rfl)
                      | (go_at_call 15; refine (HS.out _ (hb'.out.mem (hmr.trans m2))).mono ?_; rintro e w3 ⟨rfl, m3⟩; have e0 := (hC2.mem m3).cell (j := 0) rfl; obtain ⟨g, f, op, cp, rfl, x0, x2⟩ := hcell.out _ (hb'.out.mem ((hmr.trans m2).trans m3)); have y1 := x2 k hlt; have y2 := x2 j hjl; clear x2; generalize erT bs k = ek at *; generalize erT bs j = ej at *))
                    go_quiet (fail)
                    go_wp2_with fail
                    go_roundw
                    case rel => exact ⟨k + 1, by omega, by go_num, by rw [HV.out]; rfl, by rw [HV.out]; exact int_eq (by rw [HBj.out]), ((hmr.trans m2).trans m3).drewN _⟩
                    case measure => simp [intOf]; omega
                · have HV := hide (HO.out (by rw [HA.out]; exact decide_eq_false (by omega)))
                  have hd5 : ((countT t k : Int) == (countT t j : Int)) = false := by rw [beq_eq_false_iff_ne]; omega
                  clear HN HO HA
                  generalize countT t k = c at *
                  generalize countT t j = cj at *
                  go_wp2_with (first
                    | (go_at_call 16; refine (HCK.out _ (hm0.trans hmr)).mono ?_; rintro e w2 ⟨rfl, m2⟩; have hC2 := hC.mem (hmr.trans m2); have d0 := hC2.cell (j := 0) rfl; have d1 := hC2.cell (j := 1) rfl; have d2 := hC2.cell (j := 2) rfl; have d3 := hC2.cell (j := 3) rfl)
                    | (go_at_call 15; refine (HS.out _ (hb'.out.mem (hmr.trans m2))).mono ?_; rintro e w3 ⟨rfl, m3⟩; have e0 := (hC2.mem m3).cell (j := 0) rfl; obtain ⟨g, f, op, cp, rfl, x0, x2⟩ := hcell.out _ (hb'.out.mem ((hmr.trans m2).trans m3))))
                  go_quiet (fail)
                  go_wp2_with fail
                  go_roundw
                  case rel => exact ⟨k + 1, by omega, by go_num, by rw [HV.out]; rfl, by rw [HV.out]; exact int_eq (by rw [HBj.out]), ((hmr.trans m2).trans m3).drewN _⟩
                  case measure => simp [intOf]; omega
          · have HV := hide (HSkip.out (decide_eq_false fun h => h3 h.2))
            have hcell : Hid (∀ w', BlocksAt S w' (.slice oa bs.length ca) bs → ∃ g f op cp, oa = some ⟨g, f, none⟩ ∧ w'.cell? ⟨g, f + k * 4, none⟩ = some (.slice op (blkT bs k).1.length cp) ∧ True) := by
              intro w' h
              obtain ⟨g, f, op, cp, e, _, x0, _, _, _, _⟩ := h.at hlt
              rw [blk_at hlt] at x0
              exact ⟨g, f, op, cp, e, x0, trivial⟩
            rw [h2] at HS
            have h3' : ((blkT bs k).1.length : Int) ≤ (countT t k : Int) := by omega
            have hdl : decide (((blkT bs k).1.length : Int) ≤ (countT t k : Int)) = true := decide_eq_true h3'
            have hdn : (blkT bs k).1.length ≤ countT t k := by omega
            clear h2 h3 HSkip HFirst HNew0 HOld
            generalize (blkT bs k).1.length = len at *
            generalize countT t k = c at *
            generalize victN bs t o k = vk at *
            go_wp2_with (first
              | (go_at_call 16; refine (HCK.out _ (hm0.trans hmr)).mono ?_; rintro e w2 ⟨rfl, m2⟩; have hC2 := hC.mem (hmr.trans m2); have d0 := hC2.cell (j := 0) rfl; have d1 := hC2.cell (j := 1) rfl; have d2 := hC2.cell (j := 2) rfl; have d3 := hC2.cell (j := 3) rfl)
              | (go_at_call 15; refine (HS.out _ (hb'.out.mem (hmr.trans m2))).mono ?_; rintro e w3 ⟨rfl, m3⟩; have e0 := (hC2.mem m3).cell (j := 0) rfl; obtain ⟨g, f, op, cp, rfl, x0, x2⟩ := hcell.out _ (hb'.out.mem ((hmr.trans m2).trans m3))))
            go_roundw
            case rel => exact ⟨k + 1, by omega, by go_num, by rw [HV.out], by rw [HV.out], ((hmr.trans m2).trans m3)⟩
            case measure => simp [intOf]; omega
        · have HV := hide (HSkip.out (decide_eq_false fun h => h2 h.1))
          have hne : (stateT bs o k != 2) = true := by simpa using h2
          clear h2 HSkip HFirst HNew0 HOld
          generalize stateT bs o k = st at *
          generalize countT t k = c at *
          generalize victN bs t o k = vk at *
          go_wp2_with (first
            | (go_at_call 16; refine (HCK.out _ (hm0.trans hmr)).mono ?_; rintro e w2 ⟨rfl, m2⟩; have hC2 := hC.mem (hmr.trans m2); have d0 := hC2.cell (j := 0) rfl; have d1 := hC2.cell (j := 1) rfl; have d2 := hC2.cell (j := 2) rfl; have d3 := hC2.cell (j := 3) rfl)
            | (go_at_call 15; refine (HS.out _ (hb'.out.mem (hmr.trans m2))).mono ?_; rintro e w3 ⟨rfl, m3⟩; have e0 := (hC2.mem m3).cell (j := 0) rfl))
          go_roundw
          case rel => exact ⟨k + 1, by omega, by go_num, by rw [HV.out], by rw [HV.out], ((hmr.trans m2).trans m3)⟩
          case measure => simp [intOf]; omega
      · have hke : k = min bs.length 32 := by omega
        have h32' : ¬ ((k : Int) < 32) := by omega
        have HE2 : Hid (victT bs t o = optI (victN bs t o k)) := by show _ = _; rw [HE.out, hke]
        clear hke
        go_wp2_with fail
        go_ret
        exact ⟨ret_int HE2.out.symm, hm0.trans hmr⟩
    · have hke : k = min bs.length 32 := by omega
      have hlt' : ¬ ((k : Int) < (bs.length : Int)) := by omega
      have HE2 : Hid (victT bs t o = optI (victN bs t o k)) := by show _ = _; rw [HE.out, hke]
      clear hke
      go_wp2_with fail
      go_ret
      exact ⟨ret_int HE2.out.symm, hm0.trans hmr⟩
end Go.Proofs.Ytegamnaahipedaa.Victim
