/-
  Layer 8: the walk of LiveSmall.
-/
import Derived.Test.YtamngecgkkgnpaaLiveTabs
namespace Go.Proofs.Ytamngecgkkgnpaa.Live
open Go.RowKit Go.Proofs.Ytamngecgkkgnpaa.Replay Go.Proofs.Ytamngecgkkgnpaa.Scan

set_option maxHeartbeats 8000000 in
set_option maxRecDepth 100000 in
theorem liveSmall_walk (a0 : Option Addr) (len0 cap0 : Nat) (z0 : List Int) (a1 : Option Addr) (len1 cap1 : Nat) (z1 : List Int) (a2 : Int) (w : World) (w0 : IsRow .u8 w a0 len0 cap0 z0) (w1 : IsRow .u8 w a1 len1 cap1 z1) (w2 : (Lit.int .u8 a2).wf = true) :
    Calls Try.prog 4 #[.slice a0 len0 cap0, .slice a1 len1 cap1, .int .u8 a2] w fun e w' => e = .returned (.bool true) ∧ Mem w w' := by
  obtain ⟨hy, hwy⟩ := Ints.of_row w0
  obtain ⟨hly, _⟩ := row_len w0
  have HY : Hid (∀ x ∈ z0.take len0, 0 ≤ x ∧ x ≤ 255) := fun x h => wf_u8 (hwy x h)
  obtain ⟨hz, hwz⟩ := Ints.of_row w1
  obtain ⟨hlz, _⟩ := row_len w1
  have HZ : Hid (∀ x ∈ z1.take len1, 0 ≤ x ∧ x ≤ 255) := fun x h => wf_u8 (hwz x h)
  obtain ⟨k0, k1⟩ := wf_u8 w2
  clear hwy hwz w0 w1 w2
  generalize z0.take len0 = y at *
  generalize z1.take len1 = z at *
  subst hly
  subst hlz
  have hyl := hy.1
  have hzl := hz.1
  unfold maxLen at hyl hzl
  have hm0 := TM.start w
  go_enter Try.func4, Try.ntmps4
  go_wp2_with fail
  go_loopw [8] (fun i wr => ∃ (j : Nat) (vv : Value) (ks : List Int), i = .int .i64 j ∧ j ≤ y.length ∧ j ≤ 64 ∧ ks.length = j ∧ (∀ x ∈ ks, wfZ x) ∧ TM w w.heap.size wr vv (.slice none 0 0) ks []) (fun i _ => y.length - (intOf i).toNat)
  case atStart => exact ⟨0, _, [], rfl, Nat.zero_le _, by omega, rfl, by simp, hm0⟩
  case round =>
    clear hm0
    obtain ⟨j, vv, ks, rfl, hj, hj64, hjl, hkw, M⟩ := hrel
    have HKW := hide hkw
    clear hkw
    obtain ⟨om1, cm1, rfl⟩ := owns_shape M.2.1.1
    have r2 := M.1.cell (j := 0) rfl
    by_cases hgo : j < y.length ∧ j < 64
    · obtain ⟨hlt, hlt64⟩ := hgo
      have hlt' : (j : Int) < (y.length : Int) := by omega
      have hlt64' : (j : Int) < 64 := by omega
      have hj0 : (0 : Int) ≤ (j : Int) := by omega
      obtain ⟨yb, yo, rfl, hc⟩ := (hy.mem M.2.2.1).at (by omega)
      have cj := hc j hlt
      have hx := HY.out _ (mem_getD.2 ⟨j, hlt, rfl⟩)
      generalize y.getD j 0 = x at *
      obtain ⟨hx0, hx1⟩ := hx
      have HV : Hid (wfZ (IntKind.i64.wrap ((IntKind.i64.wrap x).tmod 40 - 1))) := by show wfZ _; rw [rem_val hx0 hx1 (by decide) (by decide)]; unfold wfZ; omega
      have hsz := M.size
      have hown := M.2.1.1
      have a1' := (M.1.alloc (.cells #[.int .i64 (IntKind.i64.wrap ((IntKind.i64.wrap x).tmod 40 - 1))] 3)).cell (j := 0) rfl
      have HM := hide M
      have HJ := hide hjl
      clear M hc hjl
      go_wp2_with fail
      go_region_law ((refine step_pushA_drew (by rfl) _ _ (by rfl) (w.heap.size + 1) _ ks ks.length (by rfl) hown hsz (IntKind.i64.wrap ((IntKind.i64.wrap x).tmod 40 - 1)) (by rfl) (by have := HJ.out; omega) ?_; intro v' w' h1 h2 h3; obtain ⟨ov', cv', rfl⟩ := owns_shape h1; have d2 := (HM.out.1.below (grown_below hown h2 hsz) (by omega)).cell (j := 0) rfl; have e2 := (HM.out.1.below (grown_below hown h2 hsz) (by omega)).frozen 0))
      all_goals (
        have M' := HM.out.pushM h1 h2 h3
        clear d2 e2 h1 h2 h3 r2 a1' hown hsz
        go_wp2_with fail
        go_roundw
        case rel => exact ⟨j + 1, _, ks ++ [IntKind.i64.wrap ((IntKind.i64.wrap x).tmod 40 - 1)], by go_num, by omega, by omega, by simp [HJ.out], all_snoc HKW.out HV.out, M'⟩
        case measure => simp [intOf]; omega)
    · have hk64 : ks.length ≤ 64 := by omega
      clear r2 hjl
      by_cases hlt : j < y.length
      · have hlt' : (j : Int) < (y.length : Int) := by omega
        have hge : (64 : Int) ≤ (j : Int) := by omega
        clear hgo hlt
        go_wp2_with fail
        have HMW := HKW
        have M0 := M
        have hm64 := hk64
        clear M HKW hk64
        generalize ks = ms at *
        generalize om1 = om at *
        generalize cm1 = cm at *
        go_loopw [9] (fun i wr => ∃ (j : Nat) (vv : Value) (ks : List Int), i = .int .i64 j ∧ j ≤ z.length ∧ j ≤ 64 ∧ ks.length = j ∧ (∀ x ∈ ks, wfZ x) ∧ TM w w.heap.size wr (.slice om ms.length cm) vv ms ks) (fun i _ => z.length - (intOf i).toNat)
        case atStart => exact ⟨0, _, [], rfl, Nat.zero_le _, by omega, rfl, by simp, M0⟩
        case round =>
          clear M0
          obtain ⟨j, vv, ks, rfl, hj, hj64, hjl, hkw, M⟩ := hrel
          have HKW := hide hkw
          clear hkw
          obtain ⟨ob1, cb1, rfl⟩ := owns_shape M.2.1.2.1
          have r2 := M.1.cell (j := 1) rfl
          by_cases hgo : j < z.length ∧ j < 64
          · obtain ⟨hlt, hlt64⟩ := hgo
            have hlt' : (j : Int) < (z.length : Int) := by omega
            have hlt64' : (j : Int) < 64 := by omega
            have hj0 : (0 : Int) ≤ (j : Int) := by omega
            obtain ⟨yb, yo, rfl, hc⟩ := (hz.mem M.2.2.1).at (by omega)
            have cj := hc j hlt
            have hx := HZ.out _ (mem_getD.2 ⟨j, hlt, rfl⟩)
            generalize z.getD j 0 = x at *
            obtain ⟨hx0, hx1⟩ := hx
            have HV : Hid (wfZ (IntKind.i64.wrap ((IntKind.i64.wrap x).tmod 40 - 1))) := by show wfZ _; rw [rem_val hx0 hx1 (by decide) (by decide)]; unfold wfZ; omega
            have hsz := M.size
            have hown := M.2.1.2.1
            have a1' := (M.1.alloc (.cells #[.int .i64 (IntKind.i64.wrap ((IntKind.i64.wrap x).tmod 40 - 1))] 3)).cell (j := 1) rfl
            have HM := hide M
            have HJ := hide hjl
            clear M hc hjl
            go_wp2_with fail
            go_region_law ((refine step_pushA_drew (by rfl) _ _ (by rfl) (w.heap.size + 1) _ ks ks.length (by rfl) hown hsz (IntKind.i64.wrap ((IntKind.i64.wrap x).tmod 40 - 1)) (by rfl) (by have := HJ.out; omega) ?_; intro v' w' h1 h2 h3; obtain ⟨ov', cv', rfl⟩ := owns_shape h1; have d2 := (HM.out.1.below (grown_below hown h2 hsz) (by omega)).cell (j := 1) rfl; have e2 := (HM.out.1.below (grown_below hown h2 hsz) (by omega)).frozen 1))
            all_goals (
              have M' := HM.out.pushB h1 h2 h3
              clear d2 e2 h1 h2 h3 r2 a1' hown hsz
              go_wp2_with fail
              go_roundw
              case rel => exact ⟨j + 1, _, ks ++ [IntKind.i64.wrap ((IntKind.i64.wrap x).tmod 40 - 1)], by go_num, by omega, by omega, by simp [HJ.out], all_snoc HKW.out HV.out, M'⟩
              case measure => simp [intOf]; omega)
          · have hk64 : ks.length ≤ 64 := by omega
            clear r2 hjl
            by_cases hlt : j < z.length
            · have hlt' : (j : Int) < (z.length : Int) := by omega
              have hge : (64 : Int) ≤ (j : Int) := by omega
              clear hgo hlt
              go_wp2_with fail
              have HW : Hid (WfT (ms, ks)) := ⟨HMW.out, HKW.out⟩
              have HI := hide (fun (w' : World) (h : Mem wr w') => And.intro (M.2.1.ints.1.mem h) (M.2.1.ints.2.mem h))
              have HT := hide (fun (w' : World) (h : Mem wr w') => And.intro ((M.1.mem h).cell (j := 0) rfl) ((M.1.mem h).cell (j := 1) rfl))
              have hmr := M.2.2.1
              have hl1 : ms.length ≤ 1000 := by omega
              have hl2 : ks.length ≤ 1000 := by omega
              clear M
              go_loopw [10] (fun c wq => ∃ k : Nat, k ≤ 5 ∧ c = .int .i64 ((k : Int) - 1) ∧ Mem wr wq) (fun c _ => 5 - (intOf c + 1).toNat)
              case atStart => exact ⟨0, Nat.zero_le _, rfl, Mem.refl _⟩
              case round =>
                obtain ⟨k, hk, rfl, hmq⟩ := hrel
                by_cases hlk : k < 5
                · have hlk' : (k : Int) - 1 < 4 := by omega
                  obtain ⟨x0, x1⟩ := HT.out _ hmq
                  obtain ⟨j1, j2⟩ := HI.out _ hmq
                  obtain ⟨q, hq⟩ : ∃ q : Int, (k : Int) - 1 = q := ⟨_, rfl⟩
                  have HQ : Hid (q + 1 = ((k + 1 : Nat) : Int) - 1) := by show _ = _; omega
                  have hq1 : -1 ≤ q := by omega
                  have hq2 : q ≤ 3 := by omega
                  rw [hq] at hlk' ⊢
                  clear hq
                  go_wp2_with fail
                  refine (lawSame (ms, ks) om ob1 cm cb1 _ q _ j1 j2 hl1 hl2 HW.out (by unfold wfZ; omega)).mono ?_
                  rintro e w5 ⟨rfl, m5⟩
                  have m5' := hmq.trans m5
                  clear x0 x1 j1 j2
                  go_wp2_with fail
                  go_roundw
                  case rel => exact ⟨k + 1, by omega, int_eq HQ.out, m5'⟩
                  case measure => simp [intOf]; omega
                · have hlk' : 4 ≤ (k : Int) - 1 := by omega
                  clear hlk
                  go_wp2_with fail
                  refine (awake _).mono ?_
                  rintro e w6 ⟨rfl, m6⟩
                  go_wp2_with fail
                  go_ret
                  exact ⟨rfl, hmr.trans (hmq.trans m6)⟩
            · have hge : (z.length : Int) ≤ (j : Int) := by omega
              clear hgo hlt
              go_wp2_with fail
              have HW : Hid (WfT (ms, ks)) := ⟨HMW.out, HKW.out⟩
              have HI := hide (fun (w' : World) (h : Mem wr w') => And.intro (M.2.1.ints.1.mem h) (M.2.1.ints.2.mem h))
              have HT := hide (fun (w' : World) (h : Mem wr w') => And.intro ((M.1.mem h).cell (j := 0) rfl) ((M.1.mem h).cell (j := 1) rfl))
              have hmr := M.2.2.1
              have hl1 : ms.length ≤ 1000 := by omega
              have hl2 : ks.length ≤ 1000 := by omega
              clear M
              go_loopw [10] (fun c wq => ∃ k : Nat, k ≤ 5 ∧ c = .int .i64 ((k : Int) - 1) ∧ Mem wr wq) (fun c _ => 5 - (intOf c + 1).toNat)
              case atStart => exact ⟨0, Nat.zero_le _, rfl, Mem.refl _⟩
              case round =>
                obtain ⟨k, hk, rfl, hmq⟩ := hrel
                by_cases hlk : k < 5
                · have hlk' : (k : Int) - 1 < 4 := by omega
                  obtain ⟨x0, x1⟩ := HT.out _ hmq
                  obtain ⟨j1, j2⟩ := HI.out _ hmq
                  obtain ⟨q, hq⟩ : ∃ q : Int, (k : Int) - 1 = q := ⟨_, rfl⟩
                  have HQ : Hid (q + 1 = ((k + 1 : Nat) : Int) - 1) := by show _ = _; omega
                  have hq1 : -1 ≤ q := by omega
                  have hq2 : q ≤ 3 := by omega
                  rw [hq] at hlk' ⊢
                  clear hq
                  go_wp2_with fail
                  refine (lawSame (ms, ks) om ob1 cm cb1 _ q _ j1 j2 hl1 hl2 HW.out (by unfold wfZ; omega)).mono ?_
                  rintro e w5 ⟨rfl, m5⟩
                  have m5' := hmq.trans m5
                  clear x0 x1 j1 j2
                  go_wp2_with fail
                  go_roundw
                  case rel => exact ⟨k + 1, by omega, int_eq HQ.out, m5'⟩
                  case measure => simp [intOf]; omega
                · have hlk' : 4 ≤ (k : Int) - 1 := by omega
                  clear hlk
                  go_wp2_with fail
                  refine (awake _).mono ?_
                  rintro e w6 ⟨rfl, m6⟩
                  go_wp2_with fail
                  go_ret
                  exact ⟨rfl, hmr.trans (hmq.trans m6)⟩
      · have hge : (y.length : Int) ≤ (j : Int) := by omega
        clear hgo hlt
        go_wp2_with fail
        have HMW := HKW
        have M0 := M
        have hm64 := hk64
        clear M HKW hk64
        generalize ks = ms at *
        generalize om1 = om at *
        generalize cm1 = cm at *
        go_loopw [9] (fun i wr => ∃ (j : Nat) (vv : Value) (ks : List Int), i = .int .i64 j ∧ j ≤ z.length ∧ j ≤ 64 ∧ ks.length = j ∧ (∀ x ∈ ks, wfZ x) ∧ TM w w.heap.size wr (.slice om ms.length cm) vv ms ks) (fun i _ => z.length - (intOf i).toNat)
        case atStart => exact ⟨0, _, [], rfl, Nat.zero_le _, by omega, rfl, by simp, M0⟩
        case round =>
          clear M0
          obtain ⟨j, vv, ks, rfl, hj, hj64, hjl, hkw, M⟩ := hrel
          have HKW := hide hkw
          clear hkw
          obtain ⟨ob1, cb1, rfl⟩ := owns_shape M.2.1.2.1
          have r2 := M.1.cell (j := 1) rfl
          by_cases hgo : j < z.length ∧ j < 64
          · obtain ⟨hlt, hlt64⟩ := hgo
            have hlt' : (j : Int) < (z.length : Int) := by omega
            have hlt64' : (j : Int) < 64 := by omega
            have hj0 : (0 : Int) ≤ (j : Int) := by omega
            obtain ⟨yb, yo, rfl, hc⟩ := (hz.mem M.2.2.1).at (by omega)
            have cj := hc j hlt
            have hx := HZ.out _ (mem_getD.2 ⟨j, hlt, rfl⟩)
            generalize z.getD j 0 = x at *
            obtain ⟨hx0, hx1⟩ := hx
            have HV : Hid (wfZ (IntKind.i64.wrap ((IntKind.i64.wrap x).tmod 40 - 1))) := by show wfZ _; rw [rem_val hx0 hx1 (by decide) (by decide)]; unfold wfZ; omega
            have hsz := M.size
            have hown := M.2.1.2.1
            have a1' := (M.1.alloc (.cells #[.int .i64 (IntKind.i64.wrap ((IntKind.i64.wrap x).tmod 40 - 1))] 3)).cell (j := 1) rfl
            have HM := hide M
            have HJ := hide hjl
            clear M hc hjl
            go_wp2_with fail
            go_region_law ((refine step_pushA_drew (by rfl) _ _ (by rfl) (w.heap.size + 1) _ ks ks.length (by rfl) hown hsz (IntKind.i64.wrap ((IntKind.i64.wrap x).tmod 40 - 1)) (by rfl) (by have := HJ.out; omega) ?_; intro v' w' h1 h2 h3; obtain ⟨ov', cv', rfl⟩ := owns_shape h1; have d2 := (HM.out.1.below (grown_below hown h2 hsz) (by omega)).cell (j := 1) rfl; have e2 := (HM.out.1.below (grown_below hown h2 hsz) (by omega)).frozen 1))
            all_goals (
              have M' := HM.out.pushB h1 h2 h3
              clear d2 e2 h1 h2 h3 r2 a1' hown hsz
              go_wp2_with fail
              go_roundw
              case rel => exact ⟨j + 1, _, ks ++ [IntKind.i64.wrap ((IntKind.i64.wrap x).tmod 40 - 1)], by go_num, by omega, by omega, by simp [HJ.out], all_snoc HKW.out HV.out, M'⟩
              case measure => simp [intOf]; omega)
          · have hk64 : ks.length ≤ 64 := by omega
            clear r2 hjl
            by_cases hlt : j < z.length
            · have hlt' : (j : Int) < (z.length : Int) := by omega
              have hge : (64 : Int) ≤ (j : Int) := by omega
              clear hgo hlt
              go_wp2_with fail
              have HW : Hid (WfT (ms, ks)) := ⟨HMW.out, HKW.out⟩
              have HI := hide (fun (w' : World) (h : Mem wr w') => And.intro (M.2.1.ints.1.mem h) (M.2.1.ints.2.mem h))
              have HT := hide (fun (w' : World) (h : Mem wr w') => And.intro ((M.1.mem h).cell (j := 0) rfl) ((M.1.mem h).cell (j := 1) rfl))
              have hmr := M.2.2.1
              have hl1 : ms.length ≤ 1000 := by omega
              have hl2 : ks.length ≤ 1000 := by omega
              clear M
              go_loopw [10] (fun c wq => ∃ k : Nat, k ≤ 5 ∧ c = .int .i64 ((k : Int) - 1) ∧ Mem wr wq) (fun c _ => 5 - (intOf c + 1).toNat)
              case atStart => exact ⟨0, Nat.zero_le _, rfl, Mem.refl _⟩
              case round =>
                obtain ⟨k, hk, rfl, hmq⟩ := hrel
                by_cases hlk : k < 5
                · have hlk' : (k : Int) - 1 < 4 := by omega
                  obtain ⟨x0, x1⟩ := HT.out _ hmq
                  obtain ⟨j1, j2⟩ := HI.out _ hmq
                  obtain ⟨q, hq⟩ : ∃ q : Int, (k : Int) - 1 = q := ⟨_, rfl⟩
                  have HQ : Hid (q + 1 = ((k + 1 : Nat) : Int) - 1) := by show _ = _; omega
                  have hq1 : -1 ≤ q := by omega
                  have hq2 : q ≤ 3 := by omega
                  rw [hq] at hlk' ⊢
                  clear hq
                  go_wp2_with fail
                  refine (lawSame (ms, ks) om ob1 cm cb1 _ q _ j1 j2 hl1 hl2 HW.out (by unfold wfZ; omega)).mono ?_
                  rintro e w5 ⟨rfl, m5⟩
                  have m5' := hmq.trans m5
                  clear x0 x1 j1 j2
                  go_wp2_with fail
                  go_roundw
                  case rel => exact ⟨k + 1, by omega, int_eq HQ.out, m5'⟩
                  case measure => simp [intOf]; omega
                · have hlk' : 4 ≤ (k : Int) - 1 := by omega
                  clear hlk
                  go_wp2_with fail
                  refine (awake _).mono ?_
                  rintro e w6 ⟨rfl, m6⟩
                  go_wp2_with fail
                  go_ret
                  exact ⟨rfl, hmr.trans (hmq.trans m6)⟩
            · have hge : (z.length : Int) ≤ (j : Int) := by omega
              clear hgo hlt
              go_wp2_with fail
              have HW : Hid (WfT (ms, ks)) := ⟨HMW.out, HKW.out⟩
              have HI := hide (fun (w' : World) (h : Mem wr w') => And.intro (M.2.1.ints.1.mem h) (M.2.1.ints.2.mem h))
              have HT := hide (fun (w' : World) (h : Mem wr w') => And.intro ((M.1.mem h).cell (j := 0) rfl) ((M.1.mem h).cell (j := 1) rfl))
              have hmr := M.2.2.1
              have hl1 : ms.length ≤ 1000 := by omega
              have hl2 : ks.length ≤ 1000 := by omega
              clear M
              go_loopw [10] (fun c wq => ∃ k : Nat, k ≤ 5 ∧ c = .int .i64 ((k : Int) - 1) ∧ Mem wr wq) (fun c _ => 5 - (intOf c + 1).toNat)
              case atStart => exact ⟨0, Nat.zero_le _, rfl, Mem.refl _⟩
              case round =>
                obtain ⟨k, hk, rfl, hmq⟩ := hrel
                by_cases hlk : k < 5
                · have hlk' : (k : Int) - 1 < 4 := by omega
                  obtain ⟨x0, x1⟩ := HT.out _ hmq
                  obtain ⟨j1, j2⟩ := HI.out _ hmq
                  obtain ⟨q, hq⟩ : ∃ q : Int, (k : Int) - 1 = q := ⟨_, rfl⟩
                  have HQ : Hid (q + 1 = ((k + 1 : Nat) : Int) - 1) := by show _ = _; omega
                  have hq1 : -1 ≤ q := by omega
                  have hq2 : q ≤ 3 := by omega
                  rw [hq] at hlk' ⊢
                  clear hq
                  go_wp2_with fail
                  refine (lawSame (ms, ks) om ob1 cm cb1 _ q _ j1 j2 hl1 hl2 HW.out (by unfold wfZ; omega)).mono ?_
                  rintro e w5 ⟨rfl, m5⟩
                  have m5' := hmq.trans m5
                  clear x0 x1 j1 j2
                  go_wp2_with fail
                  go_roundw
                  case rel => exact ⟨k + 1, by omega, int_eq HQ.out, m5'⟩
                  case measure => simp [intOf]; omega
                · have hlk' : 4 ≤ (k : Int) - 1 := by omega
                  clear hlk
                  go_wp2_with fail
                  refine (awake _).mono ?_
                  rintro e w6 ⟨rfl, m6⟩
                  go_wp2_with fail
                  go_ret
                  exact ⟨rfl, hmr.trans (hmq.trans m6)⟩
end Go.Proofs.Ytamngecgkkgnpaa.Live
