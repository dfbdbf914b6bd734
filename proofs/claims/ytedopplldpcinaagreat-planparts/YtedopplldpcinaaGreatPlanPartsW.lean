/-
  Layer 12: the walk of PlanParts. (By mk_plan.py.)
-/
import Derived.Test.YtedopplldpcinaaGreatPlanCode
import Derived.Test.YtedopplldpcinaaGreatPlanMadeAll
import Derived.Test.YtedopplldpcinaaGreatReplayLaws
import Derived.Test.YtedopplldpcinaaGreatLiveLawMath
import Derived.Test.YtedopplldpcinaaGreatReplayRefAll
import Derived.Test.YtedopplldpcinaaGreatMemLow
import Derived.Test.YtedopplldpcinaaGreatTabsAll
import Derived.Deep.DeepCutAuto
import Derived.Deep.LoopGhost
namespace Go.Proofs.YtedopplldpcinaaGreat.Plan
open Go.RowKit Go.Proofs.YtedopplldpcinaaGreat.Nand Go.Proofs.YtedopplldpcinaaGreat.States Go.Proofs.YtedopplldpcinaaGreat.Live Go.Proofs.YtedopplldpcinaaGreat.Replay Go.Proofs.YtedopplldpcinaaGreat.Scan Go.Proofs.YtedopplldpcinaaGreat.Victim
attribute [local irreducible] applyT foldT newT fillT

set_option maxHeartbeats 40000000 in
set_option maxRecDepth 100000 in
theorem planParts_walk (a0 : Option Addr) (len0 cap0 : Nat) (z0 : List Int) (a1 : Int) (a2 : Int) (a3 : Int) (w : World) (w0 : IsRow .u16 w a0 len0 cap0 z0) (w1 : (Lit.int .u8 a1).wf = true) (w2 : (Lit.int .u8 a2).wf = true) (w3 : (Lit.int .u8 a3).wf = true) :
    Calls Tryz.prog 6 #[.slice a0 len0 cap0, .int .u8 a1, .int .u8 a2, .int .u8 a3] w fun e w' => e = .returned (.bool true) ∧ Below w.heap.size w w' := by
  obtain ⟨hz, hwf0⟩ := Ints.of_row w0
  obtain ⟨hl01, hl02⟩ := row_len w0
  have HZ : Hid (∀ x ∈ z0.take len0, 0 ≤ x ∧ x ≤ 65535) := fun x h => wf_u16 (hwf0 x h)
  clear hwf0 w0
  generalize z0.take len0 = z at *
  subst hl01
  have hb1 := wf_u8 w1
  clear w1
  obtain ⟨n1, rfl⟩ := Int.eq_ofNat_of_zero_le hb1.1
  have hb2 := wf_u8 w2
  clear w2
  obtain ⟨n2, rfl⟩ := Int.eq_ofNat_of_zero_le hb2.1
  have hb3 := wf_u8 w3
  clear w3
  obtain ⟨n3, rfl⟩ := Int.eq_ofNat_of_zero_le hb3.1
  obtain ⟨N, hN, hN64⟩ : ∃ N : Nat, (n1 : Int) % 65 = (N : Int) ∧ N ≤ 64 := ⟨n1 % 65, by omega, by omega⟩
  go_enter Tryz.func6, Tryz.ntmps6
  go_wp2_with fail
  (try rw [hN])
  refine (lawFilled a0 cap0 z 3 4 _ hz hl02 HZ.out (by omega) (by omega) (by omega) (by omega)).mono ?_
  rintro e w2 ⟨⟨v2, bs0, br, off, ops, rfl, hb, kk, hkk, hI⟩, m2⟩
  have HF := hide (fillT_few (few_inv hI.1.1 (show 3 ≤ 32 by omega) (by omega)))
  have HSZ := hide (fillT_sized (n := maxLen) hI.1.1.2.2)
  have HDS : Hid (DataS (fillT bs0)) := fillT_data (by decide) hI.2.2
  clear hI hkk
  generalize fillT bs0 = bs at *
  have hm := m2
  obtain ⟨oc, cc, rfl⟩ := hb.shape
  simp only [chipV]
  have hbl := hb.1
  unfold maxLen at hbl
  have hax : Mem w2 (w2.alloc (.cells #[.slice oc bs.length cc, .bool br, .bool off, .int .i64 ops] 24)) := (Mem.refl w2).alloc _
  have hX := Blk.new w2 #[.slice oc bs.length cc, .bool br, .bool off, .int .i64 ops] 24
  have hbX := (hb.mono (S' := fun x => x < w2.heap.size) fun g _ hl => hl).mem hax
  have hmX := hm.trans hax
  have hBw : w.heap.size ≤ w2.heap.size := hm.size
  have c0 := hX.cell (j := 0) rfl
  have c1 := hX.cell (j := 1) rfl
  have c2 := hX.cell (j := 2) rfl
  have c3 := hX.cell (j := 3) rfl
  clear hb hm
  go_wp2_with fail
  have hBt : (w2.alloc (.cells #[.slice oc bs.length cc, .bool br, .bool off, .int .i64 ops] 24)).heap.size = w2.heap.size + 1 := by simp
  generalize hWX : w2.alloc (.cells #[.slice oc bs.length cc, .bool br, .bool off, .int .i64 ops] 24) = W at *
  clear hWX hax
  generalize w2.heap.size = Bc at *
  clear hz HZ hl02 HF HSZ c0 c1 c2 c3
  have hmW := hmX
  have hM0 := TM.start W
  rw [hBt] at hM0
  clear hBt
  generalize hWT : W.alloc (.cells #[.slice none 0 0, .slice none 0 0] 27) = WT at *
  clear hWT
  go_loopg [11] N (fun g i wr => ∃ (j : Nat) (vm vb : Value) (ms ns : List Int), i = .int .i64 j ∧ g = N - j ∧ j ≤ N ∧ ms.length = j ∧ ns.length = j ∧ (∀ x ∈ ms, wfZ x) ∧ (∀ x ∈ ns, wfZ x) ∧ TM W (Bc + 1) wr vm vb ms ns)
  case atStart => exact ⟨0, _, _, [], [], rfl, rfl, Nat.zero_le _, rfl, rfl, by simp, by simp, hM0⟩
  case round =>
    clear hM0
    obtain ⟨j, vm, vb, ms, ns, rfl, rfl, hj, hjl, hnl, hmw, hnw, M⟩ := hrel
    have HMW := hide hmw
    have HNW := hide hnw
    clear hmw hnw
    obtain ⟨om, cm, rfl⟩ := owns_shape M.2.1.1
    obtain ⟨ob, cb, rfl⟩ := owns_shape M.2.1.2.1
    have hj0 : (0 : Int) ≤ (j : Int) := by omega
    by_cases hlt : j < N
    · have hlt' : (j : Int) < (N : Int) := by omega
      obtain ⟨q, hq⟩ : ∃ q : Nat, ((j * n2) / 7) % 5 = q := ⟨_, rfl⟩
      have hq5 : q < 5 := by omega
      have hmul : (j * n2) ≤ 64 * 255 := Nat.mul_le_mul (by omega) (by omega)
      obtain ⟨jm, hjm⟩ : ∃ jm : Nat, j * n2 = jm := ⟨_, rfl⟩
      rw [hjm] at hq hmul
      have hjmI : (j : Int) * (n2 : Int) = (jm : Int) := by rw [← hjm]; push_cast; rfl
      have hw0 : IntKind.i64.wrap (n2 : Int) = (n2 : Int) := i64_same (by omega) (by omega)
      have hw1 : IntKind.i64.wrap (jm : Int) = (jm : Int) := i64_same (by omega) (by omega)
      obtain ⟨j7, hj7⟩ : ∃ j7 : Nat, jm / 7 = j7 := ⟨_, rfl⟩
      obtain ⟨j5, hj5⟩ : ∃ j5 : Nat, jm / 5 = j5 := ⟨_, rfl⟩
      obtain ⟨r, hr⟩ : ∃ r : Nat, j5 % 5 = r := ⟨_, rfl⟩
      have hr5 : r < 5 := by omega
      have hw2 : IntKind.i64.wrap ((jm : Int) / 7) = (j7 : Int) := by rw [i64_same (by omega) (by omega)]; omega
      have hw4 : (j7 : Int).tmod 5 = (q : Int) := by rw [Int.tmod_eq_emod_of_nonneg (by omega)]; omega
      have hv2 : IntKind.i64.wrap ((jm : Int) / 5) = (j5 : Int) := by rw [i64_same (by omega) (by omega)]; omega
      have hv4 : (j5 : Int).tmod 5 = (r : Int) := by rw [Int.tmod_eq_emod_of_nonneg (by omega)]; omega
      have hq0 : (0 : Int) ≤ (q : Int) := by omega
      have hq50 : (q : Int) < 5 := by omega
      have hr0 : (0 : Int) ≤ (r : Int) := by omega
      have hr50 : (r : Int) < 5 := by omega
      have HVM := hide (zm_wf q hq5)
      have HVB := hide (zb_wf r hr5)
      have HJ := hide hjl
      have HJ2 := hide hnl
      clear hq hjm hjl hnl hj7 hj5 hr
      go_wp2_with fail
      go_cut [11] (fun i wx => i = .int .i64 (j : Int) ∧ ∃ vm', TM W (Bc + 1) wx vm' (.slice ob ns.length cb) (ms ++ [zm q]) ns)
      case first =>
        have hqL0 : q < ([.int .i64 0, .int .i64 0, .int .i64 1, .int .i64 16, .int .i64 (-1)] : List Value).length := hq5
        have hLq0 : ([.int .i64 0, .int .i64 0, .int .i64 1, .int .i64 16, .int .i64 (-1)] : List Value)[q]'hqL0 = .int .i64 (zm q) := zm_get q hqL0
        have M8 := M.mem ((Mem.refl wr).alloc (.cells #[.int .i64 0, .int .i64 0, .int .i64 1, .int .i64 16, .int .i64 (-1)] 3))
        have hsz := M8.size
        have hown := M8.2.1.1
        have r2 := M.1.cell (j := 0) rfl
        have r3 := M8.1.cell (j := 0) rfl
        have r4 := (M8.1.alloc (.cells #[.int .i64 (zm q)] 3)).cell (j := 0) rfl
        have hB : Bc + 1 < wr.heap.size := M.1.lt
        have HM := hide M8
        clear M M8
        go_region_law ((refine step_pushA_at (by rfl) _ _ (by rfl) (Bc + 1 + 1) _ ms ms.length (by rfl) hown hsz (zm q) (wr.heap.size + 1) (World.size_alloc _ _).symm (by rfl) (by have := HJ.out; omega) ?_; intro v' w' h1 h2 h3; obtain ⟨ov', cv', rfl⟩ := owns_shape h1; have d2 := (HM.out.1.below (grown_below hown h2 hsz) (by omega)).cell (j := 0) rfl; have e2 := (HM.out.1.below (grown_below hown h2 hsz) (by omega)).frozen 0))
        all_goals (
          have M' := HM.out.pushM h1 h2 h3
          clear d2 e2 h1 h2 h3 r2 r3 r4 hown hsz
          (try go_wp2_with fail)
          go_meet
          exact ⟨rfl, _, M'⟩)
      case rest =>
        clear M
        obtain ⟨rfl, vm2, M⟩ := hcut
        have hlm : (ms ++ [zm q]).length = j + 1 := by simp [HJ.out]
        have HLM := hide hlm
        clear hlm
        have HMW2 := hide (all_snoc HMW.out HVM.out)
        generalize ms ++ [zm q] = ms2 at *
        obtain ⟨om2, cm2, rfl⟩ := owns_shape M.2.1.1
        (try go_wp2_with fail)
        have hqL1 : r < ([.int .i64 2, .int .i64 1, .int .i64 33, .int .i64 17, .int .i64 2] : List Value).length := hr5
        have hLq1 : ([.int .i64 2, .int .i64 1, .int .i64 33, .int .i64 17, .int .i64 2] : List Value)[r]'hqL1 = .int .i64 (zb r) := zb_get r hqL1
        have M8 := M.mem ((Mem.refl wc).alloc (.cells #[.int .i64 2, .int .i64 1, .int .i64 33, .int .i64 17, .int .i64 2] 3))
        have hsz := M8.size
        have hown := M8.2.1.2.1
        have r2 := M.1.cell (j := 1) rfl
        have r3 := M8.1.cell (j := 1) rfl
        have r4 := (M8.1.alloc (.cells #[.int .i64 (zb r)] 3)).cell (j := 1) rfl
        have hB : Bc + 1 < wc.heap.size := M.1.lt
        have HM := hide M8
        clear M M8
        go_region_law ((refine step_pushA_at (by rfl) _ _ (by rfl) (Bc + 1 + 1) _ ns ns.length (by rfl) hown hsz (zb r) (wc.heap.size + 1) (World.size_alloc _ _).symm (by rfl) (by have := HJ2.out; omega) ?_; intro v' w' h1 h2 h3; obtain ⟨ov', cv', rfl⟩ := owns_shape h1; have d2 := (HM.out.1.below (grown_below hown h2 hsz) (by omega)).cell (j := 1) rfl; have e2 := (HM.out.1.below (grown_below hown h2 hsz) (by omega)).frozen 1))
        all_goals (
          have M' := HM.out.pushB h1 h2 h3
          clear d2 e2 h1 h2 h3 r2 r3 r4 hown hsz
          go_wp2_with fail
          go_roundg (N - (j + 1))
          case measure => omega
          case rel => exact ⟨j + 1, _, _, ms2, ns ++ [zb r], by go_num, rfl, by omega, HLM.out, by simp [HJ2.out], HMW2.out, all_snoc HNW.out HVB.out, M'⟩)
    · have hje : j = N := by omega
      have hlt' : ¬ ((j : Int) < (N : Int)) := by omega
      have hl1 : ms.length ≤ 64 := by omega
      have hl2 : ns.length ≤ 64 := by omega
      clear hjl hnl
      have HC : Hid (∀ w', Mem wr w' → w'.cell? ⟨Bc, 0, none⟩ = some (.slice oc bs.length cc) ∧ w'.cell? ⟨Bc, 1, none⟩ = some (.bool br) ∧ w'.cell? ⟨Bc, 2, none⟩ = some (.bool off) ∧ w'.cell? ⟨Bc, 3, none⟩ = some (.int .i64 ops) ∧ w'.cell? ⟨Bc + 1, 0, none⟩ = some (.slice om ms.length cm) ∧ w'.cell? ⟨Bc + 1, 1, none⟩ = some (.slice ob ns.length cb)) := fun w' m => ⟨(hX.mem (M.2.2.1.trans m)).cell (j := 0) rfl, (hX.mem (M.2.2.1.trans m)).cell (j := 1) rfl, (hX.mem (M.2.2.1.trans m)).cell (j := 2) rfl, (hX.mem (M.2.2.1.trans m)).cell (j := 3) rfl, (M.1.mem m).cell (j := 0) rfl, (M.1.mem m).cell (j := 1) rfl⟩
      have HWF : Hid (WfT (ms, ns)) := ⟨HMW.out, HNW.out⟩
      have HS := hide (fun b d s (w' : World) (m : Mem wr w') (hdd : d.size ≤ maxLen) => same (fun _ => True) _ bs br off ops (ms, ns) om ob cm cb b d s w' ((hbX.mono fun _ _ _ => trivial).mem (M.2.2.1.trans m)) (((IntsIn.of_owns M.2.1.1).mono fun _ _ _ => trivial).mem m) (((IntsIn.of_owns M.2.1.2.1).mono fun _ _ _ => trivial).mem m) (show ms.length ≤ 1000 by omega) (show ns.length ≤ 1000 by omega) HWF.out HDS.out hdd)
      have hmF := hmW.trans M.2.2.1
      clear hX hbX M HMW HNW HWF
      obtain ⟨wo, hwo⟩ : ∃ x, x = wr := ⟨_, rfl⟩
      subst hwo
      go_wp2_with fail
      go_loopw [12] (fun b w3 => ∃ k : Nat, k ≤ 3 ∧ b = .int .i64 k ∧ Mem wo w3) (fun b _ => 3 - (intOf b).toNat)
      case atStart => exact ⟨0, by omega, rfl, Mem.refl _⟩
      case round =>
        obtain ⟨k, hk, rfl, hmr⟩ := hrel
        have hk0 : (0 : Int) ≤ (k : Int) := by omega
        by_cases hk3 : k < 3
        · have hk3' : (k : Int) < 3 := by omega
          obtain ⟨c0, c1, c2, c3, t0, t1⟩ := HC.out _ hmr
          go_wp2_with fail
          refine (HS.out _ _ _ _ hmr (by first | decide | (unfold dT; split <;> decide))).mono ?_
          rintro e w6 ⟨rfl, m6⟩
          go_wp2_with fail
          go_roundw
          case rel => exact ⟨k + 1, by omega, by go_num, hmr.trans m6⟩
          case measure => simp [intOf]; omega
        · have hke : k = 3 := by omega
          subst hke
          go_wp2_with fail
          refine (awake _).mono ?_
          rintro e wa ⟨rfl, ma⟩
          go_wp2_with fail
          go_ret
          exact ⟨rfl, (hmF.trans hmr).trans ma⟩
end Go.Proofs.YtedopplldpcinaaGreat.Plan
