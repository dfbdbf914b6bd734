/-
  Layer 12: the walk of PlanTables. (By mk_plan.py.)
-/
import Derived.Test.YtedopplldpcinaaGreatPlanCode
import Derived.Test.YtedopplldpcinaaGreatPlanMadeAll
import Derived.Test.YtedopplldpcinaaGreatReplayLaws
import Derived.Test.YtedopplldpcinaaGreatLiveLawMath
import Derived.Test.YtedopplldpcinaaGreatReplayRefAll
import Derived.Test.YtedopplldpcinaaGreatMemLow
import Derived.Test.YtedopplldpcinaaGreatTabsAll
import Derived.Deep.CutBlock
import Derived.Deep.DeepCutAuto
import Derived.Deep.LoopGhost
namespace Go.Proofs.YtedopplldpcinaaGreat.Plan
open Go.RowKit Go.Proofs.YtedopplldpcinaaGreat.Nand Go.Proofs.YtedopplldpcinaaGreat.States Go.Proofs.YtedopplldpcinaaGreat.Live Go.Proofs.YtedopplldpcinaaGreat.Replay Go.Proofs.YtedopplldpcinaaGreat.Scan Go.Proofs.YtedopplldpcinaaGreat.Victim
attribute [local irreducible] applyT foldT newT fillT

set_option maxHeartbeats 40000000 in
set_option maxRecDepth 100000 in
theorem planTables_walk (a0 : Option Addr) (len0 cap0 : Nat) (z0 : List Int) (a1 : Option Addr) (len1 cap1 : Nat) (z1 : List Int) (a2 : Option Addr) (len2 cap2 : Nat) (z2 : List Int) (a3 : Int) (a4 : Int) (w : World) (w0 : IsRow .u16 w a0 len0 cap0 z0) (w1 : IsRow .u8 w a1 len1 cap1 z1) (w2 : IsRow .u8 w a2 len2 cap2 z2) (w3 : (Lit.int .u8 a3).wf = true) (w4 : (Lit.int .u8 a4).wf = true) :
    Calls Tryz.prog 5 #[.slice a0 len0 cap0, .slice a1 len1 cap1, .slice a2 len2 cap2, .int .u8 a3, .int .u8 a4] w fun e w' => e = .returned (.bool true) ∧ Below w.heap.size w w' := by
  obtain ⟨hz, hwf0⟩ := Ints.of_row w0
  obtain ⟨hl01, hl02⟩ := row_len w0
  have HZ : Hid (∀ x ∈ z0.take len0, 0 ≤ x ∧ x ≤ 65535) := fun x h => wf_u16 (hwf0 x h)
  clear hwf0 w0
  generalize z0.take len0 = z at *
  subst hl01
  obtain ⟨hy, hwf1⟩ := Ints.of_row w1
  obtain ⟨hl11, hl12⟩ := row_len w1
  have HY : Hid (∀ x ∈ z1.take len1, 0 ≤ x ∧ x ≤ 255) := fun x h => wf_u8 (hwf1 x h)
  clear hwf1 w1
  generalize z1.take len1 = y at *
  subst hl11
  obtain ⟨hk, hwf2⟩ := Ints.of_row w2
  obtain ⟨hl21, hl22⟩ := row_len w2
  have HK : Hid (∀ x ∈ z2.take len2, 0 ≤ x ∧ x ≤ 255) := fun x h => wf_u8 (hwf2 x h)
  clear hwf2 w2
  generalize z2.take len2 = k at *
  subst hl21
  have hb3 := wf_u8 w3
  clear w3
  obtain ⟨n3, rfl⟩ := Int.eq_ofNat_of_zero_le hb3.1
  have hb4 := wf_u8 w4
  clear w4
  obtain ⟨n4, rfl⟩ := Int.eq_ofNat_of_zero_le hb4.1
  obtain ⟨q, hq⟩ : ∃ q : Nat, (n4 : Int) % 4 = (q : Int) := ⟨n4 % 4, by omega⟩
  have hq4 : q < 4 := by omega
  have hyl := hy.1
  have hkl := hk.1
  unfold maxLen at hyl hkl
  have Hy := hide hy
  have Hk := hide hk
  clear hy hk
  go_enter Tryz.func5, Tryz.ntmps5
  go_wp2_with fail
  (try rw [hN])
  refine (lawFilled a0 cap0 z 3 4 _ hz hl02 HZ.out (by omega) (by omega) (by omega) (by omega)).mono ?_
  rintro e w2 ⟨⟨v2, bs0, br, off, ops, rfl, hb, kk, hkk, hI⟩, m2⟩
  have HF := hide (fillT_few (few_inv hI.1.1 (show 3 ≤ 32 by omega) (by omega)))
  have HSZ := hide (fillT_sized (n := maxLen) hI.1.1.2.2)
  have HDS : Hid (DataS (fillT bs0)) := fillT_data (by decide) hI.2.2
  clear hI hkk
  generalize fillT bs0 = bs at *
  have hm := m2
  obtain ⟨oc, cc, rfl⟩ := hb.shape
  simp only [chipV]
  have hbl := hb.1
  unfold maxLen at hbl
  have hax : Mem w2 (w2.alloc (.cells #[.slice oc bs.length cc, .bool br, .bool off, .int .i64 ops] 24)) := (Mem.refl w2).alloc _
  have hX := Blk.new w2 #[.slice oc bs.length cc, .bool br, .bool off, .int .i64 ops] 24
  have hbX := (hb.mono (S' := fun x => x < w2.heap.size) fun g _ hl => hl).mem hax
  have hmX := hm.trans hax
  have hBw : w.heap.size ≤ w2.heap.size := hm.size
  have c0 := hX.cell (j := 0) rfl
  have c1 := hX.cell (j := 1) rfl
  have c2 := hX.cell (j := 2) rfl
  have c3 := hX.cell (j := 3) rfl
  clear hb hm
  go_wp2_with fail
  have hBt : (w2.alloc (.cells #[.slice oc bs.length cc, .bool br, .bool off, .int .i64 ops] 24)).heap.size = w2.heap.size + 1 := by simp
  generalize hWX : w2.alloc (.cells #[.slice oc bs.length cc, .bool br, .bool off, .int .i64 ops] 24) = W at *
  clear hWX hax
  generalize w2.heap.size = Bc at *
  clear hz HZ hl02 HF HSZ c0 c1 c2 c3
  have hmW := hmX
  have hM0 := TM.start W
  rw [hBt] at hM0
  clear hBt
  generalize hWT : W.alloc (.cells #[.slice none 0 0, .slice none 0 0] 27) = WT at *
  clear hWT
  go_loopw [13] (fun i wr => ∃ (j : Nat) (vv : Value) (ks : List Int), i = .int .i64 j ∧ j ≤ y.length ∧ j ≤ 64 ∧ ks.length = j ∧ (∀ x ∈ ks, wfZ x) ∧ TM W (Bc + 1) wr vv (.slice none 0 0) ks []) (fun i _ => y.length - (intOf i).toNat)
  case atStart => exact ⟨0, _, [], rfl, Nat.zero_le _, by omega, rfl, by simp, hM0⟩
  case round =>
    clear hM0
    obtain ⟨j, vv, ks, rfl, hj, hj64, hjl, hkw, M⟩ := hrel
    have HKW := hide hkw
    clear hkw
    obtain ⟨ov1, cv1, rfl⟩ := owns_shape M.2.1.1
    have r2 := M.1.cell (j := 0) rfl
    have hj0 : (0 : Int) ≤ (j : Int) := by omega
    by_cases hgo : j < y.length ∧ j < 64
    · obtain ⟨hlt, hlt64⟩ := hgo
      have hlt' : (j : Int) < (y.length : Int) := by omega
      have hlt64' : (j : Int) < 64 := by omega
      obtain ⟨yb, yo, rfl, hc⟩ := (Hy.out.mem (hmW.trans M.2.2.1)).at (by omega)
      have cj := hc j hlt
      have hx := HY.out _ (mem_getD.2 ⟨j, hlt, rfl⟩)
      generalize y.getD j 0 = x at *
      obtain ⟨hx0, hx1⟩ := hx
      obtain ⟨q, hq⟩ : ∃ q : Nat, x % 8 = (q : Int) := ⟨(x % 8).toNat, by omega⟩
      have hq8 : q < 8 := by omega
      have hq' : (IntKind.i64.wrap x).tmod 8 = (q : Int) := by rw [i64_same (n := x) (by omega) (by omega), Int.tmod_eq_emod_of_nonneg hx0]; exact hq
      have hq0 : (0 : Int) ≤ (q : Int) := by omega
      have hq7 : (q : Int) < 8 := by omega
      have hqL : q < ([.int .i64 (-1), .int .i64 0, .int .i64 1, .int .i64 2, .int .i64 16, .int .i64 17, .int .i64 33, .int .i64 3] : List Value).length := hq8
      have hLq : ([.int .i64 (-1), .int .i64 0, .int .i64 1, .int .i64 2, .int .i64 16, .int .i64 17, .int .i64 33, .int .i64 3] : List Value)[q]'hqL = .int .i64 (z8 q) := z8_get q hqL
      have HV : Hid (wfZ (z8 q)) := z8_wf q hq8
      have M8 := M.mem ((Mem.refl wr).alloc (.cells #[.int .i64 (-1), .int .i64 0, .int .i64 1, .int .i64 2, .int .i64 16, .int .i64 17, .int .i64 33, .int .i64 3] 3))
      have hsz := M8.size
      have hown := M8.2.1.1
      have r3 := M8.1.cell (j := 0) rfl
      have r4 := (M8.1.alloc (.cells #[.int .i64 (z8 q)] 3)).cell (j := 0) rfl
      have hB : Bc + 1 < wr.heap.size := M.1.lt
      have cj8 := (Below.cell ((Mem.refl wr).alloc (.cells #[.int .i64 (-1), .int .i64 0, .int .i64 1, .int .i64 2, .int .i64 16, .int .i64 17, .int .i64 33, .int .i64 3] 3)) (p := ⟨yb, yo + j, none⟩) (World.block_lt_of_cell? wr _ cj)).trans cj
      have HM := hide M8
      have HJ := hide hjl
      clear M M8 hc hjl hq hx0 hx1
      go_wp2_with fail
      go_region_law ((refine step_pushA_at (by rfl) _ _ (by rfl) (Bc + 1 + 1) _ ks ks.length (by rfl) hown hsz (z8 q) (wr.heap.size + 1) (World.size_alloc _ _).symm (by rfl) (by have := HJ.out; omega) ?_; intro v' w' h1 h2 h3; obtain ⟨ov', cv', rfl⟩ := owns_shape h1; have d2 := (HM.out.1.below (grown_below hown h2 hsz) (by omega)).cell (j := 0) rfl; have e2 := (HM.out.1.below (grown_below hown h2 hsz) (by omega)).frozen 0))
      all_goals (
        have M' := HM.out.pushM h1 h2 h3
        clear d2 e2 h1 h2 h3 r2 r3 r4 hown hsz
        go_wp2_with fail
        go_roundw
        case rel => exact ⟨j + 1, _, ks ++ [z8 q], by go_num, by omega, by omega, by simp [HJ.out], all_snoc HKW.out HV.out, M'⟩
        case measure => simp [intOf]; omega)
    · have hk64 : ks.length ≤ 64 := by omega
      clear r2 hjl
      by_cases hlt : j < y.length
      · have hlt' : (j : Int) < (y.length : Int) := by omega
        have hge : (64 : Int) ≤ (j : Int) := by omega
        clear hgo hlt
        go_wp2_with fail
        have HMW := HKW
        have hm64 := hk64
        have M0 := M
        clear HKW hk64 M hj hj64 hge hj0
        generalize ks = ms at *
        generalize ov1 = om at *
        generalize cv1 = cm at *
        go_loopw [14] (fun i wr => ∃ (j : Nat) (vv : Value) (ks : List Int), i = .int .i64 j ∧ j ≤ k.length ∧ j ≤ 64 ∧ ks.length = j ∧ (∀ x ∈ ks, wfZ x) ∧ TM W (Bc + 1) wr (.slice om ms.length cm) vv ms ks) (fun i _ => k.length - (intOf i).toNat)
        case atStart => exact ⟨0, _, [], rfl, Nat.zero_le _, by omega, rfl, by simp, M0⟩
        case round =>
          clear M0
          obtain ⟨j, vv, ks, rfl, hj, hj64, hjl, hkw, M⟩ := hrel
          have HKW := hide hkw
          clear hkw
          obtain ⟨ov1, cv1, rfl⟩ := owns_shape M.2.1.2.1
          have r2 := M.1.cell (j := 1) rfl
          have hj0 : (0 : Int) ≤ (j : Int) := by omega
          by_cases hgo : j < k.length ∧ j < 64
          · obtain ⟨hlt, hlt64⟩ := hgo
            have hlt' : (j : Int) < (k.length : Int) := by omega
            have hlt64' : (j : Int) < 64 := by omega
            obtain ⟨yb, yo, rfl, hc⟩ := (Hk.out.mem (hmW.trans M.2.2.1)).at (by omega)
            have cj := hc j hlt
            have hx := HK.out _ (mem_getD.2 ⟨j, hlt, rfl⟩)
            generalize k.getD j 0 = x at *
            obtain ⟨hx0, hx1⟩ := hx
            obtain ⟨q, hq⟩ : ∃ q : Nat, x % 8 = (q : Int) := ⟨(x % 8).toNat, by omega⟩
            have hq8 : q < 8 := by omega
            have hq' : (IntKind.i64.wrap x).tmod 8 = (q : Int) := by rw [i64_same (n := x) (by omega) (by omega), Int.tmod_eq_emod_of_nonneg hx0]; exact hq
            have hq0 : (0 : Int) ≤ (q : Int) := by omega
            have hq7 : (q : Int) < 8 := by omega
            have hqL : q < ([.int .i64 (-1), .int .i64 0, .int .i64 1, .int .i64 2, .int .i64 16, .int .i64 17, .int .i64 33, .int .i64 3] : List Value).length := hq8
            have hLq : ([.int .i64 (-1), .int .i64 0, .int .i64 1, .int .i64 2, .int .i64 16, .int .i64 17, .int .i64 33, .int .i64 3] : List Value)[q]'hqL = .int .i64 (z8 q) := z8_get q hqL
            have HV : Hid (wfZ (z8 q)) := z8_wf q hq8
            have M8 := M.mem ((Mem.refl wr).alloc (.cells #[.int .i64 (-1), .int .i64 0, .int .i64 1, .int .i64 2, .int .i64 16, .int .i64 17, .int .i64 33, .int .i64 3] 3))
            have hsz := M8.size
            have hown := M8.2.1.2.1
            have r3 := M8.1.cell (j := 1) rfl
            have r4 := (M8.1.alloc (.cells #[.int .i64 (z8 q)] 3)).cell (j := 1) rfl
            have hB : Bc + 1 < wr.heap.size := M.1.lt
            have cj8 := (Below.cell ((Mem.refl wr).alloc (.cells #[.int .i64 (-1), .int .i64 0, .int .i64 1, .int .i64 2, .int .i64 16, .int .i64 17, .int .i64 33, .int .i64 3] 3)) (p := ⟨yb, yo + j, none⟩) (World.block_lt_of_cell? wr _ cj)).trans cj
            have HM := hide M8
            have HJ := hide hjl
            clear M M8 hc hjl hq hx0 hx1
            go_wp2_with fail
            go_region_law ((refine step_pushA_at (by rfl) _ _ (by rfl) (Bc + 1 + 1) _ ks ks.length (by rfl) hown hsz (z8 q) (wr.heap.size + 1) (World.size_alloc _ _).symm (by rfl) (by have := HJ.out; omega) ?_; intro v' w' h1 h2 h3; obtain ⟨ov', cv', rfl⟩ := owns_shape h1; have d2 := (HM.out.1.below (grown_below hown h2 hsz) (by omega)).cell (j := 1) rfl; have e2 := (HM.out.1.below (grown_below hown h2 hsz) (by omega)).frozen 1))
            all_goals (
              have M' := HM.out.pushB h1 h2 h3
              clear d2 e2 h1 h2 h3 r2 r3 r4 hown hsz
              go_wp2_with fail
              go_roundw
              case rel => exact ⟨j + 1, _, ks ++ [z8 q], by go_num, by omega, by omega, by simp [HJ.out], all_snoc HKW.out HV.out, M'⟩
              case measure => simp [intOf]; omega)
          · have hk64 : ks.length ≤ 64 := by omega
            clear r2 hjl
            by_cases hlt : j < k.length
            · have hlt' : (j : Int) < (k.length : Int) := by omega
              have hge : (64 : Int) ≤ (j : Int) := by omega
              clear hgo hlt
              go_wp2_with fail
              clear hj hj64 hge hj0
              have HC : Hid (∀ w', Mem wr w' → w'.cell? ⟨Bc, 0, none⟩ = some (.slice oc bs.length cc) ∧ w'.cell? ⟨Bc, 1, none⟩ = some (.bool br) ∧ w'.cell? ⟨Bc, 2, none⟩ = some (.bool off) ∧ w'.cell? ⟨Bc, 3, none⟩ = some (.int .i64 ops) ∧ w'.cell? ⟨Bc + 1, 0, none⟩ = some (.slice om ms.length cm) ∧ w'.cell? ⟨Bc + 1, 1, none⟩ = some (.slice ov1 ks.length cv1)) := fun w' m => ⟨(hX.mem (M.2.2.1.trans m)).cell (j := 0) rfl, (hX.mem (M.2.2.1.trans m)).cell (j := 1) rfl, (hX.mem (M.2.2.1.trans m)).cell (j := 2) rfl, (hX.mem (M.2.2.1.trans m)).cell (j := 3) rfl, (M.1.mem m).cell (j := 0) rfl, (M.1.mem m).cell (j := 1) rfl⟩
              have HWF : Hid (WfT (ms, ks)) := ⟨HMW.out, HKW.out⟩
              have HS := hide (fun b d s (w' : World) (m : Mem wr w') (hdd : d.size ≤ maxLen) => same (fun _ => True) _ bs br off ops (ms, ks) om ov1 cm cv1 b d s w' ((hbX.mono fun _ _ _ => trivial).mem (M.2.2.1.trans m)) (((IntsIn.of_owns M.2.1.1).mono fun _ _ _ => trivial).mem m) (((IntsIn.of_owns M.2.1.2.1).mono fun _ _ _ => trivial).mem m) (show ms.length ≤ 1000 by omega) (show ks.length ≤ 1000 by omega) HWF.out HDS.out hdd)
              have N0 := hide (Mem.drew (Mem.refl wr))
              have hmF := hmW.trans M.2.2.1
              clear hX hbX M HMW HKW HWF
              have hqd : q < ([.string ⟨#[100]⟩, .string ⟨#[101]⟩, .string ⟨#[]⟩, .string ⟨#[120]⟩] : List Value).length := hq4
              have hLd : ([.string ⟨#[100]⟩, .string ⟨#[101]⟩, .string ⟨#[]⟩, .string ⟨#[120]⟩] : List Value)[q]'hqd = .string (dT q) := dT_get q hqd
              have hq2 : (IntKind.i64.wrap (n4 : Int)).tmod 4 = (q : Int) := by rw [i64_same (n := (n4 : Int)) (by omega) (by omega), Int.tmod_eq_emod_of_nonneg (by omega)]; exact hq
              have hq0 : (0 : Int) ≤ (q : Int) := by omega
              have hq3 : (q : Int) < 4 := by omega
              clear hq
              obtain ⟨c0, c1, c2, c3, t0, t1⟩ := HC.out _ (Mem.refl wr)
              refine wp_region_held_drew (S := (fun w' => w'.cell? ⟨Bc, 0, none⟩ = some (.slice oc bs.length cc) ∧ w'.cell? ⟨Bc, 1, none⟩ = some (.bool br) ∧ w'.cell? ⟨Bc, 2, none⟩ = some (.bool off) ∧ w'.cell? ⟨Bc, 3, none⟩ = some (.int .i64 ops) ∧ w'.cell? ⟨Bc + 1, 0, none⟩ = some (.slice om ms.length cm) ∧ w'.cell? ⟨Bc + 1, 1, none⟩ = some (.slice ov1 ks.length cv1))) (by kernel_rfl) (HC.out _ N0.out) (fun hHeld => ?_)
              refine wpAnyH_ready (rs := [0]) (by kernel_rfl) (by simp) ?_
              refine AllReadyH.cons rfl (fun K hK => ?_) AllReadyH.nil
              rw [if_pos (by rfl)]
              go_simp
              go_at_call 7
              refine (awake _).mono ?_
              rintro e wa ⟨rfl, ma⟩
              have N1 := hide (Mem.trans N0.out ma)
              go_wp2_with fail
              refine hK.out _ _ (HC.out _ N1.out) (fun hHeld2 => ?_)
              clear hK K
              try simp only [Act.put, List.setIfInBounds_toArray, List.set_cons_zero, List.set_cons_succ]
              refine takeH_at (i := 1) (d := 66) (v := ?_) rfl (by kernel_rfl) (by kernel_rfl) (by kernel_rfl) (fun _ _ _ h => h) rfl (Or.inl ⟨by rfl, ?hy⟩) (by assumption) ?_
              case hy => (intro w hSw; (try dsimp only at hSw); (go_simp <;> with_reducible rfl))
              simp only [List.setIfInBounds_toArray, List.set_cons_zero, List.set_cons_succ]
              refine takeH_at (i := 2) (d := 67) (v := ?_) rfl (by kernel_rfl) (by kernel_rfl) (by kernel_rfl) (fun _ _ _ h => h) rfl (Or.inl ⟨by rfl, ?hy⟩) (by assumption) ?_
              case hy => (intro w hSw; (try dsimp only at hSw); (go_simp <;> with_reducible rfl))
              simp only [List.setIfInBounds_toArray, List.set_cons_zero, List.set_cons_succ]
              refine takeH_at (i := 3) (d := 68) (v := ?_) rfl (by kernel_rfl) (by kernel_rfl) (by kernel_rfl) (fun _ _ _ h => h) rfl (Or.inl ⟨by rfl, ?hy⟩) (by assumption) ?_
              case hy => (intro w hSw; (try dsimp only at hSw); (go_simp <;> with_reducible rfl))
              simp only [List.setIfInBounds_toArray, List.set_cons_zero, List.set_cons_succ]
              refine takeH_at (i := 4) (d := 69) (v := ?_) rfl (by kernel_rfl) (by kernel_rfl) (by kernel_rfl) (fun _ _ _ h => h) rfl (Or.inl ⟨by rfl, ?hy⟩) (by assumption) ?_
              case hy => (intro w hSw; (try dsimp only at hSw); (go_simp <;> with_reducible rfl))
              simp only [List.setIfInBounds_toArray, List.set_cons_zero, List.set_cons_succ]
              refine takeH_at (i := 5) (d := 70) (v := ?_) rfl (by kernel_rfl) (by kernel_rfl) (by kernel_rfl) (fun _ _ _ h => h) rfl (Or.inl ⟨by rfl, ?hy⟩) (by assumption) ?_
              case hy => (intro w hSw; (try dsimp only at hSw); (go_simp <;> with_reducible rfl))
              simp only [List.setIfInBounds_toArray, List.set_cons_zero, List.set_cons_succ]
              refine takeH_at (i := 6) (d := 71) (v := ?_) rfl (by kernel_rfl) (by kernel_rfl) (by kernel_rfl) (fun _ _ _ h => h) rfl (Or.inl ⟨by rfl, ?hy⟩) (by assumption) ?_
              case hy => (intro w hSw; (try dsimp only at hSw); (go_simp <;> with_reducible rfl))
              simp only [List.setIfInBounds_toArray, List.set_cons_zero, List.set_cons_succ]
              refine takeH_at (i := 8) (d := 73) (v := ?_) rfl (by kernel_rfl) (by kernel_rfl) (by kernel_rfl) (fun _ _ _ h => h) rfl (Or.inl ⟨by rfl, ?hy⟩) (by assumption) ?_
              case hy => (intro w hSw; (try dsimp only at hSw); (go_simp <;> with_reducible rfl))
              simp only [List.setIfInBounds_toArray, List.set_cons_zero, List.set_cons_succ]
              refine takeH_at (i := 9) (d := 74) (v := ?_) rfl (by kernel_rfl) (by kernel_rfl) (by kernel_rfl) (fun _ _ _ h => h) rfl (Or.inl ⟨by rfl, ?hy⟩) (by assumption) ?_
              case hy => (intro w hSw; (try dsimp only at hSw); (go_simp <;> with_reducible rfl))
              simp only [List.setIfInBounds_toArray, List.set_cons_zero, List.set_cons_succ]
              refine takeH_at (i := 10) (d := 75) (v := ?_) rfl (by kernel_rfl) (by kernel_rfl) (by kernel_rfl) (fun _ _ _ h => h) rfl (Or.inl ⟨by rfl, ?hy⟩) (by assumption) ?_
              case hy => (intro w hSw; (try dsimp only at hSw); (go_simp <;> with_reducible rfl))
              simp only [List.setIfInBounds_toArray, List.set_cons_zero, List.set_cons_succ]
              refine takeH_at (i := 13) (d := 78) (v := ?_) rfl (by kernel_rfl) (by kernel_rfl) (by kernel_rfl) (fun _ _ _ h => h) rfl (Or.inl ⟨by rfl, ?hy⟩) (by assumption) ?_
              case hy => (intro w hSw; (try dsimp only at hSw); (go_simp <;> with_reducible rfl))
              simp only [List.setIfInBounds_toArray, List.set_cons_zero, List.set_cons_succ]
              refine takeH_at (i := 14) (d := 79) (v := ?_) rfl (by kernel_rfl) (by kernel_rfl) (by kernel_rfl) (fun _ _ _ h => h) rfl (Or.inl ⟨by rfl, ?hy⟩) (by assumption) ?_
              case hy => (intro w hSw; (try dsimp only at hSw); (go_simp <;> with_reducible rfl))
              simp only [List.setIfInBounds_toArray, List.set_cons_zero, List.set_cons_succ]
              refine takeH_at (i := 15) (d := 80) (v := ?_) rfl (by kernel_rfl) (by kernel_rfl) (by kernel_rfl) (fun _ _ _ h => h) rfl (Or.inl ⟨by rfl, ?hy⟩) (by assumption) ?_
              case hy => (intro w hSw; (try dsimp only at hSw); (go_simp <;> with_reducible rfl))
              simp only [List.setIfInBounds_toArray, List.set_cons_zero, List.set_cons_succ]
              refine wpAnyH_ready (rs := [7]) (by kernel_rfl) (by simp) ?_
              refine AllReadyH.cons rfl (fun K hK => ?_) AllReadyH.nil
              rw [if_pos (by rfl)]
              go_simp
              refine hK.out _ _ (HC.out _ (Mem.alloc N1.out _)) (fun hHeld3 => ?_)
              clear hK K
              try simp only [Act.put, List.setIfInBounds_toArray, List.set_cons_zero, List.set_cons_succ]
              refine takeH_at (i := 11) (d := 76) (v := ?_) rfl (by kernel_rfl) (by kernel_rfl) (by kernel_rfl) (fun _ _ _ h => h) rfl (Or.inl ⟨by rfl, ?hy⟩) (by assumption) ?_
              case hy => (intro w hSw; (try dsimp only at hSw); (go_simp <;> with_reducible rfl))
              simp only [List.setIfInBounds_toArray, List.set_cons_zero, List.set_cons_succ]
              refine wpAnyH_ready (rs := [12]) (by kernel_rfl) (by simp) ?_
              refine AllReadyH.cons rfl (fun K hK => ?_) AllReadyH.nil
              rw [if_pos (by rfl)]
              go_simp
              refine hK.out _ _ (HC.out _ (Mem.alloc N1.out _)) (fun hHeld4 => ?_)
              clear hK K
              try simp only [Act.put, List.setIfInBounds_toArray, List.set_cons_zero, List.set_cons_succ]
              refine wpAnyH_ready (rs := [16]) (by kernel_rfl) (by simp) ?_
              refine AllReadyH.cons rfl (fun K hK => ?_) AllReadyH.nil
              rw [if_pos (by rfl)]
              go_simp
              go_at_call 8
              refine (HS.out _ _ _ _ (Mem.alloc N1.out _) (by first | decide | (unfold dT; split <;> decide))).mono ?_
              rintro e w6 ⟨rfl, m6⟩
              have N2 := hide (Mem.trans (Mem.alloc N1.out _) m6)
              go_wp2_with fail
              refine hK.out _ _ (HC.out _ N2.out) (fun hHeld5 => ?_)
              clear hK K
              try simp only [Act.put, List.setIfInBounds_toArray, List.set_cons_zero, List.set_cons_succ]
              refine takeH_at (i := 17) (d := 82) (v := ?_) rfl (by kernel_rfl) (by kernel_rfl) (by kernel_rfl) (fun _ _ _ h => h) rfl (Or.inl ⟨by rfl, ?hy⟩) (by assumption) ?_
              case hy => (intro w hSw; (try dsimp only at hSw); (go_simp <;> with_reducible rfl))
              simp only [List.setIfInBounds_toArray, List.set_cons_zero, List.set_cons_succ]
              refine takeH_at (i := 18) (d := 10) (v := ?_) rfl (by kernel_rfl) (by kernel_rfl) (by kernel_rfl) (fun _ _ _ h => h) rfl (Or.inl ⟨by rfl, ?hy⟩) (by assumption) ?_
              case hy => (intro w hSw; (try dsimp only at hSw); (go_simp <;> with_reducible rfl))
              simp only [List.setIfInBounds_toArray, List.set_cons_zero, List.set_cons_succ]
              refine wpAnyH_done (by kernel_rfl) ?_ _
              go_wp2_with fail
              go_ret
              exact ⟨rfl, hmF.trans N2.out⟩
            · have hge : (k.length : Int) ≤ (j : Int) := by omega
              clear hgo hlt
              go_wp2_with fail
              clear hj hj64 hge hj0
              have HC : Hid (∀ w', Mem wr w' → w'.cell? ⟨Bc, 0, none⟩ = some (.slice oc bs.length cc) ∧ w'.cell? ⟨Bc, 1, none⟩ = some (.bool br) ∧ w'.cell? ⟨Bc, 2, none⟩ = some (.bool off) ∧ w'.cell? ⟨Bc, 3, none⟩ = some (.int .i64 ops) ∧ w'.cell? ⟨Bc + 1, 0, none⟩ = some (.slice om ms.length cm) ∧ w'.cell? ⟨Bc + 1, 1, none⟩ = some (.slice ov1 ks.length cv1)) := fun w' m => ⟨(hX.mem (M.2.2.1.trans m)).cell (j := 0) rfl, (hX.mem (M.2.2.1.trans m)).cell (j := 1) rfl, (hX.mem (M.2.2.1.trans m)).cell (j := 2) rfl, (hX.mem (M.2.2.1.trans m)).cell (j := 3) rfl, (M.1.mem m).cell (j := 0) rfl, (M.1.mem m).cell (j := 1) rfl⟩
              have HWF : Hid (WfT (ms, ks)) := ⟨HMW.out, HKW.out⟩
              have HS := hide (fun b d s (w' : World) (m : Mem wr w') (hdd : d.size ≤ maxLen) => same (fun _ => True) _ bs br off ops (ms, ks) om ov1 cm cv1 b d s w' ((hbX.mono fun _ _ _ => trivial).mem (M.2.2.1.trans m)) (((IntsIn.of_owns M.2.1.1).mono fun _ _ _ => trivial).mem m) (((IntsIn.of_owns M.2.1.2.1).mono fun _ _ _ => trivial).mem m) (show ms.length ≤ 1000 by omega) (show ks.length ≤ 1000 by omega) HWF.out HDS.out hdd)
              have N0 := hide (Mem.drew (Mem.refl wr))
              have hmF := hmW.trans M.2.2.1
              clear hX hbX M HMW HKW HWF
              have hqd : q < ([.string ⟨#[100]⟩, .string ⟨#[101]⟩, .string ⟨#[]⟩, .string ⟨#[120]⟩] : List Value).length := hq4
              have hLd : ([.string ⟨#[100]⟩, .string ⟨#[101]⟩, .string ⟨#[]⟩, .string ⟨#[120]⟩] : List Value)[q]'hqd = .string (dT q) := dT_get q hqd
              have hq2 : (IntKind.i64.wrap (n4 : Int)).tmod 4 = (q : Int) := by rw [i64_same (n := (n4 : Int)) (by omega) (by omega), Int.tmod_eq_emod_of_nonneg (by omega)]; exact hq
              have hq0 : (0 : Int) ≤ (q : Int) := by omega
              have hq3 : (q : Int) < 4 := by omega
              clear hq
              obtain ⟨c0, c1, c2, c3, t0, t1⟩ := HC.out _ (Mem.refl wr)
              refine wp_region_held_drew (S := (fun w' => w'.cell? ⟨Bc, 0, none⟩ = some (.slice oc bs.length cc) ∧ w'.cell? ⟨Bc, 1, none⟩ = some (.bool br) ∧ w'.cell? ⟨Bc, 2, none⟩ = some (.bool off) ∧ w'.cell? ⟨Bc, 3, none⟩ = some (.int .i64 ops) ∧ w'.cell? ⟨Bc + 1, 0, none⟩ = some (.slice om ms.length cm) ∧ w'.cell? ⟨Bc + 1, 1, none⟩ = some (.slice ov1 ks.length cv1))) (by kernel_rfl) (HC.out _ N0.out) (fun hHeld => ?_)
              refine wpAnyH_ready (rs := [0]) (by kernel_rfl) (by simp) ?_
              refine AllReadyH.cons rfl (fun K hK => ?_) AllReadyH.nil
              rw [if_pos (by rfl)]
              go_simp
              go_at_call 7
              refine (awake _).mono ?_
              rintro e wa ⟨rfl, ma⟩
              have N1 := hide (Mem.trans N0.out ma)
              go_wp2_with fail
              refine hK.out _ _ (HC.out _ N1.out) (fun hHeld2 => ?_)
              clear hK K
              try simp only [Act.put, List.setIfInBounds_toArray, List.set_cons_zero, List.set_cons_succ]
              refine takeH_at (i := 1) (d := 66) (v := ?_) rfl (by kernel_rfl) (by kernel_rfl) (by kernel_rfl) (fun _ _ _ h => h) rfl (Or.inl ⟨by rfl, ?hy⟩) (by assumption) ?_
              case hy => (intro w hSw; (try dsimp only at hSw); (go_simp <;> with_reducible rfl))
              simp only [List.setIfInBounds_toArray, List.set_cons_zero, List.set_cons_succ]
              refine takeH_at (i := 2) (d := 67) (v := ?_) rfl (by kernel_rfl) (by kernel_rfl) (by kernel_rfl) (fun _ _ _ h => h) rfl (Or.inl ⟨by rfl, ?hy⟩) (by assumption) ?_
              case hy => (intro w hSw; (try dsimp only at hSw); (go_simp <;> with_reducible rfl))
              simp only [List.setIfInBounds_toArray, List.set_cons_zero, List.set_cons_succ]
              refine takeH_at (i := 3) (d := 68) (v := ?_) rfl (by kernel_rfl) (by kernel_rfl) (by kernel_rfl) (fun _ _ _ h => h) rfl (Or.inl ⟨by rfl, ?hy⟩) (by assumption) ?_
              case hy => (intro w hSw; (try dsimp only at hSw); (go_simp <;> with_reducible rfl))
              simp only [List.setIfInBounds_toArray, List.set_cons_zero, List.set_cons_succ]
              refine takeH_at (i := 4) (d := 69) (v := ?_) rfl (by kernel_rfl) (by kernel_rfl) (by kernel_rfl) (fun _ _ _ h => h) rfl (Or.inl ⟨by rfl, ?hy⟩) (by assumption) ?_
              case hy => (intro w hSw; (try dsimp only at hSw); (go_simp <;> with_reducible rfl))
              simp only [List.setIfInBounds_toArray, List.set_cons_zero, List.set_cons_succ]
              refine takeH_at (i := 5) (d := 70) (v := ?_) rfl (by kernel_rfl) (by kernel_rfl) (by kernel_rfl) (fun _ _ _ h => h) rfl (Or.inl ⟨by rfl, ?hy⟩) (by assumption) ?_
              case hy => (intro w hSw; (try dsimp only at hSw); (go_simp <;> with_reducible rfl))
              simp only [List.setIfInBounds_toArray, List.set_cons_zero, List.set_cons_succ]
              refine takeH_at (i := 6) (d := 71) (v := ?_) rfl (by kernel_rfl) (by kernel_rfl) (by kernel_rfl) (fun _ _ _ h => h) rfl (Or.inl ⟨by rfl, ?hy⟩) (by assumption) ?_
              case hy => (intro w hSw; (try dsimp only at hSw); (go_simp <;> with_reducible rfl))
              simp only [List.setIfInBounds_toArray, List.set_cons_zero, List.set_cons_succ]
              refine takeH_at (i := 8) (d := 73) (v := ?_) rfl (by kernel_rfl) (by kernel_rfl) (by kernel_rfl) (fun _ _ _ h => h) rfl (Or.inl ⟨by rfl, ?hy⟩) (by assumption) ?_
              case hy => (intro w hSw; (try dsimp only at hSw); (go_simp <;> with_reducible rfl))
              simp only [List.setIfInBounds_toArray, List.set_cons_zero, List.set_cons_succ]
              refine takeH_at (i := 9) (d := 74) (v := ?_) rfl (by kernel_rfl) (by kernel_rfl) (by kernel_rfl) (fun _ _ _ h => h) rfl (Or.inl ⟨by rfl, ?hy⟩) (by assumption) ?_
              case hy => (intro w hSw; (try dsimp only at hSw); (go_simp <;> with_reducible rfl))
              simp only [List.setIfInBounds_toArray, List.set_cons_zero, List.set_cons_succ]
              refine takeH_at (i := 10) (d := 75) (v := ?_) rfl (by kernel_rfl) (by kernel_rfl) (by kernel_rfl) (fun _ _ _ h => h) rfl (Or.inl ⟨by rfl, ?hy⟩) (by assumption) ?_
              case hy => (intro w hSw; (try dsimp only at hSw); (go_simp <;> with_reducible rfl))
              simp only [List.setIfInBounds_toArray, List.set_cons_zero, List.set_cons_succ]
              refine takeH_at (i := 13) (d := 78) (v := ?_) rfl (by kernel_rfl) (by kernel_rfl) (by kernel_rfl) (fun _ _ _ h => h) rfl (Or.inl ⟨by rfl, ?hy⟩) (by assumption) ?_
              case hy => (intro w hSw; (try dsimp only at hSw); (go_simp <;> with_reducible rfl))
              simp only [List.setIfInBounds_toArray, List.set_cons_zero, List.set_cons_succ]
              refine takeH_at (i := 14) (d := 79) (v := ?_) rfl (by kernel_rfl) (by kernel_rfl) (by kernel_rfl) (fun _ _ _ h => h) rfl (Or.inl ⟨by rfl, ?hy⟩) (by assumption) ?_
              case hy => (intro w hSw; (try dsimp only at hSw); (go_simp <;> with_reducible rfl))
              simp only [List.setIfInBounds_toArray, List.set_cons_zero, List.set_cons_succ]
              refine takeH_at (i := 15) (d := 80) (v := ?_) rfl (by kernel_rfl) (by kernel_rfl) (by kernel_rfl) (fun _ _ _ h => h) rfl (Or.inl ⟨by rfl, ?hy⟩) (by assumption) ?_
              case hy => (intro w hSw; (try dsimp only at hSw); (go_simp <;> with_reducible rfl))
              simp only [List.setIfInBounds_toArray, List.set_cons_zero, List.set_cons_succ]
              refine wpAnyH_ready (rs := [7]) (by kernel_rfl) (by simp) ?_
              refine AllReadyH.cons rfl (fun K hK => ?_) AllReadyH.nil
              rw [if_pos (by rfl)]
              go_simp
              refine hK.out _ _ (HC.out _ (Mem.alloc N1.out _)) (fun hHeld3 => ?_)
              clear hK K
              try simp only [Act.put, List.setIfInBounds_toArray, List.set_cons_zero, List.set_cons_succ]
              refine takeH_at (i := 11) (d := 76) (v := ?_) rfl (by kernel_rfl) (by kernel_rfl) (by kernel_rfl) (fun _ _ _ h => h) rfl (Or.inl ⟨by rfl, ?hy⟩) (by assumption) ?_
              case hy => (intro w hSw; (try dsimp only at hSw); (go_simp <;> with_reducible rfl))
              simp only [List.setIfInBounds_toArray, List.set_cons_zero, List.set_cons_succ]
              refine wpAnyH_ready (rs := [12]) (by kernel_rfl) (by simp) ?_
              refine AllReadyH.cons rfl (fun K hK => ?_) AllReadyH.nil
              rw [if_pos (by rfl)]
              go_simp
              refine hK.out _ _ (HC.out _ (Mem.alloc N1.out _)) (fun hHeld4 => ?_)
              clear hK K
              try simp only [Act.put, List.setIfInBounds_toArray, List.set_cons_zero, List.set_cons_succ]
              refine wpAnyH_ready (rs := [16]) (by kernel_rfl) (by simp) ?_
              refine AllReadyH.cons rfl (fun K hK => ?_) AllReadyH.nil
              rw [if_pos (by rfl)]
              go_simp
              go_at_call 8
              refine (HS.out _ _ _ _ (Mem.alloc N1.out _) (by first | decide | (unfold dT; split <;> decide))).mono ?_
              rintro e w6 ⟨rfl, m6⟩
              have N2 := hide (Mem.trans (Mem.alloc N1.out _) m6)
              go_wp2_with fail
              refine hK.out _ _ (HC.out _ N2.out) (fun hHeld5 => ?_)
              clear hK K
              try simp only [Act.put, List.setIfInBounds_toArray, List.set_cons_zero, List.set_cons_succ]
              refine takeH_at (i := 17) (d := 82) (v := ?_) rfl (by kernel_rfl) (by kernel_rfl) (by kernel_rfl) (fun _ _ _ h => h) rfl (Or.inl ⟨by rfl, ?hy⟩) (by assumption) ?_
              case hy => (intro w hSw; (try dsimp only at hSw); (go_simp <;> with_reducible rfl))
              simp only [List.setIfInBounds_toArray, List.set_cons_zero, List.set_cons_succ]
              refine takeH_at (i := 18) (d := 10) (v := ?_) rfl (by kernel_rfl) (by kernel_rfl) (by kernel_rfl) (fun _ _ _ h => h) rfl (Or.inl ⟨by rfl, ?hy⟩) (by assumption) ?_
              case hy => (intro w hSw; (try dsimp only at hSw); (go_simp <;> with_reducible rfl))
              simp only [List.setIfInBounds_toArray, List.set_cons_zero, List.set_cons_succ]
              refine wpAnyH_done (by kernel_rfl) ?_ _
              go_wp2_with fail
              go_ret
              exact ⟨rfl, hmF.trans N2.out⟩
      · have hge : (y.length : Int) ≤ (j : Int) := by omega
        clear hgo hlt
        go_wp2_with fail
        have HMW := HKW
        have hm64 := hk64
        have M0 := M
        clear HKW hk64 M hj hj64 hge hj0
        generalize ks = ms at *
        generalize ov1 = om at *
        generalize cv1 = cm at *
        go_loopw [14] (fun i wr => ∃ (j : Nat) (vv : Value) (ks : List Int), i = .int .i64 j ∧ j ≤ k.length ∧ j ≤ 64 ∧ ks.length = j ∧ (∀ x ∈ ks, wfZ x) ∧ TM W (Bc + 1) wr (.slice om ms.length cm) vv ms ks) (fun i _ => k.length - (intOf i).toNat)
        case atStart => exact ⟨0, _, [], rfl, Nat.zero_le _, by omega, rfl, by simp, M0⟩
        case round =>
          clear M0
          obtain ⟨j, vv, ks, rfl, hj, hj64, hjl, hkw, M⟩ := hrel
          have HKW := hide hkw
          clear hkw
          obtain ⟨ov1, cv1, rfl⟩ := owns_shape M.2.1.2.1
          have r2 := M.1.cell (j := 1) rfl
          have hj0 : (0 : Int) ≤ (j : Int) := by omega
          by_cases hgo : j < k.length ∧ j < 64
          · obtain ⟨hlt, hlt64⟩ := hgo
            have hlt' : (j : Int) < (k.length : Int) := by omega
            have hlt64' : (j : Int) < 64 := by omega
            obtain ⟨yb, yo, rfl, hc⟩ := (Hk.out.mem (hmW.trans M.2.2.1)).at (by omega)
            have cj := hc j hlt
            have hx := HK.out _ (mem_getD.2 ⟨j, hlt, rfl⟩)
            generalize k.getD j 0 = x at *
            obtain ⟨hx0, hx1⟩ := hx
            obtain ⟨q, hq⟩ : ∃ q : Nat, x % 8 = (q : Int) := ⟨(x % 8).toNat, by omega⟩
            have hq8 : q < 8 := by omega
            have hq' : (IntKind.i64.wrap x).tmod 8 = (q : Int) := by rw [i64_same (n := x) (by omega) (by omega), Int.tmod_eq_emod_of_nonneg hx0]; exact hq
            have hq0 : (0 : Int) ≤ (q : Int) := by omega
            have hq7 : (q : Int) < 8 := by omega
            have hqL : q < ([.int .i64 (-1), .int .i64 0, .int .i64 1, .int .i64 2, .int .i64 16, .int .i64 17, .int .i64 33, .int .i64 3] : List Value).length := hq8
            have hLq : ([.int .i64 (-1), .int .i64 0, .int .i64 1, .int .i64 2, .int .i64 16, .int .i64 17, .int .i64 33, .int .i64 3] : List Value)[q]'hqL = .int .i64 (z8 q) := z8_get q hqL
            have HV : Hid (wfZ (z8 q)) := z8_wf q hq8
            have M8 := M.mem ((Mem.refl wr).alloc (.cells #[.int .i64 (-1), .int .i64 0, .int .i64 1, .int .i64 2, .int .i64 16, .int .i64 17, .int .i64 33, .int .i64 3] 3))
            have hsz := M8.size
            have hown := M8.2.1.2.1
            have r3 := M8.1.cell (j := 1) rfl
            have r4 := (M8.1.alloc (.cells #[.int .i64 (z8 q)] 3)).cell (j := 1) rfl
            have hB : Bc + 1 < wr.heap.size := M.1.lt
            have cj8 := (Below.cell ((Mem.refl wr).alloc (.cells #[.int .i64 (-1), .int .i64 0, .int .i64 1, .int .i64 2, .int .i64 16, .int .i64 17, .int .i64 33, .int .i64 3] 3)) (p := ⟨yb, yo + j, none⟩) (World.block_lt_of_cell? wr _ cj)).trans cj
            have HM := hide M8
            have HJ := hide hjl
            clear M M8 hc hjl hq hx0 hx1
            go_wp2_with fail
            go_region_law ((refine step_pushA_at (by rfl) _ _ (by rfl) (Bc + 1 + 1) _ ks ks.length (by rfl) hown hsz (z8 q) (wr.heap.size + 1) (World.size_alloc _ _).symm (by rfl) (by have := HJ.out; omega) ?_; intro v' w' h1 h2 h3; obtain ⟨ov', cv', rfl⟩ := owns_shape h1; have d2 := (HM.out.1.below (grown_below hown h2 hsz) (by omega)).cell (j := 1) rfl; have e2 := (HM.out.1.below (grown_below hown h2 hsz) (by omega)).frozen 1))
            all_goals (
              have M' := HM.out.pushB h1 h2 h3
              clear d2 e2 h1 h2 h3 r2 r3 r4 hown hsz
              go_wp2_with fail
              go_roundw
              case rel => exact ⟨j + 1, _, ks ++ [z8 q], by go_num, by omega, by omega, by simp [HJ.out], all_snoc HKW.out HV.out, M'⟩
              case measure => simp [intOf]; omega)
          · have hk64 : ks.length ≤ 64 := by omega
            clear r2 hjl
            by_cases hlt : j < k.length
            · have hlt' : (j : Int) < (k.length : Int) := by omega
              have hge : (64 : Int) ≤ (j : Int) := by omega
              clear hgo hlt
              go_wp2_with fail
              clear hj hj64 hge hj0
              have HC : Hid (∀ w', Mem wr w' → w'.cell? ⟨Bc, 0, none⟩ = some (.slice oc bs.length cc) ∧ w'.cell? ⟨Bc, 1, none⟩ = some (.bool br) ∧ w'.cell? ⟨Bc, 2, none⟩ = some (.bool off) ∧ w'.cell? ⟨Bc, 3, none⟩ = some (.int .i64 ops) ∧ w'.cell? ⟨Bc + 1, 0, none⟩ = some (.slice om ms.length cm) ∧ w'.cell? ⟨Bc + 1, 1, none⟩ = some (.slice ov1 ks.length cv1)) := fun w' m => ⟨(hX.mem (M.2.2.1.trans m)).cell (j := 0) rfl, (hX.mem (M.2.2.1.trans m)).cell (j := 1) rfl, (hX.mem (M.2.2.1.trans m)).cell (j := 2) rfl, (hX.mem (M.2.2.1.trans m)).cell (j := 3) rfl, (M.1.mem m).cell (j := 0) rfl, (M.1.mem m).cell (j := 1) rfl⟩
              have HWF : Hid (WfT (ms, ks)) := ⟨HMW.out, HKW.out⟩
              have HS := hide (fun b d s (w' : World) (m : Mem wr w') (hdd : d.size ≤ maxLen) => same (fun _ => True) _ bs br off ops (ms, ks) om ov1 cm cv1 b d s w' ((hbX.mono fun _ _ _ => trivial).mem (M.2.2.1.trans m)) (((IntsIn.of_owns M.2.1.1).mono fun _ _ _ => trivial).mem m) (((IntsIn.of_owns M.2.1.2.1).mono fun _ _ _ => trivial).mem m) (show ms.length ≤ 1000 by omega) (show ks.length ≤ 1000 by omega) HWF.out HDS.out hdd)
              have N0 := hide (Mem.drew (Mem.refl wr))
              have hmF := hmW.trans M.2.2.1
              clear hX hbX M HMW HKW HWF
              have hqd : q < ([.string ⟨#[100]⟩, .string ⟨#[101]⟩, .string ⟨#[]⟩, .string ⟨#[120]⟩] : List Value).length := hq4
              have hLd : ([.string ⟨#[100]⟩, .string ⟨#[101]⟩, .string ⟨#[]⟩, .string ⟨#[120]⟩] : List Value)[q]'hqd = .string (dT q) := dT_get q hqd
              have hq2 : (IntKind.i64.wrap (n4 : Int)).tmod 4 = (q : Int) := by rw [i64_same (n := (n4 : Int)) (by omega) (by omega), Int.tmod_eq_emod_of_nonneg (by omega)]; exact hq
              have hq0 : (0 : Int) ≤ (q : Int) := by omega
              have hq3 : (q : Int) < 4 := by omega
              clear hq
              obtain ⟨c0, c1, c2, c3, t0, t1⟩ := HC.out _ (Mem.refl wr)
              refine wp_region_held_drew (S := (fun w' => w'.cell? ⟨Bc, 0, none⟩ = some (.slice oc bs.length cc) ∧ w'.cell? ⟨Bc, 1, none⟩ = some (.bool br) ∧ w'.cell? ⟨Bc, 2, none⟩ = some (.bool off) ∧ w'.cell? ⟨Bc, 3, none⟩ = some (.int .i64 ops) ∧ w'.cell? ⟨Bc + 1, 0, none⟩ = some (.slice om ms.length cm) ∧ w'.cell? ⟨Bc + 1, 1, none⟩ = some (.slice ov1 ks.length cv1))) (by kernel_rfl) (HC.out _ N0.out) (fun hHeld => ?_)
              refine wpAnyH_ready (rs := [0]) (by kernel_rfl) (by simp) ?_
              refine AllReadyH.cons rfl (fun K hK => ?_) AllReadyH.nil
              rw [if_pos (by rfl)]
              go_simp
              go_at_call 7
              refine (awake _).mono ?_
              rintro e wa ⟨rfl, ma⟩
              have N1 := hide (Mem.trans N0.out ma)
              go_wp2_with fail
              refine hK.out _ _ (HC.out _ N1.out) (fun hHeld2 => ?_)
              clear hK K
              try simp only [Act.put, List.setIfInBounds_toArray, List.set_cons_zero, List.set_cons_succ]
              refine takeH_at (i := 1) (d := 66) (v := ?_) rfl (by kernel_rfl) (by kernel_rfl) (by kernel_rfl) (fun _ _ _ h => h) rfl (Or.inl ⟨by rfl, ?hy⟩) (by assumption) ?_
              case hy => (intro w hSw; (try dsimp only at hSw); (go_simp <;> with_reducible rfl))
              simp only [List.setIfInBounds_toArray, List.set_cons_zero, List.set_cons_succ]
              refine takeH_at (i := 2) (d := 67) (v := ?_) rfl (by kernel_rfl) (by kernel_rfl) (by kernel_rfl) (fun _ _ _ h => h) rfl (Or.inl ⟨by rfl, ?hy⟩) (by assumption) ?_
              case hy => (intro w hSw; (try dsimp only at hSw); (go_simp <;> with_reducible rfl))
              simp only [List.setIfInBounds_toArray, List.set_cons_zero, List.set_cons_succ]
              refine takeH_at (i := 3) (d := 68) (v := ?_) rfl (by kernel_rfl) (by kernel_rfl) (by kernel_rfl) (fun _ _ _ h => h) rfl (Or.inl ⟨by rfl, ?hy⟩) (by assumption) ?_
              case hy => (intro w hSw; (try dsimp only at hSw); (go_simp <;> with_reducible rfl))
              simp only [List.setIfInBounds_toArray, List.set_cons_zero, List.set_cons_succ]
              refine takeH_at (i := 4) (d := 69) (v := ?_) rfl (by kernel_rfl) (by kernel_rfl) (by kernel_rfl) (fun _ _ _ h => h) rfl (Or.inl ⟨by rfl, ?hy⟩) (by assumption) ?_
              case hy => (intro w hSw; (try dsimp only at hSw); (go_simp <;> with_reducible rfl))
              simp only [List.setIfInBounds_toArray, List.set_cons_zero, List.set_cons_succ]
              refine takeH_at (i := 5) (d := 70) (v := ?_) rfl (by kernel_rfl) (by kernel_rfl) (by kernel_rfl) (fun _ _ _ h => h) rfl (Or.inl ⟨by rfl, ?hy⟩) (by assumption) ?_
              case hy => (intro w hSw; (try dsimp only at hSw); (go_simp <;> with_reducible rfl))
              simp only [List.setIfInBounds_toArray, List.set_cons_zero, List.set_cons_succ]
              refine takeH_at (i := 6) (d := 71) (v := ?_) rfl (by kernel_rfl) (by kernel_rfl) (by kernel_rfl) (fun _ _ _ h => h) rfl (Or.inl ⟨by rfl, ?hy⟩) (by assumption) ?_
              case hy => (intro w hSw; (try dsimp only at hSw); (go_simp <;> with_reducible rfl))
              simp only [List.setIfInBounds_toArray, List.set_cons_zero, List.set_cons_succ]
              refine takeH_at (i := 8) (d := 73) (v := ?_) rfl (by kernel_rfl) (by kernel_rfl) (by kernel_rfl) (fun _ _ _ h => h) rfl (Or.inl ⟨by rfl, ?hy⟩) (by assumption) ?_
              case hy => (intro w hSw; (try dsimp only at hSw); (go_simp <;> with_reducible rfl))
              simp only [List.setIfInBounds_toArray, List.set_cons_zero, List.set_cons_succ]
              refine takeH_at (i := 9) (d := 74) (v := ?_) rfl (by kernel_rfl) (by kernel_rfl) (by kernel_rfl) (fun _ _ _ h => h) rfl (Or.inl ⟨by rfl, ?hy⟩) (by assumption) ?_
              case hy => (intro w hSw; (try dsimp only at hSw); (go_simp <;> with_reducible rfl))
              simp only [List.setIfInBounds_toArray, List.set_cons_zero, List.set_cons_succ]
              refine takeH_at (i := 10) (d := 75) (v := ?_) rfl (by kernel_rfl) (by kernel_rfl) (by kernel_rfl) (fun _ _ _ h => h) rfl (Or.inl ⟨by rfl, ?hy⟩) (by assumption) ?_
              case hy => (intro w hSw; (try dsimp only at hSw); (go_simp <;> with_reducible rfl))
              simp only [List.setIfInBounds_toArray, List.set_cons_zero, List.set_cons_succ]
              refine takeH_at (i := 13) (d := 78) (v := ?_) rfl (by kernel_rfl) (by kernel_rfl) (by kernel_rfl) (fun _ _ _ h => h) rfl (Or.inl ⟨by rfl, ?hy⟩) (by assumption) ?_
              case hy => (intro w hSw; (try dsimp only at hSw); (go_simp <;> with_reducible rfl))
              simp only [List.setIfInBounds_toArray, List.set_cons_zero, List.set_cons_succ]
              refine takeH_at (i := 14) (d := 79) (v := ?_) rfl (by kernel_rfl) (by kernel_rfl) (by kernel_rfl) (fun _ _ _ h => h) rfl (Or.inl ⟨by rfl, ?hy⟩) (by assumption) ?_
              case hy => (intro w hSw; (try dsimp only at hSw); (go_simp <;> with_reducible rfl))
              simp only [List.setIfInBounds_toArray, List.set_cons_zero, List.set_cons_succ]
              refine takeH_at (i := 15) (d := 80) (v := ?_) rfl (by kernel_rfl) (by kernel_rfl) (by kernel_rfl) (fun _ _ _ h => h) rfl (Or.inl ⟨by rfl, ?hy⟩) (by assumption) ?_
              case hy => (intro w hSw; (try dsimp only at hSw); (go_simp <;> with_reducible rfl))
              simp only [List.setIfInBounds_toArray, List.set_cons_zero, List.set_cons_succ]
              refine wpAnyH_ready (rs := [7]) (by kernel_rfl) (by simp) ?_
              refine AllReadyH.cons rfl (fun K hK => ?_) AllReadyH.nil
              rw [if_pos (by rfl)]
              go_simp
              refine hK.out _ _ (HC.out _ (Mem.alloc N1.out _)) (fun hHeld3 => ?_)
              clear hK K
              try simp only [Act.put, List.setIfInBounds_toArray, List.set_cons_zero, List.set_cons_succ]
              refine takeH_at (i := 11) (d := 76) (v := ?_) rfl (by kernel_rfl) (by kernel_rfl) (by kernel_rfl) (fun _ _ _ h => h) rfl (Or.inl ⟨by rfl, ?hy⟩) (by assumption) ?_
              case hy => (intro w hSw; (try dsimp only at hSw); (go_simp <;> with_reducible rfl))
              simp only [List.setIfInBounds_toArray, List.set_cons_zero, List.set_cons_succ]
              refine wpAnyH_ready (rs := [12]) (by kernel_rfl) (by simp) ?_
              refine AllReadyH.cons rfl (fun K hK => ?_) AllReadyH.nil
              rw [if_pos (by rfl)]
              go_simp
              refine hK.out _ _ (HC.out _ (Mem.alloc N1.out _)) (fun hHeld4 => ?_)
              clear hK K
              try simp only [Act.put, List.setIfInBounds_toArray, List.set_cons_zero, List.set_cons_succ]
              refine wpAnyH_ready (rs := [16]) (by kernel_rfl) (by simp) ?_
              refine AllReadyH.cons rfl (fun K hK => ?_) AllReadyH.nil
              rw [if_pos (by rfl)]
              go_simp
              go_at_call 8
              refine (HS.out _ _ _ _ (Mem.alloc N1.out _) (by first | decide | (unfold dT; split <;> decide))).mono ?_
              rintro e w6 ⟨rfl, m6⟩
              have N2 := hide (Mem.trans (Mem.alloc N1.out _) m6)
              go_wp2_with fail
              refine hK.out _ _ (HC.out _ N2.out) (fun hHeld5 => ?_)
              clear hK K
              try simp only [Act.put, List.setIfInBounds_toArray, List.set_cons_zero, List.set_cons_succ]
              refine takeH_at (i := 17) (d := 82) (v := ?_) rfl (by kernel_rfl) (by kernel_rfl) (by kernel_rfl) (fun _ _ _ h => h) rfl (Or.inl ⟨by rfl, ?hy⟩) (by assumption) ?_
              case hy => (intro w hSw; (try dsimp only at hSw); (go_simp <;> with_reducible rfl))
              simp only [List.setIfInBounds_toArray, List.set_cons_zero, List.set_cons_succ]
              refine takeH_at (i := 18) (d := 10) (v := ?_) rfl (by kernel_rfl) (by kernel_rfl) (by kernel_rfl) (fun _ _ _ h => h) rfl (Or.inl ⟨by rfl, ?hy⟩) (by assumption) ?_
              case hy => (intro w hSw; (try dsimp only at hSw); (go_simp <;> with_reducible rfl))
              simp only [List.setIfInBounds_toArray, List.set_cons_zero, List.set_cons_succ]
              refine wpAnyH_done (by kernel_rfl) ?_ _
              go_wp2_with fail
              go_ret
              exact ⟨rfl, hmF.trans N2.out⟩
            · have hge : (k.length : Int) ≤ (j : Int) := by omega
              clear hgo hlt
              go_wp2_with fail
              clear hj hj64 hge hj0
              have HC : Hid (∀ w', Mem wr w' → w'.cell? ⟨Bc, 0, none⟩ = some (.slice oc bs.length cc) ∧ w'.cell? ⟨Bc, 1, none⟩ = some (.bool br) ∧ w'.cell? ⟨Bc, 2, none⟩ = some (.bool off) ∧ w'.cell? ⟨Bc, 3, none⟩ = some (.int .i64 ops) ∧ w'.cell? ⟨Bc + 1, 0, none⟩ = some (.slice om ms.length cm) ∧ w'.cell? ⟨Bc + 1, 1, none⟩ = some (.slice ov1 ks.length cv1)) := fun w' m => ⟨(hX.mem (M.2.2.1.trans m)).cell (j := 0) rfl, (hX.mem (M.2.2.1.trans m)).cell (j := 1) rfl, (hX.mem (M.2.2.1.trans m)).cell (j := 2) rfl, (hX.mem (M.2.2.1.trans m)).cell (j := 3) rfl, (M.1.mem m).cell (j := 0) rfl, (M.1.mem m).cell (j := 1) rfl⟩
              have HWF : Hid (WfT (ms, ks)) := ⟨HMW.out, HKW.out⟩
              have HS := hide (fun b d s (w' : World) (m : Mem wr w') (hdd : d.size ≤ maxLen) => same (fun _ => True) _ bs br off ops (ms, ks) om ov1 cm cv1 b d s w' ((hbX.mono fun _ _ _ => trivial).mem (M.2.2.1.trans m)) (((IntsIn.of_owns M.2.1.1).mono fun _ _ _ => trivial).mem m) (((IntsIn.of_owns M.2.1.2.1).mono fun _ _ _ => trivial).mem m) (show ms.length ≤ 1000 by omega) (show ks.length ≤ 1000 by omega) HWF.out HDS.out hdd)
              have N0 := hide (Mem.drew (Mem.refl wr))
              have hmF := hmW.trans M.2.2.1
              clear hX hbX M HMW HKW HWF
              have hqd : q < ([.string ⟨#[100]⟩, .string ⟨#[101]⟩, .string ⟨#[]⟩, .string ⟨#[120]⟩] : List Value).length := hq4
              have hLd : ([.string ⟨#[100]⟩, .string ⟨#[101]⟩, .string ⟨#[]⟩, .string ⟨#[120]⟩] : List Value)[q]'hqd = .string (dT q) := dT_get q hqd
              have hq2 : (IntKind.i64.wrap (n4 : Int)).tmod 4 = (q : Int) := by rw [i64_same (n := (n4 : Int)) (by omega) (by omega), Int.tmod_eq_emod_of_nonneg (by omega)]; exact hq
              have hq0 : (0 : Int) ≤ (q : Int) := by omega
              have hq3 : (q : Int) < 4 := by omega
              clear hq
              obtain ⟨c0, c1, c2, c3, t0, t1⟩ := HC.out _ (Mem.refl wr)
              refine wp_region_held_drew (S := (fun w' => w'.cell? ⟨Bc, 0, none⟩ = some (.slice oc bs.length cc) ∧ w'.cell? ⟨Bc, 1, none⟩ = some (.bool br) ∧ w'.cell? ⟨Bc, 2, none⟩ = some (.bool off) ∧ w'.cell? ⟨Bc, 3, none⟩ = some (.int .i64 ops) ∧ w'.cell? ⟨Bc + 1, 0, none⟩ = some (.slice om ms.length cm) ∧ w'.cell? ⟨Bc + 1, 1, none⟩ = some (.slice ov1 ks.length cv1))) (by kernel_rfl) (HC.out _ N0.out) (fun hHeld => ?_)
              refine wpAnyH_ready (rs := [0]) (by kernel_rfl) (by simp) ?_
              refine AllReadyH.cons rfl (fun K hK => ?_) AllReadyH.nil
              rw [if_pos (by rfl)]
              go_simp
              go_at_call 7
              refine (awake _).mono ?_
              rintro e wa ⟨rfl, ma⟩
              have N1 := hide (Mem.trans N0.out ma)
              go_wp2_with fail
              refine hK.out _ _ (HC.out _ N1.out) (fun hHeld2 => ?_)
              clear hK K
              try simp only [Act.put, List.setIfInBounds_toArray, List.set_cons_zero, List.set_cons_succ]
              refine takeH_at (i := 1) (d := 66) (v := ?_) rfl (by kernel_rfl) (by kernel_rfl) (by kernel_rfl) (fun _ _ _ h => h) rfl (Or.inl ⟨by rfl, ?hy⟩) (by assumption) ?_
              case hy => (intro w hSw; (try dsimp only at hSw); (go_simp <;> with_reducible rfl))
              simp only [List.setIfInBounds_toArray, List.set_cons_zero, List.set_cons_succ]
              refine takeH_at (i := 2) (d := 67) (v := ?_) rfl (by kernel_rfl) (by kernel_rfl) (by kernel_rfl) (fun _ _ _ h => h) rfl (Or.inl ⟨by rfl, ?hy⟩) (by assumption) ?_
              case hy => (intro w hSw; (try dsimp only at hSw); (go_simp <;> with_reducible rfl))
              simp only [List.setIfInBounds_toArray, List.set_cons_zero, List.set_cons_succ]
              refine takeH_at (i := 3) (d := 68) (v := ?_) rfl (by kernel_rfl) (by kernel_rfl) (by kernel_rfl) (fun _ _ _ h => h) rfl (Or.inl ⟨by rfl, ?hy⟩) (by assumption) ?_
              case hy => (intro w hSw; (try dsimp only at hSw); (go_simp <;> with_reducible rfl))
              simp only [List.setIfInBounds_toArray, List.set_cons_zero, List.set_cons_succ]
              refine takeH_at (i := 4) (d := 69) (v := ?_) rfl (by kernel_rfl) (by kernel_rfl) (by kernel_rfl) (fun _ _ _ h => h) rfl (Or.inl ⟨by rfl, ?hy⟩) (by assumption) ?_
              case hy => (intro w hSw; (try dsimp only at hSw); (go_simp <;> with_reducible rfl))
              simp only [List.setIfInBounds_toArray, List.set_cons_zero, List.set_cons_succ]
              refine takeH_at (i := 5) (d := 70) (v := ?_) rfl (by kernel_rfl) (by kernel_rfl) (by kernel_rfl) (fun _ _ _ h => h) rfl (Or.inl ⟨by rfl, ?hy⟩) (by assumption) ?_
              case hy => (intro w hSw; (try dsimp only at hSw); (go_simp <;> with_reducible rfl))
              simp only [List.setIfInBounds_toArray, List.set_cons_zero, List.set_cons_succ]
              refine takeH_at (i := 6) (d := 71) (v := ?_) rfl (by kernel_rfl) (by kernel_rfl) (by kernel_rfl) (fun _ _ _ h => h) rfl (Or.inl ⟨by rfl, ?hy⟩) (by assumption) ?_
              case hy => (intro w hSw; (try dsimp only at hSw); (go_simp <;> with_reducible rfl))
              simp only [List.setIfInBounds_toArray, List.set_cons_zero, List.set_cons_succ]
              refine takeH_at (i := 8) (d := 73) (v := ?_) rfl (by kernel_rfl) (by kernel_rfl) (by kernel_rfl) (fun _ _ _ h => h) rfl (Or.inl ⟨by rfl, ?hy⟩) (by assumption) ?_
              case hy => (intro w hSw; (try dsimp only at hSw); (go_simp <;> with_reducible rfl))
              simp only [List.setIfInBounds_toArray, List.set_cons_zero, List.set_cons_succ]
              refine takeH_at (i := 9) (d := 74) (v := ?_) rfl (by kernel_rfl) (by kernel_rfl) (by kernel_rfl) (fun _ _ _ h => h) rfl (Or.inl ⟨by rfl, ?hy⟩) (by assumption) ?_
              case hy => (intro w hSw; (try dsimp only at hSw); (go_simp <;> with_reducible rfl))
              simp only [List.setIfInBounds_toArray, List.set_cons_zero, List.set_cons_succ]
              refine takeH_at (i := 10) (d := 75) (v := ?_) rfl (by kernel_rfl) (by kernel_rfl) (by kernel_rfl) (fun _ _ _ h => h) rfl (Or.inl ⟨by rfl, ?hy⟩) (by assumption) ?_
              case hy => (intro w hSw; (try dsimp only at hSw); (go_simp <;> with_reducible rfl))
              simp only [List.setIfInBounds_toArray, List.set_cons_zero, List.set_cons_succ]
              refine takeH_at (i := 13) (d := 78) (v := ?_) rfl (by kernel_rfl) (by kernel_rfl) (by kernel_rfl) (fun _ _ _ h => h) rfl (Or.inl ⟨by rfl, ?hy⟩) (by assumption) ?_
              case hy => (intro w hSw; (try dsimp only at hSw); (go_simp <;> with_reducible rfl))
              simp only [List.setIfInBounds_toArray, List.set_cons_zero, List.set_cons_succ]
              refine takeH_at (i := 14) (d := 79) (v := ?_) rfl (by kernel_rfl) (by kernel_rfl) (by kernel_rfl) (fun _ _ _ h => h) rfl (Or.inl ⟨by rfl, ?hy⟩) (by assumption) ?_
              case hy => (intro w hSw; (try dsimp only at hSw); (go_simp <;> with_reducible rfl))
              simp only [List.setIfInBounds_toArray, List.set_cons_zero, List.set_cons_succ]
              refine takeH_at (i := 15) (d := 80) (v := ?_) rfl (by kernel_rfl) (by kernel_rfl) (by kernel_rfl) (fun _ _ _ h => h) rfl (Or.inl ⟨by rfl, ?hy⟩) (by assumption) ?_
              case hy => (intro w hSw; (try dsimp only at hSw); (go_simp <;> with_reducible rfl))
              simp only [List.setIfInBounds_toArray, List.set_cons_zero, List.set_cons_succ]
              refine wpAnyH_ready (rs := [7]) (by kernel_rfl) (by simp) ?_
              refine AllReadyH.cons rfl (fun K hK => ?_) AllReadyH.nil
              rw [if_pos (by rfl)]
              go_simp
              refine hK.out _ _ (HC.out _ (Mem.alloc N1.out _)) (fun hHeld3 => ?_)
              clear hK K
              try simp only [Act.put, List.setIfInBounds_toArray, List.set_cons_zero, List.set_cons_succ]
              refine takeH_at (i := 11) (d := 76) (v := ?_) rfl (by kernel_rfl) (by kernel_rfl) (by kernel_rfl) (fun _ _ _ h => h) rfl (Or.inl ⟨by rfl, ?hy⟩) (by assumption) ?_
              case hy => (intro w hSw; (try dsimp only at hSw); (go_simp <;> with_reducible rfl))
              simp only [List.setIfInBounds_toArray, List.set_cons_zero, List.set_cons_succ]
              refine wpAnyH_ready (rs := [12]) (by kernel_rfl) (by simp) ?_
              refine AllReadyH.cons rfl (fun K hK => ?_) AllReadyH.nil
              rw [if_pos (by rfl)]
              go_simp
              refine hK.out _ _ (HC.out _ (Mem.alloc N1.out _)) (fun hHeld4 => ?_)
              clear hK K
              try simp only [Act.put, List.setIfInBounds_toArray, List.set_cons_zero, List.set_cons_succ]
              refine wpAnyH_ready (rs := [16]) (by kernel_rfl) (by simp) ?_
              refine AllReadyH.cons rfl (fun K hK => ?_) AllReadyH.nil
              rw [if_pos (by rfl)]
              go_simp
              go_at_call 8
              refine (HS.out _ _ _ _ (Mem.alloc N1.out _) (by first | decide | (unfold dT; split <;> decide))).mono ?_
              rintro e w6 ⟨rfl, m6⟩
              have N2 := hide (Mem.trans (Mem.alloc N1.out _) m6)
              go_wp2_with fail
              refine hK.out _ _ (HC.out _ N2.out) (fun hHeld5 => ?_)
              clear hK K
              try simp only [Act.put, List.setIfInBounds_toArray, List.set_cons_zero, List.set_cons_succ]
              refine takeH_at (i := 17) (d := 82) (v := ?_) rfl (by kernel_rfl) (by kernel_rfl) (by kernel_rfl) (fun _ _ _ h => h) rfl (Or.inl ⟨by rfl, ?hy⟩) (by assumption) ?_
              case hy => (intro w hSw; (try dsimp only at hSw); (go_simp <;> with_reducible rfl))
              simp only [List.setIfInBounds_toArray, List.set_cons_zero, List.set_cons_succ]
              refine takeH_at (i := 18) (d := 10) (v := ?_) rfl (by kernel_rfl) (by kernel_rfl) (by kernel_rfl) (fun _ _ _ h => h) rfl (Or.inl ⟨by rfl, ?hy⟩) (by assumption) ?_
              case hy => (intro w hSw; (try dsimp only at hSw); (go_simp <;> with_reducible rfl))
              simp only [List.setIfInBounds_toArray, List.set_cons_zero, List.set_cons_succ]
              refine wpAnyH_done (by kernel_rfl) ?_ _
              go_wp2_with fail
              go_ret
              exact ⟨rfl, hmF.trans N2.out⟩
end Go.Proofs.YtedopplldpcinaaGreat.Plan
