/-
  Layer 8, the program: the map of wanted places; Live, Count.
-/
import Derived.Test.YtegamnaahipedaaLiveCode
namespace Go.Proofs.Ytegamnaahipedaa.Live
open Go.RowKit Go.Maps Go.Proofs.Ytegamnaahipedaa.Replay Go.Proofs.Ytegamnaahipedaa.Scan

set_option maxHeartbeats 4000000 in
set_option maxRecDepth 100000 in
theorem codeWanted (t : TableT) (om ob : Option Addr) (cm cb : Nat) (w : World) (h1 : Ints .i64 w (.slice om t.1.length cm) t.1) (h2 : Ints .i64 w (.slice ob t.2.length cb) t.2) (hl1 : t.1.length ≤ 1000) (hl2 : t.2.length ≤ 1000) (hw : WfT t) :
    Calls Try.prog 45 #[.agg #[.slice om t.1.length cm, .slice ob t.2.length cb]] w fun e w' => (∃ B n, e = .returned (.map (some B)) ∧ w'.ownsMap Try.prog 3 (unitElem (H := Unit)) B n (setT (accOf t 2))) ∧ Mem w w' := by
  have hmm := @run_makeMap Try.prog
  have ha : Mem w ((w.alloc (.cells #[.slice om t.1.length cm, .slice ob t.2.length cb] 27)).alloc (.map #[] 0)) := ((Mem.refl w).alloc _).alloc _
  have hY := (Blk.new w #[.slice om t.1.length cm, .slice ob t.2.length cb] 27).alloc (.map #[] 0)
  have hM := World.ownsMap_made (w.alloc (.cells #[.slice om t.1.length cm, .slice ob t.2.length cb] 27)) Try.prog 3 (unitElem (H := Unit))
  rw [World.size_alloc] at hM
  have hs := Mem8.size ha
  have HL : Hid (∀ j : Nat, j < 2 → ∃ oa ca, (∀ w', (Instr.index 100 (.agg #[.slice om t.1.length cm, .slice ob t.2.length cb]) (.int .i64 j)).run Try.prog w' = .ok (.slice oa (listOf t j).length ca) w') ∧ Ints .i64 w (.slice oa (listOf t j).length ca) (listOf t j) ∧ (listOf t j).length ≤ 1000 ∧ (∀ z ∈ listOf t j, wfZ z) ∧ accOf t (j + 1) = accOf t j ++ keysOf (listOf t j) (listOf t j).length) := by
    intro j hj
    match j, hj with
    | 0, _ => exact ⟨om, cm, fun w' => at_lists0 _ _ w', h1, hl1, hw.1, accOf_succ t (by decide)⟩
    | 1, _ => exact ⟨ob, cb, fun w' => at_lists1 _ _ w', h2, hl2, hw.2, accOf_succ t (by decide)⟩
  clear h1 h2 hl1 hl2 hw
  have x0 := hY.cell (j := 0) rfl
  have x1 := hY.cell (j := 1) rfl
  go_enter Try.func45, Try.ntmps45
  go_wp2
  generalize hW : (w.alloc (.cells #[.slice om t.1.length cm, .slice ob t.2.length cb] 27)).alloc (.map #[] 0) = W at *
  clear hW
  go_loopw [14] (fun i wr => ∃ j : Nat, j ≤ 2 ∧ i = .int .i64 j ∧ wr.ownsMap Try.prog 3 (unitElem (H := Unit)) (w.heap.size + 1) (j * 1000) (setT (accOf t j)) ∧ Mem w wr) (fun i _ => 2 - (intOf i).toNat)
  case atStart => exact ⟨0, by omega, rfl, hM, ha⟩
  case round =>
    clear hM x0 x1 hY ha
    obtain ⟨j, hj, rfl, hM, hmr⟩ := hrel
    by_cases hlt : j < 2
    · have hlt' : (j : Int) < 2 := by omega
      obtain ⟨oa, ca, hix, hz, hzl, hwf, hac⟩ := HL.out j hlt
      have HW := hide hwf
      have HA := hide hac
      generalize listOf t j = zs at *
      clear hwf hac
      go_wp2
      go_loopw [19] (fun i wq => ∃ k : Nat, k ≤ zs.length ∧ i = .int .i64 k ∧ wq.ownsMap Try.prog 3 (unitElem (H := Unit)) (w.heap.size + 1) (j * 1000 + k) (setT (accOf t j ++ keysOf zs k)) ∧ Mem w wq) (fun i _ => zs.length - (intOf i).toNat)
      case atStart => exact ⟨0, Nat.zero_le _, rfl, by simpa [keysOf] using hM, hmr⟩
      case round =>
        obtain ⟨k, hk, rfl, hMk, hmq⟩ := hrel
        by_cases hlk : k < zs.length
        · have hlk' : (k : Int) < (zs.length : Int) := by omega
          have hk0 : (0 : Int) ≤ (k : Int) := by omega
          obtain ⟨ab, ao, rfl, hc⟩ := (hz.mem hmq).at (by omega)
          have d0 := hc k hlk
          have HYes := hide (fun h => keysOf_yes (l := zs) hlk h)
          have HNo := hide (fun h => keysOf_no (l := zs) hlk h)
          have hwx : wfZ (zs.getD k 0) := HW.out _ (mem_getD.2 ⟨k, hlk, rfl⟩)
          clear hc
          generalize zs.getD k 0 = x at *
          have hkey : keyOf Try.prog 3 (.int .i64 x) = some (.int .i64 x) := keyOf_int_mk Try.underlying3 (wfZ_lit hwx)
          by_cases hx : 0 ≤ x
          · have HE := hide (HYes.out hx)
            go_wp2_with (at_mapUpdate; refine wpList_mapUpdate_own _ rfl _ _ _ 85 rfl 3 87 law_int Try.underlying85 (unitElem (H := Unit)) (w.heap.size + 1) (j * 1000 + k) _ rfl hMk (by unfold maxLen; omega) _ _ _ rfl rfl hkey _ [] unitElem_mk ?_; intro w1 hown1 hgrow1)
            have m1 : Mem w w1 := Below.grown hmq hgrow1 (Mem8.size hmq) (fun k hk => by cases hk; exact Nat.le_succ _)
            go_roundw
            case rel => exact ⟨k + 1, by omega, by go_num, by rw [HE.out, ← List.append_assoc, setT_snoc]; exact hown1, m1⟩
            case measure => simp [intOf]; omega
          · have HE := hide (HNo.out (by omega))
            have hx' : x ≤ -1 := by omega
            go_wp2
            go_roundw
            case rel => exact ⟨k + 1, by omega, by go_num, by rw [HE.out]; exact hMk.mono (by omega), hmq⟩
            case measure => simp [intOf]; omega
        · have hke : k = zs.length := by omega
          subst hke
          have hlk' : ¬ ((zs.length : Int) < (zs.length : Int)) := by omega
          rw [← HA.out] at hMk
          go_wp2
          go_roundw
          case rel => exact ⟨j + 1, by omega, by go_num, hMk.mono (by omega), hmq⟩
          case measure => simp [intOf]; omega
    · have hje : j = 2 := by omega
      subst hje
      go_wp2
      go_ret
      exact ⟨⟨_, _, rfl, hM⟩, hmr⟩

set_option maxHeartbeats 4000000 in
set_option maxRecDepth 100000 in
theorem codeCount (t : TableT) (om ob : Option Addr) (cm cb : Nat) (b : Int) (w : World) (h1 : Ints .i64 w (.slice om t.1.length cm) t.1) (h2 : Ints .i64 w (.slice ob t.2.length cb) t.2) (hl1 : t.1.length ≤ 1000) (hl2 : t.2.length ≤ 1000) (hw : WfT t) :
    Calls Try.prog 31 #[.agg #[.slice om t.1.length cm, .slice ob t.2.length cb], .int .i64 b] w fun e w' => e = .returned (.int .i64 (countT t b)) ∧ Mem w w' := by
  have ha : Mem w (w.alloc (.cells #[.slice om t.1.length cm, .slice ob t.2.length cb] 27)) := (Mem.refl w).alloc _
  have hY := Blk.new w #[.slice om t.1.length cm, .slice ob t.2.length cb] 27
  have x0 := hY.cell (j := 0) rfl
  have x1 := hY.cell (j := 1) rfl
  have HT := hide (fun p => setT_has t p)
  go_enter Try.func31, Try.ntmps31
  go_wp2_with fail
  refine (codeWanted t om ob cm cb _ (h1.mem ha) (h2.mem ha) hl1 hl2 hw).mono ?_
  rintro e w1 ⟨⟨B, n, rfl, hM⟩, m1⟩
  replace m1 := ha.trans m1
  clear x0 x1 hY ha h1 h2 hl1 hl2 hw
  go_wp2_with fail
  go_loopw [6, 12] (fun c i wr => ∃ k : Nat, k ≤ 16 ∧ i = .int .i64 k ∧ c = .int .i64 (countN t b k) ∧ wr.ownsMap Try.prog 3 (unitElem (H := Unit)) B n (setT (accOf t 2)) ∧ Mem w wr) (fun _ i _ => 16 - (intOf i).toNat)
  case atStart => exact ⟨0, by omega, rfl, rfl, hM, m1⟩
  case round =>
    clear hM m1
    obtain ⟨k, hk, rfl, rfl, hM, hmr⟩ := hrel
    by_cases hlt : k < 16
    · have hlt' : (k : Int) < 16 := by omega
      have hk0 : (0 : Int) ≤ (k : Int) := by omega
      have hkey : keyOf Try.prog 3 (.int .i64 (place b k)) = some (.int .i64 (place b k)) := keyOf_int_mk Try.underlying3 (wfZ_lit (place_wf b k))
      have hc := countN_le t b k
      have HP := hide (HT.out (place b k))
      cases hv : liveT t (place b k) with
      | true =>
        have HE := hide (countN_yes hv)
        rw [hv] at HP
        clear hv
        go_wp2_with (first
          | (go_at_call 46; refine (codePlace b k _).mono ?_; rintro e w2 ⟨rfl, rfl⟩; skip)
          | (at_lookup; refine wpList_lookup_own_unit _ rfl _ _ 85 rfl 3 87 law_int Try.underlying85 (zero_unit _) B n _ rfl hM _ _ rfl hkey ?_; rw [HP.out]))
        go_roundw
        case rel => exact ⟨k + 1, by omega, by go_num, by rw [HE.out]; go_num, hM.alloc _, hmr.alloc _⟩
        case measure => simp [intOf]; omega
      | false =>
        have HE := hide (countN_no hv)
        rw [hv] at HP
        clear hv
        go_wp2_with (first
          | (go_at_call 46; refine (codePlace b k _).mono ?_; rintro e w2 ⟨rfl, rfl⟩; skip)
          | (at_lookup; refine wpList_lookup_own_unit _ rfl _ _ 85 rfl 3 87 law_int Try.underlying85 (zero_unit _) B n _ rfl hM _ _ rfl hkey ?_; rw [HP.out]))
        go_roundw
        case rel => exact ⟨k + 1, by omega, by go_num, by rw [HE.out], hM.alloc _, hmr.alloc _⟩
        case measure => simp [intOf]; omega
    · have hke : k = 16 := by omega
      subst hke
      go_wp2_with fail
      go_ret
      exact ⟨rfl, hmr⟩
end Go.Proofs.Ytegamnaahipedaa.Live
