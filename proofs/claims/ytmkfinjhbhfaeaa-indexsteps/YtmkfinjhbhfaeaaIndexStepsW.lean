/-
  Layer 9: the walk of IndexSteps.
-/
import Derived.Test.YtmkfinjhbhfaeaaIndexAnyW
namespace Go.Proofs.Ytmkfinjhbhfaeaa.Index
open Go.RowKit Go.Proofs.Ytmkfinjhbhfaeaa.Scan Go.Proofs.Ytmkfinjhbhfaeaa.Replay

theorem putT_len {l : List SlotT} {q p : Int} (h : (putT l q p).2 = 0) : (putT l q p).1.length = l.length := by
  unfold putT at h ⊢
  split
  · rename_i h0; rw [if_pos h0] at h; cases h
  · rename_i h0
    rw [if_neg h0] at h
    split
    · simp
    · rename_i hn
      rw [hn] at h
      cases h
theorem dropT_len (l : List SlotT) (q p : Int) : (dropT l q p).length = l.length := by
  unfold dropT
  split
  · simp
  · rfl
set_option maxHeartbeats 4000000 in
set_option maxRecDepth 100000 in
theorem indexSteps_walk (va : Value) (ss : List StepT) (a1 : Int) (w : World) (hs : StepsAt w va ss) (w1 : (Lit.int .u8 a1).wf = true) :
    Calls Try.prog 4 #[va, .int .u8 a1] w fun e w' => e = .returned (.bool true) ∧ Mem w w' := by
  obtain ⟨oa, ca, rfl, hsl, hsc⟩ := id hs
  unfold maxLen at hsl
  clear hsc
  have hb1 := wf_u8 w1
  clear w1
  obtain ⟨n1, rfl⟩ := Int.eq_ofNat_of_zero_le hb1.1
  obtain ⟨n, hn⟩ : ∃ a : Nat, (n1 : Int) % 9 = (a : Int) := ⟨n1 % 9, by omega⟩
  have hn8 : n ≤ 8 := by omega
  have hn8' : (n : Int) ≤ 8 := by omega
  have hn0' : (0 : Int) ≤ (n : Int) := by omega
  have hmk := run_makeSlots n (by omega) w
  have hR := made_slots w n
  have ma : Mem w (w.alloc (.cells (madeCells #[.int .i64 0, .int .i64 0, .int .i64 0] (n * 3)) 42)) := (Mem.refl w).alloc _
  generalize hW : w.alloc (.cells (madeCells #[.int .i64 0, .int .i64 0, .int .i64 0] (n * 3)) 42) = W at *
  have hs0 := hR.slots (S := fun _ => True) (by rw [empty_len]; unfold maxLen; omega) trivial n
  have hl0 := empty_len n
  rw [hl0] at hs0
  go_enter Try.func4, Try.ntmps4
  go_wp2_with fail
  clear hW hmk hR hn
  go_loopw [5, 6] (fun v i wr => ∃ (j : Nat) (oc : Option Addr) (cc : Nat) (l : List SlotT), j ≤ ss.length ∧ i = .int .i64 j ∧ v = .slice oc n cc ∧ l.length = n ∧ SlotsAt (fun _ => True) wr (.slice oc n cc) l ∧ Mem w wr) (fun _ i _ => ss.length - (intOf i).toNat)
  case atStart => exact ⟨0, _, _, emptyT n, Nat.zero_le _, rfl, rfl, hl0, hs0, ma⟩
  case round =>
    clear hs0 ma hl0
    obtain ⟨j, oc, cc, l, hj, rfl, rfl, hll, hz, hmr⟩ := hrel
    have hl : l.length ≤ 1000 := by omega
    subst hll
    have hz' := hz
    clear hz
    by_cases hgo : j < ss.length ∧ j < 20
    · obtain ⟨hlt, hlt20⟩ := hgo
      have hlt' : (j : Int) < (ss.length : Int) := by omega
      have hlt20' : (j : Int) < 20 := by omega
      have hj0 : (0 : Int) ≤ (j : Int) := by omega
      obtain ⟨oa', ca', e, _, hc⟩ := hs.mem hmr
      injection e with e _ e2
      subst e
      subst e2
      obtain ⟨g, o, rfl, d0, d1, d2, hok⟩ := hc j hlt
      have HC : Hid (∀ w', Mem wr w' → w'.cell? ⟨g, o + j * 3, none⟩ = some (.bool ss[j].1)) := fun w' h => (Below.cell h (p := ⟨g, o + j * 3, none⟩) (World.block_lt_of_cell? wr _ d0)).trans d0
      clear hc hok
      generalize ss[j] = s at *
      obtain ⟨dr, pr, pl⟩ := s
      simp only [] at d0 d1 d2 HC
      clear d0
      go_wp2_with fail
      go_quiet (fail)
      have hmq := hmr.trans ((Mem.refl wr).drewN nq)
      have HM1 := hide ((Mem.refl wr).drewN nq)
      have hz1 := hz'.mem HM1.out
      go_wp2_with fail
      generalize (wrap64 pr).tmod 12 = q at *
      generalize (wrap64 pl).tmod 3 = p at *
      clear d1 d2
      refine (lawSame _ oc cc l q p _ hz1 hl).mono ?_
      rintro e w2 ⟨rfl, m2⟩
      have HM2 := hide (HM1.out.trans m2)
      replace hz1 := hz1.mem m2
      replace hmq := hmq.trans m2
      go_wp2_with fail
      refine (refPut _ _ l q p _ hz1 hl).mono ?_
      rintro e w3 ⟨⟨v3, rfl, h3⟩, m3⟩
      have d3 := HC.out _ (HM2.out.trans m3)
      have hz3 := hz1.mem m3
      have hmq3 := hmq.trans m3
      obtain ⟨o3, c3, rfl⟩ := h3.shape
      cases dr with
      | true =>
        generalize putT l q p = pt at *
        go_wp2_with fail
        refine (refDrop _ _ l q p _ hz3 hl).mono ?_
        rintro e w4 ⟨⟨v4, rfl, h4⟩, m4⟩
        have hdl := dropT_len l q p
        obtain ⟨o4, c4, rfl⟩ := h4.shape
        replace h4 := h4.mono (S' := fun _ => True) fun _ _ _ => trivial
        generalize dropT l q p = l4 at *
        rw [hdl] at h4 ⊢
        have HD := hide hdl
        have hm4 := hmq3.trans m4
        clear hdl h3 d3
        go_wp2_with fail
        go_roundw
        case rel => exact ⟨j + 1, _, _, l4, by omega, by go_num, rfl, HD.out, h4, hm4⟩
        case measure => simp [intOf]; omega
      | false =>
        have HP := hide (fun h => putT_len (l := l) (q := q) (p := p) h)
        generalize putT l q p = pt at *
        obtain ⟨l4, en⟩ := pt
        simp only [] at h3 HP
        by_cases he : en = 0
        · subst he
          have hpl := HP.out rfl
          have HD := hide hpl
          replace h3 := h3.mono (S' := fun _ => True) fun _ _ _ => trivial
          simp only []
          rw [hpl] at h3 ⊢
          clear hpl
          go_wp2_with fail
          go_roundw
          case rel => exact ⟨j + 1, _, _, l4, by omega, by go_num, rfl, HD.out, h3, hmq3⟩
          case measure => simp [intOf]; omega
        · clear h3
          go_wp2_with fail
          go_roundw
          case rel => exact ⟨j + 1, _, _, l, by omega, by go_num, rfl, rfl, hz3, hmq3⟩
          case measure => simp [intOf]; omega
    · by_cases hlt : j < ss.length
      · have hlt' : (j : Int) < (ss.length : Int) := by omega
        have hge : (20 : Int) ≤ (j : Int) := by omega
        clear hgo hlt
        go_wp2_with fail
        refine (awake _).mono ?_
        rintro e w2 ⟨rfl, m2⟩
        go_wp2_with fail
        go_ret
        exact ⟨rfl, hmr.trans m2⟩
      · have hge : (ss.length : Int) ≤ (j : Int) := by omega
        clear hgo hlt
        go_wp2_with fail
        refine (awake _).mono ?_
        rintro e w2 ⟨rfl, m2⟩
        go_wp2_with fail
        go_ret
        exact ⟨rfl, hmr.trans m2⟩
end Go.Proofs.Ytmkfinjhbhfaeaa.Index
