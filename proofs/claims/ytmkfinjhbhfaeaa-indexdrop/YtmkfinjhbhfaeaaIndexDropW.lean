/-
  Layer 9: the walk of IndexDrop.
-/
import Derived.Test.YtmkfinjhbhfaeaaIndexStepsW
import Derived.Test.YtmkfinjhbhfaeaaIndexFullW
import Derived.Deep.RegionHeld3
namespace Go.Proofs.Ytmkfinjhbhfaeaa.Index
open Go.RowKit Go.Proofs.Ytmkfinjhbhfaeaa.Scan Go.Proofs.Ytmkfinjhbhfaeaa.Replay

theorem reach_put {l : List SlotT} (h : Reach l) {q p : Int} (h0 : 0 ≤ q) (he : (putT l q p).2 = 0) : Reach (putT l q p).1 := by
  by_cases hu : usedN l < l.length
  · obtain ⟨l', h1, _, h3, _⟩ := put_does (p := p) h h0 hu
    rw [h1]
    exact h3
  · have : usedN l = l.length := by
      have := cntI_le (isU l) l.length
      unfold usedN at hu ⊢
      omega
    rw [put_full h0 this] at he
    cases he
theorem reach_drop {l : List SlotT} (h : Reach l) {q p : Int} (h0 : 0 ≤ q) : Reach (dropT l q p) := by
  by_cases hc : 0 < cntS l q p
  · obtain ⟨l', h1, _, h3, _⟩ := drop_does h h0 hc
    rw [h1]
    exact h3
  · rw [drop_none h h0 (by omega)]
    exact h
/-- what a Drop does to how many are found -/
theorem drop_lens {l : List SlotT} (h : Reach l) {q p : Int} (h0 : 0 ≤ q) {b : Bool} (hb : ((findT l q).any fun x => decide (x = p)) = b) :
    (∀ k, 0 ≤ k → (findT (dropT l q p) k).length = (findT l k).length - (if k = q ∧ b = true then 1 else 0)) ∧ (b = true → 0 < (findT l q).length ∧ ∃ l', putT (dropT l q p) q p = (l', 0)) := by
  have hr := reach_drop (p := p) h h0
  cases b with
  | false =>
    have hc : cntS l q p = 0 := by
      rcases Nat.eq_zero_or_pos (cntS l q p) with h' | h'
      · exact h'
      · have hm := (find_has h h0).1 h'
        have := List.any_eq_false.1 hb p hm
        simp at this
    rw [drop_none h h0 hc]
    exact ⟨fun k _ => by simp, fun h' => by cases h'⟩
  | true =>
    obtain ⟨x, hx, hxp⟩ := List.any_eq_true.1 hb
    have hxp : x = p := by simpa using hxp
    subst hxp
    have hc := (find_has h h0).2 hx
    obtain ⟨l', h1, h2, h3, h4, h5, h6, h7, h8⟩ := drop_does h h0 hc
    rw [h1]
    refine ⟨fun k hk => ?_, fun _ => ⟨List.length_pos_of_mem hx, ?_⟩⟩
    · rw [find_len h3 hk, find_len h hk]
      by_cases e : k = q
      · subst e
        rw [if_pos ⟨rfl, rfl⟩]
        omega
      · rw [if_neg (fun e' => e e'.1), h8 k e]
        omega
    · have hle := cntI_le (isU l) l.length
      have hu : usedN l' < l'.length := by
        have : usedN l ≤ l.length := hle
        omega
      obtain ⟨l2, g1, _⟩ := put_does (p := x) h3 h0 hu
      exact ⟨l2, g1⟩
theorem wrap_in {z : Int} (h0 : -9223372036854775808 ≤ z) (h1 : z < 9223372036854775808) : IntKind.i64.wrap z = z := by
  simp only [IntKind.wrap, IntKind.signed, IntKind.bits]
  simp
  omega
theorem mod_val {x m : Int} (h0 : 0 ≤ x) (h1 : x ≤ 255) : (IntKind.i64.wrap x).tmod m = x % m := by
  rw [wrap_in (by omega) (by omega), Int.tmod_eq_emod_of_nonneg h0]

set_option maxHeartbeats 8000000 in
set_option maxRecDepth 100000 in
theorem indexDrop_walk (va : Value) (ss : List StepT) (a1 a2 a3 : Int) (w : World) (hs : StepsAt w va ss) (w1 : (Lit.int .u8 a1).wf = true) (w2 : (Lit.int .u8 a2).wf = true) (w3 : (Lit.int .u8 a3).wf = true) :
    Calls Try.prog 7 #[va, .int .u8 a1, .int .u8 a2, .int .u8 a3] w fun e w' => e = .returned (.bool true) ∧ Mem w w' := by
  obtain ⟨oa, ca, rfl, hsl, hsc⟩ := id hs
  unfold maxLen at hsl
  clear hsc
  have hb1 := wf_u8 w1
  obtain ⟨hp0, hp1⟩ := wf_u8 w2
  obtain ⟨hq0, hq1⟩ := wf_u8 w3
  clear w1 w2 w3
  obtain ⟨n1, rfl⟩ := Int.eq_ofNat_of_zero_le hb1.1
  obtain ⟨n, hn⟩ : ∃ a : Nat, 1 + (n1 : Int) % 9 = (a : Int) := ⟨1 + n1 % 9, by omega⟩
  have hn8 : n ≤ 9 := by omega
  have hn8' : (n : Int) ≤ 9 := by omega
  have hn0' : (0 : Int) ≤ (n : Int) := by omega
  go_enter Try.func7, Try.ntmps7
  go_wp2_with fail
  refine (awake _).mono ?_
  rintro e w1 ⟨rfl, m1⟩
  replace hs := hs.mem m1
  have hmk := run_makeSlots n (by omega) w1
  have hR := made_slots w1 n
  have ma : Mem w1 (w1.alloc (.cells (madeCells #[.int .i64 0, .int .i64 0, .int .i64 0] (n * 3)) 42)) := (Mem.refl w1).alloc _
  generalize hW : w1.alloc (.cells (madeCells #[.int .i64 0, .int .i64 0, .int .i64 0] (n * 3)) 42) = W at *
  have hs0 := hR.slots (S := fun _ => True) (by rw [empty_len]; unfold maxLen; omega) trivial n
  have hl0 := empty_len n
  have hF0 := empty_reach n
  rw [hl0] at hs0
  go_wp2_with fail
  clear hW hmk hR hn
  go_loopw [10, 11] (fun v i wr => ∃ (j : Nat) (oc : Option Addr) (cc : Nat) (l : List SlotT), j ≤ ss.length ∧ i = .int .i64 j ∧ v = .slice oc n cc ∧ l.length = n ∧ Reach l ∧ SlotsAt (fun _ => True) wr (.slice oc n cc) l ∧ Mem w1 wr) (fun _ i _ => ss.length - (intOf i).toNat)
  case atStart => exact ⟨0, _, _, emptyT n, Nat.zero_le _, rfl, rfl, hl0, hF0, hs0, ma⟩
  case round =>
    clear hs0 ma hl0 hF0
    obtain ⟨j, oc, cc, l, hj, rfl, rfl, hll, hF, hz, hmr⟩ := hrel
    have hl : l.length ≤ 1000 := by omega
    subst hll
    have HF := hide hF
    clear hF
    by_cases hgo : j < ss.length ∧ j < 20
    · obtain ⟨hlt, hlt20⟩ := hgo
      have hlt' : (j : Int) < (ss.length : Int) := by omega
      have hlt20' : (j : Int) < 20 := by omega
      have hj0 : (0 : Int) ≤ (j : Int) := by omega
      obtain ⟨oa', ca', e, _, hc⟩ := hs.mem hmr
      injection e with e _ e2
      subst e
      subst e2
      obtain ⟨g, o, rfl, d0, d1, d2, hok⟩ := hc j hlt
      clear hc
      generalize ss[j] = s at *
      obtain ⟨dr, pr, pl⟩ := s
      obtain ⟨⟨hr0, hr1⟩, hr2, hr3⟩ := hok
      simp only [] at d0 d1 d2 hr0 hr1 hr2 hr3
      have HC : Hid (∀ w', Mem wr w' → w'.cell? ⟨g, o + j * 3, none⟩ = some (.bool dr) ∧ w'.cell? ⟨g, o + j * 3 + 1, none⟩ = some (.int .u8 pr) ∧ w'.cell? ⟨g, o + j * 3 + 2, none⟩ = some (.int .u8 pl)) := fun w' h => ⟨(Below.cell h (p := ⟨g, o + j * 3, none⟩) (World.block_lt_of_cell? wr _ d0)).trans d0, (Below.cell h (p := ⟨g, o + j * 3 + 1, none⟩) (World.block_lt_of_cell? wr _ d1)).trans d1, (Below.cell h (p := ⟨g, o + j * 3 + 2, none⟩) (World.block_lt_of_cell? wr _ d2)).trans d2⟩
      have HZ := hide (fun (w' : World) (h : Mem wr w') => hz.mem h)
      have N0 := hide (Mem.drew (Mem.refl wr))
      have EQ := hide (mod_val (m := 12) hr0 hr1)
      have EP := hide (mod_val (m := 3) hr2 hr3)
      obtain ⟨q, hq⟩ : ∃ q : Int, pr % 12 = q := ⟨_, rfl⟩
      obtain ⟨p, hp⟩ : ∃ p : Int, pl % 3 = p := ⟨_, rfl⟩
      have hqq : 0 ≤ q := by omega
      rw [hq] at EQ
      rw [hp] at EP
      clear hq hp
      go_wp2_with fail
      go_region_held3 (fun w' => w'.cell? ⟨g, o + j * 3 + 1, none⟩ = some (.int .u8 pr) ∧ w'.cell? ⟨g, o + j * 3 + 2, none⟩ = some (.int .u8 pl))
        (first | with_reducible exact (HC.out _ N0.out).2 | with_reducible exact (HC.out _ N1.out).2)
        ((go_at_call 10; (try rw [EQ.out]); (try rw [EP.out]); refine (refPut _ _ l q p _ (HZ.out _ N0.out) hl).mono ?_; rintro e w3 ⟨⟨v3, rfl, h3⟩, n1⟩; obtain ⟨o3, c3, rfl⟩ := h3.shape; have N1 := hide (Mem.trans N0.out n1); have HV3 := hide h3; clear n1 h3))
      have hm3 := hmr.trans N1.out
      obtain ⟨e0, _, _⟩ := HC.out _ N1.out
      cases dr with
      | true =>
        generalize putT l q p = pt at *
        go_wp2_with fail
        have N2 := hide (Mem.drew N1.out)
        obtain ⟨_, d1, d2⟩ := HC.out _ N1.out
        go_region_held3 (fun w' => w'.cell? ⟨g, o + j * 3 + 1, none⟩ = some (.int .u8 pr) ∧ w'.cell? ⟨g, o + j * 3 + 2, none⟩ = some (.int .u8 pl))
          (first | with_reducible exact (HC.out _ N2.out).2 | with_reducible exact (HC.out _ N3.out).2)
          ((go_at_call 11; (try rw [EQ.out]); (try rw [EP.out]); refine (refDrop _ _ l q p _ (HZ.out _ N2.out) hl).mono ?_; rintro e w4 ⟨⟨v4, rfl, h4⟩, n1⟩; obtain ⟨o4, c4, rfl⟩ := h4.shape; have N3 := hide (Mem.trans N2.out n1); have HV4 := hide (h4.mono (S' := fun _ => True) fun _ _ _ => trivial); clear n1 h4))
        have hm4 := hmr.trans N3.out
        have HD := hide (dropT_len l q p)
        have HRd := hide (reach_drop (p := p) HF.out hqq)
        have h4 := HV4.out
        generalize dropT l q p = l4 at *
        rw [HD.out] at h4 ⊢
        go_wp2_with fail
        go_roundw
        case rel => exact ⟨j + 1, _, _, l4, by omega, by go_num, rfl, HD.out, HRd.out, h4, hm4⟩
        case measure => simp [intOf]; omega
      | false =>
        have HP := hide (fun h => putT_len (l := l) (q := q) (p := p) h)
        have HRp := hide (fun h => reach_put (p := p) HF.out hqq h)
        have h3 := HV3.out
        generalize putT l q p = pt at *
        obtain ⟨l4, en⟩ := pt
        simp only [] at h3 HP HRp
        have hz3 := HZ.out _ N1.out
        by_cases he : en = 0
        · subst he
          have hpl := HP.out rfl
          have HD := hide hpl
          have HRe := hide (HRp.out rfl)
          replace h3 := h3.mono (S' := fun _ => True) fun _ _ _ => trivial
          simp only []
          rw [hpl] at h3 ⊢
          clear hpl
          go_wp2_with fail
          go_roundw
          case rel => exact ⟨j + 1, _, _, l4, by omega, by go_num, rfl, HD.out, HRe.out, h3, hm3⟩
          case measure => simp [intOf]; omega
        · clear h3
          go_wp2_with fail
          go_roundw
          case rel => exact ⟨j + 1, _, _, l, by omega, by go_num, rfl, rfl, HF.out, hz3, hm3⟩
          case measure => simp [intOf]; omega
    · by_cases hlt : j < ss.length
      · have hlt' : (j : Int) < (ss.length : Int) := by omega
        have hge : (20 : Int) ≤ (j : Int) := by omega
        clear hgo hlt
        obtain ⟨P, hP⟩ : ∃ P : Int, a2 % 12 = P := ⟨_, rfl⟩
        obtain ⟨Q, hQ⟩ : ∃ Q : Int, a3 % 3 = Q := ⟨_, rfl⟩
        have hP0 : 0 ≤ P := by omega
        have hP1 : P ≤ 11 := by omega
        go_wp2_with fail
        (try rw [hP])
        (try rw [hQ])
        clear hP hQ
        refine (codeDrop _ _ l P Q _ hz hl).mono ?_
        rintro e w3 ⟨⟨v3, rfl, h3⟩, m3⟩
        have hz3 := hz.mem m3
        have hdl := dropT_len l P Q
        obtain ⟨o3, c3, rfl⟩ := h3.shape
        have HD := hide (fun (b : Bool) hb => drop_lens (p := Q) (b := b) HF.out hP0 hb)
        have hl3 : (dropT l P Q).length ≤ 1000 := by omega
        generalize dropT l P Q = t at *
        rw [hdl] at h3 ⊢
        have HT := hide hdl
        have hm3 := hmr.trans m3
        clear hz hmr m3 hdl
        go_wp2_with fail
        refine (codeFind _ _ l P _ hz3 hl).mono ?_
        rintro e w4 ⟨⟨v4, rfl, h4⟩, m4⟩
        obtain ⟨o4, c4, rfl⟩ := h4.ints.shape
        have hi4 := h4.ints
        have hz4 := hz3.mem m4
        have ht4 : SlotsAt (fun _ => True) w4 (.slice o3 l.length c3) t := (h3.mem m4).mono (S' := fun _ => True) fun _ _ _ => trivial
        have hm4 := hm3.trans m4
        have hfl := hi4.1
        unfold maxLen at hfl
        obtain ⟨f, hf⟩ : ∃ f, findT l P = f := ⟨_, rfl⟩
        have HFf := hide hf
        rw [hf] at hi4 hfl ⊢
        clear h4 hz3 h3 hm3 m4 hf
        go_wp2_with fail
        go_loopw [17, 19] (fun a c wk => ∃ k : Nat, k ≤ f.length ∧ c = .int .i64 k ∧ a = .bool ((f.take k).any fun x => decide (x = Q)) ∧ Mem w4 wk) (fun _ c _ => f.length - (intOf c).toNat)
        case atStart => exact ⟨0, Nat.zero_le _, rfl, by simp, Mem.refl _⟩
        case round =>
          obtain ⟨k, hk, rfl, rfl, hmk⟩ := hrel
          by_cases hlk : k < f.length
          · have hlk' : (k : Int) < (f.length : Int) := by omega
            have hk0 : (0 : Int) ≤ (k : Int) := by omega
            obtain ⟨fb, fo, rfl, hc⟩ := (hi4.mem hmk).at (by omega)
            have e0 := hc k hlk
            have HA := hide (any_take9 f (fun x => decide (x = Q)) hlk)
            clear hc
            generalize f.getD k 0 = x at *
            generalize (f.take k).any (fun x => decide (x = Q)) = b at *
            cases b with
            | true =>
              go_wp2_with fail
              go_roundw
              case rel => exact ⟨k + 1, by omega, by go_num, boolV9 (by rw [HA.out]; rfl), hmk⟩
              case measure => simp [intOf]; omega
            | false =>
              by_cases hx : x = Q
              · subst hx
                go_wp2_with fail
                go_roundw
                case rel => exact ⟨k + 1, by omega, by go_num, boolV9 (by rw [HA.out]; simp), hmk⟩
                case measure => simp [intOf]; omega
              · have hxd : decide (x = Q) = false := by simp [hx]
                have HXD := hide hxd
                have hxe : (x == Q) = false := by simp [hx]
                go_wp2_with fail
                go_roundw
                case rel => exact ⟨k + 1, by omega, by go_num, boolV9 (by rw [HA.out, HXD.out]; rfl), hmk⟩
                case measure => simp [intOf]; omega
          · have hke : k = f.length := by omega
            subst hke
            have hlk' : ¬ ((f.length : Int) < (f.length : Int)) := by omega
            rw [List.take_length]
            cases hb : f.any (fun x => decide (x = Q)) with
            | true =>
              obtain ⟨hlens, hput⟩ := HD.out true (by rw [HFf.out]; exact hb)
              obtain ⟨hpos, l2, hput⟩ := hput rfl
              have HLens := hide hlens
              have HPut := hide hput
              have HPos : Hid (0 < (findT l P).length) := hpos
              clear hlens hput hpos hb
              go_wp2_with fail
              go_loopw [21, 22] (fun c wt wk => ∃ k : Nat, k ≤ 12 ∧ c = .int .i64 k ∧ Mem w4 wk) (fun c _ _ => 12 - (intOf c).toNat)
              case atStart => exact ⟨0, Nat.zero_le _, rfl, hmk⟩
              case round =>
                obtain ⟨k, hk, rfl, hmx⟩ := hrel
                by_cases hlx : k < 12
                · have hlx' : (k : Int) < 12 := by omega
                  have HLk := hide (HLens.out k (by omega))
                  go_wp2_with fail
                  refine (codeFind _ _ l k _ (hz4.mem hmx) hl).mono ?_
                  rintro e w6 ⟨⟨v6, rfl, h6⟩, m6⟩
                  obtain ⟨o6, c6, rfl⟩ := h6.ints.shape
                  have hf6 := h6.1
                  unfold maxLen at hf6
                  have hm6 := hmx.trans m6
                  clear h6 m6
                  by_cases hkP : (k : Int) = P
                  · have HkP := hide hkP
                    have HE : Hid ((findT t P).length = (findT l P).length - 1) := by show _ = _; rw [HLens.out P (by omega)]; simp
                    have hpos := HPos.out
                    rw [show findT l (k : Int) = findT l P by rw [hkP]] at hf6 ⊢
                    generalize (findT l P).length = n1' at *
                    obtain ⟨n2, rfl⟩ : ∃ n2, n1' = n2 + 1 := ⟨n1' - 1, by omega⟩
                    go_wp2_with fail
                    clear hkP
                    refine (codeFind _ _ t P _ (ht4.mem hm6) hl3).mono ?_
                    rintro e w7 ⟨⟨v7, rfl, h7⟩, m7⟩
                    obtain ⟨o7, c7, rfl⟩ := h7.ints.shape
                    have hm7 := hm6.trans m7
                    rw [HE.out, Nat.add_sub_cancel]
                    clear h7 m7
                    go_wp2_with fail
                    go_roundw
                    case rel => exact ⟨k + 1, by omega, int_eq (by have := HkP.out; omega), hm7⟩
                    case measure => have := HkP.out; simp [intOf]; omega
                  · have HE : Hid ((findT t k).length = (findT l k).length) := by show _ = _; rw [HLk.out]; simp [hkP]
                    generalize (findT l k).length = n1' at *
                    go_wp2_with fail
                    refine (codeFind _ _ t k _ (ht4.mem hm6) hl3).mono ?_
                    rintro e w7 ⟨⟨v7, rfl, h7⟩, m7⟩
                    obtain ⟨o7, c7, rfl⟩ := h7.ints.shape
                    have hm7 := hm6.trans m7
                    rw [HE.out]
                    clear h7 m7
                    go_wp2_with fail
                    go_roundw
                    case rel => exact ⟨k + 1, by omega, by go_num, hm7⟩
                    case measure => simp [intOf]; omega
                · have hlx' : 12 ≤ (k : Int) := by omega
                  clear hlx
                  go_wp2_with fail
                  refine (codePut _ _ t P Q _ (ht4.mem hmx) hl3).mono ?_
                  rintro e w8 ⟨⟨v8, rfl, h8⟩, m8⟩
                  rw [HPut.out] at h8 ⊢
                  obtain ⟨o8, c8, rfl⟩ := h8.shape
                  clear h8
                  go_wp2_with fail
                  go_ret
                  exact ⟨rfl, m1.trans (hm4.trans (hmx.trans m8))⟩
            | false =>
              obtain ⟨hlens, _⟩ := HD.out false (by rw [HFf.out]; exact hb)
              have HLens := hide hlens
              clear hlens hb
              go_wp2_with fail
              go_loopw [21, 22] (fun c wt wk => ∃ k : Nat, k ≤ 12 ∧ c = .int .i64 k ∧ Mem w4 wk) (fun c _ _ => 12 - (intOf c).toNat)
              case atStart => exact ⟨0, Nat.zero_le _, rfl, hmk⟩
              case round =>
                obtain ⟨k, hk, rfl, hmx⟩ := hrel
                by_cases hlx : k < 12
                · have hlx' : (k : Int) < 12 := by omega
                  have HLk := hide (HLens.out k (by omega))
                  go_wp2_with fail
                  refine (codeFind _ _ l k _ (hz4.mem hmx) hl).mono ?_
                  rintro e w6 ⟨⟨v6, rfl, h6⟩, m6⟩
                  obtain ⟨o6, c6, rfl⟩ := h6.ints.shape
                  have hf6 := h6.1
                  unfold maxLen at hf6
                  have hm6 := hmx.trans m6
                  clear h6 m6
                  by_cases hkP : (k : Int) = P
                  · have HkP := hide hkP
                    have HE : Hid ((findT t P).length = (findT l P).length - 0) := by show _ = _; rw [HLens.out P (by omega)]; simp
                    rw [show findT l (k : Int) = findT l P by rw [hkP]] at hf6 ⊢
                    generalize (findT l P).length = n1' at *
                    go_wp2_with fail
                    clear hkP
                    refine (codeFind _ _ t P _ (ht4.mem hm6) hl3).mono ?_
                    rintro e w7 ⟨⟨v7, rfl, h7⟩, m7⟩
                    obtain ⟨o7, c7, rfl⟩ := h7.ints.shape
                    have hm7 := hm6.trans m7
                    rw [HE.out]
                    rw [Nat.sub_zero]
                    clear h7 m7
                    go_wp2_with fail
                    go_roundw
                    case rel => exact ⟨k + 1, by omega, int_eq (by have := HkP.out; omega), hm7⟩
                    case measure => have := HkP.out; simp [intOf]; omega
                  · have HE : Hid ((findT t k).length = (findT l k).length) := by show _ = _; rw [HLk.out]; simp [hkP]
                    generalize (findT l k).length = n1' at *
                    go_wp2_with fail
                    refine (codeFind _ _ t k _ (ht4.mem hm6) hl3).mono ?_
                    rintro e w7 ⟨⟨v7, rfl, h7⟩, m7⟩
                    obtain ⟨o7, c7, rfl⟩ := h7.ints.shape
                    have hm7 := hm6.trans m7
                    rw [HE.out]
                    clear h7 m7
                    go_wp2_with fail
                    go_roundw
                    case rel => exact ⟨k + 1, by omega, by go_num, hm7⟩
                    case measure => simp [intOf]; omega
                · have hlx' : 12 ≤ (k : Int) := by omega
                  clear hlx
                  go_wp2_with fail
                  refine (codePut _ _ t P Q _ (ht4.mem hmx) hl3).mono ?_
                  rintro e w8 ⟨⟨v8, rfl, h8⟩, m8⟩
                  generalize putT t P Q = pt8 at *
                  obtain ⟨o8, c8, rfl⟩ := h8.shape
                  clear h8
                  go_wp2_with fail
                  go_ret
                  exact ⟨rfl, m1.trans (hm4.trans (hmx.trans m8))⟩
      · have hge : (ss.length : Int) ≤ (j : Int) := by omega
        clear hgo hlt
        obtain ⟨P, hP⟩ : ∃ P : Int, a2 % 12 = P := ⟨_, rfl⟩
        obtain ⟨Q, hQ⟩ : ∃ Q : Int, a3 % 3 = Q := ⟨_, rfl⟩
        have hP0 : 0 ≤ P := by omega
        have hP1 : P ≤ 11 := by omega
        go_wp2_with fail
        (try rw [hP])
        (try rw [hQ])
        clear hP hQ
        refine (codeDrop _ _ l P Q _ hz hl).mono ?_
        rintro e w3 ⟨⟨v3, rfl, h3⟩, m3⟩
        have hz3 := hz.mem m3
        have hdl := dropT_len l P Q
        obtain ⟨o3, c3, rfl⟩ := h3.shape
        have HD := hide (fun (b : Bool) hb => drop_lens (p := Q) (b := b) HF.out hP0 hb)
        have hl3 : (dropT l P Q).length ≤ 1000 := by omega
        generalize dropT l P Q = t at *
        rw [hdl] at h3 ⊢
        have HT := hide hdl
        have hm3 := hmr.trans m3
        clear hz hmr m3 hdl
        go_wp2_with fail
        refine (codeFind _ _ l P _ hz3 hl).mono ?_
        rintro e w4 ⟨⟨v4, rfl, h4⟩, m4⟩
        obtain ⟨o4, c4, rfl⟩ := h4.ints.shape
        have hi4 := h4.ints
        have hz4 := hz3.mem m4
        have ht4 : SlotsAt (fun _ => True) w4 (.slice o3 l.length c3) t := (h3.mem m4).mono (S' := fun _ => True) fun _ _ _ => trivial
        have hm4 := hm3.trans m4
        have hfl := hi4.1
        unfold maxLen at hfl
        obtain ⟨f, hf⟩ : ∃ f, findT l P = f := ⟨_, rfl⟩
        have HFf := hide hf
        rw [hf] at hi4 hfl ⊢
        clear h4 hz3 h3 hm3 m4 hf
        go_wp2_with fail
        go_loopw [17, 19] (fun a c wk => ∃ k : Nat, k ≤ f.length ∧ c = .int .i64 k ∧ a = .bool ((f.take k).any fun x => decide (x = Q)) ∧ Mem w4 wk) (fun _ c _ => f.length - (intOf c).toNat)
        case atStart => exact ⟨0, Nat.zero_le _, rfl, by simp, Mem.refl _⟩
        case round =>
          obtain ⟨k, hk, rfl, rfl, hmk⟩ := hrel
          by_cases hlk : k < f.length
          · have hlk' : (k : Int) < (f.length : Int) := by omega
            have hk0 : (0 : Int) ≤ (k : Int) := by omega
            obtain ⟨fb, fo, rfl, hc⟩ := (hi4.mem hmk).at (by omega)
            have e0 := hc k hlk
            have HA := hide (any_take9 f (fun x => decide (x = Q)) hlk)
            clear hc
            generalize f.getD k 0 = x at *
            generalize (f.take k).any (fun x => decide (x = Q)) = b at *
            cases b with
            | true =>
              go_wp2_with fail
              go_roundw
              case rel => exact ⟨k + 1, by omega, by go_num, boolV9 (by rw [HA.out]; rfl), hmk⟩
              case measure => simp [intOf]; omega
            | false =>
              by_cases hx : x = Q
              · subst hx
                go_wp2_with fail
                go_roundw
                case rel => exact ⟨k + 1, by omega, by go_num, boolV9 (by rw [HA.out]; simp), hmk⟩
                case measure => simp [intOf]; omega
              · have hxd : decide (x = Q) = false := by simp [hx]
                have HXD := hide hxd
                have hxe : (x == Q) = false := by simp [hx]
                go_wp2_with fail
                go_roundw
                case rel => exact ⟨k + 1, by omega, by go_num, boolV9 (by rw [HA.out, HXD.out]; rfl), hmk⟩
                case measure => simp [intOf]; omega
          · have hke : k = f.length := by omega
            subst hke
            have hlk' : ¬ ((f.length : Int) < (f.length : Int)) := by omega
            rw [List.take_length]
            cases hb : f.any (fun x => decide (x = Q)) with
            | true =>
              obtain ⟨hlens, hput⟩ := HD.out true (by rw [HFf.out]; exact hb)
              obtain ⟨hpos, l2, hput⟩ := hput rfl
              have HLens := hide hlens
              have HPut := hide hput
              have HPos : Hid (0 < (findT l P).length) := hpos
              clear hlens hput hpos hb
              go_wp2_with fail
              go_loopw [21, 22] (fun c wt wk => ∃ k : Nat, k ≤ 12 ∧ c = .int .i64 k ∧ Mem w4 wk) (fun c _ _ => 12 - (intOf c).toNat)
              case atStart => exact ⟨0, Nat.zero_le _, rfl, hmk⟩
              case round =>
                obtain ⟨k, hk, rfl, hmx⟩ := hrel
                by_cases hlx : k < 12
                · have hlx' : (k : Int) < 12 := by omega
                  have HLk := hide (HLens.out k (by omega))
                  go_wp2_with fail
                  refine (codeFind _ _ l k _ (hz4.mem hmx) hl).mono ?_
                  rintro e w6 ⟨⟨v6, rfl, h6⟩, m6⟩
                  obtain ⟨o6, c6, rfl⟩ := h6.ints.shape
                  have hf6 := h6.1
                  unfold maxLen at hf6
                  have hm6 := hmx.trans m6
                  clear h6 m6
                  by_cases hkP : (k : Int) = P
                  · have HkP := hide hkP
                    have HE : Hid ((findT t P).length = (findT l P).length - 1) := by show _ = _; rw [HLens.out P (by omega)]; simp
                    have hpos := HPos.out
                    rw [show findT l (k : Int) = findT l P by rw [hkP]] at hf6 ⊢
                    generalize (findT l P).length = n1' at *
                    obtain ⟨n2, rfl⟩ : ∃ n2, n1' = n2 + 1 := ⟨n1' - 1, by omega⟩
                    go_wp2_with fail
                    clear hkP
                    refine (codeFind _ _ t P _ (ht4.mem hm6) hl3).mono ?_
                    rintro e w7 ⟨⟨v7, rfl, h7⟩, m7⟩
                    obtain ⟨o7, c7, rfl⟩ := h7.ints.shape
                    have hm7 := hm6.trans m7
                    rw [HE.out, Nat.add_sub_cancel]
                    clear h7 m7
                    go_wp2_with fail
                    go_roundw
                    case rel => exact ⟨k + 1, by omega, int_eq (by have := HkP.out; omega), hm7⟩
                    case measure => have := HkP.out; simp [intOf]; omega
                  · have HE : Hid ((findT t k).length = (findT l k).length) := by show _ = _; rw [HLk.out]; simp [hkP]
                    generalize (findT l k).length = n1' at *
                    go_wp2_with fail
                    refine (codeFind _ _ t k _ (ht4.mem hm6) hl3).mono ?_
                    rintro e w7 ⟨⟨v7, rfl, h7⟩, m7⟩
                    obtain ⟨o7, c7, rfl⟩ := h7.ints.shape
                    have hm7 := hm6.trans m7
                    rw [HE.out]
                    clear h7 m7
                    go_wp2_with fail
                    go_roundw
                    case rel => exact ⟨k + 1, by omega, by go_num, hm7⟩
                    case measure => simp [intOf]; omega
                · have hlx' : 12 ≤ (k : Int) := by omega
                  clear hlx
                  go_wp2_with fail
                  refine (codePut _ _ t P Q _ (ht4.mem hmx) hl3).mono ?_
                  rintro e w8 ⟨⟨v8, rfl, h8⟩, m8⟩
                  rw [HPut.out] at h8 ⊢
                  obtain ⟨o8, c8, rfl⟩ := h8.shape
                  clear h8
                  go_wp2_with fail
                  go_ret
                  exact ⟨rfl, m1.trans (hm4.trans (hmx.trans m8))⟩
            | false =>
              obtain ⟨hlens, _⟩ := HD.out false (by rw [HFf.out]; exact hb)
              have HLens := hide hlens
              clear hlens hb
              go_wp2_with fail
              go_loopw [21, 22] (fun c wt wk => ∃ k : Nat, k ≤ 12 ∧ c = .int .i64 k ∧ Mem w4 wk) (fun c _ _ => 12 - (intOf c).toNat)
              case atStart => exact ⟨0, Nat.zero_le _, rfl, hmk⟩
              case round =>
                obtain ⟨k, hk, rfl, hmx⟩ := hrel
                by_cases hlx : k < 12
                · have hlx' : (k : Int) < 12 := by omega
                  have HLk := hide (HLens.out k (by omega))
                  go_wp2_with fail
                  refine (codeFind _ _ l k _ (hz4.mem hmx) hl).mono ?_
                  rintro e w6 ⟨⟨v6, rfl, h6⟩, m6⟩
                  obtain ⟨o6, c6, rfl⟩ := h6.ints.shape
                  have hf6 := h6.1
                  unfold maxLen at hf6
                  have hm6 := hmx.trans m6
                  clear h6 m6
                  by_cases hkP : (k : Int) = P
                  · have HkP := hide hkP
                    have HE : Hid ((findT t P).length = (findT l P).length - 0) := by show _ = _; rw [HLens.out P (by omega)]; simp
                    rw [show findT l (k : Int) = findT l P by rw [hkP]] at hf6 ⊢
                    generalize (findT l P).length = n1' at *
                    go_wp2_with fail
                    clear hkP
                    refine (codeFind _ _ t P _ (ht4.mem hm6) hl3).mono ?_
                    rintro e w7 ⟨⟨v7, rfl, h7⟩, m7⟩
                    obtain ⟨o7, c7, rfl⟩ := h7.ints.shape
                    have hm7 := hm6.trans m7
                    rw [HE.out]
                    rw [Nat.sub_zero]
                    clear h7 m7
                    go_wp2_with fail
                    go_roundw
                    case rel => exact ⟨k + 1, by omega, int_eq (by have := HkP.out; omega), hm7⟩
                    case measure => have := HkP.out; simp [intOf]; omega
                  · have HE : Hid ((findT t k).length = (findT l k).length) := by show _ = _; rw [HLk.out]; simp [hkP]
                    generalize (findT l k).length = n1' at *
                    go_wp2_with fail
                    refine (codeFind _ _ t k _ (ht4.mem hm6) hl3).mono ?_
                    rintro e w7 ⟨⟨v7, rfl, h7⟩, m7⟩
                    obtain ⟨o7, c7, rfl⟩ := h7.ints.shape
                    have hm7 := hm6.trans m7
                    rw [HE.out]
                    clear h7 m7
                    go_wp2_with fail
                    go_roundw
                    case rel => exact ⟨k + 1, by omega, by go_num, hm7⟩
                    case measure => simp [intOf]; omega
                · have hlx' : 12 ≤ (k : Int) := by omega
                  clear hlx
                  go_wp2_with fail
                  refine (codePut _ _ t P Q _ (ht4.mem hmx) hl3).mono ?_
                  rintro e w8 ⟨⟨v8, rfl, h8⟩, m8⟩
                  generalize putT t P Q = pt8 at *
                  obtain ⟨o8, c8, rfl⟩ := h8.shape
                  clear h8
                  go_wp2_with fail
                  go_ret
                  exact ⟨rfl, m1.trans (hm4.trans (hmx.trans m8))⟩
end Go.Proofs.Ytmkfinjhbhfaeaa.Index
