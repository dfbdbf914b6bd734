/-
  Layer 9: the walk of IndexFull.
-/
import Derived.Test.YtmkfinjhbhfaeaaIndexAwake
import Derived.BigQuiet
namespace Go.Proofs.Ytmkfinjhbhfaeaa.Index
open Go.RowKit Go.Proofs.Ytmkfinjhbhfaeaa.Scan Go.Proofs.Ytmkfinjhbhfaeaa.Replay

/-- the fingerprint of the i-th -/
def pI (z : List Int) (i : Nat) : Int := if i < z.length then z.getD i 0 else i
theorem any_take9 (l : List Int) (P : Int → Bool) {q : Nat} (h : q < l.length) : (l.take (q + 1)).any P = ((l.take q).any P || P (l.getD q 0)) := by
  have e : l[q] = l.getD q 0 := by simp [h]
  rw [List.take_succ_eq_append_getElem h, List.any_append, e]
  simp
theorem boolV9 {a b : Bool} (h : a = b) : Value.bool a = Value.bool b := by rw [h]
/-- j of them are put -/
def FullI (z : List Int) (j : Nat) (l : List SlotT) : Prop := Reach l ∧ usedN l = j ∧ ∀ i, i < j → 0 < cntS l (pI z i) i
theorem FullI.start (z : List Int) (n : Nat) : FullI z 0 (emptyT n) := ⟨empty_reach n, empty_used n, fun i h => by omega⟩
theorem FullI.put {z : List Int} {j : Nat} {l : List SlotT} (h : FullI z j l) (hj : j < l.length) (hp : 0 ≤ pI z j) : ∃ l', putT l (pI z j) j = (l', 0) ∧ l'.length = l.length ∧ FullI z (j + 1) l' := by
  obtain ⟨l', h1, h2, h3, h4, h5, h6⟩ := put_does (p := (j : Int)) h.1 hp (by rw [h.2.1]; exact hj)
  refine ⟨l', h1, h2, h3, by rw [h4, h.2.1], fun i hi => ?_⟩
  by_cases e : i = j
  · subst e
    omega
  · rw [h6 _ _ (fun e' => e (by have := (Prod.mk.inj e').2; omega))]
    exact h.2.2 i (by omega)
theorem FullI.full {z : List Int} {l : List SlotT} {q p : Int} (h : FullI z l.length l) (h0 : 0 ≤ q) : putT l q p = ([], 40) := put_full h0 h.2.1
theorem FullI.find {z : List Int} {j : Nat} {l : List SlotT} (h : FullI z j l) {i : Nat} (hi : i < j) (hp : 0 ≤ pI z i) : ((findT l (pI z i)).any fun x => decide (x = (i : Int))) = true := by
  have := (find_has h.1 hp).1 (h.2.2 i hi)
  rw [List.any_eq_true]
  exact ⟨_, this, by simp⟩
set_option maxHeartbeats 8000000 in
set_option maxRecDepth 100000 in
theorem indexFull_walk (a0 : Option Addr) (len0 cap0 : Nat) (z0 : List Int) (a1 : Int) (w : World) (w0 : IsRow .u8 w a0 len0 cap0 z0) (w1 : (Lit.int .u8 a1).wf = true) :
    Calls Try.prog 6 #[.slice a0 len0 cap0, .int .u8 a1] w fun e w' => e = .returned (.bool true) ∧ Mem w w' := by
  obtain ⟨hz, hwf⟩ := Ints.of_row w0
  obtain ⟨hl1, _⟩ := row_len w0
  have HZ : Hid (∀ x ∈ z0.take len0, 0 ≤ x ∧ x ≤ 255) := fun x h => wf_u8 (hwf x h)
  clear hwf w0
  generalize z0.take len0 = z at *
  subst hl1
  have hzl := hz.1
  unfold maxLen at hzl
  have HP0 : Hid (∀ i : Nat, 0 ≤ pI z i) := fun i => by
    unfold pI
    split
    · rename_i h
      exact (HZ.out _ (by rw [show z.getD i 0 = z[i] by simp [h]]; exact List.getElem_mem h)).1
    · omega
  have hb1 := wf_u8 w1
  clear w1
  obtain ⟨n1, rfl⟩ := Int.eq_ofNat_of_zero_le hb1.1
  obtain ⟨n, hn⟩ : ∃ a : Nat, (n1 : Int) % 13 = (a : Int) := ⟨n1 % 13, by omega⟩
  have hn8 : n ≤ 12 := by omega
  have hn8' : (n : Int) ≤ 12 := by omega
  have hn0' : (0 : Int) ≤ (n : Int) := by omega
  go_enter Try.func6, Try.ntmps6
  go_wp2_with fail
  refine (awake _).mono ?_
  rintro e w1 ⟨rfl, m1⟩
  replace hz := hz.mem m1
  have hmk := run_makeSlots n (by omega) w1
  have hR := made_slots w1 n
  have ma : Mem w1 (w1.alloc (.cells (madeCells #[.int .i64 0, .int .i64 0, .int .i64 0] (n * 3)) 42)) := (Mem.refl w1).alloc _
  generalize hW : w1.alloc (.cells (madeCells #[.int .i64 0, .int .i64 0, .int .i64 0] (n * 3)) 42) = W at *
  have hs0 := hR.slots (S := fun _ => True) (by rw [empty_len]; unfold maxLen; omega) trivial n
  have hl0 := empty_len n
  have hF0 := FullI.start z n
  rw [hl0] at hs0
  go_wp2_with fail
  (try rw [hn])
  clear hW hmk hR hn
  go_loopw [7, 8] (fun v i wr => ∃ (j : Nat) (oc : Option Addr) (cc : Nat) (l : List SlotT), j ≤ n ∧ i = .int .i64 j ∧ v = .slice oc n cc ∧ l.length = n ∧ FullI z j l ∧ SlotsAt (fun _ => True) wr (.slice oc n cc) l ∧ Mem w1 wr) (fun _ i _ => n - (intOf i).toNat)
  case atStart => exact ⟨0, _, _, emptyT n, Nat.zero_le _, rfl, rfl, hl0, hF0, hs0, ma⟩
  case round =>
    clear hs0 ma hl0 hF0
    obtain ⟨j, oc, cc, l, hj, rfl, rfl, hll, hF, hs, hmr⟩ := hrel
    have hl : l.length ≤ 1000 := by omega
    subst hll
    have HF := hide hF
    clear hF
    by_cases hlt : j < l.length
    · have hlt' : (j : Int) < (l.length : Int) := by omega
      have hj0 : (0 : Int) ≤ (j : Int) := by omega
      obtain ⟨l', hput, hlen', hF'⟩ := HF.out.put hlt (HP0.out j)
      have HPut := hide hput
      have HL' := hide hlen'
      have HF' := hide hF'
      clear hput hlen' hF'
      by_cases hz1 : j < z.length
      · have hz1' : (j : Int) < (z.length : Int) := by omega
        have HPI : Hid (pI z j = z.getD j 0) := by show _ = _; unfold pI; rw [if_pos hz1]
        obtain ⟨zb, zo, rfl, hc⟩ := (hz.mem hmr).at (by omega)
        have d0 := hc j hz1
        have hpb := HZ.out (z.getD j 0) (by rw [show z.getD j 0 = z[j] by simp [hz1]]; exact List.getElem_mem hz1)
        rw [← HPI.out] at hpb
        clear hc
        rw [← HPI.out] at d0
        generalize pI z j = p at *
        obtain ⟨hpb0, hpb1⟩ := hpb
        go_wp2_with fail
        refine (codePut _ _ l p j _ hs hl).mono ?_
        rintro e w3 ⟨⟨v3, rfl, h3⟩, m3⟩
        rw [HPut.out] at h3 ⊢
        obtain ⟨o3, c3, rfl⟩ := h3.shape
        replace h3 := h3.mono (S' := fun _ => True) fun _ _ _ => trivial
        simp only [] at h3
        rw [show (l', (0 : Int)).1.length = l'.length from rfl, HL'.out]
        rw [HL'.out] at h3
        have hm3 := hmr.trans m3
        go_wp2_with fail
        go_roundw
        case rel => exact ⟨j + 1, _, _, l', by omega, by go_num, rfl, HL'.out, HF'.out, h3, hm3⟩
        case measure => simp [intOf]; omega
      · have hz1' : (z.length : Int) ≤ (j : Int) := by omega
        have HPI : Hid (pI z j = (j : Int)) := by show _ = _; unfold pI; rw [if_neg hz1]
        rw [HPI.out] at HPut
        go_wp2_with fail
        refine (codePut _ _ l j j _ hs hl).mono ?_
        rintro e w3 ⟨⟨v3, rfl, h3⟩, m3⟩
        rw [HPut.out] at h3 ⊢
        obtain ⟨o3, c3, rfl⟩ := h3.shape
        replace h3 := h3.mono (S' := fun _ => True) fun _ _ _ => trivial
        simp only [] at h3
        rw [show (l', (0 : Int)).1.length = l'.length from rfl, HL'.out]
        rw [HL'.out] at h3
        have hm3 := hmr.trans m3
        go_wp2_with fail
        go_roundw
        case rel => exact ⟨j + 1, _, _, l', by omega, by go_num, rfl, HL'.out, HF'.out, h3, hm3⟩
        case measure => simp [intOf]; omega
    · have hjl : j = l.length := by omega
      subst hjl
      have hlt' : ¬ ((l.length : Int) < (l.length : Int)) := by omega
      have HPut : Hid (putT l 5 99 = ([], 40)) := HF.out.full (by decide)
      go_wp2_with fail
      refine (codePut _ _ l 5 99 _ hs hl).mono ?_
      rintro e w3 ⟨⟨v3, rfl, h3⟩, m3⟩
      rw [HPut.out] at h3 ⊢
      obtain ⟨o3, c3, rfl⟩ := h3.shape
      have hs3 := hs.mem m3
      have hm3 := hmr.trans m3
      clear h3 hs hmr hlt
      go_wp2_with fail
      go_loopw [14] (fun i wq => ∃ j : Nat, j ≤ l.length ∧ i = .int .i64 j ∧ Mem w3 wq) (fun i _ => l.length - (intOf i).toNat)
      case atStart => exact ⟨0, Nat.zero_le _, rfl, Mem.refl _⟩
      case round =>
        obtain ⟨i, hi, rfl, hmq⟩ := hrel
        by_cases hli : i < l.length
        · have hli' : (i : Int) < (l.length : Int) := by omega
          have hi0 : (0 : Int) ≤ (i : Int) := by omega
          have HFi := hide (HF.out.find hli (HP0.out i))
          have hsq := hs3.mem hmq
          by_cases hz1 : i < z.length
          · have hz1' : (i : Int) < (z.length : Int) := by omega
            have HPI : Hid (pI z i = z.getD i 0) := by show _ = _; unfold pI; rw [if_pos hz1]
            obtain ⟨zb, zo, rfl, hc⟩ := (hz.mem (hm3.trans hmq)).at (by omega)
            have d0 := hc i hz1
            have hpb := HZ.out (z.getD i 0) (by rw [show z.getD i 0 = z[i] by simp [hz1]]; exact List.getElem_mem hz1)
            rw [← HPI.out] at hpb
            clear hc
            rw [← HPI.out] at d0
            generalize pI z i = p at *
            obtain ⟨hpb0, hpb1⟩ := hpb
            go_wp2_with fail
            refine (codeFind _ _ l p _ hsq hl).mono ?_
            rintro e w5 ⟨⟨v5, rfl, h5⟩, m5⟩
            obtain ⟨o5, c5, rfl⟩ := h5.ints.shape
            have hi5 := h5.ints
            generalize findT l p = f at *
            have hfl := hi5.1
            unfold maxLen at hfl
            clear h5 hsq
            go_wp2_with fail
            go_loopw [16, 18] (fun a c wk => ∃ k : Nat, k ≤ f.length ∧ c = .int .i64 k ∧ a = .bool ((f.take k).any fun x => decide (x = (i : Int))) ∧ Mem w5 wk) (fun _ c _ => f.length - (intOf c).toNat)
            case atStart => exact ⟨0, Nat.zero_le _, rfl, by simp, Mem.refl _⟩
            case round =>
              obtain ⟨k, hk, rfl, rfl, hmk⟩ := hrel
              by_cases hlk : k < f.length
              · have hlk' : (k : Int) < (f.length : Int) := by omega
                have hk0 : (0 : Int) ≤ (k : Int) := by omega
                obtain ⟨fb, fo, rfl, hc⟩ := (hi5.mem hmk).at (by omega)
                have e0 := hc k hlk
                have HA := hide (any_take9 f (fun x => decide (x = (i : Int))) hlk)
                clear hc
                generalize f.getD k 0 = x at *
                generalize (f.take k).any (fun x => decide (x = (i : Int))) = b at *
                cases b with
                | true =>
                  go_wp2_with fail
                  go_roundw
                  case rel => exact ⟨k + 1, by omega, by go_num, boolV9 (by rw [HA.out]; rfl), hmk⟩
                  case measure => simp [intOf]; omega
                | false =>
                  by_cases hx : x = (i : Int)
                  · subst hx
                    go_wp2_with fail
                    go_roundw
                    case rel => exact ⟨k + 1, by omega, by go_num, boolV9 (by rw [HA.out]; simp), hmk⟩
                    case measure => simp [intOf]; omega
                  · have hxd : decide (x = (i : Int)) = false := by simp [hx]
                    have HXD := hide hxd
                    have hxe : (x == (i : Int)) = false := by simp [hx]
                    go_wp2_with fail
                    go_roundw
                    case rel => exact ⟨k + 1, by omega, by go_num, boolV9 (by rw [HA.out, HXD.out]; rfl), hmk⟩
                    case measure => simp [intOf]; omega
              · have hke : k = f.length := by omega
                subst hke
                have hlk' : ¬ ((f.length : Int) < (f.length : Int)) := by omega
                rw [List.take_length, HFi.out]
                have hmf := hmq.trans (m5.trans hmk)
                go_wp2_with fail
                go_roundw
                case rel => exact ⟨i + 1, by omega, by go_num, hmf⟩
                case measure => simp [intOf]; omega
          · have hz1' : (z.length : Int) ≤ (i : Int) := by omega
            have HPI : Hid (pI z i = (i : Int)) := by show _ = _; unfold pI; rw [if_neg hz1]
            rw [HPI.out] at HFi
            go_wp2_with fail
            refine (codeFind _ _ l (i : Int) _ hsq hl).mono ?_
            rintro e w5 ⟨⟨v5, rfl, h5⟩, m5⟩
            obtain ⟨o5, c5, rfl⟩ := h5.ints.shape
            have hi5 := h5.ints
            generalize findT l (i : Int) = f at *
            have hfl := hi5.1
            unfold maxLen at hfl
            clear h5 hsq
            go_wp2_with fail
            go_loopw [16, 18] (fun a c wk => ∃ k : Nat, k ≤ f.length ∧ c = .int .i64 k ∧ a = .bool ((f.take k).any fun x => decide (x = (i : Int))) ∧ Mem w5 wk) (fun _ c _ => f.length - (intOf c).toNat)
            case atStart => exact ⟨0, Nat.zero_le _, rfl, by simp, Mem.refl _⟩
            case round =>
              obtain ⟨k, hk, rfl, rfl, hmk⟩ := hrel
              by_cases hlk : k < f.length
              · have hlk' : (k : Int) < (f.length : Int) := by omega
                have hk0 : (0 : Int) ≤ (k : Int) := by omega
                obtain ⟨fb, fo, rfl, hc⟩ := (hi5.mem hmk).at (by omega)
                have e0 := hc k hlk
                have HA := hide (any_take9 f (fun x => decide (x = (i : Int))) hlk)
                clear hc
                generalize f.getD k 0 = x at *
                generalize (f.take k).any (fun x => decide (x = (i : Int))) = b at *
                cases b with
                | true =>
                  go_wp2_with fail
                  go_roundw
                  case rel => exact ⟨k + 1, by omega, by go_num, boolV9 (by rw [HA.out]; rfl), hmk⟩
                  case measure => simp [intOf]; omega
                | false =>
                  by_cases hx : x = (i : Int)
                  · subst hx
                    go_wp2_with fail
                    go_roundw
                    case rel => exact ⟨k + 1, by omega, by go_num, boolV9 (by rw [HA.out]; simp), hmk⟩
                    case measure => simp [intOf]; omega
                  · have hxd : decide (x = (i : Int)) = false := by simp [hx]
                    have HXD := hide hxd
                    have hxe : (x == (i : Int)) = false := by simp [hx]
                    go_wp2_with fail
                    go_roundw
                    case rel => exact ⟨k + 1, by omega, by go_num, boolV9 (by rw [HA.out, HXD.out]; rfl), hmk⟩
                    case measure => simp [intOf]; omega
              · have hke : k = f.length := by omega
                subst hke
                have hlk' : ¬ ((f.length : Int) < (f.length : Int)) := by omega
                rw [List.take_length, HFi.out]
                have hmf := hmq.trans (m5.trans hmk)
                go_wp2_with fail
                go_roundw
                case rel => exact ⟨i + 1, by omega, by go_num, hmf⟩
                case measure => simp [intOf]; omega
        · have hie : i = l.length := by omega
          subst hie
          go_wp2_with fail
          go_ret
          exact ⟨rfl, m1.trans (hm3.trans hmq)⟩
end Go.Proofs.Ytmkfinjhbhfaeaa.Index
