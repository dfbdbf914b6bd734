/-
  Layer 10: the walk of StatesOne.
-/
import Derived.Test.YtlgofanenkbgoaaStatesCode
import Derived.Test.YtlgofanenkbgoaaStatesLawMath
import Derived.Test.YtlgofanenkbgoaaStatesMadeC
import Derived.Test.YtlgofanenkbgoaaMemLow
namespace Go.Proofs.Ytlgofanenkbgoaa.States
open Go.RowKit Go.Proofs.Ytlgofanenkbgoaa.Scan Go.Proofs.Ytlgofanenkbgoaa.Nand Go.Proofs.Ytlgofanenkbgoaa.Replay

set_option maxHeartbeats 8000000 in
set_option maxRecDepth 100000 in
theorem statesOne_walk (a0 : Option Addr) (len0 cap0 : Nat) (z0 : List Int) (a1 : Int) (a2 : Int) (w : World) (w0 : IsRow .u16 w a0 len0 cap0 z0) (w1 : (Lit.int .u8 a1).wf = true) (w2 : (Lit.int .u8 a2).wf = true) :
    Calls Try.prog 5 #[.slice a0 len0 cap0, .int .u8 a1, .int .u8 a2] w fun e w' => e = .returned (.bool true) ∧ Below w.heap.size w w' := by
  obtain ⟨hz, hwf⟩ := Ints.of_row w0
  obtain ⟨hl1, hl2⟩ := row_len w0
  have HZ : Hid (∀ x ∈ z0.take len0, 0 ≤ x ∧ x ≤ 65535) := fun x h => wf_u16 (hwf x h)
  clear hwf w0
  generalize z0.take len0 = z at *
  subst hl1
  have hb1 := wf_u8 w1
  have hb2 := wf_u8 w2
  clear w1 w2
  obtain ⟨n1, rfl⟩ := Int.eq_ofNat_of_zero_le hb1.1
  obtain ⟨n2, rfl⟩ := Int.eq_ofNat_of_zero_le hb2.1
  obtain ⟨N, hN⟩ : ∃ N : Nat, 1 + (n2 : Int) % 6 = (N : Int) := ⟨1 + n2 % 6, by omega⟩
  obtain ⟨q, hq, hq8⟩ : ∃ q : Nat, (n1 : Int) % 8 = (q : Int) ∧ q < 8 := ⟨n1 % 8, by omega, by omega⟩
  have hN1 : 1 ≤ N ∧ N ≤ 6 := by omega
  go_enter Try.func5, Try.ntmps5
  go_wp2_with fail
  refine (awake w).mono ?_
  rintro e w1 ⟨rfl, m1⟩
  replace hz := hz.mem m1
  go_wp2_with fail
  (try rw [hN])
  refine (lawMade10 a0 cap0 z N 4 _ hz hl2 HZ.out hN1.1 (by omega) (by omega) (by omega)).mono ?_
  rintro e w2 ⟨⟨v1, bs, br, off, ops, rfl, hb, kk, hkk, hI⟩, m2⟩
  have hlen : bs.length = N := dims_len hI.1.1
  have hl6 : bs.length ≤ 6 := by omega
  obtain rfl : off = false := hI.2.1
  have HF := hide (few_inv hI.1 (show N ≤ 32 by omega) (by omega))
  have hm := m1.trans m2
  obtain ⟨oc, cc, rfl⟩ := hb.shape
  simp only [chipV]
  clear hI hN hlen m1 m2 hz HZ hN1 hb2
  have ha : Mem w2 (w2.alloc (.cells #[.slice oc bs.length cc, .bool br, .bool false, .int .i64 ops] 24)) := (Mem.refl w2).alloc _
  have hX := Blk.new w2 #[.slice oc bs.length cc, .bool br, .bool false, .int .i64 ops] 24
  replace hb := (hb.mono (S' := fun x => x < w2.heap.size) fun g _ hl => hl).mem ha
  replace hm := hm.trans ha
  go_wp2_with fail
  generalize hWA : w2.alloc (.cells #[.slice oc bs.length cc, .bool br, .bool false, .int .i64 ops] 24) = W at *
  clear hWA ha
  generalize w2.heap.size = Bc at *
  (try rw [hq])
  obtain ⟨o, ho⟩ : ∃ o : Int, (q : Int) - 1 = o := ⟨_, rfl⟩
  (try rw [ho])
  clear ho hq hq8 hb1
  have HB := hide (fun (w' : World) (m : Mem W w') => hb.mem m)
  have HC : Hid (∀ w', Mem W w' → w'.cell? ⟨Bc, 0, none⟩ = some (.slice oc bs.length cc) ∧ w'.cell? ⟨Bc, 1, none⟩ = some (.bool br) ∧ w'.cell? ⟨Bc, 2, none⟩ = some (.bool false) ∧ w'.cell? ⟨Bc, 3, none⟩ = some (.int .i64 ops)) := fun w' m => ⟨(hX.mem m).cell (j := 0) rfl, (hX.mem m).cell (j := 1) rfl, (hX.mem m).cell (j := 2) rfl, (hX.mem m).cell (j := 3) rfl⟩
  clear hX hb
  go_loopw [10, 11] (fun a i wr => ∃ k : Nat, k ≤ 4 ∧ i = .int .i64 k ∧ a = .int .i64 (sumM bs o k : Int) ∧ Mem W wr) (fun _ i _ => 4 - (intOf i).toNat)
  case atStart => exact ⟨0, by omega, rfl, rfl, Mem.refl _⟩
  case round =>
    obtain ⟨k, hk, rfl, rfl, hmr⟩ := hrel
    by_cases hlt : k < 4
    · have hlt' : (k : Int) ≤ 3 := by omega
      obtain ⟨c0, c1, c2, c3⟩ := HC.out _ hmr
      have HM := hide (codeMany _ _ bs br false ops o k wr (HB.out _ hmr) (by omega))
      have hs1 := sum_le bs o k
      have hs2 : manyT bs o k ≤ bs.length := many_le bs o k bs.length
      have hs3 : k * bs.length ≤ 24 := Nat.le_trans (Nat.mul_le_mul (show k ≤ 4 by omega) hl6) (by decide)
      have HSu : Hid (sumM bs o (k + 1) = sumM bs o k + manyT bs o k) := rfl
      generalize manyT bs o k = mn at *
      generalize sumM bs o k = sm at *
      go_wp2_with fail
      refine HM.out.mono ?_
      rintro e w3 ⟨rfl, m3⟩
      have hm3 := hmr.trans m3
      go_wp2_with fail
      go_roundw
      case rel => exact ⟨k + 1, by omega, by go_num, by rw [HSu.out]; go_num, hm3⟩
      case measure => simp [intOf]; omega
    · have hke : k = 4 := by omega
      have hsum : sumM bs o k = bs.length := by rw [hke]; exact sum_four bs o
      have hk3 : (3 : Int) < (k : Int) := by omega
      have hk3' : decide ((k : Int) ≤ 3) = false := decide_eq_false (by omega)
      rw [hsum]
      clear hlt hk hsum hke
      go_wp2_with fail
      clear hk3 hk3'
      obtain ⟨wq, hwq⟩ : ∃ wq, wq = wr := ⟨_, rfl⟩
      subst hwq
      go_loopw [12] (fun i wr => ∃ k : Nat, k ≤ bs.length ∧ i = .int .i64 k ∧ Mem W wr) (fun i _ => bs.length - (intOf i).toNat)
      case atStart => exact ⟨0, by omega, rfl, hmr⟩
      case round =>
        clear hmr
        obtain ⟨b, hk, rfl, hmr⟩ := hrel
        obtain ⟨c0, c1, c2, c3⟩ := HC.out _ hmr
        by_cases hlt : b < bs.length
        · have hlt' : (b : Int) < (bs.length : Int) := by omega
          have HE := hide (eraseSpec_ref _ _ bs br false ops b fate0 wr (HB.out _ hmr) HF.out)
          have HQ := hide (fun h => erase_closed (bs := bs) (br := br) (ops := ops) (k := b) hlt h)
          have HS := hide (fun (w' : World) (m : Mem W w') => codeState _ _ bs br false ops (-1) b w' (HB.out w' m))
          generalize stateT bs (-1) b = st at *
          generalize erase (bs, br, false, ops) b fate0 = qq at *
          obtain ⟨⟨bs', br', off', ops'⟩, en⟩ := qq
          go_wp2_with fail
          refine HE.out.mono ?_
          rintro e w3 ⟨⟨v3, rfl, hb3⟩, m3⟩
          obtain ⟨o3, c3', rfl⟩ := hb3.shape
          simp only [chipV] at hb3 HQ ⊢
          have ma : Mem w3 (w3.alloc (.cells #[.slice o3 bs'.length c3', .bool br', .bool off', .int .i64 ops'] 24)) := (Mem.refl w3).alloc _
          have hY := Blk.new w3 #[.slice o3 bs'.length c3', .bool br', .bool off', .int .i64 ops'] 24
          have hbd := hb3.mem ma
          have hm4 := (hmr.trans m3).trans ma
          clear c0 c1 c2 c3 HE hb3
          have HD := hide (fun (w' : World) (m : Mem (w3.alloc (.cells #[.slice o3 bs'.length c3', .bool br', .bool off', .int .i64 ops'] 24)) w') => codeState _ _ bs' br' off' ops' (-1) b w' (hbd.mem m))
          obtain ⟨c0, c1, c2, c3⟩ := HC.out _ hm4
          go_wp2_with fail
          generalize hWD : w3.alloc (.cells #[.slice o3 bs'.length c3', .bool br', .bool off', .int .i64 ops'] 24) = WD at *
          clear hWD ma m3
          generalize w3.heap.size = Bd at *
          refine (HS.out _ hm4).mono ?_
          rintro e w5 ⟨rfl, m5⟩
          have hm5 := hm4.trans m5
          have hY5 := hY.mem m5
          have y0 := hY5.cell (j := 0) rfl
          have y1 := hY5.cell (j := 1) rfl
          have y2 := hY5.cell (j := 2) rfl
          have y3 := hY5.cell (j := 3) rfl
          clear c0 c1 c2 c3
          by_cases h : st = 2
          · obtain ⟨e1, e2⟩ := HQ.out h
            (try simp only [] at e1 e2)
            subst h
            subst e1
            rw [e2] at HD
            clear e2
            go_wp2_with fail
            refine (HD.out _ m5).mono ?_
            rintro e w6 ⟨rfl, m6⟩
            have hm6 := hm5.trans m6
            go_wp2_with fail
            go_roundw
            case rel => exact ⟨b + 1, by omega, by go_num, hm6⟩
            case measure => simp [intOf]; omega
          · have h' : (st == 2) = false := by rw [beq_eq_false_iff_ne]; exact h
            go_wp2_with fail
            go_roundw
            case rel => exact ⟨b + 1, by omega, by go_num, hm5⟩
            case measure => simp [intOf]; omega
        · have hke : b = bs.length := by omega
          subst hke
          have hlt' : ¬ ((bs.length : Int) < (bs.length : Int)) := by omega
          have hmw := hm.trans hmr
          go_wp2_with fail
          go_ret
          exact ⟨rfl, hmw⟩
end Go.Proofs.Ytlgofanenkbgoaa.States
