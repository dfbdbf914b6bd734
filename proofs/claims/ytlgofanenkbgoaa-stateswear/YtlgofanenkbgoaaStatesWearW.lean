/-
  Layer 10: the walk of StatesWear.
-/
import Derived.Test.YtlgofanenkbgoaaStatesCode
import Derived.Test.YtlgofanenkbgoaaStatesLawMath
import Derived.Test.YtlgofanenkbgoaaStatesMadeC
import Derived.Test.YtlgofanenkbgoaaMemLow
import Derived.Deep.DeepCutAuto
namespace Go.Proofs.Ytlgofanenkbgoaa.States
open Go.RowKit Go.Proofs.Ytlgofanenkbgoaa.Scan Go.Proofs.Ytlgofanenkbgoaa.Nand Go.Proofs.Ytlgofanenkbgoaa.Replay

set_option maxHeartbeats 8000000 in
set_option maxRecDepth 100000 in
theorem statesWear_walk (a0 : Option Addr) (len0 cap0 : Nat) (z0 : List Int) (a1 : Int) (a2 : Int) (w : World) (w0 : IsRow .u16 w a0 len0 cap0 z0) (w1 : (Lit.int .u8 a1).wf = true) (w2 : (Lit.int .u8 a2).wf = true) :
    Calls Try.prog 7 #[.slice a0 len0 cap0, .int .u8 a1, .int .u8 a2] w fun e w' => e = .returned (.bool true) ∧ Below w.heap.size w w' := by
  obtain ⟨hz, hwf⟩ := Ints.of_row w0
  obtain ⟨hl1, hl2⟩ := row_len w0
  have HZ : Hid (∀ x ∈ z0.take len0, 0 ≤ x ∧ x ≤ 65535) := fun x h => wf_u16 (hwf x h)
  clear hwf w0
  generalize z0.take len0 = z at *
  subst hl1
  have hb1 := wf_u8 w1
  have hb2 := wf_u8 w2
  clear w1 w2
  obtain ⟨n1, rfl⟩ := Int.eq_ofNat_of_zero_le hb1.1
  obtain ⟨n2, rfl⟩ := Int.eq_ofNat_of_zero_le hb2.1
  obtain ⟨N, hN⟩ : ∃ N : Nat, 1 + (n1 : Int) % 6 = (N : Int) := ⟨1 + n1 % 6, by omega⟩
  have hN1 : 1 ≤ N ∧ N ≤ 6 := by omega
  go_enter Try.func7, Try.ntmps7
  go_wp2_with fail
  refine (awake w).mono ?_
  rintro e w1 ⟨rfl, m1⟩
  replace hz := hz.mem m1
  go_wp2_with fail
  (try rw [hN])
  refine (lawMade10 a0 cap0 z N 4 _ hz hl2 HZ.out hN1.1 (by omega) (by omega) (by omega)).mono ?_
  rintro e w2 ⟨⟨v1, bs, br, off, ops, rfl, hb, kk, hkk, hI⟩, m2⟩
  have hlen : bs.length = N := dims_len hI.1.1
  have hl6 : bs.length ≤ 6 := by omega
  have hl1 : 1 ≤ bs.length := by omega
  obtain rfl : off = false := hI.2.1
  have HF := hide (few_inv hI.1 (show N ≤ 32 by omega) (by omega))
  have HWn := hide hI.2.2
  have hm := m1.trans m2
  obtain ⟨oc, cc, rfl⟩ := hb.shape
  simp only [chipV]
  obtain ⟨k, hk, hkl⟩ : ∃ k : Nat, (n2 : Int) % (bs.length : Int) = (k : Int) ∧ k < bs.length := ⟨n2 % bs.length, Int.natCast_emod n2 bs.length ▸ rfl, Nat.mod_lt _ (by omega)⟩
  clear hI hN hlen m1 m2 hz HZ hN1
  have ha : Mem w2 (w2.alloc (.cells #[.slice oc bs.length cc, .bool br, .bool false, .int .i64 ops] 24)) := (Mem.refl w2).alloc _
  have hX := Blk.new w2 #[.slice oc bs.length cc, .bool br, .bool false, .int .i64 ops] 24
  replace hb := (hb.mono (S' := fun x => x < w2.heap.size) fun g _ hl => hl).mem ha
  replace hm := hm.trans ha
  go_wp2_with fail
  generalize hWA : w2.alloc (.cells #[.slice oc bs.length cc, .bool br, .bool false, .int .i64 ops] 24) = W at *
  clear hWA ha
  generalize w2.heap.size = Bc at *
  have HC : Hid (∀ w', Mem W w' → w'.cell? ⟨Bc, 0, none⟩ = some (.slice oc bs.length cc) ∧ w'.cell? ⟨Bc, 1, none⟩ = some (.bool br) ∧ w'.cell? ⟨Bc, 2, none⟩ = some (.bool false) ∧ w'.cell? ⟨Bc, 3, none⟩ = some (.int .i64 ops)) := fun w' m => ⟨(hX.mem m).cell (j := 0) rfl, (hX.mem m).cell (j := 1) rfl, (hX.mem m).cell (j := 2) rfl, (hX.mem m).cell (j := 3) rfl⟩
  have HQ := hide (wear_erase (br := br) (ops := ops) hkl HWn.out (by omega))
  have HBF := hide (fun (w' : World) (h : Mem W w') => (hb.mono (S' := fun x => x < W.heap.size) fun x _ hl => hl).mem h)
  have HE : Hid (∀ w' : World, Mem W w' → Calls Try.prog 16 #[.agg #[.slice oc bs.length cc, .bool br, .bool false, .int .i64 ops], .int .i64 (k : Int), .agg #[.int .i64 0, .string ⟨#[]⟩, .string ⟨#[]⟩, .int .i64 0]] w' fun e w'' => ChipRes (fun x => x < W.heap.size) w' (erase (bs, br, false, ops) k fate0) e w'' ∧ Mem w' w'') := fun w' m => eraseSpec_ref _ _ bs br false ops k fate0 w' (HBF.out w' m) HF.out
  have HFw := hide (erase_few (c := (bs, br, false, ops)) HF.out k fate0)
  have HWc := hide (fun (w' : World) (m : Mem W w') => codeWear _ _ bs br false ops w' (hb.mem m) (by omega))
  have hls : (bs.length : Int) ≠ 0 := by omega
  have hk0 : (0 : Int) ≤ (k : Int) := by omega
  clear hX hb HWn
  generalize erase (bs, br, false, ops) k fate0 = qq at *
  generalize wearT bs = wv at *
  obtain ⟨⟨bs', br', off', ops'⟩, en⟩ := qq
  obtain ⟨wa, wb⟩ := wv
  simp only [] at HQ HWc HFw
  obtain ⟨c0, c1, c2, c3⟩ := HC.out _ (Mem.refl W)
  have N0 := hide (Mem.drew (Mem.refl W))
  have hn1 : ¬ (bs = []) := by intro e; rw [e] at hl1; simp at hl1
  have hn2 : ¬ (bs.length = 0) := by omega
  have HMod : Hid ((IntKind.i64.wrap (n2 : Int)).tmod (bs.length : Int) = (k : Int)) := by show _ = _; rw [mod_val (by omega) (by omega)]; exact hk
  have NZ := hide (((Mem.refl W).alloc (.cells #[.slice none 0 0, .bool false, .bool false, .int .i64 0] 24)).drew)
  go_cut [9, 10] (fun a e wx => ∃ (DB : Nat) (o5 : Option Addr) (c5 : Nat), a = .pointer (some ⟨DB, 0, none⟩) ∧ e = .int .i64 en ∧ Blk wx DB 24 #[.slice o5 bs'.length c5, .bool br', .bool off', .int .i64 ops'] ∧ BlocksAt (fun _ => True) wx (.slice o5 bs'.length c5) bs' ∧ Mem W wx)
  case first =>
    go_region_held3 (fun w' => w'.cell? ⟨Bc, 0, none⟩ = some (.slice oc bs.length cc) ∧ w'.cell? ⟨Bc, 1, none⟩ = some (.bool br) ∧ w'.cell? ⟨Bc, 2, none⟩ = some (.bool false) ∧ w'.cell? ⟨Bc, 3, none⟩ = some (.int .i64 ops))
      (first | with_reducible exact (HC.out _ N0.out) | with_reducible exact (HC.out _ NZ.out) | with_reducible exact (HC.out _ N1.out) | with_reducible exact HC.out _ (Mem.alloc N1.out _) | exact HC.out _ (Mem.put4 N1.out (Nat.le_refl _) _ _ _ _))
      (first
        | (go_at_call 16; (try rw [HMod.out]); (with_reducible refine (HE.out _ N0.out).mono ?_); rintro e w3 ⟨⟨v3, rfl, hb3⟩, m3⟩; obtain ⟨o3, c3', rfl⟩ := hb3.shape; have N1 := hide (Mem.trans N0.out m3); have HB3 := hide hb3; clear hb3 m3)
        | (go_at_call 16; (try rw [HMod.out]); (with_reducible refine (HE.out _ NZ.out).mono ?_); rintro e w3 ⟨⟨v3, rfl, hb3⟩, m3⟩; obtain ⟨o3, c3', rfl⟩ := hb3.shape; have bB := Blk.mem (Blk.drew (Blk.new W #[.slice none 0 0, .bool false, .bool false, .int .i64 0] 24)) m3; have z0 := bB.cell (j := 0) rfl; have z1 := bB.cell (j := 1) rfl; have z2 := bB.cell (j := 2) rfl; have z3 := bB.cell (j := 3) rfl; have f0 := bB.frozen 0; have f1 := bB.frozen 1; have f2 := bB.frozen 2; have f3 := bB.frozen 3; have N1 := hide (Mem.trans NZ.out m3); have HB3 := hide hb3; clear hb3 m3))
    · have hD := Blk.new w3 #[.slice o3 bs'.length c3', .bool br', .bool off', .int .i64 ops'] 24
      have mD := N1.out.alloc (.cells #[.slice o3 bs'.length c3', .bool br', .bool off', .int .i64 ops'] 24)
      have hbD := (HB3.out.mono (S' := fun _ => True) fun _ _ _ => trivial).mem ((Mem.refl w3).alloc (.cells #[.slice o3 bs'.length c3', .bool br', .bool off', .int .i64 ops'] 24))
      (try go_wp2_with fail)
      go_meet
      exact ⟨_, o3, c3', rfl, rfl, hD, hbD, mD⟩
    · have hs6 : (W.alloc (.cells #[.slice none 0 0, .bool false, .bool false, .int .i64 0] 24)).drew.heap.size = W.heap.size + 1 := by
        show (W.alloc _).heap.size = _
        simp
      have hD := bB.put4 (.slice o3 bs'.length c3') (.bool br') (.bool off') (.int .i64 ops')
      have mD := N1.out.put4 (b := W.heap.size) (Nat.le_refl _) (.slice o3 bs'.length c3') (.bool br') (.bool off') (.int .i64 ops')
      have hbD := ((HB3.out.mono (S' := fun x => x ≠ W.heap.size) fun x hx hl => by rcases hx with h | h <;> omega).put4 (b := W.heap.size) (fun h => h rfl) (.slice o3 bs'.length c3') (.bool br') (.bool off') (.int .i64 ops')).mono (S' := fun _ => True) fun _ _ _ => trivial
      (try go_wp2_with fail)
      go_meet
      exact ⟨_, o3, c3', rfl, rfl, hD, hbD, mD⟩
  case rest =>
    obtain ⟨DB, o5, c5, rfl, rfl, hD, hbD, mD⟩ := hcut
    clear c0 c1 c2 c3
    obtain ⟨c0, c1, c2, c3⟩ := HC.out _ mD
    have HD := hide (fun (w' : World) (m : Mem wc w') => codeWear _ _ bs' br' off' ops' w' (hbD.mem m) HFw.out.1)
    clear HE HBF hbD HFw HMod N0 NZ
    go_wp2_with fail
    refine (HWc.out _ mD).mono ?_
    rintro e w3 ⟨rfl, m3⟩
    have hD3 := hD.mem m3
    have d0 := hD3.cell (j := 0) rfl
    have d1 := hD3.cell (j := 1) rfl
    have d2 := hD3.cell (j := 2) rfl
    have d3 := hD3.cell (j := 3) rfl
    have hm3 := (hm.trans mD).trans m3
    clear c0 c1 c2 c3 HWc hD
    go_wp2_with fail
    refine (HD.out _ m3).mono ?_
    rintro e w4 ⟨rfl, m4⟩
    have hm4 := hm3.trans m4
    clear d0 d1 d2 d3 HD hD3 hm3 hn1 hn2
    rcases HQ.out with ⟨h1, h2⟩ | ⟨h1, x, y, h2, g1, g2, g3, g4, g5, g6, g7, g8⟩
    · rw [h2]
      have h1' : (en != 0) = true := by simp [h1]
      clear HQ h2
      go_wp2_with fail
      go_ret
      exact ⟨rfl, hm4⟩
    · rw [h2]
      subst h1
      clear HQ h2
      have t1 : decide (wa ≤ wb) = true := decide_eq_true g1
      have t2 : decide (wa ≤ x) = true := decide_eq_true g2
      have t3 : decide (x ≤ wa + 1) = true := decide_eq_true g3
      have t4 : decide (wb ≤ y) = true := decide_eq_true g4
      have t5 : decide (y ≤ wb + 1) = true := decide_eq_true g5
      have t6 : decide (x ≤ y) = true := decide_eq_true g6
      go_wp2_with fail
      go_ret
      exact ⟨rfl, hm4⟩
end Go.Proofs.Ytlgofanenkbgoaa.States
