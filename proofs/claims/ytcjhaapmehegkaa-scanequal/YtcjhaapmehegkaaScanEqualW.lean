/-
  Layer 6: the walk of ScanEqual.
-/
import Derived.Test.YtcjhaapmehegkaaScanMadeW
namespace Go.Proofs.Ytcjhaapmehegkaa.Scan
open Go.RowKit Go.Proofs.Ytcjhaapmehegkaa.Nand

set_option maxHeartbeats 8000000 in
set_option maxRecDepth 100000 in
theorem scanEqual_walk (a0 : Option Addr) (len0 cap0 : Nat) (z0 : List Int) (a1 : Int) (w : World) (w0 : IsRow .u16 w a0 len0 cap0 z0) (_w1 : (Lit.int .u8 a1).wf = true) :
    Calls Try.prog 8 #[.slice a0 len0 cap0, .int .u8 a1] w fun e w' => e = .returned (.bool true) ∧ Mem w w' := by
  obtain ⟨hz, hwf⟩ := Ints.of_row w0
  obtain ⟨hl1, hl2⟩ := row_len w0
  have HB : Hid (∀ x ∈ z0.take len0, 0 ≤ x ∧ x ≤ 65535) := fun x h => wf_u16 (hwf x h)
  clear hwf w0
  generalize z0.take len0 = zs at *
  subst hl1
  have hzl := hz.1
  unfold maxLen at hzl
  have HZ := hide hz
  clear _w1 hz
  go_enter Try.func8, Try.ntmps8
  go_wp2_with fail
  refine (refNew 4 5 _ [] _ (Ints.nil _ _ _ _) (by decide)).mono ?_
  rintro e w1 ⟨hr, m1⟩
  rw [show newC 4 5 [] = ((newBlocks 4 5 [], false, false, 0), 0) from newC_yes (by decide) (by decide) (by decide) (by decide) (by simp)] at hr
  obtain ⟨v1, rfl, hb1⟩ := hr
  obtain ⟨o1, c1, rfl⟩ := hb1.shape
  simp only [chipV]
  have hI1 := inv_new 4 5
  simp only [] at hb1
  generalize newBlocks 4 5 [] = bs1 at *
  have ha : Mem w1 (w1.alloc (.cells #[.slice o1 bs1.length c1, .bool false, .bool false, .int .i64 0] 24)) := (Mem.refl w1).alloc _
  have hX := Blk.new w1 #[.slice o1 bs1.length c1, .bool false, .bool false, .int .i64 0] 24
  have hb2 := (hb1.mono (S' := fun x => x ≠ w1.heap.size) fun g hg hl => Nat.ne_of_lt hl).mem ha
  have hm1 := m1.trans ha
  have hBw : w.heap.size ≤ w1.heap.size := m1.size
  clear hb1
  go_wp2_with fail
  generalize hW1 : w1.alloc (.cells #[.slice o1 bs1.length c1, .bool false, .bool false, .int .i64 0] 24) = W1 at *
  generalize w1.heap.size = Bc at *
  clear hW1 ha m1
  go_loopw [7] (fun i wr => ∃ (t : Nat) (oc : Option Addr) (cc : Nat) (bs : List BlockT) (br off : Bool) (ops : Int), (t ≤ zs.length ∧ t ≤ 40) ∧ i = .int .i64 t ∧ Blk wr Bc 24 #[.slice oc bs.length cc, .bool br, .bool off, .int .i64 ops] ∧ BlocksAt (fun x => x ≠ Bc) wr (.slice oc bs.length cc) bs ∧ Mem w wr ∧ Inv 4 5 bs) (fun i _ => 40 - (intOf i).toNat)
  case atStart => exact ⟨0, _, _, _, _, _, _, ⟨Nat.zero_le _, Nat.zero_le _⟩, rfl, hX, hb2, hm1, hI1⟩
  case round =>
    clear hX hb2 hm1 hI1
    obtain ⟨t, oc, cc, bs, br, off, ops, ht, rfl, hX, hbc, hm, hI⟩ := hrel
    by_cases hlt : t < zs.length ∧ t < 40
    · obtain ⟨ht1, hk1⟩ := hlt
      have ht' : (t : Int) < (zs.length : Int) := by omega
      have hk' : (t : Int) < 40 := by omega
      have ht0 : (0 : Int) ≤ (t : Int) := by omega
      obtain ⟨m, hmw, hmt⟩ : ∃ m : Nat, IntKind.i64.wrap ((t : Int) + 1) = (m : Int) ∧ m = t + 1 := ⟨t + 1, by
        unfold IntKind.wrap
        simp [IntKind.signed, IntKind.bits]
        omega, rfl⟩
      have htm : (t : Int) ≤ (m : Int) := by omega
      have hm0' : (0 : Int) ≤ (m : Int) := by omega
      have hmc : (m : Int) ≤ (cap0 : Int) := by omega
      obtain ⟨lb, lo, rfl, hcell⟩ := (HZ.out.mem hm).at (by omega)
      have x0 := hcell t ht1
      have hxb : 0 ≤ zs.getD t 0 ∧ zs.getD t 0 ≤ 65535 := HB.out _ (by simp [ht1])
      clear hcell
      generalize hxe : zs.getD t 0 = x at *
      clear hxe
      obtain ⟨xn, rfl⟩ := Int.eq_ofNat_of_zero_le hxb.1
      have hxl : (xn : Int) ≤ 65535 := hxb.2
      clear hxb
      obtain ⟨bn, hbn⟩ : ∃ bn : Nat, (xn : Int) % 4 = (bn : Int) := ⟨xn % 4, by omega⟩
      have hlen : bs.length = 4 := dims_len hI.1
      have hbi : bn < bs.length := by omega
      have hbi' : (bn : Int) < (bs.length : Int) := by omega
      have hbn0 : (0 : Int) ≤ (bn : Int) := by omega
      clear hlen
      obtain ⟨gc, fc, pc, qc, rfl, j1, j2, k1, j3, j4, j5⟩ := hbc.at hbi
      clear j1 j2 j3 j4 j5
      generalize bs[bn].2.1 = nx at k1
      have HSI : Hid (Ints .u16 wr (.slice (if cap0 = t then some ⟨lb, lo, none⟩ else some ⟨lb, lo + t, none⟩) (m - t) (cap0 - t)) ((zs.drop t).take (m - t))) := by
        show Ints _ _ _ _
        rw [if_neg (by omega)]
        exact sub_ints (HZ.out.mem hm) (t := t) (m := m) (by omega) (by omega) (cap0 - t)
      have HSB := hide (sub_mem (t := t) (n := m - t) HB.out)
      have HMT := hide hmt
      clear hmt
      have HK : Hid (∀ w', Mem wr w' → w'.cell? ⟨Bc, 0, none⟩ = some (.slice (some ⟨gc, fc, none⟩) bs.length cc) ∧ w'.cell? ⟨Bc, 1, none⟩ = some (.bool br) ∧ w'.cell? ⟨Bc, 2, none⟩ = some (.bool off) ∧ w'.cell? ⟨Bc, 3, none⟩ = some (.int .i64 ops) ∧ w'.cell? ⟨gc, fc + bn * 4 + 1, none⟩ = some (.int .i64 nx) ∧ w'.cell? ⟨lb, lo + t, none⟩ = some (.int .u16 xn)) := fun w' h => ⟨(hX.mem h).cell (j := 0) rfl, (hX.mem h).cell (j := 1) rfl, (hX.mem h).cell (j := 2) rfl, (hX.mem h).cell (j := 3) rfl, (Below.cell h (p := ⟨gc, fc + bn * 4 + 1, none⟩) (World.block_lt_of_cell? wr _ k1)).trans k1, (Below.cell h (p := ⟨lb, lo + t, none⟩) (World.block_lt_of_cell? wr _ x0)).trans x0⟩
      obtain ⟨c0, c1, c2, c3', k1, x0⟩ := HK.out wr (Mem.refl _)
      have HBF := hide (fun (w' : World) (h : Mem wr w') => (hbc.mono (S' := fun x => x ≠ Bc ∧ x < wr.heap.size) fun x hx hl => ⟨hx, hl⟩).mem h)
      have HI := hide hI
      have HFew := hide (few_inv hI (by decide) (by decide))
      have N0 : Hid (Mem wr wr.drew) := Mem.drew (Mem.refl wr)
      have NZ := hide (((Mem.refl wr).alloc (.cells #[.slice none 0 0, .bool false, .bool false, .int .i64 0] 24)).drew)
      have HZ5 := hide (Blk.new wr #[.slice none 0 0, .bool false, .bool false, .int .i64 0] 24).drew
      have hXl := hX.lt
      have HX4 := hide hX
      have HM4 := hide hm
      clear hX hbc hm hI
      go_wp2_with fail
      (try rw [hbn])
      clear hbn
      go_region_held3 (fun w' => w'.cell? ⟨Bc, 0, none⟩ = some (.slice (some ⟨gc, fc, none⟩) bs.length cc) ∧ w'.cell? ⟨Bc, 1, none⟩ = some (.bool br) ∧ w'.cell? ⟨Bc, 2, none⟩ = some (.bool off) ∧ w'.cell? ⟨Bc, 3, none⟩ = some (.int .i64 ops) ∧ w'.cell? ⟨gc, fc + bn * 4 + 1, none⟩ = some (.int .i64 nx) ∧ w'.cell? ⟨lb, lo + t, none⟩ = some (.int .u16 xn))
        (first
          | with_reducible exact HK.out _ (Mem.put4 N2.out (Nat.le_refl _) _ _ _ _)
          | with_reducible exact HK.out _ (Mem.put4 N2.out NB.out _ _ _ _)
          | with_reducible exact HK.out _ (Mem.alloc N2.out _)
          | with_reducible exact HK.out _ N2.out
          | with_reducible exact HK.out _ (Mem.alloc N1.out _)
          | with_reducible exact HK.out _ N1.out
          | with_reducible exact HK.out _ NZ.out
          | with_reducible exact HK.out _ N0.out)
        (first
          | (go_at_call 18; refine (lawPage _ _ _ _ (HSI.out.mem (by first | with_reducible exact N0.out | with_reducible exact NZ.out)) HSB.out).mono ?_; rintro e w2 ⟨rfl, n1⟩; have N1' : Mem wr w2 := (by first | (with_reducible exact Mem.trans N0.out n1) | (with_reducible exact Mem.trans NZ.out n1)); have N1 := hide N1'; have NB := hide N1'.size; clear N1'; (try (have HZ6' : Blk w2 wr.heap.size 24 #[.slice none 0 0, .bool false, .bool false, .int .i64 0] := (by with_reducible exact HZ5.out.mem n1); have HZ6 := hide HZ6'; clear HZ6')); generalize hpg : pageMk _ _ = pg; have hps : pg.2.2.size ≤ 100 := (by rw [← hpg]; exact (pageMk_size _ _).2); clear hpg n1)
          | (go_at_call 19; refine (progSpec_ref _ _ bs br off ops bn nx pg (0, ⟨#[]⟩, ⟨#[]⟩, 0) _ (HBF.out _ (by first | with_reducible exact N1.out | with_reducible exact Mem.alloc N1.out _)) HFew.out).mono ?_; rintro e w5 ⟨hr, n3⟩; have N2' : Mem wr w5 := (by first | (with_reducible exact Mem.trans N1.out n3) | (with_reducible exact Mem.trans (Mem.alloc N1.out _) n3)); have N2 := hide N2'; clear N2'; (try (have Z7 : Blk w5 wr.heap.size 24 #[.slice none 0 0, .bool false, .bool false, .int .i64 0] := (by with_reducible exact HZ6.out.mem n3); have z0 := Z7.cell (j := 0) rfl; have z1 := Z7.cell (j := 1) rfl; have z2 := Z7.cell (j := 2) rfl; have z3 := Z7.cell (j := 3) rfl; have f0 := Z7.frozen 0; have f1 := Z7.frozen 1; have f2 := Z7.frozen 2; have f3 := Z7.frozen 3)); (try (have Z8 : Blk w5 w2.heap.size 24 #[.slice none 0 0, .bool false, .bool false, .int .i64 0] := (by with_reducible exact (Blk.new w2 #[.slice none 0 0, .bool false, .bool false, .int .i64 0] 24).mem n3); have z0 := Z8.cell (j := 0) rfl; have z1 := Z8.cell (j := 1) rfl; have z2 := Z8.cell (j := 2) rfl; have z3 := Z8.cell (j := 3) rfl; have f0 := Z8.frozen 0; have f1 := Z8.frozen 1; have f2 := Z8.frozen 2; have f3 := Z8.frozen 3)); have HI3 := hide (inv_prog (c := (bs, br, off, ops)) HI.out bn nx (pg := pg) (f := (0, ⟨#[]⟩, ⟨#[]⟩, 0)) (by unfold maxLen; omega) (Nat.zero_le _)); generalize Nand.program (bs, br, off, ops) bn nx pg (0, ⟨#[]⟩, ⟨#[]⟩, 0) = qq at *; obtain ⟨⟨bs5, br5, off5, ops5⟩, en⟩ := qq; obtain ⟨v5, rfl, hb5⟩ := hr; simp only [] at hb5 HI3 ⊢; obtain ⟨o5, c5, rfl⟩ := hb5.shape; have hn3 := n3.size; have HB5 := hide hb5; clear n3 hb5))
      all_goals (first
        | (have hD := Z7.put4 (.slice o5 bs5.length c5) (.bool br5) (.bool off5) (.int .i64 ops5)
           have hNB := NB.out
           have hl6 := HZ6.out.lt
           have X5 := (HX4.out.mem N2.out).far4 (b' := wr.heap.size) (by omega) (.slice o5 bs5.length c5) (.bool br5) (.bool off5) (.int .i64 ops5)
           have M5 := (HM4.out.trans N2.out).put4 (b := wr.heap.size) (by have := HM4.out.size; omega) (.slice o5 bs5.length c5) (.bool br5) (.bool off5) (.int .i64 ops5)
           have hbO := ((HBF.out _ N2.out).put4 (b := wr.heap.size) (fun h => by have := h.2; omega) (.slice o5 bs5.length c5) (.bool br5) (.bool off5) (.int .i64 ops5)).mono (S' := fun x => x ≠ Bc) fun x hx _ => hx.1
           have hbD := ((HB5.out.mono (S' := fun x => x ≠ Bc ∧ x ≠ wr.heap.size) fun x hx hl => by rcases hx with hx | hx; exact ⟨hx.1, by have := hx.2; omega⟩; exact ⟨by omega, by omega⟩).put4 (b := wr.heap.size) (fun h => h.2 rfl) (.slice o5 bs5.length c5) (.bool br5) (.bool off5) (.int .i64 ops5)).mono (S' := fun x => x ≠ Bc) fun x hx _ => hx.1
           clear z0 z1 z2 z3 f0 f1 f2 f3 Z7
           generalize hWD : ((((w5.setCell ⟨wr.heap.size, 0, none⟩ (.slice o5 bs5.length c5)).setCell ⟨wr.heap.size, 1, none⟩ (.bool br5)).setCell ⟨wr.heap.size, 2, none⟩ (.bool off5)).setCell ⟨wr.heap.size, 3, none⟩ (.int .i64 ops5)) = WD at *
           have hDB : Bc < wr.heap.size := by omega
           generalize wr.heap.size = DB at *
           clear hWD)
        | (have hD := Z8.put4 (.slice o5 bs5.length c5) (.bool br5) (.bool off5) (.int .i64 ops5)
           have hNB := NB.out
           have hl8 : (w2.alloc (.cells #[.slice none 0 0, .bool false, .bool false, .int .i64 0] 24)).heap.size = w2.heap.size + 1 := by simp
           have X5 := (HX4.out.mem N2.out).far4 (b' := w2.heap.size) (by omega) (.slice o5 bs5.length c5) (.bool br5) (.bool off5) (.int .i64 ops5)
           have M5 := (HM4.out.trans N2.out).put4 (b := w2.heap.size) (by have := HM4.out.size; omega) (.slice o5 bs5.length c5) (.bool br5) (.bool off5) (.int .i64 ops5)
           have hbO := ((HBF.out _ N2.out).put4 (b := w2.heap.size) (fun h => by have := h.2; omega) (.slice o5 bs5.length c5) (.bool br5) (.bool off5) (.int .i64 ops5)).mono (S' := fun x => x ≠ Bc) fun x hx _ => hx.1
           have hbD := ((HB5.out.mono (S' := fun x => x ≠ Bc ∧ x ≠ w2.heap.size) fun x hx hl => by rcases hx with hx | hx; exact ⟨hx.1, by have := hx.2; omega⟩; exact ⟨by rw [hl8] at hx; omega, by rw [hl8] at hx; omega⟩).put4 (b := w2.heap.size) (fun h => h.2 rfl) (.slice o5 bs5.length c5) (.bool br5) (.bool off5) (.int .i64 ops5)).mono (S' := fun x => x ≠ Bc) fun x hx _ => hx.1
           clear z0 z1 z2 z3 f0 f1 f2 f3 Z8
           generalize hWD : ((((w5.setCell ⟨w2.heap.size, 0, none⟩ (.slice o5 bs5.length c5)).setCell ⟨w2.heap.size, 1, none⟩ (.bool br5)).setCell ⟨w2.heap.size, 2, none⟩ (.bool off5)).setCell ⟨w2.heap.size, 3, none⟩ (.int .i64 ops5)) = WD at *
           have hDB : Bc < w2.heap.size := by omega
           generalize w2.heap.size = DB at *
           clear hWD)
        | (have hD := Blk.new w5 #[.slice o5 bs5.length c5, .bool br5, .bool off5, .int .i64 ops5] 24
           have hNB := NB.out
           have mD : Mem w5 (w5.alloc (.cells #[.slice o5 bs5.length c5, .bool br5, .bool off5, .int .i64 ops5] 24)) := (Mem.refl w5).alloc _
           have X5 := HX4.out.mem (N2.out.trans mD)
           have M5 := HM4.out.trans (N2.out.trans mD)
           have hbO := (HBF.out _ (N2.out.trans mD)).mono (S' := fun x => x ≠ Bc) fun x hx _ => hx.1
           have hn5 : wr.heap.size ≤ w5.heap.size := N2.out.size
           have hbD := (HB5.out.mono (S' := fun x => x ≠ Bc) fun x hx hl => by rcases hx with hx | hx; exact hx.1; omega).mem mD
           have hDB : Bc < w5.heap.size := by omega
           generalize hWD : w5.alloc (.cells #[.slice o5 bs5.length c5, .bool br5, .bool off5, .int .i64 ops5] 24) = WD at *
           generalize w5.heap.size = DB at *
           clear hWD mD))
      all_goals (
        clear HX4 HM4 N2 HBF HB5 HK NZ HZ5 N0 c0 c1 c2 c3' k1 x0 HFew
        have d0 := hD.cell (j := 0) rfl
        have d1 := hD.cell (j := 1) rfl
        have d2 := hD.cell (j := 2) rfl
        have d3 := hD.cell (j := 3) rfl
        have c0 := X5.cell (j := 0) rfl
        have c1 := X5.cell (j := 1) rfl
        have c2 := X5.cell (j := 2) rfl
        have c3' := X5.cell (j := 3) rfl
        have f0 := X5.frozen 0
        have f1 := X5.frozen 1
        have f2 := X5.frozen 2
        have f3 := X5.frozen 3
        clear hmw
        by_cases hen : en = 0
        · subst hen
          have X6 := X5.put4 (.slice o5 bs5.length c5) (.bool br5) (.bool off5) (.int .i64 ops5)
          have M6 := M5.put4 (b := Bc) (by omega) (.slice o5 bs5.length c5) (.bool br5) (.bool off5) (.int .i64 ops5)
          have hb6 := hbD.put4 (b := Bc) (fun h => h rfl) (.slice o5 bs5.length c5) (.bool br5) (.bool off5) (.int .i64 ops5)
          go_wp2_with fail
          go_roundw
          case rel => exact ⟨t + 1, o5, c5, bs5, br5, off5, ops5, ⟨by omega, by omega⟩, by go_num, X6, hb6, M6, HI3.out⟩
          case measure => simp [intOf]; omega
        · have hen' : (en == 0) = false := by rw [beq_eq_false_iff_ne]; exact hen
          clear hen
          go_wp2_with fail
          go_roundw
          case rel => exact ⟨t + 1, _, _, bs, br, off, ops, ⟨by omega, by omega⟩, by go_num, X5, hbO, M5, HI.out⟩
          case measure => simp [intOf]; omega)
    · have hc : (zs.length : Int) ≤ (t : Int) ∨ ((t : Int) < (zs.length : Int) ∧ (40 : Int) ≤ (t : Int)) := by omega
      have HF := hide (few_inv hI (by decide) (by decide))
      have HSZ : Hid (∀ b ∈ bs, ∀ p ∈ b.1, p.2.2.size ≤ maxLen) := hI.2.2
      have HCC : Hid (∀ w', Mem wr w' → w'.cell? ⟨Bc, 0, none⟩ = some (.slice oc bs.length cc) ∧ w'.cell? ⟨Bc, 1, none⟩ = some (.bool br) ∧ w'.cell? ⟨Bc, 2, none⟩ = some (.bool off) ∧ w'.cell? ⟨Bc, 3, none⟩ = some (.int .i64 ops)) := fun w' h => ⟨(hX.mem h).cell (j := 0) rfl, (hX.mem h).cell (j := 1) rfl, (hX.mem h).cell (j := 2) rfl, (hX.mem h).cell (j := 3) rfl⟩
      obtain ⟨c0, c1, c2, c3⟩ := HCC.out wr (Mem.refl _)
      have HBF := hide (fun (w' : World) (h : Mem wr w') => hbc.mem h)
      have N0 := hide (Mem.drew (Mem.refl wr))
      clear hlt hX hbc hI HZ HB
      rcases hc with hc | ⟨hc, hc'⟩
      all_goals (
        go_wp2_with fail
        go_region_held3 (fun w' => w'.cell? ⟨Bc, 0, none⟩ = some (.slice oc bs.length cc) ∧ w'.cell? ⟨Bc, 1, none⟩ = some (.bool br) ∧ w'.cell? ⟨Bc, 2, none⟩ = some (.bool off) ∧ w'.cell? ⟨Bc, 3, none⟩ = some (.int .i64 ops))
          (first | with_reducible exact HCC.out _ N0.out | with_reducible exact HCC.out _ N1.out | with_reducible exact HCC.out _ N2.out | with_reducible exact HCC.out _ N3.out | with_reducible exact HCC.out _ N4.out)
          (first
            | (go_at_call 9; refine (awake _).mono ?_; rintro e w2 ⟨rfl, n1⟩; have N1 := hide (Mem.trans N0.out n1); clear n1)
            | (go_at_call 15; refine (codeAll _ _ bs br off ops _ (HBF.out _ N1.out) HF.out HSZ.out).mono ?_; rintro e w3 ⟨⟨va, rfl, hfa⟩, n2⟩; obtain ⟨oA, cA, rfl⟩ := hfa.shape; have N2 := hide (Mem.trans N1.out n2); have HFA := hide hfa; clear n2 hfa)
            | (go_at_call 16; refine (refAll _ _ bs br off ops _ (HBF.out _ N2.out) HF.out HSZ.out).mono ?_; rintro e w4 ⟨⟨vb, rfl, hfb⟩, n3⟩; obtain ⟨oB, cB, rfl⟩ := hfb.shape; have N3 := hide (Mem.trans N2.out n3); have HFB := hide hfb; have HFA2 := hide (HFA.out.mem n3); clear n3 hfb)
            | (go_at_call 14; refine (refScanSame _ _ _ _ _ _ HFA2.out HFB.out).mono ?_; rintro e w5 ⟨rfl, n4⟩; have N4 := hide (Mem.trans N3.out n4); clear n4))
        go_wp2_with fail
        go_ret
        exact ⟨rfl, hm.trans N4.out⟩)
end Go.Proofs.Ytcjhaapmehegkaa.Scan
