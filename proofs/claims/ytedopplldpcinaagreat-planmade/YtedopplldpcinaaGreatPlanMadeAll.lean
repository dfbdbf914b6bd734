/-
  PlanMadeC, PlanFilledC: in one text (merge.json).
-/
import Derived.Test.YtedopplldpcinaaGreatScanMadeC
import Derived.Test.YtedopplldpcinaaGreatMadeMath
import Derived.Test.YtedopplldpcinaaGreatPlanChips
/-
  Layer 12: a chip by numbers, all of whose rows the call has made (mk_planmade.py).
-/
namespace Go.Proofs.YtedopplldpcinaaGreat.Scan
open Go.RowKit Go.Proofs.YtedopplldpcinaaGreat.Nand Go.Proofs.YtedopplldpcinaaGreat.Tag Go.Proofs.YtedopplldpcinaaGreat.States Go.Proofs.YtedopplldpcinaaGreat.Victim Go.Proofs.YtedopplldpcinaaGreat.Plan

def ChipMadeE (N M : Nat) (w : World) (e : Ending) (w' : World) : Prop :=
  ∃ v bs br off ops, e = .returned (chipV v br off ops) ∧ OwnS (fun x => w.heap.size ≤ x) w' v bs ∧ ∃ k, k ≤ 40 ∧ InvE N M k (bs, br, off, ops)
set_option maxHeartbeats 4000000 in
set_option maxRecDepth 100000 in
theorem lawMade12 (ol : Option Addr) (cl : Nat) (zs : List Int) (N M : Nat) (w : World) (hz : Ints .u16 w (.slice ol zs.length cl) zs) (hcl : zs.length ≤ cl) (hb : ∀ x ∈ zs, 0 ≤ x ∧ x ≤ 65535) (hN1 : 1 ≤ N) (hN2 : N ≤ 32) (hM1 : 1 ≤ M) (hM2 : M ≤ 16) :
    Calls Tryz.prog 22 #[.slice ol zs.length cl, .int .i64 N, .int .i64 M] w fun e w' => ChipMadeE N M w e w' ∧ Mem w w' := by
  have hR0 := Blk.new w #[.slice none 0 0, .bool false, .bool false, .int .i64 0] 24
  have hm0 : Mem w (w.alloc (.cells #[.slice none 0 0, .bool false, .bool false, .int .i64 0] 24)) := (Mem.refl w).alloc _
  have hzl := hz.1
  unfold maxLen at hzl
  have HZ := hide hz
  have HB := hide hb
  clear hz hb
  go_enter Tryz.func22, Tryz.ntmps22
  go_wp2_with fail
  generalize hW0 : w.alloc (.cells #[.slice none 0 0, .bool false, .bool false, .int .i64 0] 24) = W0 at *
  clear hW0
  have hwl := hR0.lt
  refine (refNewOwn N M _ [] _ (Ints.nil _ _ _ _) (by decide)).mono ?_
  rintro e w1 ⟨hr, m1⟩
  rw [newC_yes hN1 hN2 hM1 hM2 (by simp)] at hr
  obtain ⟨v1, rfl, hb1⟩ := hr
  obtain ⟨o1, c1, rfl⟩ := hb1.shape
  simp only [chipV]
  have hI1 := invE_new N M
  simp only [] at hb1
  generalize newBlocks N M [] = bs1 at *
  have ha : Mem w1 (w1.alloc (.cells #[.slice o1 bs1.length c1, .bool false, .bool false, .int .i64 0] 24)) := (Mem.refl w1).alloc _
  have hX := Blk.new w1 #[.slice o1 bs1.length c1, .bool false, .bool false, .int .i64 0] 24
  have hb2 := (hb1.mono (S' := fun x => x ≠ w1.heap.size ∧ w.heap.size < x) fun g hg hl => ⟨Nat.ne_of_lt hl, by omega⟩).mem ha
  have hR1 := hR0.mem (m1.trans ha)
  have hm1 := hm0.trans (m1.trans ha)
  have hBw : w.heap.size < w1.heap.size := by have := m1.size; omega
  clear hb1 hR0
  go_wp2_with fail
  generalize hW1 : w1.alloc (.cells #[.slice o1 bs1.length c1, .bool false, .bool false, .int .i64 0] 24) = W1 at *
  generalize w1.heap.size = Bc at *
  clear hW1 ha m1
  go_loopw [9, 10] (fun a i wr => ∃ (t k : Nat) (oc : Option Addr) (cc : Nat) (bs : List BlockT) (br off : Bool) (ops : Int), k ≤ 40 ∧ (t ≤ zs.length ∧ t ≤ 8 * k) ∧ a = .int .i64 t ∧ i = .int .i64 k ∧ Blk wr Bc 24 #[.slice oc bs.length cc, .bool br, .bool off, .int .i64 ops] ∧ OwnS (fun x => x ≠ Bc ∧ w.heap.size < x) wr (.slice oc bs.length cc) bs ∧ Blk wr w.heap.size 24 #[.slice none 0 0, .bool false, .bool false, .int .i64 0] ∧ Mem w wr ∧ InvE N M k (bs, br, off, ops)) (fun _ i _ => 40 - (intOf i).toNat)
  case atStart => exact ⟨0, 0, _, _, _, _, _, _, by omega, ⟨Nat.zero_le _, Nat.zero_le _⟩, rfl, rfl, hX, hb2, hR1, hm1, hI1⟩
  case round =>
    clear hX hb2 hR1 hm1 hI1
    obtain ⟨t, k, oc, cc, bs, br, off, ops, hk, ht, rfl, rfl, hX, hbc, hR, hm, hI⟩ := hrel
    by_cases hlt : k < 40 ∧ t < zs.length
    · obtain ⟨hk1, ht1⟩ := hlt
      have hk' : (k : Int) < 40 := by omega
      have ht' : (t : Int) < (zs.length : Int) := by omega
      have ht0 : (0 : Int) ≤ (t : Int) := by omega
      obtain ⟨lb, lo, rfl, hcell⟩ := (HZ.out.mem hm).at (by omega)
      have x0 := hcell t ht1
      have hxb : 0 ≤ zs.getD t 0 ∧ zs.getD t 0 ≤ 65535 := HB.out _ (by simp [ht1])
      clear hcell
      generalize hxe : zs.getD t 0 = x at *
      clear hxe
      obtain ⟨xn, rfl⟩ := Int.eq_ofNat_of_zero_le hxb.1
      have hxl : (xn : Int) ≤ 65535 := hxb.2
      clear hxb
      obtain ⟨q, hq⟩ : ∃ q : Nat, (xn : Int) / 50 % 8 = (q : Int) := ⟨xn / 50 % 8, by omega⟩
      have hq8 : (q : Int) < 8 := by omega
      obtain ⟨bn, hbn⟩ : ∃ bn : Nat, (xn : Int) % (N : Int) = (bn : Int) := ⟨xn % N, by omega⟩
      have hbN : (bn : Int) < (N : Int) := by rw [← hbn]; exact Int.emod_lt_of_pos _ (by omega)
      obtain ⟨sq, hsq⟩ : ∃ sq : Nat, (xn : Int) / 7 % 30 = (sq : Int) := ⟨xn / 7 % 30, by omega⟩
      obtain ⟨m, e1, m1, m2, m3⟩ : ∃ m : Nat, (if (zs.length : Int) < (t : Int) + 1 + (q : Int) then (zs.length : Int) else (t : Int) + 1 + (q : Int)) = (m : Int) ∧ t + 1 ≤ m ∧ m ≤ zs.length ∧ m ≤ t + 8 :=
        ⟨if zs.length < t + 1 + q then zs.length else t + 1 + q, by split <;> split <;> omega, by split <;> omega, by split <;> omega, by split <;> omega⟩
      have htm : (t : Int) ≤ (m : Int) := by omega
      have htm1 : (t : Int) + 1 ≤ (m : Int) := by omega
      have hmc : (m : Int) ≤ (cl : Int) := by omega
      have hm0' : (0 : Int) ≤ (m : Int) := by omega
      have htL : (t : Int) ≤ 320 := by omega
      have HSI := hide (sub_ints (HZ.out.mem hm) (show t < m by omega) m2 (cl - t))
      have HSB := hide (sub_mem (t := t) (n := m - t) HB.out)
      have HI := hide hI
      have HEe := hide e1
      go_wp2_with fail
      (try rw [hbn])
      clear e1 hq hsq hcl hzl hI
      refine (lawPage sq _ _ _ HSI.out HSB.out).mono ?_
      rintro e w2 ⟨rfl, n1⟩
      have hps := (pageMk_size sq ((zs.drop t).take (m - t))).2
      have hps1 := (pageMk_size sq ((zs.drop t).take (m - t))).1
      generalize pageMk sq ((zs.drop t).take (m - t)) = pg at *
      simp only [pageV]
      clear HSI HSB x0
      by_cases h11 : (xn : Int) % 11 = 0
      all_goals (by_cases h29 : (xn : Int) % 29 = 0)
      · have g11 : ((xn : Int) % 11 == 0) = true := by rw [beq_iff_eq]; exact h11
        have g29 : ((xn : Int) % 29 == 0) = true := by rw [beq_iff_eq]; exact h29
        clear h11 h29
        have hA : Mem w2 ((w2.alloc (.cells #[.bool pg.1, .string pg.2.1, .string pg.2.2] 33)).alloc (.cells #[.int .i64 1, .string ⟨#[120]⟩, .string pg.2.2, .int .i64 0] 52)) := ((Mem.refl w2).alloc _).alloc _
        have hP : Blk ((w2.alloc (.cells #[.bool pg.1, .string pg.2.1, .string pg.2.2] 33)).alloc (.cells #[.int .i64 1, .string ⟨#[120]⟩, .string pg.2.2, .int .i64 0] 52)) w2.heap.size 33 #[.bool pg.1, .string pg.2.1, .string pg.2.2] := (Blk.new w2 _ _).alloc _
        have hF := blk_second w2 (.cells #[.bool pg.1, .string pg.2.1, .string pg.2.2] 33) #[.int .i64 1, .string ⟨#[120]⟩, .string pg.2.2, .int .i64 0] 52
        have hXl := hX.lt
        have X1 := hX.mem (n1.trans hA)
        have B1 := hbc.mem (n1.trans hA)
        have R1 := hR.mem (n1.trans hA)
        have M1 := hm.trans (n1.trans hA)
        have hBp : Bc < w2.heap.size := by have := n1.size; omega
        clear hX hbc hR hm
        have c0 := X1.cell (j := 0) rfl
        have c1 := X1.cell (j := 1) rfl
        have c2 := X1.cell (j := 2) rfl
        have c3 := X1.cell (j := 3) rfl
        go_wp2_with fail
        generalize hWA : (w2.alloc (.cells #[.bool pg.1, .string pg.2.1, .string pg.2.2] 33)).alloc (.cells #[.int .i64 1, .string ⟨#[120]⟩, .string pg.2.2, .int .i64 0] 52) = WA at *
        generalize w2.heap.size = Bp at *
        clear hWA hA n1
        clear c0 c1 c2 c3
        have hf5 : (((1, ⟨#[120]⟩, pg.2.2, 0) : FateT).2.1).size ≤ maxLen := by show (⟨#[120]⟩ : ByteArray).size ≤ maxLen; decide
        have hf4 : ((1, ⟨#[120]⟩, pg.2.2, 0) : FateT).1 ≠ 2 := (by decide : (1 : Int) ≠ 2)
        have hf2 : (((1, ⟨#[120]⟩, pg.2.2, 0) : FateT).2.2.1).size ≤ maxLen := by show pg.2.2.size ≤ maxLen; unfold maxLen; omega
        obtain ⟨f, hfe⟩ : ∃ f : FateT, (1, ⟨#[120]⟩, pg.2.2, 0) = f := ⟨_, rfl⟩
        rw [hfe] at hf2 hf4 hf5
        have hF : Blk WA (Bp + 1) 52 #[.int .i64 f.1, .string f.2.1, .string f.2.2.1, .int .i64 f.2.2.2] := by rw [← hfe]; exact hF
        clear hfe
        refine (eraseOwn _ _ bs br off ops bn (0, ⟨#[]⟩, ⟨#[]⟩, 0) _ B1.to (few_inv HI.out.1.1 hN2 hM2)).mono ?_
        rintro e w3 ⟨hr, n2⟩
        have HI2 := hide (invE_erase (c := (bs, br, off, ops)) HI.out bn (by omega))
        clear HI
        generalize erase (bs, br, off, ops) bn (0, ⟨#[]⟩, ⟨#[]⟩, 0) = q at *
        obtain ⟨⟨bs', br', off', ops'⟩, en⟩ := q
        obtain ⟨v3, rfl, hb3⟩ := hr
        simp only [] at hb3 HI2 ⊢
        obtain ⟨o3, c3, rfl⟩ := hb3.shape
        have Z := X1.mem n2
        have z0 := Z.cell (j := 0) rfl
        have z1 := Z.cell (j := 1) rfl
        have z2 := Z.cell (j := 2) rfl
        have z3 := Z.cell (j := 3) rfl
        have f0 := Z.frozen 0
        have f1 := Z.frozen 1
        have f2 := Z.frozen 2
        have f3 := Z.frozen 3
        have hWl := hF.lt
        have hb4 := (hb3.mono (S' := fun x => x ≠ Bc ∧ w.heap.size < x) fun g hg _ => by rcases hg with h | h; exact h; omega).put4 (b := Bc) (fun h => h.1 rfl) (.slice o3 bs'.length c3) (.bool br') (.bool off') (.int .i64 ops')
        have X4 := Z.put4 (.slice o3 bs'.length c3) (.bool br') (.bool off') (.int .i64 ops')
        have R4 := (R1.mem n2).far4 (b' := Bc) (by omega) (.slice o3 bs'.length c3) (.bool br') (.bool off') (.int .i64 ops')
        have P4 := (hP.mem n2).far4 (b' := Bc) (by omega) (.slice o3 bs'.length c3) (.bool br') (.bool off') (.int .i64 ops')
        have F4 := (hF.mem n2).far4 (b' := Bc) (by omega) (.slice o3 bs'.length c3) (.bool br') (.bool off') (.int .i64 ops')
        have M4 := (M1.trans n2).put4 (b := Bc) (by omega) (.slice o3 bs'.length c3) (.bool br') (.bool off') (.int .i64 ops')
        go_wp2_with fail
        generalize hW4 : ((((w3.setCell ⟨Bc, 0, none⟩ (.slice o3 bs'.length c3)).setCell ⟨Bc, 1, none⟩ (.bool br')).setCell ⟨Bc, 2, none⟩ (.bool off')).setCell ⟨Bc, 3, none⟩ (.int .i64 ops')) = W4 at *
        clear hW4 z0 z1 z2 z3 f0 f1 f2 f3 Z hb3 n2 X1 B1 R1 M1 hP hF hWl
        have hlen : bs'.length = N := dims_len HI2.out.1.1.1
        have hbi : bn < bs'.length := by omega
        have hbi' : (bn : Int) < (bs'.length : Int) := by omega
        have hbn0 : (0 : Int) ≤ (bn : Int) := by omega
        clear hlen
        obtain ⟨gc, fc, pc, qc, rfl, j1, j2, k1, j3, j4, j5⟩ := hb4.to.at hbi
        clear j1 j2 j3 j4 j5
        generalize bs'[bn].2.1 = nx at k1
        have HK : Hid (∀ w', Mem W4 w' → w'.cell? ⟨Bc, 0, none⟩ = some (.slice (some ⟨gc, fc, none⟩) bs'.length c3) ∧ w'.cell? ⟨Bc, 1, none⟩ = some (.bool br') ∧ w'.cell? ⟨Bc, 2, none⟩ = some (.bool off') ∧ w'.cell? ⟨Bc, 3, none⟩ = some (.int .i64 ops') ∧ w'.cell? ⟨gc, fc + bn * 4 + 1, none⟩ = some (.int .i64 nx) ∧ w'.cell? ⟨Bp, 0, none⟩ = some (.bool pg.1) ∧ w'.cell? ⟨Bp, 1, none⟩ = some (.string pg.2.1) ∧ w'.cell? ⟨Bp, 2, none⟩ = some (.string pg.2.2) ∧ w'.cell? ⟨Bp + 1, 0, none⟩ = some (.int .i64 f.1) ∧ w'.cell? ⟨Bp + 1, 1, none⟩ = some (.string f.2.1) ∧ w'.cell? ⟨Bp + 1, 2, none⟩ = some (.string f.2.2.1) ∧ w'.cell? ⟨Bp + 1, 3, none⟩ = some (.int .i64 f.2.2.2)) := fun w' h => ⟨(X4.mem h).cell (j := 0) rfl, (X4.mem h).cell (j := 1) rfl, (X4.mem h).cell (j := 2) rfl, (X4.mem h).cell (j := 3) rfl, (Below.cell h (p := ⟨gc, fc + bn * 4 + 1, none⟩) (World.block_lt_of_cell? W4 _ k1)).trans k1, (P4.mem h).cell (j := 0) rfl, (P4.mem h).cell (j := 1) rfl, (P4.mem h).cell (j := 2) rfl, (F4.mem h).cell (j := 0) rfl, (F4.mem h).cell (j := 1) rfl, (F4.mem h).cell (j := 2) rfl, (F4.mem h).cell (j := 3) rfl⟩
        obtain ⟨c0, c1, c2, c3', k1, p0, p1, p2, q0, q1, q2, q3⟩ := HK.out W4 (Mem.refl _)
        have HBF := hide (fun (w' : World) (h : Mem W4 w') => (hb4.mono (S' := fun x => (x ≠ Bc ∧ w.heap.size < x) ∧ x < W4.heap.size) fun x hx hl => ⟨hx, hl⟩).mem h)
        have HFew := hide (few_inv HI2.out.1.1 hN2 hM2)
        have HI3 := hide (invE_prog (c := (bs', br', off', ops')) HI2.out bn nx (pg := pg) (f := f) (by unfold maxLen; omega) hf2 hf4 (by unfold maxLen; omega) hf5)
        have N0 : Hid (Mem W4 W4.drew) := Mem.drew (Mem.refl W4)
        have NZ := hide (((Mem.refl W4).alloc (.cells #[.slice none 0 0, .bool false, .bool false, .int .i64 0] 24)).drew)
        have HZ5 := hide (Blk.new W4 #[.slice none 0 0, .bool false, .bool false, .int .i64 0] 24).drew
        have hX4l := X4.lt
        have HBO := hide (hb4.mono (S' := fun x => (x ≠ Bc ∧ w.heap.size < x) ∧ x < W4.heap.size) fun x hx hl => ⟨hx, hl⟩)
        have HX4 := hide X4
        have HR4 := hide R4
        have HM4 := hide M4
        clear X4 R4 P4 F4 M4 hb4
        go_region_held3 (fun w' => w'.cell? ⟨Bc, 0, none⟩ = some (.slice (some ⟨gc, fc, none⟩) bs'.length c3) ∧ w'.cell? ⟨Bc, 1, none⟩ = some (.bool br') ∧ w'.cell? ⟨Bc, 2, none⟩ = some (.bool off') ∧ w'.cell? ⟨Bc, 3, none⟩ = some (.int .i64 ops') ∧ w'.cell? ⟨gc, fc + bn * 4 + 1, none⟩ = some (.int .i64 nx) ∧ w'.cell? ⟨Bp, 0, none⟩ = some (.bool pg.1) ∧ w'.cell? ⟨Bp, 1, none⟩ = some (.string pg.2.1) ∧ w'.cell? ⟨Bp, 2, none⟩ = some (.string pg.2.2) ∧ w'.cell? ⟨Bp + 1, 0, none⟩ = some (.int .i64 f.1) ∧ w'.cell? ⟨Bp + 1, 1, none⟩ = some (.string f.2.1) ∧ w'.cell? ⟨Bp + 1, 2, none⟩ = some (.string f.2.2.1) ∧ w'.cell? ⟨Bp + 1, 3, none⟩ = some (.int .i64 f.2.2.2))
          (first
            | with_reducible exact HK.out _ (Mem.put4 N2.out (Nat.le_refl _) _ _ _ _)
            | with_reducible exact HK.out _ (Mem.alloc N2.out _)
            | with_reducible exact HK.out _ N2.out
            | with_reducible exact HK.out _ NZ.out
            | with_reducible exact HK.out _ N0.out)
          ((go_at_call 12; refine (progOwn _ _ bs' br' off' ops' bn nx pg f _ (HBF.out _ (by first | with_reducible exact N0.out | with_reducible exact NZ.out)).to HFew.out).mono ?_; rintro e w5 ⟨hr, n3⟩; have N2' : Mem W4 w5 := (by first | (with_reducible exact Mem.trans N0.out n3) | (with_reducible exact Mem.trans NZ.out n3)); have N2 := hide N2'; clear N2'; (try (have Z7 : Blk w5 W4.heap.size 24 #[.slice none 0 0, .bool false, .bool false, .int .i64 0] := (by with_reducible exact HZ5.out.mem n3); have z0 := Z7.cell (j := 0) rfl; have z1 := Z7.cell (j := 1) rfl; have z2 := Z7.cell (j := 2) rfl; have z3 := Z7.cell (j := 3) rfl; have f0 := Z7.frozen 0; have f1 := Z7.frozen 1; have f2 := Z7.frozen 2; have f3 := Z7.frozen 3)); generalize Nand.program (bs', br', off', ops') bn nx pg f = qq at *; obtain ⟨⟨bs5, br5, off5, ops5⟩, en⟩ := qq; obtain ⟨v5, rfl, hb5⟩ := hr; simp only [] at hb5 HI3 ⊢; obtain ⟨o5, c5, rfl⟩ := hb5.shape; have hn3 := n3.size; have HB5 := hide hb5; clear n3 hb5))
        · have hD := Blk.new w5 #[.slice o5 bs5.length c5, .bool br5, .bool off5, .int .i64 ops5] 24
          have mD : Mem w5 (w5.alloc (.cells #[.slice o5 bs5.length c5, .bool br5, .bool off5, .int .i64 ops5] 24)) := (Mem.refl w5).alloc _
          have X5 := HX4.out.mem (N2.out.trans mD)
          have R5 := HR4.out.mem (N2.out.trans mD)
          have M5 := HM4.out.trans (N2.out.trans mD)
          have hbO := ((HBO.out.mem (N2.out.trans mD))).mono (S' := fun x => x ≠ Bc ∧ w.heap.size < x) fun x hx _ => hx.1
          have hn3' : W4.heap.size ≤ w5.heap.size := N2.out.size
          have hbD := ((HB5.out.mono (S' := fun x => x ≠ Bc ∧ w.heap.size < x) fun x hx hl => by rcases hx with hx | hx; exact hx.1; exact ⟨by have : W4.heap.size ≤ x := hx; omega, by have : W4.heap.size ≤ x := hx; omega⟩)).mem mD
          have hDB : Bc < w5.heap.size := by omega
          generalize hWD : w5.alloc (.cells #[.slice o5 bs5.length c5, .bool br5, .bool off5, .int .i64 ops5] 24) = WD at *
          generalize w5.heap.size = DB at *
          clear hWD mD
          clear HX4 HR4 HM4 N2 HBF HBO HB5 HK NZ HZ5 N0 c0 c1 c2 c3' k1 p0 p1 p2 q0 q1 q2 q3 HFew
          have d0 := hD.cell (j := 0) rfl
          have d1 := hD.cell (j := 1) rfl
          have d2 := hD.cell (j := 2) rfl
          have d3 := hD.cell (j := 3) rfl
          have c0 := X5.cell (j := 0) rfl
          have c1 := X5.cell (j := 1) rfl
          have c2 := X5.cell (j := 2) rfl
          have c3' := X5.cell (j := 3) rfl
          have f0 := X5.frozen 0
          have f1 := X5.frozen 1
          have f2 := X5.frozen 2
          have f3 := X5.frozen 3
          have hmk : m ≤ 8 * (k + 1) := by omega
          by_cases hen : en = 1
          · subst hen
            go_wp2_with fail
            go_roundw
            case rel => exact ⟨m, k + 1, _, _, bs', br', off', ops', by omega, ⟨m2, hmk⟩, by go_num, by go_num, X5, hbO, R5, M5, HI2.out⟩
            case measure => simp [intOf]; omega
          · have hen' : (en != 1) = true := by simp [hen]
            have X6 := X5.put4 (.slice o5 bs5.length c5) (.bool br5) (.bool off5) (.int .i64 ops5)
            have R6 := R5.far4 (b' := Bc) (by omega) (.slice o5 bs5.length c5) (.bool br5) (.bool off5) (.int .i64 ops5)
            have M6 := M5.put4 (b := Bc) (by omega) (.slice o5 bs5.length c5) (.bool br5) (.bool off5) (.int .i64 ops5)
            have hb6 := hbD.put4 (b := Bc) (fun h => h.1 rfl) (.slice o5 bs5.length c5) (.bool br5) (.bool off5) (.int .i64 ops5)
            clear hen
            go_wp2_with fail
            go_roundw
            case rel => exact ⟨m, k + 1, o5, c5, bs5, br5, off5, ops5, by omega, ⟨m2, hmk⟩, by go_num, by go_num, X6, hb6, R6, M6, HI3.out⟩
            case measure => simp [intOf]; omega
        · have hl4 : (W4.alloc (.cells #[.slice none 0 0, .bool false, .bool false, .int .i64 0] 24)).drew.heap.size = W4.heap.size + 1 := by show (W4.alloc _).heap.size = _; simp
          rw [hl4] at hn3
          have hD := Z7.put4 (.slice o5 bs5.length c5) (.bool br5) (.bool off5) (.int .i64 ops5)
          have X5 := (HX4.out.mem N2.out).far4 (b' := W4.heap.size) (by omega) (.slice o5 bs5.length c5) (.bool br5) (.bool off5) (.int .i64 ops5)
          have R5 := (HR4.out.mem N2.out).far4 (b' := W4.heap.size) (by omega) (.slice o5 bs5.length c5) (.bool br5) (.bool off5) (.int .i64 ops5)
          have M5 := (HM4.out.trans N2.out).put4 (b := W4.heap.size) (by omega) (.slice o5 bs5.length c5) (.bool br5) (.bool off5) (.int .i64 ops5)
          have hbO := ((HBO.out.mem N2.out).put4 (b := W4.heap.size) (fun h => by have := h.2; omega) (.slice o5 bs5.length c5) (.bool br5) (.bool off5) (.int .i64 ops5)).mono (S' := fun x => x ≠ Bc ∧ w.heap.size < x) fun x hx _ => hx.1
          have hbD := ((HB5.out.mono (S' := fun x => (x ≠ Bc ∧ w.heap.size < x) ∧ x ≠ W4.heap.size) fun x hx hl => by rcases hx with hx | hx; exact ⟨hx.1, by have := hx.2; omega⟩; exact ⟨⟨by omega, by omega⟩, by omega⟩).put4 (b := W4.heap.size) (fun h => h.2 rfl) (.slice o5 bs5.length c5) (.bool br5) (.bool off5) (.int .i64 ops5)).mono (S' := fun x => x ≠ Bc ∧ w.heap.size < x) fun x hx _ => hx.1
          clear z0 z1 z2 z3 f0 f1 f2 f3 Z7 hl4
          generalize hWD : ((((w5.setCell ⟨W4.heap.size, 0, none⟩ (.slice o5 bs5.length c5)).setCell ⟨W4.heap.size, 1, none⟩ (.bool br5)).setCell ⟨W4.heap.size, 2, none⟩ (.bool off5)).setCell ⟨W4.heap.size, 3, none⟩ (.int .i64 ops5)) = WD at *
          have hDB : Bc < W4.heap.size := hX4l
          generalize W4.heap.size = DB at *
          clear hWD
          clear HX4 HR4 HM4 N2 HBF HBO HB5 HK NZ HZ5 N0 c0 c1 c2 c3' k1 p0 p1 p2 q0 q1 q2 q3 HFew
          have d0 := hD.cell (j := 0) rfl
          have d1 := hD.cell (j := 1) rfl
          have d2 := hD.cell (j := 2) rfl
          have d3 := hD.cell (j := 3) rfl
          have c0 := X5.cell (j := 0) rfl
          have c1 := X5.cell (j := 1) rfl
          have c2 := X5.cell (j := 2) rfl
          have c3' := X5.cell (j := 3) rfl
          have f0 := X5.frozen 0
          have f1 := X5.frozen 1
          have f2 := X5.frozen 2
          have f3 := X5.frozen 3
          have hmk : m ≤ 8 * (k + 1) := by omega
          by_cases hen : en = 1
          · subst hen
            go_wp2_with fail
            go_roundw
            case rel => exact ⟨m, k + 1, _, _, bs', br', off', ops', by omega, ⟨m2, hmk⟩, by go_num, by go_num, X5, hbO, R5, M5, HI2.out⟩
            case measure => simp [intOf]; omega
          · have hen' : (en != 1) = true := by simp [hen]
            have X6 := X5.put4 (.slice o5 bs5.length c5) (.bool br5) (.bool off5) (.int .i64 ops5)
            have R6 := R5.far4 (b' := Bc) (by omega) (.slice o5 bs5.length c5) (.bool br5) (.bool off5) (.int .i64 ops5)
            have M6 := M5.put4 (b := Bc) (by omega) (.slice o5 bs5.length c5) (.bool br5) (.bool off5) (.int .i64 ops5)
            have hb6 := hbD.put4 (b := Bc) (fun h => h.1 rfl) (.slice o5 bs5.length c5) (.bool br5) (.bool off5) (.int .i64 ops5)
            clear hen
            go_wp2_with fail
            go_roundw
            case rel => exact ⟨m, k + 1, o5, c5, bs5, br5, off5, ops5, by omega, ⟨m2, hmk⟩, by go_num, by go_num, X6, hb6, R6, M6, HI3.out⟩
            case measure => simp [intOf]; omega
      · have g11 : ((xn : Int) % 11 == 0) = true := by rw [beq_iff_eq]; exact h11
        have g29 : ((xn : Int) % 29 == 0) = false := by rw [beq_eq_false_iff_ne]; exact h29
        clear h11 h29
        have hA : Mem w2 ((w2.alloc (.cells #[.bool pg.1, .string pg.2.1, .string pg.2.2] 33)).alloc (.cells #[.int .i64 1, .string ⟨#[120]⟩, .string pg.2.2, .int .i64 0] 52)) := ((Mem.refl w2).alloc _).alloc _
        have hP : Blk ((w2.alloc (.cells #[.bool pg.1, .string pg.2.1, .string pg.2.2] 33)).alloc (.cells #[.int .i64 1, .string ⟨#[120]⟩, .string pg.2.2, .int .i64 0] 52)) w2.heap.size 33 #[.bool pg.1, .string pg.2.1, .string pg.2.2] := (Blk.new w2 _ _).alloc _
        have hF := blk_second w2 (.cells #[.bool pg.1, .string pg.2.1, .string pg.2.2] 33) #[.int .i64 1, .string ⟨#[120]⟩, .string pg.2.2, .int .i64 0] 52
        have hXl := hX.lt
        have X1 := hX.mem (n1.trans hA)
        have B1 := hbc.mem (n1.trans hA)
        have R1 := hR.mem (n1.trans hA)
        have M1 := hm.trans (n1.trans hA)
        have hBp : Bc < w2.heap.size := by have := n1.size; omega
        clear hX hbc hR hm
        have c0 := X1.cell (j := 0) rfl
        have c1 := X1.cell (j := 1) rfl
        have c2 := X1.cell (j := 2) rfl
        have c3 := X1.cell (j := 3) rfl
        go_wp2_with fail
        generalize hWA : (w2.alloc (.cells #[.bool pg.1, .string pg.2.1, .string pg.2.2] 33)).alloc (.cells #[.int .i64 1, .string ⟨#[120]⟩, .string pg.2.2, .int .i64 0] 52) = WA at *
        generalize w2.heap.size = Bp at *
        clear hWA hA n1
        clear c0 c1 c2 c3
        have hf5 : (((1, ⟨#[120]⟩, pg.2.2, 0) : FateT).2.1).size ≤ maxLen := by show (⟨#[120]⟩ : ByteArray).size ≤ maxLen; decide
        have hf4 : ((1, ⟨#[120]⟩, pg.2.2, 0) : FateT).1 ≠ 2 := (by decide : (1 : Int) ≠ 2)
        have hf2 : (((1, ⟨#[120]⟩, pg.2.2, 0) : FateT).2.2.1).size ≤ maxLen := by show pg.2.2.size ≤ maxLen; unfold maxLen; omega
        obtain ⟨f, hfe⟩ : ∃ f : FateT, (1, ⟨#[120]⟩, pg.2.2, 0) = f := ⟨_, rfl⟩
        rw [hfe] at hf2 hf4 hf5
        have hF : Blk WA (Bp + 1) 52 #[.int .i64 f.1, .string f.2.1, .string f.2.2.1, .int .i64 f.2.2.2] := by rw [← hfe]; exact hF
        clear hfe
        have HI2 := hide HI.out.up
        clear HI
        obtain ⟨bs', rfl⟩ : ∃ x, x = bs := ⟨_, rfl⟩
        obtain ⟨br', rfl⟩ : ∃ x, x = br := ⟨_, rfl⟩
        obtain ⟨off', rfl⟩ : ∃ x, x = off := ⟨_, rfl⟩
        obtain ⟨ops', rfl⟩ : ∃ x, x = ops := ⟨_, rfl⟩
        obtain ⟨o3, rfl⟩ : ∃ x, x = oc := ⟨_, rfl⟩
        obtain ⟨c3, rfl⟩ : ∃ x, x = cc := ⟨_, rfl⟩
        have hb4 := B1
        have X4 := X1
        have R4 := R1
        have P4 := hP
        have F4 := hF
        have M4 := M1
        clear B1 X1 R1 hP hF M1
        generalize WA = W4 at *
        have hlen : bs'.length = N := dims_len HI2.out.1.1.1
        have hbi : bn < bs'.length := by omega
        have hbi' : (bn : Int) < (bs'.length : Int) := by omega
        have hbn0 : (0 : Int) ≤ (bn : Int) := by omega
        clear hlen
        obtain ⟨gc, fc, pc, qc, rfl, j1, j2, k1, j3, j4, j5⟩ := hb4.to.at hbi
        clear j1 j2 j3 j4 j5
        generalize bs'[bn].2.1 = nx at k1
        have HK : Hid (∀ w', Mem W4 w' → w'.cell? ⟨Bc, 0, none⟩ = some (.slice (some ⟨gc, fc, none⟩) bs'.length c3) ∧ w'.cell? ⟨Bc, 1, none⟩ = some (.bool br') ∧ w'.cell? ⟨Bc, 2, none⟩ = some (.bool off') ∧ w'.cell? ⟨Bc, 3, none⟩ = some (.int .i64 ops') ∧ w'.cell? ⟨gc, fc + bn * 4 + 1, none⟩ = some (.int .i64 nx) ∧ w'.cell? ⟨Bp, 0, none⟩ = some (.bool pg.1) ∧ w'.cell? ⟨Bp, 1, none⟩ = some (.string pg.2.1) ∧ w'.cell? ⟨Bp, 2, none⟩ = some (.string pg.2.2) ∧ w'.cell? ⟨Bp + 1, 0, none⟩ = some (.int .i64 f.1) ∧ w'.cell? ⟨Bp + 1, 1, none⟩ = some (.string f.2.1) ∧ w'.cell? ⟨Bp + 1, 2, none⟩ = some (.string f.2.2.1) ∧ w'.cell? ⟨Bp + 1, 3, none⟩ = some (.int .i64 f.2.2.2)) := fun w' h => ⟨(X4.mem h).cell (j := 0) rfl, (X4.mem h).cell (j := 1) rfl, (X4.mem h).cell (j := 2) rfl, (X4.mem h).cell (j := 3) rfl, (Below.cell h (p := ⟨gc, fc + bn * 4 + 1, none⟩) (World.block_lt_of_cell? W4 _ k1)).trans k1, (P4.mem h).cell (j := 0) rfl, (P4.mem h).cell (j := 1) rfl, (P4.mem h).cell (j := 2) rfl, (F4.mem h).cell (j := 0) rfl, (F4.mem h).cell (j := 1) rfl, (F4.mem h).cell (j := 2) rfl, (F4.mem h).cell (j := 3) rfl⟩
        obtain ⟨c0, c1, c2, c3', k1, p0, p1, p2, q0, q1, q2, q3⟩ := HK.out W4 (Mem.refl _)
        have HBF := hide (fun (w' : World) (h : Mem W4 w') => (hb4.mono (S' := fun x => (x ≠ Bc ∧ w.heap.size < x) ∧ x < W4.heap.size) fun x hx hl => ⟨hx, hl⟩).mem h)
        have HFew := hide (few_inv HI2.out.1.1 hN2 hM2)
        have HI3 := hide (invE_prog (c := (bs', br', off', ops')) HI2.out bn nx (pg := pg) (f := f) (by unfold maxLen; omega) hf2 hf4 (by unfold maxLen; omega) hf5)
        have N0 : Hid (Mem W4 W4.drew) := Mem.drew (Mem.refl W4)
        have NZ := hide (((Mem.refl W4).alloc (.cells #[.slice none 0 0, .bool false, .bool false, .int .i64 0] 24)).drew)
        have HZ5 := hide (Blk.new W4 #[.slice none 0 0, .bool false, .bool false, .int .i64 0] 24).drew
        have hX4l := X4.lt
        have HBO := hide (hb4.mono (S' := fun x => (x ≠ Bc ∧ w.heap.size < x) ∧ x < W4.heap.size) fun x hx hl => ⟨hx, hl⟩)
        have HX4 := hide X4
        have HR4 := hide R4
        have HM4 := hide M4
        clear X4 R4 P4 F4 M4 hb4
        go_region_held3 (fun w' => w'.cell? ⟨Bc, 0, none⟩ = some (.slice (some ⟨gc, fc, none⟩) bs'.length c3) ∧ w'.cell? ⟨Bc, 1, none⟩ = some (.bool br') ∧ w'.cell? ⟨Bc, 2, none⟩ = some (.bool off') ∧ w'.cell? ⟨Bc, 3, none⟩ = some (.int .i64 ops') ∧ w'.cell? ⟨gc, fc + bn * 4 + 1, none⟩ = some (.int .i64 nx) ∧ w'.cell? ⟨Bp, 0, none⟩ = some (.bool pg.1) ∧ w'.cell? ⟨Bp, 1, none⟩ = some (.string pg.2.1) ∧ w'.cell? ⟨Bp, 2, none⟩ = some (.string pg.2.2) ∧ w'.cell? ⟨Bp + 1, 0, none⟩ = some (.int .i64 f.1) ∧ w'.cell? ⟨Bp + 1, 1, none⟩ = some (.string f.2.1) ∧ w'.cell? ⟨Bp + 1, 2, none⟩ = some (.string f.2.2.1) ∧ w'.cell? ⟨Bp + 1, 3, none⟩ = some (.int .i64 f.2.2.2))
          (first
            | with_reducible exact HK.out _ (Mem.put4 N2.out (Nat.le_refl _) _ _ _ _)
            | with_reducible exact HK.out _ (Mem.alloc N2.out _)
            | with_reducible exact HK.out _ N2.out
            | with_reducible exact HK.out _ NZ.out
            | with_reducible exact HK.out _ N0.out)
          ((go_at_call 12; refine (progOwn _ _ bs' br' off' ops' bn nx pg f _ (HBF.out _ (by first | with_reducible exact N0.out | with_reducible exact NZ.out)).to HFew.out).mono ?_; rintro e w5 ⟨hr, n3⟩; have N2' : Mem W4 w5 := (by first | (with_reducible exact Mem.trans N0.out n3) | (with_reducible exact Mem.trans NZ.out n3)); have N2 := hide N2'; clear N2'; (try (have Z7 : Blk w5 W4.heap.size 24 #[.slice none 0 0, .bool false, .bool false, .int .i64 0] := (by with_reducible exact HZ5.out.mem n3); have z0 := Z7.cell (j := 0) rfl; have z1 := Z7.cell (j := 1) rfl; have z2 := Z7.cell (j := 2) rfl; have z3 := Z7.cell (j := 3) rfl; have f0 := Z7.frozen 0; have f1 := Z7.frozen 1; have f2 := Z7.frozen 2; have f3 := Z7.frozen 3)); generalize Nand.program (bs', br', off', ops') bn nx pg f = qq at *; obtain ⟨⟨bs5, br5, off5, ops5⟩, en⟩ := qq; obtain ⟨v5, rfl, hb5⟩ := hr; simp only [] at hb5 HI3 ⊢; obtain ⟨o5, c5, rfl⟩ := hb5.shape; have hn3 := n3.size; have HB5 := hide hb5; clear n3 hb5))
        · have hD := Blk.new w5 #[.slice o5 bs5.length c5, .bool br5, .bool off5, .int .i64 ops5] 24
          have mD : Mem w5 (w5.alloc (.cells #[.slice o5 bs5.length c5, .bool br5, .bool off5, .int .i64 ops5] 24)) := (Mem.refl w5).alloc _
          have X5 := HX4.out.mem (N2.out.trans mD)
          have R5 := HR4.out.mem (N2.out.trans mD)
          have M5 := HM4.out.trans (N2.out.trans mD)
          have hbO := ((HBO.out.mem (N2.out.trans mD))).mono (S' := fun x => x ≠ Bc ∧ w.heap.size < x) fun x hx _ => hx.1
          have hn3' : W4.heap.size ≤ w5.heap.size := N2.out.size
          have hbD := ((HB5.out.mono (S' := fun x => x ≠ Bc ∧ w.heap.size < x) fun x hx hl => by rcases hx with hx | hx; exact hx.1; exact ⟨by have : W4.heap.size ≤ x := hx; omega, by have : W4.heap.size ≤ x := hx; omega⟩)).mem mD
          have hDB : Bc < w5.heap.size := by omega
          generalize hWD : w5.alloc (.cells #[.slice o5 bs5.length c5, .bool br5, .bool off5, .int .i64 ops5] 24) = WD at *
          generalize w5.heap.size = DB at *
          clear hWD mD
          clear HX4 HR4 HM4 N2 HBF HBO HB5 HK NZ HZ5 N0 c0 c1 c2 c3' k1 p0 p1 p2 q0 q1 q2 q3 HFew
          have d0 := hD.cell (j := 0) rfl
          have d1 := hD.cell (j := 1) rfl
          have d2 := hD.cell (j := 2) rfl
          have d3 := hD.cell (j := 3) rfl
          have c0 := X5.cell (j := 0) rfl
          have c1 := X5.cell (j := 1) rfl
          have c2 := X5.cell (j := 2) rfl
          have c3' := X5.cell (j := 3) rfl
          have f0 := X5.frozen 0
          have f1 := X5.frozen 1
          have f2 := X5.frozen 2
          have f3 := X5.frozen 3
          have hmk : m ≤ 8 * (k + 1) := by omega
          by_cases hen : en = 1
          · subst hen
            go_wp2_with fail
            go_roundw
            case rel => exact ⟨m, k + 1, _, _, bs', br', off', ops', by omega, ⟨m2, hmk⟩, by go_num, by go_num, X5, hbO, R5, M5, HI2.out⟩
            case measure => simp [intOf]; omega
          · have hen' : (en != 1) = true := by simp [hen]
            have X6 := X5.put4 (.slice o5 bs5.length c5) (.bool br5) (.bool off5) (.int .i64 ops5)
            have R6 := R5.far4 (b' := Bc) (by omega) (.slice o5 bs5.length c5) (.bool br5) (.bool off5) (.int .i64 ops5)
            have M6 := M5.put4 (b := Bc) (by omega) (.slice o5 bs5.length c5) (.bool br5) (.bool off5) (.int .i64 ops5)
            have hb6 := hbD.put4 (b := Bc) (fun h => h.1 rfl) (.slice o5 bs5.length c5) (.bool br5) (.bool off5) (.int .i64 ops5)
            clear hen
            go_wp2_with fail
            go_roundw
            case rel => exact ⟨m, k + 1, o5, c5, bs5, br5, off5, ops5, by omega, ⟨m2, hmk⟩, by go_num, by go_num, X6, hb6, R6, M6, HI3.out⟩
            case measure => simp [intOf]; omega
        · have hl4 : (W4.alloc (.cells #[.slice none 0 0, .bool false, .bool false, .int .i64 0] 24)).drew.heap.size = W4.heap.size + 1 := by show (W4.alloc _).heap.size = _; simp
          rw [hl4] at hn3
          have hD := Z7.put4 (.slice o5 bs5.length c5) (.bool br5) (.bool off5) (.int .i64 ops5)
          have X5 := (HX4.out.mem N2.out).far4 (b' := W4.heap.size) (by omega) (.slice o5 bs5.length c5) (.bool br5) (.bool off5) (.int .i64 ops5)
          have R5 := (HR4.out.mem N2.out).far4 (b' := W4.heap.size) (by omega) (.slice o5 bs5.length c5) (.bool br5) (.bool off5) (.int .i64 ops5)
          have M5 := (HM4.out.trans N2.out).put4 (b := W4.heap.size) (by omega) (.slice o5 bs5.length c5) (.bool br5) (.bool off5) (.int .i64 ops5)
          have hbO := ((HBO.out.mem N2.out).put4 (b := W4.heap.size) (fun h => by have := h.2; omega) (.slice o5 bs5.length c5) (.bool br5) (.bool off5) (.int .i64 ops5)).mono (S' := fun x => x ≠ Bc ∧ w.heap.size < x) fun x hx _ => hx.1
          have hbD := ((HB5.out.mono (S' := fun x => (x ≠ Bc ∧ w.heap.size < x) ∧ x ≠ W4.heap.size) fun x hx hl => by rcases hx with hx | hx; exact ⟨hx.1, by have := hx.2; omega⟩; exact ⟨⟨by omega, by omega⟩, by omega⟩).put4 (b := W4.heap.size) (fun h => h.2 rfl) (.slice o5 bs5.length c5) (.bool br5) (.bool off5) (.int .i64 ops5)).mono (S' := fun x => x ≠ Bc ∧ w.heap.size < x) fun x hx _ => hx.1
          clear z0 z1 z2 z3 f0 f1 f2 f3 Z7 hl4
          generalize hWD : ((((w5.setCell ⟨W4.heap.size, 0, none⟩ (.slice o5 bs5.length c5)).setCell ⟨W4.heap.size, 1, none⟩ (.bool br5)).setCell ⟨W4.heap.size, 2, none⟩ (.bool off5)).setCell ⟨W4.heap.size, 3, none⟩ (.int .i64 ops5)) = WD at *
          have hDB : Bc < W4.heap.size := hX4l
          generalize W4.heap.size = DB at *
          clear hWD
          clear HX4 HR4 HM4 N2 HBF HBO HB5 HK NZ HZ5 N0 c0 c1 c2 c3' k1 p0 p1 p2 q0 q1 q2 q3 HFew
          have d0 := hD.cell (j := 0) rfl
          have d1 := hD.cell (j := 1) rfl
          have d2 := hD.cell (j := 2) rfl
          have d3 := hD.cell (j := 3) rfl
          have c0 := X5.cell (j := 0) rfl
          have c1 := X5.cell (j := 1) rfl
          have c2 := X5.cell (j := 2) rfl
          have c3' := X5.cell (j := 3) rfl
          have f0 := X5.frozen 0
          have f1 := X5.frozen 1
          have f2 := X5.frozen 2
          have f3 := X5.frozen 3
          have hmk : m ≤ 8 * (k + 1) := by omega
          by_cases hen : en = 1
          · subst hen
            go_wp2_with fail
            go_roundw
            case rel => exact ⟨m, k + 1, _, _, bs', br', off', ops', by omega, ⟨m2, hmk⟩, by go_num, by go_num, X5, hbO, R5, M5, HI2.out⟩
            case measure => simp [intOf]; omega
          · have hen' : (en != 1) = true := by simp [hen]
            have X6 := X5.put4 (.slice o5 bs5.length c5) (.bool br5) (.bool off5) (.int .i64 ops5)
            have R6 := R5.far4 (b' := Bc) (by omega) (.slice o5 bs5.length c5) (.bool br5) (.bool off5) (.int .i64 ops5)
            have M6 := M5.put4 (b := Bc) (by omega) (.slice o5 bs5.length c5) (.bool br5) (.bool off5) (.int .i64 ops5)
            have hb6 := hbD.put4 (b := Bc) (fun h => h.1 rfl) (.slice o5 bs5.length c5) (.bool br5) (.bool off5) (.int .i64 ops5)
            clear hen
            go_wp2_with fail
            go_roundw
            case rel => exact ⟨m, k + 1, o5, c5, bs5, br5, off5, ops5, by omega, ⟨m2, hmk⟩, by go_num, by go_num, X6, hb6, R6, M6, HI3.out⟩
            case measure => simp [intOf]; omega
      · have g11 : ((xn : Int) % 11 == 0) = false := by rw [beq_eq_false_iff_ne]; exact h11
        have g29 : ((xn : Int) % 29 == 0) = true := by rw [beq_iff_eq]; exact h29
        clear h11 h29
        have hA : Mem w2 ((w2.alloc (.cells #[.bool pg.1, .string pg.2.1, .string pg.2.2] 33)).alloc (.cells #[.int .i64 0, .string ⟨#[]⟩, .string ⟨#[]⟩, .int .i64 0] 52)) := ((Mem.refl w2).alloc _).alloc _
        have hP : Blk ((w2.alloc (.cells #[.bool pg.1, .string pg.2.1, .string pg.2.2] 33)).alloc (.cells #[.int .i64 0, .string ⟨#[]⟩, .string ⟨#[]⟩, .int .i64 0] 52)) w2.heap.size 33 #[.bool pg.1, .string pg.2.1, .string pg.2.2] := (Blk.new w2 _ _).alloc _
        have hF := blk_second w2 (.cells #[.bool pg.1, .string pg.2.1, .string pg.2.2] 33) #[.int .i64 0, .string ⟨#[]⟩, .string ⟨#[]⟩, .int .i64 0] 52
        have hXl := hX.lt
        have X1 := hX.mem (n1.trans hA)
        have B1 := hbc.mem (n1.trans hA)
        have R1 := hR.mem (n1.trans hA)
        have M1 := hm.trans (n1.trans hA)
        have hBp : Bc < w2.heap.size := by have := n1.size; omega
        clear hX hbc hR hm
        have c0 := X1.cell (j := 0) rfl
        have c1 := X1.cell (j := 1) rfl
        have c2 := X1.cell (j := 2) rfl
        have c3 := X1.cell (j := 3) rfl
        go_wp2_with fail
        generalize hWA : (w2.alloc (.cells #[.bool pg.1, .string pg.2.1, .string pg.2.2] 33)).alloc (.cells #[.int .i64 0, .string ⟨#[]⟩, .string ⟨#[]⟩, .int .i64 0] 52) = WA at *
        generalize w2.heap.size = Bp at *
        clear hWA hA n1
        clear c0 c1 c2 c3
        have hf5 : (((0, ⟨#[]⟩, ⟨#[]⟩, 0) : FateT).2.1).size ≤ maxLen := by show (⟨#[]⟩ : ByteArray).size ≤ maxLen; decide
        have hf4 : ((0, ⟨#[]⟩, ⟨#[]⟩, 0) : FateT).1 ≠ 2 := (by decide : (0 : Int) ≠ 2)
        have hf2 : (((0, ⟨#[]⟩, ⟨#[]⟩, 0) : FateT).2.2.1).size ≤ maxLen := Nat.zero_le _
        obtain ⟨f, hfe⟩ : ∃ f : FateT, (0, ⟨#[]⟩, ⟨#[]⟩, 0) = f := ⟨_, rfl⟩
        rw [hfe] at hf2 hf4 hf5
        have hF : Blk WA (Bp + 1) 52 #[.int .i64 f.1, .string f.2.1, .string f.2.2.1, .int .i64 f.2.2.2] := by rw [← hfe]; exact hF
        clear hfe
        refine (eraseOwn _ _ bs br off ops bn (0, ⟨#[]⟩, ⟨#[]⟩, 0) _ B1.to (few_inv HI.out.1.1 hN2 hM2)).mono ?_
        rintro e w3 ⟨hr, n2⟩
        have HI2 := hide (invE_erase (c := (bs, br, off, ops)) HI.out bn (by omega))
        clear HI
        generalize erase (bs, br, off, ops) bn (0, ⟨#[]⟩, ⟨#[]⟩, 0) = q at *
        obtain ⟨⟨bs', br', off', ops'⟩, en⟩ := q
        obtain ⟨v3, rfl, hb3⟩ := hr
        simp only [] at hb3 HI2 ⊢
        obtain ⟨o3, c3, rfl⟩ := hb3.shape
        have Z := X1.mem n2
        have z0 := Z.cell (j := 0) rfl
        have z1 := Z.cell (j := 1) rfl
        have z2 := Z.cell (j := 2) rfl
        have z3 := Z.cell (j := 3) rfl
        have f0 := Z.frozen 0
        have f1 := Z.frozen 1
        have f2 := Z.frozen 2
        have f3 := Z.frozen 3
        have hWl := hF.lt
        have hb4 := (hb3.mono (S' := fun x => x ≠ Bc ∧ w.heap.size < x) fun g hg _ => by rcases hg with h | h; exact h; omega).put4 (b := Bc) (fun h => h.1 rfl) (.slice o3 bs'.length c3) (.bool br') (.bool off') (.int .i64 ops')
        have X4 := Z.put4 (.slice o3 bs'.length c3) (.bool br') (.bool off') (.int .i64 ops')
        have R4 := (R1.mem n2).far4 (b' := Bc) (by omega) (.slice o3 bs'.length c3) (.bool br') (.bool off') (.int .i64 ops')
        have P4 := (hP.mem n2).far4 (b' := Bc) (by omega) (.slice o3 bs'.length c3) (.bool br') (.bool off') (.int .i64 ops')
        have F4 := (hF.mem n2).far4 (b' := Bc) (by omega) (.slice o3 bs'.length c3) (.bool br') (.bool off') (.int .i64 ops')
        have M4 := (M1.trans n2).put4 (b := Bc) (by omega) (.slice o3 bs'.length c3) (.bool br') (.bool off') (.int .i64 ops')
        go_wp2_with fail
        generalize hW4 : ((((w3.setCell ⟨Bc, 0, none⟩ (.slice o3 bs'.length c3)).setCell ⟨Bc, 1, none⟩ (.bool br')).setCell ⟨Bc, 2, none⟩ (.bool off')).setCell ⟨Bc, 3, none⟩ (.int .i64 ops')) = W4 at *
        clear hW4 z0 z1 z2 z3 f0 f1 f2 f3 Z hb3 n2 X1 B1 R1 M1 hP hF hWl
        have hlen : bs'.length = N := dims_len HI2.out.1.1.1
        have hbi : bn < bs'.length := by omega
        have hbi' : (bn : Int) < (bs'.length : Int) := by omega
        have hbn0 : (0 : Int) ≤ (bn : Int) := by omega
        clear hlen
        obtain ⟨gc, fc, pc, qc, rfl, j1, j2, k1, j3, j4, j5⟩ := hb4.to.at hbi
        clear j1 j2 j3 j4 j5
        generalize bs'[bn].2.1 = nx at k1
        have HK : Hid (∀ w', Mem W4 w' → w'.cell? ⟨Bc, 0, none⟩ = some (.slice (some ⟨gc, fc, none⟩) bs'.length c3) ∧ w'.cell? ⟨Bc, 1, none⟩ = some (.bool br') ∧ w'.cell? ⟨Bc, 2, none⟩ = some (.bool off') ∧ w'.cell? ⟨Bc, 3, none⟩ = some (.int .i64 ops') ∧ w'.cell? ⟨gc, fc + bn * 4 + 1, none⟩ = some (.int .i64 nx) ∧ w'.cell? ⟨Bp, 0, none⟩ = some (.bool pg.1) ∧ w'.cell? ⟨Bp, 1, none⟩ = some (.string pg.2.1) ∧ w'.cell? ⟨Bp, 2, none⟩ = some (.string pg.2.2) ∧ w'.cell? ⟨Bp + 1, 0, none⟩ = some (.int .i64 f.1) ∧ w'.cell? ⟨Bp + 1, 1, none⟩ = some (.string f.2.1) ∧ w'.cell? ⟨Bp + 1, 2, none⟩ = some (.string f.2.2.1) ∧ w'.cell? ⟨Bp + 1, 3, none⟩ = some (.int .i64 f.2.2.2)) := fun w' h => ⟨(X4.mem h).cell (j := 0) rfl, (X4.mem h).cell (j := 1) rfl, (X4.mem h).cell (j := 2) rfl, (X4.mem h).cell (j := 3) rfl, (Below.cell h (p := ⟨gc, fc + bn * 4 + 1, none⟩) (World.block_lt_of_cell? W4 _ k1)).trans k1, (P4.mem h).cell (j := 0) rfl, (P4.mem h).cell (j := 1) rfl, (P4.mem h).cell (j := 2) rfl, (F4.mem h).cell (j := 0) rfl, (F4.mem h).cell (j := 1) rfl, (F4.mem h).cell (j := 2) rfl, (F4.mem h).cell (j := 3) rfl⟩
        obtain ⟨c0, c1, c2, c3', k1, p0, p1, p2, q0, q1, q2, q3⟩ := HK.out W4 (Mem.refl _)
        have HBF := hide (fun (w' : World) (h : Mem W4 w') => (hb4.mono (S' := fun x => (x ≠ Bc ∧ w.heap.size < x) ∧ x < W4.heap.size) fun x hx hl => ⟨hx, hl⟩).mem h)
        have HFew := hide (few_inv HI2.out.1.1 hN2 hM2)
        have HI3 := hide (invE_prog (c := (bs', br', off', ops')) HI2.out bn nx (pg := pg) (f := f) (by unfold maxLen; omega) hf2 hf4 (by unfold maxLen; omega) hf5)
        have N0 : Hid (Mem W4 W4.drew) := Mem.drew (Mem.refl W4)
        have NZ := hide (((Mem.refl W4).alloc (.cells #[.slice none 0 0, .bool false, .bool false, .int .i64 0] 24)).drew)
        have HZ5 := hide (Blk.new W4 #[.slice none 0 0, .bool false, .bool false, .int .i64 0] 24).drew
        have hX4l := X4.lt
        have HBO := hide (hb4.mono (S' := fun x => (x ≠ Bc ∧ w.heap.size < x) ∧ x < W4.heap.size) fun x hx hl => ⟨hx, hl⟩)
        have HX4 := hide X4
        have HR4 := hide R4
        have HM4 := hide M4
        clear X4 R4 P4 F4 M4 hb4
        go_region_held3 (fun w' => w'.cell? ⟨Bc, 0, none⟩ = some (.slice (some ⟨gc, fc, none⟩) bs'.length c3) ∧ w'.cell? ⟨Bc, 1, none⟩ = some (.bool br') ∧ w'.cell? ⟨Bc, 2, none⟩ = some (.bool off') ∧ w'.cell? ⟨Bc, 3, none⟩ = some (.int .i64 ops') ∧ w'.cell? ⟨gc, fc + bn * 4 + 1, none⟩ = some (.int .i64 nx) ∧ w'.cell? ⟨Bp, 0, none⟩ = some (.bool pg.1) ∧ w'.cell? ⟨Bp, 1, none⟩ = some (.string pg.2.1) ∧ w'.cell? ⟨Bp, 2, none⟩ = some (.string pg.2.2) ∧ w'.cell? ⟨Bp + 1, 0, none⟩ = some (.int .i64 f.1) ∧ w'.cell? ⟨Bp + 1, 1, none⟩ = some (.string f.2.1) ∧ w'.cell? ⟨Bp + 1, 2, none⟩ = some (.string f.2.2.1) ∧ w'.cell? ⟨Bp + 1, 3, none⟩ = some (.int .i64 f.2.2.2))
          (first
            | with_reducible exact HK.out _ (Mem.put4 N2.out (Nat.le_refl _) _ _ _ _)
            | with_reducible exact HK.out _ (Mem.alloc N2.out _)
            | with_reducible exact HK.out _ N2.out
            | with_reducible exact HK.out _ NZ.out
            | with_reducible exact HK.out _ N0.out)
          ((go_at_call 12; refine (progOwn _ _ bs' br' off' ops' bn nx pg f _ (HBF.out _ (by first | with_reducible exact N0.out | with_reducible exact NZ.out)).to HFew.out).mono ?_; rintro e w5 ⟨hr, n3⟩; have N2' : Mem W4 w5 := (by first | (with_reducible exact Mem.trans N0.out n3) | (with_reducible exact Mem.trans NZ.out n3)); have N2 := hide N2'; clear N2'; (try (have Z7 : Blk w5 W4.heap.size 24 #[.slice none 0 0, .bool false, .bool false, .int .i64 0] := (by with_reducible exact HZ5.out.mem n3); have z0 := Z7.cell (j := 0) rfl; have z1 := Z7.cell (j := 1) rfl; have z2 := Z7.cell (j := 2) rfl; have z3 := Z7.cell (j := 3) rfl; have f0 := Z7.frozen 0; have f1 := Z7.frozen 1; have f2 := Z7.frozen 2; have f3 := Z7.frozen 3)); generalize Nand.program (bs', br', off', ops') bn nx pg f = qq at *; obtain ⟨⟨bs5, br5, off5, ops5⟩, en⟩ := qq; obtain ⟨v5, rfl, hb5⟩ := hr; simp only [] at hb5 HI3 ⊢; obtain ⟨o5, c5, rfl⟩ := hb5.shape; have hn3 := n3.size; have HB5 := hide hb5; clear n3 hb5))
        · have hD := Blk.new w5 #[.slice o5 bs5.length c5, .bool br5, .bool off5, .int .i64 ops5] 24
          have mD : Mem w5 (w5.alloc (.cells #[.slice o5 bs5.length c5, .bool br5, .bool off5, .int .i64 ops5] 24)) := (Mem.refl w5).alloc _
          have X5 := HX4.out.mem (N2.out.trans mD)
          have R5 := HR4.out.mem (N2.out.trans mD)
          have M5 := HM4.out.trans (N2.out.trans mD)
          have hbO := ((HBO.out.mem (N2.out.trans mD))).mono (S' := fun x => x ≠ Bc ∧ w.heap.size < x) fun x hx _ => hx.1
          have hn3' : W4.heap.size ≤ w5.heap.size := N2.out.size
          have hbD := ((HB5.out.mono (S' := fun x => x ≠ Bc ∧ w.heap.size < x) fun x hx hl => by rcases hx with hx | hx; exact hx.1; exact ⟨by have : W4.heap.size ≤ x := hx; omega, by have : W4.heap.size ≤ x := hx; omega⟩)).mem mD
          have hDB : Bc < w5.heap.size := by omega
          generalize hWD : w5.alloc (.cells #[.slice o5 bs5.length c5, .bool br5, .bool off5, .int .i64 ops5] 24) = WD at *
          generalize w5.heap.size = DB at *
          clear hWD mD
          clear HX4 HR4 HM4 N2 HBF HBO HB5 HK NZ HZ5 N0 c0 c1 c2 c3' k1 p0 p1 p2 q0 q1 q2 q3 HFew
          have d0 := hD.cell (j := 0) rfl
          have d1 := hD.cell (j := 1) rfl
          have d2 := hD.cell (j := 2) rfl
          have d3 := hD.cell (j := 3) rfl
          have c0 := X5.cell (j := 0) rfl
          have c1 := X5.cell (j := 1) rfl
          have c2 := X5.cell (j := 2) rfl
          have c3' := X5.cell (j := 3) rfl
          have f0 := X5.frozen 0
          have f1 := X5.frozen 1
          have f2 := X5.frozen 2
          have f3 := X5.frozen 3
          have hmk : m ≤ 8 * (k + 1) := by omega
          by_cases hen : en = 1
          · subst hen
            go_wp2_with fail
            go_roundw
            case rel => exact ⟨m, k + 1, _, _, bs', br', off', ops', by omega, ⟨m2, hmk⟩, by go_num, by go_num, X5, hbO, R5, M5, HI2.out⟩
            case measure => simp [intOf]; omega
          · have hen' : (en != 1) = true := by simp [hen]
            have X6 := X5.put4 (.slice o5 bs5.length c5) (.bool br5) (.bool off5) (.int .i64 ops5)
            have R6 := R5.far4 (b' := Bc) (by omega) (.slice o5 bs5.length c5) (.bool br5) (.bool off5) (.int .i64 ops5)
            have M6 := M5.put4 (b := Bc) (by omega) (.slice o5 bs5.length c5) (.bool br5) (.bool off5) (.int .i64 ops5)
            have hb6 := hbD.put4 (b := Bc) (fun h => h.1 rfl) (.slice o5 bs5.length c5) (.bool br5) (.bool off5) (.int .i64 ops5)
            clear hen
            go_wp2_with fail
            go_roundw
            case rel => exact ⟨m, k + 1, o5, c5, bs5, br5, off5, ops5, by omega, ⟨m2, hmk⟩, by go_num, by go_num, X6, hb6, R6, M6, HI3.out⟩
            case measure => simp [intOf]; omega
        · have hl4 : (W4.alloc (.cells #[.slice none 0 0, .bool false, .bool false, .int .i64 0] 24)).drew.heap.size = W4.heap.size + 1 := by show (W4.alloc _).heap.size = _; simp
          rw [hl4] at hn3
          have hD := Z7.put4 (.slice o5 bs5.length c5) (.bool br5) (.bool off5) (.int .i64 ops5)
          have X5 := (HX4.out.mem N2.out).far4 (b' := W4.heap.size) (by omega) (.slice o5 bs5.length c5) (.bool br5) (.bool off5) (.int .i64 ops5)
          have R5 := (HR4.out.mem N2.out).far4 (b' := W4.heap.size) (by omega) (.slice o5 bs5.length c5) (.bool br5) (.bool off5) (.int .i64 ops5)
          have M5 := (HM4.out.trans N2.out).put4 (b := W4.heap.size) (by omega) (.slice o5 bs5.length c5) (.bool br5) (.bool off5) (.int .i64 ops5)
          have hbO := ((HBO.out.mem N2.out).put4 (b := W4.heap.size) (fun h => by have := h.2; omega) (.slice o5 bs5.length c5) (.bool br5) (.bool off5) (.int .i64 ops5)).mono (S' := fun x => x ≠ Bc ∧ w.heap.size < x) fun x hx _ => hx.1
          have hbD := ((HB5.out.mono (S' := fun x => (x ≠ Bc ∧ w.heap.size < x) ∧ x ≠ W4.heap.size) fun x hx hl => by rcases hx with hx | hx; exact ⟨hx.1, by have := hx.2; omega⟩; exact ⟨⟨by omega, by omega⟩, by omega⟩).put4 (b := W4.heap.size) (fun h => h.2 rfl) (.slice o5 bs5.length c5) (.bool br5) (.bool off5) (.int .i64 ops5)).mono (S' := fun x => x ≠ Bc ∧ w.heap.size < x) fun x hx _ => hx.1
          clear z0 z1 z2 z3 f0 f1 f2 f3 Z7 hl4
          generalize hWD : ((((w5.setCell ⟨W4.heap.size, 0, none⟩ (.slice o5 bs5.length c5)).setCell ⟨W4.heap.size, 1, none⟩ (.bool br5)).setCell ⟨W4.heap.size, 2, none⟩ (.bool off5)).setCell ⟨W4.heap.size, 3, none⟩ (.int .i64 ops5)) = WD at *
          have hDB : Bc < W4.heap.size := hX4l
          generalize W4.heap.size = DB at *
          clear hWD
          clear HX4 HR4 HM4 N2 HBF HBO HB5 HK NZ HZ5 N0 c0 c1 c2 c3' k1 p0 p1 p2 q0 q1 q2 q3 HFew
          have d0 := hD.cell (j := 0) rfl
          have d1 := hD.cell (j := 1) rfl
          have d2 := hD.cell (j := 2) rfl
          have d3 := hD.cell (j := 3) rfl
          have c0 := X5.cell (j := 0) rfl
          have c1 := X5.cell (j := 1) rfl
          have c2 := X5.cell (j := 2) rfl
          have c3' := X5.cell (j := 3) rfl
          have f0 := X5.frozen 0
          have f1 := X5.frozen 1
          have f2 := X5.frozen 2
          have f3 := X5.frozen 3
          have hmk : m ≤ 8 * (k + 1) := by omega
          by_cases hen : en = 1
          · subst hen
            go_wp2_with fail
            go_roundw
            case rel => exact ⟨m, k + 1, _, _, bs', br', off', ops', by omega, ⟨m2, hmk⟩, by go_num, by go_num, X5, hbO, R5, M5, HI2.out⟩
            case measure => simp [intOf]; omega
          · have hen' : (en != 1) = true := by simp [hen]
            have X6 := X5.put4 (.slice o5 bs5.length c5) (.bool br5) (.bool off5) (.int .i64 ops5)
            have R6 := R5.far4 (b' := Bc) (by omega) (.slice o5 bs5.length c5) (.bool br5) (.bool off5) (.int .i64 ops5)
            have M6 := M5.put4 (b := Bc) (by omega) (.slice o5 bs5.length c5) (.bool br5) (.bool off5) (.int .i64 ops5)
            have hb6 := hbD.put4 (b := Bc) (fun h => h.1 rfl) (.slice o5 bs5.length c5) (.bool br5) (.bool off5) (.int .i64 ops5)
            clear hen
            go_wp2_with fail
            go_roundw
            case rel => exact ⟨m, k + 1, o5, c5, bs5, br5, off5, ops5, by omega, ⟨m2, hmk⟩, by go_num, by go_num, X6, hb6, R6, M6, HI3.out⟩
            case measure => simp [intOf]; omega
      · have g11 : ((xn : Int) % 11 == 0) = false := by rw [beq_eq_false_iff_ne]; exact h11
        have g29 : ((xn : Int) % 29 == 0) = false := by rw [beq_eq_false_iff_ne]; exact h29
        clear h11 h29
        have hA : Mem w2 ((w2.alloc (.cells #[.bool pg.1, .string pg.2.1, .string pg.2.2] 33)).alloc (.cells #[.int .i64 0, .string ⟨#[]⟩, .string ⟨#[]⟩, .int .i64 0] 52)) := ((Mem.refl w2).alloc _).alloc _
        have hP : Blk ((w2.alloc (.cells #[.bool pg.1, .string pg.2.1, .string pg.2.2] 33)).alloc (.cells #[.int .i64 0, .string ⟨#[]⟩, .string ⟨#[]⟩, .int .i64 0] 52)) w2.heap.size 33 #[.bool pg.1, .string pg.2.1, .string pg.2.2] := (Blk.new w2 _ _).alloc _
        have hF := blk_second w2 (.cells #[.bool pg.1, .string pg.2.1, .string pg.2.2] 33) #[.int .i64 0, .string ⟨#[]⟩, .string ⟨#[]⟩, .int .i64 0] 52
        have hXl := hX.lt
        have X1 := hX.mem (n1.trans hA)
        have B1 := hbc.mem (n1.trans hA)
        have R1 := hR.mem (n1.trans hA)
        have M1 := hm.trans (n1.trans hA)
        have hBp : Bc < w2.heap.size := by have := n1.size; omega
        clear hX hbc hR hm
        have c0 := X1.cell (j := 0) rfl
        have c1 := X1.cell (j := 1) rfl
        have c2 := X1.cell (j := 2) rfl
        have c3 := X1.cell (j := 3) rfl
        go_wp2_with fail
        generalize hWA : (w2.alloc (.cells #[.bool pg.1, .string pg.2.1, .string pg.2.2] 33)).alloc (.cells #[.int .i64 0, .string ⟨#[]⟩, .string ⟨#[]⟩, .int .i64 0] 52) = WA at *
        generalize w2.heap.size = Bp at *
        clear hWA hA n1
        clear c0 c1 c2 c3
        have hf5 : (((0, ⟨#[]⟩, ⟨#[]⟩, 0) : FateT).2.1).size ≤ maxLen := by show (⟨#[]⟩ : ByteArray).size ≤ maxLen; decide
        have hf4 : ((0, ⟨#[]⟩, ⟨#[]⟩, 0) : FateT).1 ≠ 2 := (by decide : (0 : Int) ≠ 2)
        have hf2 : (((0, ⟨#[]⟩, ⟨#[]⟩, 0) : FateT).2.2.1).size ≤ maxLen := Nat.zero_le _
        obtain ⟨f, hfe⟩ : ∃ f : FateT, (0, ⟨#[]⟩, ⟨#[]⟩, 0) = f := ⟨_, rfl⟩
        rw [hfe] at hf2 hf4 hf5
        have hF : Blk WA (Bp + 1) 52 #[.int .i64 f.1, .string f.2.1, .string f.2.2.1, .int .i64 f.2.2.2] := by rw [← hfe]; exact hF
        clear hfe
        have HI2 := hide HI.out.up
        clear HI
        obtain ⟨bs', rfl⟩ : ∃ x, x = bs := ⟨_, rfl⟩
        obtain ⟨br', rfl⟩ : ∃ x, x = br := ⟨_, rfl⟩
        obtain ⟨off', rfl⟩ : ∃ x, x = off := ⟨_, rfl⟩
        obtain ⟨ops', rfl⟩ : ∃ x, x = ops := ⟨_, rfl⟩
        obtain ⟨o3, rfl⟩ : ∃ x, x = oc := ⟨_, rfl⟩
        obtain ⟨c3, rfl⟩ : ∃ x, x = cc := ⟨_, rfl⟩
        have hb4 := B1
        have X4 := X1
        have R4 := R1
        have P4 := hP
        have F4 := hF
        have M4 := M1
        clear B1 X1 R1 hP hF M1
        generalize WA = W4 at *
        have hlen : bs'.length = N := dims_len HI2.out.1.1.1
        have hbi : bn < bs'.length := by omega
        have hbi' : (bn : Int) < (bs'.length : Int) := by omega
        have hbn0 : (0 : Int) ≤ (bn : Int) := by omega
        clear hlen
        obtain ⟨gc, fc, pc, qc, rfl, j1, j2, k1, j3, j4, j5⟩ := hb4.to.at hbi
        clear j1 j2 j3 j4 j5
        generalize bs'[bn].2.1 = nx at k1
        have HK : Hid (∀ w', Mem W4 w' → w'.cell? ⟨Bc, 0, none⟩ = some (.slice (some ⟨gc, fc, none⟩) bs'.length c3) ∧ w'.cell? ⟨Bc, 1, none⟩ = some (.bool br') ∧ w'.cell? ⟨Bc, 2, none⟩ = some (.bool off') ∧ w'.cell? ⟨Bc, 3, none⟩ = some (.int .i64 ops') ∧ w'.cell? ⟨gc, fc + bn * 4 + 1, none⟩ = some (.int .i64 nx) ∧ w'.cell? ⟨Bp, 0, none⟩ = some (.bool pg.1) ∧ w'.cell? ⟨Bp, 1, none⟩ = some (.string pg.2.1) ∧ w'.cell? ⟨Bp, 2, none⟩ = some (.string pg.2.2) ∧ w'.cell? ⟨Bp + 1, 0, none⟩ = some (.int .i64 f.1) ∧ w'.cell? ⟨Bp + 1, 1, none⟩ = some (.string f.2.1) ∧ w'.cell? ⟨Bp + 1, 2, none⟩ = some (.string f.2.2.1) ∧ w'.cell? ⟨Bp + 1, 3, none⟩ = some (.int .i64 f.2.2.2)) := fun w' h => ⟨(X4.mem h).cell (j := 0) rfl, (X4.mem h).cell (j := 1) rfl, (X4.mem h).cell (j := 2) rfl, (X4.mem h).cell (j := 3) rfl, (Below.cell h (p := ⟨gc, fc + bn * 4 + 1, none⟩) (World.block_lt_of_cell? W4 _ k1)).trans k1, (P4.mem h).cell (j := 0) rfl, (P4.mem h).cell (j := 1) rfl, (P4.mem h).cell (j := 2) rfl, (F4.mem h).cell (j := 0) rfl, (F4.mem h).cell (j := 1) rfl, (F4.mem h).cell (j := 2) rfl, (F4.mem h).cell (j := 3) rfl⟩
        obtain ⟨c0, c1, c2, c3', k1, p0, p1, p2, q0, q1, q2, q3⟩ := HK.out W4 (Mem.refl _)
        have HBF := hide (fun (w' : World) (h : Mem W4 w') => (hb4.mono (S' := fun x => (x ≠ Bc ∧ w.heap.size < x) ∧ x < W4.heap.size) fun x hx hl => ⟨hx, hl⟩).mem h)
        have HFew := hide (few_inv HI2.out.1.1 hN2 hM2)
        have HI3 := hide (invE_prog (c := (bs', br', off', ops')) HI2.out bn nx (pg := pg) (f := f) (by unfold maxLen; omega) hf2 hf4 (by unfold maxLen; omega) hf5)
        have N0 : Hid (Mem W4 W4.drew) := Mem.drew (Mem.refl W4)
        have NZ := hide (((Mem.refl W4).alloc (.cells #[.slice none 0 0, .bool false, .bool false, .int .i64 0] 24)).drew)
        have HZ5 := hide (Blk.new W4 #[.slice none 0 0, .bool false, .bool false, .int .i64 0] 24).drew
        have hX4l := X4.lt
        have HBO := hide (hb4.mono (S' := fun x => (x ≠ Bc ∧ w.heap.size < x) ∧ x < W4.heap.size) fun x hx hl => ⟨hx, hl⟩)
        have HX4 := hide X4
        have HR4 := hide R4
        have HM4 := hide M4
        clear X4 R4 P4 F4 M4 hb4
        go_region_held3 (fun w' => w'.cell? ⟨Bc, 0, none⟩ = some (.slice (some ⟨gc, fc, none⟩) bs'.length c3) ∧ w'.cell? ⟨Bc, 1, none⟩ = some (.bool br') ∧ w'.cell? ⟨Bc, 2, none⟩ = some (.bool off') ∧ w'.cell? ⟨Bc, 3, none⟩ = some (.int .i64 ops') ∧ w'.cell? ⟨gc, fc + bn * 4 + 1, none⟩ = some (.int .i64 nx) ∧ w'.cell? ⟨Bp, 0, none⟩ = some (.bool pg.1) ∧ w'.cell? ⟨Bp, 1, none⟩ = some (.string pg.2.1) ∧ w'.cell? ⟨Bp, 2, none⟩ = some (.string pg.2.2) ∧ w'.cell? ⟨Bp + 1, 0, none⟩ = some (.int .i64 f.1) ∧ w'.cell? ⟨Bp + 1, 1, none⟩ = some (.string f.2.1) ∧ w'.cell? ⟨Bp + 1, 2, none⟩ = some (.string f.2.2.1) ∧ w'.cell? ⟨Bp + 1, 3, none⟩ = some (.int .i64 f.2.2.2))
          (first
            | with_reducible exact HK.out _ (Mem.put4 N2.out (Nat.le_refl _) _ _ _ _)
            | with_reducible exact HK.out _ (Mem.alloc N2.out _)
            | with_reducible exact HK.out _ N2.out
            | with_reducible exact HK.out _ NZ.out
            | with_reducible exact HK.out _ N0.out)
          ((go_at_call 12; refine (progOwn _ _ bs' br' off' ops' bn nx pg f _ (HBF.out _ (by first | with_reducible exact N0.out | with_reducible exact NZ.out)).to HFew.out).mono ?_; rintro e w5 ⟨hr, n3⟩; have N2' : Mem W4 w5 := (by first | (with_reducible exact Mem.trans N0.out n3) | (with_reducible exact Mem.trans NZ.out n3)); have N2 := hide N2'; clear N2'; (try (have Z7 : Blk w5 W4.heap.size 24 #[.slice none 0 0, .bool false, .bool false, .int .i64 0] := (by with_reducible exact HZ5.out.mem n3); have z0 := Z7.cell (j := 0) rfl; have z1 := Z7.cell (j := 1) rfl; have z2 := Z7.cell (j := 2) rfl; have z3 := Z7.cell (j := 3) rfl; have f0 := Z7.frozen 0; have f1 := Z7.frozen 1; have f2 := Z7.frozen 2; have f3 := Z7.frozen 3)); generalize Nand.program (bs', br', off', ops') bn nx pg f = qq at *; obtain ⟨⟨bs5, br5, off5, ops5⟩, en⟩ := qq; obtain ⟨v5, rfl, hb5⟩ := hr; simp only [] at hb5 HI3 ⊢; obtain ⟨o5, c5, rfl⟩ := hb5.shape; have hn3 := n3.size; have HB5 := hide hb5; clear n3 hb5))
        · have hD := Blk.new w5 #[.slice o5 bs5.length c5, .bool br5, .bool off5, .int .i64 ops5] 24
          have mD : Mem w5 (w5.alloc (.cells #[.slice o5 bs5.length c5, .bool br5, .bool off5, .int .i64 ops5] 24)) := (Mem.refl w5).alloc _
          have X5 := HX4.out.mem (N2.out.trans mD)
          have R5 := HR4.out.mem (N2.out.trans mD)
          have M5 := HM4.out.trans (N2.out.trans mD)
          have hbO := ((HBO.out.mem (N2.out.trans mD))).mono (S' := fun x => x ≠ Bc ∧ w.heap.size < x) fun x hx _ => hx.1
          have hn3' : W4.heap.size ≤ w5.heap.size := N2.out.size
          have hbD := ((HB5.out.mono (S' := fun x => x ≠ Bc ∧ w.heap.size < x) fun x hx hl => by rcases hx with hx | hx; exact hx.1; exact ⟨by have : W4.heap.size ≤ x := hx; omega, by have : W4.heap.size ≤ x := hx; omega⟩)).mem mD
          have hDB : Bc < w5.heap.size := by omega
          generalize hWD : w5.alloc (.cells #[.slice o5 bs5.length c5, .bool br5, .bool off5, .int .i64 ops5] 24) = WD at *
          generalize w5.heap.size = DB at *
          clear hWD mD
          clear HX4 HR4 HM4 N2 HBF HBO HB5 HK NZ HZ5 N0 c0 c1 c2 c3' k1 p0 p1 p2 q0 q1 q2 q3 HFew
          have d0 := hD.cell (j := 0) rfl
          have d1 := hD.cell (j := 1) rfl
          have d2 := hD.cell (j := 2) rfl
          have d3 := hD.cell (j := 3) rfl
          have c0 := X5.cell (j := 0) rfl
          have c1 := X5.cell (j := 1) rfl
          have c2 := X5.cell (j := 2) rfl
          have c3' := X5.cell (j := 3) rfl
          have f0 := X5.frozen 0
          have f1 := X5.frozen 1
          have f2 := X5.frozen 2
          have f3 := X5.frozen 3
          have hmk : m ≤ 8 * (k + 1) := by omega
          by_cases hen : en = 1
          · subst hen
            go_wp2_with fail
            go_roundw
            case rel => exact ⟨m, k + 1, _, _, bs', br', off', ops', by omega, ⟨m2, hmk⟩, by go_num, by go_num, X5, hbO, R5, M5, HI2.out⟩
            case measure => simp [intOf]; omega
          · have hen' : (en != 1) = true := by simp [hen]
            have X6 := X5.put4 (.slice o5 bs5.length c5) (.bool br5) (.bool off5) (.int .i64 ops5)
            have R6 := R5.far4 (b' := Bc) (by omega) (.slice o5 bs5.length c5) (.bool br5) (.bool off5) (.int .i64 ops5)
            have M6 := M5.put4 (b := Bc) (by omega) (.slice o5 bs5.length c5) (.bool br5) (.bool off5) (.int .i64 ops5)
            have hb6 := hbD.put4 (b := Bc) (fun h => h.1 rfl) (.slice o5 bs5.length c5) (.bool br5) (.bool off5) (.int .i64 ops5)
            clear hen
            go_wp2_with fail
            go_roundw
            case rel => exact ⟨m, k + 1, o5, c5, bs5, br5, off5, ops5, by omega, ⟨m2, hmk⟩, by go_num, by go_num, X6, hb6, R6, M6, HI3.out⟩
            case measure => simp [intOf]; omega
        · have hl4 : (W4.alloc (.cells #[.slice none 0 0, .bool false, .bool false, .int .i64 0] 24)).drew.heap.size = W4.heap.size + 1 := by show (W4.alloc _).heap.size = _; simp
          rw [hl4] at hn3
          have hD := Z7.put4 (.slice o5 bs5.length c5) (.bool br5) (.bool off5) (.int .i64 ops5)
          have X5 := (HX4.out.mem N2.out).far4 (b' := W4.heap.size) (by omega) (.slice o5 bs5.length c5) (.bool br5) (.bool off5) (.int .i64 ops5)
          have R5 := (HR4.out.mem N2.out).far4 (b' := W4.heap.size) (by omega) (.slice o5 bs5.length c5) (.bool br5) (.bool off5) (.int .i64 ops5)
          have M5 := (HM4.out.trans N2.out).put4 (b := W4.heap.size) (by omega) (.slice o5 bs5.length c5) (.bool br5) (.bool off5) (.int .i64 ops5)
          have hbO := ((HBO.out.mem N2.out).put4 (b := W4.heap.size) (fun h => by have := h.2; omega) (.slice o5 bs5.length c5) (.bool br5) (.bool off5) (.int .i64 ops5)).mono (S' := fun x => x ≠ Bc ∧ w.heap.size < x) fun x hx _ => hx.1
          have hbD := ((HB5.out.mono (S' := fun x => (x ≠ Bc ∧ w.heap.size < x) ∧ x ≠ W4.heap.size) fun x hx hl => by rcases hx with hx | hx; exact ⟨hx.1, by have := hx.2; omega⟩; exact ⟨⟨by omega, by omega⟩, by omega⟩).put4 (b := W4.heap.size) (fun h => h.2 rfl) (.slice o5 bs5.length c5) (.bool br5) (.bool off5) (.int .i64 ops5)).mono (S' := fun x => x ≠ Bc ∧ w.heap.size < x) fun x hx _ => hx.1
          clear z0 z1 z2 z3 f0 f1 f2 f3 Z7 hl4
          generalize hWD : ((((w5.setCell ⟨W4.heap.size, 0, none⟩ (.slice o5 bs5.length c5)).setCell ⟨W4.heap.size, 1, none⟩ (.bool br5)).setCell ⟨W4.heap.size, 2, none⟩ (.bool off5)).setCell ⟨W4.heap.size, 3, none⟩ (.int .i64 ops5)) = WD at *
          have hDB : Bc < W4.heap.size := hX4l
          generalize W4.heap.size = DB at *
          clear hWD
          clear HX4 HR4 HM4 N2 HBF HBO HB5 HK NZ HZ5 N0 c0 c1 c2 c3' k1 p0 p1 p2 q0 q1 q2 q3 HFew
          have d0 := hD.cell (j := 0) rfl
          have d1 := hD.cell (j := 1) rfl
          have d2 := hD.cell (j := 2) rfl
          have d3 := hD.cell (j := 3) rfl
          have c0 := X5.cell (j := 0) rfl
          have c1 := X5.cell (j := 1) rfl
          have c2 := X5.cell (j := 2) rfl
          have c3' := X5.cell (j := 3) rfl
          have f0 := X5.frozen 0
          have f1 := X5.frozen 1
          have f2 := X5.frozen 2
          have f3 := X5.frozen 3
          have hmk : m ≤ 8 * (k + 1) := by omega
          by_cases hen : en = 1
          · subst hen
            go_wp2_with fail
            go_roundw
            case rel => exact ⟨m, k + 1, _, _, bs', br', off', ops', by omega, ⟨m2, hmk⟩, by go_num, by go_num, X5, hbO, R5, M5, HI2.out⟩
            case measure => simp [intOf]; omega
          · have hen' : (en != 1) = true := by simp [hen]
            have X6 := X5.put4 (.slice o5 bs5.length c5) (.bool br5) (.bool off5) (.int .i64 ops5)
            have R6 := R5.far4 (b' := Bc) (by omega) (.slice o5 bs5.length c5) (.bool br5) (.bool off5) (.int .i64 ops5)
            have M6 := M5.put4 (b := Bc) (by omega) (.slice o5 bs5.length c5) (.bool br5) (.bool off5) (.int .i64 ops5)
            have hb6 := hbD.put4 (b := Bc) (fun h => h.1 rfl) (.slice o5 bs5.length c5) (.bool br5) (.bool off5) (.int .i64 ops5)
            clear hen
            go_wp2_with fail
            go_roundw
            case rel => exact ⟨m, k + 1, o5, c5, bs5, br5, off5, ops5, by omega, ⟨m2, hmk⟩, by go_num, by go_num, X6, hb6, R6, M6, HI3.out⟩
            case measure => simp [intOf]; omega
    · have hc : (40 : Int) ≤ (k : Int) ∨ ((k : Int) < 40 ∧ (zs.length : Int) ≤ (t : Int)) := by omega
      have z0 := hR.cell (j := 0) rfl
      have z1 := hR.cell (j := 1) rfl
      have z2 := hR.cell (j := 2) rfl
      have z3 := hR.cell (j := 3) rfl
      have f0 := hR.frozen 0
      have f1 := hR.frozen 1
      have f2 := hR.frozen 2
      have f3 := hR.frozen 3
      have c0 := hX.cell (j := 0) rfl
      have c1 := hX.cell (j := 1) rfl
      have c2 := hX.cell (j := 2) rfl
      have c3 := hX.cell (j := 3) rfl
      clear hlt
      rcases hc with hc | ⟨hc, hc'⟩
      all_goals (
        go_wp2_with fail
        refine bodyPost_ret (ret_chip1 rfl _ _ rfl (hR.put4 _ _ _ _)) rfl ⟨⟨_, bs, br, off, ops, rfl, ?_, k, hk, hI⟩, hm.put4 (Nat.le_refl _) _ _ _ _⟩
        exact (hbc.put4 (b := w.heap.size) (fun h => by have := h.2; omega) _ _ _ _).mono fun x hx _ => Nat.le_of_lt hx.2)
end Go.Proofs.YtedopplldpcinaaGreat.Scan
/-
  Layer 12, the statements' own: a chip by numbers, whose pages have few data.
-/
namespace Go.Proofs.YtedopplldpcinaaGreat.Plan
open Go.RowKit Go.Proofs.YtedopplldpcinaaGreat.Nand Go.Proofs.YtedopplldpcinaaGreat.Scan Go.Proofs.YtedopplldpcinaaGreat.States Go.Proofs.YtedopplldpcinaaGreat.Victim

def ChipFilled (N M : Nat) (w : World) (e : Ending) (w' : World) : Prop :=
  ∃ v bs br off ops, e = .returned (chipV v br off ops) ∧ BlocksAt (fun x => w.heap.size ≤ x) w' v (fillT bs) ∧ ∃ k, k ≤ 40 ∧ InvE N M k (bs, br, off, ops)
set_option maxHeartbeats 4000000 in
set_option maxRecDepth 100000 in
theorem lawFilled (ol : Option Addr) (cl : Nat) (zs : List Int) (N M : Nat) (w : World) (hz : Ints .u16 w (.slice ol zs.length cl) zs) (hcl : zs.length ≤ cl) (hb : ∀ x ∈ zs, 0 ≤ x ∧ x ≤ 65535) (hN1 : 1 ≤ N) (hN2 : N ≤ 32) (hM1 : 1 ≤ M) (hM2 : M ≤ 16) :
    Calls Tryz.prog 9 #[.slice ol zs.length cl, .int .i64 N, .int .i64 M] w fun e w' => ChipFilled N M w e w' ∧ Mem w w' := by
  have hR0 := Blk.new w #[.slice none 0 0, .bool false, .bool false, .int .i64 0] 24
  have hm0 : Mem w (w.alloc (.cells #[.slice none 0 0, .bool false, .bool false, .int .i64 0] 24)) := (Mem.refl w).alloc _
  have HM := hide (lawMade12 ol cl zs N M _ (hz.mem hm0) hcl hb hN1 hN2 hM1 hM2)
  clear hz hb
  go_enter Tryz.func9, Tryz.ntmps9
  go_wp2_with fail
  have hsz : w.heap.size < (w.alloc (.cells #[.slice none 0 0, .bool false, .bool false, .int .i64 0] 24)).heap.size := by simp
  generalize hW0 : w.alloc (.cells #[.slice none 0 0, .bool false, .bool false, .int .i64 0] 24) = W0 at *
  clear hW0
  refine HM.out.mono ?_
  rintro e w1 ⟨⟨v1, bs, br, off, ops, rfl, hb1, kk, hkk, hI⟩, m1⟩
  have hfew := few_inv hI.1.1 (show N ≤ 32 by omega) (by omega)
  have HFL : Hid (∀ j (h : j < bs.length), j ≤ 1000 ∧ bs[j].1.length ≤ 1000) := fun j h => ⟨by have h1 : bs.length ≤ 1000 := hfew.1; omega, hfew.2 _ (List.getElem_mem h)⟩
  have HI := hide hI
  clear hI HM hfew
  obtain ⟨oc, cc, rfl⟩ := hb1.shape
  simp only [chipV]
  have hbl := hb1.1
  unfold maxLen at hbl
  have ha : Mem w1 (w1.alloc (.cells #[.slice oc bs.length cc, .bool br, .bool off, .int .i64 ops] 24)) := (Mem.refl w1).alloc _
  have hX := Blk.new w1 #[.slice oc bs.length cc, .bool br, .bool off, .int .i64 ops] 24
  have hb2 := (hb1.mono (S' := fun x => x ≠ w1.heap.size ∧ w.heap.size < x) fun g hg hl => ⟨Nat.ne_of_lt hl, by omega⟩).mem ha
  have hR1 := hR0.mem (m1.trans ha)
  have hm1 := hm0.trans (m1.trans ha)
  have hBw : w.heap.size < w1.heap.size := by have := m1.size; omega
  have c0 := hX.cell (j := 0) rfl
  clear hb1 hR0 hm0 hsz
  go_wp2_with fail
  generalize hW1 : w1.alloc (.cells #[.slice oc bs.length cc, .bool br, .bool off, .int .i64 ops] 24) = W1 at *
  generalize w1.heap.size = Bc at *
  clear hW1 ha m1
  have hb3 : OwnS (fun x => x ≠ Bc ∧ w.heap.size < x) W1 (.slice oc bs.length cc) (fillAt bs 0 0) := by rw [fillAt_start]; exact hb2
  clear hb2
  go_loopw [8] (fun i wr => ∃ j : Nat, j ≤ bs.length ∧ i = .int .i64 j ∧ Blk wr Bc 24 #[.slice oc bs.length cc, .bool br, .bool off, .int .i64 ops] ∧ OwnS (fun x => x ≠ Bc ∧ w.heap.size < x) wr (.slice oc bs.length cc) (fillAt bs j 0) ∧ Blk wr w.heap.size 24 #[.slice none 0 0, .bool false, .bool false, .int .i64 0] ∧ Mem w wr) (fun i _ => bs.length - (intOf i).toNat)
  case atStart => exact ⟨0, Nat.zero_le _, rfl, hX, hb3, hR1, hm1⟩
  case round =>
    clear hX hb3 hR1 hm1 c0
    obtain ⟨j, hj, rfl, hX, hO, hR, hm⟩ := hrel
    have hj0 : (0 : Int) ≤ (j : Int) := by omega
    have c0 := hX.cell (j := 0) rfl
    have c1 := hX.cell (j := 1) rfl
    have c2 := hX.cell (j := 2) rfl
    have c3 := hX.cell (j := 3) rfl
    by_cases hlt : j < bs.length
    · have hlt' : (j : Int) < (bs.length : Int) := by omega
      have HNX := hide (fillAt_next bs j hlt)
      go_wp2_with fail
      obtain ⟨wo, hwo⟩ : ∃ x, x = wr := ⟨_, rfl⟩
      subst hwo
      go_loopw [9] (fun q w2 => ∃ k : Nat, k ≤ bs[j].1.length ∧ q = .int .i64 k ∧ Blk w2 Bc 24 #[.slice oc bs.length cc, .bool br, .bool off, .int .i64 ops] ∧ OwnS (fun x => x ≠ Bc ∧ w.heap.size < x) w2 (.slice oc bs.length cc) (fillAt bs j k) ∧ Blk w2 w.heap.size 24 #[.slice none 0 0, .bool false, .bool false, .int .i64 0] ∧ Mem w w2) (fun q _ => bs[j].1.length - (intOf q).toNat)
      case atStart => exact ⟨0, Nat.zero_le _, rfl, hX, hO, hR, hm⟩
      case round =>
        clear hX hO hR hm c0 c1 c2 c3
        obtain ⟨k, hk, rfl, hX, hO, hR, hm⟩ := hrel
        have c0 := hX.cell (j := 0) rfl
        have hk0 : (0 : Int) ≤ (k : Int) := by omega
        by_cases hkl : k < bs[j].1.length
        · have HSM := hide (fillAt_same bs j k hlt hkl)
          have HST := hide (fillAt_set bs j k hlt hkl)
          obtain ⟨g, n, cap, x, off', cp, hv, hn, b0, ⟨q0, q1, q2⟩, ⟨hSx, hSf⟩, hset⟩ := hO.page (fillAt_get bs j k hlt) (p := k) (by rw [fillPs_len]; exact hkl)
          injection hv with e1 e2 e3
          subst e1 e3
          rw [fillPs_get _ _ _ hkl] at q0 q1 q2
          rw [fillPs_len] at b0
          have hset1 := hide (hset (fillP j k bs[j].1[k]))
          rw [HST.out] at hset1
          have hf1 := hSf (off' + k * 3 + 1)
          have hlen : (k : Int) < (bs[j].1.length : Int) := by omega
          have HO := hide hO
          clear hset hO e2 hn
          generalize hpg : bs[j].1[k] = pg at *
          have HF1 : Hid (fillB pg = false → fillP j k pg = pg) := fun h => fillP_no h
          have HF2 : Hid (fillB pg = true → fillP j k pg = (pg.1, fillD ((j * 7 + k * 3) % 4), pg.2.2)) := fun h => fillP_yes h
          obtain ⟨pw, pd, pt⟩ := pg
          simp only [] at q0 q1 q2
          have hl2 := HFL.out j hlt
          have hxl : x < wr.heap.size := World.block_lt_of_cell? wr _ q0
          have HD := hide (fun (d : ByteArray) (h : OwnS (fun x => x ≠ Bc ∧ w.heap.size < x) (set3 wr x (off' + k * 3) (pw, d, pt)) (.slice (some ⟨g, 0, none⟩) bs.length cc) (fillAt bs j (k + 1))) => OwnS.data (pg := (pw, pd, pt)) h q0 q1 q2)
          obtain ⟨q, hqd⟩ : ∃ q : Nat, (j * 7 + k * 3) % 4 = q := ⟨_, rfl⟩
          have hq4 : q < 4 := by omega
          have hw1 : wrap64 ((j : Int) * 7) = (j : Int) * 7 := by unfold wrap64; omega
          have hw2 : wrap64 ((k : Int) * 3) = (k : Int) * 3 := by unfold wrap64; omega
          have hw3 : wrap64 ((j : Int) * 7 + (k : Int) * 3) = (j : Int) * 7 + (k : Int) * 3 := by unfold wrap64; omega
          have hw4 : ((j : Int) * 7 + (k : Int) * 3).tmod 4 = (q : Int) := by rw [Int.tmod_eq_emod_of_nonneg (by omega)]; omega
          rw [hqd] at HF2
          clear hqd hpg
          have NEXT : Hid (fillB (pw, pd, pt) = false → OwnS (fun x => x ≠ Bc ∧ w.heap.size < x) wr (.slice (some ⟨g, 0, none⟩) bs.length cc) (fillAt bs j (k + 1))) := fun h => by rw [HSM.out (HF1.out h)]; exact HO.out
          have YES : Hid (fillB (pw, pd, pt) = true → OwnS (fun x => x ≠ Bc ∧ w.heap.size < x) (wr.setCell ⟨x, off' + k * 3 + 1, none⟩ (.string (fillD q))) (.slice (some ⟨g, 0, none⟩) bs.length cc) (fillAt bs j (k + 1))) := fun h => HD.out _ (by have := hset1.out; rw [HF2.out h] at this; exact this)
          clear HSM HST HF1 HF2 HD hset1 HO
          cases pw with
          | false =>
            have HN := hide (NEXT.out rfl)
            go_wp2_with fail
            go_roundw
            case rel => exact ⟨k + 1, by omega, by go_num, hX, HN.out, hR, hm⟩
            case measure => simp [intOf]; omega
          | true =>
            by_cases ht : pt.toList = []
            · have HN := hide (NEXT.out (by unfold fillB; simp [ht]))
              have ht2 : pt.toList.isEmpty = true := by rw [ht]; rfl
              go_wp2_with fail
              go_roundw
              case rel => exact ⟨k + 1, by omega, by go_num, hX, HN.out, hR, hm⟩
              case measure => simp [intOf]; omega
            · have ht2 : pt.toList.isEmpty = false := by simpa using ht
              cases hd : (pd.toList == [100]) with
              | false =>
                have HN := hide (NEXT.out (by unfold fillB; simp [hd]))
                go_wp2_with fail
                go_roundw
                case rel => exact ⟨k + 1, by omega, by go_num, hX, HN.out, hR, hm⟩
                case measure => simp [intOf]; omega
              | true =>
                have HY := hide (YES.out (by unfold fillB; rw [hd, ht2]; rfl))
                clear NEXT YES
                have hq : q = 0 ∨ q = 1 ∨ q = 2 ∨ q = 3 := by omega
                clear hq4
                rcases hq with rfl | rfl | rfl | rfl
                all_goals (
                  go_wp2_with fail
                  go_roundw
                  case rel => exact ⟨k + 1, by omega, by go_num, (hX.other (a := ⟨x, off' + k * 3 + 1, none⟩) (Ne.symm hSx.1) _).alloc _, HY.out.mem ((Mem.refl _).alloc _), (hR.other (a := ⟨x, off' + k * 3 + 1, none⟩) (Nat.ne_of_lt hSx.2) _).alloc _, (hm.setCell (p := ⟨x, off' + k * 3 + 1, none⟩) (Nat.le_of_lt hSx.2) _).alloc _⟩
                  case measure => simp [intOf]; omega)
        · have hke : k = bs[j].1.length := by omega
          have hkl' : ¬ ((k : Int) < (bs[j].1.length : Int)) := by omega
          obtain ⟨g, f, op, cp, rfl, _, x0, _, _, _, _⟩ := hO.to.at (i := j) (by rw [fillAt_len]; exact hlt)
          have hgl : ((fillAt bs j k)[j]'(by rw [fillAt_len]; exact hlt)).1.length = bs[j].1.length := by simp [fillAt, fillPs]
          rw [hgl] at x0
          rw [hke, HNX.out] at hO
          have HO := hide hO
          clear hO hgl hke
          go_wp2_with fail
          go_roundw
          case rel => exact ⟨j + 1, by omega, by go_num, hX, HO.out, hR, hm⟩
          case measure => simp [intOf]; omega
    · have hje : j = bs.length := by omega
      have hlt' : ¬ ((j : Int) < (bs.length : Int)) := by omega
      have hfe : fillAt bs j 0 = fillT bs := by unfold fillT; rw [hje]
      have HO : OwnS (fun x => x ≠ Bc ∧ w.heap.size < x) wr (.slice oc bs.length cc) (fillT bs) := by rw [← hfe]; exact hO
      have hO2 := hide HO
      have z0 := hR.frozen 0
      have z1 := hR.frozen 1
      have z2 := hR.frozen 2
      have z3 := hR.frozen 3
      have y0 := hR.cell (j := 0) rfl
      have y1 := hR.cell (j := 1) rfl
      have y2 := hR.cell (j := 2) rfl
      have y3 := hR.cell (j := 3) rfl
      clear HO hO hje hfe
      go_wp2_with fail
      refine bodyPost_ret (ret_chip1 rfl _ _ rfl (hR.put4 _ _ _ _)) rfl ⟨?_, hm.put4 (Nat.le_refl _) _ _ _ _⟩
      refine ⟨.slice oc bs.length cc, bs, br, off, ops, rfl, ?_, kk, hkk, HI.out⟩
      exact ((hO2.out.put4 (b := w.heap.size) (fun h => by have := h.2; omega) _ _ _ _).mono fun x hx _ => Nat.le_of_lt hx.2).to
end Go.Proofs.YtedopplldpcinaaGreat.Plan
