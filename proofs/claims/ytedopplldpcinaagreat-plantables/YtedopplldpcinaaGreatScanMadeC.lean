/-
  Layer 6: a chip by numbers.
-/
import Derived.Test.YtedopplldpcinaaGreatScanPageMk
import Derived.Test.YtedopplldpcinaaGreatNandNewAll
import Derived.Test.YtedopplldpcinaaGreatNandSpecs
namespace Go.Proofs.YtedopplldpcinaaGreat.Scan
open Go.RowKit Go.Proofs.YtedopplldpcinaaGreat.Nand Go.Proofs.YtedopplldpcinaaGreat.Tag

/-- a chip that keeps to what chips by numbers keep to -/
def ChipMade (N M : Nat) (w : World) (e : Ending) (w' : World) : Prop :=
  ∃ v bs br off ops, e = .returned (chipV v br off ops) ∧ BlocksAt (fun x => w.heap.size ≤ x) w' v bs ∧ Inv N M bs
theorem sub_ints {w : World} {lb lo n cap : Nat} {zs : List Int} (h : Ints .u16 w (.slice (some ⟨lb, lo, none⟩) n cap) zs) {t m : Nat} (htm : t < m) (hm : m ≤ zs.length) (c : Nat) : Ints .u16 w (.slice (some ⟨lb, lo + t, none⟩) (m - t) c) ((zs.drop t).take (m - t)) := by
  have hl : ((zs.drop t).take (m - t)).length = m - t := by rw [List.length_take, List.length_drop]; omega
  have h1 := h.1
  obtain ⟨b, off, e, hc⟩ := h.at (by omega)
  injection e with e
  injection e with e1 e2
  subst e1; subst e2
  refine ⟨by omega, .inr ⟨lb, lo + t, c, by rw [hl], by omega, fun j hj => ?_⟩⟩
  rw [hl] at hj
  rw [Nat.add_assoc, hc (t + j) (by omega)]
  congr 2
  rw [List.getD_eq_getElem?_getD, List.getD_eq_getElem?_getD, List.getElem?_take_of_lt hj, List.getElem?_drop]
theorem sub_mem {zs : List Int} {t n : Nat} (hb : ∀ x ∈ zs, 0 ≤ x ∧ x ≤ 65535) : ∀ x ∈ (zs.drop t).take n, 0 ≤ x ∧ x ≤ 65535 :=
  fun x hx => hb x (List.mem_of_mem_drop (List.mem_of_mem_take hx))
theorem few_inv {N M : Nat} {bs : List BlockT} (h : Inv N M bs) (hN : N ≤ 32) (hM : M ≤ 16) : Few bs := few_dims h.1 (by omega) (by omega)

set_option maxHeartbeats 4000000 in
set_option maxRecDepth 100000 in
theorem lawMade06 (ol : Option Addr) (cl : Nat) (zs : List Int) (N M : Nat) (w : World) (hz : Ints .u16 w (.slice ol zs.length cl) zs) (hcl : zs.length ≤ cl) (hb : ∀ x ∈ zs, 0 ≤ x ∧ x ≤ 65535) (hN1 : 1 ≤ N) (hN2 : N ≤ 32) (hM1 : 1 ≤ M) (hM2 : M ≤ 16) :
    Calls Tryz.prog 22 #[.slice ol zs.length cl, .int .i64 N, .int .i64 M] w fun e w' => ChipMade N M w e w' ∧ Mem w w' := by
  have hR0 := Blk.new w #[.slice none 0 0, .bool false, .bool false, .int .i64 0] 24
  have hm0 : Mem w (w.alloc (.cells #[.slice none 0 0, .bool false, .bool false, .int .i64 0] 24)) := (Mem.refl w).alloc _
  have hzl := hz.1
  unfold maxLen at hzl
  have HZ := hide hz
  have HB := hide hb
  clear hz hb
  go_enter Tryz.func22, Tryz.ntmps22
  go_wp2_with fail
  generalize hW0 : w.alloc (.cells #[.slice none 0 0, .bool false, .bool false, .int .i64 0] 24) = W0 at *
  clear hW0
  have hwl := hR0.lt
  refine (refNew N M _ [] _ (Ints.nil _ _ _ _) (by decide)).mono ?_
  rintro e w1 ⟨hr, m1⟩
  rw [newC_yes hN1 hN2 hM1 hM2 (by simp)] at hr
  obtain ⟨v1, rfl, hb1⟩ := hr
  obtain ⟨o1, c1, rfl⟩ := hb1.shape
  simp only [chipV]
  have hI1 := inv_new N M
  simp only [] at hb1
  generalize newBlocks N M [] = bs1 at *
  have ha : Mem w1 (w1.alloc (.cells #[.slice o1 bs1.length c1, .bool false, .bool false, .int .i64 0] 24)) := (Mem.refl w1).alloc _
  have hX := Blk.new w1 #[.slice o1 bs1.length c1, .bool false, .bool false, .int .i64 0] 24
  have hb2 := (hb1.mono (S' := fun x => x ≠ w1.heap.size ∧ w.heap.size < x) fun g hg hl => ⟨Nat.ne_of_lt hl, by omega⟩).mem ha
  have hR1 := hR0.mem (m1.trans ha)
  have hm1 := hm0.trans (m1.trans ha)
  have hBw : w.heap.size < w1.heap.size := by have := m1.size; omega
  clear hb1 hR0
  go_wp2_with fail
  generalize hW1 : w1.alloc (.cells #[.slice o1 bs1.length c1, .bool false, .bool false, .int .i64 0] 24) = W1 at *
  generalize w1.heap.size = Bc at *
  clear hW1 ha m1
  go_loopw [9, 10] (fun a i wr => ∃ (t k : Nat) (oc : Option Addr) (cc : Nat) (bs : List BlockT) (br off : Bool) (ops : Int), k ≤ 40 ∧ (t ≤ zs.length ∧ t ≤ 8 * k) ∧ a = .int .i64 t ∧ i = .int .i64 k ∧ Blk wr Bc 24 #[.slice oc bs.length cc, .bool br, .bool off, .int .i64 ops] ∧ BlocksAt (fun x => x ≠ Bc ∧ w.heap.size < x) wr (.slice oc bs.length cc) bs ∧ Blk wr w.heap.size 24 #[.slice none 0 0, .bool false, .bool false, .int .i64 0] ∧ Mem w wr ∧ Inv N M bs) (fun _ i _ => 40 - (intOf i).toNat)
  case atStart => exact ⟨0, 0, _, _, _, _, _, _, by omega, ⟨Nat.zero_le _, Nat.zero_le _⟩, rfl, rfl, hX, hb2, hR1, hm1, hI1⟩
  case round =>
    clear hX hb2 hR1 hm1 hI1
    obtain ⟨t, k, oc, cc, bs, br, off, ops, hk, ht, rfl, rfl, hX, hbc, hR, hm, hI⟩ := hrel
    by_cases hlt : k < 40 ∧ t < zs.length
    · obtain ⟨hk1, ht1⟩ := hlt
      have hk' : (k : Int) < 40 := by omega
      have ht' : (t : Int) < (zs.length : Int) := by omega
      have ht0 : (0 : Int) ≤ (t : Int) := by omega
      obtain ⟨lb, lo, rfl, hcell⟩ := (HZ.out.mem hm).at (by omega)
      have x0 := hcell t ht1
      have hxb : 0 ≤ zs.getD t 0 ∧ zs.getD t 0 ≤ 65535 := HB.out _ (by simp [ht1])
      clear hcell
      generalize hxe : zs.getD t 0 = x at *
      clear hxe
      obtain ⟨xn, rfl⟩ := Int.eq_ofNat_of_zero_le hxb.1
      have hxl : (xn : Int) ≤ 65535 := hxb.2
      clear hxb
      obtain ⟨q, hq⟩ : ∃ q : Nat, (xn : Int) / 50 % 8 = (q : Int) := ⟨xn / 50 % 8, by omega⟩
      have hq8 : (q : Int) < 8 := by omega
      obtain ⟨bn, hbn⟩ : ∃ bn : Nat, (xn : Int) % (N : Int) = (bn : Int) := ⟨xn % N, by omega⟩
      have hbN : (bn : Int) < (N : Int) := by rw [← hbn]; exact Int.emod_lt_of_pos _ (by omega)
      obtain ⟨sq, hsq⟩ : ∃ sq : Nat, (xn : Int) / 7 % 30 = (sq : Int) := ⟨xn / 7 % 30, by omega⟩
      obtain ⟨m, e1, m1, m2, m3⟩ : ∃ m : Nat, (if (zs.length : Int) < (t : Int) + 1 + (q : Int) then (zs.length : Int) else (t : Int) + 1 + (q : Int)) = (m : Int) ∧ t + 1 ≤ m ∧ m ≤ zs.length ∧ m ≤ t + 8 :=
        ⟨if zs.length < t + 1 + q then zs.length else t + 1 + q, by split <;> split <;> omega, by split <;> omega, by split <;> omega, by split <;> omega⟩
      have htm : (t : Int) ≤ (m : Int) := by omega
      have htm1 : (t : Int) + 1 ≤ (m : Int) := by omega
      have hmc : (m : Int) ≤ (cl : Int) := by omega
      have hm0' : (0 : Int) ≤ (m : Int) := by omega
      have htL : (t : Int) ≤ 320 := by omega
      have HSI := hide (sub_ints (HZ.out.mem hm) (show t < m by omega) m2 (cl - t))
      have HSB := hide (sub_mem (t := t) (n := m - t) HB.out)
      have HI := hide hI
      have HEe := hide e1
      go_wp2_with fail
      (try rw [hbn])
      clear e1 hq hsq hcl hzl hI
      refine (lawPage sq _ _ _ HSI.out HSB.out).mono ?_
      rintro e w2 ⟨rfl, n1⟩
      have hps := (pageMk_size sq ((zs.drop t).take (m - t))).2
      generalize pageMk sq ((zs.drop t).take (m - t)) = pg at *
      simp only [pageV]
      clear HSI HSB x0
      by_cases h11 : (xn : Int) % 11 = 0
      all_goals (by_cases h29 : (xn : Int) % 29 = 0)
      · have g11 : ((xn : Int) % 11 == 0) = true := by rw [beq_iff_eq]; exact h11
        have g29 : ((xn : Int) % 29 == 0) = true := by rw [beq_iff_eq]; exact h29
        clear h11 h29
        have hA : Mem w2 ((w2.alloc (.cells #[.bool pg.1, .string pg.2.1, .string pg.2.2] 33)).alloc (.cells #[.int .i64 1, .string ⟨#[120]⟩, .string pg.2.2, .int .i64 0] 52)) := ((Mem.refl w2).alloc _).alloc _
        have hP : Blk ((w2.alloc (.cells #[.bool pg.1, .string pg.2.1, .string pg.2.2] 33)).alloc (.cells #[.int .i64 1, .string ⟨#[120]⟩, .string pg.2.2, .int .i64 0] 52)) w2.heap.size 33 #[.bool pg.1, .string pg.2.1, .string pg.2.2] := (Blk.new w2 _ _).alloc _
        have hF := blk_second w2 (.cells #[.bool pg.1, .string pg.2.1, .string pg.2.2] 33) #[.int .i64 1, .string ⟨#[120]⟩, .string pg.2.2, .int .i64 0] 52
        have hXl := hX.lt
        have X1 := hX.mem (n1.trans hA)
        have B1 := hbc.mem (n1.trans hA)
        have R1 := hR.mem (n1.trans hA)
        have M1 := hm.trans (n1.trans hA)
        have hBp : Bc < w2.heap.size := by have := n1.size; omega
        clear hX hbc hR hm
        have c0 := X1.cell (j := 0) rfl
        have c1 := X1.cell (j := 1) rfl
        have c2 := X1.cell (j := 2) rfl
        have c3 := X1.cell (j := 3) rfl
        go_wp2_with fail
        generalize hWA : (w2.alloc (.cells #[.bool pg.1, .string pg.2.1, .string pg.2.2] 33)).alloc (.cells #[.int .i64 1, .string ⟨#[120]⟩, .string pg.2.2, .int .i64 0] 52) = WA at *
        generalize w2.heap.size = Bp at *
        clear hWA hA n1
        clear c0 c1 c2 c3
        have hf2 : (((1, ⟨#[120]⟩, pg.2.2, 0) : FateT).2.2.1).size ≤ maxLen := by show pg.2.2.size ≤ maxLen; unfold maxLen; omega
        obtain ⟨f, hfe⟩ : ∃ f : FateT, (1, ⟨#[120]⟩, pg.2.2, 0) = f := ⟨_, rfl⟩
        rw [hfe] at hf2
        have hF : Blk WA (Bp + 1) 52 #[.int .i64 f.1, .string f.2.1, .string f.2.2.1, .int .i64 f.2.2.2] := by rw [← hfe]; exact hF
        clear hfe
        refine (eraseSpec_ref _ _ bs br off ops bn (0, ⟨#[]⟩, ⟨#[]⟩, 0) _ B1 (few_inv HI.out hN2 hM2)).mono ?_
        rintro e w3 ⟨hr, n2⟩
        have HI2 := hide (inv_erase (c := (bs, br, off, ops)) HI.out bn)
        clear HI
        generalize erase (bs, br, off, ops) bn (0, ⟨#[]⟩, ⟨#[]⟩, 0) = q at *
        obtain ⟨⟨bs', br', off', ops'⟩, en⟩ := q
        obtain ⟨v3, rfl, hb3⟩ := hr
        simp only [] at hb3 HI2 ⊢
        obtain ⟨o3, c3, rfl⟩ := hb3.shape
        have Z := X1.mem n2
        have z0 := Z.cell (j := 0) rfl
        have z1 := Z.cell (j := 1) rfl
        have z2 := Z.cell (j := 2) rfl
        have z3 := Z.cell (j := 3) rfl
        have f0 := Z.frozen 0
        have f1 := Z.frozen 1
        have f2 := Z.frozen 2
        have f3 := Z.frozen 3
        have hWl := hF.lt
        have hb4 := (hb3.mono (S' := fun x => x ≠ Bc ∧ w.heap.size < x) fun g hg _ => by rcases hg with h | h; exact h; omega).put4 (b := Bc) (fun h => h.1 rfl) (.slice o3 bs'.length c3) (.bool br') (.bool off') (.int .i64 ops')
        have X4 := Z.put4 (.slice o3 bs'.length c3) (.bool br') (.bool off') (.int .i64 ops')
        have R4 := (R1.mem n2).far4 (b' := Bc) (by omega) (.slice o3 bs'.length c3) (.bool br') (.bool off') (.int .i64 ops')
        have P4 := (hP.mem n2).far4 (b' := Bc) (by omega) (.slice o3 bs'.length c3) (.bool br') (.bool off') (.int .i64 ops')
        have F4 := (hF.mem n2).far4 (b' := Bc) (by omega) (.slice o3 bs'.length c3) (.bool br') (.bool off') (.int .i64 ops')
        have M4 := (M1.trans n2).put4 (b := Bc) (by omega) (.slice o3 bs'.length c3) (.bool br') (.bool off') (.int .i64 ops')
        go_wp2_with fail
        generalize hW4 : ((((w3.setCell ⟨Bc, 0, none⟩ (.slice o3 bs'.length c3)).setCell ⟨Bc, 1, none⟩ (.bool br')).setCell ⟨Bc, 2, none⟩ (.bool off')).setCell ⟨Bc, 3, none⟩ (.int .i64 ops')) = W4 at *
        clear hW4 z0 z1 z2 z3 f0 f1 f2 f3 Z hb3 n2 X1 B1 R1 M1 hP hF hWl
        have hlen : bs'.length = N := dims_len HI2.out.1
        have hbi : bn < bs'.length := by omega
        have hbi' : (bn : Int) < (bs'.length : Int) := by omega
        have hbn0 : (0 : Int) ≤ (bn : Int) := by omega
        clear hlen
        obtain ⟨gc, fc, pc, qc, rfl, j1, j2, k1, j3, j4, j5⟩ := hb4.at hbi
        clear j1 j2 j3 j4 j5
        generalize bs'[bn].2.1 = nx at k1
        have HK : Hid (∀ w', Mem W4 w' → w'.cell? ⟨Bc, 0, none⟩ = some (.slice (some ⟨gc, fc, none⟩) bs'.length c3) ∧ w'.cell? ⟨Bc, 1, none⟩ = some (.bool br') ∧ w'.cell? ⟨Bc, 2, none⟩ = some (.bool off') ∧ w'.cell? ⟨Bc, 3, none⟩ = some (.int .i64 ops') ∧ w'.cell? ⟨gc, fc + bn * 4 + 1, none⟩ = some (.int .i64 nx) ∧ w'.cell? ⟨Bp, 0, none⟩ = some (.bool pg.1) ∧ w'.cell? ⟨Bp, 1, none⟩ = some (.string pg.2.1) ∧ w'.cell? ⟨Bp, 2, none⟩ = some (.string pg.2.2) ∧ w'.cell? ⟨Bp + 1, 0, none⟩ = some (.int .i64 f.1) ∧ w'.cell? ⟨Bp + 1, 1, none⟩ = some (.string f.2.1) ∧ w'.cell? ⟨Bp + 1, 2, none⟩ = some (.string f.2.2.1) ∧ w'.cell? ⟨Bp + 1, 3, none⟩ = some (.int .i64 f.2.2.2)) := fun w' h => ⟨(X4.mem h).cell (j := 0) rfl, (X4.mem h).cell (j := 1) rfl, (X4.mem h).cell (j := 2) rfl, (X4.mem h).cell (j := 3) rfl, (Below.cell h (p := ⟨gc, fc + bn * 4 + 1, none⟩) (World.block_lt_of_cell? W4 _ k1)).trans k1, (P4.mem h).cell (j := 0) rfl, (P4.mem h).cell (j := 1) rfl, (P4.mem h).cell (j := 2) rfl, (F4.mem h).cell (j := 0) rfl, (F4.mem h).cell (j := 1) rfl, (F4.mem h).cell (j := 2) rfl, (F4.mem h).cell (j := 3) rfl⟩
        obtain ⟨c0, c1, c2, c3', k1, p0, p1, p2, q0, q1, q2, q3⟩ := HK.out W4 (Mem.refl _)
        have HBF := hide (fun (w' : World) (h : Mem W4 w') => (hb4.mono (S' := fun x => (x ≠ Bc ∧ w.heap.size < x) ∧ x < W4.heap.size) fun x hx hl => ⟨hx, hl⟩).mem h)
        have HFew := hide (few_inv HI2.out hN2 hM2)
        have HI3 := hide (inv_prog (c := (bs', br', off', ops')) HI2.out bn nx (pg := pg) (f := f) (by unfold maxLen; omega) hf2)
        have N0 : Hid (Mem W4 W4.drew) := Mem.drew (Mem.refl W4)
        have NZ := hide (((Mem.refl W4).alloc (.cells #[.slice none 0 0, .bool false, .bool false, .int .i64 0] 24)).drew)
        have HZ5 := hide (Blk.new W4 #[.slice none 0 0, .bool false, .bool false, .int .i64 0] 24).drew
        have hX4l := X4.lt
        have HBO := hide (hb4.mono (S' := fun x => (x ≠ Bc ∧ w.heap.size < x) ∧ x < W4.heap.size) fun x hx hl => ⟨hx, hl⟩)
        have HX4 := hide X4
        have HR4 := hide R4
        have HM4 := hide M4
        clear X4 R4 P4 F4 M4 hb4
        go_region_held3 (fun w' => w'.cell? ⟨Bc, 0, none⟩ = some (.slice (some ⟨gc, fc, none⟩) bs'.length c3) ∧ w'.cell? ⟨Bc, 1, none⟩ = some (.bool br') ∧ w'.cell? ⟨Bc, 2, none⟩ = some (.bool off') ∧ w'.cell? ⟨Bc, 3, none⟩ = some (.int .i64 ops') ∧ w'.cell? ⟨gc, fc + bn * 4 + 1, none⟩ = some (.int .i64 nx) ∧ w'.cell? ⟨Bp, 0, none⟩ = some (.bool pg.1) ∧ w'.cell? ⟨Bp, 1, none⟩ = some (.string pg.2.1) ∧ w'.cell? ⟨Bp, 2, none⟩ = some (.string pg.2.2) ∧ w'.cell? ⟨Bp + 1, 0, none⟩ = some (.int .i64 f.1) ∧ w'.cell? ⟨Bp + 1, 1, none⟩ = some (.string f.2.1) ∧ w'.cell? ⟨Bp + 1, 2, none⟩ = some (.string f.2.2.1) ∧ w'.cell? ⟨Bp + 1, 3, none⟩ = some (.int .i64 f.2.2.2))
          (first
            | with_reducible exact HK.out _ (Mem.put4 N2.out (Nat.le_refl _) _ _ _ _)
            | with_reducible exact HK.out _ (Mem.alloc N2.out _)
            | with_reducible exact HK.out _ N2.out
            | with_reducible exact HK.out _ NZ.out
            | with_reducible exact HK.out _ N0.out)
          ((go_at_call 12; refine (progSpec_ref _ _ bs' br' off' ops' bn nx pg f _ (HBF.out _ (by first | with_reducible exact N0.out | with_reducible exact NZ.out)) HFew.out).mono ?_; rintro e w5 ⟨hr, n3⟩; have N2' : Mem W4 w5 := (by first | (with_reducible exact Mem.trans N0.out n3) | (with_reducible exact Mem.trans NZ.out n3)); have N2 := hide N2'; clear N2'; (try (have Z7 : Blk w5 W4.heap.size 24 #[.slice none 0 0, .bool false, .bool false, .int .i64 0] := (by with_reducible exact HZ5.out.mem n3); have z0 := Z7.cell (j := 0) rfl; have z1 := Z7.cell (j := 1) rfl; have z2 := Z7.cell (j := 2) rfl; have z3 := Z7.cell (j := 3) rfl; have f0 := Z7.frozen 0; have f1 := Z7.frozen 1; have f2 := Z7.frozen 2; have f3 := Z7.frozen 3)); generalize Nand.program (bs', br', off', ops') bn nx pg f = qq at *; obtain ⟨⟨bs5, br5, off5, ops5⟩, en⟩ := qq; obtain ⟨v5, rfl, hb5⟩ := hr; simp only [] at hb5 HI3 ⊢; obtain ⟨o5, c5, rfl⟩ := hb5.shape; have hn3 := n3.size; have HB5 := hide hb5; clear n3 hb5))
        · have hD := Blk.new w5 #[.slice o5 bs5.length c5, .bool br5, .bool off5, .int .i64 ops5] 24
          have mD : Mem w5 (w5.alloc (.cells #[.slice o5 bs5.length c5, .bool br5, .bool off5, .int .i64 ops5] 24)) := (Mem.refl w5).alloc _
          have X5 := HX4.out.mem (N2.out.trans mD)
          have R5 := HR4.out.mem (N2.out.trans mD)
          have M5 := HM4.out.trans (N2.out.trans mD)
          have hbO := ((HBO.out.mem (N2.out.trans mD))).mono (S' := fun x => x ≠ Bc ∧ w.heap.size < x) fun x hx _ => hx.1
          have hn3' : W4.heap.size ≤ w5.heap.size := N2.out.size
          have hbD := ((HB5.out.mono (S' := fun x => x ≠ Bc ∧ w.heap.size < x) fun x hx hl => by rcases hx with hx | hx; exact hx.1; exact ⟨by have : W4.heap.size ≤ x := hx; omega, by have : W4.heap.size ≤ x := hx; omega⟩)).mem mD
          have hDB : Bc < w5.heap.size := by omega
          generalize hWD : w5.alloc (.cells #[.slice o5 bs5.length c5, .bool br5, .bool off5, .int .i64 ops5] 24) = WD at *
          generalize w5.heap.size = DB at *
          clear hWD mD
          clear HX4 HR4 HM4 N2 HBF HBO HB5 HK NZ HZ5 N0 c0 c1 c2 c3' k1 p0 p1 p2 q0 q1 q2 q3 HFew
          have d0 := hD.cell (j := 0) rfl
          have d1 := hD.cell (j := 1) rfl
          have d2 := hD.cell (j := 2) rfl
          have d3 := hD.cell (j := 3) rfl
          have c0 := X5.cell (j := 0) rfl
          have c1 := X5.cell (j := 1) rfl
          have c2 := X5.cell (j := 2) rfl
          have c3' := X5.cell (j := 3) rfl
          have f0 := X5.frozen 0
          have f1 := X5.frozen 1
          have f2 := X5.frozen 2
          have f3 := X5.frozen 3
          have hmk : m ≤ 8 * (k + 1) := by omega
          by_cases hen : en = 1
          · subst hen
            go_wp2_with fail
            go_roundw
            case rel => exact ⟨m, k + 1, _, _, bs', br', off', ops', by omega, ⟨m2, hmk⟩, by go_num, by go_num, X5, hbO, R5, M5, HI2.out⟩
            case measure => simp [intOf]; omega
          · have hen' : (en != 1) = true := by simp [hen]
            have X6 := X5.put4 (.slice o5 bs5.length c5) (.bool br5) (.bool off5) (.int .i64 ops5)
            have R6 := R5.far4 (b' := Bc) (by omega) (.slice o5 bs5.length c5) (.bool br5) (.bool off5) (.int .i64 ops5)
            have M6 := M5.put4 (b := Bc) (by omega) (.slice o5 bs5.length c5) (.bool br5) (.bool off5) (.int .i64 ops5)
            have hb6 := hbD.put4 (b := Bc) (fun h => h.1 rfl) (.slice o5 bs5.length c5) (.bool br5) (.bool off5) (.int .i64 ops5)
            clear hen
            go_wp2_with fail
            go_roundw
            case rel => exact ⟨m, k + 1, o5, c5, bs5, br5, off5, ops5, by omega, ⟨m2, hmk⟩, by go_num, by go_num, X6, hb6, R6, M6, HI3.out⟩
            case measure => simp [intOf]; omega
        · have hl4 : (W4.alloc (.cells #[.slice none 0 0, .bool false, .bool false, .int .i64 0] 24)).drew.heap.size = W4.heap.size + 1 := by show (W4.alloc _).heap.size = _; simp
          rw [hl4] at hn3
          have hD := Z7.put4 (.slice o5 bs5.length c5) (.bool br5) (.bool off5) (.int .i64 ops5)
          have X5 := (HX4.out.mem N2.out).far4 (b' := W4.heap.size) (by omega) (.slice o5 bs5.length c5) (.bool br5) (.bool off5) (.int .i64 ops5)
          have R5 := (HR4.out.mem N2.out).far4 (b' := W4.heap.size) (by omega) (.slice o5 bs5.length c5) (.bool br5) (.bool off5) (.int .i64 ops5)
          have M5 := (HM4.out.trans N2.out).put4 (b := W4.heap.size) (by omega) (.slice o5 bs5.length c5) (.bool br5) (.bool off5) (.int .i64 ops5)
          have hbO := ((HBO.out.mem N2.out).put4 (b := W4.heap.size) (fun h => by have := h.2; omega) (.slice o5 bs5.length c5) (.bool br5) (.bool off5) (.int .i64 ops5)).mono (S' := fun x => x ≠ Bc ∧ w.heap.size < x) fun x hx _ => hx.1
          have hbD := ((HB5.out.mono (S' := fun x => (x ≠ Bc ∧ w.heap.size < x) ∧ x ≠ W4.heap.size) fun x hx hl => by rcases hx with hx | hx; exact ⟨hx.1, by have := hx.2; omega⟩; exact ⟨⟨by omega, by omega⟩, by omega⟩).put4 (b := W4.heap.size) (fun h => h.2 rfl) (.slice o5 bs5.length c5) (.bool br5) (.bool off5) (.int .i64 ops5)).mono (S' := fun x => x ≠ Bc ∧ w.heap.size < x) fun x hx _ => hx.1
          clear z0 z1 z2 z3 f0 f1 f2 f3 Z7 hl4
          generalize hWD : ((((w5.setCell ⟨W4.heap.size, 0, none⟩ (.slice o5 bs5.length c5)).setCell ⟨W4.heap.size, 1, none⟩ (.bool br5)).setCell ⟨W4.heap.size, 2, none⟩ (.bool off5)).setCell ⟨W4.heap.size, 3, none⟩ (.int .i64 ops5)) = WD at *
          have hDB : Bc < W4.heap.size := hX4l
          generalize W4.heap.size = DB at *
          clear hWD
          clear HX4 HR4 HM4 N2 HBF HBO HB5 HK NZ HZ5 N0 c0 c1 c2 c3' k1 p0 p1 p2 q0 q1 q2 q3 HFew
          have d0 := hD.cell (j := 0) rfl
          have d1 := hD.cell (j := 1) rfl
          have d2 := hD.cell (j := 2) rfl
          have d3 := hD.cell (j := 3) rfl
          have c0 := X5.cell (j := 0) rfl
          have c1 := X5.cell (j := 1) rfl
          have c2 := X5.cell (j := 2) rfl
          have c3' := X5.cell (j := 3) rfl
          have f0 := X5.frozen 0
          have f1 := X5.frozen 1
          have f2 := X5.frozen 2
          have f3 := X5.frozen 3
          have hmk : m ≤ 8 * (k + 1) := by omega
          by_cases hen : en = 1
          · subst hen
            go_wp2_with fail
            go_roundw
            case rel => exact ⟨m, k + 1, _, _, bs', br', off', ops', by omega, ⟨m2, hmk⟩, by go_num, by go_num, X5, hbO, R5, M5, HI2.out⟩
            case measure => simp [intOf]; omega
          · have hen' : (en != 1) = true := by simp [hen]
            have X6 := X5.put4 (.slice o5 bs5.length c5) (.bool br5) (.bool off5) (.int .i64 ops5)
            have R6 := R5.far4 (b' := Bc) (by omega) (.slice o5 bs5.length c5) (.bool br5) (.bool off5) (.int .i64 ops5)
            have M6 := M5.put4 (b := Bc) (by omega) (.slice o5 bs5.length c5) (.bool br5) (.bool off5) (.int .i64 ops5)
            have hb6 := hbD.put4 (b := Bc) (fun h => h.1 rfl) (.slice o5 bs5.length c5) (.bool br5) (.bool off5) (.int .i64 ops5)
            clear hen
            go_wp2_with fail
            go_roundw
            case rel => exact ⟨m, k + 1, o5, c5, bs5, br5, off5, ops5, by omega, ⟨m2, hmk⟩, by go_num, by go_num, X6, hb6, R6, M6, HI3.out⟩
            case measure => simp [intOf]; omega
      · have g11 : ((xn : Int) % 11 == 0) = true := by rw [beq_iff_eq]; exact h11
        have g29 : ((xn : Int) % 29 == 0) = false := by rw [beq_eq_false_iff_ne]; exact h29
        clear h11 h29
        have hA : Mem w2 ((w2.alloc (.cells #[.bool pg.1, .string pg.2.1, .string pg.2.2] 33)).alloc (.cells #[.int .i64 1, .string ⟨#[120]⟩, .string pg.2.2, .int .i64 0] 52)) := ((Mem.refl w2).alloc _).alloc _
        have hP : Blk ((w2.alloc (.cells #[.bool pg.1, .string pg.2.1, .string pg.2.2] 33)).alloc (.cells #[.int .i64 1, .string ⟨#[120]⟩, .string pg.2.2, .int .i64 0] 52)) w2.heap.size 33 #[.bool pg.1, .string pg.2.1, .string pg.2.2] := (Blk.new w2 _ _).alloc _
        have hF := blk_second w2 (.cells #[.bool pg.1, .string pg.2.1, .string pg.2.2] 33) #[.int .i64 1, .string ⟨#[120]⟩, .string pg.2.2, .int .i64 0] 52
        have hXl := hX.lt
        have X1 := hX.mem (n1.trans hA)
        have B1 := hbc.mem (n1.trans hA)
        have R1 := hR.mem (n1.trans hA)
        have M1 := hm.trans (n1.trans hA)
        have hBp : Bc < w2.heap.size := by have := n1.size; omega
        clear hX hbc hR hm
        have c0 := X1.cell (j := 0) rfl
        have c1 := X1.cell (j := 1) rfl
        have c2 := X1.cell (j := 2) rfl
        have c3 := X1.cell (j := 3) rfl
        go_wp2_with fail
        generalize hWA : (w2.alloc (.cells #[.bool pg.1, .string pg.2.1, .string pg.2.2] 33)).alloc (.cells #[.int .i64 1, .string ⟨#[120]⟩, .string pg.2.2, .int .i64 0] 52) = WA at *
        generalize w2.heap.size = Bp at *
        clear hWA hA n1
        clear c0 c1 c2 c3
        have hf2 : (((1, ⟨#[120]⟩, pg.2.2, 0) : FateT).2.2.1).size ≤ maxLen := by show pg.2.2.size ≤ maxLen; unfold maxLen; omega
        obtain ⟨f, hfe⟩ : ∃ f : FateT, (1, ⟨#[120]⟩, pg.2.2, 0) = f := ⟨_, rfl⟩
        rw [hfe] at hf2
        have hF : Blk WA (Bp + 1) 52 #[.int .i64 f.1, .string f.2.1, .string f.2.2.1, .int .i64 f.2.2.2] := by rw [← hfe]; exact hF
        clear hfe
        have HI2 := hide HI.out
        clear HI
        obtain ⟨bs', rfl⟩ : ∃ x, x = bs := ⟨_, rfl⟩
        obtain ⟨br', rfl⟩ : ∃ x, x = br := ⟨_, rfl⟩
        obtain ⟨off', rfl⟩ : ∃ x, x = off := ⟨_, rfl⟩
        obtain ⟨ops', rfl⟩ : ∃ x, x = ops := ⟨_, rfl⟩
        obtain ⟨o3, rfl⟩ : ∃ x, x = oc := ⟨_, rfl⟩
        obtain ⟨c3, rfl⟩ : ∃ x, x = cc := ⟨_, rfl⟩
        have hb4 := B1
        have X4 := X1
        have R4 := R1
        have P4 := hP
        have F4 := hF
        have M4 := M1
        clear B1 X1 R1 hP hF M1
        generalize WA = W4 at *
        have hlen : bs'.length = N := dims_len HI2.out.1
        have hbi : bn < bs'.length := by omega
        have hbi' : (bn : Int) < (bs'.length : Int) := by omega
        have hbn0 : (0 : Int) ≤ (bn : Int) := by omega
        clear hlen
        obtain ⟨gc, fc, pc, qc, rfl, j1, j2, k1, j3, j4, j5⟩ := hb4.at hbi
        clear j1 j2 j3 j4 j5
        generalize bs'[bn].2.1 = nx at k1
        have HK : Hid (∀ w', Mem W4 w' → w'.cell? ⟨Bc, 0, none⟩ = some (.slice (some ⟨gc, fc, none⟩) bs'.length c3) ∧ w'.cell? ⟨Bc, 1, none⟩ = some (.bool br') ∧ w'.cell? ⟨Bc, 2, none⟩ = some (.bool off') ∧ w'.cell? ⟨Bc, 3, none⟩ = some (.int .i64 ops') ∧ w'.cell? ⟨gc, fc + bn * 4 + 1, none⟩ = some (.int .i64 nx) ∧ w'.cell? ⟨Bp, 0, none⟩ = some (.bool pg.1) ∧ w'.cell? ⟨Bp, 1, none⟩ = some (.string pg.2.1) ∧ w'.cell? ⟨Bp, 2, none⟩ = some (.string pg.2.2) ∧ w'.cell? ⟨Bp + 1, 0, none⟩ = some (.int .i64 f.1) ∧ w'.cell? ⟨Bp + 1, 1, none⟩ = some (.string f.2.1) ∧ w'.cell? ⟨Bp + 1, 2, none⟩ = some (.string f.2.2.1) ∧ w'.cell? ⟨Bp + 1, 3, none⟩ = some (.int .i64 f.2.2.2)) := fun w' h => ⟨(X4.mem h).cell (j := 0) rfl, (X4.mem h).cell (j := 1) rfl, (X4.mem h).cell (j := 2) rfl, (X4.mem h).cell (j := 3) rfl, (Below.cell h (p := ⟨gc, fc + bn * 4 + 1, none⟩) (World.block_lt_of_cell? W4 _ k1)).trans k1, (P4.mem h).cell (j := 0) rfl, (P4.mem h).cell (j := 1) rfl, (P4.mem h).cell (j := 2) rfl, (F4.mem h).cell (j := 0) rfl, (F4.mem h).cell (j := 1) rfl, (F4.mem h).cell (j := 2) rfl, (F4.mem h).cell (j := 3) rfl⟩
        obtain ⟨c0, c1, c2, c3', k1, p0, p1, p2, q0, q1, q2, q3⟩ := HK.out W4 (Mem.refl _)
        have HBF := hide (fun (w' : World) (h : Mem W4 w') => (hb4.mono (S' := fun x => (x ≠ Bc ∧ w.heap.size < x) ∧ x < W4.heap.size) fun x hx hl => ⟨hx, hl⟩).mem h)
        have HFew := hide (few_inv HI2.out hN2 hM2)
        have HI3 := hide (inv_prog (c := (bs', br', off', ops')) HI2.out bn nx (pg := pg) (f := f) (by unfold maxLen; omega) hf2)
        have N0 : Hid (Mem W4 W4.drew) := Mem.drew (Mem.refl W4)
        have NZ := hide (((Mem.refl W4).alloc (.cells #[.slice none 0 0, .bool false, .bool false, .int .i64 0] 24)).drew)
        have HZ5 := hide (Blk.new W4 #[.slice none 0 0, .bool false, .bool false, .int .i64 0] 24).drew
        have hX4l := X4.lt
        have HBO := hide (hb4.mono (S' := fun x => (x ≠ Bc ∧ w.heap.size < x) ∧ x < W4.heap.size) fun x hx hl => ⟨hx, hl⟩)
        have HX4 := hide X4
        have HR4 := hide R4
        have HM4 := hide M4
        clear X4 R4 P4 F4 M4 hb4
        go_region_held3 (fun w' => w'.cell? ⟨Bc, 0, none⟩ = some (.slice (some ⟨gc, fc, none⟩) bs'.length c3) ∧ w'.cell? ⟨Bc, 1, none⟩ = some (.bool br') ∧ w'.cell? ⟨Bc, 2, none⟩ = some (.bool off') ∧ w'.cell? ⟨Bc, 3, none⟩ = some (.int .i64 ops') ∧ w'.cell? ⟨gc, fc + bn * 4 + 1, none⟩ = some (.int .i64 nx) ∧ w'.cell? ⟨Bp, 0, none⟩ = some (.bool pg.1) ∧ w'.cell? ⟨Bp, 1, none⟩ = some (.string pg.2.1) ∧ w'.cell? ⟨Bp, 2, none⟩ = some (.string pg.2.2) ∧ w'.cell? ⟨Bp + 1, 0, none⟩ = some (.int .i64 f.1) ∧ w'.cell? ⟨Bp + 1, 1, none⟩ = some (.string f.2.1) ∧ w'.cell? ⟨Bp + 1, 2, none⟩ = some (.string f.2.2.1) ∧ w'.cell? ⟨Bp + 1, 3, none⟩ = some (.int .i64 f.2.2.2))
          (first
            | with_reducible exact HK.out _ (Mem.put4 N2.out (Nat.le_refl _) _ _ _ _)
            | with_reducible exact HK.out _ (Mem.alloc N2.out _)
            | with_reducible exact HK.out _ N2.out
            | with_reducible exact HK.out _ NZ.out
            | with_reducible exact HK.out _ N0.out)
          ((go_at_call 12; refine (progSpec_ref _ _ bs' br' off' ops' bn nx pg f _ (HBF.out _ (by first | with_reducible exact N0.out | with_reducible exact NZ.out)) HFew.out).mono ?_; rintro e w5 ⟨hr, n3⟩; have N2' : Mem W4 w5 := (by first | (with_reducible exact Mem.trans N0.out n3) | (with_reducible exact Mem.trans NZ.out n3)); have N2 := hide N2'; clear N2'; (try (have Z7 : Blk w5 W4.heap.size 24 #[.slice none 0 0, .bool false, .bool false, .int .i64 0] := (by with_reducible exact HZ5.out.mem n3); have z0 := Z7.cell (j := 0) rfl; have z1 := Z7.cell (j := 1) rfl; have z2 := Z7.cell (j := 2) rfl; have z3 := Z7.cell (j := 3) rfl; have f0 := Z7.frozen 0; have f1 := Z7.frozen 1; have f2 := Z7.frozen 2; have f3 := Z7.frozen 3)); generalize Nand.program (bs', br', off', ops') bn nx pg f = qq at *; obtain ⟨⟨bs5, br5, off5, ops5⟩, en⟩ := qq; obtain ⟨v5, rfl, hb5⟩ := hr; simp only [] at hb5 HI3 ⊢; obtain ⟨o5, c5, rfl⟩ := hb5.shape; have hn3 := n3.size; have HB5 := hide hb5; clear n3 hb5))
        · have hD := Blk.new w5 #[.slice o5 bs5.length c5, .bool br5, .bool off5, .int .i64 ops5] 24
          have mD : Mem w5 (w5.alloc (.cells #[.slice o5 bs5.length c5, .bool br5, .bool off5, .int .i64 ops5] 24)) := (Mem.refl w5).alloc _
          have X5 := HX4.out.mem (N2.out.trans mD)
          have R5 := HR4.out.mem (N2.out.trans mD)
          have M5 := HM4.out.trans (N2.out.trans mD)
          have hbO := ((HBO.out.mem (N2.out.trans mD))).mono (S' := fun x => x ≠ Bc ∧ w.heap.size < x) fun x hx _ => hx.1
          have hn3' : W4.heap.size ≤ w5.heap.size := N2.out.size
          have hbD := ((HB5.out.mono (S' := fun x => x ≠ Bc ∧ w.heap.size < x) fun x hx hl => by rcases hx with hx | hx; exact hx.1; exact ⟨by have : W4.heap.size ≤ x := hx; omega, by have : W4.heap.size ≤ x := hx; omega⟩)).mem mD
          have hDB : Bc < w5.heap.size := by omega
          generalize hWD : w5.alloc (.cells #[.slice o5 bs5.length c5, .bool br5, .bool off5, .int .i64 ops5] 24) = WD at *
          generalize w5.heap.size = DB at *
          clear hWD mD
          clear HX4 HR4 HM4 N2 HBF HBO HB5 HK NZ HZ5 N0 c0 c1 c2 c3' k1 p0 p1 p2 q0 q1 q2 q3 HFew
          have d0 := hD.cell (j := 0) rfl
          have d1 := hD.cell (j := 1) rfl
          have d2 := hD.cell (j := 2) rfl
          have d3 := hD.cell (j := 3) rfl
          have c0 := X5.cell (j := 0) rfl
          have c1 := X5.cell (j := 1) rfl
          have c2 := X5.cell (j := 2) rfl
          have c3' := X5.cell (j := 3) rfl
          have f0 := X5.frozen 0
          have f1 := X5.frozen 1
          have f2 := X5.frozen 2
          have f3 := X5.frozen 3
          have hmk : m ≤ 8 * (k + 1) := by omega
          by_cases hen : en = 1
          · subst hen
            go_wp2_with fail
            go_roundw
            case rel => exact ⟨m, k + 1, _, _, bs', br', off', ops', by omega, ⟨m2, hmk⟩, by go_num, by go_num, X5, hbO, R5, M5, HI2.out⟩
            case measure => simp [intOf]; omega
          · have hen' : (en != 1) = true := by simp [hen]
            have X6 := X5.put4 (.slice o5 bs5.length c5) (.bool br5) (.bool off5) (.int .i64 ops5)
            have R6 := R5.far4 (b' := Bc) (by omega) (.slice o5 bs5.length c5) (.bool br5) (.bool off5) (.int .i64 ops5)
            have M6 := M5.put4 (b := Bc) (by omega) (.slice o5 bs5.length c5) (.bool br5) (.bool off5) (.int .i64 ops5)
            have hb6 := hbD.put4 (b := Bc) (fun h => h.1 rfl) (.slice o5 bs5.length c5) (.bool br5) (.bool off5) (.int .i64 ops5)
            clear hen
            go_wp2_with fail
            go_roundw
            case rel => exact ⟨m, k + 1, o5, c5, bs5, br5, off5, ops5, by omega, ⟨m2, hmk⟩, by go_num, by go_num, X6, hb6, R6, M6, HI3.out⟩
            case measure => simp [intOf]; omega
        · have hl4 : (W4.alloc (.cells #[.slice none 0 0, .bool false, .bool false, .int .i64 0] 24)).drew.heap.size = W4.heap.size + 1 := by show (W4.alloc _).heap.size = _; simp
          rw [hl4] at hn3
          have hD := Z7.put4 (.slice o5 bs5.length c5) (.bool br5) (.bool off5) (.int .i64 ops5)
          have X5 := (HX4.out.mem N2.out).far4 (b' := W4.heap.size) (by omega) (.slice o5 bs5.length c5) (.bool br5) (.bool off5) (.int .i64 ops5)
          have R5 := (HR4.out.mem N2.out).far4 (b' := W4.heap.size) (by omega) (.slice o5 bs5.length c5) (.bool br5) (.bool off5) (.int .i64 ops5)
          have M5 := (HM4.out.trans N2.out).put4 (b := W4.heap.size) (by omega) (.slice o5 bs5.length c5) (.bool br5) (.bool off5) (.int .i64 ops5)
          have hbO := ((HBO.out.mem N2.out).put4 (b := W4.heap.size) (fun h => by have := h.2; omega) (.slice o5 bs5.length c5) (.bool br5) (.bool off5) (.int .i64 ops5)).mono (S' := fun x => x ≠ Bc ∧ w.heap.size < x) fun x hx _ => hx.1
          have hbD := ((HB5.out.mono (S' := fun x => (x ≠ Bc ∧ w.heap.size < x) ∧ x ≠ W4.heap.size) fun x hx hl => by rcases hx with hx | hx; exact ⟨hx.1, by have := hx.2; omega⟩; exact ⟨⟨by omega, by omega⟩, by omega⟩).put4 (b := W4.heap.size) (fun h => h.2 rfl) (.slice o5 bs5.length c5) (.bool br5) (.bool off5) (.int .i64 ops5)).mono (S' := fun x => x ≠ Bc ∧ w.heap.size < x) fun x hx _ => hx.1
          clear z0 z1 z2 z3 f0 f1 f2 f3 Z7 hl4
          generalize hWD : ((((w5.setCell ⟨W4.heap.size, 0, none⟩ (.slice o5 bs5.length c5)).setCell ⟨W4.heap.size, 1, none⟩ (.bool br5)).setCell ⟨W4.heap.size, 2, none⟩ (.bool off5)).setCell ⟨W4.heap.size, 3, none⟩ (.int .i64 ops5)) = WD at *
          have hDB : Bc < W4.heap.size := hX4l
          generalize W4.heap.size = DB at *
          clear hWD
          clear HX4 HR4 HM4 N2 HBF HBO HB5 HK NZ HZ5 N0 c0 c1 c2 c3' k1 p0 p1 p2 q0 q1 q2 q3 HFew
          have d0 := hD.cell (j := 0) rfl
          have d1 := hD.cell (j := 1) rfl
          have d2 := hD.cell (j := 2) rfl
          have d3 := hD.cell (j := 3) rfl
          have c0 := X5.cell (j := 0) rfl
          have c1 := X5.cell (j := 1) rfl
          have c2 := X5.cell (j := 2) rfl
          have c3' := X5.cell (j := 3) rfl
          have f0 := X5.frozen 0
          have f1 := X5.frozen 1
          have f2 := X5.frozen 2
          have f3 := X5.frozen 3
          have hmk : m ≤ 8 * (k + 1) := by omega
          by_cases hen : en = 1
          · subst hen
            go_wp2_with fail
            go_roundw
            case rel => exact ⟨m, k + 1, _, _, bs', br', off', ops', by omega, ⟨m2, hmk⟩, by go_num, by go_num, X5, hbO, R5, M5, HI2.out⟩
            case measure => simp [intOf]; omega
          · have hen' : (en != 1) = true := by simp [hen]
            have X6 := X5.put4 (.slice o5 bs5.length c5) (.bool br5) (.bool off5) (.int .i64 ops5)
            have R6 := R5.far4 (b' := Bc) (by omega) (.slice o5 bs5.length c5) (.bool br5) (.bool off5) (.int .i64 ops5)
            have M6 := M5.put4 (b := Bc) (by omega) (.slice o5 bs5.length c5) (.bool br5) (.bool off5) (.int .i64 ops5)
            have hb6 := hbD.put4 (b := Bc) (fun h => h.1 rfl) (.slice o5 bs5.length c5) (.bool br5) (.bool off5) (.int .i64 ops5)
            clear hen
            go_wp2_with fail
            go_roundw
            case rel => exact ⟨m, k + 1, o5, c5, bs5, br5, off5, ops5, by omega, ⟨m2, hmk⟩, by go_num, by go_num, X6, hb6, R6, M6, HI3.out⟩
            case measure => simp [intOf]; omega
      · have g11 : ((xn : Int) % 11 == 0) = false := by rw [beq_eq_false_iff_ne]; exact h11
        have g29 : ((xn : Int) % 29 == 0) = true := by rw [beq_iff_eq]; exact h29
        clear h11 h29
        have hA : Mem w2 ((w2.alloc (.cells #[.bool pg.1, .string pg.2.1, .string pg.2.2] 33)).alloc (.cells #[.int .i64 0, .string ⟨#[]⟩, .string ⟨#[]⟩, .int .i64 0] 52)) := ((Mem.refl w2).alloc _).alloc _
        have hP : Blk ((w2.alloc (.cells #[.bool pg.1, .string pg.2.1, .string pg.2.2] 33)).alloc (.cells #[.int .i64 0, .string ⟨#[]⟩, .string ⟨#[]⟩, .int .i64 0] 52)) w2.heap.size 33 #[.bool pg.1, .string pg.2.1, .string pg.2.2] := (Blk.new w2 _ _).alloc _
        have hF := blk_second w2 (.cells #[.bool pg.1, .string pg.2.1, .string pg.2.2] 33) #[.int .i64 0, .string ⟨#[]⟩, .string ⟨#[]⟩, .int .i64 0] 52
        have hXl := hX.lt
        have X1 := hX.mem (n1.trans hA)
        have B1 := hbc.mem (n1.trans hA)
        have R1 := hR.mem (n1.trans hA)
        have M1 := hm.trans (n1.trans hA)
        have hBp : Bc < w2.heap.size := by have := n1.size; omega
        clear hX hbc hR hm
        have c0 := X1.cell (j := 0) rfl
        have c1 := X1.cell (j := 1) rfl
        have c2 := X1.cell (j := 2) rfl
        have c3 := X1.cell (j := 3) rfl
        go_wp2_with fail
        generalize hWA : (w2.alloc (.cells #[.bool pg.1, .string pg.2.1, .string pg.2.2] 33)).alloc (.cells #[.int .i64 0, .string ⟨#[]⟩, .string ⟨#[]⟩, .int .i64 0] 52) = WA at *
        generalize w2.heap.size = Bp at *
        clear hWA hA n1
        clear c0 c1 c2 c3
        have hf2 : (((0, ⟨#[]⟩, ⟨#[]⟩, 0) : FateT).2.2.1).size ≤ maxLen := Nat.zero_le _
        obtain ⟨f, hfe⟩ : ∃ f : FateT, (0, ⟨#[]⟩, ⟨#[]⟩, 0) = f := ⟨_, rfl⟩
        rw [hfe] at hf2
        have hF : Blk WA (Bp + 1) 52 #[.int .i64 f.1, .string f.2.1, .string f.2.2.1, .int .i64 f.2.2.2] := by rw [← hfe]; exact hF
        clear hfe
        refine (eraseSpec_ref _ _ bs br off ops bn (0, ⟨#[]⟩, ⟨#[]⟩, 0) _ B1 (few_inv HI.out hN2 hM2)).mono ?_
        rintro e w3 ⟨hr, n2⟩
        have HI2 := hide (inv_erase (c := (bs, br, off, ops)) HI.out bn)
        clear HI
        generalize erase (bs, br, off, ops) bn (0, ⟨#[]⟩, ⟨#[]⟩, 0) = q at *
        obtain ⟨⟨bs', br', off', ops'⟩, en⟩ := q
        obtain ⟨v3, rfl, hb3⟩ := hr
        simp only [] at hb3 HI2 ⊢
        obtain ⟨o3, c3, rfl⟩ := hb3.shape
        have Z := X1.mem n2
        have z0 := Z.cell (j := 0) rfl
        have z1 := Z.cell (j := 1) rfl
        have z2 := Z.cell (j := 2) rfl
        have z3 := Z.cell (j := 3) rfl
        have f0 := Z.frozen 0
        have f1 := Z.frozen 1
        have f2 := Z.frozen 2
        have f3 := Z.frozen 3
        have hWl := hF.lt
        have hb4 := (hb3.mono (S' := fun x => x ≠ Bc ∧ w.heap.size < x) fun g hg _ => by rcases hg with h | h; exact h; omega).put4 (b := Bc) (fun h => h.1 rfl) (.slice o3 bs'.length c3) (.bool br') (.bool off') (.int .i64 ops')
        have X4 := Z.put4 (.slice o3 bs'.length c3) (.bool br') (.bool off') (.int .i64 ops')
        have R4 := (R1.mem n2).far4 (b' := Bc) (by omega) (.slice o3 bs'.length c3) (.bool br') (.bool off') (.int .i64 ops')
        have P4 := (hP.mem n2).far4 (b' := Bc) (by omega) (.slice o3 bs'.length c3) (.bool br') (.bool off') (.int .i64 ops')
        have F4 := (hF.mem n2).far4 (b' := Bc) (by omega) (.slice o3 bs'.length c3) (.bool br') (.bool off') (.int .i64 ops')
        have M4 := (M1.trans n2).put4 (b := Bc) (by omega) (.slice o3 bs'.length c3) (.bool br') (.bool off') (.int .i64 ops')
        go_wp2_with fail
        generalize hW4 : ((((w3.setCell ⟨Bc, 0, none⟩ (.slice o3 bs'.length c3)).setCell ⟨Bc, 1, none⟩ (.bool br')).setCell ⟨Bc, 2, none⟩ (.bool off')).setCell ⟨Bc, 3, none⟩ (.int .i64 ops')) = W4 at *
        clear hW4 z0 z1 z2 z3 f0 f1 f2 f3 Z hb3 n2 X1 B1 R1 M1 hP hF hWl
        have hlen : bs'.length = N := dims_len HI2.out.1
        have hbi : bn < bs'.length := by omega
        have hbi' : (bn : Int) < (bs'.length : Int) := by omega
        have hbn0 : (0 : Int) ≤ (bn : Int) := by omega
        clear hlen
        obtain ⟨gc, fc, pc, qc, rfl, j1, j2, k1, j3, j4, j5⟩ := hb4.at hbi
        clear j1 j2 j3 j4 j5
        generalize bs'[bn].2.1 = nx at k1
        have HK : Hid (∀ w', Mem W4 w' → w'.cell? ⟨Bc, 0, none⟩ = some (.slice (some ⟨gc, fc, none⟩) bs'.length c3) ∧ w'.cell? ⟨Bc, 1, none⟩ = some (.bool br') ∧ w'.cell? ⟨Bc, 2, none⟩ = some (.bool off') ∧ w'.cell? ⟨Bc, 3, none⟩ = some (.int .i64 ops') ∧ w'.cell? ⟨gc, fc + bn * 4 + 1, none⟩ = some (.int .i64 nx) ∧ w'.cell? ⟨Bp, 0, none⟩ = some (.bool pg.1) ∧ w'.cell? ⟨Bp, 1, none⟩ = some (.string pg.2.1) ∧ w'.cell? ⟨Bp, 2, none⟩ = some (.string pg.2.2) ∧ w'.cell? ⟨Bp + 1, 0, none⟩ = some (.int .i64 f.1) ∧ w'.cell? ⟨Bp + 1, 1, none⟩ = some (.string f.2.1) ∧ w'.cell? ⟨Bp + 1, 2, none⟩ = some (.string f.2.2.1) ∧ w'.cell? ⟨Bp + 1, 3, none⟩ = some (.int .i64 f.2.2.2)) := fun w' h => ⟨(X4.mem h).cell (j := 0) rfl, (X4.mem h).cell (j := 1) rfl, (X4.mem h).cell (j := 2) rfl, (X4.mem h).cell (j := 3) rfl, (Below.cell h (p := ⟨gc, fc + bn * 4 + 1, none⟩) (World.block_lt_of_cell? W4 _ k1)).trans k1, (P4.mem h).cell (j := 0) rfl, (P4.mem h).cell (j := 1) rfl, (P4.mem h).cell (j := 2) rfl, (F4.mem h).cell (j := 0) rfl, (F4.mem h).cell (j := 1) rfl, (F4.mem h).cell (j := 2) rfl, (F4.mem h).cell (j := 3) rfl⟩
        obtain ⟨c0, c1, c2, c3', k1, p0, p1, p2, q0, q1, q2, q3⟩ := HK.out W4 (Mem.refl _)
        have HBF := hide (fun (w' : World) (h : Mem W4 w') => (hb4.mono (S' := fun x => (x ≠ Bc ∧ w.heap.size < x) ∧ x < W4.heap.size) fun x hx hl => ⟨hx, hl⟩).mem h)
        have HFew := hide (few_inv HI2.out hN2 hM2)
        have HI3 := hide (inv_prog (c := (bs', br', off', ops')) HI2.out bn nx (pg := pg) (f := f) (by unfold maxLen; omega) hf2)
        have N0 : Hid (Mem W4 W4.drew) := Mem.drew (Mem.refl W4)
        have NZ := hide (((Mem.refl W4).alloc (.cells #[.slice none 0 0, .bool false, .bool false, .int .i64 0] 24)).drew)
        have HZ5 := hide (Blk.new W4 #[.slice none 0 0, .bool false, .bool false, .int .i64 0] 24).drew
        have hX4l := X4.lt
        have HBO := hide (hb4.mono (S' := fun x => (x ≠ Bc ∧ w.heap.size < x) ∧ x < W4.heap.size) fun x hx hl => ⟨hx, hl⟩)
        have HX4 := hide X4
        have HR4 := hide R4
        have HM4 := hide M4
        clear X4 R4 P4 F4 M4 hb4
        go_region_held3 (fun w' => w'.cell? ⟨Bc, 0, none⟩ = some (.slice (some ⟨gc, fc, none⟩) bs'.length c3) ∧ w'.cell? ⟨Bc, 1, none⟩ = some (.bool br') ∧ w'.cell? ⟨Bc, 2, none⟩ = some (.bool off') ∧ w'.cell? ⟨Bc, 3, none⟩ = some (.int .i64 ops') ∧ w'.cell? ⟨gc, fc + bn * 4 + 1, none⟩ = some (.int .i64 nx) ∧ w'.cell? ⟨Bp, 0, none⟩ = some (.bool pg.1) ∧ w'.cell? ⟨Bp, 1, none⟩ = some (.string pg.2.1) ∧ w'.cell? ⟨Bp, 2, none⟩ = some (.string pg.2.2) ∧ w'.cell? ⟨Bp + 1, 0, none⟩ = some (.int .i64 f.1) ∧ w'.cell? ⟨Bp + 1, 1, none⟩ = some (.string f.2.1) ∧ w'.cell? ⟨Bp + 1, 2, none⟩ = some (.string f.2.2.1) ∧ w'.cell? ⟨Bp + 1, 3, none⟩ = some (.int .i64 f.2.2.2))
          (first
            | with_reducible exact HK.out _ (Mem.put4 N2.out (Nat.le_refl _) _ _ _ _)
            | with_reducible exact HK.out _ (Mem.alloc N2.out _)
            | with_reducible exact HK.out _ N2.out
            | with_reducible exact HK.out _ NZ.out
            | with_reducible exact HK.out _ N0.out)
          ((go_at_call 12; refine (progSpec_ref _ _ bs' br' off' ops' bn nx pg f _ (HBF.out _ (by first | with_reducible exact N0.out | with_reducible exact NZ.out)) HFew.out).mono ?_; rintro e w5 ⟨hr, n3⟩; have N2' : Mem W4 w5 := (by first | (with_reducible exact Mem.trans N0.out n3) | (with_reducible exact Mem.trans NZ.out n3)); have N2 := hide N2'; clear N2'; (try (have Z7 : Blk w5 W4.heap.size 24 #[.slice none 0 0, .bool false, .bool false, .int .i64 0] := (by with_reducible exact HZ5.out.mem n3); have z0 := Z7.cell (j := 0) rfl; have z1 := Z7.cell (j := 1) rfl; have z2 := Z7.cell (j := 2) rfl; have z3 := Z7.cell (j := 3) rfl; have f0 := Z7.frozen 0; have f1 := Z7.frozen 1; have f2 := Z7.frozen 2; have f3 := Z7.frozen 3)); generalize Nand.program (bs', br', off', ops') bn nx pg f = qq at *; obtain ⟨⟨bs5, br5, off5, ops5⟩, en⟩ := qq; obtain ⟨v5, rfl, hb5⟩ := hr; simp only [] at hb5 HI3 ⊢; obtain ⟨o5, c5, rfl⟩ := hb5.shape; have hn3 := n3.size; have HB5 := hide hb5; clear n3 hb5))
        · have hD := Blk.new w5 #[.slice o5 bs5.length c5, .bool br5, .bool off5, .int .i64 ops5] 24
          have mD : Mem w5 (w5.alloc (.cells #[.slice o5 bs5.length c5, .bool br5, .bool off5, .int .i64 ops5] 24)) := (Mem.refl w5).alloc _
          have X5 := HX4.out.mem (N2.out.trans mD)
          have R5 := HR4.out.mem (N2.out.trans mD)
          have M5 := HM4.out.trans (N2.out.trans mD)
          have hbO := ((HBO.out.mem (N2.out.trans mD))).mono (S' := fun x => x ≠ Bc ∧ w.heap.size < x) fun x hx _ => hx.1
          have hn3' : W4.heap.size ≤ w5.heap.size := N2.out.size
          have hbD := ((HB5.out.mono (S' := fun x => x ≠ Bc ∧ w.heap.size < x) fun x hx hl => by rcases hx with hx | hx; exact hx.1; exact ⟨by have : W4.heap.size ≤ x := hx; omega, by have : W4.heap.size ≤ x := hx; omega⟩)).mem mD
          have hDB : Bc < w5.heap.size := by omega
          generalize hWD : w5.alloc (.cells #[.slice o5 bs5.length c5, .bool br5, .bool off5, .int .i64 ops5] 24) = WD at *
          generalize w5.heap.size = DB at *
          clear hWD mD
          clear HX4 HR4 HM4 N2 HBF HBO HB5 HK NZ HZ5 N0 c0 c1 c2 c3' k1 p0 p1 p2 q0 q1 q2 q3 HFew
          have d0 := hD.cell (j := 0) rfl
          have d1 := hD.cell (j := 1) rfl
          have d2 := hD.cell (j := 2) rfl
          have d3 := hD.cell (j := 3) rfl
          have c0 := X5.cell (j := 0) rfl
          have c1 := X5.cell (j := 1) rfl
          have c2 := X5.cell (j := 2) rfl
          have c3' := X5.cell (j := 3) rfl
          have f0 := X5.frozen 0
          have f1 := X5.frozen 1
          have f2 := X5.frozen 2
          have f3 := X5.frozen 3
          have hmk : m ≤ 8 * (k + 1) := by omega
          by_cases hen : en = 1
          · subst hen
            go_wp2_with fail
            go_roundw
            case rel => exact ⟨m, k + 1, _, _, bs', br', off', ops', by omega, ⟨m2, hmk⟩, by go_num, by go_num, X5, hbO, R5, M5, HI2.out⟩
            case measure => simp [intOf]; omega
          · have hen' : (en != 1) = true := by simp [hen]
            have X6 := X5.put4 (.slice o5 bs5.length c5) (.bool br5) (.bool off5) (.int .i64 ops5)
            have R6 := R5.far4 (b' := Bc) (by omega) (.slice o5 bs5.length c5) (.bool br5) (.bool off5) (.int .i64 ops5)
            have M6 := M5.put4 (b := Bc) (by omega) (.slice o5 bs5.length c5) (.bool br5) (.bool off5) (.int .i64 ops5)
            have hb6 := hbD.put4 (b := Bc) (fun h => h.1 rfl) (.slice o5 bs5.length c5) (.bool br5) (.bool off5) (.int .i64 ops5)
            clear hen
            go_wp2_with fail
            go_roundw
            case rel => exact ⟨m, k + 1, o5, c5, bs5, br5, off5, ops5, by omega, ⟨m2, hmk⟩, by go_num, by go_num, X6, hb6, R6, M6, HI3.out⟩
            case measure => simp [intOf]; omega
        · have hl4 : (W4.alloc (.cells #[.slice none 0 0, .bool false, .bool false, .int .i64 0] 24)).drew.heap.size = W4.heap.size + 1 := by show (W4.alloc _).heap.size = _; simp
          rw [hl4] at hn3
          have hD := Z7.put4 (.slice o5 bs5.length c5) (.bool br5) (.bool off5) (.int .i64 ops5)
          have X5 := (HX4.out.mem N2.out).far4 (b' := W4.heap.size) (by omega) (.slice o5 bs5.length c5) (.bool br5) (.bool off5) (.int .i64 ops5)
          have R5 := (HR4.out.mem N2.out).far4 (b' := W4.heap.size) (by omega) (.slice o5 bs5.length c5) (.bool br5) (.bool off5) (.int .i64 ops5)
          have M5 := (HM4.out.trans N2.out).put4 (b := W4.heap.size) (by omega) (.slice o5 bs5.length c5) (.bool br5) (.bool off5) (.int .i64 ops5)
          have hbO := ((HBO.out.mem N2.out).put4 (b := W4.heap.size) (fun h => by have := h.2; omega) (.slice o5 bs5.length c5) (.bool br5) (.bool off5) (.int .i64 ops5)).mono (S' := fun x => x ≠ Bc ∧ w.heap.size < x) fun x hx _ => hx.1
          have hbD := ((HB5.out.mono (S' := fun x => (x ≠ Bc ∧ w.heap.size < x) ∧ x ≠ W4.heap.size) fun x hx hl => by rcases hx with hx | hx; exact ⟨hx.1, by have := hx.2; omega⟩; exact ⟨⟨by omega, by omega⟩, by omega⟩).put4 (b := W4.heap.size) (fun h => h.2 rfl) (.slice o5 bs5.length c5) (.bool br5) (.bool off5) (.int .i64 ops5)).mono (S' := fun x => x ≠ Bc ∧ w.heap.size < x) fun x hx _ => hx.1
          clear z0 z1 z2 z3 f0 f1 f2 f3 Z7 hl4
          generalize hWD : ((((w5.setCell ⟨W4.heap.size, 0, none⟩ (.slice o5 bs5.length c5)).setCell ⟨W4.heap.size, 1, none⟩ (.bool br5)).setCell ⟨W4.heap.size, 2, none⟩ (.bool off5)).setCell ⟨W4.heap.size, 3, none⟩ (.int .i64 ops5)) = WD at *
          have hDB : Bc < W4.heap.size := hX4l
          generalize W4.heap.size = DB at *
          clear hWD
          clear HX4 HR4 HM4 N2 HBF HBO HB5 HK NZ HZ5 N0 c0 c1 c2 c3' k1 p0 p1 p2 q0 q1 q2 q3 HFew
          have d0 := hD.cell (j := 0) rfl
          have d1 := hD.cell (j := 1) rfl
          have d2 := hD.cell (j := 2) rfl
          have d3 := hD.cell (j := 3) rfl
          have c0 := X5.cell (j := 0) rfl
          have c1 := X5.cell (j := 1) rfl
          have c2 := X5.cell (j := 2) rfl
          have c3' := X5.cell (j := 3) rfl
          have f0 := X5.frozen 0
          have f1 := X5.frozen 1
          have f2 := X5.frozen 2
          have f3 := X5.frozen 3
          have hmk : m ≤ 8 * (k + 1) := by omega
          by_cases hen : en = 1
          · subst hen
            go_wp2_with fail
            go_roundw
            case rel => exact ⟨m, k + 1, _, _, bs', br', off', ops', by omega, ⟨m2, hmk⟩, by go_num, by go_num, X5, hbO, R5, M5, HI2.out⟩
            case measure => simp [intOf]; omega
          · have hen' : (en != 1) = true := by simp [hen]
            have X6 := X5.put4 (.slice o5 bs5.length c5) (.bool br5) (.bool off5) (.int .i64 ops5)
            have R6 := R5.far4 (b' := Bc) (by omega) (.slice o5 bs5.length c5) (.bool br5) (.bool off5) (.int .i64 ops5)
            have M6 := M5.put4 (b := Bc) (by omega) (.slice o5 bs5.length c5) (.bool br5) (.bool off5) (.int .i64 ops5)
            have hb6 := hbD.put4 (b := Bc) (fun h => h.1 rfl) (.slice o5 bs5.length c5) (.bool br5) (.bool off5) (.int .i64 ops5)
            clear hen
            go_wp2_with fail
            go_roundw
            case rel => exact ⟨m, k + 1, o5, c5, bs5, br5, off5, ops5, by omega, ⟨m2, hmk⟩, by go_num, by go_num, X6, hb6, R6, M6, HI3.out⟩
            case measure => simp [intOf]; omega
      · have g11 : ((xn : Int) % 11 == 0) = false := by rw [beq_eq_false_iff_ne]; exact h11
        have g29 : ((xn : Int) % 29 == 0) = false := by rw [beq_eq_false_iff_ne]; exact h29
        clear h11 h29
        have hA : Mem w2 ((w2.alloc (.cells #[.bool pg.1, .string pg.2.1, .string pg.2.2] 33)).alloc (.cells #[.int .i64 0, .string ⟨#[]⟩, .string ⟨#[]⟩, .int .i64 0] 52)) := ((Mem.refl w2).alloc _).alloc _
        have hP : Blk ((w2.alloc (.cells #[.bool pg.1, .string pg.2.1, .string pg.2.2] 33)).alloc (.cells #[.int .i64 0, .string ⟨#[]⟩, .string ⟨#[]⟩, .int .i64 0] 52)) w2.heap.size 33 #[.bool pg.1, .string pg.2.1, .string pg.2.2] := (Blk.new w2 _ _).alloc _
        have hF := blk_second w2 (.cells #[.bool pg.1, .string pg.2.1, .string pg.2.2] 33) #[.int .i64 0, .string ⟨#[]⟩, .string ⟨#[]⟩, .int .i64 0] 52
        have hXl := hX.lt
        have X1 := hX.mem (n1.trans hA)
        have B1 := hbc.mem (n1.trans hA)
        have R1 := hR.mem (n1.trans hA)
        have M1 := hm.trans (n1.trans hA)
        have hBp : Bc < w2.heap.size := by have := n1.size; omega
        clear hX hbc hR hm
        have c0 := X1.cell (j := 0) rfl
        have c1 := X1.cell (j := 1) rfl
        have c2 := X1.cell (j := 2) rfl
        have c3 := X1.cell (j := 3) rfl
        go_wp2_with fail
        generalize hWA : (w2.alloc (.cells #[.bool pg.1, .string pg.2.1, .string pg.2.2] 33)).alloc (.cells #[.int .i64 0, .string ⟨#[]⟩, .string ⟨#[]⟩, .int .i64 0] 52) = WA at *
        generalize w2.heap.size = Bp at *
        clear hWA hA n1
        clear c0 c1 c2 c3
        have hf2 : (((0, ⟨#[]⟩, ⟨#[]⟩, 0) : FateT).2.2.1).size ≤ maxLen := Nat.zero_le _
        obtain ⟨f, hfe⟩ : ∃ f : FateT, (0, ⟨#[]⟩, ⟨#[]⟩, 0) = f := ⟨_, rfl⟩
        rw [hfe] at hf2
        have hF : Blk WA (Bp + 1) 52 #[.int .i64 f.1, .string f.2.1, .string f.2.2.1, .int .i64 f.2.2.2] := by rw [← hfe]; exact hF
        clear hfe
        have HI2 := hide HI.out
        clear HI
        obtain ⟨bs', rfl⟩ : ∃ x, x = bs := ⟨_, rfl⟩
        obtain ⟨br', rfl⟩ : ∃ x, x = br := ⟨_, rfl⟩
        obtain ⟨off', rfl⟩ : ∃ x, x = off := ⟨_, rfl⟩
        obtain ⟨ops', rfl⟩ : ∃ x, x = ops := ⟨_, rfl⟩
        obtain ⟨o3, rfl⟩ : ∃ x, x = oc := ⟨_, rfl⟩
        obtain ⟨c3, rfl⟩ : ∃ x, x = cc := ⟨_, rfl⟩
        have hb4 := B1
        have X4 := X1
        have R4 := R1
        have P4 := hP
        have F4 := hF
        have M4 := M1
        clear B1 X1 R1 hP hF M1
        generalize WA = W4 at *
        have hlen : bs'.length = N := dims_len HI2.out.1
        have hbi : bn < bs'.length := by omega
        have hbi' : (bn : Int) < (bs'.length : Int) := by omega
        have hbn0 : (0 : Int) ≤ (bn : Int) := by omega
        clear hlen
        obtain ⟨gc, fc, pc, qc, rfl, j1, j2, k1, j3, j4, j5⟩ := hb4.at hbi
        clear j1 j2 j3 j4 j5
        generalize bs'[bn].2.1 = nx at k1
        have HK : Hid (∀ w', Mem W4 w' → w'.cell? ⟨Bc, 0, none⟩ = some (.slice (some ⟨gc, fc, none⟩) bs'.length c3) ∧ w'.cell? ⟨Bc, 1, none⟩ = some (.bool br') ∧ w'.cell? ⟨Bc, 2, none⟩ = some (.bool off') ∧ w'.cell? ⟨Bc, 3, none⟩ = some (.int .i64 ops') ∧ w'.cell? ⟨gc, fc + bn * 4 + 1, none⟩ = some (.int .i64 nx) ∧ w'.cell? ⟨Bp, 0, none⟩ = some (.bool pg.1) ∧ w'.cell? ⟨Bp, 1, none⟩ = some (.string pg.2.1) ∧ w'.cell? ⟨Bp, 2, none⟩ = some (.string pg.2.2) ∧ w'.cell? ⟨Bp + 1, 0, none⟩ = some (.int .i64 f.1) ∧ w'.cell? ⟨Bp + 1, 1, none⟩ = some (.string f.2.1) ∧ w'.cell? ⟨Bp + 1, 2, none⟩ = some (.string f.2.2.1) ∧ w'.cell? ⟨Bp + 1, 3, none⟩ = some (.int .i64 f.2.2.2)) := fun w' h => ⟨(X4.mem h).cell (j := 0) rfl, (X4.mem h).cell (j := 1) rfl, (X4.mem h).cell (j := 2) rfl, (X4.mem h).cell (j := 3) rfl, (Below.cell h (p := ⟨gc, fc + bn * 4 + 1, none⟩) (World.block_lt_of_cell? W4 _ k1)).trans k1, (P4.mem h).cell (j := 0) rfl, (P4.mem h).cell (j := 1) rfl, (P4.mem h).cell (j := 2) rfl, (F4.mem h).cell (j := 0) rfl, (F4.mem h).cell (j := 1) rfl, (F4.mem h).cell (j := 2) rfl, (F4.mem h).cell (j := 3) rfl⟩
        obtain ⟨c0, c1, c2, c3', k1, p0, p1, p2, q0, q1, q2, q3⟩ := HK.out W4 (Mem.refl _)
        have HBF := hide (fun (w' : World) (h : Mem W4 w') => (hb4.mono (S' := fun x => (x ≠ Bc ∧ w.heap.size < x) ∧ x < W4.heap.size) fun x hx hl => ⟨hx, hl⟩).mem h)
        have HFew := hide (few_inv HI2.out hN2 hM2)
        have HI3 := hide (inv_prog (c := (bs', br', off', ops')) HI2.out bn nx (pg := pg) (f := f) (by unfold maxLen; omega) hf2)
        have N0 : Hid (Mem W4 W4.drew) := Mem.drew (Mem.refl W4)
        have NZ := hide (((Mem.refl W4).alloc (.cells #[.slice none 0 0, .bool false, .bool false, .int .i64 0] 24)).drew)
        have HZ5 := hide (Blk.new W4 #[.slice none 0 0, .bool false, .bool false, .int .i64 0] 24).drew
        have hX4l := X4.lt
        have HBO := hide (hb4.mono (S' := fun x => (x ≠ Bc ∧ w.heap.size < x) ∧ x < W4.heap.size) fun x hx hl => ⟨hx, hl⟩)
        have HX4 := hide X4
        have HR4 := hide R4
        have HM4 := hide M4
        clear X4 R4 P4 F4 M4 hb4
        go_region_held3 (fun w' => w'.cell? ⟨Bc, 0, none⟩ = some (.slice (some ⟨gc, fc, none⟩) bs'.length c3) ∧ w'.cell? ⟨Bc, 1, none⟩ = some (.bool br') ∧ w'.cell? ⟨Bc, 2, none⟩ = some (.bool off') ∧ w'.cell? ⟨Bc, 3, none⟩ = some (.int .i64 ops') ∧ w'.cell? ⟨gc, fc + bn * 4 + 1, none⟩ = some (.int .i64 nx) ∧ w'.cell? ⟨Bp, 0, none⟩ = some (.bool pg.1) ∧ w'.cell? ⟨Bp, 1, none⟩ = some (.string pg.2.1) ∧ w'.cell? ⟨Bp, 2, none⟩ = some (.string pg.2.2) ∧ w'.cell? ⟨Bp + 1, 0, none⟩ = some (.int .i64 f.1) ∧ w'.cell? ⟨Bp + 1, 1, none⟩ = some (.string f.2.1) ∧ w'.cell? ⟨Bp + 1, 2, none⟩ = some (.string f.2.2.1) ∧ w'.cell? ⟨Bp + 1, 3, none⟩ = some (.int .i64 f.2.2.2))
          (first
            | with_reducible exact HK.out _ (Mem.put4 N2.out (Nat.le_refl _) _ _ _ _)
            | with_reducible exact HK.out _ (Mem.alloc N2.out _)
            | with_reducible exact HK.out _ N2.out
            | with_reducible exact HK.out _ NZ.out
            | with_reducible exact HK.out _ N0.out)
          ((go_at_call 12; refine (progSpec_ref _ _ bs' br' off' ops' bn nx pg f _ (HBF.out _ (by first | with_reducible exact N0.out | with_reducible exact NZ.out)) HFew.out).mono ?_; rintro e w5 ⟨hr, n3⟩; have N2' : Mem W4 w5 := (by first | (with_reducible exact Mem.trans N0.out n3) | (with_reducible exact Mem.trans NZ.out n3)); have N2 := hide N2'; clear N2'; (try (have Z7 : Blk w5 W4.heap.size 24 #[.slice none 0 0, .bool false, .bool false, .int .i64 0] := (by with_reducible exact HZ5.out.mem n3); have z0 := Z7.cell (j := 0) rfl; have z1 := Z7.cell (j := 1) rfl; have z2 := Z7.cell (j := 2) rfl; have z3 := Z7.cell (j := 3) rfl; have f0 := Z7.frozen 0; have f1 := Z7.frozen 1; have f2 := Z7.frozen 2; have f3 := Z7.frozen 3)); generalize Nand.program (bs', br', off', ops') bn nx pg f = qq at *; obtain ⟨⟨bs5, br5, off5, ops5⟩, en⟩ := qq; obtain ⟨v5, rfl, hb5⟩ := hr; simp only [] at hb5 HI3 ⊢; obtain ⟨o5, c5, rfl⟩ := hb5.shape; have hn3 := n3.size; have HB5 := hide hb5; clear n3 hb5))
        · have hD := Blk.new w5 #[.slice o5 bs5.length c5, .bool br5, .bool off5, .int .i64 ops5] 24
          have mD : Mem w5 (w5.alloc (.cells #[.slice o5 bs5.length c5, .bool br5, .bool off5, .int .i64 ops5] 24)) := (Mem.refl w5).alloc _
          have X5 := HX4.out.mem (N2.out.trans mD)
          have R5 := HR4.out.mem (N2.out.trans mD)
          have M5 := HM4.out.trans (N2.out.trans mD)
          have hbO := ((HBO.out.mem (N2.out.trans mD))).mono (S' := fun x => x ≠ Bc ∧ w.heap.size < x) fun x hx _ => hx.1
          have hn3' : W4.heap.size ≤ w5.heap.size := N2.out.size
          have hbD := ((HB5.out.mono (S' := fun x => x ≠ Bc ∧ w.heap.size < x) fun x hx hl => by rcases hx with hx | hx; exact hx.1; exact ⟨by have : W4.heap.size ≤ x := hx; omega, by have : W4.heap.size ≤ x := hx; omega⟩)).mem mD
          have hDB : Bc < w5.heap.size := by omega
          generalize hWD : w5.alloc (.cells #[.slice o5 bs5.length c5, .bool br5, .bool off5, .int .i64 ops5] 24) = WD at *
          generalize w5.heap.size = DB at *
          clear hWD mD
          clear HX4 HR4 HM4 N2 HBF HBO HB5 HK NZ HZ5 N0 c0 c1 c2 c3' k1 p0 p1 p2 q0 q1 q2 q3 HFew
          have d0 := hD.cell (j := 0) rfl
          have d1 := hD.cell (j := 1) rfl
          have d2 := hD.cell (j := 2) rfl
          have d3 := hD.cell (j := 3) rfl
          have c0 := X5.cell (j := 0) rfl
          have c1 := X5.cell (j := 1) rfl
          have c2 := X5.cell (j := 2) rfl
          have c3' := X5.cell (j := 3) rfl
          have f0 := X5.frozen 0
          have f1 := X5.frozen 1
          have f2 := X5.frozen 2
          have f3 := X5.frozen 3
          have hmk : m ≤ 8 * (k + 1) := by omega
          by_cases hen : en = 1
          · subst hen
            go_wp2_with fail
            go_roundw
            case rel => exact ⟨m, k + 1, _, _, bs', br', off', ops', by omega, ⟨m2, hmk⟩, by go_num, by go_num, X5, hbO, R5, M5, HI2.out⟩
            case measure => simp [intOf]; omega
          · have hen' : (en != 1) = true := by simp [hen]
            have X6 := X5.put4 (.slice o5 bs5.length c5) (.bool br5) (.bool off5) (.int .i64 ops5)
            have R6 := R5.far4 (b' := Bc) (by omega) (.slice o5 bs5.length c5) (.bool br5) (.bool off5) (.int .i64 ops5)
            have M6 := M5.put4 (b := Bc) (by omega) (.slice o5 bs5.length c5) (.bool br5) (.bool off5) (.int .i64 ops5)
            have hb6 := hbD.put4 (b := Bc) (fun h => h.1 rfl) (.slice o5 bs5.length c5) (.bool br5) (.bool off5) (.int .i64 ops5)
            clear hen
            go_wp2_with fail
            go_roundw
            case rel => exact ⟨m, k + 1, o5, c5, bs5, br5, off5, ops5, by omega, ⟨m2, hmk⟩, by go_num, by go_num, X6, hb6, R6, M6, HI3.out⟩
            case measure => simp [intOf]; omega
        · have hl4 : (W4.alloc (.cells #[.slice none 0 0, .bool false, .bool false, .int .i64 0] 24)).drew.heap.size = W4.heap.size + 1 := by show (W4.alloc _).heap.size = _; simp
          rw [hl4] at hn3
          have hD := Z7.put4 (.slice o5 bs5.length c5) (.bool br5) (.bool off5) (.int .i64 ops5)
          have X5 := (HX4.out.mem N2.out).far4 (b' := W4.heap.size) (by omega) (.slice o5 bs5.length c5) (.bool br5) (.bool off5) (.int .i64 ops5)
          have R5 := (HR4.out.mem N2.out).far4 (b' := W4.heap.size) (by omega) (.slice o5 bs5.length c5) (.bool br5) (.bool off5) (.int .i64 ops5)
          have M5 := (HM4.out.trans N2.out).put4 (b := W4.heap.size) (by omega) (.slice o5 bs5.length c5) (.bool br5) (.bool off5) (.int .i64 ops5)
          have hbO := ((HBO.out.mem N2.out).put4 (b := W4.heap.size) (fun h => by have := h.2; omega) (.slice o5 bs5.length c5) (.bool br5) (.bool off5) (.int .i64 ops5)).mono (S' := fun x => x ≠ Bc ∧ w.heap.size < x) fun x hx _ => hx.1
          have hbD := ((HB5.out.mono (S' := fun x => (x ≠ Bc ∧ w.heap.size < x) ∧ x ≠ W4.heap.size) fun x hx hl => by rcases hx with hx | hx; exact ⟨hx.1, by have := hx.2; omega⟩; exact ⟨⟨by omega, by omega⟩, by omega⟩).put4 (b := W4.heap.size) (fun h => h.2 rfl) (.slice o5 bs5.length c5) (.bool br5) (.bool off5) (.int .i64 ops5)).mono (S' := fun x => x ≠ Bc ∧ w.heap.size < x) fun x hx _ => hx.1
          clear z0 z1 z2 z3 f0 f1 f2 f3 Z7 hl4
          generalize hWD : ((((w5.setCell ⟨W4.heap.size, 0, none⟩ (.slice o5 bs5.length c5)).setCell ⟨W4.heap.size, 1, none⟩ (.bool br5)).setCell ⟨W4.heap.size, 2, none⟩ (.bool off5)).setCell ⟨W4.heap.size, 3, none⟩ (.int .i64 ops5)) = WD at *
          have hDB : Bc < W4.heap.size := hX4l
          generalize W4.heap.size = DB at *
          clear hWD
          clear HX4 HR4 HM4 N2 HBF HBO HB5 HK NZ HZ5 N0 c0 c1 c2 c3' k1 p0 p1 p2 q0 q1 q2 q3 HFew
          have d0 := hD.cell (j := 0) rfl
          have d1 := hD.cell (j := 1) rfl
          have d2 := hD.cell (j := 2) rfl
          have d3 := hD.cell (j := 3) rfl
          have c0 := X5.cell (j := 0) rfl
          have c1 := X5.cell (j := 1) rfl
          have c2 := X5.cell (j := 2) rfl
          have c3' := X5.cell (j := 3) rfl
          have f0 := X5.frozen 0
          have f1 := X5.frozen 1
          have f2 := X5.frozen 2
          have f3 := X5.frozen 3
          have hmk : m ≤ 8 * (k + 1) := by omega
          by_cases hen : en = 1
          · subst hen
            go_wp2_with fail
            go_roundw
            case rel => exact ⟨m, k + 1, _, _, bs', br', off', ops', by omega, ⟨m2, hmk⟩, by go_num, by go_num, X5, hbO, R5, M5, HI2.out⟩
            case measure => simp [intOf]; omega
          · have hen' : (en != 1) = true := by simp [hen]
            have X6 := X5.put4 (.slice o5 bs5.length c5) (.bool br5) (.bool off5) (.int .i64 ops5)
            have R6 := R5.far4 (b' := Bc) (by omega) (.slice o5 bs5.length c5) (.bool br5) (.bool off5) (.int .i64 ops5)
            have M6 := M5.put4 (b := Bc) (by omega) (.slice o5 bs5.length c5) (.bool br5) (.bool off5) (.int .i64 ops5)
            have hb6 := hbD.put4 (b := Bc) (fun h => h.1 rfl) (.slice o5 bs5.length c5) (.bool br5) (.bool off5) (.int .i64 ops5)
            clear hen
            go_wp2_with fail
            go_roundw
            case rel => exact ⟨m, k + 1, o5, c5, bs5, br5, off5, ops5, by omega, ⟨m2, hmk⟩, by go_num, by go_num, X6, hb6, R6, M6, HI3.out⟩
            case measure => simp [intOf]; omega
    · have hc : (40 : Int) ≤ (k : Int) ∨ ((k : Int) < 40 ∧ (zs.length : Int) ≤ (t : Int)) := by omega
      have z0 := hR.cell (j := 0) rfl
      have z1 := hR.cell (j := 1) rfl
      have z2 := hR.cell (j := 2) rfl
      have z3 := hR.cell (j := 3) rfl
      have f0 := hR.frozen 0
      have f1 := hR.frozen 1
      have f2 := hR.frozen 2
      have f3 := hR.frozen 3
      have c0 := hX.cell (j := 0) rfl
      have c1 := hX.cell (j := 1) rfl
      have c2 := hX.cell (j := 2) rfl
      have c3 := hX.cell (j := 3) rfl
      clear hlt
      rcases hc with hc | ⟨hc, hc'⟩
      all_goals (
        go_wp2_with fail
        refine bodyPost_ret (ret_chip1 rfl _ _ rfl (hR.put4 _ _ _ _)) rfl ⟨⟨_, bs, br, off, ops, rfl, ?_, hI⟩, hm.put4 (Nat.le_refl _) _ _ _ _⟩
        exact (hbc.put4 (b := w.heap.size) (fun h => by have := h.2; omega) _ _ _ _).mono fun x hx _ => Nat.le_of_lt hx.2)
end Go.Proofs.YtedopplldpcinaaGreat.Scan
