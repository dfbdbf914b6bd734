/-
  Layer 5: a chip behind a step by the document.
-/
import Derived.Test.YtodncodjnoegmaaNandDoneDefs
namespace Go.Proofs.Ytodncodjnoegmaa.Nand
open Go.RowKit

theorem ret_chip3 {fn : Func} {p u v : Tmp} (h : fn.results = #[.cell p 27, .tmp u, .tmp v]) (tmps : Array Value) (w : World) {b : Nat} {a0 a1 a2 a3 : Value} (hp : tmps.getD p undef = .pointer (some ⟨b, 0, none⟩)) (hb : Blk w b 27 #[a0, a1, a2, a3]) :
    (results fn tmps).run Try.prog w = .ok (.tuple #[.agg #[a0, a1, a2, a3], tmps.getD u undef, tmps.getD v undef]) w := by
  have hp' : tmps[p]?.getD undef = .pointer (some ⟨b, 0, none⟩) := by simpa using hp
  simp [results, h, hp', asAddr, load_chip hb]

theorem _root_.Go.Proofs.Ytodncodjnoegmaa.Blk.far4 {w : World} {b b' : Nat} {t : TypeId} {cs : Array Value} (h : Blk w b t cs) (hb : b ≠ b') (x0 x1 x2 x3 : Value) :
    Blk ((((w.setCell ⟨b', 0, none⟩ x0).setCell ⟨b', 1, none⟩ x1).setCell ⟨b', 2, none⟩ x2).setCell ⟨b', 3, none⟩ x3) b t cs :=
  (((h.other (a := ⟨b', 0, none⟩) hb x0).other (a := ⟨b', 1, none⟩) hb x1).other (a := ⟨b', 2, none⟩) hb x2).other (a := ⟨b', 3, none⟩) hb x3

set_option maxHeartbeats 4000000 in
set_option maxRecDepth 100000 in
theorem lawDone (S : Nat → Prop) (vb : Value) (bs : List BlockT) (br off : Bool) (ops : Int) (s : StepT) (w : World) (hb : BlocksAt S w vb bs) (hf : Few bs) (hs : StepOk s) :
    Calls Try.prog 16 #[chipV vb br off ops, stepV s] w fun e w' => (∃ v', e = .returned (.tuple #[chipV v' (doneR (bs, br, off, ops) s).2.1 (doneR (bs, br, off, ops) s).2.2.1 (doneR (bs, br, off, ops) s).2.2.2, .int .i64 (s.2.1 % 5), .int .i64 (doneP bs s)]) ∧ BlocksAt (fun x => S x ∨ w.heap.size ≤ x) w' v' (doneR (bs, br, off, ops) s).1) ∧ Mem w w' := by
  obtain ⟨oa, ca, rfl⟩ := hb.shape
  obtain ⟨k, b, p, f, d, t⟩ := s
  have hs' := hs
  obtain ⟨⟨hk0, hk1⟩, ⟨hb0, hb1⟩, ⟨hp0, hp1⟩, hf0, hf1⟩ := hs'
  simp only [] at hk0 hk1 hb0 hb1 hp0 hp1 hf0 hf1
  have hfew := hf
  obtain ⟨hfl, _⟩ := hfew
  obtain ⟨W0, hW0⟩ : ∃ W, W = ((w.alloc (.cells #[.slice oa bs.length ca, .bool br, .bool off, .int .i64 ops] 27)).alloc (.cells #[.int .u8 k, .int .u8 b, .int .u8 p, .int .u8 f, .string d, .string t] 45)).alloc (.cells #[.slice none 0 0, .bool false, .bool false, .int .i64 0] 27) := ⟨_, rfl⟩
  have hm : Mem w W0 := by rw [hW0]; exact (((Mem.refl w).alloc _).alloc _).alloc _
  have hC : Blk W0 w.heap.size 27 #[.slice oa bs.length ca, .bool br, .bool off, .int .i64 ops] := by rw [hW0]; exact ((Blk.new w _ _).alloc _).alloc _
  have hP : Blk W0 (w.heap.size + 1) 45 #[.int .u8 k, .int .u8 b, .int .u8 p, .int .u8 f, .string d, .string t] := by rw [hW0]; exact (blk_second w _ _ _).alloc _
  have hR : Blk W0 (w.heap.size + 1 + 1) 27 #[.slice none 0 0, .bool false, .bool false, .int .i64 0] := by
    have := blk_second (w.alloc (.cells #[.slice oa bs.length ca, .bool br, .bool off, .int .i64 ops] 27)) (.cells #[.int .u8 k, .int .u8 b, .int .u8 p, .int .u8 f, .string d, .string t] 45) #[.slice none 0 0, .bool false, .bool false, .int .i64 0] 27
    rw [alloc_size, ← hW0] at this; exact this
  have hW := hide hW0
  clear hW0
  replace hb : BlocksAt (fun x => S x ∧ x < w.heap.size) W0 (.slice oa bs.length ca) bs := (hb.mono fun x hx hl => ⟨hx, hl⟩).mem hm
  have hbm0 : 0 ≤ b % 5 := by omega
  have hbm1 : b % 5 < 5 := by omega
  obtain ⟨P, hPe⟩ : ∃ P, P = doneP bs (k, b, p, f, d, t) := ⟨_, rfl⟩
  have HPe := hide hPe
  clear hPe
  have hcase : ((b % 5).toNat < bs.length ∧ p < 220) ∨ ((b % 5).toNat < bs.length ∧ 220 ≤ p) ∨ bs.length ≤ (b % 5).toNat := by omega
  rcases hcase with ⟨hlt, hp2⟩ | ⟨hlt, hp2⟩ | hlt
  all_goals (first
    | (have hlt' : b % 5 < (bs.length : Int) := by omega
       have hp2' : p < 220 := by omega
       obtain ⟨g, og, op, cp, hoa, hSg, x0, x1, x2, x3, hpx⟩ := hb.at hlt
       have hnx : bs[(b % 5).toNat].2.1 = P := by
         rw [HPe.out]; unfold doneP; simp only []
         rw [if_pos ⟨hlt', hp2⟩]; simp [hlt]
       rw [hnx] at x1
       rw [hW.out] at x0 x1 x2 x3
       subst hoa
       clear hnx hpx hSg
       go_enter Try.func16, Try.ntmps16
       go_wp2_with fail
       clear x0 x1 x2 x3 hlt hlt' hp2 hp2'
       rw [← hW.out]
       clear hW
       generalize (some (⟨g, og, none⟩ : Addr)) = oa at *)
    | (have hlt' : b % 5 < (bs.length : Int) := by omega
       have hp2' : 220 ≤ p := by omega
       have hpe : p % 6 = P := by rw [HPe.out]; unfold doneP; simp only []; rw [if_neg (by omega)]
       go_enter Try.func16, Try.ntmps16
       go_wp2_with fail
       try rw [hpe]
       clear hlt hlt' hp2 hp2' hpe
       rw [← hW.out]
       clear hW)
    | (have hlt' : (bs.length : Int) ≤ b % 5 := by omega
       have hpe : p % 6 = P := by rw [HPe.out]; unfold doneP; simp only []; rw [if_neg (by omega)]
       go_enter Try.func16, Try.ntmps16
       go_wp2_with fail
       try rw [hpe]
       clear hlt hlt' hpe
       rw [← hW.out]
       clear hW))
  all_goals (
    refine (lawFate (k, b, p, f, d, t) _ hs).mono ?_
    rintro e w1 ⟨rfl, m1⟩
    generalize hF : fateOf (k, b, p, f, d, t) = F
    have HF := hide hF
    clear hF
    simp only [fateV]
    have ha : Mem w1 ((w1.alloc (.cells #[.int .i64 F.1, .string F.2.1, .string F.2.2.1, .int .i64 F.2.2.2] 36)).alloc (.cells #[.slice oa bs.length ca, .bool br, .bool off, .int .i64 ops] 27)) := ((Mem.refl w1).alloc _).alloc _
    have hFb : Blk ((w1.alloc (.cells #[.int .i64 F.1, .string F.2.1, .string F.2.2.1, .int .i64 F.2.2.2] 36)).alloc (.cells #[.slice oa bs.length ca, .bool br, .bool off, .int .i64 ops] 27)) w1.heap.size 36 #[.int .i64 F.1, .string F.2.1, .string F.2.2.1, .int .i64 F.2.2.2] := (Blk.new w1 _ _).alloc _
    have hO := blk_second w1 (.cells #[.int .i64 F.1, .string F.2.1, .string F.2.2.1, .int .i64 F.2.2.2] 36) #[.slice oa bs.length ca, .bool br, .bool off, .int .i64 ops] 27
    have hbo : w.heap.size ≤ w1.heap.size := (hm.trans m1).size
    have hbr : w.heap.size + 1 + 1 < w1.heap.size := Nat.lt_of_lt_of_le hR.lt m1.size
    have hC1 := hC.mem (m1.trans ((Mem.refl w1).alloc (.cells #[.int .i64 F.1, .string F.2.1, .string F.2.2.1, .int .i64 F.2.2.2] 36)))
    have n1 := m1.trans ha
    replace hm := hm.trans n1
    replace hC := hC.mem n1
    replace hP := hP.mem n1
    replace hR := hR.mem n1
    replace hb := hb.mem n1
    clear m1 ha n1
    have c0 := hC.cell (j := 0) rfl
    have c1 := hC.cell (j := 1) rfl
    have c2 := hC.cell (j := 2) rfl
    have c3 := hC.cell (j := 3) rfl
    have s0 := hP.cell (j := 0) rfl
    have s4 := hP.cell (j := 4) rfl
    have s5 := hP.cell (j := 5) rfl
    have d0 := hC1.cell (j := 0) rfl
    have d1 := hC1.cell (j := 1) rfl
    have d2 := hC1.cell (j := 2) rfl
    have d3 := hC1.cell (j := 3) rfl
    clear hC1
    by_cases hk4 : k % 4 = 0)
  all_goals (first
    | (have e4 : (k % 4 == 0) = true := by rw [hk4]; rfl
       go_wp2_with fail
       clear c0 c1 c2 c3 s0 s4 s5 d0 d1 d2 d3
       refine (eraseSpec_ref _ _ bs br off ops (b % 5) F _ hb hf).mono ?_
       rintro e w2 ⟨hr, m2⟩
       have hfq := erase_few (c := (bs, br, off, ops)) hf (b % 5) F
       have HD : Hid (doneC (bs, br, off, ops) (k, b, p, f, d, t) = erase (bs, br, off, ops) (b % 5) F) := by
         show _ = _; unfold doneC; simp only []; rw [HF.out, if_pos hk4]
       generalize erase (bs, br, off, ops) (b % 5) F = q at *
       clear hk4 e4)
    | (have e4 : (k % 4 == 0) = false := by rw [beq_eq_false_iff_ne]; exact hk4
       go_wp2_with fail
       clear c0 c1 c2 c3 s0 s4 s5 d0 d1 d2 d3
       refine (progSpec_ref _ _ bs br off ops (b % 5) P (false, d, t) F _ hb hf).mono ?_
       rintro e w2 ⟨hr, m2⟩
       have hfq := program_few (c := (bs, br, off, ops)) hf (b % 5) P (false, d, t) F
       have HD : Hid (doneC (bs, br, off, ops) (k, b, p, f, d, t) = program (bs, br, off, ops) (b % 5) P (false, d, t) F) := by
         show _ = _; unfold doneC; simp only []; rw [HF.out, if_neg hk4, ← HPe.out]
       generalize program (bs, br, off, ops) (b % 5) P (false, d, t) F = q at *
       clear hk4 e4))
  all_goals (
    obtain ⟨⟨bs1, br1, of1, op1⟩, e1⟩ := q
    obtain ⟨v2, rfl, hb2⟩ := hr
    simp only [] at hb2 hfq
    obtain ⟨o2, cc2, rfl⟩ := hb2.shape
    have hA1 : w1.heap.size + 1 < ((w1.alloc (.cells #[.int .i64 F.1, .string F.2.1, .string F.2.2.1, .int .i64 F.2.2.2] 36)).alloc (.cells #[.slice oa bs.length ca, .bool br, .bool off, .int .i64 ops] 27)).heap.size := hO.lt
    have hO2 := hO.mem m2
    have hP2 := hP.mem m2
    have hR2 := hR.mem m2
    have hm2 := hm.trans m2
    generalize ((w1.alloc (.cells #[.int .i64 F.1, .string F.2.1, .string F.2.2.1, .int .i64 F.2.2.2] 36)).alloc (.cells #[.slice oa bs.length ca, .bool br, .bool off, .int .i64 ops] 27)) = A at *
    generalize hBo : w1.heap.size + 1 = Bo at *
    have hBo1 : w.heap.size + 1 + 1 < Bo := by omega
    clear hO hP hR hm hC hb hFb hBo
    have hA2 := m2.size
    clear m2
    have u0 := hO2.cell (j := 0) rfl
    have u1 := hO2.cell (j := 1) rfl
    have u2 := hO2.cell (j := 2) rfl
    have u3 := hO2.cell (j := 3) rfl
    have g0 := hO2.frozen 0
    have g1 := hO2.frozen 1
    have g2 := hO2.frozen 2
    have g3 := hO2.frozen 3
    have hO3 := hO2.put4 (.slice o2 bs1.length cc2) (.bool br1) (.bool of1) (.int .i64 op1)
    have hP3 := hP2.far4 (b' := Bo) (by omega) (.slice o2 bs1.length cc2) (.bool br1) (.bool of1) (.int .i64 op1)
    have hR3 := hR2.far4 (b' := Bo) (by omega) (.slice o2 bs1.length cc2) (.bool br1) (.bool of1) (.int .i64 op1)
    have hm3 := hm2.put4 (b := Bo) (by omega) (.slice o2 bs1.length cc2) (.bool br1) (.bool of1) (.int .i64 op1)
    have hb3 := hb2.put4 (b := Bo) (fun hx => by rcases hx with ⟨_, hx⟩ | hx <;> omega) (.slice o2 bs1.length cc2) (.bool br1) (.bool of1) (.int .i64 op1)
    have hsz3 : ((((w2.setCell ⟨Bo, 0, none⟩ (.slice o2 bs1.length cc2)).setCell ⟨Bo, 1, none⟩ (.bool br1)).setCell ⟨Bo, 2, none⟩ (.bool of1)).setCell ⟨Bo, 3, none⟩ (.int .i64 op1)).heap.size = w2.heap.size := by rw [size_setCell, size_setCell, size_setCell, size_setCell]
    have HS3 := hide hsz3
    have s0 := hP3.cell (j := 0) rfl
    have u4 := hO3.cell (j := 0) rfl
    have u5 := hO3.cell (j := 1) rfl
    have u6 := hO3.cell (j := 2) rfl
    have u7 := hO3.cell (j := 3) rfl
    have z0 := hR3.cell (j := 0) rfl
    have z1 := hR3.cell (j := 1) rfl
    have z2 := hR3.cell (j := 2) rfl
    have z3 := hR3.cell (j := 3) rfl
    have y0 := hR3.frozen 0
    have y1 := hR3.frozen 1
    have y2 := hR3.frozen 2
    have y3 := hR3.frozen 3
    clear hb2 hO2 hP2 hR2 hm2 hP3 hsz3
    by_cases hk3 : k % 3 = 0)
  all_goals (first
    | (have e3 : (k % 3 == 0) = true := by rw [hk3]; rfl
       have HR : Hid (doneR (bs, br, off, ops) (k, b, p, f, d, t) = (bs1, br1, false, op1)) := by
         show _ = _; unfold doneR; simp only []; rw [if_pos hk3, HD.out]; rfl
       clear hk3
       go_wp2_with fail
       clear u0 u1 u2 u3 g0 g1 g2 g3 s0 z0 z1 z2 z3 y0 y1 y2 y3
       refine (onSpec_ref _ _ bs1 br1 of1 op1 _ hb3 hfq).mono ?_
       rintro e w4 ⟨⟨v4, rfl, hb4⟩, m4⟩
       rw [HS3.out] at hb4
       obtain ⟨o4, cc4, rfl⟩ := hb4.shape
       have hO4 := hO3.mem m4
       have hR4 := hR3.mem m4
       have hm4 := hm3.trans m4
       clear hO3 hR3 hm3 m4 hb3 u4 u5 u6 u7
       have u0 := hO4.cell (j := 0) rfl
       have u1 := hO4.cell (j := 1) rfl
       have u2 := hO4.cell (j := 2) rfl
       have u3 := hO4.cell (j := 3) rfl
       have g0 := hO4.frozen 0
       have g1 := hO4.frozen 1
       have g2 := hO4.frozen 2
       have g3 := hO4.frozen 3
       have hO5 := hO4.put4 (.slice o4 bs1.length cc4) (.bool br1) (.bool false) (.int .i64 op1)
       have hR5 := hR4.far4 (b' := Bo) (by omega) (.slice o4 bs1.length cc4) (.bool br1) (.bool false) (.int .i64 op1)
       have hm5 := hm4.put4 (b := Bo) (by omega) (.slice o4 bs1.length cc4) (.bool br1) (.bool false) (.int .i64 op1)
       have hb5 := hb4.put4 (b := Bo) (fun hx => by rcases hx with (⟨_, hx⟩ | hx) | hx <;> omega) (.slice o4 bs1.length cc4) (.bool br1) (.bool false) (.int .i64 op1)
       have u4 := hO5.cell (j := 0) rfl
       have u5 := hO5.cell (j := 1) rfl
       have u6 := hO5.cell (j := 2) rfl
       have u7 := hO5.cell (j := 3) rfl
       have z0 := hR5.cell (j := 0) rfl
       have z1 := hR5.cell (j := 1) rfl
       have z2 := hR5.cell (j := 2) rfl
       have z3 := hR5.cell (j := 3) rfl
       have y0 := hR5.frozen 0
       have y1 := hR5.frozen 1
       have y2 := hR5.frozen 2
       have y3 := hR5.frozen 3
       go_wp2_with fail
       refine bodyPost_ret (ret_chip3 rfl _ _ rfl (hR5.put4 _ _ _ _)) rfl ⟨⟨.slice o4 bs1.length cc4, ?_, ?_⟩, hm5.put4 (by omega) _ _ _ _⟩
       · simp only []; rw [HR.out, ← HPe.out]; rfl
       · rw [HR.out]
         have hfin := hb5.put4 (b := w.heap.size + 1 + 1) (fun hx => by rcases hx with (⟨_, hx⟩ | hx) | hx <;> omega) (.slice o4 bs1.length cc4) (.bool br1) (.bool false) (.int .i64 op1)
         exact hfin.mono fun x hx _ => hx.elim (fun h => h.elim (fun h => .inl h.1) (fun h => .inr (by omega))) (fun h => .inr (by omega)))
    | (have e3 : (k % 3 == 0) = false := by rw [beq_eq_false_iff_ne]; exact hk3
       have HR : Hid (doneR (bs, br, off, ops) (k, b, p, f, d, t) = (bs1, br1, of1, op1)) := by
         show _ = _; unfold doneR; simp only []; rw [if_neg hk3, HD.out]
       clear hk3
       go_wp2_with fail
       refine bodyPost_ret (ret_chip3 rfl _ _ rfl (hR3.put4 _ _ _ _)) rfl ⟨⟨.slice o2 bs1.length cc2, ?_, ?_⟩, hm3.put4 (by omega) _ _ _ _⟩
       · simp only []; rw [HR.out, ← HPe.out]; rfl
       · rw [HR.out]
         have hfin := hb3.put4 (b := w.heap.size + 1 + 1) (fun hx => by rcases hx with ⟨_, hx⟩ | hx <;> omega) (.slice o2 bs1.length cc2) (.bool br1) (.bool of1) (.int .i64 op1)
         exact hfin.mono fun x hx _ => hx.elim (fun h => .inl h.1) (fun h => .inr (by omega))))
theorem doneSpec : DoneSpec := fun S vb bs br off ops s w hb hf hs => lawDone S vb bs br off ops s w hb hf hs
end Go.Proofs.Ytodncodjnoegmaa.Nand
