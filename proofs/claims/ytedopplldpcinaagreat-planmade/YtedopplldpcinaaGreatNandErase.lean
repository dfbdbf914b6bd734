/-
  Layer 5: Erase, by the document.
-/
import Derived.Test.YtedopplldpcinaaGreatNandProg
namespace Go.Proofs.YtedopplldpcinaaGreat.Nand
open Go.RowKit

/-- the first n pages erased -/
def wipe (n : Nat) (ps : List PageT) : List PageT := List.replicate (min n ps.length) zeroPage ++ ps.drop n
theorem wipe_length (n : Nat) (ps : List PageT) : (wipe n ps).length = ps.length := by simp [wipe]; omega
theorem wipe_zero (ps : List PageT) : wipe 0 ps = ps := by simp [wipe]
theorem wipe_step (k : Nat) (ps : List PageT) (h : k < ps.length) : (wipe k ps).set k zeroPage = wipe (k + 1) ps := by
  unfold wipe
  rw [Nat.min_eq_left (by omega), Nat.min_eq_left (by omega)]
  rw [List.set_append_right _ _ (by simp), List.length_replicate, Nat.sub_self, List.drop_eq_getElem_cons h, List.set_cons_zero, List.replicate_succ', List.append_assoc]
  rfl
theorem wipe_all (n : Nat) (ps : List PageT) (h : ps.length ≤ n) : wipe n ps = wipe ps.length ps := by
  unfold wipe
  rw [Nat.min_eq_right h, Nat.min_self, List.drop_eq_nil_of_le h, List.drop_eq_nil_of_le (Nat.le_refl _)]
def okErase (bs : List BlockT) (b : Int) (f : FateT) : Bool :=
  decide (0 ≤ b) && decide (b < bs.length) && !(bs.getD b.toNat default).2.2.2 && decide (0 ≤ f.1) && decide (f.1 ≤ 2)
def erase (c : ChipT) (b : Int) (f : FateT) : ChipT × Int :=
  if c.2.2.1 = true then (c, 52)
  else if okErase c.1 b f = true then
    if f.1 = 1 then ((c.1.set b.toNat ((c.1.getD b.toNat default).1, (c.1.getD b.toNat default).2.1, (c.1.getD b.toNat default).2.2.1, true), c.2.1, false, wrap64 (c.2.2.2 + 1)), 53)
    else if f.1 = 0 then ((c.1.set b.toNat (wipe (c.1.getD b.toNat default).1.length (c.1.getD b.toNat default).1, 0, wrap64 ((c.1.getD b.toNat default).2.2.1 + 1), false), c.2.1, false, wrap64 (c.2.2.2 + 1)), 0)
    else ((c.1.set b.toNat (wipe f.2.2.2.toNat (c.1.getD b.toNat default).1, ((c.1.getD b.toNat default).1.length : Int), wrap64 ((c.1.getD b.toNat default).2.2.1 + 1), false), c.2.1, true, wrap64 (c.2.2.2 + 1)), 52)
  else ((c.1, true, c.2.2.1, c.2.2.2), 1)

set_option maxHeartbeats 4000000 in
set_option maxRecDepth 100000 in
theorem refErase (S : Nat → Prop) (vb : Value) (bs : List BlockT) (br off : Bool) (ops b : Int) (f : FateT) (w : World) (hb : BlocksAt S w vb bs) (hf : Few bs) :
    Calls Tryz.prog 54 #[chipV vb br off ops, .int .i64 b, fateV f] w fun e w' => ChipOut w (erase (bs, br, off, ops) b f) e w' ∧ Mem w w' := by
  obtain ⟨oa, ca, rfl⟩ := hb.shape
  obtain ⟨fk, fd, ft, fn⟩ := f
  simp only [fateV]
  obtain ⟨W0, hW0⟩ : ∃ W, W = ((w.alloc (.cells #[.slice oa bs.length ca, .bool br, .bool off, .int .i64 ops] 24)).alloc (.cells #[.int .i64 fk, .string fd, .string ft, .int .i64 fn] 52)).alloc (.cells #[.slice none 0 0, .bool false, .bool false, .int .i64 0] 24) := ⟨_, rfl⟩
  have hm : Mem w W0 := by rw [hW0]; exact (((Mem.refl w).alloc _).alloc _).alloc _
  have hC : Blk W0 w.heap.size 24 #[.slice oa bs.length ca, .bool br, .bool off, .int .i64 ops] := by rw [hW0]; exact ((Blk.new w _ _).alloc _).alloc _
  have hF : Blk W0 (w.heap.size + 1) 52 #[.int .i64 fk, .string fd, .string ft, .int .i64 fn] := by
    have := (Blk.new (w.alloc (.cells #[.slice oa bs.length ca, .bool br, .bool off, .int .i64 ops] 24)) #[.int .i64 fk, .string fd, .string ft, .int .i64 fn] 52).alloc (.cells #[.slice none 0 0, .bool false, .bool false, .int .i64 0] 24)
    rw [alloc_size, ← hW0] at this; exact this
  have hR : Blk W0 (w.heap.size + 1 + 1) 24 #[.slice none 0 0, .bool false, .bool false, .int .i64 0] := by
    have := Blk.new ((w.alloc (.cells #[.slice oa bs.length ca, .bool br, .bool off, .int .i64 ops] 24)).alloc (.cells #[.int .i64 fk, .string fd, .string ft, .int .i64 fn] 52)) #[.slice none 0 0, .bool false, .bool false, .int .i64 0] 24
    rw [alloc_size, alloc_size, ← hW0] at this; exact this
  have hW := hide hW0
  clear hW0
  replace hb := hb.mem hm
  have c0 := hC.cell (j := 0) rfl
  have c1 := hC.cell (j := 1) rfl
  have c2 := hC.cell (j := 2) rfl
  have c3 := hC.cell (j := 3) rfl
  have k0 := hF.cell (j := 0) rfl
  cases off with
  | true =>
    go_enter Tryz.func54, Tryz.ntmps54
    go_wp2_with fail
    rw [← hW.out]
    refine (refOwn S _ bs br true ops _ hb hf).mono ?_
    rintro e w1 ⟨⟨v', rfl, hO⟩, m1⟩
    obtain ⟨ol, cl, rfl⟩ := hO.shape
    have HP : Hid (erase (bs, br, true, ops) b (fk, fd, ft, fn) = ((bs, br, true, ops), 52)) := rfl
    have hR2 := hR.mem m1
    have hm2 := hm.trans m1
    have hs4 := hR.lt
    have z0 := hR2.cell (j := 0) rfl
    have z1 := hR2.cell (j := 1) rfl
    have z2 := hR2.cell (j := 2) rfl
    have z3 := hR2.cell (j := 3) rfl
    have f0 := hR2.frozen 0
    have f1 := hR2.frozen 1
    have f2 := hR2.frozen 2
    have f3 := hR2.frozen 3
    go_wp2_with fail
    refine bodyPost_ret (ret_chip rfl _ _ rfl (hR2.put4 _ _ _ _)) rfl ⟨?_, hm2.put4 (by omega) _ _ _ _⟩
    rw [HP.out]
    exact ⟨_, rfl, (hO.put4 (by omega) _ _ _ _).base (by omega)⟩
  | false =>
  by_cases h0 : 0 ≤ b
  case neg =>
    have HP : Hid (erase (bs, br, false, ops) b (fk, fd, ft, fn) = ((bs, true, false, ops), 1)) := by show _ = _; unfold erase okErase; rw [decide_eq_false h0]; rfl
    have h0' : b < 0 := by omega
    go_enter Tryz.func54, Tryz.ntmps54
    go_wp2_with fail
    rw [← hW.out]
    refine (refBroken S _ bs br false ops _ hb hf).mono ?_
    rintro e w2 ⟨⟨v', rfl, hO⟩, m2⟩
    obtain ⟨ol, cl, rfl⟩ := hO.shape
    have hR2 := hR.mem m2
    have hm2 := hm.trans m2
    have hs4 := hR.lt
    have z0 := hR2.cell (j := 0) rfl
    have z1 := hR2.cell (j := 1) rfl
    have z2 := hR2.cell (j := 2) rfl
    have z3 := hR2.cell (j := 3) rfl
    have f0 := hR2.frozen 0
    have f1 := hR2.frozen 1
    have f2 := hR2.frozen 2
    have f3 := hR2.frozen 3
    go_wp2_with fail
    refine bodyPost_ret (ret_chip rfl _ _ rfl (hR2.put4 _ _ _ _)) rfl ⟨?_, hm2.put4 (by omega) _ _ _ _⟩
    rw [HP.out]
    exact ⟨_, rfl, (hO.put4 hs4 _ _ _ _).base (by omega)⟩
  by_cases h1 : b < bs.length
  case neg =>
    have HP : Hid (erase (bs, br, false, ops) b (fk, fd, ft, fn) = ((bs, true, false, ops), 1)) := by show _ = _; unfold erase okErase; simp only []; rw [decide_eq_false h1, Bool.and_false]; rfl
    have h1' : (bs.length : Int) ≤ b := by omega
    go_enter Tryz.func54, Tryz.ntmps54
    go_wp2_with fail
    rw [← hW.out]
    refine (refBroken S _ bs br false ops _ hb hf).mono ?_
    rintro e w2 ⟨⟨v', rfl, hO⟩, m2⟩
    obtain ⟨ol, cl, rfl⟩ := hO.shape
    have hR2 := hR.mem m2
    have hm2 := hm.trans m2
    have hs4 := hR.lt
    have z0 := hR2.cell (j := 0) rfl
    have z1 := hR2.cell (j := 1) rfl
    have z2 := hR2.cell (j := 2) rfl
    have z3 := hR2.cell (j := 3) rfl
    have f0 := hR2.frozen 0
    have f1 := hR2.frozen 1
    have f2 := hR2.frozen 2
    have f3 := hR2.frozen 3
    go_wp2_with fail
    refine bodyPost_ret (ret_chip rfl _ _ rfl (hR2.put4 _ _ _ _)) rfl ⟨?_, hm2.put4 (by omega) _ _ _ _⟩
    rw [HP.out]
    exact ⟨_, rfl, (hO.put4 hs4 _ _ _ _).base (by omega)⟩
  obtain ⟨i, rfl⟩ := Int.eq_ofNat_of_zero_le h0
  have hi : i < bs.length := by omega
  have hg : bs.getD (i : Int).toNat default = bs[i] := by simp [hi]
  have HK : Hid (bs[i]? = some bs[i]) := by show _ = _; simp [hi]
  have hpl : bs[i].1.length ≤ 1000 := hf.2 _ (List.getElem_mem hi)
  have HPG : Hid (∀ fk' : Int, okErase bs (i : Int) (fk', fd, ft, fn) = (!bs[i].2.2.2 && decide (0 ≤ fk') && decide (fk' ≤ 2))) := by
    intro fk'; unfold okErase; rw [hg, decide_eq_true h0, decide_eq_true h1]; rfl
  obtain ⟨g, og, op, cp, rfl, _, x0, x1, x2, x3, hp⟩ := hb.at hi
  have h1' : (i : Int) < (bs.length : Int) := h1
  have HG := hide hg
  generalize bs[i] = bk at *
  obtain ⟨ps, nx, er, bd⟩ := bk
  simp only [] at x0 x1 x2 x3 hp hpl HPG HG
  rw [hW.out] at x0 x1 x2 x3
  clear hg hp
  cases bd with
  | true =>
    have HP : Hid (erase (bs, br, false, ops) (i : Int) (fk, fd, ft, fn) = ((bs, true, false, ops), 1)) := by show _ = _; unfold erase; simp only []; rw [HPG.out]; rfl
    go_enter Tryz.func54, Tryz.ntmps54
    go_wp2_with fail
    rw [← hW.out]
    refine (refBroken S _ bs br false ops _ hb hf).mono ?_
    rintro e w2 ⟨⟨v', rfl, hO⟩, m2⟩
    obtain ⟨ol, cl, rfl⟩ := hO.shape
    have hR2 := hR.mem m2
    have hm2 := hm.trans m2
    have hs4 := hR.lt
    have z0 := hR2.cell (j := 0) rfl
    have z1 := hR2.cell (j := 1) rfl
    have z2 := hR2.cell (j := 2) rfl
    have z3 := hR2.cell (j := 3) rfl
    have f0 := hR2.frozen 0
    have f1 := hR2.frozen 1
    have f2 := hR2.frozen 2
    have f3 := hR2.frozen 3
    go_wp2_with fail
    refine bodyPost_ret (ret_chip rfl _ _ rfl (hR2.put4 _ _ _ _)) rfl ⟨?_, hm2.put4 (by omega) _ _ _ _⟩
    rw [HP.out]
    exact ⟨_, rfl, (hO.put4 hs4 _ _ _ _).base (by omega)⟩
  | false =>
  by_cases hk0 : fk < 0
  · have HP : Hid (erase (bs, br, false, ops) (i : Int) (fk, fd, ft, fn) = ((bs, true, false, ops), 1)) := by
      show _ = _; unfold erase; simp only []; rw [HPG.out, decide_eq_false (show ¬ 0 ≤ fk by omega)]; simp
    go_enter Tryz.func54, Tryz.ntmps54
    go_wp2_with fail
    rw [← hW.out]
    refine (refBroken S _ bs br false ops _ hb hf).mono ?_
    rintro e w2 ⟨⟨v', rfl, hO⟩, m2⟩
    obtain ⟨ol, cl, rfl⟩ := hO.shape
    have hR2 := hR.mem m2
    have hm2 := hm.trans m2
    have hs4 := hR.lt
    have z0 := hR2.cell (j := 0) rfl
    have z1 := hR2.cell (j := 1) rfl
    have z2 := hR2.cell (j := 2) rfl
    have z3 := hR2.cell (j := 3) rfl
    have f0 := hR2.frozen 0
    have f1 := hR2.frozen 1
    have f2 := hR2.frozen 2
    have f3 := hR2.frozen 3
    go_wp2_with fail
    refine bodyPost_ret (ret_chip rfl _ _ rfl (hR2.put4 _ _ _ _)) rfl ⟨?_, hm2.put4 (by omega) _ _ _ _⟩
    rw [HP.out]
    exact ⟨_, rfl, (hO.put4 hs4 _ _ _ _).base (by omega)⟩
  have hk0' : 0 ≤ fk := by omega
  by_cases hk2 : 2 < fk
  · have HP : Hid (erase (bs, br, false, ops) (i : Int) (fk, fd, ft, fn) = ((bs, true, false, ops), 1)) := by
      show _ = _; unfold erase; simp only []; rw [HPG.out, decide_eq_false (show ¬ fk ≤ 2 by omega)]; simp
    go_enter Tryz.func54, Tryz.ntmps54
    go_wp2_with fail
    rw [← hW.out]
    refine (refBroken S _ bs br false ops _ hb hf).mono ?_
    rintro e w2 ⟨⟨v', rfl, hO⟩, m2⟩
    obtain ⟨ol, cl, rfl⟩ := hO.shape
    have hR2 := hR.mem m2
    have hm2 := hm.trans m2
    have hs4 := hR.lt
    have z0 := hR2.cell (j := 0) rfl
    have z1 := hR2.cell (j := 1) rfl
    have z2 := hR2.cell (j := 2) rfl
    have z3 := hR2.cell (j := 3) rfl
    have f0 := hR2.frozen 0
    have f1 := hR2.frozen 1
    have f2 := hR2.frozen 2
    have f3 := hR2.frozen 3
    go_wp2_with fail
    refine bodyPost_ret (ret_chip rfl _ _ rfl (hR2.put4 _ _ _ _)) rfl ⟨?_, hm2.put4 (by omega) _ _ _ _⟩
    rw [HP.out]
    exact ⟨_, rfl, (hO.put4 hs4 _ _ _ _).base (by omega)⟩
  have hk2' : fk ≤ 2 := by omega
  have HP : Hid (erase (bs, br, false, ops) (i : Int) (fk, fd, ft, fn) = if fk = 1 then ((bs.set i (ps, nx, er, true), br, false, wrap64 (ops + 1)), 53) else if fk = 0 then ((bs.set i (wipe ps.length ps, 0, wrap64 (er + 1), false), br, false, wrap64 (ops + 1)), 0) else ((bs.set i (wipe fn.toNat ps, (ps.length : Int), wrap64 (er + 1), false), br, true, wrap64 (ops + 1)), 52)) := by
    show _ = _
    unfold erase
    simp only []
    rw [HPG.out, HG.out, decide_eq_true hk0', decide_eq_true hk2']
    simp
  clear hk0 hk2 HPG HG
  go_enter Tryz.func54, Tryz.ntmps54
  go_wp2_with fail
  rw [← hW.out]
  refine (refOwn S _ bs br false ops _ hb hf).mono ?_
  rintro e w2 ⟨⟨v', rfl, hO⟩, m2⟩
  obtain ⟨g2, c2', R, rfl, hcap, h1o⟩ := hO.one hi
  have HCap := hide hcap
  clear hcap
  have ha : Mem w2 (w2.alloc (.cells #[.slice (some ⟨g2, 0, none⟩) bs.length c2', .bool br, .bool false, .int .i64 (wrap64 (ops + 1))] 24)) := (Mem.refl w2).alloc _
  have hOA := Blk.new w2 #[.slice (some ⟨g2, 0, none⟩) bs.length c2', .bool br, .bool false, .int .i64 (wrap64 (ops + 1))] 24
  have hA := h1o.mem ha
  have n2 := m2.trans ha
  have hFA := hF.mem n2
  have hRA := hR.mem n2
  have hmA := hm.trans n2
  have hs4 := hR.lt
  have hgb : W0.heap.size + 2 ≤ g2 := h1o.1
  have hg2 : g2 < w2.heap.size := h1o.2.1.1
  have hm2s := m2.size
  have hRx : ∀ i' x, R i' x → W0.heap.size + 2 ≤ x ∧ x < w2.heap.size := fun i' x hx => ⟨(h1o.2.2.1 i' x hx).1, (h1o.2.2.1 i' x hx).2.1⟩
  obtain ⟨op2, cp2, y0, y1, y2, y3, hp2, fz⟩ := hA.at HK.out
  clear x0 x1 x2 x3 c0 c1 c2 c3 k0 m2 n2 hO hF hm hC hb hR h1o ha
  have k0 := hFA.cell (j := 0) rfl
  have hfk : fk = 0 ∨ fk = 1 ∨ fk = 2 := by omega
  rcases hfk with rfl | rfl | rfl
  · have fz2 := fz (i * 4 + 2)
    have hB := hA.erases HK.out (wrap64 (er + 1))
    have hOB := hOA.other (a := ⟨g2, i * 4 + 2, none⟩) (by show w2.heap.size ≠ g2; omega) (.int .i64 (wrap64 (er + 1)))
    have hFB := hFA.other (a := ⟨g2, i * 4 + 2, none⟩) (by show w.heap.size + 1 ≠ g2; omega) (.int .i64 (wrap64 (er + 1)))
    have hRB := hRA.other (a := ⟨g2, i * 4 + 2, none⟩) (by show w.heap.size + 1 + 1 ≠ g2; omega) (.int .i64 (wrap64 (er + 1)))
    have hmB := hmA.setCell (p := ⟨g2, i * 4 + 2, none⟩) (by show w.heap.size ≤ g2; omega) (.int .i64 (wrap64 (er + 1)))
    have HG2 := hide hg2
    have HGB := hide hgb
    clear hg2 hgb
    have q0 := hFB.cell (j := 0) rfl
    go_wp2_with fail
    clear q0 fz fz2 y0 y1 y2 y3 hA hOA hFA hRA hmA k0 hp2
    generalize hX : (w2.alloc (.cells #[.slice (some ⟨g2, 0, none⟩) bs.length c2', .bool br, .bool false, .int .i64 (wrap64 (ops + 1))] 24)).setCell ⟨g2, i * 4 + 2, none⟩ (.int .i64 (wrap64 (er + 1))) = X at *
    clear hX
    have hgb := HGB.out
    have hg2 := HG2.out
    obtain ⟨n, hn⟩ : ∃ n, n = ps.length := ⟨_, rfl⟩
    have hnl : n ≤ ps.length := by omega
    have HN := hide hn
    clear hn
    go_loopw [10] (fun a wr => ∃ k : Nat, k ≤ ps.length ∧ a = .int .i64 k ∧ Own1 (W0.heap.size + 2) wr g2 R (bs.set i (wipe (min k n) ps, nx, wrap64 (er + 1), false)) ∧ Blk wr w2.heap.size 24 #[.slice (some ⟨g2, 0, none⟩) bs.length c2', .bool br, .bool false, .int .i64 (wrap64 (ops + 1))] ∧ Blk wr (w.heap.size + 1) 52 #[.int .i64 0, .string fd, .string ft, .int .i64 fn] ∧ Blk wr (w.heap.size + 1 + 1) 24 #[.slice none 0 0, .bool false, .bool false, .int .i64 0] ∧ Mem w wr) (fun a _ => ps.length - (intOf a).toNat)
    case atStart => exact ⟨0, Nat.zero_le _, rfl, by rw [Nat.zero_min, wipe_zero]; exact hB, hOB, hFB, hRB, hmB⟩
    case round =>
      clear hB hOB hFB hRB hmB
      obtain ⟨k, hk, rfl, hX, hOX, hFX, hRX, hmX⟩ := hrel
      have hi2 := set_get (b := (wipe (min k n) ps, nx, wrap64 (er + 1), false)) hi
      obtain ⟨op3, cp3, y0, y1, y2, y3, hp3, fz⟩ := hX.at hi2
      rw [wipe_length] at y0 hp3
      have q0 := hFX.cell (j := 0) rfl
      have q3 := hFX.cell (j := 3) rfl
      by_cases hlt : k < ps.length
      · have hlt' : (k : Int) < (ps.length : Int) := by omega
        have hkk : (0 : Int) ≤ (k : Int) := by omega
        by_cases hkn : k < n
        · have hmin : min k n = k := by omega
          have hmin1 : min (k + 1) n = k + 1 := by omega
          rw [hmin] at hX hi2 hp3
          have HM1 := hide hmin1
          clear hmin hmin1
          have hkn' : True := by trivial
          obtain ⟨x, xo, rfl, hRi, t0, t1, t2⟩ := hp3.at (i := k) (by rw [wipe_length]; exact hlt)
          have hxs := (hX.2.2.1 i x hRi).2.2
          have u0 := hxs (xo + k * 3)
          have u1 := hxs (xo + k * 3 + 1)
          have u2 := hxs (xo + k * 3 + 2)
          have hxb := hRx i x hRi
          have hD := hX.page hi2 (p := k) (x := x) (off := xo) y0 hRi (by rw [wipe_length]; exact hlt) zeroPage
          rw [List.set_set, wipe_step k ps hlt] at hD
          have hOD := ((hOX.other (a := ⟨x, xo + k * 3, none⟩) (by show w2.heap.size ≠ x; omega) (.bool false)).other (a := ⟨x, xo + k * 3 + 1, none⟩) (by show w2.heap.size ≠ x; omega) (.string ⟨#[]⟩)).other (a := ⟨x, xo + k * 3 + 2, none⟩) (by show w2.heap.size ≠ x; omega) (.string ⟨#[]⟩)
          have hFD := ((hFX.other (a := ⟨x, xo + k * 3, none⟩) (by show w.heap.size + 1 ≠ x; omega) (.bool false)).other (a := ⟨x, xo + k * 3 + 1, none⟩) (by show w.heap.size + 1 ≠ x; omega) (.string ⟨#[]⟩)).other (a := ⟨x, xo + k * 3 + 2, none⟩) (by show w.heap.size + 1 ≠ x; omega) (.string ⟨#[]⟩)
          have hRD := ((hRX.other (a := ⟨x, xo + k * 3, none⟩) (by show w.heap.size + 1 + 1 ≠ x; omega) (.bool false)).other (a := ⟨x, xo + k * 3 + 1, none⟩) (by show w.heap.size + 1 + 1 ≠ x; omega) (.string ⟨#[]⟩)).other (a := ⟨x, xo + k * 3 + 2, none⟩) (by show w.heap.size + 1 + 1 ≠ x; omega) (.string ⟨#[]⟩)
          have hmD := Mem.set3 hmX (x := x) (by omega) (xo + k * 3) zeroPage
          unfold set3 zeroPage at hD hmD
          simp only [] at hD hmD
          rw [← HM1.out] at hD
          clear hX hOX hFX hRX hmX hp3
          go_wp2_with fail
          go_roundw
          case rel => exact ⟨k + 1, by omega, by go_num, hD, hOD, hFD, hRD, hmD⟩
          case measure => simp [intOf]; omega
        · have hmin : min k n = min (k + 1) n := by omega
          rw [hmin] at hX
          have hkn' : False := by have := HN.out; omega
          exact hkn'.elim
      · have hke : k = ps.length := by omega
        subst hke
        have hmin : min ps.length n = n := by omega
        rw [hmin] at hX hi2
        have hwn : wipe n ps = wipe ps.length ps := by
          have := HN.out
          rw [this]
        rw [hwn] at hX hi2
        clear hmin hwn
        have fz1 := fz (i * 4 + 1)
        have hD := hX.next hi2 0
        rw [List.set_set] at hD
        have hOD := hOX.other (a := ⟨g2, i * 4 + 1, none⟩) (by show w2.heap.size ≠ g2; omega) (.int .i64 0)
        have hFD := hFX.other (a := ⟨g2, i * 4 + 1, none⟩) (by show w.heap.size + 1 ≠ g2; omega) (.int .i64 0)
        have hRD := hRX.other (a := ⟨g2, i * 4 + 1, none⟩) (by show w.heap.size + 1 + 1 ≠ g2; omega) (.int .i64 0)
        have hmD := hmX.setCell (p := ⟨g2, i * 4 + 1, none⟩) (by show w.heap.size ≤ g2; omega) (.int .i64 0)
        clear hg2 hgb
        have q4 := hFD.cell (j := 0) rfl
        have o0 := hOD.cell (j := 0) rfl
        have o1 := hOD.cell (j := 1) rfl
        have o2 := hOD.cell (j := 2) rfl
        have o3 := hOD.cell (j := 3) rfl
        have z0 := hRD.cell (j := 0) rfl
        have z1 := hRD.cell (j := 1) rfl
        have z2 := hRD.cell (j := 2) rfl
        have z3 := hRD.cell (j := 3) rfl
        have f0 := hRD.frozen 0
        have f1 := hRD.frozen 1
        have f2 := hRD.frozen 2
        have f3 := hRD.frozen 3
        go_wp2_with fail
        refine bodyPost_ret (ret_chip rfl _ _ rfl (hRD.put4 _ _ _ _)) rfl ⟨?_, hmD.put4 (by omega) _ _ _ _⟩
        rw [HP.out]
        exact ⟨_, rfl, (OwnB.put4 (hD.whole bs.length c2' (by simp) HCap.out) (by omega) _ _ _ _).base (by omega)⟩
  · have fz3 := fz (i * 4 + 3)
    have hB := hA.bad HK.out true
    have hOB := hOA.other (a := ⟨g2, i * 4 + 3, none⟩) (by show w2.heap.size ≠ g2; omega) (.bool true)
    have hFB := hFA.other (a := ⟨g2, i * 4 + 3, none⟩) (by show w.heap.size + 1 ≠ g2; omega) (.bool true)
    have hRB := hRA.other (a := ⟨g2, i * 4 + 3, none⟩) (by show w.heap.size + 1 + 1 ≠ g2; omega) (.bool true)
    have hmB := hmA.setCell (p := ⟨g2, i * 4 + 3, none⟩) (by show w.heap.size ≤ g2; omega) (.bool true)
    have HG2 := hide hg2
    have HGB := hide hgb
    clear hg2 hgb
    have o0 := hOB.cell (j := 0) rfl
    have o1 := hOB.cell (j := 1) rfl
    have o2 := hOB.cell (j := 2) rfl
    have o3 := hOB.cell (j := 3) rfl
    have z0 := hRB.cell (j := 0) rfl
    have z1 := hRB.cell (j := 1) rfl
    have z2 := hRB.cell (j := 2) rfl
    have z3 := hRB.cell (j := 3) rfl
    have f0 := hRB.frozen 0
    have f1 := hRB.frozen 1
    have f2 := hRB.frozen 2
    have f3 := hRB.frozen 3
    go_wp2_with fail
    refine bodyPost_ret (ret_chip rfl _ _ rfl (hRB.put4 _ _ _ _)) rfl ⟨?_, hmB.put4 (by omega) _ _ _ _⟩
    rw [HP.out]
    exact ⟨_, rfl, (OwnB.put4 (hB.whole bs.length c2' (by simp) HCap.out) (by omega) _ _ _ _).base (by omega)⟩
  · have fz2 := fz (i * 4 + 2)
    have hB := hA.erases HK.out (wrap64 (er + 1))
    have hOB := hOA.other (a := ⟨g2, i * 4 + 2, none⟩) (by show w2.heap.size ≠ g2; omega) (.int .i64 (wrap64 (er + 1)))
    have hFB := hFA.other (a := ⟨g2, i * 4 + 2, none⟩) (by show w.heap.size + 1 ≠ g2; omega) (.int .i64 (wrap64 (er + 1)))
    have hRB := hRA.other (a := ⟨g2, i * 4 + 2, none⟩) (by show w.heap.size + 1 + 1 ≠ g2; omega) (.int .i64 (wrap64 (er + 1)))
    have hmB := hmA.setCell (p := ⟨g2, i * 4 + 2, none⟩) (by show w.heap.size ≤ g2; omega) (.int .i64 (wrap64 (er + 1)))
    have HG2 := hide hg2
    have HGB := hide hgb
    clear hg2 hgb
    have q0 := hFB.cell (j := 0) rfl
    go_wp2_with fail
    clear q0 fz fz2 y0 y1 y2 y3 hA hOA hFA hRA hmA k0 hp2
    generalize hX : (w2.alloc (.cells #[.slice (some ⟨g2, 0, none⟩) bs.length c2', .bool br, .bool false, .int .i64 (wrap64 (ops + 1))] 24)).setCell ⟨g2, i * 4 + 2, none⟩ (.int .i64 (wrap64 (er + 1))) = X at *
    clear hX
    have hgb := HGB.out
    have hg2 := HG2.out
    obtain ⟨n, hn⟩ : ∃ n, n = min fn.toNat ps.length := ⟨_, rfl⟩
    have hnl : n ≤ ps.length := by omega
    have HN := hide hn
    clear hn
    go_loopw [10] (fun a wr => ∃ k : Nat, k ≤ ps.length ∧ a = .int .i64 k ∧ Own1 (W0.heap.size + 2) wr g2 R (bs.set i (wipe (min k n) ps, nx, wrap64 (er + 1), false)) ∧ Blk wr w2.heap.size 24 #[.slice (some ⟨g2, 0, none⟩) bs.length c2', .bool br, .bool false, .int .i64 (wrap64 (ops + 1))] ∧ Blk wr (w.heap.size + 1) 52 #[.int .i64 2, .string fd, .string ft, .int .i64 fn] ∧ Blk wr (w.heap.size + 1 + 1) 24 #[.slice none 0 0, .bool false, .bool false, .int .i64 0] ∧ Mem w wr) (fun a _ => ps.length - (intOf a).toNat)
    case atStart => exact ⟨0, Nat.zero_le _, rfl, by rw [Nat.zero_min, wipe_zero]; exact hB, hOB, hFB, hRB, hmB⟩
    case round =>
      clear hB hOB hFB hRB hmB
      obtain ⟨k, hk, rfl, hX, hOX, hFX, hRX, hmX⟩ := hrel
      have hi2 := set_get (b := (wipe (min k n) ps, nx, wrap64 (er + 1), false)) hi
      obtain ⟨op3, cp3, y0, y1, y2, y3, hp3, fz⟩ := hX.at hi2
      rw [wipe_length] at y0 hp3
      have q0 := hFX.cell (j := 0) rfl
      have q3 := hFX.cell (j := 3) rfl
      by_cases hlt : k < ps.length
      · have hlt' : (k : Int) < (ps.length : Int) := by omega
        have hkk : (0 : Int) ≤ (k : Int) := by omega
        by_cases hkn : k < n
        · have hmin : min k n = k := by omega
          have hmin1 : min (k + 1) n = k + 1 := by omega
          rw [hmin] at hX hi2 hp3
          have HM1 := hide hmin1
          clear hmin hmin1
          have hkn' : (k : Int) < fn := by have := HN.out; omega
          obtain ⟨x, xo, rfl, hRi, t0, t1, t2⟩ := hp3.at (i := k) (by rw [wipe_length]; exact hlt)
          have hxs := (hX.2.2.1 i x hRi).2.2
          have u0 := hxs (xo + k * 3)
          have u1 := hxs (xo + k * 3 + 1)
          have u2 := hxs (xo + k * 3 + 2)
          have hxb := hRx i x hRi
          have hD := hX.page hi2 (p := k) (x := x) (off := xo) y0 hRi (by rw [wipe_length]; exact hlt) zeroPage
          rw [List.set_set, wipe_step k ps hlt] at hD
          have hOD := ((hOX.other (a := ⟨x, xo + k * 3, none⟩) (by show w2.heap.size ≠ x; omega) (.bool false)).other (a := ⟨x, xo + k * 3 + 1, none⟩) (by show w2.heap.size ≠ x; omega) (.string ⟨#[]⟩)).other (a := ⟨x, xo + k * 3 + 2, none⟩) (by show w2.heap.size ≠ x; omega) (.string ⟨#[]⟩)
          have hFD := ((hFX.other (a := ⟨x, xo + k * 3, none⟩) (by show w.heap.size + 1 ≠ x; omega) (.bool false)).other (a := ⟨x, xo + k * 3 + 1, none⟩) (by show w.heap.size + 1 ≠ x; omega) (.string ⟨#[]⟩)).other (a := ⟨x, xo + k * 3 + 2, none⟩) (by show w.heap.size + 1 ≠ x; omega) (.string ⟨#[]⟩)
          have hRD := ((hRX.other (a := ⟨x, xo + k * 3, none⟩) (by show w.heap.size + 1 + 1 ≠ x; omega) (.bool false)).other (a := ⟨x, xo + k * 3 + 1, none⟩) (by show w.heap.size + 1 + 1 ≠ x; omega) (.string ⟨#[]⟩)).other (a := ⟨x, xo + k * 3 + 2, none⟩) (by show w.heap.size + 1 + 1 ≠ x; omega) (.string ⟨#[]⟩)
          have hmD := Mem.set3 hmX (x := x) (by omega) (xo + k * 3) zeroPage
          unfold set3 zeroPage at hD hmD
          simp only [] at hD hmD
          rw [← HM1.out] at hD
          clear hX hOX hFX hRX hmX hp3
          go_wp2_with fail
          go_roundw
          case rel => exact ⟨k + 1, by omega, by go_num, hD, hOD, hFD, hRD, hmD⟩
          case measure => simp [intOf]; omega
        · have hmin : min k n = min (k + 1) n := by omega
          rw [hmin] at hX
          have hkn' : fn ≤ (k : Int) := by have := HN.out; omega
          skip
          clear hmin
          go_wp2_with fail
          go_roundw
          case rel => exact ⟨k + 1, by omega, by go_num, hX, hOX, hFX, hRX, hmX⟩
          case measure => simp [intOf]; omega
      · have hke : k = ps.length := by omega
        subst hke
        have hmin : min ps.length n = n := by omega
        rw [hmin] at hX hi2
        have hwn : wipe n ps = wipe fn.toNat ps := by
          have := HN.out
          by_cases hc : ps.length ≤ fn.toNat; · rw [wipe_all fn.toNat ps hc, this, Nat.min_eq_right hc]
          · rw [this, Nat.min_eq_left (by omega)]
        rw [hwn] at hX hi2
        clear hmin hwn
        have fz1 := fz (i * 4 + 1)
        have hD := hX.next hi2 0
        rw [List.set_set] at hD
        have hOD := hOX.other (a := ⟨g2, i * 4 + 1, none⟩) (by show w2.heap.size ≠ g2; omega) (.int .i64 0)
        have hFD := hFX.other (a := ⟨g2, i * 4 + 1, none⟩) (by show w.heap.size + 1 ≠ g2; omega) (.int .i64 0)
        have hRD := hRX.other (a := ⟨g2, i * 4 + 1, none⟩) (by show w.heap.size + 1 + 1 ≠ g2; omega) (.int .i64 0)
        have hmD := hmX.setCell (p := ⟨g2, i * 4 + 1, none⟩) (by show w.heap.size ≤ g2; omega) (.int .i64 0)
        have q4 := hFD.cell (j := 0) rfl
        have hi3 := set_get (b := (wipe fn.toNat ps, 0, wrap64 (er + 1), false)) hi
        obtain ⟨op4, cp4, y0', y1', _, _, _, fz'⟩ := hD.at hi3
        rw [wipe_length] at y0'
        have fz1' := fz' (i * 4 + 1)
        have hE := hD.next hi3 (ps.length : Int)
        rw [List.set_set] at hE
        have hOE := hOD.other (a := ⟨g2, i * 4 + 1, none⟩) (by show w2.heap.size ≠ g2; omega) (.int .i64 (ps.length : Int))
        have hFE := hFD.other (a := ⟨g2, i * 4 + 1, none⟩) (by show w.heap.size + 1 ≠ g2; omega) (.int .i64 (ps.length : Int))
        have hRE := hRD.other (a := ⟨g2, i * 4 + 1, none⟩) (by show w.heap.size + 1 + 1 ≠ g2; omega) (.int .i64 (ps.length : Int))
        have hmE := hmD.setCell (p := ⟨g2, i * 4 + 1, none⟩) (by show w.heap.size ≤ g2; omega) (.int .i64 (ps.length : Int))
        have fo := hOE.frozen 2
        have oc := hOE.cell (j := 2) rfl
        have hG := hE.other (p := ⟨w2.heap.size, 2, none⟩) (by show w2.heap.size ≠ g2; omega) (fun i' hx => by have h := (hRx i' _ hx).2; exact absurd h (Nat.lt_irrefl _)) (.bool true)
        have hOG : Blk (((wr.setCell ⟨g2, i * 4 + 1, none⟩ (.int .i64 0)).setCell ⟨g2, i * 4 + 1, none⟩ (.int .i64 (ps.length : Int))).setCell ⟨w2.heap.size, 2, none⟩ (.bool true)) w2.heap.size 24 #[.slice (some ⟨g2, 0, none⟩) bs.length c2', .bool br, .bool true, .int .i64 (wrap64 (ops + 1))] := hOE.set 2 (.bool true)
        have hRG := hRE.other (a := ⟨w2.heap.size, 2, none⟩) (by show w.heap.size + 1 + 1 ≠ w2.heap.size; omega) (.bool true)
        have hmG := hmE.setCell (p := ⟨w2.heap.size, 2, none⟩) (by show w.heap.size ≤ w2.heap.size; omega) (.bool true)
        have o0 := hOG.cell (j := 0) rfl
        have o1 := hOG.cell (j := 1) rfl
        have o2 := hOG.cell (j := 2) rfl
        have o3 := hOG.cell (j := 3) rfl
        clear hg2 hgb
        have z0 := hRG.cell (j := 0) rfl
        have z1 := hRG.cell (j := 1) rfl
        have z2 := hRG.cell (j := 2) rfl
        have z3 := hRG.cell (j := 3) rfl
        have f0 := hRG.frozen 0
        have f1 := hRG.frozen 1
        have f2 := hRG.frozen 2
        have f3 := hRG.frozen 3
        go_wp2_with fail
        refine bodyPost_ret (ret_chip rfl _ _ rfl (hRG.put4 _ _ _ _)) rfl ⟨?_, hmG.put4 (by omega) _ _ _ _⟩
        rw [HP.out]
        exact ⟨_, rfl, (OwnB.put4 (hG.whole bs.length c2' (by simp) HCap.out) (by omega) _ _ _ _).base (by omega)⟩
end Go.Proofs.YtedopplldpcinaaGreat.Nand
