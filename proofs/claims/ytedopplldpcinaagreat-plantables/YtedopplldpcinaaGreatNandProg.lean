/-
  Layer 5: Program, by the document.
-/
import Derived.Test.YtedopplldpcinaaGreatNandLow
namespace Go.Proofs.YtedopplldpcinaaGreat.Nand
open Go.RowKit

/-- a chip that a call of the document's answers, with an error's number -/
def ChipOut (w : World) (q : ChipT × Int) (e : Ending) (w' : World) : Prop :=
  ∃ v', e = .returned (.tuple #[chipV v' q.1.2.1 q.1.2.2.1 q.1.2.2.2, .int .i64 q.2]) ∧ OwnB w.heap.size w' v' q.1.1

theorem alloc_size (w : World) (o : Obj) : (w.alloc o).heap.size = w.heap.size + 1 := by simp

set_option maxHeartbeats 4000000 in
set_option maxRecDepth 100000 in
theorem refProgram (S : Nat → Prop) (vb : Value) (bs : List BlockT) (br off : Bool) (ops b p : Int) (pg : PageT) (f : FateT) (w : World) (hb : BlocksAt S w vb bs) (hf : Few bs) :
    Calls Tryz.prog 12 #[chipV vb br off ops, .int .i64 b, .int .i64 p, .agg #[.bool pg.1, .string pg.2.1, .string pg.2.2], fateV f] w fun e w' => ChipOut w (program (bs, br, off, ops) b p pg f) e w' ∧ Mem w w' := by
  obtain ⟨oa, ca, rfl⟩ := hb.shape
  obtain ⟨pw, pd, pt⟩ := pg
  obtain ⟨fk, fd, ft, fn⟩ := f
  simp only [fateV]
  obtain ⟨W0, hW0⟩ : ∃ W, W = (((w.alloc (.cells #[.slice oa bs.length ca, .bool br, .bool off, .int .i64 ops] 24)).alloc (.cells #[.bool pw, .string pd, .string pt] 33)).alloc (.cells #[.int .i64 fk, .string fd, .string ft, .int .i64 fn] 52)).alloc (.cells #[.slice none 0 0, .bool false, .bool false, .int .i64 0] 24) := ⟨_, rfl⟩
  have hm : Mem w W0 := by rw [hW0]; exact ((((Mem.refl w).alloc _).alloc _).alloc _).alloc _
  have hC : Blk W0 w.heap.size 24 #[.slice oa bs.length ca, .bool br, .bool off, .int .i64 ops] := by rw [hW0]; exact (((Blk.new w _ _).alloc _).alloc _).alloc _
  have hP : Blk W0 (w.heap.size + 1) 33 #[.bool pw, .string pd, .string pt] := by
    have := ((Blk.new (w.alloc (.cells #[.slice oa bs.length ca, .bool br, .bool off, .int .i64 ops] 24)) #[.bool pw, .string pd, .string pt] 33).alloc (.cells #[.int .i64 fk, .string fd, .string ft, .int .i64 fn] 52)).alloc (.cells #[.slice none 0 0, .bool false, .bool false, .int .i64 0] 24)
    rw [alloc_size, ← hW0] at this; exact this
  have hF : Blk W0 (w.heap.size + 1 + 1) 52 #[.int .i64 fk, .string fd, .string ft, .int .i64 fn] := by
    have := (Blk.new ((w.alloc (.cells #[.slice oa bs.length ca, .bool br, .bool off, .int .i64 ops] 24)).alloc (.cells #[.bool pw, .string pd, .string pt] 33)) #[.int .i64 fk, .string fd, .string ft, .int .i64 fn] 52).alloc (.cells #[.slice none 0 0, .bool false, .bool false, .int .i64 0] 24)
    rw [alloc_size, alloc_size, ← hW0] at this; exact this
  have hR : Blk W0 (w.heap.size + 1 + 1 + 1) 24 #[.slice none 0 0, .bool false, .bool false, .int .i64 0] := by
    have := Blk.new (((w.alloc (.cells #[.slice oa bs.length ca, .bool br, .bool off, .int .i64 ops] 24)).alloc (.cells #[.bool pw, .string pd, .string pt] 33)).alloc (.cells #[.int .i64 fk, .string fd, .string ft, .int .i64 fn] 52)) #[.slice none 0 0, .bool false, .bool false, .int .i64 0] 24
    rw [alloc_size, alloc_size, alloc_size, ← hW0] at this; exact this
  have hsz : W0.heap.size = w.heap.size + 4 := by rw [hW0]; simp
  have HS := hide hsz
  have hW := hide hW0
  clear hsz hW0
  replace hb := hb.mem hm
  have c0 := hC.cell (j := 0) rfl
  have c1 := hC.cell (j := 1) rfl
  have c2 := hC.cell (j := 2) rfl
  have c3 := hC.cell (j := 3) rfl
  have z0 := hR.cell (j := 0) rfl
  have z1 := hR.cell (j := 1) rfl
  have z2 := hR.cell (j := 2) rfl
  have z3 := hR.cell (j := 3) rfl
  go_enter Tryz.func12, Tryz.ntmps12
  cases off with
  | true =>
    go_wp2_with fail
    rw [← hW.out]
    refine (refOwn S _ bs br true ops _ hb hf).mono ?_
    rintro e w1 ⟨⟨v', rfl, hO⟩, m1⟩
    obtain ⟨ol, cl, rfl⟩ := hO.shape
    have hR2 := hR.mem m1
    have hm2 := hm.trans m1
    have z0 := hR2.cell (j := 0) rfl
    have z1 := hR2.cell (j := 1) rfl
    have z2 := hR2.cell (j := 2) rfl
    have z3 := hR2.cell (j := 3) rfl
    have f0 := hR2.frozen 0
    have f1 := hR2.frozen 1
    have f2 := hR2.frozen 2
    have f3 := hR2.frozen 3
    have hs4 : w.heap.size + 1 + 1 + 1 < W0.heap.size + 2 := by rw [HS.out]; omega
    go_wp2_with fail
    refine bodyPost_ret (ret_chip rfl _ _ rfl (hR2.put4 _ _ _ _)) rfl ⟨⟨_, rfl, ?_⟩, hm2.put4 (by omega) _ _ _ _⟩
    exact (hO.put4 hs4 _ _ _ _).base (by omega)
  | false =>
    go_wp2_with fail
    rw [← hW.out]
    clear c0 c1 c2 c3 z0 z1 z2 z3
    refine (refThere S _ bs br false ops b p _ hb).mono ?_
    rintro e w1 ⟨rfl, m1⟩
    replace hm := hm.trans m1
    replace hb := hb.mem m1
    replace hC := hC.mem m1
    replace hP := hP.mem m1
    replace hF := hF.mem m1
    replace hR := hR.mem m1
    clear m1 HS hW
    have c0 := hC.cell (j := 0) rfl
    have c1 := hC.cell (j := 1) rfl
    have c2 := hC.cell (j := 2) rfl
    have c3 := hC.cell (j := 3) rfl
    have k0 := hF.cell (j := 0) rfl
    cases ht : thereB bs b p with
    | false =>
      have HP : Hid (program (bs, br, false, ops) b p (pw, pd, pt) (fk, fd, ft, fn) = ((bs, true, false, ops), 1)) := by
        show _ = _; unfold program okProg; rw [ht]; rfl
      clear ht
      go_wp2_with fail
      refine (refBroken S _ bs br false ops _ hb hf).mono ?_
      rintro e w2 ⟨⟨v', rfl, hO⟩, m2⟩
      obtain ⟨ol, cl, rfl⟩ := hO.shape
      have hR2 := hR.mem m2
      have hm2 := hm.trans m2
      have hs4 := hR.lt
      have z0 := hR2.cell (j := 0) rfl
      have z1 := hR2.cell (j := 1) rfl
      have z2 := hR2.cell (j := 2) rfl
      have z3 := hR2.cell (j := 3) rfl
      have f0 := hR2.frozen 0
      have f1 := hR2.frozen 1
      have f2 := hR2.frozen 2
      have f3 := hR2.frozen 3
      go_wp2_with fail
      refine bodyPost_ret (ret_chip rfl _ _ rfl (hR2.put4 _ _ _ _)) rfl ⟨?_, hm2.put4 (by omega) _ _ _ _⟩
      rw [HP.out]
      exact ⟨_, rfl, (hO.put4 hs4 _ _ _ _).base (by omega)⟩
    | true =>
    have ht2 := ht
    unfold thereB at ht2
    simp only [Bool.and_eq_true, decide_eq_true_eq] at ht2
    obtain ⟨⟨⟨h0, h1⟩, h2⟩, h3⟩ := ht2
    obtain ⟨i, rfl⟩ := Int.eq_ofNat_of_zero_le h0
    obtain ⟨j, rfl⟩ := Int.eq_ofNat_of_zero_le h2
    have hi : i < bs.length := by omega
    have hg : bs.getD (i : Int).toNat default = bs[i] := by simp [hi]
    rw [hg] at h3
    have hj : j < bs[i].1.length := by omega
    have HK : Hid (bs[i]? = some bs[i]) := by show _ = _; simp [hi]
    have hpl : bs[i].1.length ≤ 1000 := hf.2 _ (List.getElem_mem hi)
    have HPG : Hid (∀ fk' : Int, okProg bs (i : Int) (j : Int) (fk', fd, ft, fn) = (!bs[i].2.2.2 && decide (bs[i].2.1 = (j : Int)) && decide (0 ≤ fk') && decide (fk' ≤ 2))) := by
      intro fk'; unfold okProg; rw [ht, hg]; rfl
    obtain ⟨g, og, op, cp, rfl, _, x0, x1, x2, x3, hp⟩ := hb.at hi
    have h1' : (i : Int) < (bs.length : Int) := h1
    have h3' : (j : Int) < (bs[i].1.length : Int) := h3
    have HG := hide hg
    generalize bs[i] = bk at *
    obtain ⟨ps, nx, er, bd⟩ := bk
    simp only [] at x0 x1 x2 x3 hp h3 h3' hj hpl HPG HG
    clear ht hg hp
    cases bd with
    | true =>
      have HP : Hid (program (bs, br, false, ops) (i : Int) (j : Int) (pw, pd, pt) (fk, fd, ft, fn) = ((bs, true, false, ops), 1)) := by
        show _ = _; unfold program; simp only []; rw [HPG.out]; rfl
      go_wp2_with fail
      refine (refBroken S _ bs br false ops _ hb hf).mono ?_
      rintro e w2 ⟨⟨v', rfl, hO⟩, m2⟩
      obtain ⟨ol, cl, rfl⟩ := hO.shape
      have hR2 := hR.mem m2
      have hm2 := hm.trans m2
      have hs4 := hR.lt
      have z0 := hR2.cell (j := 0) rfl
      have z1 := hR2.cell (j := 1) rfl
      have z2 := hR2.cell (j := 2) rfl
      have z3 := hR2.cell (j := 3) rfl
      have f0 := hR2.frozen 0
      have f1 := hR2.frozen 1
      have f2 := hR2.frozen 2
      have f3 := hR2.frozen 3
      go_wp2_with fail
      refine bodyPost_ret (ret_chip rfl _ _ rfl (hR2.put4 _ _ _ _)) rfl ⟨?_, hm2.put4 (by omega) _ _ _ _⟩
      rw [HP.out]
      exact ⟨_, rfl, (hO.put4 hs4 _ _ _ _).base (by omega)⟩
    | false =>
    by_cases hn : nx = (j : Int)
    case neg =>
      have HP : Hid (program (bs, br, false, ops) (i : Int) (j : Int) (pw, pd, pt) (fk, fd, ft, fn) = ((bs, true, false, ops), 1)) := by
        show _ = _; unfold program; simp only []; rw [HPG.out, decide_eq_false hn]; rfl
      have hn' : (nx != (j : Int)) = true := by rw [bne_iff_ne]; exact hn
      clear hn
      go_wp2_with fail
      refine (refBroken S _ bs br false ops _ hb hf).mono ?_
      rintro e w2 ⟨⟨v', rfl, hO⟩, m2⟩
      obtain ⟨ol, cl, rfl⟩ := hO.shape
      have hR2 := hR.mem m2
      have hm2 := hm.trans m2
      have hs4 := hR.lt
      have z0 := hR2.cell (j := 0) rfl
      have z1 := hR2.cell (j := 1) rfl
      have z2 := hR2.cell (j := 2) rfl
      have z3 := hR2.cell (j := 3) rfl
      have f0 := hR2.frozen 0
      have f1 := hR2.frozen 1
      have f2 := hR2.frozen 2
      have f3 := hR2.frozen 3
      go_wp2_with fail
      refine bodyPost_ret (ret_chip rfl _ _ rfl (hR2.put4 _ _ _ _)) rfl ⟨?_, hm2.put4 (by omega) _ _ _ _⟩
      rw [HP.out]
      exact ⟨_, rfl, (hO.put4 hs4 _ _ _ _).base (by omega)⟩
    subst hn
    have hn' : ((j : Int) != (j : Int)) = false := by simp
    by_cases hk0 : fk < 0
    · have HP : Hid (program (bs, br, false, ops) (i : Int) (j : Int) (pw, pd, pt) (fk, fd, ft, fn) = ((bs, true, false, ops), 1)) := by
        show _ = _; unfold program; simp only []; rw [HPG.out, decide_eq_false (show ¬ 0 ≤ fk by omega)]; simp
      go_wp2_with fail
      refine (refBroken S _ bs br false ops _ hb hf).mono ?_
      rintro e w2 ⟨⟨v', rfl, hO⟩, m2⟩
      obtain ⟨ol, cl, rfl⟩ := hO.shape
      have hR2 := hR.mem m2
      have hm2 := hm.trans m2
      have hs4 := hR.lt
      have z0 := hR2.cell (j := 0) rfl
      have z1 := hR2.cell (j := 1) rfl
      have z2 := hR2.cell (j := 2) rfl
      have z3 := hR2.cell (j := 3) rfl
      have f0 := hR2.frozen 0
      have f1 := hR2.frozen 1
      have f2 := hR2.frozen 2
      have f3 := hR2.frozen 3
      go_wp2_with fail
      refine bodyPost_ret (ret_chip rfl _ _ rfl (hR2.put4 _ _ _ _)) rfl ⟨?_, hm2.put4 (by omega) _ _ _ _⟩
      rw [HP.out]
      exact ⟨_, rfl, (hO.put4 hs4 _ _ _ _).base (by omega)⟩
    have hk0' : 0 ≤ fk := by omega
    by_cases hk2 : 2 < fk
    · have HP : Hid (program (bs, br, false, ops) (i : Int) (j : Int) (pw, pd, pt) (fk, fd, ft, fn) = ((bs, true, false, ops), 1)) := by
        show _ = _; unfold program; simp only []; rw [HPG.out, decide_eq_false (show ¬ fk ≤ 2 by omega)]; simp
      go_wp2_with fail
      refine (refBroken S _ bs br false ops _ hb hf).mono ?_
      rintro e w2 ⟨⟨v', rfl, hO⟩, m2⟩
      obtain ⟨ol, cl, rfl⟩ := hO.shape
      have hR2 := hR.mem m2
      have hm2 := hm.trans m2
      have hs4 := hR.lt
      have z0 := hR2.cell (j := 0) rfl
      have z1 := hR2.cell (j := 1) rfl
      have z2 := hR2.cell (j := 2) rfl
      have z3 := hR2.cell (j := 3) rfl
      have f0 := hR2.frozen 0
      have f1 := hR2.frozen 1
      have f2 := hR2.frozen 2
      have f3 := hR2.frozen 3
      go_wp2_with fail
      refine bodyPost_ret (ret_chip rfl _ _ rfl (hR2.put4 _ _ _ _)) rfl ⟨?_, hm2.put4 (by omega) _ _ _ _⟩
      rw [HP.out]
      exact ⟨_, rfl, (hO.put4 hs4 _ _ _ _).base (by omega)⟩
    have hk2' : fk ≤ 2 := by omega
    have HP : Hid (program (bs, br, false, ops) (i : Int) (j : Int) (pw, pd, pt) (fk, fd, ft, fn) = ((bs.set i (ps.set j (if fk = 0 then (true, pd, pt) else (true, fd, ft)), (j : Int) + 1, er, decide (fk = 1)), br, decide (fk = 2), wrap64 (ops + 1)), if fk = 0 then 0 else if fk = 1 then 53 else 52)) := by
      show _ = _
      unfold program
      simp only []
      rw [HPG.out, HG.out, decide_eq_true hk0', decide_eq_true hk2']
      simp
    clear hk0 hk2 HPG HG
    go_wp2_with fail
    refine (refOwn S _ bs br false ops _ hb hf).mono ?_
    rintro e w2 ⟨⟨v', rfl, hO⟩, m2⟩
    obtain ⟨g2, c2', R, rfl, hcap, h1o⟩ := hO.one hi
    have HCap := hide hcap
    clear hcap
    have ha : Mem w2 (w2.alloc (.cells #[.slice (some ⟨g2, 0, none⟩) bs.length c2', .bool br, .bool false, .int .i64 (wrap64 (ops + 1))] 24)) := (Mem.refl w2).alloc _
    have hOA := Blk.new w2 #[.slice (some ⟨g2, 0, none⟩) bs.length c2', .bool br, .bool false, .int .i64 (wrap64 (ops + 1))] 24
    have hA := h1o.mem ha
    have n2 := m2.trans ha
    have hPA := hP.mem n2
    have hFA := hF.mem n2
    have hRA := hR.mem n2
    have hmA := hm.trans n2
    have hs4 := hR.lt
    have hgb : w1.heap.size + 2 ≤ g2 := h1o.1
    have hg2 : g2 < w2.heap.size := h1o.2.1.1
    have hm2s := m2.size
    have hRx : ∀ i' x, R i' x → w1.heap.size + 2 ≤ x ∧ x < w2.heap.size := fun i' x hx => ⟨(h1o.2.2.1 i' x hx).1, (h1o.2.2.1 i' x hx).2.1⟩
    obtain ⟨op2, cp2, y0, y1, y2, y3, hp2, fz⟩ := hA.at HK.out
    have fz1 := fz (i * 4 + 1)
    have hB := hA.next HK.out ((j : Int) + 1)
    have hOB := hOA.other (a := ⟨g2, i * 4 + 1, none⟩) (by show w2.heap.size ≠ g2; omega) (.int .i64 ((j : Int) + 1))
    have hPB := hPA.other (a := ⟨g2, i * 4 + 1, none⟩) (by show w.heap.size + 1 ≠ g2; omega) (.int .i64 ((j : Int) + 1))
    have hFB := hFA.other (a := ⟨g2, i * 4 + 1, none⟩) (by show w.heap.size + 1 + 1 ≠ g2; omega) (.int .i64 ((j : Int) + 1))
    have hRB := hRA.other (a := ⟨g2, i * 4 + 1, none⟩) (by show w.heap.size + 1 + 1 + 1 ≠ g2; omega) (.int .i64 ((j : Int) + 1))
    have hmB := hmA.setCell (p := ⟨g2, i * 4 + 1, none⟩) (by show w.heap.size ≤ g2; omega) (.int .i64 ((j : Int) + 1))
    have pf := hPB.frozen 0
    have pc := hPB.cell (j := 0) rfl
    have hC' := hB.below (p := ⟨w.heap.size + 1, 0, none⟩) (by show w.heap.size + 1 < _; omega) (.bool true)
    have hOC := hOB.other (a := ⟨w.heap.size + 1, 0, none⟩) (by show w2.heap.size ≠ w.heap.size + 1; omega) (.bool true)
    have hPC := hPB.set 0 (.bool true)
    have hFC := hFB.other (a := ⟨w.heap.size + 1, 0, none⟩) (by show w.heap.size + 1 + 1 ≠ w.heap.size + 1; omega) (.bool true)
    have hRC := hRB.other (a := ⟨w.heap.size + 1, 0, none⟩) (by show w.heap.size + 1 + 1 + 1 ≠ w.heap.size + 1; omega) (.bool true)
    have hmC := hmB.setCell (p := ⟨w.heap.size + 1, 0, none⟩) (by show w.heap.size ≤ w.heap.size + 1; omega) (.bool true)
    have q0 := hFC.cell (j := 0) rfl
    have q1 := hFC.cell (j := 1) rfl
    have q2 := hFC.cell (j := 2) rfl
    have hjw : (j : Int) + 1 ≤ 1001 := by omega
    clear x0 x1 x2 x3 c0 c1 c2 c3 k0 hn' hmA hmB hA hB hOA hOB hPA hFA hFB hRA hRB n2 ha m2 hO hP hF hm hC hb hR
    have HG2 := hide hg2
    have HGB := hide hgb
    clear hg2 hgb
    have hfk : fk = 0 ∨ fk = 1 ∨ fk = 2 := by omega
    rcases hfk with rfl | rfl | rfl
    · go_wp2_with fail
      generalize hX : ((w2.alloc (.cells #[.slice (some ⟨g2, 0, none⟩) bs.length c2', .bool br, .bool false, .int .i64 (wrap64 (ops + 1))] 24)).setCell ⟨g2, i * 4 + 1, none⟩ (.int .i64 ((j : Int) + 1))).setCell ⟨w.heap.size + 1, 0, none⟩ (.bool true) = X at *
      clear hX
      have hX := hC'
      have hPX : Blk X (w.heap.size + 1) 33 #[.bool true, .string pd, .string pt] := hPC
      have hOX := hOC
      have hRX := hRC
      have hmX := hmC
      clear hC' hPC hOC hRC hmC hFC q0 q1 q2 pf pc y0 y1 y2 y3 fz fz1
      have hi2 : (bs.set i (ps, (j : Int) + 1, er, false))[i]? = some (ps, (j : Int) + 1, er, false) := set_get hi
      obtain ⟨op3, cp3, y0, y1, y2, y3, hp3, _⟩ := hX.at hi2
      have hpa := hp3.at hj
      obtain ⟨x, xo, rfl, hRi, t0, t1, t2⟩ := hpa
      have hxs := (hX.2.2.1 i x hRi).2.2
      have u0 := hxs (xo + j * 3)
      have u1 := hxs (xo + j * 3 + 1)
      have u2 := hxs (xo + j * 3 + 2)
      have hxb := hRx i x hRi
      have o0 := hOX.cell (j := 0) rfl
      have s0 := hPX.cell (j := 0) rfl
      have s1 := hPX.cell (j := 1) rfl
      have s2 := hPX.cell (j := 2) rfl
      have hD := hX.page hi2 y0 hRi hj (true, pd, pt)
      have hOD := ((hOX.other (a := ⟨x, xo + j * 3, none⟩) (by show w2.heap.size ≠ x; omega) (.bool true)).other (a := ⟨x, xo + j * 3 + 1, none⟩) (by show w2.heap.size ≠ x; omega) (.string pd)).other (a := ⟨x, xo + j * 3 + 2, none⟩) (by show w2.heap.size ≠ x; omega) (.string pt)
      have hRD := ((hRX.other (a := ⟨x, xo + j * 3, none⟩) (by show w.heap.size + 1 + 1 + 1 ≠ x; omega) (.bool true)).other (a := ⟨x, xo + j * 3 + 1, none⟩) (by show w.heap.size + 1 + 1 + 1 ≠ x; omega) (.string pd)).other (a := ⟨x, xo + j * 3 + 2, none⟩) (by show w.heap.size + 1 + 1 + 1 ≠ x; omega) (.string pt)
      have hmD := Mem.set3 hmX (x := x) (by omega) (xo + j * 3) (true, pd, pt)
      rw [List.set_set] at hD
      unfold set3 at hD hmD
      simp only [] at hD hmD
      clear hp3
      go_region
      replace hD := hD.drew
      replace hOD := hOD.drew
      replace hRD := hRD.drew
      replace hmD := hmD.drew
      generalize (((X.setCell ⟨x, xo + j * 3, none⟩ (.bool true)).setCell ⟨x, xo + j * 3 + 1, none⟩ (.string pd)).setCell ⟨x, xo + j * 3 + 2, none⟩ (.string pt)).drew = Y at *
      clear y0 y1 y2 y3 t0 t1 t2 u0 u1 u2 o0 s0 s1 s2 hX hOX hRX hPX hmX hxs
      have o0 := hOD.cell (j := 0) rfl
      have o1 := hOD.cell (j := 1) rfl
      have o2 := hOD.cell (j := 2) rfl
      have o3 := hOD.cell (j := 3) rfl
      have z0 := hRD.cell (j := 0) rfl
      have z1 := hRD.cell (j := 1) rfl
      have z2 := hRD.cell (j := 2) rfl
      have z3 := hRD.cell (j := 3) rfl
      have f0 := hRD.frozen 0
      have f1 := hRD.frozen 1
      have f2 := hRD.frozen 2
      have f3 := hRD.frozen 3
      go_wp2_with fail
      refine bodyPost_ret (ret_chip rfl _ _ rfl (hRD.put4 _ _ _ _)) rfl ⟨?_, hmD.put4 (by omega) _ _ _ _⟩
      rw [HP.out]
      exact ⟨_, rfl, (OwnB.put4 (hD.whole bs.length c2' (by simp) HCap.out) (by omega) _ _ _ _).base (by omega)⟩
    · go_wp2_with fail
      generalize hX : ((w2.alloc (.cells #[.slice (some ⟨g2, 0, none⟩) bs.length c2', .bool br, .bool false, .int .i64 (wrap64 (ops + 1))] 24)).setCell ⟨g2, i * 4 + 1, none⟩ (.int .i64 ((j : Int) + 1))).setCell ⟨w.heap.size + 1, 0, none⟩ (.bool true) = X at *
      clear hX
      have hX := hC'
      have hPX : Blk X (w.heap.size + 1) 33 #[.bool true, .string pd, .string pt] := hPC
      have hOX := hOC
      have hRX := hRC
      have hmX := hmC
      have hFX := hFC
      clear hC' hPC hOC hRC hmC hFC q0 pf pc y0 y1 y2 y3 fz fz1
      have s1 := hPX.cell (j := 1) rfl
      have s2 := hPX.cell (j := 2) rfl
      have r1 := hPX.frozen 1
      have r2 := hPX.frozen 2
      go_region
      have hgb := HGB.out
      have hg2 := HG2.out
      have hE := ((hX.below (p := ⟨w.heap.size + 1, 1, none⟩) (by show w.heap.size + 1 < _; omega) (.string fd)).below (p := ⟨w.heap.size + 1, 2, none⟩) (by show w.heap.size + 1 < _; omega) (.string ft)).drew
      have hPE : Blk ((X.setCell ⟨w.heap.size + 1, 1, none⟩ (.string fd)).setCell ⟨w.heap.size + 1, 2, none⟩ (.string ft)).drew (w.heap.size + 1) 33 #[.bool true, .string fd, .string ft] := ((hPX.set 1 (.string fd)).set 2 (.string ft)).drew
      have hOE := ((hOX.other (a := ⟨w.heap.size + 1, 1, none⟩) (by show w2.heap.size ≠ w.heap.size + 1; omega) (.string fd)).other (a := ⟨w.heap.size + 1, 2, none⟩) (by show w2.heap.size ≠ w.heap.size + 1; omega) (.string ft)).drew
      have hFE := ((hFX.other (a := ⟨w.heap.size + 1, 1, none⟩) (by show w.heap.size + 1 + 1 ≠ w.heap.size + 1; omega) (.string fd)).other (a := ⟨w.heap.size + 1, 2, none⟩) (by show w.heap.size + 1 + 1 ≠ w.heap.size + 1; omega) (.string ft)).drew
      have hRE := ((hRX.other (a := ⟨w.heap.size + 1, 1, none⟩) (by show w.heap.size + 1 + 1 + 1 ≠ w.heap.size + 1; omega) (.string fd)).other (a := ⟨w.heap.size + 1, 2, none⟩) (by show w.heap.size + 1 + 1 + 1 ≠ w.heap.size + 1; omega) (.string ft)).drew
      have hmE := ((hmX.setCell (p := ⟨w.heap.size + 1, 1, none⟩) (by show w.heap.size ≤ w.heap.size + 1; omega) (.string fd)).setCell (p := ⟨w.heap.size + 1, 2, none⟩) (by show w.heap.size ≤ w.heap.size + 1; omega) (.string ft)).drew
      clear hX hPX hOX hFX hRX hmX s1 s2 r1 r2 q1 q2
      generalize hEE : ((X.setCell ⟨w.heap.size + 1, 1, none⟩ (.string fd)).setCell ⟨w.heap.size + 1, 2, none⟩ (.string ft)).drew = E at *
      clear hEE
      have q0 := hFE.cell (j := 0) rfl
      have hi1 : (bs.set i (ps, (j : Int) + 1, er, false))[i]? = some (ps, (j : Int) + 1, er, false) := set_get hi
      obtain ⟨op3, cp3, y0, y1, y2, y3, _, fz⟩ := hE.at hi1
      have fz3 := fz (i * 4 + 3)
      have o0 := hOE.cell (j := 0) rfl
      have hX := hE.bad hi1 true
      have hPX := hPE.other (a := ⟨g2, i * 4 + 3, none⟩) (by show w.heap.size + 1 ≠ g2; omega) (.bool true)
      have hOX := hOE.other (a := ⟨g2, i * 4 + 3, none⟩) (by show w2.heap.size ≠ g2; omega) (.bool true)
      have hFX := hFE.other (a := ⟨g2, i * 4 + 3, none⟩) (by show w.heap.size + 1 + 1 ≠ g2; omega) (.bool true)
      have hRX := hRE.other (a := ⟨g2, i * 4 + 3, none⟩) (by show w.heap.size + 1 + 1 + 1 ≠ g2; omega) (.bool true)
      have hmX := hmE.setCell (p := ⟨g2, i * 4 + 3, none⟩) (by show w.heap.size ≤ g2; omega) (.bool true)
      have q3 := hFX.cell (j := 0) rfl
      rw [List.set_set] at hX
      clear hg2 hgb
      go_wp2_with fail
      clear q0 q3 o0 fz fz3 y0 y1 y2 y3 hi1 hE hPE hOE hFE hRE hmE X
      generalize hXX : E.setCell ⟨g2, i * 4 + 3, none⟩ (.bool true) = X at *
      clear hXX
      have hi2 : (bs.set i (ps, (j : Int) + 1, er, true))[i]? = some (ps, (j : Int) + 1, er, true) := set_get hi
      obtain ⟨op3, cp3, y0, y1, y2, y3, hp3, _⟩ := hX.at hi2
      have hpa := hp3.at hj
      obtain ⟨x, xo, rfl, hRi, t0, t1, t2⟩ := hpa
      have hxs := (hX.2.2.1 i x hRi).2.2
      have u0 := hxs (xo + j * 3)
      have u1 := hxs (xo + j * 3 + 1)
      have u2 := hxs (xo + j * 3 + 2)
      have hxb := hRx i x hRi
      have o0 := hOX.cell (j := 0) rfl
      have s0 := hPX.cell (j := 0) rfl
      have s1 := hPX.cell (j := 1) rfl
      have s2 := hPX.cell (j := 2) rfl
      have hD := hX.page hi2 y0 hRi hj (true, fd, ft)
      have hOD := ((hOX.other (a := ⟨x, xo + j * 3, none⟩) (by show w2.heap.size ≠ x; omega) (.bool true)).other (a := ⟨x, xo + j * 3 + 1, none⟩) (by show w2.heap.size ≠ x; omega) (.string fd)).other (a := ⟨x, xo + j * 3 + 2, none⟩) (by show w2.heap.size ≠ x; omega) (.string ft)
      have hRD := ((hRX.other (a := ⟨x, xo + j * 3, none⟩) (by show w.heap.size + 1 + 1 + 1 ≠ x; omega) (.bool true)).other (a := ⟨x, xo + j * 3 + 1, none⟩) (by show w.heap.size + 1 + 1 + 1 ≠ x; omega) (.string fd)).other (a := ⟨x, xo + j * 3 + 2, none⟩) (by show w.heap.size + 1 + 1 + 1 ≠ x; omega) (.string ft)
      have hmD := Mem.set3 hmX (x := x) (by omega) (xo + j * 3) (true, fd, ft)
      rw [List.set_set] at hD
      unfold set3 at hD hmD
      simp only [] at hD hmD
      clear hp3
      go_region
      replace hD := hD.drew
      replace hOD := hOD.drew
      replace hRD := hRD.drew
      replace hmD := hmD.drew
      generalize (((X.setCell ⟨x, xo + j * 3, none⟩ (.bool true)).setCell ⟨x, xo + j * 3 + 1, none⟩ (.string fd)).setCell ⟨x, xo + j * 3 + 2, none⟩ (.string ft)).drew = Y at *
      clear y0 y1 y2 y3 t0 t1 t2 u0 u1 u2 o0 s0 s1 s2 hX hOX hRX hPX hmX hxs
      have o0 := hOD.cell (j := 0) rfl
      have o1 := hOD.cell (j := 1) rfl
      have o2 := hOD.cell (j := 2) rfl
      have o3 := hOD.cell (j := 3) rfl
      have z0 := hRD.cell (j := 0) rfl
      have z1 := hRD.cell (j := 1) rfl
      have z2 := hRD.cell (j := 2) rfl
      have z3 := hRD.cell (j := 3) rfl
      have f0 := hRD.frozen 0
      have f1 := hRD.frozen 1
      have f2 := hRD.frozen 2
      have f3 := hRD.frozen 3
      go_wp2_with fail
      refine bodyPost_ret (ret_chip rfl _ _ rfl (hRD.put4 _ _ _ _)) rfl ⟨?_, hmD.put4 (by omega) _ _ _ _⟩
      rw [HP.out]
      exact ⟨_, rfl, (OwnB.put4 (hD.whole bs.length c2' (by simp) HCap.out) (by omega) _ _ _ _).base (by omega)⟩
    · go_wp2_with fail
      generalize hX : ((w2.alloc (.cells #[.slice (some ⟨g2, 0, none⟩) bs.length c2', .bool br, .bool false, .int .i64 (wrap64 (ops + 1))] 24)).setCell ⟨g2, i * 4 + 1, none⟩ (.int .i64 ((j : Int) + 1))).setCell ⟨w.heap.size + 1, 0, none⟩ (.bool true) = X at *
      clear hX
      have hX := hC'
      have hPX : Blk X (w.heap.size + 1) 33 #[.bool true, .string pd, .string pt] := hPC
      have hOX := hOC
      have hRX := hRC
      have hmX := hmC
      have hFX := hFC
      clear hC' hPC hOC hRC hmC hFC q0 pf pc y0 y1 y2 y3 fz fz1
      have s1 := hPX.cell (j := 1) rfl
      have s2 := hPX.cell (j := 2) rfl
      have r1 := hPX.frozen 1
      have r2 := hPX.frozen 2
      go_region
      have hgb := HGB.out
      have hg2 := HG2.out
      have hE := ((hX.below (p := ⟨w.heap.size + 1, 1, none⟩) (by show w.heap.size + 1 < _; omega) (.string fd)).below (p := ⟨w.heap.size + 1, 2, none⟩) (by show w.heap.size + 1 < _; omega) (.string ft)).drew
      have hPE : Blk ((X.setCell ⟨w.heap.size + 1, 1, none⟩ (.string fd)).setCell ⟨w.heap.size + 1, 2, none⟩ (.string ft)).drew (w.heap.size + 1) 33 #[.bool true, .string fd, .string ft] := ((hPX.set 1 (.string fd)).set 2 (.string ft)).drew
      have hOE := ((hOX.other (a := ⟨w.heap.size + 1, 1, none⟩) (by show w2.heap.size ≠ w.heap.size + 1; omega) (.string fd)).other (a := ⟨w.heap.size + 1, 2, none⟩) (by show w2.heap.size ≠ w.heap.size + 1; omega) (.string ft)).drew
      have hFE := ((hFX.other (a := ⟨w.heap.size + 1, 1, none⟩) (by show w.heap.size + 1 + 1 ≠ w.heap.size + 1; omega) (.string fd)).other (a := ⟨w.heap.size + 1, 2, none⟩) (by show w.heap.size + 1 + 1 ≠ w.heap.size + 1; omega) (.string ft)).drew
      have hRE := ((hRX.other (a := ⟨w.heap.size + 1, 1, none⟩) (by show w.heap.size + 1 + 1 + 1 ≠ w.heap.size + 1; omega) (.string fd)).other (a := ⟨w.heap.size + 1, 2, none⟩) (by show w.heap.size + 1 + 1 + 1 ≠ w.heap.size + 1; omega) (.string ft)).drew
      have hmE := ((hmX.setCell (p := ⟨w.heap.size + 1, 1, none⟩) (by show w.heap.size ≤ w.heap.size + 1; omega) (.string fd)).setCell (p := ⟨w.heap.size + 1, 2, none⟩) (by show w.heap.size ≤ w.heap.size + 1; omega) (.string ft)).drew
      clear hX hPX hOX hFX hRX hmX s1 s2 r1 r2 q1 q2
      generalize hEE : ((X.setCell ⟨w.heap.size + 1, 1, none⟩ (.string fd)).setCell ⟨w.heap.size + 1, 2, none⟩ (.string ft)).drew = E at *
      clear hEE
      have q0 := hFE.cell (j := 0) rfl
      have hi1 : (bs.set i (ps, (j : Int) + 1, er, false))[i]? = some (ps, (j : Int) + 1, er, false) := set_get hi
      obtain ⟨op3, cp3, y0, y1, y2, y3, _, fz⟩ := hE.at hi1
      have fo := hOE.frozen 2
      have o2 := hOE.cell (j := 2) rfl
      have hX := hE.other (p := ⟨w2.heap.size, 2, none⟩) (by show w2.heap.size ≠ g2; omega) (fun i' hx => by have h := (hRx i' _ hx).2; exact absurd h (Nat.lt_irrefl _)) (.bool true)
      have hPX := hPE.other (a := ⟨w2.heap.size, 2, none⟩) (by show w.heap.size + 1 ≠ w2.heap.size; omega) (.bool true)
      have hOX : Blk (E.setCell ⟨w2.heap.size, 2, none⟩ (.bool true)) w2.heap.size 24 #[.slice (some ⟨g2, 0, none⟩) bs.length c2', .bool br, .bool true, .int .i64 (wrap64 (ops + 1))] := hOE.set 2 (.bool true)
      have hRX := hRE.other (a := ⟨w2.heap.size, 2, none⟩) (by show w.heap.size + 1 + 1 + 1 ≠ w2.heap.size; omega) (.bool true)
      have hmX := hmE.setCell (p := ⟨w2.heap.size, 2, none⟩) (by show w.heap.size ≤ w2.heap.size; omega) (.bool true)
      clear hg2 hgb
      go_wp2_with fail
      clear q0 o2 fo fz y0 y1 y2 y3 hi1 hE hPE hOE hFE hRE hmE X
      generalize hXX : E.setCell ⟨w2.heap.size, 2, none⟩ (.bool true) = X at *
      clear hXX
      have hi2 : (bs.set i (ps, (j : Int) + 1, er, false))[i]? = some (ps, (j : Int) + 1, er, false) := set_get hi
      obtain ⟨op3, cp3, y0, y1, y2, y3, hp3, _⟩ := hX.at hi2
      have hpa := hp3.at hj
      obtain ⟨x, xo, rfl, hRi, t0, t1, t2⟩ := hpa
      have hxs := (hX.2.2.1 i x hRi).2.2
      have u0 := hxs (xo + j * 3)
      have u1 := hxs (xo + j * 3 + 1)
      have u2 := hxs (xo + j * 3 + 2)
      have hxb := hRx i x hRi
      have o0 := hOX.cell (j := 0) rfl
      have s0 := hPX.cell (j := 0) rfl
      have s1 := hPX.cell (j := 1) rfl
      have s2 := hPX.cell (j := 2) rfl
      have hD := hX.page hi2 y0 hRi hj (true, fd, ft)
      have hOD := ((hOX.other (a := ⟨x, xo + j * 3, none⟩) (by show w2.heap.size ≠ x; omega) (.bool true)).other (a := ⟨x, xo + j * 3 + 1, none⟩) (by show w2.heap.size ≠ x; omega) (.string fd)).other (a := ⟨x, xo + j * 3 + 2, none⟩) (by show w2.heap.size ≠ x; omega) (.string ft)
      have hRD := ((hRX.other (a := ⟨x, xo + j * 3, none⟩) (by show w.heap.size + 1 + 1 + 1 ≠ x; omega) (.bool true)).other (a := ⟨x, xo + j * 3 + 1, none⟩) (by show w.heap.size + 1 + 1 + 1 ≠ x; omega) (.string fd)).other (a := ⟨x, xo + j * 3 + 2, none⟩) (by show w.heap.size + 1 + 1 + 1 ≠ x; omega) (.string ft)
      have hmD := Mem.set3 hmX (x := x) (by omega) (xo + j * 3) (true, fd, ft)
      rw [List.set_set] at hD
      unfold set3 at hD hmD
      simp only [] at hD hmD
      clear hp3
      go_region
      replace hD := hD.drew
      replace hOD := hOD.drew
      replace hRD := hRD.drew
      replace hmD := hmD.drew
      generalize (((X.setCell ⟨x, xo + j * 3, none⟩ (.bool true)).setCell ⟨x, xo + j * 3 + 1, none⟩ (.string fd)).setCell ⟨x, xo + j * 3 + 2, none⟩ (.string ft)).drew = Y at *
      clear y0 y1 y2 y3 t0 t1 t2 u0 u1 u2 o0 s0 s1 s2 hX hOX hRX hPX hmX hxs
      have o0 := hOD.cell (j := 0) rfl
      have o1 := hOD.cell (j := 1) rfl
      have o2 := hOD.cell (j := 2) rfl
      have o3 := hOD.cell (j := 3) rfl
      have z0 := hRD.cell (j := 0) rfl
      have z1 := hRD.cell (j := 1) rfl
      have z2 := hRD.cell (j := 2) rfl
      have z3 := hRD.cell (j := 3) rfl
      have f0 := hRD.frozen 0
      have f1 := hRD.frozen 1
      have f2 := hRD.frozen 2
      have f3 := hRD.frozen 3
      go_wp2_with fail
      refine bodyPost_ret (ret_chip rfl _ _ rfl (hRD.put4 _ _ _ _)) rfl ⟨?_, hmD.put4 (by omega) _ _ _ _⟩
      rw [HP.out]
      exact ⟨_, rfl, (OwnB.put4 (hD.whole bs.length c2' (by simp) HCap.out) (by omega) _ _ _ _).base (by omega)⟩
end Go.Proofs.YtedopplldpcinaaGreat.Nand
