/-
  Layer 5: the program's Program.
-/
import Derived.Test.YtodncodjnoegmaaNandCode4
namespace Go.Proofs.Ytodncodjnoegmaa.Nand
open Go.RowKit

theorem blk_fourth (w : World) (o o' o2 : Obj) (cs : Array Value) (t : TypeId) : Blk ((((w.alloc o).alloc o').alloc o2).alloc (.cells cs t)) (w.heap.size + 1 + 1 + 1) t cs := by
  have := Blk.new (((w.alloc o).alloc o').alloc o2) cs t
  rwa [alloc_size, alloc_size, alloc_size] at this
theorem owns_some {w : World} {base : Nat} {e : TypeId} {size : Nat} {v : Value} {n : Nat} {xs : List Value} (h : w.ownsRow base e size v n xs) (hn : 0 < n) : ∃ x cap, v = .slice (some ⟨x, 0, none⟩) n cap := by
  rcases h.2 with ⟨_, h0⟩ | ⟨g, cap, cur, rfl, _⟩
  · omega
  · exact ⟨g, cap, rfl⟩

set_option maxHeartbeats 4000000 in
set_option maxRecDepth 100000 in
theorem progSpec_nand : ProgSpec 18 := by
  intro S vb bs br off ops b p pg f w hb hf
  obtain ⟨oa, ca, rfl⟩ := hb.shape
  obtain ⟨fk, fd, ft, fn⟩ := f
  obtain ⟨pw, pd, pt⟩ := pg
  simp only [fateV, pageV]
  obtain ⟨W0, hW0⟩ : ∃ W, W = (((w.alloc (.cells #[.slice oa bs.length ca, .bool br, .bool off, .int .i64 ops] 27)).alloc (.cells #[.bool pw, .string pd, .string pt] 34)).alloc (.cells #[.int .i64 fk, .string fd, .string ft, .int .i64 fn] 36)).alloc (.cells #[.slice none 0 0, .bool false, .bool false, .int .i64 0] 27) := ⟨_, rfl⟩
  have hm : Mem w W0 := by rw [hW0]; exact ((((Mem.refl w).alloc _).alloc _).alloc _).alloc _
  have hC : Blk W0 w.heap.size 27 #[.slice oa bs.length ca, .bool br, .bool off, .int .i64 ops] := by rw [hW0]; exact (((Blk.new w _ _).alloc _).alloc _).alloc _
  have hPg : Blk W0 (w.heap.size + 1) 34 #[.bool pw, .string pd, .string pt] := by rw [hW0]; exact ((blk_second _ _ _ _).alloc _).alloc _
  have hF : Blk W0 (w.heap.size + 1 + 1) 36 #[.int .i64 fk, .string fd, .string ft, .int .i64 fn] := by rw [hW0]; exact (blk_third _ _ _ _ _).alloc _
  have hR : Blk W0 (w.heap.size + 1 + 1 + 1) 27 #[.slice none 0 0, .bool false, .bool false, .int .i64 0] := by rw [hW0]; exact blk_fourth _ _ _ _ _ _
  have hW := hide hW0
  clear hW0
  have HB0 := hide hb
  replace hb := (hb.mono (S' := fun x => S x ∧ x < w.heap.size) fun x hx hlt => ⟨hx, hlt⟩).mem hm
  go_enter Try.func18, Try.ntmps18
  cases off with
  | true =>
    go_wp2_with fail
    exact bodyPost_ret (ret_chip rfl _ _ rfl (blk_fourth _ _ _ _ _ _)) rfl ⟨⟨_, rfl, (HB0.out.mem (((((Mem.refl w).alloc _).alloc _).alloc _).alloc _)).mono fun x hx _ => .inl hx⟩, ((((Mem.refl w).alloc _).alloc _).alloc _).alloc _⟩
  | false =>
    go_wp2_with fail
    rw [← hW.out]
    refine (nandHasPage _ _ bs br false ops b p _ hb).mono ?_
    rintro e w1 ⟨rfl, m1⟩
    replace hm := hm.trans m1
    replace hb := hb.mem m1
    replace hC := hC.mem m1
    replace hPg := hPg.mem m1
    replace hF := hF.mem m1
    replace hR := hR.mem m1
    clear m1
    clear hW
    have c0 := hC.cell (j := 0) rfl
    have c1 := hC.cell (j := 1) rfl
    have c2 := hC.cell (j := 2) rfl
    have c3 := hC.cell (j := 3) rfl
    cases ht : thereB bs b p with
    | false =>
      have HP : Hid (program (bs, br, false, ops) b p (pw, pd, pt) (fk, fd, ft, fn) = ((bs, true, false, ops), 1)) := by
        show _ = _; unfold program okProg; simp only []; rw [ht]; rfl
      clear ht
      go_wp2_with fail
      refine (nandBroken _ _ bs br false ops _ hb).mono ?_
      rintro e w2 ⟨rfl, m2⟩
      have hR2 := hR.mem m2
      have hm2 := hm.trans m2
      have hb2 := hb.mem m2
      have z0 := hR2.cell (j := 0) rfl
      have z1 := hR2.cell (j := 1) rfl
      have z2 := hR2.cell (j := 2) rfl
      have z3 := hR2.cell (j := 3) rfl
      have f0 := hR2.frozen 0
      have f1 := hR2.frozen 1
      have f2 := hR2.frozen 2
      have f3 := hR2.frozen 3
      go_wp2_with fail
      refine bodyPost_ret (ret_chip rfl _ _ rfl (hR2.put4 _ _ _ _)) rfl ⟨?_, hm2.put4 (by omega) _ _ _ _⟩
      rw [HP.out]
      exact ⟨_, rfl, (hb2.put4 (fun h => by have := h.2; omega) _ _ _ _).mono fun x hx _ => .inl hx.1⟩
    | true =>
    have ht2 := ht
    unfold thereB at ht2
    simp only [Bool.and_eq_true, decide_eq_true_eq] at ht2
    obtain ⟨⟨⟨h0, h1⟩, h2⟩, h3⟩ := ht2
    obtain ⟨i, rfl⟩ := Int.eq_ofNat_of_zero_le h0
    obtain ⟨j, rfl⟩ := Int.eq_ofNat_of_zero_le h2
    have hi : i < bs.length := by omega
    have hg : bs.getD (i : Int).toNat default = bs[i] := by simp [hi]
    rw [hg] at h3
    have hj : j < bs[i].1.length := by omega
    have HK : Hid (bs[i]? = some bs[i]) := by show _ = _; simp [hi]
    have hpl : bs[i].1.length ≤ 1000 := hf.2 _ (List.getElem_mem hi)
    have HPG : Hid (∀ fk' : Int, okProg bs (i : Int) (j : Int) (fk', fd, ft, fn) = (!bs[i].2.2.2 && decide (bs[i].2.1 = (j : Int)) && okKind fk')) := by
      intro fk'; unfold okProg okKind; rw [ht, hg]; simp [Bool.and_assoc]
    obtain ⟨g0, og, op, cp, rfl, _, x0, x1, x2, x3, _⟩ := hb.at hi
    have h1' : (i : Int) < (bs.length : Int) := h1
    have h3' : (j : Int) < (bs[i].1.length : Int) := h3
    have HG := hide hg
    generalize bs[i] = bk at *
    obtain ⟨ps, nx, er, bd⟩ := bk
    simp only [] at x0 x1 x2 x3 h3 h3' hj hpl HPG HG
    clear ht hg
    by_cases hnx : nx = (j : Int)
    case neg =>
      have HP : Hid (program (bs, br, false, ops) (i : Int) (j : Int) (pw, pd, pt) (fk, fd, ft, fn) = ((bs, true, false, ops), 1)) := by
        show _ = _; unfold program; simp only []; rw [HPG.out, decide_eq_false hnx]; simp
      have hnx' : (nx != (j : Int)) = true := by simpa using hnx
      clear hnx
      go_wp2_with fail
      refine (nandBroken _ _ bs br false ops _ hb).mono ?_
      rintro e w2 ⟨rfl, m2⟩
      have hR2 := hR.mem m2
      have hm2 := hm.trans m2
      have hb2 := hb.mem m2
      have z0 := hR2.cell (j := 0) rfl
      have z1 := hR2.cell (j := 1) rfl
      have z2 := hR2.cell (j := 2) rfl
      have z3 := hR2.cell (j := 3) rfl
      have f0 := hR2.frozen 0
      have f1 := hR2.frozen 1
      have f2 := hR2.frozen 2
      have f3 := hR2.frozen 3
      go_wp2_with fail
      refine bodyPost_ret (ret_chip rfl _ _ rfl (hR2.put4 _ _ _ _)) rfl ⟨?_, hm2.put4 (by omega) _ _ _ _⟩
      rw [HP.out]
      exact ⟨_, rfl, (hb2.put4 (fun h => by have := h.2; omega) _ _ _ _).mono fun x hx _ => .inl hx.1⟩
    subst hnx
    cases bd with
    | true =>
      have HP : Hid (program (bs, br, false, ops) (i : Int) (j : Int) (pw, pd, pt) (fk, fd, ft, fn) = ((bs, true, false, ops), 1)) := by show _ = _; unfold program; simp only []; rw [HPG.out]; rfl
      go_wp2_with fail
      refine (nandBroken _ _ bs br false ops _ hb).mono ?_
      rintro e w2 ⟨rfl, m2⟩
      have hR2 := hR.mem m2
      have hm2 := hm.trans m2
      have hb2 := hb.mem m2
      have z0 := hR2.cell (j := 0) rfl
      have z1 := hR2.cell (j := 1) rfl
      have z2 := hR2.cell (j := 2) rfl
      have z3 := hR2.cell (j := 3) rfl
      have f0 := hR2.frozen 0
      have f1 := hR2.frozen 1
      have f2 := hR2.frozen 2
      have f3 := hR2.frozen 3
      go_wp2_with fail
      refine bodyPost_ret (ret_chip rfl _ _ rfl (hR2.put4 _ _ _ _)) rfl ⟨?_, hm2.put4 (by omega) _ _ _ _⟩
      rw [HP.out]
      exact ⟨_, rfl, (hb2.put4 (fun h => by have := h.2; omega) _ _ _ _).mono fun x hx _ => .inl hx.1⟩
    | false =>
    have k0 := hF.cell (j := 0) rfl
    have k1 := hF.cell (j := 1) rfl
    have k2 := hF.cell (j := 2) rfl
    have k3 := hF.cell (j := 3) rfl
    go_wp2_with fail
    refine (nandHasKind (fk, fd, ft, fn) _).mono ?_
    rintro e w2 ⟨rfl, m1⟩
    simp only []
    clear c0 c1 c2 c3 x0 x1 x2 x3 k0 k1 k2 k3
    replace hm := hm.trans m1
    replace hb := hb.mem m1
    replace hC := hC.mem m1
    replace hPg := hPg.mem m1
    replace hF := hF.mem m1
    replace hR := hR.mem m1
    clear m1
    have c0 := hC.cell (j := 0) rfl
    have c1 := hC.cell (j := 1) rfl
    have c2 := hC.cell (j := 2) rfl
    have c3 := hC.cell (j := 3) rfl
    have hok := HPG.out fk
    cases hkk : okKind fk with
    | false =>
      have HP : Hid (program (bs, br, false, ops) (i : Int) (j : Int) (pw, pd, pt) (fk, fd, ft, fn) = ((bs, true, false, ops), 1)) := by
        show _ = _; unfold program; simp only []; rw [hok, hkk]; simp
      clear hkk hok
      go_wp2_with fail
      refine (nandBroken _ _ bs br false ops _ hb).mono ?_
      rintro e w2 ⟨rfl, m2⟩
      have hR2 := hR.mem m2
      have hm2 := hm.trans m2
      have hb2 := hb.mem m2
      have z0 := hR2.cell (j := 0) rfl
      have z1 := hR2.cell (j := 1) rfl
      have z2 := hR2.cell (j := 2) rfl
      have z3 := hR2.cell (j := 3) rfl
      have f0 := hR2.frozen 0
      have f1 := hR2.frozen 1
      have f2 := hR2.frozen 2
      have f3 := hR2.frozen 3
      go_wp2_with fail
      refine bodyPost_ret (ret_chip rfl _ _ rfl (hR2.put4 _ _ _ _)) rfl ⟨?_, hm2.put4 (by omega) _ _ _ _⟩
      rw [HP.out]
      exact ⟨_, rfl, (hb2.put4 (fun h => by have := h.2; omega) _ _ _ _).mono fun x hx _ => .inl hx.1⟩
    | true =>
    rw [hkk] at hok
    unfold okKind at hkk
    simp only [Bool.and_eq_true, decide_eq_true_eq] at hkk
    have hfk : fk = 0 ∨ fk = 1 ∨ fk = 2 := by omega
    have HP : Hid (program (bs, br, false, ops) (i : Int) (j : Int) (pw, pd, pt) (fk, fd, ft, fn) = ((bs.set i (ps.set j (if fk = 0 then (true, pd, pt) else (true, fd, ft)), (j : Int) + 1, er, decide (fk = 1)), br, decide (fk = 2), wrap64 (ops + 1)), if fk = 0 then 0 else if fk = 1 then 53 else 52)) := by
      show _ = _
      unfold program
      simp only []
      rw [hok, HG.out]
      simp
    clear hkk hok HPG HG
    have k0 := hF.cell (j := 0) rfl
    have k1 := hF.cell (j := 1) rfl
    have k2 := hF.cell (j := 2) rfl
    have k3 := hF.cell (j := 3) rfl
    have q0 := hPg.cell (j := 0) rfl
    have q1 := hPg.cell (j := 1) rfl
    have q2 := hPg.cell (j := 2) rfl
    have r0 := hPg.frozen 0
    have r1 := hPg.frozen 1
    have r2 := hPg.frozen 2
    have HLT := hide hR.lt
    rcases hfk with rfl | rfl | rfl
    · have hPX : Blk (w2.setCell ⟨w.heap.size + 1, 0, none⟩ (.bool true)) (w.heap.size + 1) 34 #[.bool true, .string pd, .string pt] := hPg.set 0 _
      have hbX := hb.setCell (p := ⟨w.heap.size + 1, 0, none⟩) (fun h => by have h2 : w.heap.size + 1 < w.heap.size := h.2; omega) (.bool true)
      have hCX := hC.other (a := ⟨w.heap.size + 1, 0, none⟩) (by show w.heap.size ≠ w.heap.size + 1; omega) (.bool true)
      have hFX := hF.other (a := ⟨w.heap.size + 1, 0, none⟩) (by show w.heap.size + 1 + 1 ≠ w.heap.size + 1; omega) (.bool true)
      have hRX := hR.other (a := ⟨w.heap.size + 1, 0, none⟩) (by show w.heap.size + 1 + 1 + 1 ≠ w.heap.size + 1; omega) (.bool true)
      have hmX := hm.setCell (p := ⟨w.heap.size + 1, 0, none⟩) (by show w.heap.size ≤ w.heap.size + 1; omega) (.bool true)
      have HLX : Hid (w.heap.size + 1 + 1 + 1 < (w2.setCell ⟨w.heap.size + 1, 0, none⟩ (.bool true)).heap.size) := by show _ < _; rw [size_setCell]; exact HLT.out
      go_wp2_with fail
      clear c0 c1 c2 c3 k0 k1 k2 k3 q0 q1 q2 r0 r1 r2 hb hC hF hR hm hPg
      generalize w2.setCell ⟨w.heap.size + 1, 0, none⟩ (.bool true) = X at *
      refine (nandOwn _ w.heap.size _ _ _ _ bs i _ hCX hbX hf.1 hi).mono ?_
      rintro e w' ⟨g, cap, w3, rfl, rfl, hXg, hr3, m3⟩
      have hs4 := HLX.out
      have hcw : w.heap.size ≠ g := by omega
      have hrY := hr3.other (p := ⟨w.heap.size, 0, none⟩) hcw (fun _ h => absurd h.1.2 (Nat.lt_irrefl _)) (.slice (some ⟨g, 0, none⟩) bs.length cap)
      have hCY : Blk (w3.setCell ⟨w.heap.size, 0, none⟩ (.slice (some ⟨g, 0, none⟩) bs.length cap)) w.heap.size 27 #[.slice (some ⟨g, 0, none⟩) bs.length cap, .bool br, .bool false, .int .i64 ops] := (hCX.mem m3).set 0 _
      have hPY := (hPX.mem m3).other (a := ⟨w.heap.size, 0, none⟩) (by show w.heap.size + 1 ≠ w.heap.size; omega) (.slice (some ⟨g, 0, none⟩) bs.length cap)
      have hFY := (hFX.mem m3).other (a := ⟨w.heap.size, 0, none⟩) (by show w.heap.size + 1 + 1 ≠ w.heap.size; omega) (.slice (some ⟨g, 0, none⟩) bs.length cap)
      have hRY := (hRX.mem m3).other (a := ⟨w.heap.size, 0, none⟩) (by show w.heap.size + 1 + 1 + 1 ≠ w.heap.size; omega) (.slice (some ⟨g, 0, none⟩) bs.length cap)
      have hmY := (hmX.trans m3).setCell (p := ⟨w.heap.size, 0, none⟩) (Nat.le_refl _) (.slice (some ⟨g, 0, none⟩) bs.length cap)
      have hYs : X.heap.size ≤ (w3.setCell ⟨w.heap.size, 0, none⟩ (.slice (some ⟨g, 0, none⟩) bs.length cap)).heap.size := by rw [size_setCell]; exact m3.size
      clear hCX hPX hFX hRX hmX hbX m3 hr3
      generalize w3.setCell ⟨w.heap.size, 0, none⟩ (.slice (some ⟨g, 0, none⟩) bs.length cap) = Y at *
      generalize hxs : X.heap.size = XS at *
      clear hxs
      have HYs := hide hYs
      have HXg := hide hXg
      have HXS := hide hs4
      have HCW := hide hcw
      have HL : Hid (bs.length ≤ 1000) := hf.1
      clear hYs hXg hs4 hcw
      obtain ⟨op1, cp1, y0, y1, y2, y3, hp1, fz⟩ := hrY.at HK.out
      go_wp2_with fail
      refine (clonePages _ _ ps _ hp1 hpl).mono ?_
      rintro e w4 ⟨⟨v', rfl, ho⟩, m4⟩
      obtain ⟨x, cx, hvx⟩ := owns_some ho (by omega)
      subst hvx
      have hYs := HYs.out
      have hXg := HXg.out
      have hXS := HXS.out
      have hcw := HCW.out
      have hgY := hrY.1
      have hxx := ho.lt x rfl
      have hxw : Y.heap.size ≤ x := hxx.1
      have hp4 := PagesAt.of_owns ho
      have hsx := Soft.of_owns ho (x := x) rfl
      have hr4 := hrY.mem m4
      have hC4 := hCY.mem m4
      have hP4 := hPY.mem m4
      have hF4 := hFY.mem m4
      have hR4 := hRY.mem m4
      have hm4 := hmY.trans m4
      obtain ⟨_, _, u0, _, _, _, _, fz4⟩ := hr4.at HK.out
      have v0 := fz4 (i * 4)
      have hrZ := hr4.pages (R' := fun j' y => (j' ≠ i ∧ ((S y ∧ y < w.heap.size) ∧ y < XS)) ∨ (j' = i ∧ y = x)) HK.out (op := some ⟨x, 0, none⟩) (n := ps.length) (cp := cx) rfl (hp4.mono fun y hy _ => .inr ⟨rfl, by simpa [Value.ownBlock] using hy.symm⟩) (fun j' y hj' hy => .inl ⟨hj', hy⟩) (fun j' h => h.elim (fun h => by have := h.2.2; omega) (fun h => by omega))
      have hCZ := hC4.other (a := ⟨g, i * 4, none⟩) hcw (.slice (some ⟨x, 0, none⟩) ps.length cx)
      have hPZ := hP4.other (a := ⟨g, i * 4, none⟩) (by show w.heap.size + 1 ≠ g; omega) (.slice (some ⟨x, 0, none⟩) ps.length cx)
      have hFZ := hF4.other (a := ⟨g, i * 4, none⟩) (by show w.heap.size + 1 + 1 ≠ g; omega) (.slice (some ⟨x, 0, none⟩) ps.length cx)
      have hRZ := hR4.other (a := ⟨g, i * 4, none⟩) (by show w.heap.size + 1 + 1 + 1 ≠ g; omega) (.slice (some ⟨x, 0, none⟩) ps.length cx)
      have hmZ := hm4.setCell (p := ⟨g, i * 4, none⟩) (by show w.heap.size ≤ g; omega) (.slice (some ⟨x, 0, none⟩) ps.length cx)
      have hsZ := hsx.setCell ⟨g, i * 4, none⟩ (.slice (some ⟨x, 0, none⟩) ps.length cx)
      have e0 : (w4.setCell ⟨g, i * 4, none⟩ (.slice (some ⟨x, 0, none⟩) ps.length cx)).cell? ⟨g, i * 4, none⟩ = some (.slice (some ⟨x, 0, none⟩) ps.length cx) := World.cell?_setCell_same _ _ _ u0
      have hZ := set_get (b := (ps, (j : Int), er, false)) hi
      have HXW := hide hxw
      clear hYs hXg hXS hcw hgY hxx hxw hp4 hsx hr4 hC4 hP4 hF4 hR4 hm4 hrY hCY hPY hFY hRY hmY ho m4 y0 y1 y2 y3 fz fz4 hp1
      go_wp2_with fail
      clear u0 v0
      generalize w4.setCell ⟨g, i * 4, none⟩ (.slice (some ⟨x, 0, none⟩) ps.length cx) = Z at *
      obtain ⟨_, _, _, _, _, _, hpz, _⟩ := hrZ.at hZ
      have hRix : (fun j' y => (j' ≠ i ∧ ((S y ∧ y < w.heap.size) ∧ y < XS)) ∨ (j' = i ∧ y = x)) i x := .inr ⟨rfl, rfl⟩
      have hYs := HYs.out
      have hXg := HXg.out
      have hXS := HXS.out
      have hcw := HCW.out
      have hxw := HXW.out
      obtain ⟨hl', hl2⟩ := get_lt hZ
      have hD := hrZ.page hl' (x := x) (off := 0) (n := ps.length) (cp := cx) e0 hRix (fun j' h => h.elim (fun h => absurd h.2.2 (by omega)) (fun h => h.1)) (p := j) (by rw [hl2]; exact hj) (true, pd, pt)
      simp only [hl2] at hD
      rw [List.set_set] at hD
      obtain ⟨_, _, hcz⟩ : ∃ a b, Z.cell? ⟨g, i * 4, none⟩ = some (.slice a ps.length b) := ⟨_, _, e0⟩
      clear hcz
      obtain ⟨op9, cp9, e9, _, _, _, hp9, _⟩ := hrZ.at hZ
      rw [e0] at e9
      injection e9 with e9
      injection e9 with e9a _ e9b
      subst e9a; subst e9b
      obtain ⟨x9, xo9, e9, _, t0, t1, t2⟩ := hp9.at hj
      injection e9 with e9
      injection e9 with e9a e9b
      subst e9a; subst e9b
      have a0 := hsZ (0 + j * 3)
      have a1 := hsZ (0 + j * 3 + 1)
      have a2 := hsZ (0 + j * 3 + 2)
      have o0 := hPZ.cell (j := 0) rfl
      have o1 := hPZ.cell (j := 1) rfl
      have o2 := hPZ.cell (j := 2) rfl
      have hmD := Mem.set3 hmZ (x := x) (by have := hmZ.size; omega) (0 + j * 3) (true, pd, pt)
      have far : ∀ {B : Nat} {t : TypeId} {cs : Array Value}, Blk Z B t cs → B ≠ x → Blk (set3 Z x (0 + j * 3) (true, pd, pt)) B t cs := fun h hne => by
        unfold Nand.set3
        exact ((h.other (a := ⟨x, 0 + j * 3, none⟩) hne _).other (a := ⟨x, 0 + j * 3 + 1, none⟩) hne _).other (a := ⟨x, 0 + j * 3 + 2, none⟩) hne _
      have hCD := far hCZ (by omega)
      have hFD := far hFZ (by omega)
      have hRD := far hRZ (by omega)
      replace hD := hD.mem (Mem.refl _).drew
      replace hmD := hmD.drew
      replace hCD := hCD.drew
      replace hFD := hFD.drew
      replace hRD := hRD.drew
      have HDF : Hid (set3 Z x (0 + j * 3) (true, pd, pt) = ((Z.setCell ⟨x, 0 + j * 3, none⟩ (.bool true)).setCell ⟨x, 0 + j * 3 + 1, none⟩ (.string pd)).setCell ⟨x, 0 + j * 3 + 2, none⟩ (.string pt)) := rfl
      rw [Nat.zero_add] at t0 t1 t2 a0 a1 a2
      rw [HDF.out, Nat.zero_add] at hD hmD hCD hFD hRD
      clear far hp9 hpz hsZ hrZ hCZ hPZ hFZ hRZ hmZ hl2 hRix HDF hYs hXg hXS hcw hxw
      go_region
      clear t0 t1 t2 a0 a1 a2 o0 o1 o2 e0
      generalize (((Z.setCell ⟨x, j * 3, none⟩ (.bool true)).setCell ⟨x, j * 3 + 1, none⟩ (.string pd)).setCell ⟨x, j * 3 + 2, none⟩ (.string pt)).drew = V at *
      have hV := set_get (b := (ps.set j (true, pd, pt), (j : Int), er, false)) hi
      obtain ⟨_, _, _, y1, _, _, _, fz⟩ := hD.at hV
      have z1 := fz (i * 4 + 1)
      have hXg := HXg.out
      have hXS := HXS.out
      have hcw := HCW.out
      have hrU := hD.next hV ((j : Int) + 1)
      have hCU := hCD.other (a := ⟨g, i * 4 + 1, none⟩) hcw (.int .i64 ((j : Int) + 1))
      have hFU := hFD.other (a := ⟨g, i * 4 + 1, none⟩) (by show w.heap.size + 1 + 1 ≠ g; omega) (.int .i64 ((j : Int) + 1))
      have hRU := hRD.other (a := ⟨g, i * 4 + 1, none⟩) (by show w.heap.size + 1 + 1 + 1 ≠ g; omega) (.int .i64 ((j : Int) + 1))
      have hmU := hmD.setCell (p := ⟨g, i * 4 + 1, none⟩) (by show w.heap.size ≤ g; omega) (.int .i64 ((j : Int) + 1))
      rw [List.set_set] at hrU
      have hj1 : j ≤ 1000 := by omega
      clear hXg hXS hcw fz hD hCD hFD hRD hmD
      have k0 := hFU.cell (j := 0) rfl
      have k1 := hFU.cell (j := 1) rfl
      have k2 := hFU.cell (j := 2) rfl
      have k3 := hFU.cell (j := 3) rfl
      go_wp2_with fail
      clear y1 z1 k0 k1 k2 k3 hV
      generalize V.setCell ⟨g, i * 4 + 1, none⟩ (.int .i64 ((j : Int) + 1)) = U at *
      have HRX : Hid (∀ j' y, ((j' ≠ i ∧ ((S y ∧ y < w.heap.size) ∧ y < XS)) ∨ (j' = i ∧ y = x)) → (S y ∧ y < w.heap.size) ∨ XS ≤ y) := fun j' y h => h.elim (fun h => .inl h.2.1) (fun h => .inr (by have := HYs.out; have := HXW.out; omega))
      have HRC : Hid (∀ j', ¬ ((j' ≠ i ∧ ((S w.heap.size ∧ w.heap.size < w.heap.size) ∧ w.heap.size < XS)) ∨ (j' = i ∧ w.heap.size = x))) := fun j' h => h.elim (fun h => by have := h.2.1.2; omega) (fun h => by have := HYs.out; have := HXW.out; have := HXS.out; omega)
      refine (strike w.heap.size g i _ (bs.set i (ps.set j (true, pd, pt), (j : Int) + 1, er, false)) (ps.set j (true, pd, pt)) ((j : Int) + 1) er _ _ ops (0, fd, ft, fn) _ hrU (set_get hi) hCU (fun e => HCW.out e.symm) HRC.out (by simp)).mono ?_
      rintro e w5 ⟨rfl, hr5, hC5, hk5⟩
      have hcw := HCW.out
      have hXg := HXg.out
      have hXS := HXS.out
      have hR5 := hk5.blk hRU (by omega) (by omega)
      have hm5 := hk5.up hmU (by omega) (Nat.le_refl _)
      simp only [] at hr5 hC5
      clear hrU hCU hFU hRU hmU hk5
      have HXS2 := hide hXS
      clear hXS
      rw [List.set_set] at hr5
      have c0 := hC5.cell (j := 0) rfl
      have c1 := hC5.cell (j := 1) rfl
      have c2 := hC5.cell (j := 2) rfl
      have c3 := hC5.cell (j := 3) rfl
      have z0 := hR5.cell (j := 0) rfl
      have z1 := hR5.cell (j := 1) rfl
      have z2 := hR5.cell (j := 2) rfl
      have z3 := hR5.cell (j := 3) rfl
      have f0 := hR5.frozen 0
      have f1 := hR5.frozen 1
      have f2 := hR5.frozen 2
      have f3 := hR5.frozen 3
      go_wp2_with fail
      refine bodyPost_ret (ret_chip rfl _ _ rfl (hR5.put4 _ _ _ _)) rfl ⟨?_, hm5.put4 (by omega) _ _ _ _⟩
      have hXS := HXS2.out
      rw [HP.out]
      have hfb := (hr5.blocks (S := fun x => (S x ∧ x < w.heap.size) ∨ XS ≤ x) (.inr hXg) (fun j x hx => HRX.out j x hx) (by rw [List.length_set]; have := HL.out; unfold maxLen; omega) cap).put4 (b := w.heap.size + 1 + 1 + 1) (fun h => h.elim (fun h => by have := h.2; omega) (fun h => by omega)) (.slice (some ⟨g, 0, none⟩) bs.length cap) (.bool br) (.bool false) (.int .i64 (wrap64 (ops + 1)))
      rw [List.length_set] at hfb
      exact ⟨_, rfl, hfb.mono fun x hx _ => hx.elim (fun h => .inl h.1) (fun h => .inr (by omega))⟩
    · have hPD : Blk ((w2.setCell ⟨w.heap.size + 1, 1, none⟩ (.string fd)).setCell ⟨w.heap.size + 1, 2, none⟩ (.string ft)).drew (w.heap.size + 1) 34 #[.bool pw, .string fd, .string ft] := ((hPg.set 1 (.string fd)).set 2 (.string ft)).drew
      have hPX : Blk (((w2.setCell ⟨w.heap.size + 1, 1, none⟩ (.string fd)).setCell ⟨w.heap.size + 1, 2, none⟩ (.string ft)).setCell ⟨w.heap.size + 1, 0, none⟩ (.bool true)).drew (w.heap.size + 1) 34 #[.bool true, .string fd, .string ft] := (((hPg.set 1 (.string fd)).set 2 (.string ft)).set 0 (.bool true)).drew
      have hbX := (((hb.setCell (p := ⟨w.heap.size + 1, 1, none⟩) (fun h => by have h2 : w.heap.size + 1 < w.heap.size := h.2; omega) (.string fd)).setCell (p := ⟨w.heap.size + 1, 2, none⟩) (fun h => by have h2 : w.heap.size + 1 < w.heap.size := h.2; omega) (.string ft)).setCell (p := ⟨w.heap.size + 1, 0, none⟩) (fun h => by have h2 : w.heap.size + 1 < w.heap.size := h.2; omega) (.bool true)).mem (Mem.refl _).drew
      have hCX := (((hC.other (a := ⟨w.heap.size + 1, 1, none⟩) (by show w.heap.size ≠ w.heap.size + 1; omega) (.string fd)).other (a := ⟨w.heap.size + 1, 2, none⟩) (by show w.heap.size ≠ w.heap.size + 1; omega) (.string ft)).other (a := ⟨w.heap.size + 1, 0, none⟩) (by show w.heap.size ≠ w.heap.size + 1; omega) (.bool true)).drew
      have hFX := (((hF.other (a := ⟨w.heap.size + 1, 1, none⟩) (by show w.heap.size + 1 + 1 ≠ w.heap.size + 1; omega) (.string fd)).other (a := ⟨w.heap.size + 1, 2, none⟩) (by show w.heap.size + 1 + 1 ≠ w.heap.size + 1; omega) (.string ft)).other (a := ⟨w.heap.size + 1, 0, none⟩) (by show w.heap.size + 1 + 1 ≠ w.heap.size + 1; omega) (.bool true)).drew
      have hRX := (((hR.other (a := ⟨w.heap.size + 1, 1, none⟩) (by show w.heap.size + 1 + 1 + 1 ≠ w.heap.size + 1; omega) (.string fd)).other (a := ⟨w.heap.size + 1, 2, none⟩) (by show w.heap.size + 1 + 1 + 1 ≠ w.heap.size + 1; omega) (.string ft)).other (a := ⟨w.heap.size + 1, 0, none⟩) (by show w.heap.size + 1 + 1 + 1 ≠ w.heap.size + 1; omega) (.bool true)).drew
      have hmX := (((hm.setCell (p := ⟨w.heap.size + 1, 1, none⟩) (by show w.heap.size ≤ w.heap.size + 1; omega) (.string fd)).setCell (p := ⟨w.heap.size + 1, 2, none⟩) (by show w.heap.size ≤ w.heap.size + 1; omega) (.string ft)).setCell (p := ⟨w.heap.size + 1, 0, none⟩) (by show w.heap.size ≤ w.heap.size + 1; omega) (.bool true)).drew
      have HLX : Hid (w.heap.size + 1 + 1 + 1 < (((w2.setCell ⟨w.heap.size + 1, 1, none⟩ (.string fd)).setCell ⟨w.heap.size + 1, 2, none⟩ (.string ft)).setCell ⟨w.heap.size + 1, 0, none⟩ (.bool true)).drew.heap.size) := by show _ < (((w2.setCell _ _).setCell _ _).setCell _ _).heap.size; rw [size_setCell, size_setCell, size_setCell]; exact HLT.out
      have t0 := hPD.cell (j := 0) rfl
      have t1 := hPD.frozen 0
      go_wp2_with fail
      go_region
      go_wp2_with fail
      clear c0 c1 c2 c3 k0 k1 k2 k3 q0 q1 q2 r0 r1 r2 hb hC hF hR hm hPg t0 t1 hPD
      generalize (((w2.setCell ⟨w.heap.size + 1, 1, none⟩ (.string fd)).setCell ⟨w.heap.size + 1, 2, none⟩ (.string ft)).setCell ⟨w.heap.size + 1, 0, none⟩ (.bool true)).drew = X at *
      refine (nandOwn _ w.heap.size _ _ _ _ bs i _ hCX hbX hf.1 hi).mono ?_
      rintro e w' ⟨g, cap, w3, rfl, rfl, hXg, hr3, m3⟩
      have hs4 := HLX.out
      have hcw : w.heap.size ≠ g := by omega
      have hrY := hr3.other (p := ⟨w.heap.size, 0, none⟩) hcw (fun _ h => absurd h.1.2 (Nat.lt_irrefl _)) (.slice (some ⟨g, 0, none⟩) bs.length cap)
      have hCY : Blk (w3.setCell ⟨w.heap.size, 0, none⟩ (.slice (some ⟨g, 0, none⟩) bs.length cap)) w.heap.size 27 #[.slice (some ⟨g, 0, none⟩) bs.length cap, .bool br, .bool false, .int .i64 ops] := (hCX.mem m3).set 0 _
      have hPY := (hPX.mem m3).other (a := ⟨w.heap.size, 0, none⟩) (by show w.heap.size + 1 ≠ w.heap.size; omega) (.slice (some ⟨g, 0, none⟩) bs.length cap)
      have hFY := (hFX.mem m3).other (a := ⟨w.heap.size, 0, none⟩) (by show w.heap.size + 1 + 1 ≠ w.heap.size; omega) (.slice (some ⟨g, 0, none⟩) bs.length cap)
      have hRY := (hRX.mem m3).other (a := ⟨w.heap.size, 0, none⟩) (by show w.heap.size + 1 + 1 + 1 ≠ w.heap.size; omega) (.slice (some ⟨g, 0, none⟩) bs.length cap)
      have hmY := (hmX.trans m3).setCell (p := ⟨w.heap.size, 0, none⟩) (Nat.le_refl _) (.slice (some ⟨g, 0, none⟩) bs.length cap)
      have hYs : X.heap.size ≤ (w3.setCell ⟨w.heap.size, 0, none⟩ (.slice (some ⟨g, 0, none⟩) bs.length cap)).heap.size := by rw [size_setCell]; exact m3.size
      clear hCX hPX hFX hRX hmX hbX m3 hr3
      generalize w3.setCell ⟨w.heap.size, 0, none⟩ (.slice (some ⟨g, 0, none⟩) bs.length cap) = Y at *
      generalize hxs : X.heap.size = XS at *
      clear hxs
      have HYs := hide hYs
      have HXg := hide hXg
      have HXS := hide hs4
      have HCW := hide hcw
      have HL : Hid (bs.length ≤ 1000) := hf.1
      clear hYs hXg hs4 hcw
      obtain ⟨op1, cp1, y0, y1, y2, y3, hp1, fz⟩ := hrY.at HK.out
      go_wp2_with fail
      refine (clonePages _ _ ps _ hp1 hpl).mono ?_
      rintro e w4 ⟨⟨v', rfl, ho⟩, m4⟩
      obtain ⟨x, cx, hvx⟩ := owns_some ho (by omega)
      subst hvx
      have hYs := HYs.out
      have hXg := HXg.out
      have hXS := HXS.out
      have hcw := HCW.out
      have hgY := hrY.1
      have hxx := ho.lt x rfl
      have hxw : Y.heap.size ≤ x := hxx.1
      have hp4 := PagesAt.of_owns ho
      have hsx := Soft.of_owns ho (x := x) rfl
      have hr4 := hrY.mem m4
      have hC4 := hCY.mem m4
      have hP4 := hPY.mem m4
      have hF4 := hFY.mem m4
      have hR4 := hRY.mem m4
      have hm4 := hmY.trans m4
      obtain ⟨_, _, u0, _, _, _, _, fz4⟩ := hr4.at HK.out
      have v0 := fz4 (i * 4)
      have hrZ := hr4.pages (R' := fun j' y => (j' ≠ i ∧ ((S y ∧ y < w.heap.size) ∧ y < XS)) ∨ (j' = i ∧ y = x)) HK.out (op := some ⟨x, 0, none⟩) (n := ps.length) (cp := cx) rfl (hp4.mono fun y hy _ => .inr ⟨rfl, by simpa [Value.ownBlock] using hy.symm⟩) (fun j' y hj' hy => .inl ⟨hj', hy⟩) (fun j' h => h.elim (fun h => by have := h.2.2; omega) (fun h => by omega))
      have hCZ := hC4.other (a := ⟨g, i * 4, none⟩) hcw (.slice (some ⟨x, 0, none⟩) ps.length cx)
      have hPZ := hP4.other (a := ⟨g, i * 4, none⟩) (by show w.heap.size + 1 ≠ g; omega) (.slice (some ⟨x, 0, none⟩) ps.length cx)
      have hFZ := hF4.other (a := ⟨g, i * 4, none⟩) (by show w.heap.size + 1 + 1 ≠ g; omega) (.slice (some ⟨x, 0, none⟩) ps.length cx)
      have hRZ := hR4.other (a := ⟨g, i * 4, none⟩) (by show w.heap.size + 1 + 1 + 1 ≠ g; omega) (.slice (some ⟨x, 0, none⟩) ps.length cx)
      have hmZ := hm4.setCell (p := ⟨g, i * 4, none⟩) (by show w.heap.size ≤ g; omega) (.slice (some ⟨x, 0, none⟩) ps.length cx)
      have hsZ := hsx.setCell ⟨g, i * 4, none⟩ (.slice (some ⟨x, 0, none⟩) ps.length cx)
      have e0 : (w4.setCell ⟨g, i * 4, none⟩ (.slice (some ⟨x, 0, none⟩) ps.length cx)).cell? ⟨g, i * 4, none⟩ = some (.slice (some ⟨x, 0, none⟩) ps.length cx) := World.cell?_setCell_same _ _ _ u0
      have hZ := set_get (b := (ps, (j : Int), er, false)) hi
      have HXW := hide hxw
      clear hYs hXg hXS hcw hgY hxx hxw hp4 hsx hr4 hC4 hP4 hF4 hR4 hm4 hrY hCY hPY hFY hRY hmY ho m4 y0 y1 y2 y3 fz fz4 hp1
      go_wp2_with fail
      clear u0 v0
      generalize w4.setCell ⟨g, i * 4, none⟩ (.slice (some ⟨x, 0, none⟩) ps.length cx) = Z at *
      obtain ⟨_, _, _, _, _, _, hpz, _⟩ := hrZ.at hZ
      have hRix : (fun j' y => (j' ≠ i ∧ ((S y ∧ y < w.heap.size) ∧ y < XS)) ∨ (j' = i ∧ y = x)) i x := .inr ⟨rfl, rfl⟩
      have hYs := HYs.out
      have hXg := HXg.out
      have hXS := HXS.out
      have hcw := HCW.out
      have hxw := HXW.out
      obtain ⟨hl', hl2⟩ := get_lt hZ
      have hD := hrZ.page hl' (x := x) (off := 0) (n := ps.length) (cp := cx) e0 hRix (fun j' h => h.elim (fun h => absurd h.2.2 (by omega)) (fun h => h.1)) (p := j) (by rw [hl2]; exact hj) (true, fd, ft)
      simp only [hl2] at hD
      rw [List.set_set] at hD
      obtain ⟨_, _, hcz⟩ : ∃ a b, Z.cell? ⟨g, i * 4, none⟩ = some (.slice a ps.length b) := ⟨_, _, e0⟩
      clear hcz
      obtain ⟨op9, cp9, e9, _, _, _, hp9, _⟩ := hrZ.at hZ
      rw [e0] at e9
      injection e9 with e9
      injection e9 with e9a _ e9b
      subst e9a; subst e9b
      obtain ⟨x9, xo9, e9, _, t0, t1, t2⟩ := hp9.at hj
      injection e9 with e9
      injection e9 with e9a e9b
      subst e9a; subst e9b
      have a0 := hsZ (0 + j * 3)
      have a1 := hsZ (0 + j * 3 + 1)
      have a2 := hsZ (0 + j * 3 + 2)
      have o0 := hPZ.cell (j := 0) rfl
      have o1 := hPZ.cell (j := 1) rfl
      have o2 := hPZ.cell (j := 2) rfl
      have hmD := Mem.set3 hmZ (x := x) (by have := hmZ.size; omega) (0 + j * 3) (true, fd, ft)
      have far : ∀ {B : Nat} {t : TypeId} {cs : Array Value}, Blk Z B t cs → B ≠ x → Blk (set3 Z x (0 + j * 3) (true, fd, ft)) B t cs := fun h hne => by
        unfold Nand.set3
        exact ((h.other (a := ⟨x, 0 + j * 3, none⟩) hne _).other (a := ⟨x, 0 + j * 3 + 1, none⟩) hne _).other (a := ⟨x, 0 + j * 3 + 2, none⟩) hne _
      have hCD := far hCZ (by omega)
      have hFD := far hFZ (by omega)
      have hRD := far hRZ (by omega)
      replace hD := hD.mem (Mem.refl _).drew
      replace hmD := hmD.drew
      replace hCD := hCD.drew
      replace hFD := hFD.drew
      replace hRD := hRD.drew
      have HDF : Hid (set3 Z x (0 + j * 3) (true, fd, ft) = ((Z.setCell ⟨x, 0 + j * 3, none⟩ (.bool true)).setCell ⟨x, 0 + j * 3 + 1, none⟩ (.string fd)).setCell ⟨x, 0 + j * 3 + 2, none⟩ (.string ft)) := rfl
      rw [Nat.zero_add] at t0 t1 t2 a0 a1 a2
      rw [HDF.out, Nat.zero_add] at hD hmD hCD hFD hRD
      clear far hp9 hpz hsZ hrZ hCZ hPZ hFZ hRZ hmZ hl2 hRix HDF hYs hXg hXS hcw hxw
      go_region
      clear t0 t1 t2 a0 a1 a2 o0 o1 o2 e0
      generalize (((Z.setCell ⟨x, j * 3, none⟩ (.bool true)).setCell ⟨x, j * 3 + 1, none⟩ (.string fd)).setCell ⟨x, j * 3 + 2, none⟩ (.string ft)).drew = V at *
      have hV := set_get (b := (ps.set j (true, fd, ft), (j : Int), er, false)) hi
      obtain ⟨_, _, _, y1, _, _, _, fz⟩ := hD.at hV
      have z1 := fz (i * 4 + 1)
      have hXg := HXg.out
      have hXS := HXS.out
      have hcw := HCW.out
      have hrU := hD.next hV ((j : Int) + 1)
      have hCU := hCD.other (a := ⟨g, i * 4 + 1, none⟩) hcw (.int .i64 ((j : Int) + 1))
      have hFU := hFD.other (a := ⟨g, i * 4 + 1, none⟩) (by show w.heap.size + 1 + 1 ≠ g; omega) (.int .i64 ((j : Int) + 1))
      have hRU := hRD.other (a := ⟨g, i * 4 + 1, none⟩) (by show w.heap.size + 1 + 1 + 1 ≠ g; omega) (.int .i64 ((j : Int) + 1))
      have hmU := hmD.setCell (p := ⟨g, i * 4 + 1, none⟩) (by show w.heap.size ≤ g; omega) (.int .i64 ((j : Int) + 1))
      rw [List.set_set] at hrU
      have hj1 : j ≤ 1000 := by omega
      clear hXg hXS hcw fz hD hCD hFD hRD hmD
      have k0 := hFU.cell (j := 0) rfl
      have k1 := hFU.cell (j := 1) rfl
      have k2 := hFU.cell (j := 2) rfl
      have k3 := hFU.cell (j := 3) rfl
      go_wp2_with fail
      clear y1 z1 k0 k1 k2 k3 hV
      generalize V.setCell ⟨g, i * 4 + 1, none⟩ (.int .i64 ((j : Int) + 1)) = U at *
      have HRX : Hid (∀ j' y, ((j' ≠ i ∧ ((S y ∧ y < w.heap.size) ∧ y < XS)) ∨ (j' = i ∧ y = x)) → (S y ∧ y < w.heap.size) ∨ XS ≤ y) := fun j' y h => h.elim (fun h => .inl h.2.1) (fun h => .inr (by have := HYs.out; have := HXW.out; omega))
      have HRC : Hid (∀ j', ¬ ((j' ≠ i ∧ ((S w.heap.size ∧ w.heap.size < w.heap.size) ∧ w.heap.size < XS)) ∨ (j' = i ∧ w.heap.size = x))) := fun j' h => h.elim (fun h => by have := h.2.1.2; omega) (fun h => by have := HYs.out; have := HXW.out; have := HXS.out; omega)
      refine (strike w.heap.size g i _ (bs.set i (ps.set j (true, fd, ft), (j : Int) + 1, er, false)) (ps.set j (true, fd, ft)) ((j : Int) + 1) er _ _ ops (1, fd, ft, fn) _ hrU (set_get hi) hCU (fun e => HCW.out e.symm) HRC.out (by simp)).mono ?_
      rintro e w5 ⟨rfl, hr5, hC5, hk5⟩
      have hcw := HCW.out
      have hXg := HXg.out
      have hXS := HXS.out
      have hR5 := hk5.blk hRU (by omega) (by omega)
      have hm5 := hk5.up hmU (by omega) (Nat.le_refl _)
      simp only [] at hr5 hC5
      clear hrU hCU hFU hRU hmU hk5
      have HXS2 := hide hXS
      clear hXS
      rw [List.set_set] at hr5
      have c0 := hC5.cell (j := 0) rfl
      have c1 := hC5.cell (j := 1) rfl
      have c2 := hC5.cell (j := 2) rfl
      have c3 := hC5.cell (j := 3) rfl
      have z0 := hR5.cell (j := 0) rfl
      have z1 := hR5.cell (j := 1) rfl
      have z2 := hR5.cell (j := 2) rfl
      have z3 := hR5.cell (j := 3) rfl
      have f0 := hR5.frozen 0
      have f1 := hR5.frozen 1
      have f2 := hR5.frozen 2
      have f3 := hR5.frozen 3
      go_wp2_with fail
      refine bodyPost_ret (ret_chip rfl _ _ rfl (hR5.put4 _ _ _ _)) rfl ⟨?_, hm5.put4 (by omega) _ _ _ _⟩
      have hXS := HXS2.out
      rw [HP.out]
      have hfb := (hr5.blocks (S := fun x => (S x ∧ x < w.heap.size) ∨ XS ≤ x) (.inr hXg) (fun j x hx => HRX.out j x hx) (by rw [List.length_set]; have := HL.out; unfold maxLen; omega) cap).put4 (b := w.heap.size + 1 + 1 + 1) (fun h => h.elim (fun h => by have := h.2; omega) (fun h => by omega)) (.slice (some ⟨g, 0, none⟩) bs.length cap) (.bool br) (.bool false) (.int .i64 (wrap64 (ops + 1)))
      rw [List.length_set] at hfb
      exact ⟨_, rfl, hfb.mono fun x hx _ => hx.elim (fun h => .inl h.1) (fun h => .inr (by omega))⟩
    · have hPD : Blk ((w2.setCell ⟨w.heap.size + 1, 1, none⟩ (.string fd)).setCell ⟨w.heap.size + 1, 2, none⟩ (.string ft)).drew (w.heap.size + 1) 34 #[.bool pw, .string fd, .string ft] := ((hPg.set 1 (.string fd)).set 2 (.string ft)).drew
      have hPX : Blk (((w2.setCell ⟨w.heap.size + 1, 1, none⟩ (.string fd)).setCell ⟨w.heap.size + 1, 2, none⟩ (.string ft)).setCell ⟨w.heap.size + 1, 0, none⟩ (.bool true)).drew (w.heap.size + 1) 34 #[.bool true, .string fd, .string ft] := (((hPg.set 1 (.string fd)).set 2 (.string ft)).set 0 (.bool true)).drew
      have hbX := (((hb.setCell (p := ⟨w.heap.size + 1, 1, none⟩) (fun h => by have h2 : w.heap.size + 1 < w.heap.size := h.2; omega) (.string fd)).setCell (p := ⟨w.heap.size + 1, 2, none⟩) (fun h => by have h2 : w.heap.size + 1 < w.heap.size := h.2; omega) (.string ft)).setCell (p := ⟨w.heap.size + 1, 0, none⟩) (fun h => by have h2 : w.heap.size + 1 < w.heap.size := h.2; omega) (.bool true)).mem (Mem.refl _).drew
      have hCX := (((hC.other (a := ⟨w.heap.size + 1, 1, none⟩) (by show w.heap.size ≠ w.heap.size + 1; omega) (.string fd)).other (a := ⟨w.heap.size + 1, 2, none⟩) (by show w.heap.size ≠ w.heap.size + 1; omega) (.string ft)).other (a := ⟨w.heap.size + 1, 0, none⟩) (by show w.heap.size ≠ w.heap.size + 1; omega) (.bool true)).drew
      have hFX := (((hF.other (a := ⟨w.heap.size + 1, 1, none⟩) (by show w.heap.size + 1 + 1 ≠ w.heap.size + 1; omega) (.string fd)).other (a := ⟨w.heap.size + 1, 2, none⟩) (by show w.heap.size + 1 + 1 ≠ w.heap.size + 1; omega) (.string ft)).other (a := ⟨w.heap.size + 1, 0, none⟩) (by show w.heap.size + 1 + 1 ≠ w.heap.size + 1; omega) (.bool true)).drew
      have hRX := (((hR.other (a := ⟨w.heap.size + 1, 1, none⟩) (by show w.heap.size + 1 + 1 + 1 ≠ w.heap.size + 1; omega) (.string fd)).other (a := ⟨w.heap.size + 1, 2, none⟩) (by show w.heap.size + 1 + 1 + 1 ≠ w.heap.size + 1; omega) (.string ft)).other (a := ⟨w.heap.size + 1, 0, none⟩) (by show w.heap.size + 1 + 1 + 1 ≠ w.heap.size + 1; omega) (.bool true)).drew
      have hmX := (((hm.setCell (p := ⟨w.heap.size + 1, 1, none⟩) (by show w.heap.size ≤ w.heap.size + 1; omega) (.string fd)).setCell (p := ⟨w.heap.size + 1, 2, none⟩) (by show w.heap.size ≤ w.heap.size + 1; omega) (.string ft)).setCell (p := ⟨w.heap.size + 1, 0, none⟩) (by show w.heap.size ≤ w.heap.size + 1; omega) (.bool true)).drew
      have HLX : Hid (w.heap.size + 1 + 1 + 1 < (((w2.setCell ⟨w.heap.size + 1, 1, none⟩ (.string fd)).setCell ⟨w.heap.size + 1, 2, none⟩ (.string ft)).setCell ⟨w.heap.size + 1, 0, none⟩ (.bool true)).drew.heap.size) := by show _ < (((w2.setCell _ _).setCell _ _).setCell _ _).heap.size; rw [size_setCell, size_setCell, size_setCell]; exact HLT.out
      have t0 := hPD.cell (j := 0) rfl
      have t1 := hPD.frozen 0
      go_wp2_with fail
      go_region
      go_wp2_with fail
      clear c0 c1 c2 c3 k0 k1 k2 k3 q0 q1 q2 r0 r1 r2 hb hC hF hR hm hPg t0 t1 hPD
      generalize (((w2.setCell ⟨w.heap.size + 1, 1, none⟩ (.string fd)).setCell ⟨w.heap.size + 1, 2, none⟩ (.string ft)).setCell ⟨w.heap.size + 1, 0, none⟩ (.bool true)).drew = X at *
      refine (nandOwn _ w.heap.size _ _ _ _ bs i _ hCX hbX hf.1 hi).mono ?_
      rintro e w' ⟨g, cap, w3, rfl, rfl, hXg, hr3, m3⟩
      have hs4 := HLX.out
      have hcw : w.heap.size ≠ g := by omega
      have hrY := hr3.other (p := ⟨w.heap.size, 0, none⟩) hcw (fun _ h => absurd h.1.2 (Nat.lt_irrefl _)) (.slice (some ⟨g, 0, none⟩) bs.length cap)
      have hCY : Blk (w3.setCell ⟨w.heap.size, 0, none⟩ (.slice (some ⟨g, 0, none⟩) bs.length cap)) w.heap.size 27 #[.slice (some ⟨g, 0, none⟩) bs.length cap, .bool br, .bool false, .int .i64 ops] := (hCX.mem m3).set 0 _
      have hPY := (hPX.mem m3).other (a := ⟨w.heap.size, 0, none⟩) (by show w.heap.size + 1 ≠ w.heap.size; omega) (.slice (some ⟨g, 0, none⟩) bs.length cap)
      have hFY := (hFX.mem m3).other (a := ⟨w.heap.size, 0, none⟩) (by show w.heap.size + 1 + 1 ≠ w.heap.size; omega) (.slice (some ⟨g, 0, none⟩) bs.length cap)
      have hRY := (hRX.mem m3).other (a := ⟨w.heap.size, 0, none⟩) (by show w.heap.size + 1 + 1 + 1 ≠ w.heap.size; omega) (.slice (some ⟨g, 0, none⟩) bs.length cap)
      have hmY := (hmX.trans m3).setCell (p := ⟨w.heap.size, 0, none⟩) (Nat.le_refl _) (.slice (some ⟨g, 0, none⟩) bs.length cap)
      have hYs : X.heap.size ≤ (w3.setCell ⟨w.heap.size, 0, none⟩ (.slice (some ⟨g, 0, none⟩) bs.length cap)).heap.size := by rw [size_setCell]; exact m3.size
      clear hCX hPX hFX hRX hmX hbX m3 hr3
      generalize w3.setCell ⟨w.heap.size, 0, none⟩ (.slice (some ⟨g, 0, none⟩) bs.length cap) = Y at *
      generalize hxs : X.heap.size = XS at *
      clear hxs
      have HYs := hide hYs
      have HXg := hide hXg
      have HXS := hide hs4
      have HCW := hide hcw
      have HL : Hid (bs.length ≤ 1000) := hf.1
      clear hYs hXg hs4 hcw
      obtain ⟨op1, cp1, y0, y1, y2, y3, hp1, fz⟩ := hrY.at HK.out
      go_wp2_with fail
      refine (clonePages _ _ ps _ hp1 hpl).mono ?_
      rintro e w4 ⟨⟨v', rfl, ho⟩, m4⟩
      obtain ⟨x, cx, hvx⟩ := owns_some ho (by omega)
      subst hvx
      have hYs := HYs.out
      have hXg := HXg.out
      have hXS := HXS.out
      have hcw := HCW.out
      have hgY := hrY.1
      have hxx := ho.lt x rfl
      have hxw : Y.heap.size ≤ x := hxx.1
      have hp4 := PagesAt.of_owns ho
      have hsx := Soft.of_owns ho (x := x) rfl
      have hr4 := hrY.mem m4
      have hC4 := hCY.mem m4
      have hP4 := hPY.mem m4
      have hF4 := hFY.mem m4
      have hR4 := hRY.mem m4
      have hm4 := hmY.trans m4
      obtain ⟨_, _, u0, _, _, _, _, fz4⟩ := hr4.at HK.out
      have v0 := fz4 (i * 4)
      have hrZ := hr4.pages (R' := fun j' y => (j' ≠ i ∧ ((S y ∧ y < w.heap.size) ∧ y < XS)) ∨ (j' = i ∧ y = x)) HK.out (op := some ⟨x, 0, none⟩) (n := ps.length) (cp := cx) rfl (hp4.mono fun y hy _ => .inr ⟨rfl, by simpa [Value.ownBlock] using hy.symm⟩) (fun j' y hj' hy => .inl ⟨hj', hy⟩) (fun j' h => h.elim (fun h => by have := h.2.2; omega) (fun h => by omega))
      have hCZ := hC4.other (a := ⟨g, i * 4, none⟩) hcw (.slice (some ⟨x, 0, none⟩) ps.length cx)
      have hPZ := hP4.other (a := ⟨g, i * 4, none⟩) (by show w.heap.size + 1 ≠ g; omega) (.slice (some ⟨x, 0, none⟩) ps.length cx)
      have hFZ := hF4.other (a := ⟨g, i * 4, none⟩) (by show w.heap.size + 1 + 1 ≠ g; omega) (.slice (some ⟨x, 0, none⟩) ps.length cx)
      have hRZ := hR4.other (a := ⟨g, i * 4, none⟩) (by show w.heap.size + 1 + 1 + 1 ≠ g; omega) (.slice (some ⟨x, 0, none⟩) ps.length cx)
      have hmZ := hm4.setCell (p := ⟨g, i * 4, none⟩) (by show w.heap.size ≤ g; omega) (.slice (some ⟨x, 0, none⟩) ps.length cx)
      have hsZ := hsx.setCell ⟨g, i * 4, none⟩ (.slice (some ⟨x, 0, none⟩) ps.length cx)
      have e0 : (w4.setCell ⟨g, i * 4, none⟩ (.slice (some ⟨x, 0, none⟩) ps.length cx)).cell? ⟨g, i * 4, none⟩ = some (.slice (some ⟨x, 0, none⟩) ps.length cx) := World.cell?_setCell_same _ _ _ u0
      have hZ := set_get (b := (ps, (j : Int), er, false)) hi
      have HXW := hide hxw
      clear hYs hXg hXS hcw hgY hxx hxw hp4 hsx hr4 hC4 hP4 hF4 hR4 hm4 hrY hCY hPY hFY hRY hmY ho m4 y0 y1 y2 y3 fz fz4 hp1
      go_wp2_with fail
      clear u0 v0
      generalize w4.setCell ⟨g, i * 4, none⟩ (.slice (some ⟨x, 0, none⟩) ps.length cx) = Z at *
      obtain ⟨_, _, _, _, _, _, hpz, _⟩ := hrZ.at hZ
      have hRix : (fun j' y => (j' ≠ i ∧ ((S y ∧ y < w.heap.size) ∧ y < XS)) ∨ (j' = i ∧ y = x)) i x := .inr ⟨rfl, rfl⟩
      have hYs := HYs.out
      have hXg := HXg.out
      have hXS := HXS.out
      have hcw := HCW.out
      have hxw := HXW.out
      obtain ⟨hl', hl2⟩ := get_lt hZ
      have hD := hrZ.page hl' (x := x) (off := 0) (n := ps.length) (cp := cx) e0 hRix (fun j' h => h.elim (fun h => absurd h.2.2 (by omega)) (fun h => h.1)) (p := j) (by rw [hl2]; exact hj) (true, fd, ft)
      simp only [hl2] at hD
      rw [List.set_set] at hD
      obtain ⟨_, _, hcz⟩ : ∃ a b, Z.cell? ⟨g, i * 4, none⟩ = some (.slice a ps.length b) := ⟨_, _, e0⟩
      clear hcz
      obtain ⟨op9, cp9, e9, _, _, _, hp9, _⟩ := hrZ.at hZ
      rw [e0] at e9
      injection e9 with e9
      injection e9 with e9a _ e9b
      subst e9a; subst e9b
      obtain ⟨x9, xo9, e9, _, t0, t1, t2⟩ := hp9.at hj
      injection e9 with e9
      injection e9 with e9a e9b
      subst e9a; subst e9b
      have a0 := hsZ (0 + j * 3)
      have a1 := hsZ (0 + j * 3 + 1)
      have a2 := hsZ (0 + j * 3 + 2)
      have o0 := hPZ.cell (j := 0) rfl
      have o1 := hPZ.cell (j := 1) rfl
      have o2 := hPZ.cell (j := 2) rfl
      have hmD := Mem.set3 hmZ (x := x) (by have := hmZ.size; omega) (0 + j * 3) (true, fd, ft)
      have far : ∀ {B : Nat} {t : TypeId} {cs : Array Value}, Blk Z B t cs → B ≠ x → Blk (set3 Z x (0 + j * 3) (true, fd, ft)) B t cs := fun h hne => by
        unfold Nand.set3
        exact ((h.other (a := ⟨x, 0 + j * 3, none⟩) hne _).other (a := ⟨x, 0 + j * 3 + 1, none⟩) hne _).other (a := ⟨x, 0 + j * 3 + 2, none⟩) hne _
      have hCD := far hCZ (by omega)
      have hFD := far hFZ (by omega)
      have hRD := far hRZ (by omega)
      replace hD := hD.mem (Mem.refl _).drew
      replace hmD := hmD.drew
      replace hCD := hCD.drew
      replace hFD := hFD.drew
      replace hRD := hRD.drew
      have HDF : Hid (set3 Z x (0 + j * 3) (true, fd, ft) = ((Z.setCell ⟨x, 0 + j * 3, none⟩ (.bool true)).setCell ⟨x, 0 + j * 3 + 1, none⟩ (.string fd)).setCell ⟨x, 0 + j * 3 + 2, none⟩ (.string ft)) := rfl
      rw [Nat.zero_add] at t0 t1 t2 a0 a1 a2
      rw [HDF.out, Nat.zero_add] at hD hmD hCD hFD hRD
      clear far hp9 hpz hsZ hrZ hCZ hPZ hFZ hRZ hmZ hl2 hRix HDF hYs hXg hXS hcw hxw
      go_region
      clear t0 t1 t2 a0 a1 a2 o0 o1 o2 e0
      generalize (((Z.setCell ⟨x, j * 3, none⟩ (.bool true)).setCell ⟨x, j * 3 + 1, none⟩ (.string fd)).setCell ⟨x, j * 3 + 2, none⟩ (.string ft)).drew = V at *
      have hV := set_get (b := (ps.set j (true, fd, ft), (j : Int), er, false)) hi
      obtain ⟨_, _, _, y1, _, _, _, fz⟩ := hD.at hV
      have z1 := fz (i * 4 + 1)
      have hXg := HXg.out
      have hXS := HXS.out
      have hcw := HCW.out
      have hrU := hD.next hV ((j : Int) + 1)
      have hCU := hCD.other (a := ⟨g, i * 4 + 1, none⟩) hcw (.int .i64 ((j : Int) + 1))
      have hFU := hFD.other (a := ⟨g, i * 4 + 1, none⟩) (by show w.heap.size + 1 + 1 ≠ g; omega) (.int .i64 ((j : Int) + 1))
      have hRU := hRD.other (a := ⟨g, i * 4 + 1, none⟩) (by show w.heap.size + 1 + 1 + 1 ≠ g; omega) (.int .i64 ((j : Int) + 1))
      have hmU := hmD.setCell (p := ⟨g, i * 4 + 1, none⟩) (by show w.heap.size ≤ g; omega) (.int .i64 ((j : Int) + 1))
      rw [List.set_set] at hrU
      have hj1 : j ≤ 1000 := by omega
      clear hXg hXS hcw fz hD hCD hFD hRD hmD
      have k0 := hFU.cell (j := 0) rfl
      have k1 := hFU.cell (j := 1) rfl
      have k2 := hFU.cell (j := 2) rfl
      have k3 := hFU.cell (j := 3) rfl
      go_wp2_with fail
      clear y1 z1 k0 k1 k2 k3 hV
      generalize V.setCell ⟨g, i * 4 + 1, none⟩ (.int .i64 ((j : Int) + 1)) = U at *
      have HRX : Hid (∀ j' y, ((j' ≠ i ∧ ((S y ∧ y < w.heap.size) ∧ y < XS)) ∨ (j' = i ∧ y = x)) → (S y ∧ y < w.heap.size) ∨ XS ≤ y) := fun j' y h => h.elim (fun h => .inl h.2.1) (fun h => .inr (by have := HYs.out; have := HXW.out; omega))
      have HRC : Hid (∀ j', ¬ ((j' ≠ i ∧ ((S w.heap.size ∧ w.heap.size < w.heap.size) ∧ w.heap.size < XS)) ∨ (j' = i ∧ w.heap.size = x))) := fun j' h => h.elim (fun h => by have := h.2.1.2; omega) (fun h => by have := HYs.out; have := HXW.out; have := HXS.out; omega)
      refine (strike w.heap.size g i _ (bs.set i (ps.set j (true, fd, ft), (j : Int) + 1, er, false)) (ps.set j (true, fd, ft)) ((j : Int) + 1) er _ _ ops (2, fd, ft, fn) _ hrU (set_get hi) hCU (fun e => HCW.out e.symm) HRC.out (by simp)).mono ?_
      rintro e w5 ⟨rfl, hr5, hC5, hk5⟩
      have hcw := HCW.out
      have hXg := HXg.out
      have hXS := HXS.out
      have hR5 := hk5.blk hRU (by omega) (by omega)
      have hm5 := hk5.up hmU (by omega) (Nat.le_refl _)
      simp only [] at hr5 hC5
      clear hrU hCU hFU hRU hmU hk5
      have HXS2 := hide hXS
      clear hXS
      rw [List.set_set] at hr5
      have c0 := hC5.cell (j := 0) rfl
      have c1 := hC5.cell (j := 1) rfl
      have c2 := hC5.cell (j := 2) rfl
      have c3 := hC5.cell (j := 3) rfl
      have z0 := hR5.cell (j := 0) rfl
      have z1 := hR5.cell (j := 1) rfl
      have z2 := hR5.cell (j := 2) rfl
      have z3 := hR5.cell (j := 3) rfl
      have f0 := hR5.frozen 0
      have f1 := hR5.frozen 1
      have f2 := hR5.frozen 2
      have f3 := hR5.frozen 3
      go_wp2_with fail
      refine bodyPost_ret (ret_chip rfl _ _ rfl (hR5.put4 _ _ _ _)) rfl ⟨?_, hm5.put4 (by omega) _ _ _ _⟩
      have hXS := HXS2.out
      rw [HP.out]
      have hfb := (hr5.blocks (S := fun x => (S x ∧ x < w.heap.size) ∨ XS ≤ x) (.inr hXg) (fun j x hx => HRX.out j x hx) (by rw [List.length_set]; have := HL.out; unfold maxLen; omega) cap).put4 (b := w.heap.size + 1 + 1 + 1) (fun h => h.elim (fun h => by have := h.2; omega) (fun h => by omega)) (.slice (some ⟨g, 0, none⟩) bs.length cap) (.bool br) (.bool true) (.int .i64 (wrap64 (ops + 1)))
      rw [List.length_set] at hfb
      exact ⟨_, rfl, hfb.mono fun x hx _ => hx.elim (fun h => .inl h.1) (fun h => .inr (by omega))⟩
end Go.Proofs.Ytodncodjnoegmaa.Nand
