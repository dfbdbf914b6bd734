/-
  Layer 5: the program's Erase.
-/
import Derived.Test.YtodncodjnoegmaaNandCode3
namespace Go.Proofs.Ytodncodjnoegmaa.Nand
open Go.RowKit

/-- nothing but blocks g and c, and what is new, is another -/
def Kept2 (c g : Nat) (w w' : World) : Prop := (∀ B, B ≤ g → B ≤ c → B ≤ w.heap.size → Below B w w') ∧ ∀ k, k < w.heap.size → k ≠ g → k ≠ c → w'.heap[k]? = w.heap[k]?
theorem Kept2.blk {c g : Nat} {w w' : World} (h : Kept2 c g w w') {b : Nat} {t : TypeId} {cs : Array Value} (hb : Blk w b t cs) (hg : b ≠ g) (hc : b ≠ c) : Blk w' b t cs := (h.2 b hb.lt hg hc).trans hb
theorem Kept2.up {c g : Nat} {w0 w w' : World} (h : Kept2 c g w w') (m : Mem w0 w) (hg : w0.heap.size ≤ g) (hc : w0.heap.size ≤ c) : Mem w0 w' := Below.trans m (h.1 _ hg hc m.size)
theorem Kept2.size {c g : Nat} {w w' : World} (h : Kept2 c g w w') : w.heap.size ≤ w'.heap.size := (h.1 0 (Nat.zero_le _) (Nat.zero_le _) (Nat.zero_le _)).size
theorem Kept2.alloc (c g : Nat) (w : World) (o : Obj) : Kept2 c g w (w.alloc o) :=
  ⟨fun _ _ _ h => (Below.refl _ w).alloc h o, fun k h _ _ => Below.heap_alloc w o k h⟩
theorem Kept2.set {c g : Nat} {w w1 : World} (h : Kept2 c g w w1) {p : Addr} (hp : p.block = g ∨ p.block = c) (x : Value) : Kept2 c g w (w1.setCell p x) :=
  ⟨fun B h1 h2 h3 => Below.setCell (h.1 B h1 h2 h3) (by omega) x, fun k h1 h2 h3 => (Below.heap_setCell w1 p x k (by omega)).trans (h.2 k h1 h2 h3)⟩
theorem blk_third (w : World) (o o' : Obj) (cs : Array Value) (t : TypeId) : Blk (((w.alloc o).alloc o').alloc (.cells cs t)) (w.heap.size + 1 + 1) t cs := by
  have := Blk.new ((w.alloc o).alloc o') cs t
  rwa [alloc_size, alloc_size] at this
theorem strike (C g i : Nat) (R : Nat → Nat → Prop) (bs : List BlockT) (ps : List PageT) (nx er : Int) (v0 a1 : Value) (ops : Int) (f : FateT) (w : World) (hr : RowsAt w g R bs) (hb : bs[i]? = some (ps, nx, er, false)) (hC : Blk w C 27 #[v0, a1, .bool false, .int .i64 ops]) (hgC : g ≠ C) (hRC : ∀ j, ¬ R j C) (hk : f.1 = 0 ∨ f.1 = 1 ∨ f.1 = 2) :
    Calls Try.prog 33 #[.pointer (some ⟨C, 0, none⟩), .pointer (some ⟨g, i * 4, none⟩), fateV f] w fun e w' =>
      e = .returned (.int .i64 (if f.1 = 0 then 0 else if f.1 = 1 then 53 else 52)) ∧ RowsAt w' g R (bs.set i (ps, nx, er, decide (f.1 = 1))) ∧ Blk w' C 27 #[v0, a1, .bool (decide (f.1 = 2)), .int .i64 (wrap64 (ops + 1))] ∧ Kept2 C g w w' := by
  obtain ⟨_, _, _, _, _, c3, _, _⟩ := hr.at hb
  refine (nandStrike C g i v0 a1 (.bool false) ops _ f w hC c3 hr.2.1 hgC hk).mono ?_
  rintro e w' ⟨W, hW, h⟩
  have hm : Mem w (w.alloc (.cells #[.int .i64 f.1, .string f.2.1, .string f.2.2.1, .int .i64 f.2.2.2] 36)) := (Mem.refl w).alloc _
  have hrW : RowsAt W g R bs := by rw [hW]; exact (hr.mem hm).other (p := ⟨C, 3, none⟩) (fun e => hgC e.symm) hRC _
  have hCW : Blk W C 27 #[v0, a1, .bool false, .int .i64 (wrap64 (ops + 1))] := by rw [hW]; exact (hC.mem hm).set 3 _
  have hkW : Kept2 C g w W := by rw [hW]; exact (Kept2.alloc C g w _).set (p := ⟨C, 3, none⟩) (.inr rfl) _
  have hset : bs.set i (ps, nx, er, false) = bs := by obtain ⟨_, e⟩ := get_lt hb; rw [← e]; simp
  rcases h with ⟨h0, rfl, rfl⟩ | ⟨h1, rfl, rfl⟩ | ⟨h2, rfl, rfl⟩
  · simp only [h0]
    refine ⟨rfl, ?_, hCW, hkW⟩
    show RowsAt _ g R (bs.set i (ps, nx, er, false)); rw [hset]; exact hrW
  · simp only [h1]
    exact ⟨rfl, hrW.bad hb true, hCW.other (a := ⟨g, i * 4 + 3, none⟩) (fun e => hgC e.symm) _, hkW.set (p := ⟨g, i * 4 + 3, none⟩) (.inl rfl) _⟩
  · simp only [h2]
    refine ⟨rfl, ?_, hCW.set 2 (.bool true), hkW.set (p := ⟨C, 2, none⟩) (.inr rfl) _⟩
    show RowsAt _ g R (bs.set i (ps, nx, er, false)); rw [hset]
    exact hrW.other (p := ⟨C, 2, none⟩) (fun e => hgC e.symm) hRC _

set_option maxHeartbeats 4000000 in
set_option maxRecDepth 100000 in
theorem eraseSpec_nand : EraseSpec 19 := by
  intro S vb bs br off ops b f w hb hf
  obtain ⟨oa, ca, rfl⟩ := hb.shape
  obtain ⟨fk, fd, ft, fn⟩ := f
  simp only [fateV]
  obtain ⟨W0, hW0⟩ : ∃ W, W = ((w.alloc (.cells #[.slice oa bs.length ca, .bool br, .bool off, .int .i64 ops] 27)).alloc (.cells #[.int .i64 fk, .string fd, .string ft, .int .i64 fn] 36)).alloc (.cells #[.slice none 0 0, .bool false, .bool false, .int .i64 0] 27) := ⟨_, rfl⟩
  have hm : Mem w W0 := by rw [hW0]; exact (((Mem.refl w).alloc _).alloc _).alloc _
  have hC : Blk W0 w.heap.size 27 #[.slice oa bs.length ca, .bool br, .bool off, .int .i64 ops] := by rw [hW0]; exact ((Blk.new w _ _).alloc _).alloc _
  have hF : Blk W0 (w.heap.size + 1) 36 #[.int .i64 fk, .string fd, .string ft, .int .i64 fn] := by rw [hW0]; exact (blk_second _ _ _ _).alloc _
  have hR : Blk W0 (w.heap.size + 1 + 1) 27 #[.slice none 0 0, .bool false, .bool false, .int .i64 0] := by
    have := Blk.new ((w.alloc (.cells #[.slice oa bs.length ca, .bool br, .bool off, .int .i64 ops] 27)).alloc (.cells #[.int .i64 fk, .string fd, .string ft, .int .i64 fn] 36)) #[.slice none 0 0, .bool false, .bool false, .int .i64 0] 27
    rw [alloc_size, alloc_size, ← hW0] at this; exact this
  have hW := hide hW0
  clear hW0
  have HB0 := hide hb
  replace hb := (hb.mono (S' := fun x => S x ∧ x < w.heap.size) fun x hx hlt => ⟨hx, hlt⟩).mem hm
  go_enter Try.func19, Try.ntmps19
  cases off with
  | true =>
    go_wp2_with fail
    exact bodyPost_ret (ret_chip rfl _ _ rfl (blk_third _ _ _ _ _)) rfl ⟨⟨_, rfl, (HB0.out.mem ((((Mem.refl w).alloc _).alloc _).alloc _)).mono fun x hx _ => .inl hx⟩, (((Mem.refl w).alloc _).alloc _).alloc _⟩
  | false =>
    go_wp2_with fail
    rw [← hW.out]
    refine (nandHasBlock _ _ bs br false ops b _ hb).mono ?_
    rintro e w1 ⟨rfl, m1⟩
    replace hm := hm.trans m1
    replace hb := hb.mem m1
    replace hC := hC.mem m1
    replace hF := hF.mem m1
    replace hR := hR.mem m1
    clear m1
    clear hW
    have c0 := hC.cell (j := 0) rfl
    have c1 := hC.cell (j := 1) rfl
    have c2 := hC.cell (j := 2) rfl
    have c3 := hC.cell (j := 3) rfl
    cases hh : hasB bs b with
    | false =>
      have HP : Hid (erase (bs, br, false, ops) b (fk, fd, ft, fn) = ((bs, true, false, ops), 1)) := by show _ = _; unfold erase okErase; unfold hasB at hh; simp only []; rw [hh]; rfl
      clear hh
      go_wp2_with fail
      refine (nandBroken _ _ bs br false ops _ hb).mono ?_
      rintro e w2 ⟨rfl, m2⟩
      have hR2 := hR.mem m2
      have hm2 := hm.trans m2
      have hb2 := hb.mem m2
      have z0 := hR2.cell (j := 0) rfl
      have z1 := hR2.cell (j := 1) rfl
      have z2 := hR2.cell (j := 2) rfl
      have z3 := hR2.cell (j := 3) rfl
      have f0 := hR2.frozen 0
      have f1 := hR2.frozen 1
      have f2 := hR2.frozen 2
      have f3 := hR2.frozen 3
      go_wp2_with fail
      refine bodyPost_ret (ret_chip rfl _ _ rfl (hR2.put4 _ _ _ _)) rfl ⟨?_, hm2.put4 (by omega) _ _ _ _⟩
      rw [HP.out]
      exact ⟨_, rfl, (hb2.put4 (fun h => by have := h.2; omega) _ _ _ _).mono fun x hx _ => .inl hx.1⟩
    | true =>
    have hh2 := hh
    unfold hasB at hh2
    simp only [Bool.and_eq_true, decide_eq_true_eq] at hh2
    obtain ⟨h0, h1⟩ := hh2
    clear hh
    obtain ⟨i, rfl⟩ := Int.eq_ofNat_of_zero_le h0
    have hi : i < bs.length := by omega
    have hg : bs.getD (i : Int).toNat default = bs[i] := by simp [hi]
    have HK : Hid (bs[i]? = some bs[i]) := by show _ = _; simp [hi]
    have hpl : bs[i].1.length ≤ 1000 := hf.2 _ (List.getElem_mem hi)
    have HPG : Hid (∀ fk' : Int, okErase bs (i : Int) (fk', fd, ft, fn) = (!bs[i].2.2.2 && okKind fk')) := by
      intro fk'; unfold okErase okKind; rw [hg, decide_eq_true h0, decide_eq_true h1]; simp [Bool.and_assoc]
    obtain ⟨g0, og, op, cp, rfl, _, x0, x1, x2, x3, _⟩ := hb.at hi
    have h1' : (i : Int) < (bs.length : Int) := h1
    have HG := hide hg
    generalize bs[i] = bk at *
    obtain ⟨ps, nx, er, bd⟩ := bk
    simp only [] at x0 x1 x2 x3 hpl HPG HG
    clear hg
    cases bd with
    | true =>
      have HP : Hid (erase (bs, br, false, ops) (i : Int) (fk, fd, ft, fn) = ((bs, true, false, ops), 1)) := by show _ = _; unfold erase; simp only []; rw [HPG.out]; rfl
      go_wp2_with fail
      refine (nandBroken _ _ bs br false ops _ hb).mono ?_
      rintro e w2 ⟨rfl, m2⟩
      have hR2 := hR.mem m2
      have hm2 := hm.trans m2
      have hb2 := hb.mem m2
      have z0 := hR2.cell (j := 0) rfl
      have z1 := hR2.cell (j := 1) rfl
      have z2 := hR2.cell (j := 2) rfl
      have z3 := hR2.cell (j := 3) rfl
      have f0 := hR2.frozen 0
      have f1 := hR2.frozen 1
      have f2 := hR2.frozen 2
      have f3 := hR2.frozen 3
      go_wp2_with fail
      refine bodyPost_ret (ret_chip rfl _ _ rfl (hR2.put4 _ _ _ _)) rfl ⟨?_, hm2.put4 (by omega) _ _ _ _⟩
      rw [HP.out]
      exact ⟨_, rfl, (hb2.put4 (fun h => by have := h.2; omega) _ _ _ _).mono fun x hx _ => .inl hx.1⟩
    | false =>
    have k0 := hF.cell (j := 0) rfl
    have k1 := hF.cell (j := 1) rfl
    have k2 := hF.cell (j := 2) rfl
    have k3 := hF.cell (j := 3) rfl
    go_wp2_with fail
    refine (nandHasKind (fk, fd, ft, fn) _).mono ?_
    rintro e w2 ⟨rfl, m1⟩
    simp only []
    clear c0 c1 c2 c3 x0 x1 x2 x3 k0 k1 k2 k3
    replace hm := hm.trans m1
    replace hb := hb.mem m1
    replace hC := hC.mem m1
    replace hF := hF.mem m1
    replace hR := hR.mem m1
    clear m1
    have c0 := hC.cell (j := 0) rfl
    have c1 := hC.cell (j := 1) rfl
    have c2 := hC.cell (j := 2) rfl
    have c3 := hC.cell (j := 3) rfl
    have hok := HPG.out fk
    cases hkk : okKind fk with
    | false =>
      have HP : Hid (erase (bs, br, false, ops) (i : Int) (fk, fd, ft, fn) = ((bs, true, false, ops), 1)) := by
        show _ = _; unfold erase; simp only []; rw [hok, hkk]; rfl
      clear hkk hok
      go_wp2_with fail
      refine (nandBroken _ _ bs br false ops _ hb).mono ?_
      rintro e w2 ⟨rfl, m2⟩
      have hR2 := hR.mem m2
      have hm2 := hm.trans m2
      have hb2 := hb.mem m2
      have z0 := hR2.cell (j := 0) rfl
      have z1 := hR2.cell (j := 1) rfl
      have z2 := hR2.cell (j := 2) rfl
      have z3 := hR2.cell (j := 3) rfl
      have f0 := hR2.frozen 0
      have f1 := hR2.frozen 1
      have f2 := hR2.frozen 2
      have f3 := hR2.frozen 3
      go_wp2_with fail
      refine bodyPost_ret (ret_chip rfl _ _ rfl (hR2.put4 _ _ _ _)) rfl ⟨?_, hm2.put4 (by omega) _ _ _ _⟩
      rw [HP.out]
      exact ⟨_, rfl, (hb2.put4 (fun h => by have := h.2; omega) _ _ _ _).mono fun x hx _ => .inl hx.1⟩
    | true =>
    rw [hkk] at hok
    unfold okKind at hkk
    simp only [Bool.and_eq_true, decide_eq_true_eq] at hkk
    have hfk : fk = 0 ∨ fk = 1 ∨ fk = 2 := by omega
    have HP : Hid (erase (bs, br, false, ops) (i : Int) (fk, fd, ft, fn) = if fk = 1 then ((bs.set i (ps, nx, er, true), br, false, wrap64 (ops + 1)), 53) else if fk = 0 then ((bs.set i (wipe ps.length ps, 0, wrap64 (er + 1), false), br, false, wrap64 (ops + 1)), 0) else ((bs.set i (wipe fn.toNat ps, (ps.length : Int), wrap64 (er + 1), false), br, true, wrap64 (ops + 1)), 52)) := by
      show _ = _
      unfold erase
      simp only []
      rw [hok, HG.out]
      simp
    clear hkk hok HPG HG
    go_wp2_with fail
    refine (nandOwn _ w.heap.size _ _ _ _ bs i _ hC hb hf.1 hi).mono ?_
    rintro e w' ⟨g, cap, w3, rfl, rfl, hXg, hr3, m3⟩
    have hs4 := hR.lt
    have hcw : w.heap.size ≠ g := by omega
    have hrY := hr3.other (p := ⟨w.heap.size, 0, none⟩) hcw (fun _ h => absurd h.1.2 (Nat.lt_irrefl _)) (.slice (some ⟨g, 0, none⟩) bs.length cap)
    have hCY : Blk (w3.setCell ⟨w.heap.size, 0, none⟩ (.slice (some ⟨g, 0, none⟩) bs.length cap)) w.heap.size 27 #[.slice (some ⟨g, 0, none⟩) bs.length cap, .bool br, .bool false, .int .i64 ops] := (hC.mem m3).set 0 _
    have hFY := (hF.mem m3).other (a := ⟨w.heap.size, 0, none⟩) (by show w.heap.size + 1 ≠ w.heap.size; omega) (.slice (some ⟨g, 0, none⟩) bs.length cap)
    have hRY := (hR.mem m3).other (a := ⟨w.heap.size, 0, none⟩) (by show w.heap.size + 1 + 1 ≠ w.heap.size; omega) (.slice (some ⟨g, 0, none⟩) bs.length cap)
    have hmY := (hm.trans m3).setCell (p := ⟨w.heap.size, 0, none⟩) (Nat.le_refl _) (.slice (some ⟨g, 0, none⟩) bs.length cap)
    have hYs : w2.heap.size ≤ (w3.setCell ⟨w.heap.size, 0, none⟩ (.slice (some ⟨g, 0, none⟩) bs.length cap)).heap.size := by rw [size_setCell]; exact m3.size
    clear c0 c1 c2 c3 hC hF hR hm hb m3 hr3
    generalize w3.setCell ⟨w.heap.size, 0, none⟩ (.slice (some ⟨g, 0, none⟩) bs.length cap) = Y at *
    generalize hxs : w2.heap.size = XS at *
    clear hxs
    have hms := hmY.size
    have hXS := hs4
    have k0 := hFY.cell (j := 0) rfl
    have k1 := hFY.cell (j := 1) rfl
    have k2 := hFY.cell (j := 2) rfl
    have k3 := hFY.cell (j := 3) rfl
    have HXg := hide hXg
    have HXS := hide hXS
    have HYs := hide hYs
    have HMS := hide hms
    have HCW := hide hcw
    have HL : Hid (bs.length ≤ 1000) := hf.1
    clear hXg hXS hYs hms hs4 hcw hf
    rcases hfk with rfl | rfl | rfl
    · obtain ⟨op1, cp1, y0, y1, y2, y3, _, fz⟩ := hrY.at HK.out
      go_wp2_with fail
      refine (nandWipe _ g i (ps.length : Int) bs ps nx er false _ hrY HK.out hpl (fun x hx => Nat.lt_of_lt_of_le hx.2 HYs.out)).mono ?_
      rintro e w4 ⟨rfl, hr4, hk4⟩
      have hcw := HCW.out
      have hXg := HXg.out
      have hXS := HXS.out
      have hms := HMS.out
      have hCZ0 := hk4.blk hCY hcw
      have hFZ0 := hk4.blk hFY (by omega)
      have hRZ0 := hk4.blk hRY (by omega)
      have hmZ0 := hk4.up hmY (by omega)
      have hw4 := set_get (b := (wipe ((ps.length : Int)).toNat ps, nx, wrap64 (er + 1), false)) hi
      obtain ⟨op2, cp2, p0, p1, p2, p3, _, fz2⟩ := hr4.at hw4
      have q1 := fz2 (i * 4 + 1)
      have hrZ := hr4.next hw4 0
      have hCZ := hCZ0.other (a := ⟨g, i * 4 + 1, none⟩) hcw (.int .i64 0)
      have hFZ := hFZ0.other (a := ⟨g, i * 4 + 1, none⟩) (by show w.heap.size + 1 ≠ g; omega) (.int .i64 0)
      have hRZ := hRZ0.other (a := ⟨g, i * 4 + 1, none⟩) (by show w.heap.size + 1 + 1 ≠ g; omega) (.int .i64 0)
      have hmZ := hmZ0.setCell (p := ⟨g, i * 4 + 1, none⟩) (by show w.heap.size ≤ g; omega) (.int .i64 0)
      rw [List.set_set] at hrZ
      have hYs := HYs.out
      have HRX : Hid (∀ x, ((S x ∧ x < w.heap.size) ∧ x < XS) ∨ Y.heap.size ≤ x → (S x ∧ x < w.heap.size) ∨ XS ≤ x) := fun x h => h.elim (fun h => .inl h.1) (fun h => .inr (by omega))
      have HRC : Hid (¬ (((S w.heap.size ∧ w.heap.size < w.heap.size) ∧ w.heap.size < XS) ∨ Y.heap.size ≤ w.heap.size)) := fun h => h.elim (fun h => by have := h.1.2; omega) (fun h => by omega)
      clear y0 y1 y2 y3 fz fz2 p2 p3 hk4 hrY hCY hFY hRY hmY k0 k1 k2 k3
      clear hcw hXg hXS hms hYs
      have r0 := hFZ0.cell (j := 0) rfl
      have r1 := hFZ.cell (j := 0) rfl
      have r2 := hFZ.cell (j := 1) rfl
      have r3 := hFZ.cell (j := 2) rfl
      have r4 := hFZ.cell (j := 3) rfl
      rw [wipe_length] at p0
      go_wp2_with fail
      clear r0 r1 r2 r3 r4 p0 p1 q1 hCZ0 hFZ0 hRZ0 hmZ0
      have HZ : Hid ((bs.set i (wipe ((ps.length : Int)).toNat ps, 0, wrap64 (er + 1), false))[i]? = some (wipe ((ps.length : Int)).toNat ps, 0, wrap64 (er + 1), false)) := set_get hi
      generalize w4.setCell ⟨g, i * 4 + 1, none⟩ (.int .i64 0) = Z at *
      refine (strike w.heap.size g i _ (bs.set i (wipe ((ps.length : Int)).toNat ps, 0, wrap64 (er + 1), false)) (wipe ((ps.length : Int)).toNat ps) 0 (wrap64 (er + 1)) _ _ ops (0, fd, ft, fn) _ hrZ HZ.out hCZ (fun e => HCW.out e.symm) (fun _ => HRC.out) (by simp)).mono ?_
      rintro e w5 ⟨rfl, hr5, hC5, hk5⟩
      have hcw := HCW.out
      have hXg := HXg.out
      have hXS := HXS.out
      have hR5 := hk5.blk hRZ (by omega) (by omega)
      have hm5 := hk5.up hmZ (by omega) (Nat.le_refl _)
      simp only [] at hr5 hC5
      clear hrZ hCZ hFZ hRZ hmZ hk5
      have HXS2 := hide hXS
      clear hXS
      rw [List.set_set] at hr5
      have c0 := hC5.cell (j := 0) rfl
      have c1 := hC5.cell (j := 1) rfl
      have c2 := hC5.cell (j := 2) rfl
      have c3 := hC5.cell (j := 3) rfl
      have z0 := hR5.cell (j := 0) rfl
      have z1 := hR5.cell (j := 1) rfl
      have z2 := hR5.cell (j := 2) rfl
      have z3 := hR5.cell (j := 3) rfl
      have f0 := hR5.frozen 0
      have f1 := hR5.frozen 1
      have f2 := hR5.frozen 2
      have f3 := hR5.frozen 3
      go_wp2_with fail
      refine bodyPost_ret (ret_chip rfl _ _ rfl (hR5.put4 _ _ _ _)) rfl ⟨?_, hm5.put4 (by omega) _ _ _ _⟩
      have hXS := HXS2.out
      rw [HP.out]
      have hfb := (hr5.blocks (S := fun x => (S x ∧ x < w.heap.size) ∨ XS ≤ x) (.inr hXg) (fun j x hx => HRX.out x hx) (by rw [List.length_set]; have := HL.out; unfold maxLen; omega) cap).put4 (b := w.heap.size + 1 + 1) (fun h => h.elim (fun h => by have := h.2; omega) (fun h => by omega)) (.slice (some ⟨g, 0, none⟩) bs.length cap) (.bool br) (.bool false) (.int .i64 (wrap64 (ops + 1)))
      rw [List.length_set] at hfb
      exact ⟨_, rfl, hfb.mono fun x hx _ => hx.elim (fun h => .inl h.1) (fun h => .inr (by omega))⟩
    · obtain ⟨op1, cp1, y0, y1, y2, y3, _, fz⟩ := hrY.at HK.out
      have hrZ := hrY
      have hCZ := hCY
      have hFZ := hFY
      have hRZ := hRY
      have hmZ := hmY
      have HRX : Hid (∀ x, ((S x ∧ x < w.heap.size) ∧ x < XS) → (S x ∧ x < w.heap.size) ∨ XS ≤ x) := fun x h => .inl h.1
      have HRC : Hid (¬ ((S w.heap.size ∧ w.heap.size < w.heap.size) ∧ w.heap.size < XS)) := fun h => by have := h.1.2; omega
      have HZ := HK
      go_wp2_with fail
      clear y0 y1 y2 y3 fz k0 k1 k2 k3
      refine (strike w.heap.size g i _ bs ps nx er _ _ ops (1, fd, ft, fn) _ hrZ HZ.out hCZ (fun e => HCW.out e.symm) (fun _ => HRC.out) (by simp)).mono ?_
      rintro e w5 ⟨rfl, hr5, hC5, hk5⟩
      have hcw := HCW.out
      have hXg := HXg.out
      have hXS := HXS.out
      have hR5 := hk5.blk hRZ (by omega) (by omega)
      have hm5 := hk5.up hmZ (by omega) (Nat.le_refl _)
      simp only [] at hr5 hC5
      clear hrZ hCZ hFZ hRZ hmZ hk5
      have HXS2 := hide hXS
      clear hXS
      have c0 := hC5.cell (j := 0) rfl
      have c1 := hC5.cell (j := 1) rfl
      have c2 := hC5.cell (j := 2) rfl
      have c3 := hC5.cell (j := 3) rfl
      have z0 := hR5.cell (j := 0) rfl
      have z1 := hR5.cell (j := 1) rfl
      have z2 := hR5.cell (j := 2) rfl
      have z3 := hR5.cell (j := 3) rfl
      have f0 := hR5.frozen 0
      have f1 := hR5.frozen 1
      have f2 := hR5.frozen 2
      have f3 := hR5.frozen 3
      go_wp2_with fail
      refine bodyPost_ret (ret_chip rfl _ _ rfl (hR5.put4 _ _ _ _)) rfl ⟨?_, hm5.put4 (by omega) _ _ _ _⟩
      have hXS := HXS2.out
      rw [HP.out]
      have hfb := (hr5.blocks (S := fun x => (S x ∧ x < w.heap.size) ∨ XS ≤ x) (.inr hXg) (fun j x hx => HRX.out x hx) (by rw [List.length_set]; have := HL.out; unfold maxLen; omega) cap).put4 (b := w.heap.size + 1 + 1) (fun h => h.elim (fun h => by have := h.2; omega) (fun h => by omega)) (.slice (some ⟨g, 0, none⟩) bs.length cap) (.bool br) (.bool false) (.int .i64 (wrap64 (ops + 1)))
      rw [List.length_set] at hfb
      exact ⟨_, rfl, hfb.mono fun x hx _ => hx.elim (fun h => .inl h.1) (fun h => .inr (by omega))⟩
    · obtain ⟨op1, cp1, y0, y1, y2, y3, _, fz⟩ := hrY.at HK.out
      go_wp2_with fail
      refine (nandWipe _ g i fn bs ps nx er false _ hrY HK.out hpl (fun x hx => Nat.lt_of_lt_of_le hx.2 HYs.out)).mono ?_
      rintro e w4 ⟨rfl, hr4, hk4⟩
      have hcw := HCW.out
      have hXg := HXg.out
      have hXS := HXS.out
      have hms := HMS.out
      have hCZ0 := hk4.blk hCY hcw
      have hFZ0 := hk4.blk hFY (by omega)
      have hRZ0 := hk4.blk hRY (by omega)
      have hmZ0 := hk4.up hmY (by omega)
      have hw4 := set_get (b := (wipe (fn).toNat ps, nx, wrap64 (er + 1), false)) hi
      obtain ⟨op2, cp2, p0, p1, p2, p3, _, fz2⟩ := hr4.at hw4
      have q1 := fz2 (i * 4 + 1)
      have hrZ := hr4.next hw4 (ps.length : Int)
      have hCZ := hCZ0.other (a := ⟨g, i * 4 + 1, none⟩) hcw (.int .i64 (ps.length : Int))
      have hFZ := hFZ0.other (a := ⟨g, i * 4 + 1, none⟩) (by show w.heap.size + 1 ≠ g; omega) (.int .i64 (ps.length : Int))
      have hRZ := hRZ0.other (a := ⟨g, i * 4 + 1, none⟩) (by show w.heap.size + 1 + 1 ≠ g; omega) (.int .i64 (ps.length : Int))
      have hmZ := hmZ0.setCell (p := ⟨g, i * 4 + 1, none⟩) (by show w.heap.size ≤ g; omega) (.int .i64 (ps.length : Int))
      rw [List.set_set] at hrZ
      have hYs := HYs.out
      have HRX : Hid (∀ x, ((S x ∧ x < w.heap.size) ∧ x < XS) ∨ Y.heap.size ≤ x → (S x ∧ x < w.heap.size) ∨ XS ≤ x) := fun x h => h.elim (fun h => .inl h.1) (fun h => .inr (by omega))
      have HRC : Hid (¬ (((S w.heap.size ∧ w.heap.size < w.heap.size) ∧ w.heap.size < XS) ∨ Y.heap.size ≤ w.heap.size)) := fun h => h.elim (fun h => by have := h.1.2; omega) (fun h => by omega)
      clear y0 y1 y2 y3 fz fz2 p2 p3 hk4 hrY hCY hFY hRY hmY k0 k1 k2 k3
      clear hcw hXg hXS hms hYs
      have r0 := hFZ0.cell (j := 0) rfl
      have r1 := hFZ.cell (j := 0) rfl
      have r2 := hFZ.cell (j := 1) rfl
      have r3 := hFZ.cell (j := 2) rfl
      have r4 := hFZ.cell (j := 3) rfl
      rw [wipe_length] at p0
      go_wp2_with fail
      clear r0 r1 r2 r3 r4 p0 p1 q1 hCZ0 hFZ0 hRZ0 hmZ0
      have HZ : Hid ((bs.set i (wipe (fn).toNat ps, (ps.length : Int), wrap64 (er + 1), false))[i]? = some (wipe (fn).toNat ps, (ps.length : Int), wrap64 (er + 1), false)) := set_get hi
      generalize w4.setCell ⟨g, i * 4 + 1, none⟩ (.int .i64 (ps.length : Int)) = Z at *
      refine (strike w.heap.size g i _ (bs.set i (wipe (fn).toNat ps, (ps.length : Int), wrap64 (er + 1), false)) (wipe (fn).toNat ps) (ps.length : Int) (wrap64 (er + 1)) _ _ ops (2, fd, ft, fn) _ hrZ HZ.out hCZ (fun e => HCW.out e.symm) (fun _ => HRC.out) (by simp)).mono ?_
      rintro e w5 ⟨rfl, hr5, hC5, hk5⟩
      have hcw := HCW.out
      have hXg := HXg.out
      have hXS := HXS.out
      have hR5 := hk5.blk hRZ (by omega) (by omega)
      have hm5 := hk5.up hmZ (by omega) (Nat.le_refl _)
      simp only [] at hr5 hC5
      clear hrZ hCZ hFZ hRZ hmZ hk5
      have HXS2 := hide hXS
      clear hXS
      rw [List.set_set] at hr5
      have c0 := hC5.cell (j := 0) rfl
      have c1 := hC5.cell (j := 1) rfl
      have c2 := hC5.cell (j := 2) rfl
      have c3 := hC5.cell (j := 3) rfl
      have z0 := hR5.cell (j := 0) rfl
      have z1 := hR5.cell (j := 1) rfl
      have z2 := hR5.cell (j := 2) rfl
      have z3 := hR5.cell (j := 3) rfl
      have f0 := hR5.frozen 0
      have f1 := hR5.frozen 1
      have f2 := hR5.frozen 2
      have f3 := hR5.frozen 3
      go_wp2_with fail
      refine bodyPost_ret (ret_chip rfl _ _ rfl (hR5.put4 _ _ _ _)) rfl ⟨?_, hm5.put4 (by omega) _ _ _ _⟩
      have hXS := HXS2.out
      rw [HP.out]
      have hfb := (hr5.blocks (S := fun x => (S x ∧ x < w.heap.size) ∨ XS ≤ x) (.inr hXg) (fun j x hx => HRX.out x hx) (by rw [List.length_set]; have := HL.out; unfold maxLen; omega) cap).put4 (b := w.heap.size + 1 + 1) (fun h => h.elim (fun h => by have := h.2; omega) (fun h => by omega)) (.slice (some ⟨g, 0, none⟩) bs.length cap) (.bool br) (.bool true) (.int .i64 (wrap64 (ops + 1)))
      rw [List.length_set] at hfb
      exact ⟨_, rfl, hfb.mono fun x hx _ => hx.elim (fun h => .inl h.1) (fun h => .inr (by omega))⟩
end Go.Proofs.Ytodncodjnoegmaa.Nand
