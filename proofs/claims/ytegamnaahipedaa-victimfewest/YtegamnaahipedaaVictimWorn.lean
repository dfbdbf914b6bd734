/-
  Layer 11, the statements' own: a chip some of whose blocks were erased more often.
-/
import Derived.Test.YtegamnaahipedaaVictimMath
import Derived.Test.YtegamnaahipedaaNandNewAll
import Derived.Test.YtegamnaahipedaaStatesLawMath
import Derived.BigRegion
namespace Go.Proofs.Ytegamnaahipedaa.Victim
open Go.RowKit Go.Proofs.Ytegamnaahipedaa.Nand Go.Proofs.Ytegamnaahipedaa.States

def wornB (b : BlockT) (z : Int) : BlockT := (b.1, b.2.1, z % 9, b.2.2.2)
def wornN (bs : List BlockT) (zs : List Int) : Nat → List BlockT
  | 0 => bs
  | k + 1 => (wornN bs zs k).set k (wornB (blkT (wornN bs zs k) k) (zs.getD k 0))
theorem worn_len (bs : List BlockT) (zs : List Int) (k : Nat) : (wornN bs zs k).length = bs.length := by
  induction k with
  | zero => rfl
  | succ k ih => rw [wornN, List.length_set, ih]
theorem worn_get? {bs : List BlockT} {zs : List Int} {k j : Nat} : (wornN bs zs k)[j]? = if j < k then (bs[j]?).map (fun b => wornB b (zs.getD j 0)) else bs[j]? := by
  induction k generalizing j with
  | zero => simp [wornN]
  | succ k ih =>
    rw [wornN, List.getElem?_set]
    by_cases e : k = j
    · subst e
      have h2 := ih (j := k)
      rw [if_neg (by omega)] at h2
      have e2 : k < k + 1 := Nat.lt_succ_self k
      simp only [e2, if_true, worn_len]
      by_cases hl : k < bs.length
      · rw [if_pos hl]
        unfold blkT
        rw [List.getD_eq_getElem?_getD, h2, List.getElem?_eq_getElem hl]
        rfl
      · rw [if_neg hl, List.getElem?_eq_none (by omega)]
        rfl
    · rw [if_neg e, ih]
      by_cases hj : j < k
      · rw [if_pos hj, if_pos (by omega)]
      · rw [if_neg hj, if_neg (by omega)]
theorem worn_mem {bs : List BlockT} {zs : List Int} {k : Nat} {b : BlockT} (h : b ∈ wornN bs zs k) : ∃ b' ∈ bs, b.1 = b'.1 ∧ (b.2.2.1 = b'.2.2.1 ∨ (0 ≤ b.2.2.1 ∧ b.2.2.1 ≤ 8)) := by
  obtain ⟨j, hj, rfl⟩ := List.mem_iff_getElem.1 h
  have h2 := worn_get? (bs := bs) (zs := zs) (k := k) (j := j)
  rw [List.getElem?_eq_getElem hj] at h2
  have hjb : j < bs.length := by rw [worn_len] at hj; exact hj
  rw [List.getElem?_eq_getElem hjb] at h2
  by_cases hk : j < k
  · rw [if_pos hk] at h2
    injection h2 with h2
    rw [h2]
    exact ⟨bs[j], List.getElem_mem hjb, rfl, .inr (by show 0 ≤ _ % (9 : Int) ∧ _ % (9 : Int) ≤ 8; omega)⟩
  · rw [if_neg hk] at h2
    injection h2 with h2
    rw [h2]
    exact ⟨bs[j], List.getElem_mem hjb, rfl, .inl rfl⟩
theorem worn_few {bs : List BlockT} {zs : List Int} {k : Nat} (h : Few bs) : Few (wornN bs zs k) := by
  refine ⟨by rw [worn_len]; exact h.1, fun b hb => ?_⟩
  obtain ⟨b', hb', e, _⟩ := worn_mem hb
  rw [e]
  exact h.2 b' hb'

set_option maxHeartbeats 4000000 in
set_option maxRecDepth 100000 in
theorem lawWorn (S : Nat → Prop) (vb : Value) (bs : List BlockT) (br off : Bool) (ops : Int) (ol : Option Addr) (cl : Nat) (zs : List Int) (w : World) (hb : BlocksAt S w vb bs) (hf : Few bs) (h0 : 0 < bs.length)
    (hz : Ints .u8 w (.slice ol zs.length cl) zs) (hzb : ∀ x ∈ zs, 0 ≤ x ∧ x ≤ 255) :
    Calls Try.prog 11 #[chipV vb br off ops, .slice ol zs.length cl] w fun e w' => (∃ v', e = .returned (chipV v' br off ops) ∧ BlocksAt (fun x => w.heap.size ≤ x) w' v' (wornN bs zs (min bs.length zs.length))) ∧ Mem w w' := by
  obtain ⟨oa, ca, rfl⟩ := hb.shape
  have hzl := hz.1
  unfold maxLen at hzl
  have hsz : (w.alloc (.cells #[.slice oa bs.length ca, .bool br, .bool off, .int .i64 ops] 24)).heap.size = w.heap.size + 1 := by simp
  have hm : Mem w ((w.alloc (.cells #[.slice oa bs.length ca, .bool br, .bool off, .int .i64 ops] 24)).alloc (.cells #[.slice none 0 0, .bool false, .bool false, .int .i64 0] 24)) := ((Mem.refl w).alloc _).alloc _
  have hC := (Blk.new w #[.slice oa bs.length ca, .bool br, .bool off, .int .i64 ops] 24).alloc (.cells #[.slice none 0 0, .bool false, .bool false, .int .i64 0] 24)
  have hR : Blk ((w.alloc (.cells #[.slice oa bs.length ca, .bool br, .bool off, .int .i64 ops] 24)).alloc (.cells #[.slice none 0 0, .bool false, .bool false, .int .i64 0] 24)) (w.heap.size + 1) 24 #[.slice none 0 0, .bool false, .bool false, .int .i64 0] := by
    have := Blk.new (w.alloc (.cells #[.slice oa bs.length ca, .bool br, .bool off, .int .i64 ops] 24)) #[.slice none 0 0, .bool false, .bool false, .int .i64 0] 24
    rwa [hsz] at this
  clear hsz
  replace hb := hb.mem hm
  have HZW := hide hz
  clear hz
  have c0 := hC.cell (j := 0) rfl
  have c1 := hC.cell (j := 1) rfl
  have c2 := hC.cell (j := 2) rfl
  have c3 := hC.cell (j := 3) rfl
  simp only [chipV]
  go_enter Try.func11, Try.ntmps11
  go_wp2_with fail
  generalize hW0 : (w.alloc (.cells #[.slice oa bs.length ca, .bool br, .bool off, .int .i64 ops] 24)).alloc (.cells #[.slice none 0 0, .bool false, .bool false, .int .i64 0] 24) = W0 at *
  clear hW0 c0 c1 c2 c3 hC
  have hlt := hR.lt
  refine (refOwn S _ bs br off ops _ hb hf).mono ?_
  rintro e w1 ⟨⟨v', rfl, hO⟩, m1⟩
  obtain ⟨g, cap, R, rfl, hcap, hO1⟩ := hO.one h0
  simp only [chipV]
  have hX0 := Blk.new w1 #[.slice (some ⟨g, 0, none⟩) bs.length cap, .bool br, .bool off, .int .i64 ops] 24
  have ha : Mem w1 (w1.alloc (.cells #[.slice (some ⟨g, 0, none⟩) bs.length cap, .bool br, .bool off, .int .i64 ops] 24)) := (Mem.refl w1).alloc _
  have hgl : g < w1.heap.size := by
    obtain ⟨op, cp, k0, _⟩ := hO1.at (i := 0) (ps := (bs[0]).1) (nx := (bs[0]).2.1) (er := (bs[0]).2.2.1) (bd := (bs[0]).2.2.2) (by rw [List.getElem?_eq_getElem h0])
    exact World.block_lt_of_cell? w1 _ k0
  have hRl : ∀ i, ¬ R i w1.heap.size := fun i h => by have := (hO1.2.2.1 i _ h).2.1; omega
  have hR2 := hR.mem (m1.trans ha)
  have hO2 := hO1.mem ha
  have hm2 := hm.trans (m1.trans ha)
  have hw1 := m1.size
  have HZ := hide hzb
  clear hb hO hO1 hzb hm hR
  go_wp2_with fail
  generalize hWA : w1.alloc (.cells #[.slice (some ⟨g, 0, none⟩) bs.length cap, .bool br, .bool off, .int .i64 ops] 24) = WA at *
  clear hWA
  obtain ⟨Bo, hBo⟩ : ∃ Bo, w1.heap.size = Bo := ⟨_, rfl⟩
  rw [hBo] at hX0 hgl hRl hw1 ⊢
  clear hBo
  have HX := hide hX0
  have hbl := hf.1
  have hgb := hO2.1
  obtain ⟨base, hbase⟩ : ∃ base, W0.heap.size + 2 = base := ⟨_, rfl⟩
  rw [hbase] at hO2 hgb
  clear hX0
  go_loopw [6] (fun i wr => ∃ k : Nat, k ≤ min bs.length zs.length ∧ i = .int .i64 k ∧ Own1 base wr g R (wornN bs zs k) ∧ Blk wr Bo 24 #[.slice (some ⟨g, 0, none⟩) bs.length cap, .bool br, .bool off, .int .i64 ops] ∧ Blk wr (w.heap.size + 1) 24 #[.slice none 0 0, .bool false, .bool false, .int .i64 0] ∧ Mem w wr) (fun i _ => bs.length - (intOf i).toNat)
  case atStart => exact ⟨0, Nat.zero_le _, rfl, hO2, HX.out, hR2, hm2⟩
  case round =>
    clear hR2 hm2 hO2
    obtain ⟨k, hk, rfl, hOr, hXr, hRr, hmr⟩ := hrel
    have x0 := hXr.cell (j := 0) rfl
    by_cases hlt1 : k < bs.length
    · have hlt1' : (k : Int) < (bs.length : Int) := by omega
      by_cases hlt2 : k < zs.length
      · have hlt2' : (k : Int) < (zs.length : Int) := by omega
        have hk0 : (0 : Int) ≤ (k : Int) := by omega
        obtain ⟨zb, zo, rfl, hzc⟩ := (HZW.out.mem hmr).at (by omega)
        have z0 := hzc k hlt2
        obtain ⟨zz0, zz1⟩ := HZ.out _ (show zs.getD k 0 ∈ zs by rw [List.getD_eq_getElem?_getD, List.getElem?_eq_getElem hlt2]; exact List.getElem_mem hlt2)
        have hkw : (wornN bs zs k)[k]? = some (blkT (wornN bs zs k) k) := by
          unfold blkT; rw [List.getD_eq_getElem?_getD, List.getElem?_eq_getElem (by rw [worn_len]; exact hlt1)]; rfl
        have HN : Hid (wornN bs zs (k + 1) = (wornN bs zs k).set k (wornB (blkT (wornN bs zs k) k) (zs.getD k 0))) := rfl
        generalize zs.getD k 0 = z at *
        generalize blkT (wornN bs zs k) k = bk at *
        obtain ⟨ps, nx, er, bd⟩ := bk
        obtain ⟨op, cp, y0, y1, y2, y3, _, hfz⟩ := hOr.at hkw
        have f2 := hfz (k * 4 + 2)
        have hE := hide ((hOr.erases hkw (z % 9)).drew)
        have hX2 := hide ((hXr.other (a := ⟨g, k * 4 + 2, none⟩) (by show Bo ≠ g; omega) (.int .i64 (z % 9))).drew)
        have hR3 := hide ((hRr.other (a := ⟨g, k * 4 + 2, none⟩) (by show w.heap.size + 1 ≠ g; omega) (.int .i64 (z % 9))).drew)
        have hM3 := hide ((hmr.setCell (p := ⟨g, k * 4 + 2, none⟩) (by show w.heap.size ≤ g; omega) (.int .i64 (z % 9))).drew)
        have hzr : IntKind.i64.wrap z = z := wrap_in (by omega) (by omega)
        have hz9 : z.tmod 9 = z % 9 := Int.tmod_eq_emod_of_nonneg zz0
        have hk4 : (k : Int) * 4 + 2 ≤ 10000 := by omega
        clear hOr hXr hRr hmr hfz hzc
        go_wp2_with fail
        go_region
        clear hz9 hzr
        go_wp2_with fail
        go_roundw
        case rel => exact ⟨k + 1, by omega, by go_num, by rw [HN.out]; exact hE.out, hX2.out, hR3.out, hM3.out⟩
        case measure => simp [intOf]; omega
      · have hke : k = min bs.length zs.length := by omega
        have hlt2' : ¬ ((k : Int) < (zs.length : Int)) := by omega
        have x1 := hXr.cell (j := 1) rfl
        have x2 := hXr.cell (j := 2) rfl
        have x3 := hXr.cell (j := 3) rfl
        have r0 := hRr.cell (j := 0) rfl
        have r1 := hRr.cell (j := 1) rfl
        have r2 := hRr.cell (j := 2) rfl
        have r3 := hRr.cell (j := 3) rfl
        have f0 := hRr.frozen 0
        have f1 := hRr.frozen 1
        have f2 := hRr.frozen 2
        have f3 := hRr.frozen 3
        have HE : Hid (wornN bs zs k = wornN bs zs (min bs.length zs.length)) := by show _ = _; rw [hke]
        have HO := hide (((hOr.whole bs.length cap (worn_len bs zs k).symm hcap).put4 (b := w.heap.size + 1) (by omega) (.slice (some ⟨g, 0, none⟩) bs.length cap) (.bool br) (.bool off) (.int .i64 ops)).blocks (by rw [worn_len]; unfold maxLen; omega))
        clear hke hOr
        go_wp2_with fail
        refine bodyPost_ret (ret_chip1 rfl _ _ rfl (hRr.put4 _ _ _ _)) rfl ⟨⟨_, rfl, ?_⟩, hmr.put4 (by omega) _ _ _ _⟩
        rw [← HE.out]
        exact HO.out.mono fun x hx _ => by omega
    · have hke : k = min bs.length zs.length := by omega
      have hlt2' : ¬ ((k : Int) < (bs.length : Int)) := by omega
      have x1 := hXr.cell (j := 1) rfl
      have x2 := hXr.cell (j := 2) rfl
      have x3 := hXr.cell (j := 3) rfl
      have r0 := hRr.cell (j := 0) rfl
      have r1 := hRr.cell (j := 1) rfl
      have r2 := hRr.cell (j := 2) rfl
      have r3 := hRr.cell (j := 3) rfl
      have f0 := hRr.frozen 0
      have f1 := hRr.frozen 1
      have f2 := hRr.frozen 2
      have f3 := hRr.frozen 3
      have HE : Hid (wornN bs zs k = wornN bs zs (min bs.length zs.length)) := by show _ = _; rw [hke]
      have HO := hide (((hOr.whole bs.length cap (worn_len bs zs k).symm hcap).put4 (b := w.heap.size + 1) (by omega) (.slice (some ⟨g, 0, none⟩) bs.length cap) (.bool br) (.bool off) (.int .i64 ops)).blocks (by rw [worn_len]; unfold maxLen; omega))
      clear hke hOr
      go_wp2_with fail
      refine bodyPost_ret (ret_chip1 rfl _ _ rfl (hRr.put4 _ _ _ _)) rfl ⟨⟨_, rfl, ?_⟩, hmr.put4 (by omega) _ _ _ _⟩
      rw [← HE.out]
      exact HO.out.mono fun x hx _ => by omega
end Go.Proofs.Ytegamnaahipedaa.Victim
