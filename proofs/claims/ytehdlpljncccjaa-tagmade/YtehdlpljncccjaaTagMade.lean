/-
  The walk of TagMade.
-/
import Derived.Test.YtehdlpljncccjaaTagLaws2
namespace Go.Proofs.Ytehdlpljncccjaa.Tag
open Go.RowKit Go.Proofs.Ytehdlpljncccjaa.Pack Go.Proofs.Ytehdlpljncccjaa.Crc

theorem u8_wf' {n : Int} (h : (Lit.int .u8 n).wf = true) : ∃ i : Nat, n = (i : Int) ∧ i ≤ 255 := by
  simp [Lit.wf, IntKind.min, IntKind.max, IntKind.signed, IntKind.bits] at h
  exact ⟨n.toNat, by omega, by omega⟩
theorem ints_set {k : IntKind} {w : World} {v : Value} {zs : List Int} (h : Ints k w v zs) {p : Addr} (hp : v.ownBlock ≠ some p.block) (x : Value) : Ints k (w.setCell p x) v zs := by
  refine ⟨h.1, ?_⟩
  rcases h.2 with h | ⟨b, off, cap, hv, h0, hc⟩
  · exact .inl h
  · refine .inr ⟨b, off, cap, hv, h0, fun j hj => ?_⟩
    have hb : b ≠ p.block := fun e => hp (by rw [hv, ← e]; rfl)
    have e := World.cell?_of_block (w := w) (w' := w.setCell p x) (a := ⟨b, off + j, none⟩) (Below.heap_setCell w p x b hb)
    rw [e]
    exact hc j hj
theorem ints_cut {k : IntKind} {w : World} {oa : Option Addr} {n cap : Nat} {zs : List Int} (h : Ints k w (.slice oa n cap) zs) (m : Nat) (hm : m ≤ zs.length) : Ints k w (.slice oa m cap) (zs.take m) := by
  have hl : (zs.take m).length = m := by rw [List.length_take]; omega
  refine ⟨by rw [hl]; have := h.1; omega, ?_⟩
  by_cases h0 : m = 0
  · subst h0; exact .inl ⟨by simp, _, _, rfl⟩
  · obtain ⟨b, off, rfl, hc⟩ := h.at (by omega)
    refine .inr ⟨b, off, cap, by rw [hl], by omega, fun j hj => ?_⟩
    rw [hl] at hj
    rw [hc j (by omega)]
    simp [List.getElem?_take_of_lt hj]
theorem mkKeys_le (z : List Int) : (mkKeys z).length ≤ 8 := (right_parts (made_right z)).2.1.2.1
theorem mkVals_le (z : List Int) : (mkVals z).length ≤ 8 := (right_parts (made_right z)).2.2.2.1

set_option maxHeartbeats 2000000 in
set_option maxRecDepth 100000 in
theorem tagMade_walk (a0 : Option Addr) (len0 cap0 : Nat) (z0 : List Int) (a1 : ByteArray) (a2 a3 : Int) (w : World) (w0 : IsRow .u16 w a0 len0 cap0 z0) (_w1 : a1.size ≤ maxLen) (w2 : (Lit.int .u8 a2).wf = true) (_w3 : (Lit.int .i64 a3).wf = true) :
    Calls Try.prog 4 #[.slice a0 len0 cap0, .string a1, .int .u8 a2, .int .i64 a3] w fun e w' => e = .returned (.bool true) ∧ Mem w w' := by
  obtain ⟨hz, hw⟩ := Ints.of_row w0
  have hb : ∀ x ∈ z0.take len0, 0 ≤ x ∧ x ≤ 65535 := fun x hx => u16_wf (hw x hx)
  clear w0 hw
  generalize z0.take len0 = z at *
  obtain ⟨i, rfl, hi⟩ := u8_wf' w2
  clear w2
  obtain ⟨oz, cz, hoz⟩ := hz.shape
  rw [hoz] at hz ⊢
  clear hoz
  go_enter Try.func4, Try.ntmps4
  go_wp2_with fail
  refine (lawMade _ z _ hz hb).mono ?_
  rintro e w1 ⟨⟨vk, vv, rfl, hT⟩, m1⟩
  obtain ⟨ok, ck, rfl⟩ := owns_shape hT.1
  obtain ⟨ov, cv, rfl⟩ := owns_shape hT.2.1
  have hkl := mkKeys_le z
  have hkp := mkKeys_pos z
  have hvl := mkVals_le z
  generalize mkK z = k at *
  generalize mkS z = s at *
  generalize mkKeys z = ks at *
  generalize mkVals z = vs at *
  have ha : Mem w1 (w1.alloc (.cells #[.int .i64 k, .int .i64 s, .slice ok ks.length ck, .slice ov vs.length cv] 24)) := (Mem.refl w1).alloc _
  have hA := Blk.new w1 #[.int .i64 k, .int .i64 s, .slice ok ks.length ck, .slice ov vs.length cv] 24
  have hs1 : w.heap.size ≤ w1.heap.size := m1.size
  have hs4 : w.heap.size + 4 ≤ w1.heap.size := by
    rcases hT.1.2 with ⟨_, h0⟩ | ⟨g, cap, cur, e, hg, hh, _⟩
    · omega
    · have := (Array.getElem?_eq_some_iff.1 hh).1
      omega
  by_cases hd : 20 < a1.size
  · have hd' : (20 : Int) < (a1.size : Int) := by omega
    go_wp2_with fail
    generalize a1.extract 0 20 = D at *
    clear hd hd'
    refine (lawSame k s _ _ ks vs D _ (hT.ints.1.mem ha) (hT.ints.2.mem ha)).mono ?_
    rintro e w2 ⟨rfl, m2⟩
    have n2 := ha.trans m2
    have hT2 := hT.mem n2
    have hA2 := hA.mem m2
    have hm2 := m1.trans n2
    have hlk : Value.ownBlock (.slice ok ks.length ck) ≠ some w1.heap.size := fun e => by have := (hT.1.lt _ e).2; omega
    have hlv : Value.ownBlock (.slice ov vs.length cv) ≠ some w1.heap.size := fun e => by have := (hT.2.1.lt _ e).2; omega
    have hR2 := hA2.lt
    clear hT hA ha m2 m1
    have c0 := hA2.cell (j := 0) rfl
    have c1 := hA2.cell (j := 1) rfl
    have c2 := hA2.cell (j := 2) rfl
    have c3 := hA2.cell (j := 3) rfl
    have f0 := hA2.frozen 0
    have f1 := hA2.frozen 1
    have f2 := hA2.frozen 2
    have f3 := hA2.frozen 3
    have hR1 : w.heap.size ≤ w1.heap.size := hs1
    have hsz4 : w.heap.size + 4 ≤ w2.heap.size := Nat.le_trans hs4 n2.size
    have h5 : i % 5 = 0 ∨ i % 5 = 1 ∨ i % 5 = 2 ∨ i % 5 = 3 ∨ i % 5 = 4 := by omega
    rcases h5 with h5 | h5 | h5 | h5 | h5
    · have hc : (i : Int) % 5 = 0 := by omega
      clear h5
      go_wp2_with fail
      have hB := hA2.set 0 (.int .i64 a3)
      have hik : Ints .i64 (w2.setCell ⟨w1.heap.size, 0, none⟩ (.int .i64 a3)) (.slice ok ks.length ck) ks := ints_set hT2.ints.1 (p := ⟨w1.heap.size, 0, none⟩) hlk _
      have hiv : Ints .i64 (w2.setCell ⟨w1.heap.size, 0, none⟩ (.int .i64 a3)) (.slice ov vs.length cv) vs := ints_set hT2.ints.2 (p := ⟨w1.heap.size, 0, none⟩) hlv _
      have hmw : Mem w (w2.setCell ⟨w1.heap.size, 0, none⟩ (.int .i64 a3)) := Mem.setCell hm2 (p := ⟨w1.heap.size, 0, none⟩) hR1 _
      clear c0 c1 c2 c3 f0 f1 f2 f3
      generalize (w2.setCell ⟨w1.heap.size, 0, none⟩ (.int .i64 a3)) = W3 at *
      refine (awake _).mono ?_
      rintro e w4 ⟨rfl, m4⟩
      have hB4 : Blk w4 w1.heap.size 24 #[.int .i64 a3, .int .i64 s, (.slice ok ks.length ck), (.slice ov vs.length cv)] := Blk.mem hB m4
      have c0 := hB4.cell (j := 0) rfl
      have c1 := hB4.cell (j := 1) rfl
      have c2 := hB4.cell (j := 2) rfl
      have c3 := hB4.cell (j := 3) rfl
      go_wp2_with fail
      refine (lawSame a3 s _ _ ks vs D _ (hik.mem m4) (hiv.mem m4)).mono ?_
      rintro e w5 ⟨rfl, m5⟩
      go_wp2_with fail
      go_ret
      exact ⟨rfl, hmw.trans (m4.trans m5)⟩
    · have hc : (i : Int) % 5 = 1 := by omega
      clear h5
      go_wp2_with fail
      have hB := hA2.set 1 (.int .i64 a3)
      have hik : Ints .i64 (w2.setCell ⟨w1.heap.size, 1, none⟩ (.int .i64 a3)) (.slice ok ks.length ck) ks := ints_set hT2.ints.1 (p := ⟨w1.heap.size, 1, none⟩) hlk _
      have hiv : Ints .i64 (w2.setCell ⟨w1.heap.size, 1, none⟩ (.int .i64 a3)) (.slice ov vs.length cv) vs := ints_set hT2.ints.2 (p := ⟨w1.heap.size, 1, none⟩) hlv _
      have hmw : Mem w (w2.setCell ⟨w1.heap.size, 1, none⟩ (.int .i64 a3)) := Mem.setCell hm2 (p := ⟨w1.heap.size, 1, none⟩) hR1 _
      clear c0 c1 c2 c3 f0 f1 f2 f3
      generalize (w2.setCell ⟨w1.heap.size, 1, none⟩ (.int .i64 a3)) = W3 at *
      refine (awake _).mono ?_
      rintro e w4 ⟨rfl, m4⟩
      have hB4 : Blk w4 w1.heap.size 24 #[.int .i64 k, .int .i64 a3, (.slice ok ks.length ck), (.slice ov vs.length cv)] := Blk.mem hB m4
      have c0 := hB4.cell (j := 0) rfl
      have c1 := hB4.cell (j := 1) rfl
      have c2 := hB4.cell (j := 2) rfl
      have c3 := hB4.cell (j := 3) rfl
      go_wp2_with fail
      refine (lawSame k a3 _ _ ks vs D _ (hik.mem m4) (hiv.mem m4)).mono ?_
      rintro e w5 ⟨rfl, m5⟩
      go_wp2_with fail
      go_ret
      exact ⟨rfl, hmw.trans (m4.trans m5)⟩
    · have hc : (i : Int) % 5 = 2 := by omega
      clear h5
      have hown := hT2.1
      have hsz := hsz4
      go_wp2_with (first | (at_builtin; refine pushA rfl _ _ rfl (w.heap.size + 4) _ ks ks.length rfl hown hsz a3 rfl (by omega) ?_) | fail)
      intro v' w' h1 h2 h3
      obtain ⟨o', c', rfl⟩ := owns_shape h1
      have hT3 := hT2.push h1 h2 h3
      have hBk : Blk w' w1.heap.size 24 #[.int .i64 k, .int .i64 s, .slice ok ks.length ck, .slice ov vs.length cv] := by
        have e := h2.block w1.heap.size hR2 (Ne.symm hlk)
        unfold Blk
        rw [e]
        exact hA2
      have hne' : Value.ownBlock (.slice o' (ks.length + 1) c') ≠ some w1.heap.size := by
        rcases h3 with h3 | ⟨g, h3, hg⟩
        · rw [h3]; exact hlk
        · rw [h3]; intro e; injection e with e; omega
      have hmw' : Mem w w' := Below.trans hm2 (Below.mono (grown_below hown h2 hsz) (by omega))
      clear c0 c1 c2 c3 f0 f1 f2 f3
      have c0 := hBk.cell (j := 0) rfl
      have c1 := hBk.cell (j := 1) rfl
      have c2 := hBk.cell (j := 2) rfl
      have c3 := hBk.cell (j := 3) rfl
      have f0 := hBk.frozen 0
      have f1 := hBk.frozen 1
      have f2 := hBk.frozen 2
      have f3 := hBk.frozen 3
      clear hown hsz hT2 hA2
      go_wp2_with fail
      have hB := hBk.set 2 (.slice o' (ks.length + 1) c')
      have hik : Ints .i64 (w'.setCell ⟨w1.heap.size, 2, none⟩ (.slice o' (ks.length + 1) c')) (.slice o' (ks.length + 1) c') (ks ++ [a3]) := ints_set hT3.ints.1 (p := ⟨w1.heap.size, 2, none⟩) hne' _
      have hiv : Ints .i64 (w'.setCell ⟨w1.heap.size, 2, none⟩ (.slice o' (ks.length + 1) c')) (.slice ov vs.length cv) vs := ints_set hT3.ints.2 (p := ⟨w1.heap.size, 2, none⟩) hlv _
      have hmw : Mem w (w'.setCell ⟨w1.heap.size, 2, none⟩ (.slice o' (ks.length + 1) c')) := Mem.setCell hmw' (p := ⟨w1.heap.size, 2, none⟩) hR1 _
      clear c0 c1 c2 c3 f0 f1 f2 f3
      generalize (w'.setCell ⟨w1.heap.size, 2, none⟩ (.slice o' (ks.length + 1) c')) = W3 at *
      refine (awake _).mono ?_
      rintro e w4 ⟨rfl, m4⟩
      have hB4 : Blk w4 w1.heap.size 24 #[.int .i64 k, .int .i64 s, (.slice o' (ks.length + 1) c'), (.slice ov vs.length cv)] := Blk.mem hB m4
      have c0 := hB4.cell (j := 0) rfl
      have c1 := hB4.cell (j := 1) rfl
      have c2 := hB4.cell (j := 2) rfl
      have c3 := hB4.cell (j := 3) rfl
      go_wp2_with fail
      refine (lawSame k s _ _ (ks ++ [a3]) vs D _ (hik.mem m4) (hiv.mem m4)).mono ?_
      rintro e w5 ⟨rfl, m5⟩
      go_wp2_with fail
      go_ret
      exact ⟨rfl, hmw.trans (m4.trans m5)⟩
    · have hc : (i : Int) % 5 = 3 := by omega
      clear h5
      have hown := hT2.2.1
      have hsz := hsz4
      go_wp2_with (first | (at_builtin; refine pushA rfl _ _ rfl (w.heap.size + 4) _ vs vs.length rfl hown hsz a3 rfl (by omega) ?_) | fail)
      intro v' w' h1 h2 h3
      obtain ⟨o', c', rfl⟩ := owns_shape h1
      have hT3 := (hT2.symm.push h1 h2 h3).symm
      have hBk : Blk w' w1.heap.size 24 #[.int .i64 k, .int .i64 s, .slice ok ks.length ck, .slice ov vs.length cv] := by
        have e := h2.block w1.heap.size hR2 (Ne.symm hlv)
        unfold Blk
        rw [e]
        exact hA2
      have hne' : Value.ownBlock (.slice o' (vs.length + 1) c') ≠ some w1.heap.size := by
        rcases h3 with h3 | ⟨g, h3, hg⟩
        · rw [h3]; exact hlv
        · rw [h3]; intro e; injection e with e; omega
      have hmw' : Mem w w' := Below.trans hm2 (Below.mono (grown_below hown h2 hsz) (by omega))
      clear c0 c1 c2 c3 f0 f1 f2 f3
      have c0 := hBk.cell (j := 0) rfl
      have c1 := hBk.cell (j := 1) rfl
      have c2 := hBk.cell (j := 2) rfl
      have c3 := hBk.cell (j := 3) rfl
      have f0 := hBk.frozen 0
      have f1 := hBk.frozen 1
      have f2 := hBk.frozen 2
      have f3 := hBk.frozen 3
      clear hown hsz hT2 hA2
      go_wp2_with fail
      have hB := hBk.set 3 (.slice o' (vs.length + 1) c')
      have hik : Ints .i64 (w'.setCell ⟨w1.heap.size, 3, none⟩ (.slice o' (vs.length + 1) c')) (.slice ok ks.length ck) ks := ints_set hT3.ints.1 (p := ⟨w1.heap.size, 3, none⟩) hlk _
      have hiv : Ints .i64 (w'.setCell ⟨w1.heap.size, 3, none⟩ (.slice o' (vs.length + 1) c')) (.slice o' (vs.length + 1) c') (vs ++ [a3]) := ints_set hT3.ints.2 (p := ⟨w1.heap.size, 3, none⟩) hne' _
      have hmw : Mem w (w'.setCell ⟨w1.heap.size, 3, none⟩ (.slice o' (vs.length + 1) c')) := Mem.setCell hmw' (p := ⟨w1.heap.size, 3, none⟩) hR1 _
      clear c0 c1 c2 c3 f0 f1 f2 f3
      generalize (w'.setCell ⟨w1.heap.size, 3, none⟩ (.slice o' (vs.length + 1) c')) = W3 at *
      refine (awake _).mono ?_
      rintro e w4 ⟨rfl, m4⟩
      have hB4 : Blk w4 w1.heap.size 24 #[.int .i64 k, .int .i64 s, (.slice ok ks.length ck), (.slice o' (vs.length + 1) c')] := Blk.mem hB m4
      have c0 := hB4.cell (j := 0) rfl
      have c1 := hB4.cell (j := 1) rfl
      have c2 := hB4.cell (j := 2) rfl
      have c3 := hB4.cell (j := 3) rfl
      go_wp2_with fail
      refine (lawSame k s _ _ ks (vs ++ [a3]) D _ (hik.mem m4) (hiv.mem m4)).mono ?_
      rintro e w5 ⟨rfl, m5⟩
      go_wp2_with fail
      go_ret
      exact ⟨rfl, hmw.trans (m4.trans m5)⟩
    · have hc : (i : Int) % 5 = 4 := by omega
      clear h5
      obtain ⟨kb, ko, rfl, _⟩ := hT2.ints.1.at (by omega)
      have hkp' : (1 : Int) ≤ (ks.length : Int) := by omega
      have hkl' : (ks.length : Int) ≤ 8 := by omega
      have hcap : ks.length ≤ ck := by
        rcases hT2.1.2 with ⟨e, _⟩ | ⟨g, cap, cur, e, _, _, hlc, _⟩
        · cases e
        · injection e with _ _ e; rw [e]; exact hlc
      have hcap' : (ks.length : Int) ≤ (ck : Int) := by omega
      go_wp2_with fail
      have hB := hA2.set 2 (.slice (some ⟨kb, ko, none⟩) (ks.length - 1) ck)
      have hik : Ints .i64 (w2.setCell ⟨w1.heap.size, 2, none⟩ (.slice (some ⟨kb, ko, none⟩) (ks.length - 1) ck)) (.slice (some ⟨kb, ko, none⟩) (ks.length - 1) ck) (ks.take (ks.length - 1)) := ints_set (ints_cut hT2.ints.1 (ks.length - 1) (by omega)) (p := ⟨w1.heap.size, 2, none⟩) hlk _
      have hiv : Ints .i64 (w2.setCell ⟨w1.heap.size, 2, none⟩ (.slice (some ⟨kb, ko, none⟩) (ks.length - 1) ck)) (.slice ov vs.length cv) vs := ints_set hT2.ints.2 (p := ⟨w1.heap.size, 2, none⟩) hlv _
      have hmw : Mem w (w2.setCell ⟨w1.heap.size, 2, none⟩ (.slice (some ⟨kb, ko, none⟩) (ks.length - 1) ck)) := Mem.setCell hm2 (p := ⟨w1.heap.size, 2, none⟩) hR1 _
      clear c0 c1 c2 c3 f0 f1 f2 f3
      generalize (w2.setCell ⟨w1.heap.size, 2, none⟩ (.slice (some ⟨kb, ko, none⟩) (ks.length - 1) ck)) = W3 at *
      refine (awake _).mono ?_
      rintro e w4 ⟨rfl, m4⟩
      have hB4 : Blk w4 w1.heap.size 24 #[.int .i64 k, .int .i64 s, (.slice (some ⟨kb, ko, none⟩) (ks.length - 1) ck), (.slice ov vs.length cv)] := Blk.mem hB m4
      have c0 := hB4.cell (j := 0) rfl
      have c1 := hB4.cell (j := 1) rfl
      have c2 := hB4.cell (j := 2) rfl
      have c3 := hB4.cell (j := 3) rfl
      go_wp2_with fail
      refine (lawSame k s _ _ (ks.take (ks.length - 1)) vs D _ (hik.mem m4) (hiv.mem m4)).mono ?_
      rintro e w5 ⟨rfl, m5⟩
      go_wp2_with fail
      go_ret
      exact ⟨rfl, hmw.trans (m4.trans m5)⟩
  · have hd' : (a1.size : Int) ≤ 20 := by omega
    go_wp2_with fail
    generalize a1 = D at *
    clear hd hd'
    refine (lawSame k s _ _ ks vs D _ (hT.ints.1.mem ha) (hT.ints.2.mem ha)).mono ?_
    rintro e w2 ⟨rfl, m2⟩
    have n2 := ha.trans m2
    have hT2 := hT.mem n2
    have hA2 := hA.mem m2
    have hm2 := m1.trans n2
    have hlk : Value.ownBlock (.slice ok ks.length ck) ≠ some w1.heap.size := fun e => by have := (hT.1.lt _ e).2; omega
    have hlv : Value.ownBlock (.slice ov vs.length cv) ≠ some w1.heap.size := fun e => by have := (hT.2.1.lt _ e).2; omega
    have hR2 := hA2.lt
    clear hT hA ha m2 m1
    have c0 := hA2.cell (j := 0) rfl
    have c1 := hA2.cell (j := 1) rfl
    have c2 := hA2.cell (j := 2) rfl
    have c3 := hA2.cell (j := 3) rfl
    have f0 := hA2.frozen 0
    have f1 := hA2.frozen 1
    have f2 := hA2.frozen 2
    have f3 := hA2.frozen 3
    have hR1 : w.heap.size ≤ w1.heap.size := hs1
    have hsz4 : w.heap.size + 4 ≤ w2.heap.size := Nat.le_trans hs4 n2.size
    have h5 : i % 5 = 0 ∨ i % 5 = 1 ∨ i % 5 = 2 ∨ i % 5 = 3 ∨ i % 5 = 4 := by omega
    rcases h5 with h5 | h5 | h5 | h5 | h5
    · have hc : (i : Int) % 5 = 0 := by omega
      clear h5
      go_wp2_with fail
      have hB := hA2.set 0 (.int .i64 a3)
      have hik : Ints .i64 (w2.setCell ⟨w1.heap.size, 0, none⟩ (.int .i64 a3)) (.slice ok ks.length ck) ks := ints_set hT2.ints.1 (p := ⟨w1.heap.size, 0, none⟩) hlk _
      have hiv : Ints .i64 (w2.setCell ⟨w1.heap.size, 0, none⟩ (.int .i64 a3)) (.slice ov vs.length cv) vs := ints_set hT2.ints.2 (p := ⟨w1.heap.size, 0, none⟩) hlv _
      have hmw : Mem w (w2.setCell ⟨w1.heap.size, 0, none⟩ (.int .i64 a3)) := Mem.setCell hm2 (p := ⟨w1.heap.size, 0, none⟩) hR1 _
      clear c0 c1 c2 c3 f0 f1 f2 f3
      generalize (w2.setCell ⟨w1.heap.size, 0, none⟩ (.int .i64 a3)) = W3 at *
      refine (awake _).mono ?_
      rintro e w4 ⟨rfl, m4⟩
      have hB4 : Blk w4 w1.heap.size 24 #[.int .i64 a3, .int .i64 s, (.slice ok ks.length ck), (.slice ov vs.length cv)] := Blk.mem hB m4
      have c0 := hB4.cell (j := 0) rfl
      have c1 := hB4.cell (j := 1) rfl
      have c2 := hB4.cell (j := 2) rfl
      have c3 := hB4.cell (j := 3) rfl
      go_wp2_with fail
      refine (lawSame a3 s _ _ ks vs D _ (hik.mem m4) (hiv.mem m4)).mono ?_
      rintro e w5 ⟨rfl, m5⟩
      go_wp2_with fail
      go_ret
      exact ⟨rfl, hmw.trans (m4.trans m5)⟩
    · have hc : (i : Int) % 5 = 1 := by omega
      clear h5
      go_wp2_with fail
      have hB := hA2.set 1 (.int .i64 a3)
      have hik : Ints .i64 (w2.setCell ⟨w1.heap.size, 1, none⟩ (.int .i64 a3)) (.slice ok ks.length ck) ks := ints_set hT2.ints.1 (p := ⟨w1.heap.size, 1, none⟩) hlk _
      have hiv : Ints .i64 (w2.setCell ⟨w1.heap.size, 1, none⟩ (.int .i64 a3)) (.slice ov vs.length cv) vs := ints_set hT2.ints.2 (p := ⟨w1.heap.size, 1, none⟩) hlv _
      have hmw : Mem w (w2.setCell ⟨w1.heap.size, 1, none⟩ (.int .i64 a3)) := Mem.setCell hm2 (p := ⟨w1.heap.size, 1, none⟩) hR1 _
      clear c0 c1 c2 c3 f0 f1 f2 f3
      generalize (w2.setCell ⟨w1.heap.size, 1, none⟩ (.int .i64 a3)) = W3 at *
      refine (awake _).mono ?_
      rintro e w4 ⟨rfl, m4⟩
      have hB4 : Blk w4 w1.heap.size 24 #[.int .i64 k, .int .i64 a3, (.slice ok ks.length ck), (.slice ov vs.length cv)] := Blk.mem hB m4
      have c0 := hB4.cell (j := 0) rfl
      have c1 := hB4.cell (j := 1) rfl
      have c2 := hB4.cell (j := 2) rfl
      have c3 := hB4.cell (j := 3) rfl
      go_wp2_with fail
      refine (lawSame k a3 _ _ ks vs D _ (hik.mem m4) (hiv.mem m4)).mono ?_
      rintro e w5 ⟨rfl, m5⟩
      go_wp2_with fail
      go_ret
      exact ⟨rfl, hmw.trans (m4.trans m5)⟩
    · have hc : (i : Int) % 5 = 2 := by omega
      clear h5
      have hown := hT2.1
      have hsz := hsz4
      go_wp2_with (first | (at_builtin; refine pushA rfl _ _ rfl (w.heap.size + 4) _ ks ks.length rfl hown hsz a3 rfl (by omega) ?_) | fail)
      intro v' w' h1 h2 h3
      obtain ⟨o', c', rfl⟩ := owns_shape h1
      have hT3 := hT2.push h1 h2 h3
      have hBk : Blk w' w1.heap.size 24 #[.int .i64 k, .int .i64 s, .slice ok ks.length ck, .slice ov vs.length cv] := by
        have e := h2.block w1.heap.size hR2 (Ne.symm hlk)
        unfold Blk
        rw [e]
        exact hA2
      have hne' : Value.ownBlock (.slice o' (ks.length + 1) c') ≠ some w1.heap.size := by
        rcases h3 with h3 | ⟨g, h3, hg⟩
        · rw [h3]; exact hlk
        · rw [h3]; intro e; injection e with e; omega
      have hmw' : Mem w w' := Below.trans hm2 (Below.mono (grown_below hown h2 hsz) (by omega))
      clear c0 c1 c2 c3 f0 f1 f2 f3
      have c0 := hBk.cell (j := 0) rfl
      have c1 := hBk.cell (j := 1) rfl
      have c2 := hBk.cell (j := 2) rfl
      have c3 := hBk.cell (j := 3) rfl
      have f0 := hBk.frozen 0
      have f1 := hBk.frozen 1
      have f2 := hBk.frozen 2
      have f3 := hBk.frozen 3
      clear hown hsz hT2 hA2
      go_wp2_with fail
      have hB := hBk.set 2 (.slice o' (ks.length + 1) c')
      have hik : Ints .i64 (w'.setCell ⟨w1.heap.size, 2, none⟩ (.slice o' (ks.length + 1) c')) (.slice o' (ks.length + 1) c') (ks ++ [a3]) := ints_set hT3.ints.1 (p := ⟨w1.heap.size, 2, none⟩) hne' _
      have hiv : Ints .i64 (w'.setCell ⟨w1.heap.size, 2, none⟩ (.slice o' (ks.length + 1) c')) (.slice ov vs.length cv) vs := ints_set hT3.ints.2 (p := ⟨w1.heap.size, 2, none⟩) hlv _
      have hmw : Mem w (w'.setCell ⟨w1.heap.size, 2, none⟩ (.slice o' (ks.length + 1) c')) := Mem.setCell hmw' (p := ⟨w1.heap.size, 2, none⟩) hR1 _
      clear c0 c1 c2 c3 f0 f1 f2 f3
      generalize (w'.setCell ⟨w1.heap.size, 2, none⟩ (.slice o' (ks.length + 1) c')) = W3 at *
      refine (awake _).mono ?_
      rintro e w4 ⟨rfl, m4⟩
      have hB4 : Blk w4 w1.heap.size 24 #[.int .i64 k, .int .i64 s, (.slice o' (ks.length + 1) c'), (.slice ov vs.length cv)] := Blk.mem hB m4
      have c0 := hB4.cell (j := 0) rfl
      have c1 := hB4.cell (j := 1) rfl
      have c2 := hB4.cell (j := 2) rfl
      have c3 := hB4.cell (j := 3) rfl
      go_wp2_with fail
      refine (lawSame k s _ _ (ks ++ [a3]) vs D _ (hik.mem m4) (hiv.mem m4)).mono ?_
      rintro e w5 ⟨rfl, m5⟩
      go_wp2_with fail
      go_ret
      exact ⟨rfl, hmw.trans (m4.trans m5)⟩
    · have hc : (i : Int) % 5 = 3 := by omega
      clear h5
      have hown := hT2.2.1
      have hsz := hsz4
      go_wp2_with (first | (at_builtin; refine pushA rfl _ _ rfl (w.heap.size + 4) _ vs vs.length rfl hown hsz a3 rfl (by omega) ?_) | fail)
      intro v' w' h1 h2 h3
      obtain ⟨o', c', rfl⟩ := owns_shape h1
      have hT3 := (hT2.symm.push h1 h2 h3).symm
      have hBk : Blk w' w1.heap.size 24 #[.int .i64 k, .int .i64 s, .slice ok ks.length ck, .slice ov vs.length cv] := by
        have e := h2.block w1.heap.size hR2 (Ne.symm hlv)
        unfold Blk
        rw [e]
        exact hA2
      have hne' : Value.ownBlock (.slice o' (vs.length + 1) c') ≠ some w1.heap.size := by
        rcases h3 with h3 | ⟨g, h3, hg⟩
        · rw [h3]; exact hlv
        · rw [h3]; intro e; injection e with e; omega
      have hmw' : Mem w w' := Below.trans hm2 (Below.mono (grown_below hown h2 hsz) (by omega))
      clear c0 c1 c2 c3 f0 f1 f2 f3
      have c0 := hBk.cell (j := 0) rfl
      have c1 := hBk.cell (j := 1) rfl
      have c2 := hBk.cell (j := 2) rfl
      have c3 := hBk.cell (j := 3) rfl
      have f0 := hBk.frozen 0
      have f1 := hBk.frozen 1
      have f2 := hBk.frozen 2
      have f3 := hBk.frozen 3
      clear hown hsz hT2 hA2
      go_wp2_with fail
      have hB := hBk.set 3 (.slice o' (vs.length + 1) c')
      have hik : Ints .i64 (w'.setCell ⟨w1.heap.size, 3, none⟩ (.slice o' (vs.length + 1) c')) (.slice ok ks.length ck) ks := ints_set hT3.ints.1 (p := ⟨w1.heap.size, 3, none⟩) hlk _
      have hiv : Ints .i64 (w'.setCell ⟨w1.heap.size, 3, none⟩ (.slice o' (vs.length + 1) c')) (.slice o' (vs.length + 1) c') (vs ++ [a3]) := ints_set hT3.ints.2 (p := ⟨w1.heap.size, 3, none⟩) hne' _
      have hmw : Mem w (w'.setCell ⟨w1.heap.size, 3, none⟩ (.slice o' (vs.length + 1) c')) := Mem.setCell hmw' (p := ⟨w1.heap.size, 3, none⟩) hR1 _
      clear c0 c1 c2 c3 f0 f1 f2 f3
      generalize (w'.setCell ⟨w1.heap.size, 3, none⟩ (.slice o' (vs.length + 1) c')) = W3 at *
      refine (awake _).mono ?_
      rintro e w4 ⟨rfl, m4⟩
      have hB4 : Blk w4 w1.heap.size 24 #[.int .i64 k, .int .i64 s, (.slice ok ks.length ck), (.slice o' (vs.length + 1) c')] := Blk.mem hB m4
      have c0 := hB4.cell (j := 0) rfl
      have c1 := hB4.cell (j := 1) rfl
      have c2 := hB4.cell (j := 2) rfl
      have c3 := hB4.cell (j := 3) rfl
      go_wp2_with fail
      refine (lawSame k s _ _ ks (vs ++ [a3]) D _ (hik.mem m4) (hiv.mem m4)).mono ?_
      rintro e w5 ⟨rfl, m5⟩
      go_wp2_with fail
      go_ret
      exact ⟨rfl, hmw.trans (m4.trans m5)⟩
    · have hc : (i : Int) % 5 = 4 := by omega
      clear h5
      obtain ⟨kb, ko, rfl, _⟩ := hT2.ints.1.at (by omega)
      have hkp' : (1 : Int) ≤ (ks.length : Int) := by omega
      have hkl' : (ks.length : Int) ≤ 8 := by omega
      have hcap : ks.length ≤ ck := by
        rcases hT2.1.2 with ⟨e, _⟩ | ⟨g, cap, cur, e, _, _, hlc, _⟩
        · cases e
        · injection e with _ _ e; rw [e]; exact hlc
      have hcap' : (ks.length : Int) ≤ (ck : Int) := by omega
      go_wp2_with fail
      have hB := hA2.set 2 (.slice (some ⟨kb, ko, none⟩) (ks.length - 1) ck)
      have hik : Ints .i64 (w2.setCell ⟨w1.heap.size, 2, none⟩ (.slice (some ⟨kb, ko, none⟩) (ks.length - 1) ck)) (.slice (some ⟨kb, ko, none⟩) (ks.length - 1) ck) (ks.take (ks.length - 1)) := ints_set (ints_cut hT2.ints.1 (ks.length - 1) (by omega)) (p := ⟨w1.heap.size, 2, none⟩) hlk _
      have hiv : Ints .i64 (w2.setCell ⟨w1.heap.size, 2, none⟩ (.slice (some ⟨kb, ko, none⟩) (ks.length - 1) ck)) (.slice ov vs.length cv) vs := ints_set hT2.ints.2 (p := ⟨w1.heap.size, 2, none⟩) hlv _
      have hmw : Mem w (w2.setCell ⟨w1.heap.size, 2, none⟩ (.slice (some ⟨kb, ko, none⟩) (ks.length - 1) ck)) := Mem.setCell hm2 (p := ⟨w1.heap.size, 2, none⟩) hR1 _
      clear c0 c1 c2 c3 f0 f1 f2 f3
      generalize (w2.setCell ⟨w1.heap.size, 2, none⟩ (.slice (some ⟨kb, ko, none⟩) (ks.length - 1) ck)) = W3 at *
      refine (awake _).mono ?_
      rintro e w4 ⟨rfl, m4⟩
      have hB4 : Blk w4 w1.heap.size 24 #[.int .i64 k, .int .i64 s, (.slice (some ⟨kb, ko, none⟩) (ks.length - 1) ck), (.slice ov vs.length cv)] := Blk.mem hB m4
      have c0 := hB4.cell (j := 0) rfl
      have c1 := hB4.cell (j := 1) rfl
      have c2 := hB4.cell (j := 2) rfl
      have c3 := hB4.cell (j := 3) rfl
      go_wp2_with fail
      refine (lawSame k s _ _ (ks.take (ks.length - 1)) vs D _ (hik.mem m4) (hiv.mem m4)).mono ?_
      rintro e w5 ⟨rfl, m5⟩
      go_wp2_with fail
      go_ret
      exact ⟨rfl, hmw.trans (m4.trans m5)⟩
end Go.Proofs.Ytehdlpljncccjaa.Tag
