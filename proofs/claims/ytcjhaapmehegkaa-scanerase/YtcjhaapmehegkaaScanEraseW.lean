/-
  Layer 6: the walk of ScanErase.
-/
import Derived.Test.YtcjhaapmehegkaaScanMadeW
import Derived.Test.YtcjhaapmehegkaaScanLawMath
namespace Go.Proofs.Ytcjhaapmehegkaa.Scan
open Go.RowKit Go.Proofs.Ytcjhaapmehegkaa.Nand

theorem take_filter {P : FoundT → Bool} {fs : List FoundT} {k : Nat} (h : k < fs.length) : (fs.take (k + 1)).filter P = (fs.take k).filter P ++ [fs[k]].filter P := by
  rw [List.take_succ_eq_append_getElem h, List.filter_append]
theorem allC_places {bs : List BlockT} {f : FoundT} (h : f ∈ allC bs) : ∃ n : Nat, f.1 = (n : Int) ∧ n < 512 := by
  have h1 := (allF_perm (tellC 0 bs)).mem_iff.1 h
  obtain ⟨c, q, h2, _, _, h3, h4⟩ := tellC_mem h1
  exact ⟨c * 16 + q, by rw [h4, place_ok h2 h3]; omega, by omega⟩

set_option maxHeartbeats 4000000 in
set_option maxRecDepth 100000 in
theorem scanErase_walk (a0 : Option Addr) (len0 cap0 : Nat) (z0 : List Int) (a1 : Int) (w : World) (w0 : IsRow .u16 w a0 len0 cap0 z0) (w1 : (Lit.int .u8 a1).wf = true) :
    Calls Try.prog 7 #[.slice a0 len0 cap0, .int .u8 a1] w fun e w' => e = .returned (.bool true) ∧ Mem w w' := by
  obtain ⟨hz, hwf⟩ := Ints.of_row w0
  obtain ⟨hl1, hl2⟩ := row_len w0
  have HZ : Hid (∀ x ∈ z0.take len0, 0 ≤ x ∧ x ≤ 65535) := fun x h => wf_u16 (hwf x h)
  clear hwf w0
  generalize z0.take len0 = z at *
  subst hl1
  have hb1 := wf_u8 w1
  clear w1
  obtain ⟨n1, rfl⟩ := Int.eq_ofNat_of_zero_le hb1.1
  obtain ⟨bn, hbn⟩ : ∃ bn : Nat, (n1 : Int) % 4 = (bn : Int) := ⟨n1 % 4, by omega⟩
  have hb4 : bn < 4 := by omega
  go_enter Try.func7, Try.ntmps7
  go_wp2_with fail
  refine (awake _).mono ?_
  rintro e w1 ⟨rfl, m1⟩
  go_wp2_with fail
  refine (lawMade06 a0 cap0 z 4 5 _ (hz.mem m1) hl2 HZ.out (by decide) (by decide) (by decide) (by decide)).mono ?_
  rintro e w2 ⟨⟨v2, bs, br, off, ops, rfl, hb, hI⟩, m2⟩
  have HF := hide (few_inv hI (by decide) (by decide))
  have HSZ : Hid (Sized bs) := hI.2.2
  have hlen : bs.length = 4 := dims_len hI.1
  have hbi : bn < bs.length := by omega
  have HLen := hide hlen
  clear hz HZ hl2 hlen
  obtain ⟨oc, cc, rfl⟩ := hb.shape
  simp only [chipV]
  have ha : Mem w2 (w2.alloc (.cells #[.slice oc bs.length cc, .bool br, .bool off, .int .i64 ops] 24)) := (Mem.refl w2).alloc _
  have hX := Blk.new w2 #[.slice oc bs.length cc, .bool br, .bool off, .int .i64 ops] 24
  have hm := m1.trans (m2.trans ha)
  replace hb := hb.mem ha
  clear m1 m2 ha
  go_wp2_with fail
  (try rw [hbn])
  generalize hW : w2.alloc (.cells #[.slice oc bs.length cc, .bool br, .bool off, .int .i64 ops] 24) = W2 at *
  generalize w2.heap.size = Bc at *
  clear hW
  refine (eraseSpec_ref _ _ bs br off ops bn (0, ⟨#[]⟩, ⟨#[]⟩, 0) _ hb HF.out).mono ?_
  rintro e w3 ⟨hr, m3⟩
  have HET := hide (fun h => erase_tells (bs := bs) (br := br) (off := off) (ops := ops) (b := bn) hbi h)
  have HI2 := hide (inv_erase (c := (bs, br, off, ops)) hI bn)
  generalize erase (bs, br, off, ops) bn (0, ⟨#[]⟩, ⟨#[]⟩, 0) = q at *
  obtain ⟨⟨bsd, brd, ofd, opd⟩, en⟩ := q
  obtain ⟨v3, rfl, hbd⟩ := hr
  simp only [] at hbd HI2 HET ⊢
  obtain ⟨od, cd, rfl⟩ := hbd.shape
  simp only [chipV]
  have ha : Mem w3 (w3.alloc (.cells #[.slice od bsd.length cd, .bool brd, .bool ofd, .int .i64 opd] 24)) := (Mem.refl w3).alloc _
  have hD := Blk.new w3 #[.slice od bsd.length cd, .bool brd, .bool ofd, .int .i64 opd] 24
  have hX1 := hX.mem (m3.trans ha)
  have hb1 := hb.mem (m3.trans ha)
  have hbd1 := hbd.mem ha
  have hm1 := hm.trans (m3.trans ha)
  have c0 := hX1.cell (j := 0) rfl
  have c1 := hX1.cell (j := 1) rfl
  have c2 := hX1.cell (j := 2) rfl
  have c3 := hX1.cell (j := 3) rfl
  clear hX hb hbd hm m3 ha hI
  by_cases hen : en = 0
  case neg =>
    have hen' : (en != 0) = true := by simp [hen]
    go_wp2_with fail
    go_ret
    exact ⟨rfl, hm1⟩
  subst hen
  have HE := hide (HET.out rfl)
  clear HET
  go_wp2_with fail
  generalize hW : w3.alloc (.cells #[.slice od bsd.length cd, .bool brd, .bool ofd, .int .i64 opd] 24) = W3 at *
  generalize w3.heap.size = Bd at *
  clear hW c0 c1 c2 c3
  refine (codeAll _ _ bs br off ops _ hb1 HF.out HSZ.out).mono ?_
  rintro e w4 ⟨⟨v4, rfl, hfa⟩, m4⟩
  obtain ⟨oA, cA, rfl⟩ := hfa.shape
  have hal : (allC bs).length ≤ 512 := by unfold allC; rw [allF_length]; exact tellC_len512 0 bs
  have HPL := hide (fun (f : FoundT) (h : f ∈ allC bs) => allC_places h)
  have hD1 := hD.mem m4
  have hbd2 := hbd1.mem m4
  have hm2 := hm1.trans m4
  clear hD hbd1 hm1 hX1 hb1
  generalize allC bs = fs at *
  go_wp2_with fail
  clear m4
  go_loopw [10, 12] (fun l i wr => ∃ (k : Nat) (xs : List RowT), k ≤ fs.length ∧ i = .int .i64 k ∧ wr.ownsRow w4.heap.size 53 5 l ((fs.take k).filter (otherB bn)).length (rowCells xs) ∧ FitsL (fun x => x < w4.heap.size) wr xs ((fs.take k).filter (otherB bn)) ∧ Mem w4 wr) (fun _ i _ => fs.length - (intOf i).toNat)
  case atStart => exact ⟨0, [], Nat.zero_le _, rfl, World.ownsRow_nil _ _ _ _, FitsL.nil _ _, Mem.refl _⟩
  case round =>
    obtain ⟨k, xs, hk, rfl, hown, hfx, hmr⟩ := hrel
    by_cases hlt : k < fs.length
    · have hlt' : (k : Int) < (fs.length : Int) := by omega
      have hk0 : (0 : Int) ≤ (k : Int) := by omega
      have HTF := hide (take_filter (P := otherB bn) hlt)
      have hgl : ((fs.take k).filter (otherB bn)).length ≤ 512 := by
        have h1 := List.length_filter_le (otherB bn) (fs.take k)
        rw [List.length_take] at h1
        omega
      have hfa2 := (hfa.mono (S' := fun x => x < w4.heap.size) fun g _ hl => hl).mem hmr
      obtain ⟨gl, fl, ok, ck, ov, cv, rfl, _, x0, x1, x2, x3, x4, ik, iv⟩ := hfa2.at hlt
      obtain ⟨pn, hpn, hpn'⟩ := HPL.out _ (List.getElem_mem hlt)
      have hfj : Fits (fun x => x < w4.heap.size) wr (fs[k].1, fs[k].2.1, fs[k].2.2.1, (ok, fs[k].2.2.2.1.length, ck), (ov, fs[k].2.2.2.2.length, cv)) fs[k] := ⟨rfl, rfl, rfl, ik, iv⟩
      clear ik iv
      generalize hfk : fs[k] = f at *
      clear hfk
      obtain ⟨pl, rr⟩ := f
      simp only [] at hpn x0 x1 x2 x3 x4
      subst hpn
      obtain ⟨pq, hpq⟩ : ∃ pq : Nat, (pn : Int) / 16 = (pq : Int) := ⟨pn / 16, by omega⟩
      by_cases hne : pq = bn
      · have hd : ((pq : Int) != (bn : Int)) = false := by simp [hne]
        have HFl : Hid ([((pn : Int), rr)].filter (otherB bn) = []) := by
          show _ = _
          rw [List.filter_cons, if_neg (by unfold otherB; simp only []; rw [hpq, hne]; simp)]
          rfl
        rw [HFl.out, List.append_nil] at HTF
        go_wp2_with fail
        exact ⟨⟨k + 1, xs, by omega, by go_num, by rw [HTF.out]; exact hown, by rw [HTF.out]; exact hfx, hmr⟩, by simp [intOf]; omega⟩
      · have hd : ((pq : Int) != (bn : Int)) = true := by simp; omega
        have HFl : Hid ([((pn : Int), rr)].filter (otherB bn) = [((pn : Int), rr)]) := by
          show _ = _
          rw [List.filter_cons, if_pos (by unfold otherB; simp only []; rw [hpq]; simp; omega)]
          rfl
        rw [HFl.out] at HTF
        go_wp2_with (at_builtin; refine pushFound rfl _ _ rfl w4.heap.size _ xs _ rfl hown hmr.size ((pn : Int), rr.1, rr.2.1, (ok, rr.2.2.1.length, ck), (ov, rr.2.2.2.length, cv)) wr.heap.size rfl rfl (by omega) ?_; intro v' w5 o5 b5)
        have hw5 := (hfx.snoc hfj).kept (S' := fun x => x < w4.heap.size) (w' := w5) fun g hg _ => ⟨hg, fun off => Below.cell b5 (p := ⟨g, off, none⟩) hg⟩
        exact ⟨⟨k + 1, _, by omega, by go_num, by rw [HTF.out, List.length_append]; exact o5, by rw [HTF.out]; exact hw5, Below.trans hmr b5⟩, by simp [intOf]; omega⟩
    · have hke : k = fs.length := by omega
      subst hke
      have hlt' : ¬ ((fs.length : Int) < (fs.length : Int)) := by omega
      rw [List.take_length] at hown hfx
      have hD2 := hD1.mem hmr
      have c0 := hD2.cell (j := 0) rfl
      have c1 := hD2.cell (j := 1) rfl
      have c2 := hD2.cell (j := 2) rfl
      have c3 := hD2.cell (j := 3) rfl
      have hbd3 := hbd2.mem hmr
      have hFW := FoundsAt.of_owns (S' := fun _ => True) hown rfl hfx (fun _ _ _ => trivial) (fun _ _ => trivial)
      clear hown hfx hfa
      go_wp2_with fail
      refine (codeAll _ _ bsd brd ofd opd _ hbd3 (few_inv HI2.out (by decide) (by decide)) HI2.out.2.2).mono ?_
      rintro e w6 ⟨⟨v6, rfl, hf6⟩, m6⟩
      rw [HE.out] at hf6
      obtain ⟨o6, c6, rfl⟩ := hf6.shape
      go_wp2_with fail
      refine (refScanSame _ _ _ _ _ _ hf6 (hFW.mem m6)).mono ?_
      rintro e w7 ⟨rfl, m7⟩
      go_wp2_with fail
      go_ret
      exact ⟨rfl, hm2.trans (hmr.trans (m6.trans m7))⟩
end Go.Proofs.Ytcjhaapmehegkaa.Scan
