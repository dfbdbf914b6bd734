/-
  Layer 6: the walk of ScanOne.
-/
import Derived.Test.YtcjhaapmehegkaaScanMadeW
import Derived.Test.YtcjhaapmehegkaaScanLawMath
namespace Go.Proofs.Ytcjhaapmehegkaa.Scan
open Go.RowKit Go.Proofs.Ytcjhaapmehegkaa.Nand

theorem tellP_written {b k : Nat} (hb : b < 32) (hk : k < 16) {d t : ByteArray} {o : Option RecT} (ho : Tag.decode t.data.toList d.data.toList = o) : tellP b k (true, d, t) = o.toList.map fun r => (place b k, r) := by
  rw [← tellQ_P hb hk]
  unfold tellQ Look.look
  simp only []
  rw [ho]
  cases o <;> rfl
theorem prog_tells {bs : List BlockT} {br off : Bool} {ops : Int} {b : Nat} {pg : PageT} {o : Option RecT} (ho : Tag.decode pg.2.2.data.toList pg.2.1.data.toList = o) (hP : Past0 bs) (hb : b < bs.length) (hb' : b < 32) (hl : bs[b].1.length ≤ 16)
    (he : (Nand.program (bs, br, off, ops) b bs[b].2.1 pg (0, ⟨#[]⟩, ⟨#[]⟩, 0)).2 = 0) :
    ∃ k : Nat, bs[b].2.1 = (k : Int) ∧ k < 16 ∧ (allC (Nand.program (bs, br, off, ops) b bs[b].2.1 pg (0, ⟨#[]⟩, ⟨#[]⟩, 0)).1.1).length = (allC bs).length + o.toList.length
      ∧ (allC (Nand.program (bs, br, off, ops) b bs[b].2.1 pg (0, ⟨#[]⟩, ⟨#[]⟩, 0)).1.1).countP (fun f => decide (f.1 = place b k)) = o.toList.length
      ∧ ∀ f ∈ allC (Nand.program (bs, br, off, ops) b bs[b].2.1 pg (0, ⟨#[]⟩, ⟨#[]⟩, 0)).1.1, f.1 = place b k → o = some f.2 := by
  unfold Nand.program at *
  simp only [] at *
  split at he
  · cases he
  · rename_i hoff
    rw [if_neg hoff]
    split at he
    · rename_i hok
      rw [if_pos hok]
      rw [if_pos trivial]
      simp only [Int.toNat_natCast]
      have hg : bs.getD b default = bs[b] := by simp [hb]
      unfold okProg at hok
      simp only [Int.toNat_natCast, Bool.and_eq_true] at hok
      have hth := hok.1.1.1.1
      obtain ⟨k, hk, hk1⟩ : ∃ k : Nat, bs[b].2.1 = (k : Int) ∧ k < bs[b].1.length := by
        unfold thereB at hth
        simp only [Int.toNat_natCast, hg] at hth
        simp at hth
        exact ⟨bs[b].2.1.toNat, by omega, by omega⟩
      have hk2 : k < 16 := by omega
      refine ⟨k, hk, hk2, ?_⟩
      rw [hg, hk, Int.toNat_natCast]
      have h0 : tellP b k bs[b].1[k] = [] := tellP_none (by
        have := hP _ (List.getElem_mem hb) k hk1 (by omega)
        rw [this]
        rfl)
      have hperm := tellC_one bs hb (bs[b].1.set k (true, pg.2.1, pg.2.2), (k : Int) + 1, bs[b].2.2.1, decide ((0 : Int) = 1)) hk1 (true, pg.2.1, pg.2.2) rfl h0
      rw [tellP_written hb' hk2 ho] at hperm
      have hno : ∀ f ∈ tellC 0 bs, f.1 ≠ place b k := fun f hf e => by
        obtain ⟨_, _, _, h4⟩ := tellC_at hf hk2 hb' e
        rw [show tellP b k ((bs[b - 0]'(by omega)).1[k]'hk1) = [] from h0] at h4
        cases h4
      have hp2 := (allF_perm _).trans hperm
      refine ⟨?_, ?_, ?_⟩
      · unfold allC
        rw [hp2.length_eq, allF_length, List.length_append, List.length_map, Nat.add_comm]
      · unfold allC
        have e1 : (tellC 0 bs).countP (fun f => decide (f.1 = place b k)) = 0 := List.countP_eq_zero.2 (fun f hf => by simpa using hno f hf)
        have e2 : (o.toList.map fun r => ((place b k, r) : FoundT)).countP (fun f => decide (f.1 = place b k)) = (o.toList.map fun r => ((place b k, r) : FoundT)).length := List.countP_eq_length.2 (fun f hf => by
          obtain ⟨r, _, rfl⟩ := List.mem_map.1 hf
          simp)
        rw [hp2.countP_eq, List.countP_append, e1, e2, List.length_map]
        rfl
      · intro f hf e
        rcases List.mem_append.1 (hp2.mem_iff.1 hf) with h | h
        · obtain ⟨r, hr, rfl⟩ := List.mem_map.1 h
          simpa using hr
        · exact absurd e (hno f h)
    · cases he
/-- in what is told a number ahead is not greater -/
theorem allC_seq {bs : List BlockT} {i : Nat} (hi : i + 1 < (allC bs).length) : (allC bs)[i].2.2.1 ≤ (allC bs)[i + 1].2.2.1 := by
  have h := List.pairwise_iff_getElem.1 (allF_sorted (tellC 0 bs)) i (i + 1) (by unfold allC at hi; omega) hi (by omega)
  rcases (leF_iff _ _).1 h with h | h
  · exact Int.le_of_lt h
  · exact Int.le_of_eq h.1
theorem take_count {P : FoundT → Bool} {fs : List FoundT} {k : Nat} (h : k < fs.length) : (fs.take (k + 1)).countP P = (fs.take k).countP P + if P fs[k] = true then 1 else 0 := by
  rw [List.take_succ_eq_append_getElem h, List.countP_append, List.countP_singleton]
/-- a page by numbers whose tag has one byte more is not Valid -/
theorem pageMk_more (z : List Int) {s : Int} (h0 : 0 ≤ s) (h1 : s ≤ 1099511627776) (b : UInt8) : Tag.decode ((pageMk s z).2.2.data.toList ++ [b]) (pageMk s z).2.1.data.toList = none := by
  have hr := made_right' z h0 h1
  rw [pageMk_is z h0 h1]
  refine Tag.decode_more (k := Tag.mkK z) (s := s) (ks := Tag.mkKeys z) (vs := Tag.mkVals z) ?_ b
  show Tag.enc _ _ _ _ [100] = some _
  rw [Tag.enc_yes hr (by decide), List.toList_toArray]
end Go.Proofs.Ytcjhaapmehegkaa.Scan
namespace Go.Proofs.Ytcjhaapmehegkaa.Scan
open Go.RowKit Go.Proofs.Ytcjhaapmehegkaa.Nand

theorem wrap_j {j i : Nat} (h : (j : Int) - 1 = (i : Int)) (hi : i ≤ 1000) : IntKind.i64.wrap ((j : Int) - 1) = (i : Int) := by
  rw [h]
  unfold IntKind.wrap
  simp [IntKind.signed, IntKind.bits]
  omega
theorem len_none : (none : Option RecT).toList.length = 0 := rfl
theorem len_some (r : RecT) : (some r : Option RecT).toList.length = 1 := rfl

set_option maxHeartbeats 4000000 in
set_option maxRecDepth 100000 in
theorem scanOne_walk (a0 : Option Addr) (len0 cap0 : Nat) (z0 : List Int) (a1 : Int) (a2 : Option Addr) (len2 cap2 : Nat) (z2 : List Int) (a3 : Bool) (w : World) (w0 : IsRow .u16 w a0 len0 cap0 z0) (w1 : (Lit.int .u8 a1).wf = true) (w2 : IsRow .u16 w a2 len2 cap2 z2) :
    Calls Try.prog 6 #[.slice a0 len0 cap0, .int .u8 a1, .slice a2 len2 cap2, .bool a3] w fun e w' => e = .returned (.bool true) ∧ Mem w w' := by
  obtain ⟨hz, hwf⟩ := Ints.of_row w0
  obtain ⟨hl1, hl2⟩ := row_len w0
  have HZ : Hid (∀ x ∈ z0.take len0, 0 ≤ x ∧ x ≤ 65535) := fun x h => wf_u16 (hwf x h)
  clear hwf w0
  generalize z0.take len0 = z at *
  subst hl1
  obtain ⟨hy, hwf⟩ := Ints.of_row w2
  obtain ⟨hk1, hk2⟩ := row_len w2
  have HY : Hid (∀ x ∈ z2.take len2, 0 ≤ x ∧ x ≤ 65535) := fun x h => wf_u16 (hwf x h)
  clear hwf w2 hk2
  generalize z2.take len2 = y at *
  subst hk1
  have hb1 := wf_u8 w1
  clear w1
  have HPO := hide (pageMk_decode y (s := a1) (by omega) (by omega))
  have HPM := hide (pageMk_more y (s := a1) (by omega) (by omega) 120)
  have HPS := hide (pageMk_size a1 y)
  go_enter Try.func6, Try.ntmps6
  go_wp2_with fail
  refine (awake _).mono ?_
  rintro e w1 ⟨rfl, m1⟩
  go_wp2_with fail
  refine (lawMade06 a0 cap0 z 3 5 _ (hz.mem m1) hl2 HZ.out (by decide) (by decide) (by decide) (by decide)).mono ?_
  rintro e w2 ⟨⟨v2, bs, br, off, ops, rfl, hb, hI⟩, m2⟩
  have HI := hide hI
  have HF := hide (few_inv hI (by decide) (by decide))
  have HLen : Hid (bs.length = 3) := dims_len hI.1
  clear hz HZ hl2 hI
  obtain ⟨oc, cc, rfl⟩ := hb.shape
  simp only [chipV]
  have ha : Mem w2 (w2.alloc (.cells #[.slice oc bs.length cc, .bool br, .bool off, .int .i64 ops] 24)) := (Mem.refl w2).alloc _
  have hX := Blk.new w2 #[.slice oc bs.length cc, .bool br, .bool off, .int .i64 ops] 24
  have hm := m1.trans (m2.trans ha)
  replace hb := hb.mem ha
  replace hy := hy.mem hm
  clear m1 m2 ha
  go_wp2_with fail
  generalize hW : w2.alloc (.cells #[.slice oc bs.length cc, .bool br, .bool off, .int .i64 ops] 24) = W2 at *
  generalize w2.heap.size = Bc at *
  clear hW
  refine (lawPage a1 _ y _ hy HY.out).mono ?_
  rintro e w3 ⟨rfl, m3⟩
  generalize pageMk a1 y = pg at *
  obtain ⟨pw, pd, pt⟩ := pg
  simp only [pageV] at HPO HPM HPS ⊢
  have ha : Mem w3 (w3.alloc (.cells #[.bool pw, .string pd, .string pt] 27)) := (Mem.refl w3).alloc _
  have hP := Blk.new w3 #[.bool pw, .string pd, .string pt] 27
  have m4 := m3.trans ha
  clear hy HY ha
  cases a3
  case true =>
    have hcat : (pt ++ ⟨#[120]⟩ : ByteArray) = ⟨(pt.data.toList ++ [120]).toArray⟩ := Pack.cat_two pt.data.toList [120]
    obtain ⟨T, hT⟩ : ∃ T : ByteArray, (pt ++ ⟨#[120]⟩ : ByteArray) = T := ⟨_, rfl⟩
    have HO : Hid (Tag.decode T.data.toList pd.data.toList = none) := by
      show _ = _
      rw [← hT, hcat]
      exact HPM.out
    have HT : Hid (T.size ≤ maxLen) := by
      have h1 := HPS.out.2
      have h2 : pt.data.toList.length = pt.size := Array.length_toList
      show _ ≤ _
      rw [← hT, hcat, Pack.size_mk, List.length_append, h2]
      simp only [List.length_cons, List.length_nil]
      unfold maxLen
      omega
    have m5 : Mem W2 (w3.alloc (.cells #[.bool pw, .string pd, .string T] 27)) := m3.trans ((Mem.refl w3).alloc _)
    have p2 := hP.cell (j := 2) rfl
    replace hP := Blk.new w3 #[.bool pw, .string pd, .string T] 27
    replace hX := hX.mem m5
    replace hb := hb.mem m5
    replace hm := hm.trans m5
    have hps : pt.size ≤ 100 := HPS.out.2
    clear m3 m4 m5 HPO HPM HPS hcat
    have c0 := hX.cell (j := 0) rfl
    have c1 := hX.cell (j := 1) rfl
    have c2 := hX.cell (j := 2) rfl
    have c3 := hX.cell (j := 3) rfl
    go_wp2_with fail
    clear p2
    generalize hW : w3.alloc (.cells #[.bool pw, .string pd, .string T] 27) = W3 at *
    generalize w3.heap.size = Bp at *
    clear hW c0 c1 c2 c3
    refine (codeAll _ _ bs br off ops _ hb HF.out HI.out.2.2).mono ?_
    rintro e w4 ⟨⟨v4, rfl, hfa⟩, m5⟩
    obtain ⟨oA, cA, rfl⟩ := hfa.shape
    clear hfa
    obtain ⟨na, hna⟩ : ∃ na, (allC bs).length = na := ⟨_, rfl⟩
    have hal : na ≤ 512 := by rw [← hna]; unfold allC; rw [allF_length]; exact tellC_len512 0 bs
    have HPT := hide (fun (bn : Nat) (h1 : bn < bs.length) he => prog_tells (bs := bs) (br := br) (off := off) (ops := ops) (b := bn) (pg := (pw, pd, T)) HO.out HI.out.2.1 h1 (by have := HLen.out; omega) (by have := dims_get HI.out.1 h1; omega) he)
    rw [hna] at HPT ⊢
    rw [len_none] at HPT
    have HXX := hide (fun (w' : World) (h : Mem w4 w') => hX.mem (m5.trans h))
    have HPP := hide (fun (w' : World) (h : Mem w4 w') => hP.mem (m5.trans h))
    have HB := hide (fun (w' : World) (h : Mem w4 w') => hb.mem (m5.trans h))
    replace hm := hm.trans m5
    clear hX hP hb m5 hna
    go_wp2_with fail
    go_loopw [13] (fun i wr => ∃ b : Nat, b ≤ 3 ∧ i = .int .i64 b ∧ Mem w4 wr) (fun i _ => 3 - (intOf i).toNat)
    case atStart => exact ⟨0, by omega, rfl, Mem.refl _⟩
    case round =>
      obtain ⟨b, hb3, rfl, hmr⟩ := hrel
      by_cases hlt : b < 3
      case neg =>
        have hbe : b = 3 := by omega
        subst hbe
        go_wp2_with fail
        go_ret
        exact ⟨rfl, hm.trans hmr⟩
      have hlt' : (b : Int) < 3 := by omega
      have hb0 : (0 : Int) ≤ (b : Int) := by omega
      have hbl : b < bs.length := by rw [HLen.out]; exact hlt
      have hbl' : (b : Int) < (bs.length : Int) := by omega
      obtain ⟨ga, fa, pa, qa, rfl, _, _, x1, _, _, _⟩ := (HB.out _ hmr).at hbl
      have hX := HXX.out _ hmr
      have hP := HPP.out _ hmr
      have c0 := hX.cell (j := 0) rfl
      have c1 := hX.cell (j := 1) rfl
      have c2 := hX.cell (j := 2) rfl
      have c3 := hX.cell (j := 3) rfl
      have p0 := hP.cell (j := 0) rfl
      have p1 := hP.cell (j := 1) rfl
      have p2 := hP.cell (j := 2) rfl
      clear hX hP
      have HT1 := hide (HPT.out b hbl)
      have HI2 := hide (inv_prog (c := (bs, br, off, ops)) HI.out b bs[b].2.1 (pg := (pw, pd, T)) (f := (0, ⟨#[]⟩, ⟨#[]⟩, 0)) HT.out (by decide))
      generalize bs[b].2.1 = at' at *
      go_wp2_with fail
      refine (progSpec_ref _ _ bs br off ops b at' (pw, pd, T) (0, ⟨#[]⟩, ⟨#[]⟩, 0) _ (HB.out _ hmr) HF.out).mono ?_
      rintro e w5 ⟨hr, m5⟩
      generalize Nand.program (bs, br, off, ops) b at' (pw, pd, T) (0, ⟨#[]⟩, ⟨#[]⟩, 0) = q at *
      obtain ⟨⟨bsd, brd, ofd, opd⟩, en⟩ := q
      obtain ⟨v5, rfl, hbd⟩ := hr
      simp only [] at hbd HI2 HT1 ⊢
      obtain ⟨od, cd, rfl⟩ := hbd.shape
      simp only [chipV]
      have ha : Mem w5 (w5.alloc (.cells #[.slice od bsd.length cd, .bool brd, .bool ofd, .int .i64 opd] 24)) := (Mem.refl w5).alloc _
      have hD := Blk.new w5 #[.slice od bsd.length cd, .bool brd, .bool ofd, .int .i64 opd] 24
      have hm5 := hmr.trans (m5.trans ha)
      replace hbd := hbd.mem ha
      clear c0 c1 c2 c3 p0 p1 p2 x1 m5 ha hmr
      by_cases hen : en = 0
      case neg =>
        have hen' : (en != 0) = true := by simp [hen]
        go_wp2_with fail
        exact ⟨⟨b + 1, by omega, by go_num, hm5⟩, by simp [intOf]; omega⟩
      subst hen
      obtain ⟨k, rfl, hk16, hlen, hcnt, hmem⟩ := HT1.out rfl
      clear HT1
      have d0 := hD.cell (j := 0) rfl
      have d1 := hD.cell (j := 1) rfl
      have d2 := hD.cell (j := 2) rfl
      have d3 := hD.cell (j := 3) rfl
      go_wp2_with fail
      generalize hW : w5.alloc (.cells #[.slice od bsd.length cd, .bool brd, .bool ofd, .int .i64 opd] 24) = W5 at *
      clear hW d0 d1 d2 d3 hD
      refine (codeAll _ _ bsd brd ofd opd _ hbd (few_inv HI2.out (by decide) (by decide)) HI2.out.2.2).mono ?_
      rintro e w6 ⟨⟨v6, rfl, hf6⟩, m6⟩
      obtain ⟨o6, c6, rfl⟩ := hf6.shape
      have HSq : Hid (∀ (i : Nat) (h0 : i < (allC bsd).length) (h1 : i + 1 < (allC bsd).length), ((allC bsd)[i]'h0).2.2.1 ≤ ((allC bsd)[i + 1]'h1).2.2.1) := fun i _ h1 => allC_seq h1
      generalize allC bsd = fs at *
      have HCnt := hide hcnt
      have HMem := hide hmem
      have hm6 := hm5.trans m6
      have HFA := hide (fun (w' : World) (h : Mem w6 w') => hf6.mem h)
      have hcmp : ((fs.length : Int) != (na : Int)) = false := by simp [hlen]
      clear hcnt hmem hf6 m6 hm5 hbd
      go_wp2_with fail
      go_loopw [19, 20] (fun h i wq => ∃ j : Nat, j ≤ fs.length ∧ i = .int .i64 j ∧ h = .int .i64 ((fs.take j).countP (fun f => decide (f.1 = place b k)) : Nat) ∧ Mem w6 wq) (fun _ i _ => fs.length - (intOf i).toNat)
      case atStart => exact ⟨0, Nat.zero_le _, rfl, rfl, Mem.refl _⟩
      case round =>
        obtain ⟨j, hj, rfl, rfl, hmq⟩ := hrel
        have HTC := hide (fun h => take_count (P := fun f : FoundT => decide (f.1 = place b k)) (fs := fs) (k := j) h)
        obtain ⟨ct, hct⟩ : ∃ ct, (fs.take j).countP (fun f => decide (f.1 = place b k)) = ct := ⟨_, rfl⟩
        have hct2 : ct ≤ 513 := by
          have h1 := List.countP_le_length (p := fun f : FoundT => decide (f.1 = place b k)) (l := fs.take j)
          rw [List.length_take] at h1
          omega
        rw [hct] at HTC ⊢
        by_cases hlj : j < fs.length
        · have hlj' : (j : Int) < (fs.length : Int) := by omega
          have hj0 : (0 : Int) ≤ (j : Int) := by omega
          have HT2 := hide (HTC.out hlj)
          obtain ⟨gl, fl, ok, ck, ov, cv, rfl, _, x0, x1, x2, x3, x4, ik, iv⟩ := (HFA.out _ hmq).at hlj
          have HM2 := hide (HMem.out fs[j] (List.getElem_mem hlj))
          have HSQ : Hid (∀ i (hi : i < fs.length), i + 1 = j → fs[i].2.2.1 ≤ fs[j].2.2.1) := fun i hi e => by subst e; exact HSq.out i hi hlj
          have HPv : Hid (∀ i (hi : i < fs.length) w', Mem wr w' → w'.cell? ⟨gl, fl + i * 5 + 2, none⟩ = some (.int .i64 fs[i].2.2.1)) := fun i hi w' h => by
            obtain ⟨g', f', _, _, _, _, e, _, _, _, y2, _⟩ := (HFA.out _ hmq).at hi
            cases e
            exact (Below.cell h (p := ⟨gl, fl + i * 5 + 2, none⟩) (World.block_lt_of_cell? wr _ y2)).trans y2
          generalize fs[j] = f at *
          have HK : Hid (∀ w', Mem wr w' → w'.cell? ⟨gl, fl + j * 5 + 1, none⟩ = some (.int .i64 f.2.1) ∧ w'.cell? ⟨gl, fl + j * 5 + 2, none⟩ = some (.int .i64 f.2.2.1) ∧ w'.cell? ⟨gl, fl + j * 5 + 3, none⟩ = some (.slice ok f.2.2.2.1.length ck) ∧ w'.cell? ⟨gl, fl + j * 5 + 4, none⟩ = some (.slice ov f.2.2.2.2.length cv)) := fun w' h =>
            have t : ∀ {g o : Nat} {u : Value}, wr.cell? ⟨g, o, none⟩ = some u → w'.cell? ⟨g, o, none⟩ = some u := fun {g o u} hc => (Below.cell h (p := ⟨g, o, none⟩) (World.block_lt_of_cell? wr _ hc)).trans hc
            ⟨t x1, t x2, t x3, t x4⟩
          have HII := hide (⟨ik.ints, iv.ints⟩ : Ints .i64 wr _ f.2.2.2.1 ∧ Ints .i64 wr _ f.2.2.2.2)
          clear ik iv x1 x2 x3 x4
          by_cases hpl : f.1 = place b k
          · have hpl' : (f.1 == place b k) = true := by simp [hpl]
            go_wp2_with fail
            go_quiet ((go_at_call 12; exact Calls.quiet_of_same (codePlace _ _ _)))
            have n2 : Mem wr (wr.drewN nq) := (Mem.refl wr).drewN nq
            have hP := HPP.out _ (hm6.trans (hmq.trans n2))
            have p1 := hP.cell (j := 1) rfl
            have p2 := hP.cell (j := 2) rfl
            clear hP x0
            go_wp2_with fail
            refine (Tag.refDecode T pd _ HT.out).mono ?_
            rintro e w7 ⟨hd, m7⟩
            rw [HO.out, HM2.out hpl] at hd
            obtain ⟨va, vb, rfl, ia, ib⟩ := hd
            simp only [Tag.decR, Tag.decE] at ia ib ⊢
            obtain ⟨or, cr, rfl⟩ := ia.shape
            obtain ⟨os, cs, rfl⟩ := ib.shape
            have ha : Mem w7 (w7.alloc (.cells #[.int .i64 f.2.1, .int .i64 f.2.2.1, .slice or f.2.2.2.1.length cr, .slice os f.2.2.2.2.length cs] 51)) := (Mem.refl w7).alloc _
            have hR := Blk.new w7 #[.int .i64 f.2.1, .int .i64 f.2.2.1, .slice or f.2.2.2.1.length cr, .slice os f.2.2.2.2.length cs] 51
            have n3 := n2.trans (m7.trans ha)
            have HI3 := hide (⟨ia.mem ha, ib.mem ha⟩ : Ints .i64 (w7.alloc (.cells #[.int .i64 f.2.1, .int .i64 f.2.2.1, .slice or f.2.2.2.1.length cr, .slice os f.2.2.2.2.length cs] 51)) _ f.2.2.2.1 ∧ Ints .i64 (w7.alloc (.cells #[.int .i64 f.2.1, .int .i64 f.2.2.1, .slice or f.2.2.2.1.length cr, .slice os f.2.2.2.2.length cs] 51)) _ f.2.2.2.2)
            clear ia ib p1 p2 m7 ha n2
            go_wp2_with fail
            generalize hW : w7.alloc (.cells #[.int .i64 f.2.1, .int .i64 f.2.2.1, .slice or f.2.2.2.1.length cr, .slice os f.2.2.2.2.length cs] 51) = W7 at *
            generalize w7.heap.size = Br at *
            clear hW
            have HK2 : Hid (∀ w', Mem W7 w' → w'.cell? ⟨Br, 0, none⟩ = some (.int .i64 f.2.1) ∧ w'.cell? ⟨Br, 1, none⟩ = some (.int .i64 f.2.2.1) ∧ w'.cell? ⟨Br, 2, none⟩ = some (.slice or f.2.2.2.1.length cr) ∧ w'.cell? ⟨Br, 3, none⟩ = some (.slice os f.2.2.2.2.length cs) ∧ w'.cell? ⟨gl, fl + j * 5 + 1, none⟩ = some (.int .i64 f.2.1) ∧ w'.cell? ⟨gl, fl + j * 5 + 2, none⟩ = some (.int .i64 f.2.2.1) ∧ w'.cell? ⟨gl, fl + j * 5 + 3, none⟩ = some (.slice ok f.2.2.2.1.length ck) ∧ w'.cell? ⟨gl, fl + j * 5 + 4, none⟩ = some (.slice ov f.2.2.2.2.length cv)) := fun w' h => ⟨(hR.mem h).cell (j := 0) rfl, (hR.mem h).cell (j := 1) rfl, (hR.mem h).cell (j := 2) rfl, (hR.mem h).cell (j := 3) rfl, HK.out w' (n3.trans h)⟩
            have N0 := hide (Mem.drew (Mem.refl W7))
            have HN3 := hide n3
            clear hR n3
            go_region_held3 (fun w' => w'.cell? ⟨Br, 0, none⟩ = some (.int .i64 f.2.1) ∧ w'.cell? ⟨Br, 1, none⟩ = some (.int .i64 f.2.2.1) ∧ w'.cell? ⟨Br, 2, none⟩ = some (.slice or f.2.2.2.1.length cr) ∧ w'.cell? ⟨Br, 3, none⟩ = some (.slice os f.2.2.2.2.length cs) ∧ w'.cell? ⟨gl, fl + j * 5 + 1, none⟩ = some (.int .i64 f.2.1) ∧ w'.cell? ⟨gl, fl + j * 5 + 2, none⟩ = some (.int .i64 f.2.2.1) ∧ w'.cell? ⟨gl, fl + j * 5 + 3, none⟩ = some (.slice ok f.2.2.2.1.length ck) ∧ w'.cell? ⟨gl, fl + j * 5 + 4, none⟩ = some (.slice ov f.2.2.2.2.length cv))
              (first | with_reducible exact HK2.out _ N0.out | with_reducible exact HK2.out _ N1.out | go_keep)
              ((go_at_call 21; refine (Tag.recSame f.2.1 f.2.2.1 f.2.1 f.2.2.1 _ _ _ _ f.2.2.2.1 f.2.2.2.2 f.2.2.2.1 f.2.2.2.2 _ (HI3.out.1.mem N0.out) (HI3.out.2.mem N0.out) (HII.out.1.mem (HN3.out.trans N0.out)) (HII.out.2.mem (HN3.out.trans N0.out))).mono ?_; rintro e w8 ⟨rfl, n1⟩; rw [Tag.recEq_self]; have N1 := hide (Mem.trans N0.out n1)))
            have NX := HN3.out.trans N1.out
            have NC := NX
            go_wp2_with fail
            have HZ2 := hide (fun (w' : World) (h : Mem wr w') => (HK.out w' h).2.1)
            by_cases hj1 : 0 < j
            · obtain ⟨i, hi⟩ : ∃ i, i + 1 = j := ⟨j - 1, by omega⟩
              have hil : i < fs.length := by omega
              have hil' : (i : Int) < (fs.length : Int) := by omega
              have hi0 : (0 : Int) ≤ (i : Int) := by omega
              have hj1' : (0 : Int) < (j : Int) := by omega
              have hjm : (j : Int) - 1 = (i : Int) := by omega
              have hjw : IntKind.i64.wrap ((j : Int) - 1) = (i : Int) := wrap_j hjm (by omega)
              have z2 := HZ2.out _ NC
              have y2 := HPv.out i hil _ NC
              have hle := HSQ.out i hil hi
              generalize fs[i].2.2.1 = sp at *
              have hsp : ¬ (f.2.2.1 < sp) := by omega
              go_quiet (fail)
              go_wp2_with fail
              exact ⟨⟨j + 1, by omega, by go_num, by rw [HT2.out, if_pos (by simp [hpl])]; go_num, hmq.trans (NX.drewN nq)⟩, by simp [intOf]; omega⟩
            · have hj1' : ¬ ((0 : Int) < (j : Int)) := by omega
              go_quiet (fail)
              go_wp2_with fail
              exact ⟨⟨j + 1, by omega, by go_num, by rw [HT2.out, if_pos (by simp [hpl])]; go_num, hmq.trans (NX.drewN nq)⟩, by simp [intOf]; omega⟩
          · have hpl' : (f.1 == place b k) = false := by simp [hpl]
            go_wp2_with fail
            go_quiet ((go_at_call 12; exact Calls.quiet_of_same (codePlace _ _ _)))
            have NC := Mem.refl wr
            clear x0
            go_wp2_with fail
            have HZ2 := hide (fun (w' : World) (h : Mem wr w') => (HK.out w' h).2.1)
            by_cases hj1 : 0 < j
            · obtain ⟨i, hi⟩ : ∃ i, i + 1 = j := ⟨j - 1, by omega⟩
              have hil : i < fs.length := by omega
              have hil' : (i : Int) < (fs.length : Int) := by omega
              have hi0 : (0 : Int) ≤ (i : Int) := by omega
              have hj1' : (0 : Int) < (j : Int) := by omega
              have hjm : (j : Int) - 1 = (i : Int) := by omega
              have hjw : IntKind.i64.wrap ((j : Int) - 1) = (i : Int) := wrap_j hjm (by omega)
              have z2 := HZ2.out _ NC
              have y2 := HPv.out i hil _ NC
              have hle := HSQ.out i hil hi
              generalize fs[i].2.2.1 = sp at *
              have hsp : ¬ (f.2.2.1 < sp) := by omega
              go_quiet (fail)
              go_wp2_with fail
              exact ⟨⟨j + 1, by omega, by go_num, by rw [HT2.out, if_neg (by simp [hpl]), Nat.add_zero], hmq.trans ((Mem.refl wr).drewN _)⟩, by simp [intOf]; omega⟩
            · have hj1' : ¬ ((0 : Int) < (j : Int)) := by omega
              go_quiet (fail)
              go_wp2_with fail
              exact ⟨⟨j + 1, by omega, by go_num, by rw [HT2.out, if_neg (by simp [hpl]), Nat.add_zero], hmq.trans ((Mem.refl wr).drewN _)⟩, by simp [intOf]; omega⟩
        · have hje : j = fs.length := by omega
          subst hje
          have hlj' : ¬ ((fs.length : Int) < (fs.length : Int)) := by omega
          rw [List.take_length, HCnt.out] at hct
          subst hct
          go_wp2_with fail
          go_roundw
          case rel => exact ⟨b + 1, by omega, by go_num, hm6.trans hmq⟩
          case measure => simp [intOf]; omega
  case false =>
    generalize (Tag.mkK y, a1, Tag.mkKeys y, Tag.mkVals y) = r at *
    have HO : Hid (Tag.decode pt.data.toList pd.data.toList = some r) := HPO.out
    have HT : Hid (pt.size ≤ maxLen) := by have := HPS.out.2; show _ ≤ _; unfold maxLen; omega
    replace hX := hX.mem m4
    replace hb := hb.mem m4
    replace hm := hm.trans m4
    clear m3 m4 HPO HPM HPS
    have c0 := hX.cell (j := 0) rfl
    have c1 := hX.cell (j := 1) rfl
    have c2 := hX.cell (j := 2) rfl
    have c3 := hX.cell (j := 3) rfl
    go_wp2_with fail
    generalize hW : w3.alloc (.cells #[.bool pw, .string pd, .string pt] 27) = W3 at *
    generalize w3.heap.size = Bp at *
    clear hW c0 c1 c2 c3
    refine (codeAll _ _ bs br off ops _ hb HF.out HI.out.2.2).mono ?_
    rintro e w4 ⟨⟨v4, rfl, hfa⟩, m5⟩
    obtain ⟨oA, cA, rfl⟩ := hfa.shape
    clear hfa
    obtain ⟨na, hna⟩ : ∃ na, (allC bs).length = na := ⟨_, rfl⟩
    have hal : na ≤ 512 := by rw [← hna]; unfold allC; rw [allF_length]; exact tellC_len512 0 bs
    have HPT := hide (fun (bn : Nat) (h1 : bn < bs.length) he => prog_tells (bs := bs) (br := br) (off := off) (ops := ops) (b := bn) (pg := (pw, pd, pt)) HO.out HI.out.2.1 h1 (by have := HLen.out; omega) (by have := dims_get HI.out.1 h1; omega) he)
    rw [hna] at HPT ⊢
    rw [len_some] at HPT
    have HXX := hide (fun (w' : World) (h : Mem w4 w') => hX.mem (m5.trans h))
    have HPP := hide (fun (w' : World) (h : Mem w4 w') => hP.mem (m5.trans h))
    have HB := hide (fun (w' : World) (h : Mem w4 w') => hb.mem (m5.trans h))
    replace hm := hm.trans m5
    clear hX hP hb m5 hna
    go_wp2_with fail
    go_loopw [13] (fun i wr => ∃ b : Nat, b ≤ 3 ∧ i = .int .i64 b ∧ Mem w4 wr) (fun i _ => 3 - (intOf i).toNat)
    case atStart => exact ⟨0, by omega, rfl, Mem.refl _⟩
    case round =>
      obtain ⟨b, hb3, rfl, hmr⟩ := hrel
      by_cases hlt : b < 3
      case neg =>
        have hbe : b = 3 := by omega
        subst hbe
        go_wp2_with fail
        go_ret
        exact ⟨rfl, hm.trans hmr⟩
      have hlt' : (b : Int) < 3 := by omega
      have hb0 : (0 : Int) ≤ (b : Int) := by omega
      have hbl : b < bs.length := by rw [HLen.out]; exact hlt
      have hbl' : (b : Int) < (bs.length : Int) := by omega
      obtain ⟨ga, fa, pa, qa, rfl, _, _, x1, _, _, _⟩ := (HB.out _ hmr).at hbl
      have hX := HXX.out _ hmr
      have hP := HPP.out _ hmr
      have c0 := hX.cell (j := 0) rfl
      have c1 := hX.cell (j := 1) rfl
      have c2 := hX.cell (j := 2) rfl
      have c3 := hX.cell (j := 3) rfl
      have p0 := hP.cell (j := 0) rfl
      have p1 := hP.cell (j := 1) rfl
      have p2 := hP.cell (j := 2) rfl
      clear hX hP
      have HT1 := hide (HPT.out b hbl)
      have HI2 := hide (inv_prog (c := (bs, br, off, ops)) HI.out b bs[b].2.1 (pg := (pw, pd, pt)) (f := (0, ⟨#[]⟩, ⟨#[]⟩, 0)) HT.out (by decide))
      generalize bs[b].2.1 = at' at *
      go_wp2_with fail
      refine (progSpec_ref _ _ bs br off ops b at' (pw, pd, pt) (0, ⟨#[]⟩, ⟨#[]⟩, 0) _ (HB.out _ hmr) HF.out).mono ?_
      rintro e w5 ⟨hr, m5⟩
      generalize Nand.program (bs, br, off, ops) b at' (pw, pd, pt) (0, ⟨#[]⟩, ⟨#[]⟩, 0) = q at *
      obtain ⟨⟨bsd, brd, ofd, opd⟩, en⟩ := q
      obtain ⟨v5, rfl, hbd⟩ := hr
      simp only [] at hbd HI2 HT1 ⊢
      obtain ⟨od, cd, rfl⟩ := hbd.shape
      simp only [chipV]
      have ha : Mem w5 (w5.alloc (.cells #[.slice od bsd.length cd, .bool brd, .bool ofd, .int .i64 opd] 24)) := (Mem.refl w5).alloc _
      have hD := Blk.new w5 #[.slice od bsd.length cd, .bool brd, .bool ofd, .int .i64 opd] 24
      have hm5 := hmr.trans (m5.trans ha)
      replace hbd := hbd.mem ha
      clear c0 c1 c2 c3 p0 p1 p2 x1 m5 ha hmr
      by_cases hen : en = 0
      case neg =>
        have hen' : (en != 0) = true := by simp [hen]
        go_wp2_with fail
        exact ⟨⟨b + 1, by omega, by go_num, hm5⟩, by simp [intOf]; omega⟩
      subst hen
      obtain ⟨k, rfl, hk16, hlen, hcnt, hmem⟩ := HT1.out rfl
      clear HT1
      have d0 := hD.cell (j := 0) rfl
      have d1 := hD.cell (j := 1) rfl
      have d2 := hD.cell (j := 2) rfl
      have d3 := hD.cell (j := 3) rfl
      go_wp2_with fail
      generalize hW : w5.alloc (.cells #[.slice od bsd.length cd, .bool brd, .bool ofd, .int .i64 opd] 24) = W5 at *
      clear hW d0 d1 d2 d3 hD
      refine (codeAll _ _ bsd brd ofd opd _ hbd (few_inv HI2.out (by decide) (by decide)) HI2.out.2.2).mono ?_
      rintro e w6 ⟨⟨v6, rfl, hf6⟩, m6⟩
      obtain ⟨o6, c6, rfl⟩ := hf6.shape
      have HSq : Hid (∀ (i : Nat) (h0 : i < (allC bsd).length) (h1 : i + 1 < (allC bsd).length), ((allC bsd)[i]'h0).2.2.1 ≤ ((allC bsd)[i + 1]'h1).2.2.1) := fun i _ h1 => allC_seq h1
      generalize allC bsd = fs at *
      have HCnt := hide hcnt
      have HMem := hide hmem
      have hm6 := hm5.trans m6
      have HFA := hide (fun (w' : World) (h : Mem w6 w') => hf6.mem h)
      have hcmp : ((fs.length : Int) != (na : Int) + 1) = false := by simp [hlen]
      clear hcnt hmem hf6 m6 hm5 hbd
      go_wp2_with fail
      go_loopw [19, 20] (fun h i wq => ∃ j : Nat, j ≤ fs.length ∧ i = .int .i64 j ∧ h = .int .i64 ((fs.take j).countP (fun f => decide (f.1 = place b k)) : Nat) ∧ Mem w6 wq) (fun _ i _ => fs.length - (intOf i).toNat)
      case atStart => exact ⟨0, Nat.zero_le _, rfl, rfl, Mem.refl _⟩
      case round =>
        obtain ⟨j, hj, rfl, rfl, hmq⟩ := hrel
        have HTC := hide (fun h => take_count (P := fun f : FoundT => decide (f.1 = place b k)) (fs := fs) (k := j) h)
        obtain ⟨ct, hct⟩ : ∃ ct, (fs.take j).countP (fun f => decide (f.1 = place b k)) = ct := ⟨_, rfl⟩
        have hct2 : ct ≤ 513 := by
          have h1 := List.countP_le_length (p := fun f : FoundT => decide (f.1 = place b k)) (l := fs.take j)
          rw [List.length_take] at h1
          omega
        rw [hct] at HTC ⊢
        by_cases hlj : j < fs.length
        · have hlj' : (j : Int) < (fs.length : Int) := by omega
          have hj0 : (0 : Int) ≤ (j : Int) := by omega
          have HT2 := hide (HTC.out hlj)
          obtain ⟨gl, fl, ok, ck, ov, cv, rfl, _, x0, x1, x2, x3, x4, ik, iv⟩ := (HFA.out _ hmq).at hlj
          have HM2 := hide (HMem.out fs[j] (List.getElem_mem hlj))
          have HSQ : Hid (∀ i (hi : i < fs.length), i + 1 = j → fs[i].2.2.1 ≤ fs[j].2.2.1) := fun i hi e => by subst e; exact HSq.out i hi hlj
          have HPv : Hid (∀ i (hi : i < fs.length) w', Mem wr w' → w'.cell? ⟨gl, fl + i * 5 + 2, none⟩ = some (.int .i64 fs[i].2.2.1)) := fun i hi w' h => by
            obtain ⟨g', f', _, _, _, _, e, _, _, _, y2, _⟩ := (HFA.out _ hmq).at hi
            cases e
            exact (Below.cell h (p := ⟨gl, fl + i * 5 + 2, none⟩) (World.block_lt_of_cell? wr _ y2)).trans y2
          generalize fs[j] = f at *
          have HK : Hid (∀ w', Mem wr w' → w'.cell? ⟨gl, fl + j * 5 + 1, none⟩ = some (.int .i64 f.2.1) ∧ w'.cell? ⟨gl, fl + j * 5 + 2, none⟩ = some (.int .i64 f.2.2.1) ∧ w'.cell? ⟨gl, fl + j * 5 + 3, none⟩ = some (.slice ok f.2.2.2.1.length ck) ∧ w'.cell? ⟨gl, fl + j * 5 + 4, none⟩ = some (.slice ov f.2.2.2.2.length cv)) := fun w' h =>
            have t : ∀ {g o : Nat} {u : Value}, wr.cell? ⟨g, o, none⟩ = some u → w'.cell? ⟨g, o, none⟩ = some u := fun {g o u} hc => (Below.cell h (p := ⟨g, o, none⟩) (World.block_lt_of_cell? wr _ hc)).trans hc
            ⟨t x1, t x2, t x3, t x4⟩
          have HII := hide (⟨ik.ints, iv.ints⟩ : Ints .i64 wr _ f.2.2.2.1 ∧ Ints .i64 wr _ f.2.2.2.2)
          clear ik iv x1 x2 x3 x4
          by_cases hpl : f.1 = place b k
          · have hpl' : (f.1 == place b k) = true := by simp [hpl]
            go_wp2_with fail
            go_quiet ((go_at_call 12; exact Calls.quiet_of_same (codePlace _ _ _)))
            have n2 : Mem wr (wr.drewN nq) := (Mem.refl wr).drewN nq
            have hP := HPP.out _ (hm6.trans (hmq.trans n2))
            have p1 := hP.cell (j := 1) rfl
            have p2 := hP.cell (j := 2) rfl
            clear hP x0
            go_wp2_with fail
            refine (Tag.refDecode pt pd _ HT.out).mono ?_
            rintro e w7 ⟨hd, m7⟩
            rw [HO.out, HM2.out hpl] at hd
            obtain ⟨va, vb, rfl, ia, ib⟩ := hd
            simp only [Tag.decR, Tag.decE] at ia ib ⊢
            obtain ⟨or, cr, rfl⟩ := ia.shape
            obtain ⟨os, cs, rfl⟩ := ib.shape
            have ha : Mem w7 (w7.alloc (.cells #[.int .i64 f.2.1, .int .i64 f.2.2.1, .slice or f.2.2.2.1.length cr, .slice os f.2.2.2.2.length cs] 51)) := (Mem.refl w7).alloc _
            have hR := Blk.new w7 #[.int .i64 f.2.1, .int .i64 f.2.2.1, .slice or f.2.2.2.1.length cr, .slice os f.2.2.2.2.length cs] 51
            have n3 := n2.trans (m7.trans ha)
            have HI3 := hide (⟨ia.mem ha, ib.mem ha⟩ : Ints .i64 (w7.alloc (.cells #[.int .i64 f.2.1, .int .i64 f.2.2.1, .slice or f.2.2.2.1.length cr, .slice os f.2.2.2.2.length cs] 51)) _ f.2.2.2.1 ∧ Ints .i64 (w7.alloc (.cells #[.int .i64 f.2.1, .int .i64 f.2.2.1, .slice or f.2.2.2.1.length cr, .slice os f.2.2.2.2.length cs] 51)) _ f.2.2.2.2)
            clear ia ib p1 p2 m7 ha n2
            go_wp2_with fail
            generalize hW : w7.alloc (.cells #[.int .i64 f.2.1, .int .i64 f.2.2.1, .slice or f.2.2.2.1.length cr, .slice os f.2.2.2.2.length cs] 51) = W7 at *
            generalize w7.heap.size = Br at *
            clear hW
            have HK2 : Hid (∀ w', Mem W7 w' → w'.cell? ⟨Br, 0, none⟩ = some (.int .i64 f.2.1) ∧ w'.cell? ⟨Br, 1, none⟩ = some (.int .i64 f.2.2.1) ∧ w'.cell? ⟨Br, 2, none⟩ = some (.slice or f.2.2.2.1.length cr) ∧ w'.cell? ⟨Br, 3, none⟩ = some (.slice os f.2.2.2.2.length cs) ∧ w'.cell? ⟨gl, fl + j * 5 + 1, none⟩ = some (.int .i64 f.2.1) ∧ w'.cell? ⟨gl, fl + j * 5 + 2, none⟩ = some (.int .i64 f.2.2.1) ∧ w'.cell? ⟨gl, fl + j * 5 + 3, none⟩ = some (.slice ok f.2.2.2.1.length ck) ∧ w'.cell? ⟨gl, fl + j * 5 + 4, none⟩ = some (.slice ov f.2.2.2.2.length cv)) := fun w' h => ⟨(hR.mem h).cell (j := 0) rfl, (hR.mem h).cell (j := 1) rfl, (hR.mem h).cell (j := 2) rfl, (hR.mem h).cell (j := 3) rfl, HK.out w' (n3.trans h)⟩
            have N0 := hide (Mem.drew (Mem.refl W7))
            have HN3 := hide n3
            clear hR n3
            go_region_held3 (fun w' => w'.cell? ⟨Br, 0, none⟩ = some (.int .i64 f.2.1) ∧ w'.cell? ⟨Br, 1, none⟩ = some (.int .i64 f.2.2.1) ∧ w'.cell? ⟨Br, 2, none⟩ = some (.slice or f.2.2.2.1.length cr) ∧ w'.cell? ⟨Br, 3, none⟩ = some (.slice os f.2.2.2.2.length cs) ∧ w'.cell? ⟨gl, fl + j * 5 + 1, none⟩ = some (.int .i64 f.2.1) ∧ w'.cell? ⟨gl, fl + j * 5 + 2, none⟩ = some (.int .i64 f.2.2.1) ∧ w'.cell? ⟨gl, fl + j * 5 + 3, none⟩ = some (.slice ok f.2.2.2.1.length ck) ∧ w'.cell? ⟨gl, fl + j * 5 + 4, none⟩ = some (.slice ov f.2.2.2.2.length cv))
              (first | with_reducible exact HK2.out _ N0.out | with_reducible exact HK2.out _ N1.out | go_keep)
              ((go_at_call 21; refine (Tag.recSame f.2.1 f.2.2.1 f.2.1 f.2.2.1 _ _ _ _ f.2.2.2.1 f.2.2.2.2 f.2.2.2.1 f.2.2.2.2 _ (HI3.out.1.mem N0.out) (HI3.out.2.mem N0.out) (HII.out.1.mem (HN3.out.trans N0.out)) (HII.out.2.mem (HN3.out.trans N0.out))).mono ?_; rintro e w8 ⟨rfl, n1⟩; rw [Tag.recEq_self]; have N1 := hide (Mem.trans N0.out n1)))
            have NX := HN3.out.trans N1.out
            have NC := NX
            go_wp2_with fail
            have HZ2 := hide (fun (w' : World) (h : Mem wr w') => (HK.out w' h).2.1)
            by_cases hj1 : 0 < j
            · obtain ⟨i, hi⟩ : ∃ i, i + 1 = j := ⟨j - 1, by omega⟩
              have hil : i < fs.length := by omega
              have hil' : (i : Int) < (fs.length : Int) := by omega
              have hi0 : (0 : Int) ≤ (i : Int) := by omega
              have hj1' : (0 : Int) < (j : Int) := by omega
              have hjm : (j : Int) - 1 = (i : Int) := by omega
              have hjw : IntKind.i64.wrap ((j : Int) - 1) = (i : Int) := wrap_j hjm (by omega)
              have z2 := HZ2.out _ NC
              have y2 := HPv.out i hil _ NC
              have hle := HSQ.out i hil hi
              generalize fs[i].2.2.1 = sp at *
              have hsp : ¬ (f.2.2.1 < sp) := by omega
              go_quiet (fail)
              go_wp2_with fail
              exact ⟨⟨j + 1, by omega, by go_num, by rw [HT2.out, if_pos (by simp [hpl])]; go_num, hmq.trans (NX.drewN nq)⟩, by simp [intOf]; omega⟩
            · have hj1' : ¬ ((0 : Int) < (j : Int)) := by omega
              go_quiet (fail)
              go_wp2_with fail
              exact ⟨⟨j + 1, by omega, by go_num, by rw [HT2.out, if_pos (by simp [hpl])]; go_num, hmq.trans (NX.drewN nq)⟩, by simp [intOf]; omega⟩
          · have hpl' : (f.1 == place b k) = false := by simp [hpl]
            go_wp2_with fail
            go_quiet ((go_at_call 12; exact Calls.quiet_of_same (codePlace _ _ _)))
            have NC := Mem.refl wr
            clear x0
            go_wp2_with fail
            have HZ2 := hide (fun (w' : World) (h : Mem wr w') => (HK.out w' h).2.1)
            by_cases hj1 : 0 < j
            · obtain ⟨i, hi⟩ : ∃ i, i + 1 = j := ⟨j - 1, by omega⟩
              have hil : i < fs.length := by omega
              have hil' : (i : Int) < (fs.length : Int) := by omega
              have hi0 : (0 : Int) ≤ (i : Int) := by omega
              have hj1' : (0 : Int) < (j : Int) := by omega
              have hjm : (j : Int) - 1 = (i : Int) := by omega
              have hjw : IntKind.i64.wrap ((j : Int) - 1) = (i : Int) := wrap_j hjm (by omega)
              have z2 := HZ2.out _ NC
              have y2 := HPv.out i hil _ NC
              have hle := HSQ.out i hil hi
              generalize fs[i].2.2.1 = sp at *
              have hsp : ¬ (f.2.2.1 < sp) := by omega
              go_quiet (fail)
              go_wp2_with fail
              exact ⟨⟨j + 1, by omega, by go_num, by rw [HT2.out, if_neg (by simp [hpl]), Nat.add_zero], hmq.trans ((Mem.refl wr).drewN _)⟩, by simp [intOf]; omega⟩
            · have hj1' : ¬ ((0 : Int) < (j : Int)) := by omega
              go_quiet (fail)
              go_wp2_with fail
              exact ⟨⟨j + 1, by omega, by go_num, by rw [HT2.out, if_neg (by simp [hpl]), Nat.add_zero], hmq.trans ((Mem.refl wr).drewN _)⟩, by simp [intOf]; omega⟩
        · have hje : j = fs.length := by omega
          subst hje
          have hlj' : ¬ ((fs.length : Int) < (fs.length : Int)) := by omega
          rw [List.take_length, HCnt.out] at hct
          subst hct
          go_wp2_with fail
          go_roundw
          case rel => exact ⟨b + 1, by omega, by go_num, hm6.trans hmq⟩
          case measure => simp [intOf]; omega
end Go.Proofs.Ytcjhaapmehegkaa.Scan
