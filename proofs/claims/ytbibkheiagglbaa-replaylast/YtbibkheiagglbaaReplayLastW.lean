/-
  Layer 7: the walk of ReplayLast.
-/
import Derived.Test.YtbibkheiagglbaaReplayFounds
import Derived.Test.YtbibkheiagglbaaReplayLawMath
namespace Go.Proofs.Ytbibkheiagglbaa.Replay
open Go.RowKit Go.Proofs.Ytbibkheiagglbaa.Scan Go.Proofs.Ytbibkheiagglbaa.Nand
attribute [local irreducible] applyT foldT newT

theorem tells_seq {p k s s' : Int} {ks vs : List Int} (h : Tells (p, k, s, ks, vs)) : Tells (p, k, s', ks, vs) := h
theorem foundsN_tells (zs : List (List Int)) (n : Nat) : ∀ f ∈ foundsN zs n, Tells f := by
  intro f hf
  unfold foundsN at hf
  obtain ⟨i, _, rfl⟩ := List.mem_map.1 hf
  exact tells_right (Tag.made_right (zs.getD i [])) (2 * (i : Int) + ((zs.getD i []).length : Int) % 2) (s := Tag.mkS (zs.getD i [])) |> tells_seq
set_option maxHeartbeats 4000000 in
set_option maxRecDepth 100000 in
theorem replayLast_walk (v : Value) (zs : List (List Int)) (a1 : Int) (w : World) (hz : ListsAt w v zs) (w1 : (Lit.int .u8 a1).wf = true) :
    Calls Try.prog 7 #[v, .int .u8 a1] w fun e w' => e = .returned (.bool true) ∧ Mem w w' := by
  obtain ⟨oa, ca, rfl, _, _⟩ := id hz
  have hb1 := wf_u8 w1
  clear w1
  obtain ⟨n1, rfl⟩ := Int.eq_ofNat_of_zero_le hb1.1
  obtain ⟨n, hn⟩ : ∃ a : Nat, (n1 : Int) % 65 = (a : Int) := ⟨n1 % 65, by omega⟩
  have hn1 : n ≤ 64 := by omega
  go_enter Try.func7, Try.ntmps7
  go_wp2_with fail
  refine (awake _).mono ?_
  rintro e w1 ⟨rfl, m1⟩
  go_wp2_with fail
  (try rw [hn])
  refine (codeNew n _).mono ?_
  rintro e w2 ⟨⟨v2, rfl, ht⟩, m2⟩
  have hnl := newT_len n
  have hnc : cutN n = n := by unfold cutN; omega
  have HG0 := hide (fun (s : Nat) (h : s < n) => newT_get (n := (n : Int)) (s := s) (by omega))
  generalize hG2 : newT n = t0 at *
  have hl1 : t0.1.length = n := by omega
  have hl2 : t0.2.length = n := by omega
  clear hnl hnc hG2
  obtain ⟨om, cm, ob, cb, rfl, _, _⟩ := id ht
  have ma := (Mem.refl w2).alloc (.cells #[.slice om t0.1.length cm, .slice ob t0.2.length cb] 26)
  have hA := TabAt.of (Blk.new w2 #[.slice om t0.1.length cm, .slice ob t0.2.length cb] 26) ((ht.mono (S' := fun x => x ≠ w2.heap.size) fun g _ hl => Nat.ne_of_lt hl).mem ma)
  have hz1 := hz.mem (m1.trans (m2.trans ma))
  have hm1 := m1.trans (m2.trans ma)
  have hBw : w.heap.size ≤ w2.heap.size := (m1.trans m2).size
  have HL := hide (And.intro hl1 hl2)
  clear ht m1 m2 hz ma hl1 hl2
  go_wp2_with fail
  generalize hW1 : w2.alloc (.cells #[.slice om t0.1.length cm, .slice ob t0.2.length cb] 26) = W1 at *
  have hBW : w2.heap.size < W1.heap.size := by rw [← hW1]; exact new_lt w2 _
  generalize w2.heap.size = B at *
  clear hW1
  refine (lawFounds _ zs _ hz1).mono ?_
  rintro e w3 ⟨⟨v3, rfl, hfd⟩, m3⟩
  obtain ⟨o3, c3, rfl⟩ := hfd.shape
  have HTell := hide (foundsN_tells zs (min zs.length 10))
  generalize foundsN zs (min zs.length 10) = fs at *
  have hA2 := hA.mem m3
  have hm2 := hm1.trans m3
  have hsz2 := Nat.lt_of_lt_of_le hBW (Mem.size m3)
  have hfl := hfd.1
  unfold maxLen at hfl
  clear hA hm1 hz1
  go_wp2_with fail
  go_loopw [9] (fun c wr => ∃ i : Nat, i ≤ fs.length ∧ c = .int .i64 i ∧ TabAt (fun x => x ≠ B) wr B (foldT (fs.take i) t0) ∧ FoundsAt (fun x => W1.heap.size ≤ x) wr (.slice o3 fs.length c3) fs ∧ Mem w wr ∧ B < wr.heap.size) (fun c _ => fs.length - (intOf c).toNat)
  case atStart => exact ⟨0, Nat.zero_le _, rfl, by rw [List.take_zero, fold_nil]; exact hA2, hfd, hm2, hsz2⟩
  case round =>
    clear hA2 hfd hm2 hsz2 m3
    obtain ⟨i, hi, rfl, hA, hfd, hmr, hsz⟩ := hrel
    have hu := foldT_len (fs.take i) t0
    by_cases hlt : i < fs.length
    · have hlt' : (i : Int) < (fs.length : Int) := by omega
      have hi0 : (0 : Int) ≤ (i : Int) := by omega
      obtain ⟨g, o, ok, ck, ov, cv, rfl, hSg, x0, x1, x2, x3, x4, i3, i4⟩ := hfd.at hlt
      have HT := hide (foldT_take fs t0 hlt)
      obtain ⟨om', cm', ob', cb', hB, j1, j2⟩ := id hA
      have b0 := hB.cell (j := 0) rfl
      have b1 := hB.cell (j := 1) rfl
      generalize foldT (fs.take i) t0 = u at *
      have hl3 : u.1.length ≤ 1000 := by have := HL.out; omega
      have hl4 : u.2.length ≤ 1000 := by have := HL.out; omega
      have HI1 := hide j1.ints
      have HI2 := hide j2.ints
      have HI3 := hide i3.ints
      have HI4 := hide i4.ints
      have md := Mem.drew (Mem.refl wr)
      clear hA hu j1 j2 i3 i4
      go_wp2_with fail
      go_region_with (go_at_call 15; refine (codeApply u om' ob' cm' cb' fs[i].1 fs[i].2.1 fs[i].2.2.1 ok ov ck cv fs[i].2.2.2.1 fs[i].2.2.2.2 _ (Ints.mem HI1.out md) (Ints.mem HI2.out md) hl3 hl4 (Ints.mem HI3.out md) (Ints.mem HI4.out md)).mono ?_; rintro e w3 ⟨⟨v3, rfl, hV⟩, m3⟩; obtain ⟨om3, cm3, ob3, cb3, rfl, _, _⟩ := id hV; have hB3 := hB.mem (md.trans m3); have b3 := hB3.cell (j := 0) rfl; have b4 := hB3.cell (j := 1) rfl; have f3 := hB3.frozen 0; have f4 := hB3.frozen 1)
      all_goals (
        have hm3 := Mem.trans md m3
        replace hV := hV.mono (S' := fun x => x ≠ B) fun g hg _ => by
          have : wr.heap.size ≤ g := hg
          omega
        generalize hG : applyT u (fs[i].1, fs[i].2.1, fs[i].2.2.1, fs[i].2.2.2.1, fs[i].2.2.2.2) = u' at *
        replace hG := HT
        have hA4 := TabAt.store hB3 hV (fun h => h rfl)
        have hfd4 := ((hfd.mem hm3).setCell (p := ⟨B, 0, none⟩) (by show ¬ W1.heap.size ≤ B; omega) (.slice om3 u'.1.length cm3)).setCell (p := ⟨B, 1, none⟩) (by show ¬ W1.heap.size ≤ B; omega) (.slice ob3 u'.2.length cb3)
        have hm4 := Mem2.put (hmr.trans hm3) (b := B) hBw (.slice om3 u'.1.length cm3) (.slice ob3 u'.2.length cb3)
        have hs4 : B < ((w3.setCell ⟨B, 0, none⟩ (.slice om3 u'.1.length cm3)).setCell ⟨B, 1, none⟩ (.slice ob3 u'.2.length cb3)).heap.size := by rw [size_setCell, size_setCell]; exact Nat.lt_of_lt_of_le hsz (Mem.size hm3)
        clear HT hV hB3 hfd hm3 m3 b0 b1 b3 b4 f3 f4 x0 x1 x2 x3 x4 hB hmr md
        generalize (w3.setCell ⟨B, 0, none⟩ (.slice om3 u'.1.length cm3)).setCell ⟨B, 1, none⟩ (.slice ob3 u'.2.length cb3) = W5 at *
        go_wp2_with fail
        go_roundw
        case rel => exact ⟨i + 1, by omega, by go_num, by rw [hG.out]; exact hA4, hfd4, hm4, hs4⟩
        case measure => simp [intOf]; omega)
    · have hie : i = fs.length := by omega
      subst hie
      have hlt' : ¬ ((fs.length : Int) < (fs.length : Int)) := by omega
      rw [List.take_length] at hA hu
      have HU := hide (And.intro (hu.1.trans HL.out.1) (hu.2.trans HL.out.2))
      obtain ⟨pm, qm, pb, qb, hB, j1, j2⟩ := id hA
      rw [HU.out.1] at hB j1
      rw [HU.out.2] at hB j2
      have b0 := hB.cell (j := 0) rfl
      have b1 := hB.cell (j := 1) rfl
      clear hu hA hsz
      go_wp2_with fail
      go_loopw [10] (fun c wq => ∃ k : Nat, k ≤ n ∧ c = .int .i64 k ∧ Mem wr wq) (fun c _ => n - (intOf c).toNat)
      case atStart => exact ⟨0, Nat.zero_le _, rfl, Mem.refl _⟩
      case round =>
        obtain ⟨k, hk, rfl, hmq⟩ := hrel
        by_cases hlk : k < n
        · have hlk' : (k : Int) < (n : Int) := by omega
          have hk0 : (0 : Int) ≤ (k : Int) := by omega
          obtain ⟨mb, mo, rfl, hcm⟩ := (j1.mem hmq).ints.at (by have := HU.out; omega)
          obtain ⟨nb, no, rfl, hcb⟩ := (j2.mem hmq).ints.at (by have := HU.out; omega)
          have y0 := hcm k (by have := HU.out; omega)
          have y1 := hcb k (by have := HU.out; omega)
          have HY : Hid (∀ w', Mem wr w' → w'.cell? ⟨mb, mo + k, none⟩ = some (.int .i64 ((foldT fs t0).1.getD k 0)) ∧ w'.cell? ⟨nb, no + k, none⟩ = some (.int .i64 ((foldT fs t0).2.getD k 0)) ∧ w'.cell? ⟨B, 0, none⟩ = some (.slice (some ⟨mb, mo, none⟩) n qm) ∧ w'.cell? ⟨B, 1, none⟩ = some (.slice (some ⟨nb, no, none⟩) n qb)) := fun w' h => ⟨(Below.cell h (p := ⟨mb, mo + k, none⟩) (World.block_lt_of_cell? wr _ y0)).trans y0, (Below.cell h (p := ⟨nb, no + k, none⟩) (World.block_lt_of_cell? wr _ y1)).trans y1, (hB.mem (hmq.trans h)).cell (j := 0) rfl, (hB.mem (hmq.trans h)).cell (j := 1) rfl⟩
          have HFD := hide (hfd.mem hmq)
          have hg0 := HG0.out k hlk
          clear hcm hcb y0 y1
          go_wp2_with fail
          go_loopw [11, 12, 13] (fun a b c wp => ∃ i : Nat, i ≤ fs.length ∧ c = .int .i64 i ∧ a = .int .i64 ((foldT (fs.take i) t0).1.getD k 0) ∧ b = .int .i64 ((foldT (fs.take i) t0).2.getD k 0) ∧ Mem wr wp) (fun _ _ c _ => fs.length - (intOf c).toNat)
          case atStart => exact ⟨0, Nat.zero_le _, rfl, by rw [List.take_zero, fold_nil, hg0.1], by rw [List.take_zero, fold_nil, hg0.2], Mem.refl _⟩
          case round =>
            obtain ⟨i, hi, rfl, rfl, rfl, hmp⟩ := hrel
            by_cases hli : i < fs.length
            · have hli' : (i : Int) < (fs.length : Int) := by omega
              have hi0 : (0 : Int) ≤ (i : Int) := by omega
              obtain ⟨g, o, ok, ck, ov, cv, rfl, _, x0, x1, x2, x3, x4, i3, i4⟩ := (HFD.out.mem hmp).at hli
              have HTl := hide (HTell.out fs[i] (List.getElem_mem hli))
              have HT := hide (foldT_take fs t0 hli)
              have hul := foldT_len (fs.take i) t0
              have HUL := hide (And.intro (hul.1.trans HL.out.1) (hul.2.trans HL.out.2))
              clear hul
              generalize foldT (fs.take i) t0 = u at *
              generalize hup : foldT (fs.take (i + 1)) t0 = u' at *
              have HUP := hide hup
              clear hup
              generalize fs[i] = f at *
              obtain ⟨p, kd, sq, ks, vs⟩ := f
              simp only [] at x0 x1 x2 x3 x4 i3 i4
              have ma := (Mem.refl wr).alloc (.cells #[.int .i64 kd, .int .i64 sq, .slice ok ks.length ck, .slice ov vs.length cv] 30)
              have hR := Blk.new wr #[.int .i64 kd, .int .i64 sq, .slice ok ks.length ck, .slice ov vs.length cv] 30
              have HX0 : Hid (∀ w', Mem wr w' → w'.cell? ⟨g, o + i * 5, none⟩ = some (.int .i64 p)) := fun w' h => (Below.cell h (p := ⟨g, o + i * 5, none⟩) (World.block_lt_of_cell? wr _ x0)).trans x0
              have hkl := i3.1
              unfold maxLen at hkl
              have i3' := i3.ints.mem ma
              have i4' := i4.ints.mem ma
              have hmp2 := hmp.trans ma
              go_wp2_with fail
              generalize hW : wr.alloc (.cells #[.int .i64 kd, .int .i64 sq, .slice ok ks.length ck, .slice ov vs.length cv] 30) = W4 at *
              clear hW x1 x2 x3 x4 i3 i4
              go_loopw [11, 12, 15] (fun a b c wj => ∃ j : Nat, j ≤ ks.length ∧ c = .int .i64 j ∧ a = .int .i64 ((applyN (p, kd, sq, ks, vs) u j).1.getD k 0) ∧ b = .int .i64 ((applyN (p, kd, sq, ks, vs) u j).2.getD k 0) ∧ Mem W4 wj) (fun _ _ c _ => ks.length - (intOf c).toNat)
              case atStart => exact ⟨0, Nat.zero_le _, rfl, rfl, rfl, Mem.refl _⟩
              case round =>
                obtain ⟨j, hj, rfl, rfl, rfl, hmj⟩ := hrel
                have r0 := (hR.mem hmj).cell (j := 0) rfl
                have r2 := (hR.mem hmj).cell (j := 2) rfl
                have r3 := (hR.mem hmj).cell (j := 3) rfl
                simp only [List.getElem_toArray, List.getElem_cons_zero, List.getElem_cons_succ] at r0 r2 r3
                by_cases hlj : j < ks.length
                · have hlj' : (j : Int) < (ks.length : Int) := by omega
                  have hj0 : (0 : Int) ≤ (j : Int) := by omega
                  obtain ⟨kb, ko, rfl, hc⟩ := (i3'.mem hmj).at (by omega)
                  have c0 := hc j hlj
                  clear hc
                  have xx := HX0.out _ (ma.trans hmj)
                  have hal := applyN_len (p, kd, sq, ks, vs) u j
                  by_cases hkey : ks.getD j 0 = (k : Int)
                  · have HV := hide (stepT_told (t := applyN (p, kd, sq, ks, vs) u j) (i := j) (s := k) hkey (HTl.out.told (i := j) hlj) (by have := HUL.out; omega) (by have := HUL.out; omega))
                    rw [hkey] at c0
                    clear hal
                    by_cases h2 : kd = 2
                    · have hvl : vs.length = ks.length := by
                        rcases HTl.out with h | h
                        · simp only [] at h; omega
                        · exact h.2
                      obtain ⟨vb, vo, rfl, hd⟩ := (i4'.mem hmj).at (by omega)
                      have d0 := hd j (by omega)
                      have hvl' : (j : Int) < (vs.length : Int) := by omega
                      have HE := hide (show valOf (p, kd, sq, ks, vs) j = vs.getD j 0 by unfold valOf; rw [if_pos h2])
                      clear hd hvl
                      generalize vs.getD j 0 = y at d0 HE
                      subst h2
                      go_wp2_with fail
                      go_quiet (fail)
                      have m2 := hmj.trans ((Mem.refl wr).drewN nq)
                      go_wp2_with fail
                      go_roundw
                      case rel => exact ⟨j + 1, by omega, by go_num, int_eq (HV.out.1.trans HE.out).symm, int_eq HV.out.2.symm, m2⟩
                      case measure => simp [intOf]; omega
                    · have HE := hide (show valOf (p, kd, sq, ks, vs) j = p by unfold valOf; rw [if_neg h2])
                      go_wp2_with fail
                      go_quiet (fail)
                      have m2 := hmj.trans ((Mem.refl wr).drewN nq)
                      go_wp2_with fail
                      go_roundw
                      case rel => exact ⟨j + 1, by omega, by go_num, int_eq (HV.out.1.trans HE.out).symm, int_eq HV.out.2.symm, m2⟩
                      case measure => simp [intOf]; omega
                  · have HV := hide (stepT_ne (f := (p, kd, sq, ks, vs)) (t := applyN (p, kd, sq, ks, vs) u j) (i := j) (s := k) hkey)
                    clear hal
                    generalize ks.getD j 0 = x at c0 hkey
                    go_wp2_with fail
                    go_roundw
                    case rel => exact ⟨j + 1, by omega, by go_num, int_eq HV.out.1.symm, int_eq HV.out.2.symm, hmj⟩
                    case measure => simp [intOf]; omega
                · have hje : j = ks.length := by omega
                  subst hje
                  have hlj' : ¬ ((ks.length : Int) < (ks.length : Int)) := by omega
                  have m2 := hmp2.trans hmj
                  have HE := hide (HT.out.trans (applyT_def u (p, kd, sq, ks, vs)))
                  go_wp2_with fail
                  go_roundw
                  case rel => exact ⟨i + 1, by omega, by go_num, by rw [HUP.out, HE.out], by rw [HUP.out, HE.out], m2⟩
                  case measure => simp [intOf]; omega
            · have hie : i = fs.length := by omega
              subst hie
              have hli' : ¬ ((fs.length : Int) < (fs.length : Int)) := by omega
              rw [List.take_length]
              obtain ⟨y0, y1, y2, y3⟩ := HY.out _ hmp
              have m2 := hmq.trans hmp
              have hnk : (k : Int) < (n : Int) := hlk'
              generalize (foldT fs t0).1.getD k 0 = xa at *
              generalize (foldT fs t0).2.getD k 0 = xb at *
              go_wp2_with fail
              go_roundw
              case rel => exact ⟨k + 1, by omega, by go_num, m2⟩
              case measure => simp [intOf]; omega
        · have hke : k = n := by omega
          subst hke
          have hlk' : ¬ ((k : Int) < (k : Int)) := by omega
          go_wp2_with fail
          go_ret
          exact ⟨rfl, hmr.trans hmq⟩
end Go.Proofs.Ytbibkheiagglbaa.Replay
