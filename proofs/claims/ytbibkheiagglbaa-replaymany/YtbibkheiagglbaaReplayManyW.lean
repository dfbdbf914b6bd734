/-
  Layer 7: the walk of ReplayMany.
-/
import Derived.Test.YtbibkheiagglbaaReplayFounds
import Derived.Test.YtbibkheiagglbaaReplayLawMath
import Derived.Deep.DeepCutAuto
namespace Go.Proofs.Ytbibkheiagglbaa.Replay
open Go.RowKit Go.Proofs.Ytbibkheiagglbaa.Scan Go.Proofs.Ytbibkheiagglbaa.Nand
attribute [local irreducible] applyT foldT newT

theorem TabAt.far {S : Nat → Prop} {w : World} {B b : Nat} {t : TableT} (h : TabAt S w B t) (hb : B ≠ b) (hS : ¬ S b) (x0 x1 : Value) : TabAt S ((w.setCell ⟨b, 0, none⟩ x0).setCell ⟨b, 1, none⟩ x1) B t := by
  obtain ⟨om, cm, ob, cb, h0, h1, h2⟩ := h
  exact ⟨om, cm, ob, cb, Blk2.far h0 hb x0 x1, h1.put2 hS x0 x1, h2.put2 hS x0 x1⟩
set_option maxHeartbeats 4000000 in
set_option maxRecDepth 100000 in
theorem replayMany_walk (v : Value) (zs : List (List Int)) (a1 : Int) (w : World) (hz : ListsAt w v zs) (w1 : (Lit.int .u8 a1).wf = true) :
    Calls Try.prog 5 #[v, .int .u8 a1] w fun e w' => e = .returned (.bool true) ∧ Mem w w' := by
  obtain ⟨oa, ca, rfl, _, _⟩ := id hz
  have hb1 := wf_u8 w1
  clear w1
  obtain ⟨n1, rfl⟩ := Int.eq_ofNat_of_zero_le hb1.1
  obtain ⟨n, hn⟩ : ∃ a : Nat, (n1 : Int) % 70 = (a : Int) := ⟨n1 % 70, by omega⟩
  go_enter Try.func5, Try.ntmps5
  go_wp2_with fail
  (try rw [hn])
  refine (codeNew n _).mono ?_
  rintro e w2 ⟨⟨v2, rfl, ht⟩, m2⟩
  obtain ⟨om, cm, ob, cb, rfl, _, _⟩ := id ht
  go_wp2_with fail
  (try rw [hn])
  refine (refNew7 n _).mono ?_
  rintro e w3 ⟨⟨v3, rfl, hu⟩, m3⟩
  obtain ⟨pm, qm, pb, qb, rfl, _, _⟩ := id hu
  have hnl := newT_len n
  have hnc := cutN_le n
  generalize newT n = t0 at *
  have HL := hide (show t0.1.length ≤ 64 ∧ t0.2.length ≤ 64 by omega)
  clear hnl hnc
  have ma : Mem w3 ((w3.alloc (.cells #[.slice om t0.1.length cm, .slice ob t0.2.length cb] 26)).alloc (.cells #[.slice pm t0.1.length qm, .slice pb t0.2.length qb] 26)) := ((Mem.refl w3).alloc _).alloc _
  have hA0 : Blk ((w3.alloc (.cells #[.slice om t0.1.length cm, .slice ob t0.2.length cb] 26)).alloc (.cells #[.slice pm t0.1.length qm, .slice pb t0.2.length qb] 26)) w3.heap.size 26 #[.slice om t0.1.length cm, .slice ob t0.2.length cb] := (Blk.new w3 _ _).alloc _
  have hB0 : Blk ((w3.alloc (.cells #[.slice om t0.1.length cm, .slice ob t0.2.length cb] 26)).alloc (.cells #[.slice pm t0.1.length qm, .slice pb t0.2.length qb] 26)) (w3.heap.size + 1) 26 #[.slice pm t0.1.length qm, .slice pb t0.2.length qb] := by
    have := Blk.new (w3.alloc (.cells #[.slice om t0.1.length cm, .slice ob t0.2.length cb] 26)) #[.slice pm t0.1.length qm, .slice pb t0.2.length qb] 26
    simpa using this
  have hA := TabAt.of hA0 (((ht.mem m3).mono (S' := fun x => x ≠ w3.heap.size ∧ x ≠ w3.heap.size + 1) fun g _ hl => by omega).mem ma)
  have hB := TabAt.of hB0 ((hu.mono (S' := fun x => x ≠ w3.heap.size ∧ x ≠ w3.heap.size + 1) fun g _ hl => by omega).mem ma)
  have hz1 := hz.mem (m2.trans (m3.trans ma))
  have hm1 := m2.trans (m3.trans ma)
  have hBw : w.heap.size ≤ w3.heap.size := (m2.trans m3).size
  have hBW : w3.heap.size + 2 ≤ ((w3.alloc (.cells #[.slice om t0.1.length cm, .slice ob t0.2.length cb] 26)).alloc (.cells #[.slice pm t0.1.length qm, .slice pb t0.2.length qb] 26)).heap.size := by simp
  clear ht hu m2 m3 hz ma hA0 hB0
  go_wp2_with fail
  generalize (w3.alloc (.cells #[.slice om t0.1.length cm, .slice ob t0.2.length cb] 26)).alloc (.cells #[.slice pm t0.1.length qm, .slice pb t0.2.length qb] 26) = W1 at *
  generalize w3.heap.size = B at *
  refine (lawFounds _ zs _ hz1).mono ?_
  rintro e w4 ⟨⟨v4, rfl, hfd⟩, m4⟩
  obtain ⟨o3, c3, rfl⟩ := hfd.shape
  generalize foundsN zs (min zs.length 10) = fs at *
  replace hA := hA.mem m4
  replace hB := hB.mem m4
  have hm2 := hm1.trans m4
  have hsz2 := Nat.le_trans hBW (Mem.size m4)
  have hfl := hfd.1
  unfold maxLen at hfl
  clear hm1 hz1
  go_wp2_with fail
  go_loopw [8] (fun c wr => ∃ i : Nat, i ≤ fs.length ∧ c = .int .i64 i ∧ TabAt (fun x => x ≠ B ∧ x ≠ B + 1) wr B (foldT (fs.take i) t0) ∧ TabAt (fun x => x ≠ B ∧ x ≠ B + 1) wr (B + 1) (foldT (fs.take i) t0) ∧ FoundsAt (fun x => W1.heap.size ≤ x) wr (.slice o3 fs.length c3) fs ∧ Mem w wr ∧ B + 2 ≤ wr.heap.size) (fun c _ => fs.length - (intOf c).toNat)
  case atStart => exact ⟨0, Nat.zero_le _, rfl, by rw [List.take_zero, fold_nil]; exact hA, by rw [List.take_zero, fold_nil]; exact hB, hfd, hm2, hsz2⟩
  case round =>
    clear hA hB hfd hm2 hsz2 m4
    obtain ⟨i, hi, rfl, hA, hB, hfd, hmr, hsz⟩ := hrel
    have hu := foldT_len (fs.take i) t0
    by_cases hlt : i < fs.length
    · have hlt' : (i : Int) < (fs.length : Int) := by omega
      have hi0 : (0 : Int) ≤ (i : Int) := by omega
      obtain ⟨g, o, ok, ck, ov, cv, rfl, hSg, x0, x1, x2, x3, x4, i3, i4⟩ := hfd.at hlt
      have HT := hide (foldT_take fs t0 hlt)
      obtain ⟨om', cm', ob', cb', hbA, j1, j2⟩ := id hA
      obtain ⟨pm', dm', pb', db', hbB, k1, k2⟩ := id hB
      have b0 := hbA.cell (j := 0) rfl
      have b1 := hbA.cell (j := 1) rfl
      have b2 := hbB.cell (j := 0) rfl
      have b3 := hbB.cell (j := 1) rfl
      generalize foldT (fs.take i) t0 = u at *
      have hl3 : u.1.length ≤ 1000 := by have := HL.out; omega
      have hl4 : u.2.length ≤ 1000 := by have := HL.out; omega
      have HI1 := hide (fun (w' : World) (h : Mem wr w') => And.intro (j1.ints.mem h) (j2.ints.mem h))
      have HI2 := hide (fun (w' : World) (h : Mem wr w') => And.intro (k1.ints.mem h) (k2.ints.mem h))
      have HI3 := hide (fun (w' : World) (h : Mem wr w') => And.intro (i3.ints.mem h) (i4.ints.mem h))
      have HBA := hide hbA
      have HBB := hide hbB
      have N0 := hide (Mem.drew (Mem.refl wr))
      have HX : Hid (∀ w', Mem wr w' → w'.cell? ⟨g, o + i * 5, none⟩ = some (.int .i64 fs[i].1) ∧ w'.cell? ⟨g, o + i * 5 + 1, none⟩ = some (.int .i64 fs[i].2.1) ∧ w'.cell? ⟨g, o + i * 5 + 2, none⟩ = some (.int .i64 fs[i].2.2.1) ∧ w'.cell? ⟨g, o + i * 5 + 3, none⟩ = some (.slice ok fs[i].2.2.2.1.length ck) ∧ w'.cell? ⟨g, o + i * 5 + 4, none⟩ = some (.slice ov fs[i].2.2.2.2.length cv)) := fun w' h => ⟨(Below.cell h (p := ⟨g, o + i * 5, none⟩) (World.block_lt_of_cell? wr _ x0)).trans x0, (Below.cell h (p := ⟨g, o + i * 5 + 1, none⟩) (World.block_lt_of_cell? wr _ x1)).trans x1, (Below.cell h (p := ⟨g, o + i * 5 + 2, none⟩) (World.block_lt_of_cell? wr _ x2)).trans x2, (Below.cell h (p := ⟨g, o + i * 5 + 3, none⟩) (World.block_lt_of_cell? wr _ x3)).trans x3, (Below.cell h (p := ⟨g, o + i * 5 + 4, none⟩) (World.block_lt_of_cell? wr _ x4)).trans x4⟩
      clear hu j1 j2 k1 k2 i3 i4 hbA hbB
      go_wp2_with fail
      go_region_with (first
          | (go_at_call 16; refine (refApply u pm' pb' dm' db' fs[i].1 fs[i].2.1 fs[i].2.2.1 ok ov ck cv fs[i].2.2.2.1 fs[i].2.2.2.2 _ (HI2.out _ N1.out).1 (HI2.out _ N1.out).2 hl3 hl4 (HI3.out _ N1.out).1 (HI3.out _ N1.out).2).mono ?_; rintro e w6 ⟨⟨v6, rfl, h6⟩, n6⟩; obtain ⟨oc, cc, od, cd, rfl, _, _⟩ := id h6; have N2 := hide (Mem.trans N1.out n6); have f0 := (HBA.out.mem N2.out).frozen 0; have f1 := (HBA.out.mem N2.out).frozen 1; have f2 := (HBB.out.mem N2.out).frozen 0; have f3 := (HBB.out.mem N2.out).frozen 1; have q0 := (HBA.out.mem N2.out).cell (j := 0) rfl; have q1 := (HBA.out.mem N2.out).cell (j := 1) rfl; have q2 := (HBB.out.mem N2.out).cell (j := 0) rfl; have q3 := (HBB.out.mem N2.out).cell (j := 1) rfl; have HV6 := hide h6; have HV5b := hide (HV5.out.mem n6); have hC := Blk2.far (HBB.out.mem N2.out) (b' := B) (by omega) (.slice oa5 (applyT u (fs[i].1, fs[i].2.1, fs[i].2.2.1, fs[i].2.2.2.1, fs[i].2.2.2.2)).1.length ca5) (.slice ob5 (applyT u (fs[i].1, fs[i].2.1, fs[i].2.2.1, fs[i].2.2.2.1, fs[i].2.2.2.2)).2.length cb5); have e0 := hC.cell (j := 0) rfl; have e1 := hC.cell (j := 1) rfl; have e2 := hC.frozen 0; have e3 := hC.frozen 1)
          | (go_at_call 15; refine (codeApply u om' ob' cm' cb' fs[i].1 fs[i].2.1 fs[i].2.2.1 ok ov ck cv fs[i].2.2.2.1 fs[i].2.2.2.2 _ (HI1.out _ N0.out).1 (HI1.out _ N0.out).2 hl3 hl4 (HI3.out _ N0.out).1 (HI3.out _ N0.out).2).mono ?_; rintro e w5 ⟨⟨v5, rfl, h5⟩, n5⟩; obtain ⟨oa5, ca5, ob5, cb5, rfl, _, _⟩ := id h5; have N1 := hide (Mem.trans N0.out n5); have HV5 := hide h5; have p0 := (HBB.out.mem N1.out).cell (j := 0) rfl; have p1 := (HBB.out.mem N1.out).cell (j := 1) rfl; have z0 := (HX.out _ N1.out).1; have z1 := (HX.out _ N1.out).2.1; have z2 := (HX.out _ N1.out).2.2.1; have z3 := (HX.out _ N1.out).2.2.2.1; have z4 := (HX.out _ N1.out).2.2.2.2))
      all_goals (
        have hm3 := N2.out
        have hn1 := Mem.size N1.out
        have hV5 := HV5b.out.mono (S' := fun x => x ≠ B ∧ x ≠ B + 1) fun g hg _ => by
          have : wr.heap.size ≤ g := hg
          omega
        have hV6 := HV6.out.mono (S' := fun x => x ≠ B ∧ x ≠ B + 1) fun g hg _ => by
          have : w5.heap.size ≤ g := hg
          omega
        generalize hG : applyT u (fs[i].1, fs[i].2.1, fs[i].2.2.1, fs[i].2.2.2.1, fs[i].2.2.2.2) = u' at *
        replace hG := HT
        have hA3 := TabAt.store (HBA.out.mem hm3) hV5 (fun h => h.1 rfl)
        have hA4 := hA3.far (b := B + 1) (by omega) (fun h => h.2 rfl) (.slice oc u'.1.length cc) (.slice od u'.2.length cd)
        have hB4 := TabAt.store hC (hV6.put2 (b := B) (fun h => h.1 rfl) (.slice oa5 u'.1.length ca5) (.slice ob5 u'.2.length cb5)) (fun h => h.2 rfl)
        have hfd4 := ((((hfd.mem hm3).setCell (p := ⟨B, 0, none⟩) (by show ¬ W1.heap.size ≤ B; omega) (.slice oa5 u'.1.length ca5)).setCell (p := ⟨B, 1, none⟩) (by show ¬ W1.heap.size ≤ B; omega) (.slice ob5 u'.2.length cb5)).setCell (p := ⟨B + 1, 0, none⟩) (by show ¬ W1.heap.size ≤ B + 1; omega) (.slice oc u'.1.length cc)).setCell (p := ⟨B + 1, 1, none⟩) (by show ¬ W1.heap.size ≤ B + 1; omega) (.slice od u'.2.length cd)
        have hm4 := Mem2.put (Mem2.put (hmr.trans hm3) (b := B) hBw (.slice oa5 u'.1.length ca5) (.slice ob5 u'.2.length cb5)) (b := B + 1) (by omega) (.slice oc u'.1.length cc) (.slice od u'.2.length cd)
        have hs4 : B + 2 ≤ ((((w6.setCell ⟨B, 0, none⟩ (.slice oa5 u'.1.length ca5)).setCell ⟨B, 1, none⟩ (.slice ob5 u'.2.length cb5)).setCell ⟨B + 1, 0, none⟩ (.slice oc u'.1.length cc)).setCell ⟨B + 1, 1, none⟩ (.slice od u'.2.length cd)).heap.size := by rw [size_setCell, size_setCell, size_setCell, size_setCell]; exact Nat.le_trans hsz (Mem.size hm3)
        clear hfd hmr hm3 hV5 hV6 hA3 hC HBA HBB HI1 HI2 HI3 HX
        generalize (((w6.setCell ⟨B, 0, none⟩ (.slice oa5 u'.1.length ca5)).setCell ⟨B, 1, none⟩ (.slice ob5 u'.2.length cb5)).setCell ⟨B + 1, 0, none⟩ (.slice oc u'.1.length cc)).setCell ⟨B + 1, 1, none⟩ (.slice od u'.2.length cd) = W5 at *
        go_wp2_with fail
        go_roundw
        case rel => exact ⟨i + 1, by omega, by go_num, by rw [hG.out]; exact hA4, by rw [hG.out]; exact hB4, hfd4, hm4, hs4⟩
        case measure => simp [intOf]; omega)
    · have hie : i = fs.length := by omega
      subst hie
      have hlt' : ¬ ((fs.length : Int) < (fs.length : Int)) := by omega
      rw [List.take_length] at hA hB
      generalize foldT fs t0 = u at *
      clear hu
      go_wp2_with fail
      refine (awake _).mono ?_
      rintro e w6 ⟨rfl, n6⟩
      obtain ⟨pa, qa, pb', qb', d2, e2, f2⟩ := id (hA.mem n6)
      obtain ⟨ra, sa, rb, sb, d3, e3, f3⟩ := id (hB.mem n6)
      have x0 := d2.cell (j := 0) rfl
      have x1 := d2.cell (j := 1) rfl
      have x2 := d3.cell (j := 0) rfl
      have x3 := d3.cell (j := 1) rfl
      go_wp2_with fail
      refine (refSame7 _ _ _ _ u u _ ⟨pa, qa, pb', qb', rfl, e2, f2⟩ ⟨ra, sa, rb, sb, rfl, e3, f3⟩).mono ?_
      rintro e w7 ⟨rfl, n7⟩
      rw [decide_eq_true (rfl : u = u)]
      go_wp2_with fail
      go_ret
      exact ⟨rfl, hmr.trans (n6.trans n7)⟩
end Go.Proofs.Ytbibkheiagglbaa.Replay
