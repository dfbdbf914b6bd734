/-
  Layer 7: what a page tells, put into a table, by the program.
-/
import Derived.Test.YtbibkheiagglbaaReplayRefApply
namespace Go.Proofs.Ytbibkheiagglbaa.Replay
open Go.RowKit Go.Proofs.Ytbibkheiagglbaa.Scan

theorem owns_apart {w1 w2 : World} {b1 b2 : Nat} {e : TypeId} {size : Nat} {v v2 : Value} {n m : Nat} {xs ys : List Value} (h : w1.ownsRow b1 e size v n xs) (h2 : w2.ownsRow b2 e size v2 m ys) (hb : w1.heap.size ≤ b2) : v.ownBlock = none ∨ v.ownBlock ≠ v2.ownBlock := by
  cases hv : v.ownBlock with
  | none => exact .inl rfl
  | some g =>
    refine .inr fun e => ?_
    have hlt := (h.lt g hv).2
    have := (h2.lt g e.symm).1
    omega
set_option maxHeartbeats 4000000 in
set_option maxRecDepth 100000 in
theorem codeApply : ApplySpec 15 := by
  intro t om ob cm cb p k s ok ov ck cv ks vs w ht1 ht2 hl1 hl2 hks hvs
  have hb0 : Blk (((w.alloc (.cells #[.slice om t.1.length cm, .slice ob t.2.length cb] 26)).alloc (.cells #[.int .i64 p, .int .i64 k, .int .i64 s, .slice ok ks.length ck, .slice ov vs.length cv] 32)).alloc (.cells #[.slice none 0 0, .slice none 0 0] 26)) w.heap.size 26 #[.slice om t.1.length cm, .slice ob t.2.length cb] := ((Blk.new w _ _).alloc _).alloc _
  have hb1 : Blk (((w.alloc (.cells #[.slice om t.1.length cm, .slice ob t.2.length cb] 26)).alloc (.cells #[.int .i64 p, .int .i64 k, .int .i64 s, .slice ok ks.length ck, .slice ov vs.length cv] 32)).alloc (.cells #[.slice none 0 0, .slice none 0 0] 26)) (w.heap.size + 1) 32 #[.int .i64 p, .int .i64 k, .int .i64 s, .slice ok ks.length ck, .slice ov vs.length cv] := by
    have := (Blk.new (w.alloc (.cells #[.slice om t.1.length cm, .slice ob t.2.length cb] 26)) #[.int .i64 p, .int .i64 k, .int .i64 s, .slice ok ks.length ck, .slice ov vs.length cv] 32).alloc (.cells #[.slice none 0 0, .slice none 0 0] 26)
    simpa using this
  have hb2 : Blk (((w.alloc (.cells #[.slice om t.1.length cm, .slice ob t.2.length cb] 26)).alloc (.cells #[.int .i64 p, .int .i64 k, .int .i64 s, .slice ok ks.length ck, .slice ov vs.length cv] 32)).alloc (.cells #[.slice none 0 0, .slice none 0 0] 26)) (w.heap.size + 2) 26 #[.slice none 0 0, .slice none 0 0] := by
    have := Blk.new ((w.alloc (.cells #[.slice om t.1.length cm, .slice ob t.2.length cb] 26)).alloc (.cells #[.int .i64 p, .int .i64 k, .int .i64 s, .slice ok ks.length ck, .slice ov vs.length cv] 32)) #[.slice none 0 0, .slice none 0 0] 26
    simpa using this
  have hm : Mem w (((w.alloc (.cells #[.slice om t.1.length cm, .slice ob t.2.length cb] 26)).alloc (.cells #[.int .i64 p, .int .i64 k, .int .i64 s, .slice ok ks.length ck, .slice ov vs.length cv] 32)).alloc (.cells #[.slice none 0 0, .slice none 0 0] 26)) := (((Mem.refl w).alloc _).alloc _).alloc _
  have hsz : (((w.alloc (.cells #[.slice om t.1.length cm, .slice ob t.2.length cb] 26)).alloc (.cells #[.int .i64 p, .int .i64 k, .int .i64 s, .slice ok ks.length ck, .slice ov vs.length cv] 32)).alloc (.cells #[.slice none 0 0, .slice none 0 0] 26)).heap.size = w.heap.size + 3 := by simp
  replace ht1 := ht1.mem hm
  replace ht2 := ht2.mem hm
  go_enter Try.func15, Try.ntmps15
  go_wp2_with fail
  generalize ((w.alloc (.cells #[.slice om t.1.length cm, .slice ob t.2.length cb] 26)).alloc (.cells #[.int .i64 p, .int .i64 k, .int .i64 s, .slice ok ks.length ck, .slice ov vs.length cv] 32)).alloc (.cells #[.slice none 0 0, .slice none 0 0] 26) = W at *
  go_cut [5] (fun a wx => ∃ B gm gb om' ob' cm' cb', a = .pointer (some ⟨B, 0, none⟩) ∧ AppMem w wx (p, k, s, ks, vs) ok ov ck cv B gm gb om' ob' cm' cb' t ∧ Mem W wx)
  case first =>
    have HSZ := hide hsz
    clear hsz
    have x0 := hb0.cell (j := 0) rfl
    have x1 := hb0.cell (j := 1) rfl
    have HK : Hid (∀ w', Mem W w' → w'.cell? ⟨w.heap.size, 0, none⟩ = some (.slice om t.1.length cm) ∧ w'.cell? ⟨w.heap.size, 1, none⟩ = some (.slice ob t.2.length cb)) := fun w' h => ⟨(hb0.mem h).cell (j := 0) rfl, (hb0.mem h).cell (j := 1) rfl⟩
    have H1 := hide (fun (w' : World) (h : Mem W w') => ht1.mem h)
    have H2 := hide (fun (w' : World) (h : Mem W w') => ht2.mem h)
    have N0 := hide (Mem.drew (Mem.refl W))
    have N0a := hide (Mem.drew (Mem.alloc (Mem.refl W) (.cells #[.slice none 0 0, .slice none 0 0] 26)))
    go_region_held3 (fun w' => w'.cell? ⟨w.heap.size, 0, none⟩ = some (.slice om t.1.length cm) ∧ w'.cell? ⟨w.heap.size, 1, none⟩ = some (.slice ob t.2.length cb))
      (first | with_reducible exact HK.out _ N0.out | with_reducible exact HK.out _ N0a.out | with_reducible exact HK.out _ N1.out | with_reducible exact HK.out _ N2.out | with_reducible exact HK.out _ (Mem.alloc N0.out _) | with_reducible exact HK.out _ (Mem.alloc N1.out _) | with_reducible exact HK.out _ (Mem.alloc N2.out _) | exact HK.out _ (Mem2.put N2.out (Nat.le_refl _) _ _) | exact HK.out _ (Mem2.put N2.out N1.out.size _ _) | go_keep)
      (first
        | ((go_at_call 27; refine (codeClone _ t.1 _ (H1.out _ (N0.out)) hl1).mono ?_; rintro e w1 ⟨⟨v1, rfl, o1⟩, n1⟩; obtain ⟨om1, cm1, rfl⟩ := owns_shape o1; have N1 := hide (Mem.trans (N0.out) n1)))
        | ((go_at_call 27; refine (codeClone _ t.1 _ (H1.out _ (N0a.out)) hl1).mono ?_; rintro e w1 ⟨⟨v1, rfl, o1⟩, n1⟩; obtain ⟨om1, cm1, rfl⟩ := owns_shape o1; have N1 := hide (Mem.trans (N0a.out) n1); have bA := Blk.mem (Blk.drew (Blk.new W #[.slice none 0 0, .slice none 0 0] 26)) n1))
        | ((go_at_call 27; refine (codeClone _ t.2 _ (H2.out _ (N1.out)) hl2).mono ?_; rintro e w2 ⟨⟨v2, rfl, o2⟩, n2⟩; obtain ⟨om2, cm2, rfl⟩ := owns_shape o2; have N2 := hide (Mem.trans (N1.out) n2); have bB := Blk.mem bA n2; have q0 := bB.cell (j := 0) rfl; have q1 := bB.cell (j := 1) rfl; have q2 := bB.frozen 0; have q3 := bB.frozen 1))
        | ((go_at_call 27; refine (codeClone _ t.2 _ (H2.out _ (N1.out)) hl2).mono ?_; rintro e w2 ⟨⟨v2, rfl, o2⟩, n2⟩; obtain ⟨om2, cm2, rfl⟩ := owns_shape o2; have N2 := hide (Mem.trans (N1.out) n2)))
        | ((go_at_call 27; refine (codeClone _ t.2 _ (H2.out _ (Mem.alloc N1.out _)) hl2).mono ?_; rintro e w2 ⟨⟨v2, rfl, o2⟩, n2⟩; obtain ⟨om2, cm2, rfl⟩ := owns_shape o2; have N2 := hide (Mem.trans (Mem.alloc N1.out _) n2); have bB := Blk.mem (Blk.new w1 #[.slice none 0 0, .slice none 0 0] 26) n2; have q0 := bB.cell (j := 0) rfl; have q1 := bB.cell (j := 1) rfl; have q2 := bB.frozen 0; have q3 := bB.frozen 1)))
    · have m3 := N2.out.alloc (.cells #[.slice om1 t.1.length cm1, .slice om2 t.2.length cm2] 26)
      have p1 := owns_mono o1 (Nat.le_of_eq HSZ.out.symm)
      have p2 := owns_mono o2 (Nat.le_trans (Nat.le_of_eq HSZ.out.symm) N1.out.size)
      have hst := AppMem.start (f := (p, k, s, ks, vs)) (t := t) (hb1.mem m3) (hb2.mem m3) (Blk.new w2 #[.slice om1 t.1.length cm1, .slice om2 t.2.length cm2] 26) (owns_below p1 (Mem.alloc n2 (.cells #[.slice om1 t.1.length cm1, .slice om2 t.2.length cm2] 26))) (owns_below p2 ((Mem.refl w2).alloc _)) (owns_apart o1 o2 (Nat.le_refl _)) (Nat.le_trans (Nat.le_of_eq HSZ.out.symm) N2.out.size) (fun k hk => Nat.ne_of_lt (Nat.lt_of_lt_of_le (o1.lt k hk).2 (Mem.size n2))) (fun k hk => Nat.ne_of_lt (o2.lt k hk).2) (hm.trans m3)
      (try go_wp2_with fail)
      go_meet
      obtain ⟨gm, gb, om', ob', cm', cb', hA⟩ := hst
      exact ⟨_, gm, gb, om', ob', cm', cb', rfl, hA, m3⟩
    · have m3 := Mem2.put N2.out (b := w1.heap.size) N1.out.size (.slice om1 t.1.length cm1) (.slice om2 t.2.length cm2)
      have p1 := owns_mono o1 (Nat.le_of_eq HSZ.out.symm)
      have p2 := owns_mono o2 (Nat.le_trans (Nat.le_of_eq HSZ.out.symm) (Nat.le_trans N1.out.size (Nat.le_of_lt (new_lt w1 _))))
      have hst := AppMem.start (f := (p, k, s, ks, vs)) (t := t) (hb1.mem m3) (hb2.mem m3) (Blk2.put bB (.slice om1 t.1.length cm1) (.slice om2 t.2.length cm2)) (owns_put2 (owns_below p1 (Mem.trans ((Mem.refl w1).alloc _) n2)) (fun k hk => Nat.ne_of_lt (o1.lt k hk).2) _ _) (owns_put2 p2 (fun k hk => Nat.ne_of_gt (Nat.lt_of_lt_of_le (new_lt w1 _) (o2.lt k hk).1)) _ _) (owns_apart o1 o2 (Nat.le_of_lt (new_lt w1 _))) (Nat.le_trans (Nat.le_of_eq HSZ.out.symm) N1.out.size) (fun k hk => Nat.ne_of_lt (o1.lt k hk).2) (fun k hk => Nat.ne_of_gt (Nat.lt_of_lt_of_le (new_lt w1 _) (o2.lt k hk).1)) (hm.trans m3)
      (try go_wp2_with fail)
      go_meet
      obtain ⟨gm, gb, om', ob', cm', cb', hA⟩ := hst
      exact ⟨_, gm, gb, om', ob', cm', cb', rfl, hA, m3⟩
    · have hs1 : (W.alloc (.cells #[.slice none 0 0, .slice none 0 0] 26)).heap.size ≤ w1.heap.size := by
        have h := n1.size
        exact h
      have m3 := Mem2.put N2.out (b := W.heap.size) (Nat.le_refl _) (.slice om1 t.1.length cm1) (.slice om2 t.2.length cm2)
      have p1 := owns_mono o1 (Nat.le_trans (Nat.le_of_eq HSZ.out.symm) (Nat.le_of_lt (new_lt W _)))
      have p2 := owns_mono o2 (Nat.le_trans (Nat.le_of_eq HSZ.out.symm) N1.out.size)
      have hst := AppMem.start (f := (p, k, s, ks, vs)) (t := t) (hb1.mem m3) (hb2.mem m3) (Blk2.put bB (.slice om1 t.1.length cm1) (.slice om2 t.2.length cm2)) (owns_put2 (owns_below p1 n2) (fun k hk => Nat.ne_of_gt (Nat.lt_of_lt_of_le (new_lt W _) (o1.lt k hk).1)) _ _) (owns_put2 p2 (fun k hk => Nat.ne_of_gt (Nat.lt_of_lt_of_le (Nat.lt_of_lt_of_le (new_lt W (.cells #[.slice none 0 0, .slice none 0 0] 26)) hs1) (o2.lt k hk).1)) _ _) (owns_apart o1 o2 (Nat.le_refl _)) (Nat.le_of_eq HSZ.out.symm) (fun k hk => Nat.ne_of_gt (Nat.lt_of_lt_of_le (new_lt W _) (o1.lt k hk).1)) (fun k hk => Nat.ne_of_gt (Nat.lt_of_lt_of_le (Nat.lt_of_lt_of_le (new_lt W (.cells #[.slice none 0 0, .slice none 0 0] 26)) hs1) (o2.lt k hk).1)) (hm.trans m3)
      (try go_wp2_with fail)
      go_meet
      obtain ⟨gm, gb, om', ob', cm', cb', hA⟩ := hst
      exact ⟨_, gm, gb, om', ob', cm', cb', rfl, hA, m3⟩
  case rest =>
    obtain ⟨B, gm, gb, om', ob', cm', cb', rfl, hA, mW⟩ := hcut
    clear hb0 hb1 hb2 hm ht1 ht2 mW
    have g3 := hA.1.cell (j := 3) rfl
    simp only [List.getElem_toArray, List.getElem_cons_zero, List.getElem_cons_succ] at g3
    go_wp2_with fail
    go_loopw [21] (fun a wr => ∃ i : Nat, i ≤ ks.length ∧ a = .int .i64 i ∧ AppMem w wr (p, k, s, ks, vs) ok ov ck cv B gm gb om' ob' cm' cb' (applyN (p, k, s, ks, vs) t i)) (fun a _ => ks.length - (intOf a).toNat)
    case atStart => exact ⟨0, Nat.zero_le _, rfl, hA⟩
    case round =>
      clear hA g3
      obtain ⟨i, hi, rfl, hA⟩ := hrel
      have hu := applyN_len (p, k, s, ks, vs) t i
      have hu2 := applyN_len (p, k, s, ks, vs) t (i + 1)
      have hkl := hks.1
      unfold maxLen at hkl
      by_cases hlt : i < ks.length
      · have hlt' : (i : Int) < (ks.length : Int) := by omega
        have hi0 : (0 : Int) ≤ (i : Int) := by omega
        obtain ⟨kb, ko, rfl, hc⟩ := (hks.mem hA.2.2.2.2.2.2).at (by omega)
        have c0 := hc i hlt
        clear hc
        have HO : Hid (isSec (applyN (p, k, s, ks, vs) t i) (ks.getD i 0) = false → applyN (p, k, s, ks, vs) t (i + 1) = applyN (p, k, s, ks, vs) t i) := fun h => stepT_out h
        have HNone : Hid (toldT (p, k, s, ks, vs) i = none → applyN (p, k, s, ks, vs) t (i + 1) = applyN (p, k, s, ks, vs) t i) := fun h => stepT_none _ h
        have HIn : Hid (∀ v, toldT (p, k, s, ks, vs) i = some v → isSec (applyN (p, k, s, ks, vs) t i) (ks.getD i 0) = true → applyN (p, k, s, ks, vs) t (i + 1) = ((applyN (p, k, s, ks, vs) t i).1.set (ks.getD i 0).toNat v, (applyN (p, k, s, ks, vs) t i).2.set (ks.getD i 0).toNat p)) := fun v h h' => stepT_in h h'
        have f0 := hA.1.cell (j := 0) rfl
        have f1 := hA.1.cell (j := 1) rfl
        have f2 := hA.1.cell (j := 2) rfl
        have f3 := hA.1.cell (j := 3) rfl
        have f4 := hA.1.cell (j := 4) rfl
        simp only [List.getElem_toArray, List.getElem_cons_zero, List.getElem_cons_succ] at f0 f1 f2 f3 f4
        have hvc := hvs.mem hA.2.2.2.2.2.2
        rw [isSec_len hu] at HO HIn
        generalize ks.getD i 0 = x at c0 HO HIn
        go_wp2_with fail
        refine (codeTold p k s _ ov ck cv ks vs i _ hvc).mono ?_
        rintro e w1 ⟨rfl, m1⟩
        replace hA := hA.mem m1
        clear f0 f1 f2 f3 f4 c0 hvc m1
        have f0 := hA.1.cell (j := 0) rfl
        have b0 := hA.2.2.1.cell (j := 0) rfl
        have b1 := hA.2.2.1.cell (j := 1) rfl
        simp only [List.getElem_toArray, List.getElem_cons_zero, List.getElem_cons_succ, hu.1, hu.2] at f0 b0 b1
        rcases ho : toldT (p, k, s, ks, vs) i with _ | y
        · have hA2 : AppMem w w1 (p, k, s, ks, vs) (some ⟨kb, ko, none⟩) ov ck cv B gm gb om' ob' cm' cb' (applyN (p, k, s, ks, vs) t (i + 1)) := by rw [HNone.out ho]; exact hA
          clear HO HNone HIn hA hu hu2 ho
          go_wp2_with fail
          go_roundw
          case rel => exact ⟨i + 1, by omega, by go_num, hA2⟩
          case measure => simp [intOf]; omega
        · replace HIn := hide (HIn.out y ho)
          clear HNone ho
          go_wp2_with fail
          refine (codeIsSector om' ob' cm' cb' t x _).mono ?_
          rintro e w2 ⟨rfl, m2⟩
          replace hA := hA.mem m2
          clear m2 f0 b0 b1
          have f0 := hA.1.cell (j := 0) rfl
          have b0 := hA.2.2.1.cell (j := 0) rfl
          have b1 := hA.2.2.1.cell (j := 1) rfl
          simp only [List.getElem_toArray, List.getElem_cons_zero, List.getElem_cons_succ, hu.1, hu.2] at f0 b0 b1
          rcases hsec : isSec t x with _ | _
          · have hA2 : AppMem w w2 (p, k, s, ks, vs) (some ⟨kb, ko, none⟩) ov ck cv B gm gb om' ob' cm' cb' (applyN (p, k, s, ks, vs) t (i + 1)) := by rw [HO.out hsec]; exact hA
            clear HO HIn hA hu hu2 hsec
            go_wp2_with fail
            go_roundw
            case rel => exact ⟨i + 1, by omega, by go_num, hA2⟩
            case measure => simp [intOf]; omega
          · replace HIn := hide (HIn.out hsec)
            clear HO
            rw [isSec_iff] at hsec
            obtain ⟨hx0, hx1, hx2⟩ := hsec
            obtain ⟨j, rfl⟩ : ∃ j : Nat, x = (j : Int) := ⟨x.toNat, by omega⟩
            rw [Int.toNat_natCast] at HIn
            have ho1 := hA.2.2.2.1.addr (by omega)
            have ho2 := hA.2.2.2.2.1.addr (by omega)
            subst ho1
            subst ho2
            have hfg1 : w.heap.size + 1 ≠ gm := by have := hA.2.2.2.2.2.1; omega
            have HS0 := hide (hold hA.1.drew hA.2.2.1.drew hu.1 hu.2)
            have hA2 := hA.put j y p
            rw [← HIn.out] at hA2
            have r0 := hA.2.2.2.1.cell (k := j) (by omega)
            have r1 := hA.2.2.2.1.frozen (by omega) j
            have r2 := hA.2.2.2.2.1.cell (k := j) (by omega)
            have r3 := hA.2.2.2.2.1.frozen (by omega) j
            obtain ⟨_, _, _, hg1, hg2, hg3⟩ := hA.2.2.2.2.2.1
            have hR2 := hA.2.2.2.2.1.other (p := ⟨gm, j, none⟩) (Ne.symm hg1) (.int .i64 y)
            have r4 := hR2.cell (k := j) (by omega)
            have r5 := hR2.frozen (by omega) j
            have HS1 := hide (hold (w' := (w2.setCell ⟨gm, j, none⟩ (.int .i64 y)).drew) (hA.1.other (a := ⟨gm, j, none⟩) hfg1 (.int .i64 y)) (hA.2.2.1.other (a := ⟨gm, j, none⟩) (Ne.symm hg2) (.int .i64 y)) hu.1 hu.2)
            have HS2 := hide (hold hA2.1.drew hA2.2.2.1.drew hu2.1 hu2.2)
            have HA2 := hide (hA2.mem (Mem.drew (Mem.refl _)))
            clear hA hA2 hR2
            go_wp2_with fail
            go_region_held3 (fun w' => w'.cell? ⟨w.heap.size + 1, 0, none⟩ = some (.int .i64 p) ∧ w'.cell? ⟨w.heap.size + 1, 1, none⟩ = some (.int .i64 k) ∧ w'.cell? ⟨w.heap.size + 1, 4, none⟩ = some (.slice ov vs.length cv) ∧ w'.cell? ⟨B, 0, none⟩ = some (.slice (some ⟨gm, 0, none⟩) t.1.length cm') ∧ w'.cell? ⟨B, 1, none⟩ = some (.slice (some ⟨gb, 0, none⟩) t.2.length cb'))
              (first | with_reducible exact HS0.out | with_reducible exact HS1.out | with_reducible exact HS2.out)
              (fail)
            go_wp2_with fail
            go_roundw
            case rel => exact ⟨i + 1, by omega, by go_num, HA2.out⟩
            case measure => simp [intOf]; omega
      · have hie : i = ks.length := by omega
        subst hie
        have hlt' : ¬ ((ks.length : Int) < (ks.length : Int)) := by omega
        have b0 := hA.2.2.1.cell (j := 0) rfl
        have b1 := hA.2.2.1.cell (j := 1) rfl
        simp only [List.getElem_toArray, List.getElem_cons_zero, List.getElem_cons_succ, hu.1, hu.2] at b0 b1
        have e0 := hA.2.1.cell (j := 0) rfl
        have e1 := hA.2.1.cell (j := 1) rfl
        have e2 := hA.2.1.frozen 0
        have e3 := hA.2.1.frozen 1
        have hT := hA.out (by omega) (by omega)
        rw [hu.1, hu.2] at hT
        have hZ := Blk2.put hA.2.1 (.slice om' t.1.length cm') (.slice ob' t.2.length cb')
        have hmZ := Mem2.put hA.2.2.2.2.2.2 (b := w.heap.size + 2) (by omega) (.slice om' t.1.length cm') (.slice ob' t.2.length cb')
        clear hA hu hu2
        go_wp2_with fail
        exact bodyPost_ret (ret_tab rfl _ _ rfl hZ) rfl ⟨⟨_, rfl, hT⟩, hmZ⟩
end Go.Proofs.Ytbibkheiagglbaa.Replay
