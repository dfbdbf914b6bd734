/-
  Layer 7: the walk of ReplayOrder.
-/
import Derived.Test.YtbibkheiagglbaaReplayAwake
import Derived.Test.YtbibkheiagglbaaReplayLawMath
import Derived.Deep.DeepCutAuto
namespace Go.Proofs.Ytbibkheiagglbaa.Replay
open Go.RowKit Go.Proofs.Ytbibkheiagglbaa.Scan Go.Proofs.Ytbibkheiagglbaa.Nand

theorem bool_eq {a b : Bool} (h : a = b) : Value.bool a = Value.bool b := by rw [h]
theorem blk_2nd (w : World) (o : Obj) (cs : Array Value) (t : TypeId) : Blk ((w.alloc o).alloc (.cells cs t)) (w.heap.size + 1) t cs := by
  have := Blk.new (w.alloc o) cs t
  simpa using this
/-- a table, stored into a variable that was there, or into a new one -/
theorem tab_old {w : World} {B base : Nat} {t : TableT} {a0 a1 : Value} {om ob : Option Addr} {cm cb : Nat} (hB : Blk w B 26 #[a0, a1]) (h : TabV (fun x => base ≤ x) w (.agg #[.slice om t.1.length cm, .slice ob t.2.length cb]) t) (hb : B < base) :
    TabAt (fun _ => True) ((w.setCell ⟨B, 0, none⟩ (.slice om t.1.length cm)).setCell ⟨B, 1, none⟩ (.slice ob t.2.length cb)) B t := by
  obtain ⟨p, q, r, s, h0, h1, h2⟩ := TabAt.store hB h (by omega)
  exact ⟨p, q, r, s, h0, h1.mono fun _ _ _ => trivial, h2.mono fun _ _ _ => trivial⟩
theorem tab_new {w : World} {S : Nat → Prop} {t : TableT} {om ob : Option Addr} {cm cb : Nat} (h : TabV S w (.agg #[.slice om t.1.length cm, .slice ob t.2.length cb]) t) : TabAt (fun _ => True) (w.alloc (.cells #[.slice om t.1.length cm, .slice ob t.2.length cb] 26)) w.heap.size t :=
  TabAt.of (Blk.new w _ _) ((h.mono fun _ _ _ => trivial).mem ((Mem.refl w).alloc _))
attribute [local irreducible] applyT foldT newT
set_option maxHeartbeats 4000000 in
set_option maxRecDepth 100000 in
theorem replayOrder_walk (a0 : Option Addr) (len0 cap0 : Nat) (z0 : List Int) (a1 : Option Addr) (len1 cap1 : Nat) (z1 : List Int) (a2 : Int) (w : World) (w0 : IsRow .u16 w a0 len0 cap0 z0) (w1 : IsRow .u16 w a1 len1 cap1 z1) (w2 : (Lit.int .u8 a2).wf = true) :
    Calls Try.prog 9 #[.slice a0 len0 cap0, .slice a1 len1 cap1, .int .u8 a2] w fun e w' => e = .returned (.bool true) ∧ Mem w w' := by
  obtain ⟨hz, hwf⟩ := Ints.of_row w0
  obtain ⟨hz1, hwf1⟩ := Ints.of_row w1
  have HZ : Hid (∀ x ∈ z0.take len0, 0 ≤ x ∧ x ≤ 65535) := fun x h => wf_u16 (hwf x h)
  have HZ1 : Hid (∀ x ∈ z1.take len1, 0 ≤ x ∧ x ≤ 65535) := fun x h => wf_u16 (hwf1 x h)
  clear hwf w0 hwf1 w1
  generalize z0.take len0 = zf at *
  generalize z1.take len1 = zg at *
  have hb2 := wf_u8 w2
  clear w2
  obtain ⟨n2, rfl⟩ := Int.eq_ofNat_of_zero_le hb2.1
  obtain ⟨n, hn⟩ : ∃ a : Nat, (n2 : Int) % 65 = (a : Int) := ⟨n2 % 65, by omega⟩
  have hn1 : n ≤ 64 := by omega
  go_enter Try.func9, Try.ntmps9
  go_wp2_with fail
  refine (awake _).mono ?_
  rintro e w1 ⟨rfl, m1⟩
  have hz2 := hz.mem m1
  have hz3 := hz1.mem m1
  clear hz hz1
  go_wp2_with fail
  refine (Tag.lawMade _ zf _ hz2 HZ.out).mono ?_
  rintro e w2 ⟨⟨vk, vv, rfl, hF⟩, m2⟩
  obtain ⟨hfk, hfv⟩ := hF.ints
  have hz4 := hz3.mem m2
  clear hF hz2 hz3
  go_wp2_with fail
  refine (Tag.lawMade _ zg _ hz4 HZ1.out).mono ?_
  rintro e w3 ⟨⟨uk, uv, rfl, hG⟩, m3⟩
  obtain ⟨hgk, hgv⟩ := hG.ints
  replace hfk := hfk.mem m3
  replace hfv := hfv.mem m3
  have m4 := m1.trans (m2.trans m3)
  clear hG hz4 m1 m2 m3 HZ HZ1
  generalize Tag.mkK zf = kf at *
  generalize Tag.mkS zf = sf at *
  generalize Tag.mkKeys zf = ksf at *
  generalize Tag.mkVals zf = vsf at *
  generalize Tag.mkK zg = kg at *
  generalize Tag.mkS zg = sg at *
  generalize Tag.mkKeys zg = ksg at *
  generalize Tag.mkVals zg = vsg at *
  obtain ⟨ok, ck, rfl⟩ := hfk.shape
  obtain ⟨ov, cv, rfl⟩ := hfv.shape
  obtain ⟨pk, dk, rfl⟩ := hgk.shape
  obtain ⟨pv, dv, rfl⟩ := hgv.shape
  have ma : Mem w3 ((w3.alloc (.cells #[.int .i64 kf, .int .i64 sf, .slice ok ksf.length ck, .slice ov vsf.length cv] 30)).alloc (.cells #[.int .i64 kg, .int .i64 sg, .slice pk ksg.length dk, .slice pv vsg.length dv] 30)) := ((Mem.refl w3).alloc _).alloc _
  have hF : Blk ((w3.alloc (.cells #[.int .i64 kf, .int .i64 sf, .slice ok ksf.length ck, .slice ov vsf.length cv] 30)).alloc (.cells #[.int .i64 kg, .int .i64 sg, .slice pk ksg.length dk, .slice pv vsg.length dv] 30)) w3.heap.size 30 #[.int .i64 kf, .int .i64 sf, .slice ok ksf.length ck, .slice ov vsf.length cv] := (Blk.new w3 _ _).alloc _
  have hG : Blk ((w3.alloc (.cells #[.int .i64 kf, .int .i64 sf, .slice ok ksf.length ck, .slice ov vsf.length cv] 30)).alloc (.cells #[.int .i64 kg, .int .i64 sg, .slice pk ksg.length dk, .slice pv vsg.length dv] 30)) (w3.heap.size + 1) 30 #[.int .i64 kg, .int .i64 sg, .slice pk ksg.length dk, .slice pv vsg.length dv] := by
    have := Blk.new (w3.alloc (.cells #[.int .i64 kf, .int .i64 sf, .slice ok ksf.length ck, .slice ov vsf.length cv] 30)) #[.int .i64 kg, .int .i64 sg, .slice pk ksg.length dk, .slice pv vsg.length dv] 30
    simpa using this
  replace hfk := hfk.mem ma
  replace hfv := hfv.mem ma
  replace hgk := hgk.mem ma
  replace hgv := hgv.mem ma
  have m5 := m4.trans ma
  clear m4 ma
  go_wp2_with fail
  generalize (w3.alloc (.cells #[.int .i64 kf, .int .i64 sf, .slice ok ksf.length ck, .slice ov vsf.length cv] 30)).alloc (.cells #[.int .i64 kg, .int .i64 sg, .slice pk ksg.length dk, .slice pv vsg.length dv] 30) = W at *
  generalize w3.heap.size = Br at *
  go_cut [10, 11] (fun a b wx => ∃ B10 B11 : Nat, a = .pointer (some ⟨B10, 0, none⟩) ∧ b = .pointer (some ⟨B11, 0, none⟩) ∧ Blk wx B10 32 #[.int .i64 3, .int .i64 kf, .int .i64 sf, .slice ok ksf.length ck, .slice ov vsf.length cv] ∧ Blk wx B11 32 #[.int .i64 9, .int .i64 kg, .int .i64 sg, .slice pk ksg.length dk, .slice pv vsg.length dv] ∧ Mem W wx)
  case first =>
    have f0 := hF.cell (j := 0) rfl
    have f1 := hF.cell (j := 1) rfl
    have f2 := hF.cell (j := 2) rfl
    have f3 := hF.cell (j := 3) rfl
    have g0 := hG.cell (j := 0) rfl
    have g1 := hG.cell (j := 1) rfl
    have g2 := hG.cell (j := 2) rfl
    have g3 := hG.cell (j := 3) rfl
    have HK : Hid (∀ w', Mem W w' → w'.cell? ⟨Br, 0, none⟩ = some (.int .i64 kf) ∧ w'.cell? ⟨Br, 1, none⟩ = some (.int .i64 sf) ∧ w'.cell? ⟨Br, 2, none⟩ = some (.slice ok ksf.length ck) ∧ w'.cell? ⟨Br, 3, none⟩ = some (.slice ov vsf.length cv) ∧ w'.cell? ⟨Br + 1, 0, none⟩ = some (.int .i64 kg) ∧ w'.cell? ⟨Br + 1, 1, none⟩ = some (.int .i64 sg) ∧ w'.cell? ⟨Br + 1, 2, none⟩ = some (.slice pk ksg.length dk) ∧ w'.cell? ⟨Br + 1, 3, none⟩ = some (.slice pv vsg.length dv)) := fun w' h => ⟨(hF.mem h).cell (j := 0) rfl, (hF.mem h).cell (j := 1) rfl, (hF.mem h).cell (j := 2) rfl, (hF.mem h).cell (j := 3) rfl, (hG.mem h).cell (j := 0) rfl, (hG.mem h).cell (j := 1) rfl, (hG.mem h).cell (j := 2) rfl, (hG.mem h).cell (j := 3) rfl⟩
    go_region_held3 (fun w' => w'.cell? ⟨Br, 0, none⟩ = some (.int .i64 kf) ∧ w'.cell? ⟨Br, 1, none⟩ = some (.int .i64 sf) ∧ w'.cell? ⟨Br, 2, none⟩ = some (.slice ok ksf.length ck) ∧ w'.cell? ⟨Br, 3, none⟩ = some (.slice ov vsf.length cv) ∧ w'.cell? ⟨Br + 1, 0, none⟩ = some (.int .i64 kg) ∧ w'.cell? ⟨Br + 1, 1, none⟩ = some (.int .i64 sg) ∧ w'.cell? ⟨Br + 1, 2, none⟩ = some (.slice pk ksg.length dk) ∧ w'.cell? ⟨Br + 1, 3, none⟩ = some (.slice pv vsg.length dv))
      (first | with_reducible exact HK.out _ (Mem.drew (Mem.refl _)) | with_reducible exact HK.out _ (Mem.drew (Mem.alloc (Mem.refl _) _)) | with_reducible exact HK.out _ (Mem.drew (Mem.alloc (Mem.alloc (Mem.refl _) _) _)))
      (fail)
    · have h10 := ((Blk.new W #[.int .i64 3, .int .i64 kf, .int .i64 sf, .slice ok ksf.length ck, .slice ov vsf.length cv] 32).alloc (.cells #[.int .i64 9, .int .i64 kg, .int .i64 sg, .slice pk ksg.length dk, .slice pv vsg.length dv] 32)).drew
      have h11 := (blk_2nd W (.cells #[.int .i64 3, .int .i64 kf, .int .i64 sf, .slice ok ksf.length ck, .slice ov vsf.length cv] 32) #[.int .i64 9, .int .i64 kg, .int .i64 sg, .slice pk ksg.length dk, .slice pv vsg.length dv] 32).drew
      (try go_wp2_with fail)
      go_meet
      exact ⟨_, _, rfl, rfl, h10, h11, ((((Mem.refl W).alloc _).alloc _)).drew⟩
    · have h11 := ((Blk.new W #[.int .i64 9, .int .i64 kg, .int .i64 sg, .slice pk ksg.length dk, .slice pv vsg.length dv] 32).alloc (.cells #[.int .i64 3, .int .i64 kf, .int .i64 sf, .slice ok ksf.length ck, .slice ov vsf.length cv] 32)).drew
      have h10 := (blk_2nd W (.cells #[.int .i64 9, .int .i64 kg, .int .i64 sg, .slice pk ksg.length dk, .slice pv vsg.length dv] 32) #[.int .i64 3, .int .i64 kf, .int .i64 sf, .slice ok ksf.length ck, .slice ov vsf.length cv] 32).drew
      (try go_wp2_with fail)
      go_meet
      exact ⟨_, _, rfl, rfl, h10, h11, ((((Mem.refl W).alloc _).alloc _)).drew⟩
  case rest =>
  obtain ⟨B10, B11, rfl, rfl, h10, h11, mx⟩ := hcut
  replace hF := hF.mem mx
  replace hG := hG.mem mx
  replace hfk := hfk.mem mx
  replace hfv := hfv.mem mx
  replace hgk := hgk.mem mx
  replace hgv := hgv.mem mx
  have m6 := m5.trans mx
  clear m5 mx
  go_wp2_with fail
  (try rw [hn])
  refine (codeNew n _).mono ?_
  rintro e w4 ⟨⟨v4, rfl, ht⟩, m4⟩
  have hnl := newT_len n
  have hnc : cutN n = n := by unfold cutN; omega
  generalize newT n = t0 at *
  have hl1 : t0.1.length ≤ 1000 := by omega
  have hl2 : t0.2.length ≤ 1000 := by omega
  have HTL := hide (show t0.1.length = n ∧ t0.2.length = n by omega)
  clear hnl hnc
  obtain ⟨om, cm, ob, cb, rfl, i1, i2⟩ := id ht
  have ma : Mem w4 (w4.alloc (.cells #[.slice om t0.1.length cm, .slice ob t0.2.length cb] 26)) := (Mem.refl w4).alloc _
  have h12 := Blk.new w4 #[.slice om t0.1.length cm, .slice ob t0.2.length cb] 26
  have mm := m4.trans ma
  replace hF := hF.mem mm
  replace hG := hG.mem mm
  replace h10 := h10.mem mm
  replace h11 := h11.mem mm
  replace hfk := hfk.mem mm
  replace hfv := hfv.mem mm
  replace hgk := hgk.mem mm
  replace hgv := hgv.mem mm
  replace i1 := i1.ints.mem ma
  replace i2 := i2.ints.mem ma
  have m7 := m6.trans mm
  clear m6 mm ma m4 ht
  go_wp2_with fail
  generalize w4.alloc (.cells #[.slice om t0.1.length cm, .slice ob t0.2.length cb] 26) = W7 at *
  generalize w4.heap.size = B12 at *
  have HT := hide (fun (w' : World) (h : Mem W7 w') => And.intro (i1.mem h) (i2.mem h))
  have HA := hide (fun (w' : World) (h : Mem W7 w') => And.intro (hfk.mem h) (hfv.mem h))
  have HB := hide (fun (w' : World) (h : Mem W7 w') => And.intro (hgk.mem h) (hgv.mem h))
  go_cut [13] (fun a wx => ∃ B : Nat, a = .pointer (some ⟨B, 0, none⟩) ∧ TabAt (fun _ => True) wx B (applyT (applyT t0 (3, kf, sf, ksf, vsf)) (9, kg, sg, ksg, vsg)) ∧ Mem W7 wx)
  case first =>
    have HK : Hid (∀ w', Mem W7 w' → w'.cell? ⟨B12, 0, none⟩ = some (.slice om t0.1.length cm) ∧ w'.cell? ⟨B12, 1, none⟩ = some (.slice ob t0.2.length cb) ∧ w'.cell? ⟨B10, 0, none⟩ = some (.int .i64 3) ∧ w'.cell? ⟨B10, 1, none⟩ = some (.int .i64 kf) ∧ w'.cell? ⟨B10, 2, none⟩ = some (.int .i64 sf) ∧ w'.cell? ⟨B10, 3, none⟩ = some (.slice ok ksf.length ck) ∧ w'.cell? ⟨B10, 4, none⟩ = some (.slice ov vsf.length cv) ∧ w'.cell? ⟨B11, 0, none⟩ = some (.int .i64 9) ∧ w'.cell? ⟨B11, 1, none⟩ = some (.int .i64 kg) ∧ w'.cell? ⟨B11, 2, none⟩ = some (.int .i64 sg) ∧ w'.cell? ⟨B11, 3, none⟩ = some (.slice pk ksg.length dk) ∧ w'.cell? ⟨B11, 4, none⟩ = some (.slice pv vsg.length dv)) := fun w' h => ⟨(h12.mem h).cell (j := 0) rfl, (h12.mem h).cell (j := 1) rfl, (h10.mem h).cell (j := 0) rfl, (h10.mem h).cell (j := 1) rfl, (h10.mem h).cell (j := 2) rfl, (h10.mem h).cell (j := 3) rfl, (h10.mem h).cell (j := 4) rfl, (h11.mem h).cell (j := 0) rfl, (h11.mem h).cell (j := 1) rfl, (h11.mem h).cell (j := 2) rfl, (h11.mem h).cell (j := 3) rfl, (h11.mem h).cell (j := 4) rfl⟩
    have k0 := HK.out W7 (Mem.refl _)
    obtain ⟨x0, x1, x2, x3, x4, x5, x6, x7, x8, x9, x10, x11⟩ := k0
    have N0 := hide (Mem.drew (Mem.refl W7))
    have N0a := hide (Mem.drew (Mem.alloc (Mem.refl W7) (.cells #[.slice none 0 0, .slice none 0 0] 26)))
    have hl3 := (applyT_len t0 (3, kf, sf, ksf, vsf)).1
    have hl4 := (applyT_len t0 (3, kf, sf, ksf, vsf)).2
    have HL3 : Hid ((applyT t0 (3, kf, sf, ksf, vsf)).1.length ≤ 1000) := by unfold Hid; omega
    have HL4 : Hid ((applyT t0 (3, kf, sf, ksf, vsf)).2.length ≤ 1000) := by unfold Hid; omega
    clear hl3 hl4
    go_region_held3 (fun w' => w'.cell? ⟨B12, 0, none⟩ = some (.slice om t0.1.length cm) ∧ w'.cell? ⟨B12, 1, none⟩ = some (.slice ob t0.2.length cb) ∧ w'.cell? ⟨B10, 0, none⟩ = some (.int .i64 3) ∧ w'.cell? ⟨B10, 1, none⟩ = some (.int .i64 kf) ∧ w'.cell? ⟨B10, 2, none⟩ = some (.int .i64 sf) ∧ w'.cell? ⟨B10, 3, none⟩ = some (.slice ok ksf.length ck) ∧ w'.cell? ⟨B10, 4, none⟩ = some (.slice ov vsf.length cv) ∧ w'.cell? ⟨B11, 0, none⟩ = some (.int .i64 9) ∧ w'.cell? ⟨B11, 1, none⟩ = some (.int .i64 kg) ∧ w'.cell? ⟨B11, 2, none⟩ = some (.int .i64 sg) ∧ w'.cell? ⟨B11, 3, none⟩ = some (.slice pk ksg.length dk) ∧ w'.cell? ⟨B11, 4, none⟩ = some (.slice pv vsg.length dv))
      (first | with_reducible exact HK.out _ N0.out | with_reducible exact HK.out _ N0a.out | with_reducible exact HK.out _ N1.out | with_reducible exact HK.out _ N2.out | with_reducible exact HK.out _ (Mem.alloc N1.out _) | with_reducible exact HK.out _ (Mem.alloc N2.out _) | exact HK.out _ (Mem2.put N2.out (Nat.le_refl _) _ _) | exact HK.out _ (Mem2.put N2.out N1.out.size _ _))
      (first
        | ((go_at_call 15; refine (codeApply (applyT t0 (3, kf, sf, ksf, vsf)) oa1 ob1 ca1 cb1 9 kg sg pk pv dk dv ksg vsg _ (j1.ints) (j2.ints) HL3.out HL4.out (HB.out _ (N1.out)).1 (HB.out _ (N1.out)).2).mono ?_; rintro e w2 ⟨⟨v2, rfl, h2⟩, n2⟩; obtain ⟨oa2, ca2, ob2, cb2, rfl, _, _⟩ := id h2; have N2 := hide (Mem.trans (N1.out) n2); have bB := Blk.mem bA n2; have q0 := bB.cell (j := 0) rfl; have q1 := bB.cell (j := 1) rfl; have q2 := bB.frozen 0; have q3 := bB.frozen 1))
        | ((go_at_call 15; refine (codeApply (applyT t0 (3, kf, sf, ksf, vsf)) oa1 ob1 ca1 cb1 9 kg sg pk pv dk dv ksg vsg _ (j1.ints) (j2.ints) HL3.out HL4.out (HB.out _ (N1.out)).1 (HB.out _ (N1.out)).2).mono ?_; rintro e w2 ⟨⟨v2, rfl, h2⟩, n2⟩; obtain ⟨oa2, ca2, ob2, cb2, rfl, _, _⟩ := id h2; have N2 := hide (Mem.trans (N1.out) n2)))
        | ((go_at_call 15; refine (codeApply (applyT t0 (3, kf, sf, ksf, vsf)) oa1 ob1 ca1 cb1 9 kg sg pk pv dk dv ksg vsg _ ((j1.mem ((Mem.refl _).alloc _)).ints) ((j2.mem ((Mem.refl _).alloc _)).ints) HL3.out HL4.out (HB.out _ (Mem.alloc N1.out _)).1 (HB.out _ (Mem.alloc N1.out _)).2).mono ?_; rintro e w2 ⟨⟨v2, rfl, h2⟩, n2⟩; obtain ⟨oa2, ca2, ob2, cb2, rfl, _, _⟩ := id h2; have N2 := hide (Mem.trans (Mem.alloc N1.out _) n2); have bB := Blk.mem (Blk.new w1 #[.slice none 0 0, .slice none 0 0] 26) n2; have q0 := bB.cell (j := 0) rfl; have q1 := bB.cell (j := 1) rfl; have q2 := bB.frozen 0; have q3 := bB.frozen 1))
        | ((go_at_call 15; refine (codeApply t0 om ob cm cb 3 kf sf ok ov ck cv ksf vsf _ (HT.out _ N0.out).1 (HT.out _ N0.out).2 hl1 hl2 (HA.out _ N0.out).1 (HA.out _ N0.out).2).mono ?_; rintro e w1 ⟨⟨v1, rfl, h1⟩, n1⟩; obtain ⟨oa1, ca1, ob1, cb1, rfl, j1, j2⟩ := h1; have N1 := hide (Mem.trans N0.out n1)))
        | ((go_at_call 15; refine (codeApply t0 om ob cm cb 3 kf sf ok ov ck cv ksf vsf _ (HT.out _ N0a.out).1 (HT.out _ N0a.out).2 hl1 hl2 (HA.out _ N0a.out).1 (HA.out _ N0a.out).2).mono ?_; rintro e w1 ⟨⟨v1, rfl, h1⟩, n1⟩; obtain ⟨oa1, ca1, ob1, cb1, rfl, j1, j2⟩ := h1; have N1 := hide (Mem.trans N0a.out n1); have bA := Blk.mem (Blk.drew (Blk.new W7 #[.slice none 0 0, .slice none 0 0] 26)) n1)))
    · have m3 := N2.out.alloc (.cells #[.slice oa2 (applyT (applyT t0 (3, kf, sf, ksf, vsf)) (9, kg, sg, ksg, vsg)).1.length ca2, .slice ob2 (applyT (applyT t0 (3, kf, sf, ksf, vsf)) (9, kg, sg, ksg, vsg)).2.length cb2] 26)
      have hst := tab_new h2
      (try go_wp2_with fail)
      go_meet
      exact ⟨_, rfl, hst, m3⟩
    · have m3 := Mem2.put N2.out (b := w1.heap.size) N1.out.size (.slice oa2 (applyT (applyT t0 (3, kf, sf, ksf, vsf)) (9, kg, sg, ksg, vsg)).1.length ca2) (.slice ob2 (applyT (applyT t0 (3, kf, sf, ksf, vsf)) (9, kg, sg, ksg, vsg)).2.length cb2)
      have hst := tab_old bB h2 (new_lt w1 _)
      (try go_wp2_with fail)
      go_meet
      exact ⟨_, rfl, hst, m3⟩
    · have hs1 : (W7.alloc (.cells #[.slice none 0 0, .slice none 0 0] 26)).heap.size ≤ w1.heap.size := by
        have h := n1.size
        exact h
      have m3 := Mem2.put N2.out (b := W7.heap.size) (Nat.le_refl _) (.slice oa2 (applyT (applyT t0 (3, kf, sf, ksf, vsf)) (9, kg, sg, ksg, vsg)).1.length ca2) (.slice ob2 (applyT (applyT t0 (3, kf, sf, ksf, vsf)) (9, kg, sg, ksg, vsg)).2.length cb2)
      have hst := tab_old bB h2 (Nat.lt_of_lt_of_le (new_lt W7 _) hs1)
      (try go_wp2_with fail)
      go_meet
      exact ⟨_, rfl, hst, m3⟩
  case rest =>
  obtain ⟨B13, rfl, h13, mx⟩ := hcut
  replace hF := hF.mem mx
  replace hG := hG.mem mx
  replace h10 := h10.mem mx
  replace h11 := h11.mem mx
  replace h12 := h12.mem mx
  replace hfk := hfk.mem mx
  replace hfv := hfv.mem mx
  replace hgk := hgk.mem mx
  replace hgv := hgv.mem mx
  replace i1 := i1.mem mx
  replace i2 := i2.mem mx
  have m8 := m7.trans mx
  clear m7 HT HA HB mx
  go_wp2_with fail
  generalize hgw : wc = W8 at *
  clear hgw
  have HT := hide (fun (w' : World) (h : Mem W8 w') => And.intro (i1.mem h) (i2.mem h))
  have HA := hide (fun (w' : World) (h : Mem W8 w') => And.intro (hfk.mem h) (hfv.mem h))
  have HB := hide (fun (w' : World) (h : Mem W8 w') => And.intro (hgk.mem h) (hgv.mem h))
  go_cut [14] (fun a wx => ∃ B : Nat, a = .pointer (some ⟨B, 0, none⟩) ∧ TabAt (fun _ => True) wx B (applyT (applyT t0 (9, kg, sg, ksg, vsg)) (3, kf, sf, ksf, vsf)) ∧ Mem W8 wx)
  case first =>
    have HK : Hid (∀ w', Mem W8 w' → w'.cell? ⟨B12, 0, none⟩ = some (.slice om t0.1.length cm) ∧ w'.cell? ⟨B12, 1, none⟩ = some (.slice ob t0.2.length cb) ∧ w'.cell? ⟨B10, 0, none⟩ = some (.int .i64 3) ∧ w'.cell? ⟨B10, 1, none⟩ = some (.int .i64 kf) ∧ w'.cell? ⟨B10, 2, none⟩ = some (.int .i64 sf) ∧ w'.cell? ⟨B10, 3, none⟩ = some (.slice ok ksf.length ck) ∧ w'.cell? ⟨B10, 4, none⟩ = some (.slice ov vsf.length cv) ∧ w'.cell? ⟨B11, 0, none⟩ = some (.int .i64 9) ∧ w'.cell? ⟨B11, 1, none⟩ = some (.int .i64 kg) ∧ w'.cell? ⟨B11, 2, none⟩ = some (.int .i64 sg) ∧ w'.cell? ⟨B11, 3, none⟩ = some (.slice pk ksg.length dk) ∧ w'.cell? ⟨B11, 4, none⟩ = some (.slice pv vsg.length dv)) := fun w' h => ⟨(h12.mem h).cell (j := 0) rfl, (h12.mem h).cell (j := 1) rfl, (h10.mem h).cell (j := 0) rfl, (h10.mem h).cell (j := 1) rfl, (h10.mem h).cell (j := 2) rfl, (h10.mem h).cell (j := 3) rfl, (h10.mem h).cell (j := 4) rfl, (h11.mem h).cell (j := 0) rfl, (h11.mem h).cell (j := 1) rfl, (h11.mem h).cell (j := 2) rfl, (h11.mem h).cell (j := 3) rfl, (h11.mem h).cell (j := 4) rfl⟩
    have k0 := HK.out W8 (Mem.refl _)
    obtain ⟨x0, x1, x2, x3, x4, x5, x6, x7, x8, x9, x10, x11⟩ := k0
    have N0 := hide (Mem.drew (Mem.refl W8))
    have N0a := hide (Mem.drew (Mem.alloc (Mem.refl W8) (.cells #[.slice none 0 0, .slice none 0 0] 26)))
    have hl3 := (applyT_len t0 (9, kg, sg, ksg, vsg)).1
    have hl4 := (applyT_len t0 (9, kg, sg, ksg, vsg)).2
    have HL3 : Hid ((applyT t0 (9, kg, sg, ksg, vsg)).1.length ≤ 1000) := by unfold Hid; omega
    have HL4 : Hid ((applyT t0 (9, kg, sg, ksg, vsg)).2.length ≤ 1000) := by unfold Hid; omega
    clear hl3 hl4
    go_region_held3 (fun w' => w'.cell? ⟨B12, 0, none⟩ = some (.slice om t0.1.length cm) ∧ w'.cell? ⟨B12, 1, none⟩ = some (.slice ob t0.2.length cb) ∧ w'.cell? ⟨B10, 0, none⟩ = some (.int .i64 3) ∧ w'.cell? ⟨B10, 1, none⟩ = some (.int .i64 kf) ∧ w'.cell? ⟨B10, 2, none⟩ = some (.int .i64 sf) ∧ w'.cell? ⟨B10, 3, none⟩ = some (.slice ok ksf.length ck) ∧ w'.cell? ⟨B10, 4, none⟩ = some (.slice ov vsf.length cv) ∧ w'.cell? ⟨B11, 0, none⟩ = some (.int .i64 9) ∧ w'.cell? ⟨B11, 1, none⟩ = some (.int .i64 kg) ∧ w'.cell? ⟨B11, 2, none⟩ = some (.int .i64 sg) ∧ w'.cell? ⟨B11, 3, none⟩ = some (.slice pk ksg.length dk) ∧ w'.cell? ⟨B11, 4, none⟩ = some (.slice pv vsg.length dv))
      (first | with_reducible exact HK.out _ N0.out | with_reducible exact HK.out _ N0a.out | with_reducible exact HK.out _ N1.out | with_reducible exact HK.out _ N2.out | with_reducible exact HK.out _ (Mem.alloc N1.out _) | with_reducible exact HK.out _ (Mem.alloc N2.out _) | exact HK.out _ (Mem2.put N2.out (Nat.le_refl _) _ _) | exact HK.out _ (Mem2.put N2.out N1.out.size _ _))
      (first
        | ((go_at_call 15; refine (codeApply (applyT t0 (9, kg, sg, ksg, vsg)) oa1 ob1 ca1 cb1 3 kf sf ok ov ck cv ksf vsf _ (j1.ints) (j2.ints) HL3.out HL4.out (HA.out _ (N1.out)).1 (HA.out _ (N1.out)).2).mono ?_; rintro e w2 ⟨⟨v2, rfl, h2⟩, n2⟩; obtain ⟨oa2, ca2, ob2, cb2, rfl, _, _⟩ := id h2; have N2 := hide (Mem.trans (N1.out) n2); have bB := Blk.mem bA n2; have q0 := bB.cell (j := 0) rfl; have q1 := bB.cell (j := 1) rfl; have q2 := bB.frozen 0; have q3 := bB.frozen 1))
        | ((go_at_call 15; refine (codeApply (applyT t0 (9, kg, sg, ksg, vsg)) oa1 ob1 ca1 cb1 3 kf sf ok ov ck cv ksf vsf _ (j1.ints) (j2.ints) HL3.out HL4.out (HA.out _ (N1.out)).1 (HA.out _ (N1.out)).2).mono ?_; rintro e w2 ⟨⟨v2, rfl, h2⟩, n2⟩; obtain ⟨oa2, ca2, ob2, cb2, rfl, _, _⟩ := id h2; have N2 := hide (Mem.trans (N1.out) n2)))
        | ((go_at_call 15; refine (codeApply (applyT t0 (9, kg, sg, ksg, vsg)) oa1 ob1 ca1 cb1 3 kf sf ok ov ck cv ksf vsf _ ((j1.mem ((Mem.refl _).alloc _)).ints) ((j2.mem ((Mem.refl _).alloc _)).ints) HL3.out HL4.out (HA.out _ (Mem.alloc N1.out _)).1 (HA.out _ (Mem.alloc N1.out _)).2).mono ?_; rintro e w2 ⟨⟨v2, rfl, h2⟩, n2⟩; obtain ⟨oa2, ca2, ob2, cb2, rfl, _, _⟩ := id h2; have N2 := hide (Mem.trans (Mem.alloc N1.out _) n2); have bB := Blk.mem (Blk.new w1 #[.slice none 0 0, .slice none 0 0] 26) n2; have q0 := bB.cell (j := 0) rfl; have q1 := bB.cell (j := 1) rfl; have q2 := bB.frozen 0; have q3 := bB.frozen 1))
        | ((go_at_call 15; refine (codeApply t0 om ob cm cb 9 kg sg pk pv dk dv ksg vsg _ (HT.out _ N0.out).1 (HT.out _ N0.out).2 hl1 hl2 (HB.out _ N0.out).1 (HB.out _ N0.out).2).mono ?_; rintro e w1 ⟨⟨v1, rfl, h1⟩, n1⟩; obtain ⟨oa1, ca1, ob1, cb1, rfl, j1, j2⟩ := h1; have N1 := hide (Mem.trans N0.out n1)))
        | ((go_at_call 15; refine (codeApply t0 om ob cm cb 9 kg sg pk pv dk dv ksg vsg _ (HT.out _ N0a.out).1 (HT.out _ N0a.out).2 hl1 hl2 (HB.out _ N0a.out).1 (HB.out _ N0a.out).2).mono ?_; rintro e w1 ⟨⟨v1, rfl, h1⟩, n1⟩; obtain ⟨oa1, ca1, ob1, cb1, rfl, j1, j2⟩ := h1; have N1 := hide (Mem.trans N0a.out n1); have bA := Blk.mem (Blk.drew (Blk.new W8 #[.slice none 0 0, .slice none 0 0] 26)) n1)))
    · have m3 := N2.out.alloc (.cells #[.slice oa2 (applyT (applyT t0 (9, kg, sg, ksg, vsg)) (3, kf, sf, ksf, vsf)).1.length ca2, .slice ob2 (applyT (applyT t0 (9, kg, sg, ksg, vsg)) (3, kf, sf, ksf, vsf)).2.length cb2] 26)
      have hst := tab_new h2
      (try go_wp2_with fail)
      go_meet
      exact ⟨_, rfl, hst, m3⟩
    · have m3 := Mem2.put N2.out (b := w1.heap.size) N1.out.size (.slice oa2 (applyT (applyT t0 (9, kg, sg, ksg, vsg)) (3, kf, sf, ksf, vsf)).1.length ca2) (.slice ob2 (applyT (applyT t0 (9, kg, sg, ksg, vsg)) (3, kf, sf, ksf, vsf)).2.length cb2)
      have hst := tab_old bB h2 (new_lt w1 _)
      (try go_wp2_with fail)
      go_meet
      exact ⟨_, rfl, hst, m3⟩
    · have hs1 : (W8.alloc (.cells #[.slice none 0 0, .slice none 0 0] 26)).heap.size ≤ w1.heap.size := by
        have h := n1.size
        exact h
      have m3 := Mem2.put N2.out (b := W8.heap.size) (Nat.le_refl _) (.slice oa2 (applyT (applyT t0 (9, kg, sg, ksg, vsg)) (3, kf, sf, ksf, vsf)).1.length ca2) (.slice ob2 (applyT (applyT t0 (9, kg, sg, ksg, vsg)) (3, kf, sf, ksf, vsf)).2.length cb2)
      have hst := tab_old bB h2 (Nat.lt_of_lt_of_le (new_lt W8 _) hs1)
      (try go_wp2_with fail)
      go_meet
      exact ⟨_, rfl, hst, m3⟩
  case rest =>
  obtain ⟨B14, rfl, h14, mx⟩ := hcut
  replace hF := hF.mem mx
  replace hG := hG.mem mx
  replace h11 := h11.mem mx
  replace h13 := h13.mem mx
  replace hfk := hfk.mem mx
  replace hfv := hfv.mem mx
  replace hgk := hgk.mem mx
  replace hgv := hgv.mem mx
  have m9 := m8.trans mx
  clear m8 HT HA HB mx h10 h12 i1 i2
  generalize hgw : wc = W9 at *
  clear hgw
  have HOrd : Hid (apartB ksf ksg = true → applyT (applyT t0 ((3, kf, sf, ksf, vsf) : FoundT)) ((9, kg, sg, ksg, vsg) : FoundT) = applyT (applyT t0 ((9, kg, sg, ksg, vsg) : FoundT)) ((3, kf, sf, ksf, vsf) : FoundT)) := fun h => apply_order HTL.out (fun i j hi hj => apartB_ne h hi hj)
  have HTw : Hid (applyT (applyT (applyT t0 ((3, kf, sf, ksf, vsf) : FoundT)) ((9, kg, sg, ksg, vsg) : FoundT)) ((9, kg, sg, ksg, vsg) : FoundT) = applyT (applyT t0 ((3, kf, sf, ksf, vsf) : FoundT)) ((9, kg, sg, ksg, vsg) : FoundT)) := apply_twice (n := n) (by have a := applyT_len t0 ((3, kf, sf, ksf, vsf) : FoundT); have b := HTL.out; omega) ((9, kg, sg, ksg, vsg) : FoundT)
  have hlA : (applyT (applyT t0 ((3, kf, sf, ksf, vsf) : FoundT)) ((9, kg, sg, ksg, vsg) : FoundT)).1.length ≤ 1000 ∧ (applyT (applyT t0 ((3, kf, sf, ksf, vsf) : FoundT)) ((9, kg, sg, ksg, vsg) : FoundT)).2.length ≤ 1000 := by
    have a := applyT_len t0 ((3, kf, sf, ksf, vsf) : FoundT)
    have b := HTL.out
    have c := applyT_len (applyT t0 ((3, kf, sf, ksf, vsf) : FoundT)) ((9, kg, sg, ksg, vsg) : FoundT)
    omega
  generalize applyT (applyT t0 ((3, kf, sf, ksf, vsf) : FoundT)) ((9, kg, sg, ksg, vsg) : FoundT) = tA at *
  generalize applyT (applyT t0 ((9, kg, sg, ksg, vsg) : FoundT)) ((3, kf, sf, ksf, vsf) : FoundT) = tB at *
  obtain ⟨hlA1, hlA2⟩ := hlA
  clear HTL hl1 hl2
  have hkf := hfk.1
  have hkg := hgk.1
  unfold maxLen at hkf hkg
  clear hfv
  go_wp2_with fail
  go_loopw [15, 16] (fun a i wr => ∃ k : Nat, k ≤ ksf.length ∧ i = .int .i64 k ∧ a = .bool (apartB (ksf.take k) ksg) ∧ Mem W9 wr) (fun _ i _ => ksf.length - (intOf i).toNat)
  case atStart => exact ⟨0, Nat.zero_le _, rfl, by simp [apartB], Mem.refl _⟩
  case round =>
    obtain ⟨k, hk, rfl, rfl, hmr⟩ := hrel
    have f2 := (hF.mem hmr).cell (j := 2) rfl
    simp only [List.getElem_toArray, List.getElem_cons_zero, List.getElem_cons_succ] at f2
    by_cases hlt : k < ksf.length
    · have hlt' : (k : Int) < (ksf.length : Int) := by omega
      have hk0 : (0 : Int) ≤ (k : Int) := by omega
      obtain ⟨kb, ko, rfl, hc⟩ := (hfk.mem hmr).at (by omega)
      have c0 := hc k hlt
      have HN := hide (apartB_take ksf ksg hlt)
      have HF2 : Hid (∀ w', Mem wr w' → w'.cell? ⟨Br, 2, none⟩ = some (.slice (some ⟨kb, ko, none⟩) ksf.length ck)) := fun w' h => (Below.cell h (p := ⟨Br, 2, none⟩) (World.block_lt_of_cell? wr _ f2)).trans f2
      have HC0 : Hid (∀ w', Mem wr w' → w'.cell? ⟨kb, ko + k, none⟩ = some (.int .i64 (ksf.getD k 0))) := fun w' h => (Below.cell h (p := ⟨kb, ko + k, none⟩) (World.block_lt_of_cell? wr _ c0)).trans c0
      clear hc
      generalize ksf.getD k 0 = x at *
      generalize apartB (ksf.take k) ksg = b0 at *
      go_wp2_with fail
      go_loopw [15, 17] (fun a i wq => ∃ q : Nat, q ≤ ksg.length ∧ i = .int .i64 q ∧ a = .bool (b0 && (ksg.take q).all fun y => decide (x ≠ y)) ∧ Mem wr wq) (fun _ i _ => ksg.length - (intOf i).toNat)
      case atStart => exact ⟨0, Nat.zero_le _, rfl, by simp, Mem.refl _⟩
      case round =>
        obtain ⟨q, hq, rfl, rfl, hmq⟩ := hrel
        have f2 := HF2.out _ hmq
        have c0 := HC0.out _ hmq
        have g2 := (hG.mem (hmr.trans hmq)).cell (j := 2) rfl
        simp only [List.getElem_toArray, List.getElem_cons_zero, List.getElem_cons_succ] at g2
        by_cases hlq : q < ksg.length
        · have hlq' : (q : Int) < (ksg.length : Int) := by omega
          have hq0 : (0 : Int) ≤ (q : Int) := by omega
          obtain ⟨gb, go, rfl, hd⟩ := (hgk.mem (hmr.trans hmq)).at (by omega)
          have d0 := hd q hlq
          have HQ := hide (all_take ksg (fun y => decide (x ≠ y)) hlq)
          clear hd
          generalize ksg.getD q 0 = y at *
          cases hb : (b0 && (ksg.take q).all fun y => decide (x ≠ y)) with
          | false =>
            have HB := hide hb
            clear hb
            go_wp2_with fail
            go_quiet (fail)
            have m2 := hmq.trans ((Mem.refl wr).drewN nq)
            go_wp2_with fail
            go_roundw
            case rel => exact ⟨q + 1, by omega, by go_num, bool_eq (by rw [HQ.out, ← Bool.and_assoc, HB.out]; rfl), m2⟩
            case measure => simp [intOf]; omega
          | true =>
            have HB := hide hb
            clear hb
            by_cases hxy : x = y
            · have HE := hide (show decide (x ≠ y) = false by simp [hxy])
              go_wp2_with fail
              go_quiet (fail)
              have m2 := hmq.trans ((Mem.refl wr).drewN nq)
              go_wp2_with fail
              go_roundw
              case rel => exact ⟨q + 1, by omega, by go_num, bool_eq (by rw [HQ.out, ← Bool.and_assoc, HB.out, HE.out]; first | rfl | simp [hxy]), m2⟩
              case measure => simp [intOf]; omega
            · have HE := hide (show decide (x ≠ y) = true by simp [hxy])
              go_wp2_with fail
              go_quiet (fail)
              have m2 := hmq.trans ((Mem.refl wr).drewN nq)
              go_wp2_with fail
              go_roundw
              case rel => exact ⟨q + 1, by omega, by go_num, bool_eq (by rw [HQ.out, ← Bool.and_assoc, HB.out, HE.out]; first | rfl | simp [hxy]), m2⟩
              case measure => simp [intOf]; omega
        · have hqe : q = ksg.length := by omega
          subst hqe
          have hlq' : ¬ ((ksg.length : Int) < (ksg.length : Int)) := by omega
          have m2 := hmr.trans hmq
          go_wp2_with fail
          go_roundw
          case rel => exact ⟨k + 1, by omega, by go_num, bool_eq (by rw [List.take_length]; exact HN.out.symm), m2⟩
          case measure => simp [intOf]; omega
    · have hke : k = ksf.length := by omega
      subst hke
      have hlt' : ¬ ((ksf.length : Int) < (ksf.length : Int)) := by omega
      rw [List.take_length] at *
      obtain ⟨pa, qa, pb, qb, d13, e13, f13⟩ := id (h13.mem hmr)
      obtain ⟨ra, sa, rb, sb, d14, e14, f14⟩ := id (h14.mem hmr)
      have h11' := h11.mem hmr
      have HK : Hid (∀ w', Mem wr w' → w'.cell? ⟨B13, 0, none⟩ = some (.slice pa tA.1.length qa) ∧ w'.cell? ⟨B13, 1, none⟩ = some (.slice pb tA.2.length qb) ∧ w'.cell? ⟨B14, 0, none⟩ = some (.slice ra tB.1.length sa) ∧ w'.cell? ⟨B14, 1, none⟩ = some (.slice rb tB.2.length sb) ∧ w'.cell? ⟨B11, 0, none⟩ = some (.int .i64 9) ∧ w'.cell? ⟨B11, 1, none⟩ = some (.int .i64 kg) ∧ w'.cell? ⟨B11, 2, none⟩ = some (.int .i64 sg) ∧ w'.cell? ⟨B11, 3, none⟩ = some (.slice pk ksg.length dk) ∧ w'.cell? ⟨B11, 4, none⟩ = some (.slice pv vsg.length dv)) := fun w' h => ⟨(d13.mem h).cell (j := 0) rfl, (d13.mem h).cell (j := 1) rfl, (d14.mem h).cell (j := 0) rfl, (d14.mem h).cell (j := 1) rfl, (h11'.mem h).cell (j := 0) rfl, (h11'.mem h).cell (j := 1) rfl, (h11'.mem h).cell (j := 2) rfl, (h11'.mem h).cell (j := 3) rfl, (h11'.mem h).cell (j := 4) rfl⟩
      obtain ⟨x0, x1, x2, x3, x4, x5, x6, x7, x8⟩ := HK.out wr (Mem.refl _)
      have HVA := hide (fun (w' : World) (h : Mem wr w') => And.intro (e13.mem h) (f13.mem h))
      have HVB := hide (fun (w' : World) (h : Mem wr w') => And.intro (e14.mem h) (f14.mem h))
      have HVG := hide (fun (w' : World) (h : Mem wr w') => And.intro (hgk.mem (hmr.trans h)) (hgv.mem (hmr.trans h)))
      have N0 := hide (Mem.drew (Mem.refl wr))
      have HD2 := hide (decide_eq_true HTw.out)
      cases hb : apartB ksf ksg with
      | true =>
        have HD1 := hide (decide_eq_true (HOrd.out hb))
        clear HOrd hb HTw e13 f13 e14 f14 d13 d14 h11'
        go_wp2_with fail
        go_region_held3 (fun w' => w'.cell? ⟨B13, 0, none⟩ = some (.slice pa tA.1.length qa) ∧ w'.cell? ⟨B13, 1, none⟩ = some (.slice pb tA.2.length qb) ∧ w'.cell? ⟨B14, 0, none⟩ = some (.slice ra tB.1.length sa) ∧ w'.cell? ⟨B14, 1, none⟩ = some (.slice rb tB.2.length sb) ∧ w'.cell? ⟨B11, 0, none⟩ = some (.int .i64 9) ∧ w'.cell? ⟨B11, 1, none⟩ = some (.int .i64 kg) ∧ w'.cell? ⟨B11, 2, none⟩ = some (.int .i64 sg) ∧ w'.cell? ⟨B11, 3, none⟩ = some (.slice pk ksg.length dk) ∧ w'.cell? ⟨B11, 4, none⟩ = some (.slice pv vsg.length dv))
          (first | with_reducible exact HK.out _ N0.out | with_reducible exact HK.out _ N1.out | with_reducible exact HK.out _ N2.out | with_reducible exact HK.out _ N3.out)
          (first
            | (go_at_call 12; refine (refSame7 _ _ _ _ (applyT tA ((9, kg, sg, ksg, vsg) : FoundT)) tA _ (HV2.out.mem n2') ⟨pa, qa, pb, qb, rfl, (HVA.out _ N2.out).1, (HVA.out _ N2.out).2⟩).mono ?_; rintro e u3 ⟨rfl, n3⟩; rw [HD2.out]; have N3 := hide (Mem.trans N2.out n3))
            | (go_at_call 15; refine (codeApply tA pa pb qa qb 9 kg sg _ pv dk dv ksg vsg _ (HVA.out _ N1.out).1.ints (HVA.out _ N1.out).2.ints hlA1 hlA2 (HVG.out _ N1.out).1 (HVG.out _ N1.out).2).mono ?_; rintro e u2 ⟨⟨v2, rfl, hv2⟩, n2⟩; obtain ⟨oa2, ca2, ob2, cb2, rfl, _, _⟩ := id hv2; have HV2 := hide hv2; have N2 := hide (Mem.trans N1.out n2); have n2' := Mem.refl u2)
            | (go_at_call 12; refine (refSame7 _ _ _ _ tA tB _ ⟨pa, qa, pb, qb, rfl, (HVA.out _ N0.out).1, (HVA.out _ N0.out).2⟩ ⟨ra, sa, rb, sb, rfl, (HVB.out _ N0.out).1, (HVB.out _ N0.out).2⟩).mono ?_; rintro e u1 ⟨rfl, n1⟩; rw [HD1.out]; have N1 := hide (Mem.trans N0.out n1)))
        go_wp2_with fail
        go_ret
        exact ⟨rfl, m9.trans (hmr.trans N3.out)⟩
      | false =>
        clear HOrd hb HTw e13 f13 e14 f14 d13 d14 h11'
        go_wp2_with fail
        go_region_with (first
            | (go_at_call 12; refine (refSame7 _ _ _ _ (applyT tA ((9, kg, sg, ksg, vsg) : FoundT)) tA _ (HV2.out.mem n2') ⟨pa, qa, pb, qb, rfl, (HVA.out _ N2.out).1, (HVA.out _ N2.out).2⟩).mono ?_; rintro e u3 ⟨rfl, n3⟩; rw [HD2.out]; have N3 := hide (Mem.trans N2.out n3))
            | (go_at_call 15; refine (codeApply tA pa pb qa qb 9 kg sg _ pv dk dv ksg vsg _ (HVA.out _ N0.out).1.ints (HVA.out _ N0.out).2.ints hlA1 hlA2 (HVG.out _ N0.out).1 (HVG.out _ N0.out).2).mono ?_; rintro e u2 ⟨⟨v2, rfl, hv2⟩, n2⟩; obtain ⟨oa2, ca2, ob2, cb2, rfl, _, _⟩ := id hv2; have HV2 := hide hv2; have N2 := hide (Mem.trans N0.out n2); have n2' := Mem.refl u2; have y0 := (HK.out _ N2.out).1; have y1 := (HK.out _ N2.out).2.1))
        all_goals (
          go_wp2_with fail
          go_ret
          exact ⟨rfl, m9.trans (hmr.trans N3.out)⟩)
end Go.Proofs.Ytbibkheiagglbaa.Replay
