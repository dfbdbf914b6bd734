/-
  PlanSame, PlanLawSame: in one text (merge.json).
-/
import Derived.Test.YtedopplldpcinaaGreatPlanLow
import Derived.Test.YtedopplldpcinaaGreatTagDecAll
import Derived.Test.YtedopplldpcinaaGreatPlanMovesAll
/-
  Layer 12: two rows of writes that are the same, by the document. (After ScanSame.)
-/
namespace Go.Proofs.YtedopplldpcinaaGreat.Plan
open Go.RowKit Go.Proofs.YtedopplldpcinaaGreat.Nand Go.Proofs.YtedopplldpcinaaGreat.Scan

theorem recEq_self (k s : Int) (ks vs : List Int) : Tag.recEq k s ks vs k s ks vs = true := by simp [Tag.recEq]
set_option maxHeartbeats 2000000 in
set_option maxRecDepth 100000 in
theorem refPlanSame (S S' : Nat → Prop) (va vb : Value) (fs : List WriteT) (w : World) (ha : WritesAt S w va fs) (hb : WritesAt S' w vb fs) :
    Calls Tryz.prog 18 #[va, vb] w fun e w' => e = .returned (.bool true) ∧ Mem w w' := by
  obtain ⟨oa, ca, rfl⟩ := ha.shape
  obtain ⟨ob, cb, rfl⟩ := hb.shape
  have hlen := ha.1
  unfold maxLen at hlen
  have e1 : ((fs.length : Int) != (fs.length : Int)) = false := by simp
  go_enter Tryz.func18, Tryz.ntmps18
  go_wp2_with fail
  clear e1
  go_loopw [5] (fun i wr => ∃ k : Nat, k ≤ fs.length ∧ i = .int .i64 k ∧ Mem w wr) (fun i _ => fs.length - (intOf i).toNat)
  case atStart => exact ⟨0, Nat.zero_le _, rfl, Mem.refl _⟩
  case round =>
    obtain ⟨k, hk, rfl, hmr⟩ := hrel
    by_cases hlt : k < fs.length
    · have hlt' : (k : Int) < (fs.length : Int) := by omega
      have hk0 : (0 : Int) ≤ (k : Int) := by omega
      obtain ⟨ga, fa, oka, cka, ova, cva, rfl, _, x0, x1, x2, x3, x4, ik, iv⟩ := (ha.mem hmr).at hlt
      obtain ⟨gb, fb, okb, ckb, ovb, cvb, rfl, _, y0, y1, y2, y3, y4, jk, jv⟩ := (hb.mem hmr).at hlt
      generalize fs[k] = f at *
      obtain ⟨p, kd, sq, ks, vs⟩ := f
      simp only [] at x0 x1 x2 x3 x4 ik iv y0 y1 y2 y3 y4 jk jv
      have q1 : (p.toList == p.toList) = true := by simp
      have HK : Hid (∀ w', Mem wr w' → w'.cell? ⟨ga, fa + k * 5, none⟩ = some (.string p) ∧ w'.cell? ⟨ga, fa + k * 5 + 1, none⟩ = some (.int .i64 kd) ∧ w'.cell? ⟨ga, fa + k * 5 + 2, none⟩ = some (.int .i64 sq) ∧ w'.cell? ⟨ga, fa + k * 5 + 3, none⟩ = some (.slice oka ks.length cka) ∧ w'.cell? ⟨ga, fa + k * 5 + 4, none⟩ = some (.slice ova vs.length cva) ∧ w'.cell? ⟨gb, fb + k * 5, none⟩ = some (.string p) ∧ w'.cell? ⟨gb, fb + k * 5 + 1, none⟩ = some (.int .i64 kd) ∧ w'.cell? ⟨gb, fb + k * 5 + 2, none⟩ = some (.int .i64 sq) ∧ w'.cell? ⟨gb, fb + k * 5 + 3, none⟩ = some (.slice okb ks.length ckb) ∧ w'.cell? ⟨gb, fb + k * 5 + 4, none⟩ = some (.slice ovb vs.length cvb)) := fun w' h =>
        have t : ∀ {g o : Nat} {u : Value}, wr.cell? ⟨g, o, none⟩ = some u → w'.cell? ⟨g, o, none⟩ = some u := fun {g o u} hc => (Below.cell h (p := ⟨g, o, none⟩) (World.block_lt_of_cell? wr _ hc)).trans hc
        ⟨t x0, t x1, t x2, t x3, t x4, t y0, t y1, t y2, t y3, t y4⟩
      have N0 := hide (Mem.drew (Mem.refl wr))
      have HI := hide (⟨ik.ints, iv.ints, jk.ints, jv.ints⟩ : Ints .i64 wr _ ks ∧ Ints .i64 wr _ vs ∧ Ints .i64 wr _ ks ∧ Ints .i64 wr _ vs)
      clear ik iv jk jv
      go_wp2_with fail
      go_region_held3 (fun w' => w'.cell? ⟨ga, fa + k * 5, none⟩ = some (.string p) ∧ w'.cell? ⟨ga, fa + k * 5 + 1, none⟩ = some (.int .i64 kd) ∧ w'.cell? ⟨ga, fa + k * 5 + 2, none⟩ = some (.int .i64 sq) ∧ w'.cell? ⟨ga, fa + k * 5 + 3, none⟩ = some (.slice oka ks.length cka) ∧ w'.cell? ⟨ga, fa + k * 5 + 4, none⟩ = some (.slice ova vs.length cva) ∧ w'.cell? ⟨gb, fb + k * 5, none⟩ = some (.string p) ∧ w'.cell? ⟨gb, fb + k * 5 + 1, none⟩ = some (.int .i64 kd) ∧ w'.cell? ⟨gb, fb + k * 5 + 2, none⟩ = some (.int .i64 sq) ∧ w'.cell? ⟨gb, fb + k * 5 + 3, none⟩ = some (.slice okb ks.length ckb) ∧ w'.cell? ⟨gb, fb + k * 5 + 4, none⟩ = some (.slice ovb vs.length cvb))
        (first | with_reducible exact HK.out _ N0.out | with_reducible exact HK.out _ N1.out | go_keep)
        ((go_at_call 45; refine (Tag.recSame kd sq kd sq _ _ _ _ ks vs ks vs _ (HI.out.1.mem N0.out) (HI.out.2.1.mem N0.out) (HI.out.2.2.1.mem N0.out) (HI.out.2.2.2.mem N0.out)).mono ?_; rintro e w1 ⟨rfl, n1⟩; rw [recEq_self]; have N1 := hide (Mem.trans N0.out n1)))
      have m1 := hmr.trans N1.out
      go_wp2_with fail
      go_roundw
      case rel => exact ⟨k + 1, by omega, by go_num, m1⟩
      case measure => simp [intOf]; omega
    · have hke : k = fs.length := by omega
      subst hke
      have hlt' : ¬ ((fs.length : Int) < (fs.length : Int)) := by omega
      go_wp2_with fail
      go_ret
      exact ⟨rfl, hmr⟩
end Go.Proofs.YtedopplldpcinaaGreat.Plan
/-
  Layer 12, the statements' own: is what is to be written what the document says? (By mk_plansame.py.)
-/
namespace Go.Proofs.YtedopplldpcinaaGreat.Plan
open Go.RowKit Go.Proofs.YtedopplldpcinaaGreat.Nand Go.Proofs.YtedopplldpcinaaGreat.Scan Go.Proofs.YtedopplldpcinaaGreat.Live Go.Proofs.YtedopplldpcinaaGreat.Replay

set_option maxHeartbeats 8000000 in
set_option maxRecDepth 100000 in
theorem lawSame (cM : MovesSpec 14) (cT : TwinSpec 16) (cH : HasSpec 17) (S : Nat → Prop) (vb : Value) (bs : List BlockT) (br off : Bool) (ops : Int) (t : TableT) (om ob : Option Addr) (cm cb : Nat) (b : Int) (d : ByteArray) (s : Int) (w : World) (hb : BlocksAt S w vb bs)
    (hi1 : IntsIn S w (.slice om t.1.length cm) t.1) (hi2 : IntsIn S w (.slice ob t.2.length cb) t.2) (hl1 : t.1.length ≤ 1000) (hl2 : t.2.length ≤ 1000) (hwf : WfT t) (hds : DataS bs) (hdd : d.size ≤ maxLen) :
    Calls Tryz.prog 8 #[chipV vb br off ops, .agg #[.slice om t.1.length cm, .slice ob t.2.length cb], .int .i64 b, .string d, .int .i64 s] w fun e w' => e = .returned (.bool true) ∧ Mem w w' := by
  obtain ⟨oa, ca, rfl⟩ := hb.shape
  have hm0 : Mem w ((w.alloc (.cells #[.slice oa bs.length ca, .bool br, .bool off, .int .i64 ops] 24)).alloc (.cells #[.slice om t.1.length cm, .slice ob t.2.length cb] 27)) := ((Mem.refl w).alloc _).alloc _
  have hC := (Blk.new w #[.slice oa bs.length ca, .bool br, .bool off, .int .i64 ops] 24).alloc (.cells #[.slice om t.1.length cm, .slice ob t.2.length cb] 27)
  have hT := Blk.new (w.alloc (.cells #[.slice oa bs.length ca, .bool br, .bool off, .int .i64 ops] 24)) #[.slice om t.1.length cm, .slice ob t.2.length cb] 27
  rw [World.size_alloc] at hT
  replace hb := hb.mem hm0
  replace hi1 := hi1.mem hm0
  replace hi2 := hi2.mem hm0
  simp only [chipV]
  go_enter Tryz.func8, Tryz.ntmps8
  go_wp2_with fail
  obtain ⟨w0, hw0⟩ : ∃ w0, (w.alloc (.cells #[.slice oa bs.length ca, .bool br, .bool off, .int .i64 ops] 24)).alloc (.cells #[.slice om t.1.length cm, .slice ob t.2.length cb] 27) = w0 := ⟨_, rfl⟩
  rw [hw0] at hm0 hC hT hb hi1 hi2 ⊢
  clear hw0
  have HC : Hid (∀ w', Mem w0 w' → w'.cell? ⟨w.heap.size, 0, none⟩ = some (.slice oa bs.length ca) ∧ w'.cell? ⟨w.heap.size, 1, none⟩ = some (.bool br) ∧ w'.cell? ⟨w.heap.size, 2, none⟩ = some (.bool off) ∧ w'.cell? ⟨w.heap.size, 3, none⟩ = some (.int .i64 ops) ∧ w'.cell? ⟨w.heap.size + 1, 0, none⟩ = some (.slice om t.1.length cm) ∧ w'.cell? ⟨w.heap.size + 1, 1, none⟩ = some (.slice ob t.2.length cb)) := fun w' m => ⟨(hC.mem m).cell (j := 0) rfl, (hC.mem m).cell (j := 1) rfl, (hC.mem m).cell (j := 2) rfl, (hC.mem m).cell (j := 3) rfl, (hT.mem m).cell (j := 0) rfl, (hT.mem m).cell (j := 1) rfl⟩
  have HMS := hide (fun (w' : World) (m : Mem w0 w') => cM S _ bs br off ops t om ob cm cb b w' (hb.mem m) (hi1.mem m) (hi2.mem m) hl1 hl2 hwf)
  have HMR := hide (fun (w' : World) (m : Mem w0 w') => refMoves S _ bs br off ops t om ob cm cb b w' (hb.mem m) (hi1.mem m) (hi2.mem m) hl1 hl2 hwf)
  have HTS := hide (fun (w' : World) (m : Mem w0 w') => cT S _ bs br off ops t om ob cm cb d w' (hb.mem m) (hi1.mem m).ints (hi2.mem m).ints hl1 hl2 hwf hds hdd)
  have HTR := hide (fun (w' : World) (m : Mem w0 w') => refTwin S _ bs br off ops t om ob cm cb d w' (hb.mem m) (hi1.mem m).ints (hi2.mem m).ints hl1 hl2 hwf hds hdd)
  have HHS := hide (fun (w' : World) (m : Mem w0 w') => cH S _ bs br off ops t om ob cm cb s w' (hb.mem m) (hi1.mem m).ints (hi2.mem m).ints hl1 hl2 hwf)
  have HHR := hide (fun (w' : World) (m : Mem w0 w') => refHas S _ bs br off ops t om ob cm cb s w' (hb.mem m) (hi1.mem m).ints (hi2.mem m).ints hl1 hl2 hwf)
  have N0 := hide (Mem.drew (Mem.refl w0))
  obtain ⟨c0, c1, c2, c3, c4, c5⟩ := HC.out _ (Mem.refl w0)
  clear hC hT hb hi1 hi2 hwf
  generalize movesT bs t b = ws at *
  generalize twinT bs t d = tw at *
  generalize hasD bs t s = ah at *
  go_region_held3 (fun w' => w'.cell? ⟨w.heap.size, 0, none⟩ = some (.slice oa bs.length ca) ∧ w'.cell? ⟨w.heap.size, 1, none⟩ = some (.bool br) ∧ w'.cell? ⟨w.heap.size, 2, none⟩ = some (.bool off) ∧ w'.cell? ⟨w.heap.size, 3, none⟩ = some (.int .i64 ops) ∧ w'.cell? ⟨w.heap.size + 1, 0, none⟩ = some (.slice om t.1.length cm) ∧ w'.cell? ⟨w.heap.size + 1, 1, none⟩ = some (.slice ob t.2.length cb))
    (first
      | with_reducible exact (HC.out _ N0.out)
      | with_reducible exact (HC.out _ N1.out)
      | with_reducible exact (HC.out _ N2.out)
      | with_reducible exact (HC.out _ N3.out)
      | with_reducible exact (HC.out _ N4.out)
      | with_reducible exact (HC.out _ N5.out)
      | with_reducible exact (HC.out _ N6.out)
      | with_reducible exact (HC.out _ N7.out))
    (first
      | (go_at_call 14; with_reducible refine (HMS.out _ N0.out).mono ?_; rintro e w1 ⟨⟨v1, rfl, q1⟩, m1⟩; have N1 := hide (Mem.trans N0.out m1))
      | (go_at_call 19; with_reducible refine (HMR.out _ N1.out).mono ?_; rintro e w2 ⟨⟨v2, rfl, q2⟩, m2⟩; have N2 := hide (Mem.trans N1.out m2))
      | (go_at_call 18; with_reducible refine (refPlanSame _ _ _ _ _ _ (q1.mem m2) q2).mono ?_; rintro e w3 ⟨rfl, m3⟩; have N3 := hide (Mem.trans N2.out m3))
      | (go_at_call 16; with_reducible refine (HTS.out _ N3.out).mono ?_; rintro e w4 ⟨rfl, m4⟩; have N4 := hide (Mem.trans N3.out m4))
      | (go_at_call 16; with_reducible refine (HTS.out _ N4.out).mono ?_; rintro e w5 ⟨rfl, m5⟩; have N5 := hide (Mem.trans N4.out m5))
      | (go_at_call 20; with_reducible refine (HTR.out _ N3.out).mono ?_; rintro e w4 ⟨rfl, m4⟩; have N4 := hide (Mem.trans N3.out m4))
      | (go_at_call 20; with_reducible refine (HTR.out _ N4.out).mono ?_; rintro e w5 ⟨rfl, m5⟩; have N5 := hide (Mem.trans N4.out m5))
      | (go_at_call 17; with_reducible refine (HHS.out _ N5.out).mono ?_; rintro e w6 ⟨rfl, m6⟩; have N6 := hide (Mem.trans N5.out m6))
      | (go_at_call 17; with_reducible refine (HHS.out _ N6.out).mono ?_; rintro e w7 ⟨rfl, m7⟩; have N7 := hide (Mem.trans N6.out m7))
      | (go_at_call 21; with_reducible refine (HHR.out _ N5.out).mono ?_; rintro e w6 ⟨rfl, m6⟩; have N6 := hide (Mem.trans N5.out m6))
      | (go_at_call 21; with_reducible refine (HHR.out _ N6.out).mono ?_; rintro e w7 ⟨rfl, m7⟩; have N7 := hide (Mem.trans N6.out m7)))
  all_goals (
    have hm3 := N7.out
    go_wp2_with fail
    go_ret
    exact ⟨rfl, hm0.trans hm3⟩)
end Go.Proofs.YtedopplldpcinaaGreat.Plan
