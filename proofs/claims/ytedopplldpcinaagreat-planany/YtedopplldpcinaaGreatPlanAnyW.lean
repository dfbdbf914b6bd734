/-
  Layer 12: the walk of PlanAny. (By mk_planany.py.)
-/
import Derived.Test.YtedopplldpcinaaGreatPlanCode
import Derived.Test.YtedopplldpcinaaGreatLiveOpens
namespace Go.Proofs.YtedopplldpcinaaGreat.Plan
open Go.RowKit Go.Proofs.YtedopplldpcinaaGreat.Nand Go.Proofs.YtedopplldpcinaaGreat.Scan Go.Proofs.YtedopplldpcinaaGreat.Live Go.Proofs.YtedopplldpcinaaGreat.Replay

set_option maxHeartbeats 4000000 in
set_option maxRecDepth 100000 in
theorem planAny_walk (vb : Value) (bs : List BlockT) (br off : Bool) (ops : Int) (t : TableT) (om ob : Option Addr) (cm cb : Nat) (b : Int) (d : ByteArray) (s : Int) (w : World) (hb : BlocksAt (fun g => g < w.heap.size) w vb bs) (hbs : ∀ x ∈ bs, ∀ p ∈ x.1, p.2.1.size ≤ maxLen ∧ p.2.2.size ≤ maxLen) (h1 : Ints .i64 w (.slice om t.1.length cm) t.1) (h2 : Ints .i64 w (.slice ob t.2.length cb) t.2) (hw : WfT t) (_w1 : (Lit.int .i64 b).wf = true) (_w2 : d.size ≤ maxLen) (_w3 : (Lit.int .i64 s).wf = true) :
    Calls Tryz.prog 3 #[chipV vb br off ops, .agg #[.slice om t.1.length cm, .slice ob t.2.length cb], .int .i64 b, .string d, .int .i64 s] w fun e w' => e = .returned (.bool true) ∧ Below w.heap.size w w' := by
  clear _w1 _w3
  have HDS : Hid (DataS bs) := fun x hx p hp => (hbs x hx p hp).1
  clear hbs
  obtain ⟨oa, ca, rfl⟩ := hb.shape
  have hm0 : Mem w ((w.alloc (.cells #[.slice oa bs.length ca, .bool br, .bool off, .int .i64 ops] 24)).alloc (.cells #[.slice om t.1.length cm, .slice ob t.2.length cb] 27)) := ((Mem.refl w).alloc _).alloc _
  have hC := (Blk.new w #[.slice oa bs.length ca, .bool br, .bool off, .int .i64 ops] 24).alloc (.cells #[.slice om t.1.length cm, .slice ob t.2.length cb] 27)
  have hT := Blk.new (w.alloc (.cells #[.slice oa bs.length ca, .bool br, .bool off, .int .i64 ops] 24)) #[.slice om t.1.length cm, .slice ob t.2.length cb] 27
  rw [World.size_alloc] at hT
  have hbl := hb.1
  unfold maxLen at hbl
  have ht1 := h1.1
  have ht2 := h2.1
  unfold maxLen at ht1 ht2
  have HB := hide (hb.mem hm0)
  have H1 := hide ((IntsIn.of_ints h1).mem hm0)
  have H2 := hide ((IntsIn.of_ints h2).mem hm0)
  have HWF := hide hw
  simp only [chipV]
  have c0 := hC.cell (j := 0) rfl
  have c1 := hC.cell (j := 1) rfl
  have c2 := hC.cell (j := 2) rfl
  have c3 := hC.cell (j := 3) rfl
  have t0 := hT.cell (j := 0) rfl
  have t1 := hT.cell (j := 1) rfl
  clear hb h1 h2 hw
  go_enter Tryz.func3, Tryz.ntmps3
  by_cases hl : 40 < bs.length
  · have hd0 : decide (40 < (bs.length : Int)) = true := decide_eq_true (by omega)
    have hdn0 : decide (40 < bs.length) = true := decide_eq_true hl
    go_wp2_with fail
    refine (awake _).mono ?_
    rintro e w1 ⟨rfl, m1⟩
    go_wp2_with fail
    go_ret
    exact ⟨rfl, hm0.trans m1⟩
  have hd0 : decide (40 < (bs.length : Int)) = false := decide_eq_false (by omega)
  have hdn0 : decide (40 < bs.length) = false := decide_eq_false hl
  by_cases hl1 : 100 < t.1.length
  · have hd1 : decide (100 < (t.1.length : Int)) = true := decide_eq_true (by omega)
    have hdn1 : decide (100 < t.1.length) = true := decide_eq_true hl1
    go_wp2_with fail
    refine (awake _).mono ?_
    rintro e w1 ⟨rfl, m1⟩
    go_wp2_with fail
    go_ret
    exact ⟨rfl, hm0.trans m1⟩
  have hd1 : decide (100 < (t.1.length : Int)) = false := decide_eq_false (by omega)
  have hdn1 : decide (100 < t.1.length) = false := decide_eq_false hl1
  by_cases hl2 : 100 < t.2.length
  · have hd2 : decide (100 < (t.2.length : Int)) = true := decide_eq_true (by omega)
    have hdn2 : decide (100 < t.2.length) = true := decide_eq_true hl2
    go_wp2_with fail
    refine (awake _).mono ?_
    rintro e w1 ⟨rfl, m1⟩
    go_wp2_with fail
    go_ret
    exact ⟨rfl, hm0.trans m1⟩
  have hd2 : decide (100 < (t.2.length : Int)) = false := decide_eq_false (by omega)
  have hdn2 : decide (100 < t.2.length) = false := decide_eq_false hl2
  by_cases hl3 : 300 < d.size
  · have hd3 : decide (300 < (d.size : Int)) = true := decide_eq_true (by omega)
    have hdn3 : decide (300 < d.size) = true := decide_eq_true hl3
    go_wp2_with fail
    refine (awake _).mono ?_
    rintro e w1 ⟨rfl, m1⟩
    go_wp2_with fail
    go_ret
    exact ⟨rfl, hm0.trans m1⟩
  have hd3 : decide (300 < (d.size : Int)) = false := decide_eq_false (by omega)
  have hdn3 : decide (300 < d.size) = false := decide_eq_false hl3
  have hl9 : bs.length ≤ 1000 := by omega
  have hl91 : t.1.length ≤ 1000 := by omega
  have hl92 : t.2.length ≤ 1000 := by omega
  go_wp2_with fail
  obtain ⟨w0, hw0⟩ : ∃ w0, (w.alloc (.cells #[.slice oa bs.length ca, .bool br, .bool off, .int .i64 ops] 24)).alloc (.cells #[.slice om t.1.length cm, .slice ob t.2.length cb] 27) = w0 := ⟨_, rfl⟩
  rw [hw0] at hm0 hC hT HB H1 H2 c0 c1 c2 c3 t0 t1 ⊢
  clear hw0
  go_loop [11] (fun i => ∃ k : Nat, k ≤ bs.length ∧ i = .int .i64 k) (fun i => bs.length - (intOf i).toNat)
  case atStart => exact ⟨0, Nat.zero_le _, rfl⟩
  case round =>
    obtain ⟨k, hk, rfl⟩ := hrel
    by_cases hlt : k < bs.length
    · have hlt' : (k : Int) < (bs.length : Int) := by omega
      have hk0 : (0 : Int) ≤ (k : Int) := by omega
      obtain ⟨ga, fa, pa, qa, rfl, _, x0, _, x2, _, hpa⟩ := HB.out.at hlt
      have hpl := hpa.1
      unfold maxLen at hpl
      have HPA := hide hpa
      clear hpa
      generalize bs[k].1 = ps at *
      by_cases hp : 40 < ps.length
      · have hd4 : decide (40 < (ps.length : Int)) = true := decide_eq_true (by omega)
        have hdn4 : decide (40 < ps.length) = true := decide_eq_true hp
        go_wp2_with fail
        refine (awake _).mono ?_
        rintro e w1 ⟨rfl, m1⟩
        go_wp2_with fail
        go_ret
        exact ⟨rfl, hm0.trans m1⟩
      have hd4 : decide (40 < (ps.length : Int)) = false := decide_eq_false (by omega)
      have hdn4 : decide (40 < ps.length) = false := decide_eq_false hp
      go_wp2_with fail
      go_loop [12] (fun i => ∃ p : Nat, p ≤ ps.length ∧ i = .int .i64 p) (fun i => ps.length - (intOf i).toNat)
      case atStart => exact ⟨0, Nat.zero_le _, rfl⟩
      case round =>
        obtain ⟨p, hpp, rfl⟩ := hrel
        by_cases hplt : p < ps.length
        · have hplt' : (p : Int) < (ps.length : Int) := by omega
          have hp0 : (0 : Int) ≤ (p : Int) := by omega
          obtain ⟨gp, fp, rfl, _, q0, q1, q2⟩ := HPA.out.at hplt
          generalize ps[p] = pg at *
          obtain ⟨pw, pd, pt⟩ := pg
          simp only [] at q0 q1 q2
          by_cases hs : 300 < pd.size
          · have hd5 : decide (300 < (pd.size : Int)) = true := decide_eq_true (by omega)
            have hdn5 : decide (300 < pd.size) = true := decide_eq_true hs
            go_wp2_with fail
            refine (awake _).mono ?_
            rintro e w1 ⟨rfl, m1⟩
            go_wp2_with fail
            go_ret
            exact ⟨rfl, hm0.trans m1⟩
          have hd5 : decide (300 < (pd.size : Int)) = false := decide_eq_false (by omega)
          have hdn5 : decide (300 < pd.size) = false := decide_eq_false hs
          go_wp2_with fail
          go_round
          case rel => exact ⟨p + 1, by omega, by go_num⟩
          case measure => simp [intOf]; omega
        · have hpe : p = ps.length := by omega
          subst hpe
          have hplt' : ¬ ((ps.length : Int) < (ps.length : Int)) := by omega
          go_wp2_with fail
          go_round
          case rel => exact ⟨k + 1, by omega, by go_num⟩
          case measure => simp [intOf]; omega
    · have hke : k = bs.length := by omega
      subst hke
      have hlt' : ¬ ((bs.length : Int) < (bs.length : Int)) := by omega
      go_wp2_with fail
      refine (awake _).mono ?_
      rintro e w1 ⟨rfl, m1⟩
      have hC1 := hC.mem m1
      have hT1 := hT.mem m1
      have d0 := hC1.cell (j := 0) rfl
      have d1 := hC1.cell (j := 1) rfl
      have d2 := hC1.cell (j := 2) rfl
      have d3 := hC1.cell (j := 3) rfl
      have y0 := hT1.cell (j := 0) rfl
      have y1 := hT1.cell (j := 1) rfl
      have HS := hide (same _ _ bs br off ops t om ob cm cb b d s w1 (HB.out.mem m1) (H1.out.mem m1) (H2.out.mem m1) hl91 hl92 HWF.out HDS.out _w2)
      go_wp2_with fail
      refine HS.out.mono ?_
      rintro e w2 ⟨rfl, m2⟩
      go_wp2_with fail
      go_ret
      exact ⟨rfl, (hm0.trans m1).trans m2⟩
end Go.Proofs.YtedopplldpcinaaGreat.Plan
