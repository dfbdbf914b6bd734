/-
  Layer 11: the walk of VictimAny.
-/
import Derived.Test.YtegamnaahipedaaVictimCode
import Derived.Test.YtegamnaahipedaaLiveOpens
namespace Go.Proofs.Ytegamnaahipedaa.Victim
open Go.RowKit Go.Proofs.Ytegamnaahipedaa.Nand Go.Proofs.Ytegamnaahipedaa.States Go.Proofs.Ytegamnaahipedaa.Live Go.Proofs.Ytegamnaahipedaa.Replay Go.Proofs.Ytegamnaahipedaa.Scan

set_option maxHeartbeats 4000000 in
set_option maxRecDepth 100000 in
theorem victimAny_walk (vb : Value) (bs : List BlockT) (br off : Bool) (ops : Int) (t : TableT) (om ob : Option Addr) (cm cb : Nat) (o most : Int) (w : World) (hb : BlocksAt (fun g => g < w.heap.size) w vb bs) (h1 : Ints .i64 w (.slice om t.1.length cm) t.1) (h2 : Ints .i64 w (.slice ob t.2.length cb) t.2) (hw : WfT t) (_w1 : (Lit.int .i64 o).wf = true) (_w2 : (Lit.int .i64 most).wf = true) :
    Calls Try.prog 3 #[chipV vb br off ops, .agg #[.slice om t.1.length cm, .slice ob t.2.length cb], .int .i64 o, .int .i64 most] w fun e w' => e = .returned (.bool true) ∧ Below w.heap.size w w' := by
  clear _w1 _w2
  obtain ⟨oa, ca, rfl⟩ := hb.shape
  have hm0 : Mem w ((w.alloc (.cells #[.slice oa bs.length ca, .bool br, .bool off, .int .i64 ops] 24)).alloc (.cells #[.slice om t.1.length cm, .slice ob t.2.length cb] 27)) := ((Mem.refl w).alloc _).alloc _
  have hC := (Blk.new w #[.slice oa bs.length ca, .bool br, .bool off, .int .i64 ops] 24).alloc (.cells #[.slice om t.1.length cm, .slice ob t.2.length cb] 27)
  have hT := Blk.new (w.alloc (.cells #[.slice oa bs.length ca, .bool br, .bool off, .int .i64 ops] 24)) #[.slice om t.1.length cm, .slice ob t.2.length cb] 27
  rw [World.size_alloc] at hT
  have hbl := hb.1
  unfold maxLen at hbl
  have ht1 := h1.1
  have ht2 := h2.1
  unfold maxLen at ht1 ht2
  have HB := hide (hb.mem hm0)
  have H1 := hide (h1.mem hm0)
  have H2 := hide (h2.mem hm0)
  have HWF := hide hw
  simp only [chipV]
  have c0 := hC.cell (j := 0) rfl
  have c1 := hC.cell (j := 1) rfl
  have c2 := hC.cell (j := 2) rfl
  have c3 := hC.cell (j := 3) rfl
  have t0 := hT.cell (j := 0) rfl
  have t1 := hT.cell (j := 1) rfl
  clear hb h1 h2 hw
  go_enter Try.func3, Try.ntmps3
  by_cases hl : 40 < bs.length
  · have hd : decide (40 < (bs.length : Int)) = true := decide_eq_true (by omega)
    have hdn : decide (40 < bs.length) = true := decide_eq_true hl
    go_wp2_with fail
    refine (awake _).mono ?_
    rintro e w1 ⟨rfl, m1⟩
    go_wp2_with fail
    go_ret
    exact ⟨rfl, hm0.trans m1⟩
  have hd : decide (40 < (bs.length : Int)) = false := decide_eq_false (by omega)
  have hdn : decide (40 < bs.length) = false := decide_eq_false hl
  by_cases hl1 : 100 < t.1.length
  · have hd1 : decide (100 < (t.1.length : Int)) = true := decide_eq_true (by omega)
    have hdn1 : decide (100 < t.1.length) = true := decide_eq_true hl1
    go_wp2_with fail
    refine (awake _).mono ?_
    rintro e w1 ⟨rfl, m1⟩
    go_wp2_with fail
    go_ret
    exact ⟨rfl, hm0.trans m1⟩
  have hd1 : decide (100 < (t.1.length : Int)) = false := decide_eq_false (by omega)
  have hdn1 : decide (100 < t.1.length) = false := decide_eq_false hl1
  by_cases hl2 : 100 < t.2.length
  · have hd2 : decide (100 < (t.2.length : Int)) = true := decide_eq_true (by omega)
    have hdn2 : decide (100 < t.2.length) = true := decide_eq_true hl2
    go_wp2_with fail
    refine (awake _).mono ?_
    rintro e w1 ⟨rfl, m1⟩
    go_wp2_with fail
    go_ret
    exact ⟨rfl, hm0.trans m1⟩
  have hd2 : decide (100 < (t.2.length : Int)) = false := decide_eq_false (by omega)
  have hdn2 : decide (100 < t.2.length) = false := decide_eq_false hl2
  have hl9 : bs.length ≤ 1000 := by omega
  have hl91 : t.1.length ≤ 1000 := by omega
  have hl92 : t.2.length ≤ 1000 := by omega
  go_wp2_with fail
  obtain ⟨w0, hw0⟩ : ∃ w0, (w.alloc (.cells #[.slice oa bs.length ca, .bool br, .bool off, .int .i64 ops] 24)).alloc (.cells #[.slice om t.1.length cm, .slice ob t.2.length cb] 27) = w0 := ⟨_, rfl⟩
  rw [hw0] at hm0 hC hT HB H1 H2 c0 c1 c2 c3 t0 t1 ⊢
  clear hw0
  go_loop [9] (fun i => ∃ k : Nat, k ≤ bs.length ∧ i = .int .i64 k ∧ ∀ j, j < k → 0 ≤ erT bs j ∧ erT bs j ≤ 1099511627776) (fun i => bs.length - (intOf i).toNat)
  case atStart => exact ⟨0, Nat.zero_le _, rfl, fun j hj => by omega⟩
  case round =>
    obtain ⟨k, hk, rfl, hall⟩ := hrel
    have HAll := hide hall
    clear hall
    by_cases hlt : k < bs.length
    · have hlt' : (k : Int) < (bs.length : Int) := by omega
      have hk0 : (0 : Int) ≤ (k : Int) := by omega
      obtain ⟨ga, fa, pa, qa, rfl, _, x0, _, x2, _, hpa⟩ := HB.out.at hlt
      have hpl := hpa.1
      unfold maxLen at hpl
      have HER : Hid (erT bs k = bs[k].2.2.1) := (er_at hlt).symm
      have HNX : Hid (0 ≤ bs[k].2.2.1 → bs[k].2.2.1 ≤ 1099511627776 → ∀ j, j < k + 1 → 0 ≤ erT bs j ∧ erT bs j ≤ 1099511627776) := by
        intro e1 e2 j hj
        by_cases e : j = k
        · subst e; rw [HER.out]; exact ⟨e1, e2⟩
        · exact HAll.out j (by omega)
      generalize bs[k].1 = ps at *
      generalize bs[k].2.2.1 = er at *
      clear hpa HER
      by_cases hp : 40 < ps.length
      · have hdp : decide (40 < (ps.length : Int)) = true := decide_eq_true (by omega)
        have hdpn : decide (40 < ps.length) = true := decide_eq_true hp
        go_wp2_with fail
        refine (awake _).mono ?_
        rintro e w1 ⟨rfl, m1⟩
        go_wp2_with fail
        go_ret
        exact ⟨rfl, hm0.trans m1⟩
      have hdp : decide (40 < (ps.length : Int)) = false := decide_eq_false (by omega)
      have hdpn : decide (40 < ps.length) = false := decide_eq_false hp
      by_cases he0 : er < 0
      · have hde : decide (er < 0) = true := decide_eq_true he0
        go_wp2_with fail
        refine (awake _).mono ?_
        rintro e w1 ⟨rfl, m1⟩
        go_wp2_with fail
        go_ret
        exact ⟨rfl, hm0.trans m1⟩
      have hde : decide (er < 0) = false := decide_eq_false he0
      have he0' : 0 ≤ er := by omega
      by_cases he1 : 1099511627776 < er
      · have hde1 : decide (1099511627776 < er) = true := decide_eq_true he1
        go_wp2_with fail
        refine (awake _).mono ?_
        rintro e w1 ⟨rfl, m1⟩
        go_wp2_with fail
        go_ret
        exact ⟨rfl, hm0.trans m1⟩
      have hde1 : decide (1099511627776 < er) = false := decide_eq_false he1
      have he1' : er ≤ 1099511627776 := by omega
      have HN := hide (HNX.out he0' he1')
      go_wp2_with fail
      go_round
      case rel => exact ⟨k + 1, by omega, by go_num, HN.out⟩
      case measure => simp [intOf]; omega
    · have hke : k = bs.length := by omega
      subst hke
      have hlt' : ¬ ((bs.length : Int) < (bs.length : Int)) := by omega
      have her : Hid (∀ b ∈ bs, 0 ≤ b.2.2.1 ∧ b.2.2.1 ≤ 1099511627776) := by
        intro b hbm
        obtain ⟨j, hj, rfl⟩ := List.mem_iff_getElem.1 hbm
        have := HAll.out j hj
        rw [← er_at hj] at this
        exact this
      go_wp2_with fail
      refine (awake _).mono ?_
      rintro e w1 ⟨rfl, m1⟩
      have hC1 := hC.mem m1
      have hT1 := hT.mem m1
      have d0 := hC1.cell (j := 0) rfl
      have d1 := hC1.cell (j := 1) rfl
      have d2 := hC1.cell (j := 2) rfl
      have d3 := hC1.cell (j := 3) rfl
      have y0 := hT1.cell (j := 0) rfl
      have y1 := hT1.cell (j := 1) rfl
      have HS := hide (same _ _ bs br off ops t om ob cm cb o most w1 (HB.out.mem m1) hl9 (H1.out.mem m1) (H2.out.mem m1) hl91 hl92 HWF.out her.out)
      go_wp2_with fail
      refine HS.out.mono ?_
      rintro e w2 ⟨rfl, m2⟩
      go_wp2_with fail
      go_ret
      exact ⟨rfl, (hm0.trans m1).trans m2⟩
end Go.Proofs.Ytegamnaahipedaa.Victim
