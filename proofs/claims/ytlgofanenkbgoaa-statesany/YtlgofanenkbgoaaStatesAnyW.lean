/-
  Layer 10: the walk of StatesAny.
-/
import Derived.Test.YtlgofanenkbgoaaStatesCode
namespace Go.Proofs.Ytlgofanenkbgoaa.States
open Go.RowKit Go.Proofs.Ytlgofanenkbgoaa.Nand

set_option maxHeartbeats 4000000 in
set_option maxRecDepth 100000 in
theorem statesAny_walk (vb : Value) (bs : List BlockT) (br off : Bool) (ops o b s : Int) (w : World) (hb : BlocksAt (fun g => g < w.heap.size) w vb bs) (_w1 : (Lit.int .i64 o).wf = true) (_w2 : (Lit.int .i64 b).wf = true) (_w3 : (Lit.int .i64 s).wf = true) :
    Calls Try.prog 3 #[chipV vb br off ops, .int .i64 o, .int .i64 b, .int .i64 s] w fun e w' => e = .returned (.bool true) ∧ Below w.heap.size w w' := by
  clear _w1 _w2 _w3
  obtain ⟨oa, ca, rfl⟩ := hb.shape
  have hm0 : Mem w (w.alloc (.cells #[.slice oa bs.length ca, .bool br, .bool off, .int .i64 ops] 24)) := (Mem.refl w).alloc _
  have hC := Blk.new w #[.slice oa bs.length ca, .bool br, .bool off, .int .i64 ops] 24
  have hbl := hb.1
  unfold maxLen at hbl
  replace hb := hb.mem hm0
  simp only [chipV]
  have c0 := hC.cell (j := 0) rfl
  go_enter Try.func3, Try.ntmps3
  by_cases hl : 40 < (bs.length : Int)
  · have hd : decide (40 < (bs.length : Int)) = true := decide_eq_true hl
    go_wp2_with fail
    refine (awake _).mono ?_
    rintro e w1 ⟨rfl, m1⟩
    go_wp2_with fail
    go_ret
    exact ⟨rfl, hm0.trans m1⟩
  · have hd : decide (40 < (bs.length : Int)) = false := decide_eq_false hl
    have hl9 : bs.length ≤ 1000 := by omega
    go_wp2_with fail
    obtain ⟨w0, hw0⟩ : ∃ w0, w.alloc (.cells #[.slice oa bs.length ca, .bool br, .bool off, .int .i64 ops] 24) = w0 := ⟨_, rfl⟩
    rw [hw0] at hm0 hC hb c0 ⊢
    clear hw0
    have HB := hide (fun (w' : World) (m : Mem w0 w') => hb.mem m)
    have HC : Hid (∀ w', Mem w0 w' → w'.cell? ⟨w.heap.size, 0, none⟩ = some (.slice oa bs.length ca) ∧ w'.cell? ⟨w.heap.size, 1, none⟩ = some (.bool br) ∧ w'.cell? ⟨w.heap.size, 2, none⟩ = some (.bool off) ∧ w'.cell? ⟨w.heap.size, 3, none⟩ = some (.int .i64 ops)) := fun w' m => ⟨(hC.mem m).cell (j := 0) rfl, (hC.mem m).cell (j := 1) rfl, (hC.mem m).cell (j := 2) rfl, (hC.mem m).cell (j := 3) rfl⟩
    have hbs := hide hb
    clear hC hb
    go_loop [9] (fun i => ∃ k : Nat, k ≤ bs.length ∧ i = .int .i64 k) (fun i => bs.length - (intOf i).toNat)
    case atStart => exact ⟨0, Nat.zero_le _, rfl⟩
    case round =>
      obtain ⟨k, hk, rfl⟩ := hrel
      by_cases hlt : k < bs.length
      · have hlt' : (k : Int) < (bs.length : Int) := by omega
        have hk0 : (0 : Int) ≤ (k : Int) := by omega
        obtain ⟨ga, fa, pa, qa, rfl, _, x0, _, _, _, hpa⟩ := hbs.out.at hlt
        generalize bs[k].1 = ps at *
        clear hpa
        by_cases hp : 40 < (ps.length : Int)
        · have hdp : decide (40 < (ps.length : Int)) = true := decide_eq_true hp
          go_wp2_with fail
          refine (awake _).mono ?_
          rintro e w1 ⟨rfl, m1⟩
          go_wp2_with fail
          go_ret
          exact ⟨rfl, hm0.trans m1⟩
        · have hdp : decide (40 < (ps.length : Int)) = false := decide_eq_false hp
          have hp' : (ps.length : Int) ≤ 40 := by omega
          go_wp2_with fail
          go_round
          case rel => exact ⟨k + 1, by omega, by go_num⟩
          case measure => simp [intOf]; omega
      · have hke : k = bs.length := by omega
        subst hke
        have hlt' : ¬ ((bs.length : Int) < (bs.length : Int)) := by omega
        have HS := hide (fun (w' : World) (m : Mem w0 w') => same _ _ bs br off ops o w' (HB.out w' m) hl9)
        have HA := hide (fun (w' : World) (m : Mem w0 w') => codeState _ _ bs br off ops o b w' (HB.out w' m))
        have HR := hide (fun (w' : World) (m : Mem w0 w') => refState _ _ bs br off ops o b w' (HB.out w' m))
        have HM := hide (fun (w' : World) (m : Mem w0 w') => codeMany _ _ bs br off ops o s w' (HB.out w' m) hl9)
        have HV := hide (fun (w' : World) (m : Mem w0 w') => refMany _ _ bs br off ops o s w' (HB.out w' m) hl9)
        generalize stateT bs o b = st at *
        generalize manyT bs o s = mn at *
        have NA := hide (awake w0.drew)
        have N0 := hide (Mem.drew (Mem.refl w0))
        clear hbs HB hd hl hl9 hbl
        go_wp2_with fail
        clear c0
        go_region_held3 (fun w' => w'.cell? ⟨w.heap.size, 0, none⟩ = some (.slice oa bs.length ca) ∧ w'.cell? ⟨w.heap.size, 1, none⟩ = some (.bool br) ∧ w'.cell? ⟨w.heap.size, 2, none⟩ = some (.bool off) ∧ w'.cell? ⟨w.heap.size, 3, none⟩ = some (.int .i64 ops))
          (first | with_reducible exact (HC.out _ N0.out) | with_reducible exact (HC.out _ N1.out) | with_reducible exact (HC.out _ N2.out) | with_reducible exact (HC.out _ N3.out) | with_reducible exact (HC.out _ N4.out) | with_reducible exact (HC.out _ N5.out) | with_reducible exact (HC.out _ N6.out))
          (first
            | (go_at_call 9; with_reducible refine NA.out.mono ?_; rintro e w1 ⟨rfl, m1⟩; have N1 := hide (Mem.trans N0.out m1))
            | (go_at_call 10; with_reducible refine (HS.out _ N1.out).mono ?_; rintro e w2 ⟨rfl, m2⟩; have N2 := hide (Mem.trans N1.out m2))
            | (go_at_call 11; with_reducible refine (HA.out _ N2.out).mono ?_; rintro e w3 ⟨rfl, m3⟩; have N3 := hide (Mem.trans N2.out m3))
            | (go_at_call 11; with_reducible refine (HA.out _ N3.out).mono ?_; rintro e w4 ⟨rfl, m4⟩; have N4 := hide (Mem.trans N3.out m4))
            | (go_at_call 12; with_reducible refine (HR.out _ N2.out).mono ?_; rintro e w3 ⟨rfl, m3⟩; have N3 := hide (Mem.trans N2.out m3))
            | (go_at_call 12; with_reducible refine (HR.out _ N3.out).mono ?_; rintro e w4 ⟨rfl, m4⟩; have N4 := hide (Mem.trans N3.out m4))
            | (go_at_call 13; with_reducible refine (HM.out _ N4.out).mono ?_; rintro e w5 ⟨rfl, m5⟩; have N5 := hide (Mem.trans N4.out m5))
            | (go_at_call 13; with_reducible refine (HM.out _ N5.out).mono ?_; rintro e w6 ⟨rfl, m6⟩; have N6 := hide (Mem.trans N5.out m6))
            | (go_at_call 14; with_reducible refine (HV.out _ N4.out).mono ?_; rintro e w5 ⟨rfl, m5⟩; have N5 := hide (Mem.trans N4.out m5))
            | (go_at_call 14; with_reducible refine (HV.out _ N5.out).mono ?_; rintro e w6 ⟨rfl, m6⟩; have N6 := hide (Mem.trans N5.out m6)))
        all_goals (
          have hm6 := N6.out
          go_wp2_with fail
          go_ret
          exact ⟨rfl, hm0.trans hm6⟩)
end Go.Proofs.Ytlgofanenkbgoaa.States
