/-
  Layer 6: the walk of ScanAny.
-/
import Derived.Test.YtcjhaapmehegkaaScanLate
namespace Go.Proofs.Ytcjhaapmehegkaa.Scan
open Go.RowKit Go.Proofs.Ytcjhaapmehegkaa.Nand

set_option maxHeartbeats 4000000 in
set_option maxRecDepth 100000 in
theorem scanAny_walk (vb : Value) (bs : List BlockT) (br off : Bool) (ops : Int) (w : World) (hb : BlocksAt (fun g => g < w.heap.size) w vb bs) (hbs : ∀ b ∈ bs, ∀ p ∈ b.1, p.2.1.size ≤ maxLen ∧ p.2.2.size ≤ maxLen) :
    Calls Try.prog 4 #[chipV vb br off ops] w fun e w' => e = .returned (.bool true) ∧ Below w.heap.size w w' := by
  obtain ⟨oa, ca, rfl⟩ := hb.shape
  have hm : Mem w (w.alloc (.cells #[.slice oa bs.length ca, .bool br, .bool off, .int .i64 ops] 24)) := (Mem.refl w).alloc _
  have hC := Blk.new w #[.slice oa bs.length ca, .bool br, .bool off, .int .i64 ops] 24
  replace hb := hb.mem hm
  have HBS := hide hbs
  clear hbs
  by_cases hl : 40 < bs.length
  · have hl' : (40 : Int) < (bs.length : Int) := by omega
    go_enter Try.func4, Try.ntmps4
    go_wp2_with fail
    refine (awake _).mono ?_
    rintro e w1 ⟨rfl, m1⟩
    go_wp2_with fail
    go_ret
    exact ⟨rfl, hm.trans m1⟩
  · have hl' : (bs.length : Int) ≤ 40 := by omega
    go_enter Try.func4, Try.ntmps4
    go_wp2_with fail
    generalize hW : w.alloc (.cells #[.slice oa bs.length ca, .bool br, .bool off, .int .i64 ops] 24) = W at *
    clear hW
    go_loopw [3] (fun i wr => ∃ k : Nat, k ≤ bs.length ∧ i = .int .i64 k ∧ (∀ j (h : j < bs.length), j < k → bs[j].1.length ≤ 40) ∧ Mem W wr) (fun i _ => bs.length - (intOf i).toNat)
    case atStart => exact ⟨0, Nat.zero_le _, rfl, fun j _ h => absurd h (Nat.not_lt_zero _), Mem.refl _⟩
    case round =>
      obtain ⟨k, hk, rfl, hall, hmr⟩ := hrel
      have HA := hide hall
      clear hall
      have c0 := (hC.mem hmr).cell (j := 0) rfl
      by_cases hlt : k < bs.length
      · have hlt' : (k : Int) < (bs.length : Int) := by omega
        have hk0 : (0 : Int) ≤ (k : Int) := by omega
        obtain ⟨ga, fa, pa, qa, rfl, _, x0, _, _, _, hpa⟩ := (hb.mem hmr).at hlt
        by_cases hp : 40 < bs[k].1.length
        · have hp' : (40 : Int) < (bs[k].1.length : Int) := by omega
          go_wp2_with fail
          refine (awake _).mono ?_
          rintro e w1 ⟨rfl, m1⟩
          go_wp2_with fail
          go_ret
          exact ⟨rfl, hm.trans (hmr.trans m1)⟩
        have hp' : (bs[k].1.length : Int) ≤ 40 := by omega
        have HAn : Hid (∀ j (h : j < bs.length), j < k + 1 → bs[j].1.length ≤ 40) := fun j h hj => by
          by_cases e : j < k
          · exact HA.out j h e
          · have : j = k := by omega
            subst this
            omega
        have HSP : Hid (∀ p ∈ bs[k].1, p.2.1.size ≤ maxLen ∧ p.2.2.size ≤ maxLen) := HBS.out _ (List.getElem_mem hlt)
        generalize bs[k].1 = ps at *
        have HC : Hid (∀ w', Mem wr w' → w'.cell? ⟨w.heap.size, 0, none⟩ = some (.slice (some ⟨ga, fa, none⟩) bs.length ca)) := fun w' h => ((hC.mem hmr).mem h).cell (j := 0) rfl
        have HX : Hid (∀ w', Mem wr w' → w'.cell? ⟨ga, fa + k * 4, none⟩ = some (.slice pa ps.length qa)) := fun w' h => (Below.cell h (p := ⟨ga, fa + k * 4, none⟩) (World.block_lt_of_cell? wr _ x0)).trans x0
        go_wp2_with fail
        go_loopw [4] (fun i wq => ∃ j : Nat, j ≤ ps.length ∧ i = .int .i64 j ∧ Mem wr wq) (fun i _ => ps.length - (intOf i).toNat)
        case atStart => exact ⟨0, Nat.zero_le _, rfl, Mem.refl _⟩
        case round =>
          obtain ⟨j, hj, rfl, hmq⟩ := hrel
          have c0 := HC.out _ hmq
          have x0 := HX.out _ hmq
          by_cases hlj : j < ps.length
          · have hlj' : (j : Int) < (ps.length : Int) := by omega
            have hj0 : (0 : Int) ≤ (j : Int) := by omega
            obtain ⟨gp, fp, rfl, _, y0, y1, y2⟩ := (hpa.mem hmq).at hlj
            generalize ps[j] = pg at y0 y1 y2
            go_wp2_with fail
            go_quiet (fail)
            have m1 := (hmr.trans hmq).trans ((Mem.refl wr).drewN nq)
            have m2 := hmq.trans ((Mem.refl wr).drewN nq)
            go_wp2_with fail
            · refine (awake _).mono ?_
              rintro e w1 ⟨rfl, n1⟩
              go_wp2_with fail
              go_ret
              exact ⟨rfl, hm.trans (m1.trans n1)⟩
            · exact ⟨⟨j + 1, by omega, by go_num, m2⟩, by simp [intOf]; omega⟩
          · have hje : j = ps.length := by omega
            subst hje
            have hlj' : ¬ ((ps.length : Int) < (ps.length : Int)) := by omega
            have m1 := hmr.trans hmq
            go_wp2_with fail
            go_roundw
            case rel => exact ⟨k + 1, by omega, by go_num, HAn.out, m1⟩
            case measure => simp [intOf]; omega
      · have hke : k = bs.length := by omega
        subst hke
        have hlt' : ¬ ((bs.length : Int) < (bs.length : Int)) := by omega
        have hfew : Few bs := ⟨by omega, fun b hb => by
          obtain ⟨i, hi, rfl⟩ := List.getElem_of_mem hb
          have := HA.out i hi hi
          omega⟩
        have HF := hide hfew
        have HSZ : Hid (∀ b ∈ bs, ∀ p ∈ b.1, p.2.2.size ≤ maxLen) := fun b hb p hp => (HBS.out b hb p hp).2
        clear hfew
        have HCC : Hid (∀ w', Mem wr w' → w'.cell? ⟨w.heap.size, 0, none⟩ = some (.slice oa bs.length ca) ∧ w'.cell? ⟨w.heap.size, 1, none⟩ = some (.bool br) ∧ w'.cell? ⟨w.heap.size, 2, none⟩ = some (.bool off) ∧ w'.cell? ⟨w.heap.size, 3, none⟩ = some (.int .i64 ops)) := fun w' h => ⟨((hC.mem hmr).mem h).cell (j := 0) rfl, ((hC.mem hmr).mem h).cell (j := 1) rfl, ((hC.mem hmr).mem h).cell (j := 2) rfl, ((hC.mem hmr).mem h).cell (j := 3) rfl⟩
        obtain ⟨c0, c1, c2, c3⟩ := HCC.out wr (Mem.refl _)
        have HB := hide (fun (w' : World) (h : Mem wr w') => (hb.mem hmr).mem h)
        have N0 := hide (Mem.drew (Mem.refl wr))
        clear hb hC
        go_wp2_with fail
        go_region_held3 (fun w' => w'.cell? ⟨w.heap.size, 0, none⟩ = some (.slice oa bs.length ca) ∧ w'.cell? ⟨w.heap.size, 1, none⟩ = some (.bool br) ∧ w'.cell? ⟨w.heap.size, 2, none⟩ = some (.bool off) ∧ w'.cell? ⟨w.heap.size, 3, none⟩ = some (.int .i64 ops))
          (first | with_reducible exact HCC.out _ N0.out | with_reducible exact HCC.out _ N1.out | with_reducible exact HCC.out _ N2.out | with_reducible exact HCC.out _ N3.out | with_reducible exact HCC.out _ N4.out)
          (first
            | (go_at_call 9; refine (awake _).mono ?_; rintro e w1 ⟨rfl, n1⟩; have N1 := hide (Mem.trans N0.out n1); clear n1)
            | (go_at_call 15; refine (codeAll _ _ bs br off ops _ (HB.out _ N1.out) HF.out HSZ.out).mono ?_; rintro e w2 ⟨⟨va, rfl, hfa⟩, n2⟩; obtain ⟨o2, c2, rfl⟩ := hfa.shape; have N2 := hide (Mem.trans N1.out n2); have HFA := hide hfa; clear n2 hfa)
            | (go_at_call 16; refine (refAll _ _ bs br off ops _ (HB.out _ N2.out) HF.out HSZ.out).mono ?_; rintro e w3 ⟨⟨vb, rfl, hfb⟩, n3⟩; obtain ⟨o3, c3, rfl⟩ := hfb.shape; have N3 := hide (Mem.trans N2.out n3); have HFB := hide hfb; have HFA2 := hide (HFA.out.mem n3); clear n3 hfb)
            | (go_at_call 14; refine (refScanSame _ _ _ _ _ _ HFA2.out HFB.out).mono ?_; rintro e w4 ⟨rfl, n4⟩; have N4 := hide (Mem.trans N3.out n4); clear n4))
        go_wp2_with fail
        go_ret
        exact ⟨rfl, hm.trans (hmr.trans N4.out)⟩
end Go.Proofs.Ytcjhaapmehegkaa.Scan
