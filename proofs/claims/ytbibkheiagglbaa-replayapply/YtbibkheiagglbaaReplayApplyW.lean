/-
  Layer 7: the walk of ReplayApply.
-/
import Derived.Test.YtbibkheiagglbaaReplayAwake
import Derived.Test.YtbibkheiagglbaaReplayOpens
namespace Go.Proofs.Ytbibkheiagglbaa.Replay
open Go.RowKit Go.Proofs.Ytbibkheiagglbaa.Scan Go.Proofs.Ytbibkheiagglbaa.Nand
attribute [local irreducible] applyT

set_option maxHeartbeats 4000000 in
set_option maxRecDepth 100000 in
theorem replayApply_walk (t : TableT) (om ob : Option Addr) (cm cb : Nat) (f : FoundT) (ok ov : Option Addr) (ck cv : Nat) (w : World) (ht1 : Ints .i64 w (.slice om t.1.length cm) t.1) (ht2 : Ints .i64 w (.slice ob t.2.length cb) t.2) (hk : Ints .i64 w (.slice ok f.2.2.2.1.length ck) f.2.2.2.1) (hv : Ints .i64 w (.slice ov f.2.2.2.2.length cv) f.2.2.2.2) :
    Calls Try.prog 4 #[.agg #[.slice om t.1.length cm, .slice ob t.2.length cb], .agg #[.int .i64 f.1, .int .i64 f.2.1, .int .i64 f.2.2.1, .slice ok f.2.2.2.1.length ck, .slice ov f.2.2.2.2.length cv]] w fun e w' => e = .returned (.bool true) ∧ Mem w w' := by
  obtain ⟨p, k, s, ks, vs⟩ := f
  simp only [] at *
  have hm : Mem w ((w.alloc (.cells #[.slice om t.1.length cm, .slice ob t.2.length cb] 26)).alloc (.cells #[.int .i64 p, .int .i64 k, .int .i64 s, .slice ok ks.length ck, .slice ov vs.length cv] 32)) := ((Mem.refl w).alloc _).alloc _
  have hT : Blk ((w.alloc (.cells #[.slice om t.1.length cm, .slice ob t.2.length cb] 26)).alloc (.cells #[.int .i64 p, .int .i64 k, .int .i64 s, .slice ok ks.length ck, .slice ov vs.length cv] 32)) w.heap.size 26 #[.slice om t.1.length cm, .slice ob t.2.length cb] := (Blk.new w _ _).alloc _
  have hF : Blk ((w.alloc (.cells #[.slice om t.1.length cm, .slice ob t.2.length cb] 26)).alloc (.cells #[.int .i64 p, .int .i64 k, .int .i64 s, .slice ok ks.length ck, .slice ov vs.length cv] 32)) (w.heap.size + 1) 32 #[.int .i64 p, .int .i64 k, .int .i64 s, .slice ok ks.length ck, .slice ov vs.length cv] := by
    have := Blk.new (w.alloc (.cells #[.slice om t.1.length cm, .slice ob t.2.length cb] 26)) #[.int .i64 p, .int .i64 k, .int .i64 s, .slice ok ks.length ck, .slice ov vs.length cv] 32
    simpa using this
  replace ht1 := ht1.mem hm
  replace ht2 := ht2.mem hm
  replace hk := hk.mem hm
  replace hv := hv.mem hm
  by_cases l1 : 300 < t.1.length
  · have l1' : (300 : Int) < (t.1.length : Int) := by omega
    go_enter Try.func4, Try.ntmps4
    go_wp2_with fail
    refine (awake _).mono ?_
    rintro e w1 ⟨rfl, m1⟩
    go_wp2_with fail
    go_ret
    exact ⟨rfl, hm.trans m1⟩
  have l1' : (t.1.length : Int) ≤ 300 := by omega
  by_cases l2 : 300 < t.2.length
  · have l2' : (300 : Int) < (t.2.length : Int) := by omega
    go_enter Try.func4, Try.ntmps4
    go_wp2_with fail
    refine (awake _).mono ?_
    rintro e w1 ⟨rfl, m1⟩
    go_wp2_with fail
    go_ret
    exact ⟨rfl, hm.trans m1⟩
  have l2' : (t.2.length : Int) ≤ 300 := by omega
  by_cases l3 : 300 < ks.length
  · have l3' : (300 : Int) < (ks.length : Int) := by omega
    go_enter Try.func4, Try.ntmps4
    go_wp2_with fail
    refine (awake _).mono ?_
    rintro e w1 ⟨rfl, m1⟩
    go_wp2_with fail
    go_ret
    exact ⟨rfl, hm.trans m1⟩
  have l3' : (ks.length : Int) ≤ 300 := by omega
  by_cases l4 : 300 < vs.length
  · have l4' : (300 : Int) < (vs.length : Int) := by omega
    go_enter Try.func4, Try.ntmps4
    go_wp2_with fail
    refine (awake _).mono ?_
    rintro e w1 ⟨rfl, m1⟩
    go_wp2_with fail
    go_ret
    exact ⟨rfl, hm.trans m1⟩
  have l4' : (vs.length : Int) ≤ 300 := by omega
  have hl1 : t.1.length ≤ 1000 := by omega
  have hl2 : t.2.length ≤ 1000 := by omega
  go_enter Try.func4, Try.ntmps4
  go_wp2_with fail
  generalize (w.alloc (.cells #[.slice om t.1.length cm, .slice ob t.2.length cb] 26)).alloc (.cells #[.int .i64 p, .int .i64 k, .int .i64 s, .slice ok ks.length ck, .slice ov vs.length cv] 32) = W at *
  have HK : Hid (∀ w', Mem W w' → w'.cell? ⟨w.heap.size, 0, none⟩ = some (.slice om t.1.length cm) ∧ w'.cell? ⟨w.heap.size, 1, none⟩ = some (.slice ob t.2.length cb) ∧ w'.cell? ⟨w.heap.size + 1, 0, none⟩ = some (.int .i64 p) ∧ w'.cell? ⟨w.heap.size + 1, 1, none⟩ = some (.int .i64 k) ∧ w'.cell? ⟨w.heap.size + 1, 2, none⟩ = some (.int .i64 s) ∧ w'.cell? ⟨w.heap.size + 1, 3, none⟩ = some (.slice ok ks.length ck) ∧ w'.cell? ⟨w.heap.size + 1, 4, none⟩ = some (.slice ov vs.length cv)) := fun w' h => ⟨(hT.mem h).cell (j := 0) rfl, (hT.mem h).cell (j := 1) rfl, (hF.mem h).cell (j := 0) rfl, (hF.mem h).cell (j := 1) rfl, (hF.mem h).cell (j := 2) rfl, (hF.mem h).cell (j := 3) rfl, (hF.mem h).cell (j := 4) rfl⟩
  obtain ⟨x0, x1, x2, x3, x4, x5, x6⟩ := HK.out W (Mem.refl _)
  have HT := hide (fun (w' : World) (h : Mem W w') => And.intro (ht1.mem h) (ht2.mem h))
  have HR := hide (fun (w' : World) (h : Mem W w') => And.intro (hk.mem h) (hv.mem h))
  have N0 := hide (Mem.drew (Mem.refl W))
  clear ht1 ht2 hk hv hT hF l1 l2 l3 l4
  go_region_held3 (fun w' => w'.cell? ⟨w.heap.size, 0, none⟩ = some (.slice om t.1.length cm) ∧ w'.cell? ⟨w.heap.size, 1, none⟩ = some (.slice ob t.2.length cb) ∧ w'.cell? ⟨w.heap.size + 1, 0, none⟩ = some (.int .i64 p) ∧ w'.cell? ⟨w.heap.size + 1, 1, none⟩ = some (.int .i64 k) ∧ w'.cell? ⟨w.heap.size + 1, 2, none⟩ = some (.int .i64 s) ∧ w'.cell? ⟨w.heap.size + 1, 3, none⟩ = some (.slice ok ks.length ck) ∧ w'.cell? ⟨w.heap.size + 1, 4, none⟩ = some (.slice ov vs.length cv))
    (first | with_reducible exact HK.out _ N0.out | with_reducible exact HK.out _ N1.out | with_reducible exact HK.out _ N2.out | with_reducible exact HK.out _ N3.out | with_reducible exact HK.out _ N4.out)
    (first
      | (go_at_call 11; refine (awake _).mono ?_; rintro e w1 ⟨rfl, n1⟩; have N1 := hide (Mem.trans N0.out n1); clear n1)
      | (go_at_call 15; refine (codeApply t om ob cm cb p k s ok ov ck cv ks vs _ (HT.out _ N1.out).1 (HT.out _ N1.out).2 hl1 hl2 (HR.out _ N1.out).1 (HR.out _ N1.out).2).mono ?_; rintro e w2 ⟨⟨v2, rfl, h2⟩, n2⟩; obtain ⟨oa2, ca2, ob2, cb2, rfl, _, _⟩ := id h2; have N2 := hide (Mem.trans N1.out n2); have HV2 := hide h2; clear n2 h2)
      | (go_at_call 16; refine (refApply t om ob cm cb p k s ok ov ck cv ks vs _ (HT.out _ N2.out).1 (HT.out _ N2.out).2 hl1 hl2 (HR.out _ N2.out).1 (HR.out _ N2.out).2).mono ?_; rintro e w3 ⟨⟨v3, rfl, h3⟩, n3⟩; obtain ⟨oa3, ca3, ob3, cb3, rfl, _, _⟩ := id h3; have N3 := hide (Mem.trans N2.out n3); have HV3 := hide h3; have HV2b := hide (HV2.out.mem n3); clear n3 h3)
      | (go_at_call 12; refine (refSame7 _ _ _ _ _ _ _ HV2b.out HV3.out).mono ?_; rintro e w4 ⟨rfl, n4⟩; rw [decide_eq_true (rfl : applyT t (p, k, s, ks, vs) = applyT t (p, k, s, ks, vs))]; have N4 := hide (Mem.trans N3.out n4); clear n4))
  go_wp2_with fail
  go_ret
  exact ⟨rfl, hm.trans N4.out⟩
end Go.Proofs.Ytbibkheiagglbaa.Replay
