/-
  Layer 8: what any right program answers; the laws' comparison.
-/
import Derived.Test.YtamngecgkkgnpaaLiveWanted
import Derived.Test.YtamngecgkkgnpaaLiveRefs
import Derived.Test.YtamngecgkkgnpaaReplayWords
import Derived.Deep.RegionHeld3
namespace Go.Proofs.Ytamngecgkkgnpaa.Live
open Go.RowKit Go.Proofs.Ytamngecgkkgnpaa.Replay Go.Proofs.Ytamngecgkkgnpaa.Scan

def tabA : TableT := ([5, -1, 5], [5, 6, 7])
theorem aw_wf : WfT tabA := by
  refine ⟨?_, ?_⟩ <;> intro z hz <;> simp [tabA] at hz <;> unfold wfZ <;> omega
theorem aw1 : which tabA.1 5 = [0, 2] := by decide
theorem aw2 : which tabA.2 6 = [1] := by decide
theorem aw3 : which tabA.1 (-1) = [] := by decide
theorem aw4 : liveT tabA 7 = true := by decide
theorem aw5 : liveT tabA 8 = false := by decide
theorem aw6 : countT tabA 0 = 3 := by decide
theorem aw7 : countT tabA 1 = 0 := by decide
theorem wfZ_small {p : Int} (h : -100000 ≤ p) (h' : p ≤ 100000) : wfZ p := by unfold wfZ; omega
set_option maxHeartbeats 4000000 in
set_option maxRecDepth 100000 in
theorem awake (w : World) : Calls Try.prog 9 #[] w fun e w' => e = .returned (.bool true) ∧ Mem w w' := by
  have hT0 := Blk.new ((w.alloc (.cells #[.int .i64 5, .int .i64 (-1), .int .i64 5] 3)).alloc (.cells #[.int .i64 5, .int .i64 6, .int .i64 7] 3)) #[(.slice (some ⟨w.heap.size, 0, none⟩) 3 3), (.slice (some ⟨w.heap.size + 1, 0, none⟩) 3 3)] 24
  rw [World.size_alloc, World.size_alloc] at hT0
  have ma : Mem w (((w.alloc (.cells #[.int .i64 5, .int .i64 (-1), .int .i64 5] 3)).alloc (.cells #[.int .i64 5, .int .i64 6, .int .i64 7] 3)).alloc (.cells #[.slice (some ⟨w.heap.size, 0, none⟩) 3 3, .slice (some ⟨w.heap.size + 1, 0, none⟩) 3 3] 24)) := (((Mem.refl w).alloc _).alloc _).alloc _
  have h1 : Ints .i64 (((w.alloc (.cells #[.int .i64 5, .int .i64 (-1), .int .i64 5] 3)).alloc (.cells #[.int .i64 5, .int .i64 6, .int .i64 7] 3)).alloc (.cells #[.slice (some ⟨w.heap.size, 0, none⟩) 3 3, .slice (some ⟨w.heap.size + 1, 0, none⟩) 3 3] 24)) (.slice (some ⟨w.heap.size, 0, none⟩) 3 3) [5, -1, 5] := (Ints.lit .i64 w [5, -1, 5] 3 (by simp [maxLen])).mem (((Mem.refl _).alloc _).alloc _)
  have h2 : Ints .i64 (((w.alloc (.cells #[.int .i64 5, .int .i64 (-1), .int .i64 5] 3)).alloc (.cells #[.int .i64 5, .int .i64 6, .int .i64 7] 3)).alloc (.cells #[.slice (some ⟨w.heap.size, 0, none⟩) 3 3, .slice (some ⟨w.heap.size + 1, 0, none⟩) 3 3] 24)) (.slice (some ⟨w.heap.size + 1, 0, none⟩) 3 3) [5, 6, 7] := by
    have h := (Ints.lit .i64 (w.alloc (.cells #[.int .i64 5, .int .i64 (-1), .int .i64 5] 3)) [5, 6, 7] 3 (by simp [maxLen])).mem ((Mem.refl _).alloc (.cells #[(.slice (some ⟨w.heap.size, 0, none⟩) 3 3), (.slice (some ⟨w.heap.size + 1, 0, none⟩) 3 3)] 24))
    rw [World.size_alloc] at h
    exact h
  have hl1 : tabA.1.length ≤ 1000 := by decide
  have hl2 : tabA.2.length ≤ 1000 := by decide
  have HW := hide aw_wf
  go_enter Try.func9, Try.ntmps9
  go_wp2_with fail
  generalize hW : ((w.alloc (.cells #[.int .i64 5, .int .i64 (-1), .int .i64 5] 3)).alloc (.cells #[.int .i64 5, .int .i64 6, .int .i64 7] 3)).alloc (.cells #[.slice (some ⟨w.heap.size, 0, none⟩) 3 3, .slice (some ⟨w.heap.size + 1, 0, none⟩) 3 3] 24) = W at *
  clear hW
  have HK : Hid (∀ w', Mem W w' → w'.cell? ⟨w.heap.size + 1 + 1, 0, none⟩ = some (.slice (some ⟨w.heap.size, 0, none⟩) 3 3) ∧ w'.cell? ⟨w.heap.size + 1 + 1, 1, none⟩ = some (.slice (some ⟨w.heap.size + 1, 0, none⟩) 3 3) ∧ Ints .i64 w' (.slice (some ⟨w.heap.size, 0, none⟩) 3 3) tabA.1 ∧ Ints .i64 w' (.slice (some ⟨w.heap.size + 1, 0, none⟩) 3 3) tabA.2) := fun w' h => ⟨(hT0.mem h).cell (j := 0) rfl, (hT0.mem h).cell (j := 1) rfl, h1.mem h, h2.mem h⟩
  have m0 := Mem.refl W
  clear h1 h2 hT0
  obtain ⟨_, _, i1, i2⟩ := HK.out _ m0
  refine (codeOwners tabA _ _ 3 3 (5) _ i1 hl1).mono ?_
  rintro e w1 ⟨⟨v, rfl, j1⟩, n1⟩
  rw [aw1] at j1
  obtain ⟨oa, ca, rfl⟩ := j1.ints.shape
  have m1 := m0.trans n1
  clear i1 i2 n1
  obtain ⟨x0, x1, _, _⟩ := HK.out _ m1
  have k1 := Ints.lit .i64 w1 [0, 2] 3 (by simp [maxLen])
  have ma1 := (Mem.refl w1).alloc (.cells ([0, 2].map (Value.int .i64)).toArray 3)
  have j2 := j1.ints.mem ma1
  go_wp2_with fail
  refine (Pack.refSame _ _ [0, 2] [0, 2] _ j2 k1).mono ?_
  rintro e w2 ⟨rfl, n1⟩
  have m2 := (m1.trans ma1).trans (Mem.quiet n1)
  rw [show decide (([0, 2] : List Int) = [0, 2]) = true from by decide]
  obtain ⟨x2, x3, _, _⟩ := HK.out _ m2
  clear k1 j2 j1 n1 x0 x1 ma1
  go_wp2_with fail
  clear x2 x3
  obtain ⟨_, _, i1, i2⟩ := HK.out _ m2
  refine (codeSays tabA _ _ 3 3 (6) _ i2 hl2).mono ?_
  rintro e w3 ⟨⟨v, rfl, j1⟩, n1⟩
  rw [aw2] at j1
  obtain ⟨oa, ca, rfl⟩ := j1.ints.shape
  have m3 := m2.trans n1
  clear i1 i2 n1
  obtain ⟨x0, x1, _, _⟩ := HK.out _ m3
  have k1 := Ints.lit .i64 w3 [1] 3 (by simp [maxLen])
  have ma3 := (Mem.refl w3).alloc (.cells ([1].map (Value.int .i64)).toArray 3)
  have j2 := j1.ints.mem ma3
  go_wp2_with fail
  refine (Pack.refSame _ _ [1] [1] _ j2 k1).mono ?_
  rintro e w4 ⟨rfl, n1⟩
  have m4 := (m3.trans ma3).trans (Mem.quiet n1)
  rw [show decide (([1] : List Int) = [1]) = true from by decide]
  obtain ⟨x2, x3, _, _⟩ := HK.out _ m4
  clear k1 j2 j1 n1 x0 x1 ma3
  go_wp2_with fail
  clear x2 x3
  obtain ⟨_, _, i1, i2⟩ := HK.out _ m4
  refine (codeOwners tabA _ _ 3 3 (-1) _ i1 hl1).mono ?_
  rintro e w5 ⟨⟨v, rfl, j1⟩, n1⟩
  rw [aw3] at j1
  obtain ⟨oa, ca, rfl⟩ := j1.ints.shape
  have m5 := m4.trans n1
  clear i1 i2 n1
  obtain ⟨x2, x3, _, _⟩ := HK.out _ m5
  clear j1
  go_wp2_with fail
  clear x2 x3
  obtain ⟨_, _, i1, i2⟩ := HK.out _ m5
  refine (codeLive tabA _ _ 3 3 (7) _ i1 i2 hl1 hl2 HW.out (wfZ_small (by decide) (by decide))).mono ?_
  rintro e w6 ⟨rfl, n1⟩
  rw [aw4]
  have m6 := m5.trans n1
  obtain ⟨x2, x3, _, _⟩ := HK.out _ m6
  clear i1 i2 n1
  go_wp2_with fail
  clear x2 x3
  obtain ⟨_, _, i1, i2⟩ := HK.out _ m6
  refine (codeLive tabA _ _ 3 3 (8) _ i1 i2 hl1 hl2 HW.out (wfZ_small (by decide) (by decide))).mono ?_
  rintro e w7 ⟨rfl, n1⟩
  rw [aw5]
  have m7 := m6.trans n1
  obtain ⟨x2, x3, _, _⟩ := HK.out _ m7
  clear i1 i2 n1
  go_wp2_with fail
  clear x2 x3
  obtain ⟨_, _, i1, i2⟩ := HK.out _ m7
  refine (codeCount tabA _ _ 3 3 (0) _ i1 i2 hl1 hl2 HW.out).mono ?_
  rintro e w8 ⟨rfl, n1⟩
  rw [aw6]
  have m8 := m7.trans n1
  obtain ⟨x2, x3, _, _⟩ := HK.out _ m8
  clear i1 i2 n1
  go_wp2_with fail
  clear x2 x3
  obtain ⟨_, _, i1, i2⟩ := HK.out _ m8
  refine (codeCount tabA _ _ 3 3 (1) _ i1 i2 hl1 hl2 HW.out).mono ?_
  rintro e w9 ⟨rfl, n1⟩
  rw [aw7]
  have m9 := m8.trans n1
  obtain ⟨x2, x3, _, _⟩ := HK.out _ m9
  clear i1 i2 n1
  go_wp2_with fail
  go_ret
  exact ⟨rfl, ma.trans m9⟩

set_option maxHeartbeats 8000000 in
set_option maxRecDepth 100000 in
/-- the laws' comparison -/
theorem lawSame (t : TableT) (om ob : Option Addr) (cm cb : Nat) (p b : Int) (w : World) (h1 : Ints .i64 w (.slice om t.1.length cm) t.1) (h2 : Ints .i64 w (.slice ob t.2.length cb) t.2) (hl1 : t.1.length ≤ 1000) (hl2 : t.2.length ≤ 1000) (hw : WfT t) (hp : wfZ p) :
    Calls Try.prog 10 #[.agg #[(.slice om t.1.length cm), (.slice ob t.2.length cb)], .int .i64 p, .int .i64 b] w fun e w' => e = .returned (.bool true) ∧ Mem w w' := by
  have hT := Blk.new w #[(.slice om t.1.length cm), (.slice ob t.2.length cb)] 24
  have hm : Mem w (w.alloc (.cells #[(.slice om t.1.length cm), (.slice ob t.2.length cb)] 24)) := (Mem.refl w).alloc _
  replace h1 := h1.mem hm
  replace h2 := h2.mem hm
  go_enter Try.func10, Try.ntmps10
  go_wp2_with fail
  generalize hW : w.alloc (.cells #[(.slice om t.1.length cm), (.slice ob t.2.length cb)] 24) = W at *
  clear hW
  have HK : Hid (∀ w', Mem W w' → w'.cell? ⟨w.heap.size, 0, none⟩ = some (.slice om t.1.length cm) ∧ w'.cell? ⟨w.heap.size, 1, none⟩ = some (.slice ob t.2.length cb)) := fun w' h => ⟨(hT.mem h).cell (j := 0) rfl, (hT.mem h).cell (j := 1) rfl⟩
  obtain ⟨x0, x1⟩ := HK.out W (Mem.refl _)
  have H1 := hide (fun (w' : World) (h : Mem W w') => h1.mem h)
  have H2 := hide (fun (w' : World) (h : Mem W w') => h2.mem h)
  have HW := hide hw
  have HP := hide hp
  have N0 := hide (Mem.drew (Mem.refl W))
  have Q1 : True := trivial
  clear h1 h2 hT hw hp
  go_region_held3 (fun w' => w'.cell? ⟨w.heap.size, 0, none⟩ = some (.slice om t.1.length cm) ∧ w'.cell? ⟨w.heap.size, 1, none⟩ = some (.slice ob t.2.length cb))
    (first | with_reducible exact HK.out _ N0.out | with_reducible exact HK.out _ N1.out | with_reducible exact HK.out _ N2.out | with_reducible exact HK.out _ N3.out | with_reducible exact HK.out _ N4.out | with_reducible exact HK.out _ N5.out | with_reducible exact HK.out _ N6.out | with_reducible exact HK.out _ N7.out | with_reducible exact HK.out _ N8.out | with_reducible exact HK.out _ N9.out | with_reducible exact HK.out _ N10.out)
    (first
      | (go_at_call 17; refine (codeOwners t om ob cm cb p _ (H1.out _ N0.out) hl1).mono ?_; rintro e w1 ⟨⟨v1, rfl, j1⟩, n1⟩; obtain ⟨o1, c1, rfl⟩ := j1.ints.shape; have N1 := hide (Mem.trans N0.out n1); have J1 := hide j1.ints; clear n1 j1)
      | (go_at_call 21; refine (refOwners t om ob cm cb p _ (H1.out _ N1.out) hl1).mono ?_; rintro e w2 ⟨⟨v2, rfl, j2⟩, n2⟩; obtain ⟨o2, c2, rfl⟩ := j2.ints.shape; have N2 := hide (Mem.trans N1.out n2); have J2 := hide j2.ints; have J1b := hide (J1.out.mem n2); clear n2 j2)
      | (go_at_call 20; clear Q1; refine (Pack.refSame _ _ (which t.1 p) (which t.1 p) _ J1b.out J2.out).mono ?_; rintro e w3 ⟨rfl, n3⟩; rw [decide_eq_true (rfl : which t.1 p = which t.1 p)]; have N3 := hide (Mem.trans N2.out (Mem.quiet n3)); clear n3)
      | (go_at_call 16; refine (codeSays t om ob cm cb p _ (H2.out _ N3.out) hl2).mono ?_; rintro e w4 ⟨⟨v4, rfl, j4⟩, n4⟩; obtain ⟨o4, c4, rfl⟩ := j4.ints.shape; have N4 := hide (Mem.trans N3.out n4); have J4 := hide j4.ints; clear n4 j4)
      | (go_at_call 22; refine (refSays t om ob cm cb p _ (H2.out _ N4.out) hl2).mono ?_; rintro e w5 ⟨⟨v5, rfl, j5⟩, n5⟩; obtain ⟨o5, c5, rfl⟩ := j5.ints.shape; have N5 := hide (Mem.trans N4.out n5); have J5 := hide j5.ints; have J4b := hide (J4.out.mem n5); clear n5 j5)
      | (go_at_call 20; refine (Pack.refSame _ _ (which t.2 p) (which t.2 p) _ J4b.out J5.out).mono ?_; rintro e w6 ⟨rfl, n6⟩; rw [decide_eq_true (rfl : which t.2 p = which t.2 p)]; have N6 := hide (Mem.trans N5.out (Mem.quiet n6)); clear n6)
      | (go_at_call 14; refine (codeLive t om ob cm cb p _ (H1.out _ N6.out) (H2.out _ N6.out) hl1 hl2 HW.out HP.out).mono ?_; rintro e w7 ⟨rfl, n7⟩; have N7 := hide (Mem.trans N6.out n7); clear n7)
      | (go_at_call 19; refine (refLive t om ob cm cb p _ (H1.out _ N7.out) (H2.out _ N7.out) hl1 hl2).mono ?_; rintro e w8 ⟨rfl, n8⟩; have N8 := hide (Mem.trans N7.out n8); clear n8)
      | (go_at_call 13; refine (codeCount t om ob cm cb b _ (H1.out _ N8.out) (H2.out _ N8.out) hl1 hl2 HW.out).mono ?_; rintro e w9 ⟨rfl, n9⟩; have N9 := hide (Mem.trans N8.out n9); clear n9)
      | (go_at_call 18; refine (refCount t om ob cm cb b _ (H1.out _ N9.out) (H2.out _ N9.out) hl1 hl2).mono ?_; rintro e w10 ⟨rfl, n10⟩; have N10 := hide (Mem.trans N9.out n10); clear n10))
  go_wp2_with fail
  go_ret
  exact ⟨rfl, hm.trans N10.out⟩
end Go.Proofs.Ytamngecgkkgnpaa.Live

