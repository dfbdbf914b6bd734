/-
  Layer 9: the laws' comparison; the walk of IndexAny.
-/
import Derived.Test.YtmkfinjhbhfaeaaIndexAwake
import Derived.Test.YtmkfinjhbhfaeaaIndexOpens
namespace Go.Proofs.Ytmkfinjhbhfaeaa.Index
open Go.RowKit Go.Proofs.Ytmkfinjhbhfaeaa.Scan

set_option maxHeartbeats 4000000 in
set_option maxRecDepth 100000 in
theorem lawSame (S : Nat → Prop) (oa : Option Addr) (ca : Nat) (l : List SlotT) (q p : Int) (w : World) (hz : SlotsAt S w (.slice oa l.length ca) l) (hl : l.length ≤ 1000) :
    Calls Try.prog 9 #[.slice oa l.length ca, .int .i64 q, .int .i64 p] w fun e w' => e = .returned (.bool true) ∧ Mem w w' := by
  go_enter Try.func9, Try.ntmps9
  go_wp2_with fail
  refine (codePut _ _ l q p _ hz hl).mono ?_
  rintro e w1 ⟨⟨v1, rfl, h1⟩, m1⟩
  replace hz := hz.mem m1
  obtain ⟨o1, c1, rfl⟩ := h1.shape
  go_wp2_with fail
  refine (refPut _ _ l q p _ hz hl).mono ?_
  rintro e w2 ⟨⟨v2, rfl, h2⟩, m2⟩
  replace hz := hz.mem m2
  replace h1 := h1.mem m2
  replace m2 := m1.trans m2
  obtain ⟨o2, c2, rfl⟩ := h2.shape
  have HP := hide (And.intro h1 h2)
  generalize (putT l q p).2 = en at *
  clear m1 h1 h2
  go_wp2_with fail
  refine (refSame9 _ _ _ _ (putT l q p).1 _ HP.out.1 HP.out.2).mono ?_
  rintro e w3 ⟨rfl, m3⟩
  replace hz := hz.mem m3
  replace m3 := m2.trans m3
  clear m2 HP
  go_wp2_with fail
  refine (codeFind _ _ l q _ hz hl).mono ?_
  rintro e w4 ⟨⟨v4, rfl, h4⟩, m4⟩
  replace hz := hz.mem m4
  replace m4 := m3.trans m4
  obtain ⟨o4, c4, rfl⟩ := h4.ints.shape
  clear m3
  go_wp2_with fail
  refine (refFind _ _ l q _ hz hl).mono ?_
  rintro e w5 ⟨⟨v5, rfl, h5⟩, m5⟩
  replace hz := hz.mem m5
  replace h4 := h4.ints.mem m5
  replace m5 := m4.trans m5
  obtain ⟨o5, c5, rfl⟩ := h5.ints.shape
  clear m4
  go_wp2_with fail
  refine (Pack.refSame _ _ (findT l q) (findT l q) _ h4 h5.ints).mono ?_
  rintro e w6 ⟨rfl, n6⟩
  rw [decide_eq_true (rfl : findT l q = findT l q)]
  have q6 := Mem.quiet n6
  replace hz := hz.mem q6
  replace m5 := m5.trans q6
  clear h4 h5 q6 n6
  go_wp2_with fail
  refine (codeDrop _ _ l q p _ hz hl).mono ?_
  rintro e w7 ⟨⟨v7, rfl, h7⟩, m7⟩
  replace hz := hz.mem m7
  replace m7 := m5.trans m7
  obtain ⟨o7, c7, rfl⟩ := h7.shape
  clear m5
  go_wp2_with fail
  refine (refDrop _ _ l q p _ hz hl).mono ?_
  rintro e w8 ⟨⟨v8, rfl, h8⟩, m8⟩
  replace h7 := h7.mem m8
  replace m8 := m7.trans m8
  obtain ⟨o8, c8, rfl⟩ := h8.shape
  have HP := hide (And.intro h7 h8)
  clear m7 h7 h8 hz
  go_wp2_with fail
  refine (refSame9 _ _ _ _ (dropT l q p) _ HP.out.1 HP.out.2).mono ?_
  rintro e w9 ⟨rfl, m9⟩
  go_wp2_with fail
  go_ret
  exact ⟨rfl, m8.trans m9⟩
set_option maxHeartbeats 4000000 in
set_option maxRecDepth 100000 in
theorem indexAny_walk (oa : Option Addr) (ca : Nat) (l : List SlotT) (q p : Int) (w : World) (hz : SlotsAt (fun g => g < w.heap.size) w (.slice oa l.length ca) l) (_ : (Lit.int .i64 q).wf = true) (_ : (Lit.int .i64 p).wf = true) :
    Calls Try.prog 3 #[.slice oa l.length ca, .int .i64 q, .int .i64 p] w fun e w' => e = .returned (.bool true) ∧ Mem w w' := by
  go_enter Try.func3, Try.ntmps3
  go_wp2_with fail
  refine (awake _).mono ?_
  rintro e w1 ⟨rfl, m1⟩
  by_cases h : 100 < l.length
  · have h' : (100 : Int) < (l.length : Int) := by omega
    go_wp2_with fail
    go_ret
    exact ⟨rfl, m1⟩
  · have h' : (l.length : Int) ≤ 100 := by omega
    have hl : l.length ≤ 1000 := by omega
    go_wp2_with fail
    refine (lawSame _ oa ca l q p _ (hz.mem m1) hl).mono ?_
    rintro e w2 ⟨rfl, m2⟩
    go_wp2_with fail
    go_ret
    exact ⟨rfl, m1.trans m2⟩
end Go.Proofs.Ytmkfinjhbhfaeaa.Index
