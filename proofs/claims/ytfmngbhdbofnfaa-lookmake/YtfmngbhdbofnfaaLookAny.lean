/-
  The walk of LookAny.
-/
import Derived.Test.YtfmngbhdbofnfaaLookAwake
namespace Go.Proofs.Ytfmngbhdbofnfaa.Look
open Go.RowKit Go.Proofs.Ytfmngbhdbofnfaa.Pack Go.Proofs.Ytfmngbhdbofnfaa.Crc Go.Proofs.Ytfmngbhdbofnfaa.Tag

theorem recEq_refl (k s : Int) (ks vs : List Int) : recEq k s ks vs k s ks vs = true := by simp [recEq]

set_option maxHeartbeats 1000000 in
set_option maxRecDepth 100000 in
theorem lookAny_walk (wr : Bool) (data tg : ByteArray) (w1 : tg.size ≤ maxLen) (w : World) :
    Calls Try.prog 3 #[.agg #[.bool wr, .string data, .string tg]] w fun e w' => e = .returned (.bool true) ∧ Mem w w' := by
  have hm : Mem w (w.alloc (.cells #[.bool wr, .string data, .string tg] 23)) := (Mem.refl w).alloc _
  have hP := Blk.new w #[.bool wr, .string data, .string tg] 23
  go_enter Try.func3, Try.ntmps3
  go_wp2_with fail
  · refine (awake _).mono ?_
    rintro e w1 ⟨rfl, m1⟩
    go_wp2_with fail
    go_ret
    exact ⟨rfl, hm.trans m1⟩
  generalize hW0 : w.alloc (.cells #[.bool wr, .string data, .string tg] 23) = W0 at *
  clear hW0
  refine (lookLook wr data tg _ w1).mono ?_
  rintro e w2 ⟨hd, m1⟩
  generalize hO : look wr tg.data.toList data.data.toList = o at hd
  have HO := hide hO
  clear hO
  obtain ⟨va, vb, rfl, ia, ib, _, _⟩ := hd
  obtain ⟨oa, ca, rfl⟩ := ia.shape
  obtain ⟨ob, cb, rfl⟩ := ib.shape
  have ha : Mem w2 (w2.alloc (.cells #[.int .i64 (decR o.2).1, .int .i64 (decR o.2).2.1, .slice oa (decR o.2).2.2.1.length ca, .slice ob (decR o.2).2.2.2.length cb] 27)) := (Mem.refl w2).alloc _
  have hA := Blk.new w2 #[.int .i64 (decR o.2).1, .int .i64 (decR o.2).2.1, .slice oa (decR o.2).2.2.1.length ca, .slice ob (decR o.2).2.2.2.length cb] 27
  have n1 := m1.trans ha
  replace hm := hm.trans n1
  replace hP := hP.mem n1
  replace ia := ia.mem ha
  replace ib := ib.mem ha
  clear m1 ha n1
  have p0 := hP.cell (j := 0) rfl
  have p1 := hP.cell (j := 1) rfl
  have p2 := hP.cell (j := 2) rfl
  go_wp2_with fail
  clear p0 p1 p2
  generalize hW1 : w2.alloc (.cells #[.int .i64 (decR o.2).1, .int .i64 (decR o.2).2.1, .slice oa (decR o.2).2.2.1.length ca, .slice ob (decR o.2).2.2.2.length cb] 27) = W1 at *
  generalize w2.heap.size = B1 at *
  clear hW1
  refine (refLook wr data tg _ w1).mono ?_
  rintro e w3 ⟨hd, m1⟩
  rw [HO.out] at hd
  obtain ⟨va, vb, rfl, ic, id', _, _⟩ := hd
  obtain ⟨oc, cc, rfl⟩ := ic.shape
  obtain ⟨od, cd, rfl⟩ := id'.shape
  have ha : Mem w3 (w3.alloc (.cells #[.int .i64 (decR o.2).1, .int .i64 (decR o.2).2.1, .slice oc (decR o.2).2.2.1.length cc, .slice od (decR o.2).2.2.2.length cd] 27)) := (Mem.refl w3).alloc _
  have hB := Blk.new w3 #[.int .i64 (decR o.2).1, .int .i64 (decR o.2).2.1, .slice oc (decR o.2).2.2.1.length cc, .slice od (decR o.2).2.2.2.length cd] 27
  have n1 := m1.trans ha
  replace hm := hm.trans n1
  replace hA := hA.mem n1
  replace ia := ia.mem n1
  replace ib := ib.mem n1
  replace ic := ic.mem ha
  replace id' := id'.mem ha
  clear m1 ha n1 hP
  go_wp2_with fail
  generalize hW2 : w3.alloc (.cells #[.int .i64 (decR o.2).1, .int .i64 (decR o.2).2.1, .slice oc (decR o.2).2.2.1.length cc, .slice od (decR o.2).2.2.2.length cd] 27) = W2 at *
  generalize w3.heap.size = B2 at *
  clear hW2
  refine (awake _).mono ?_
  rintro e w4 ⟨rfl, m1⟩
  replace hm := hm.trans m1
  replace hA := hA.mem m1
  replace hB := hB.mem m1
  replace ia := ia.mem m1
  replace ib := ib.mem m1
  replace ic := ic.mem m1
  replace id' := id'.mem m1
  clear m1
  have a0 := hA.cell (j := 0) rfl
  have a1 := hA.cell (j := 1) rfl
  have a2 := hA.cell (j := 2) rfl
  have a3 := hA.cell (j := 3) rfl
  have b0 := hB.cell (j := 0) rfl
  have b1 := hB.cell (j := 1) rfl
  have b2 := hB.cell (j := 2) rfl
  have b3 := hB.cell (j := 3) rfl
  have qe : (o.1 == o.1) = true := by simp
  go_wp2_with fail
  refine (recSame _ _ _ _ _ _ _ _ _ _ _ _ _ ia ib ic id').mono ?_
  rintro e w5 ⟨rfl, m5⟩
  rw [recEq_refl]
  go_wp2_with fail
  go_ret
  exact ⟨rfl, hm.trans m5⟩
end Go.Proofs.Ytfmngbhdbofnfaa.Look
