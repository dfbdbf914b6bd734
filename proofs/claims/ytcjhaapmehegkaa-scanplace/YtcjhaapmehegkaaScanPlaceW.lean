/-
  Layer 6: the walk of ScanPlace.
-/
import Derived.Test.YtcjhaapmehegkaaScanLate
namespace Go.Proofs.Ytcjhaapmehegkaa.Scan
open Go.RowKit Go.Proofs.Ytcjhaapmehegkaa.Nand

set_option maxHeartbeats 2000000 in
set_option maxRecDepth 100000 in
theorem scanPlace_walk (b p : Int) (vb : Value) (bs : List BlockT) (br off : Bool) (ops at' : Int) (w : World) (_w0 : (Lit.int .i64 b).wf = true) (_w1 : (Lit.int .i64 p).wf = true) (hb : BlocksAt (fun g => g < w.heap.size) w vb bs) (_hbs : ∀ b ∈ bs, ∀ p ∈ b.1, p.2.1.size ≤ maxLen ∧ p.2.2.size ≤ maxLen) (w3 : (Lit.int .i64 at').wf = true) :
    Calls Try.prog 3 #[.int .i64 b, .int .i64 p, chipV vb br off ops, .int .i64 at'] w fun e w' => e = .returned (.bool true) ∧ Below w.heap.size w w' := by
  have hat : at' ≤ 9223372036854775807 := by
    simp [Lit.wf, IntKind.min, IntKind.max, IntKind.signed, IntKind.bits] at w3
    omega
  clear _w0 _w1 w3 _hbs
  obtain ⟨oa, ca, rfl⟩ := hb.shape
  have hm : Mem w (w.alloc (.cells #[.slice oa bs.length ca, .bool br, .bool off, .int .i64 ops] 24)) := (Mem.refl w).alloc _
  have hC := Blk.new w #[.slice oa bs.length ca, .bool br, .bool off, .int .i64 ops] 24
  replace hb := hb.mem hm
  by_cases hl : 40 < bs.length
  · have hl' : (40 : Int) < (bs.length : Int) := by omega
    go_enter Try.func3, Try.ntmps3
    go_wp2_with fail
    refine (awake _).mono ?_
    rintro e w1 ⟨rfl, m1⟩
    go_wp2_with fail
    go_ret
    exact ⟨rfl, hm.trans m1⟩
  · have hl' : (bs.length : Int) ≤ 40 := by omega
    go_enter Try.func3, Try.ntmps3
    go_wp2_with fail
    generalize hW : w.alloc (.cells #[.slice oa bs.length ca, .bool br, .bool off, .int .i64 ops] 24) = W at *
    clear hW
    refine (codePage _ _ bs br off ops at' _ hb hat).mono ?_
    rintro e w1 ⟨rfl, m1⟩
    have HRP := hide (fun w' h => refPage (fun g => g < w.heap.size) (.slice oa bs.length ca) bs br off ops at' w' h hat)
    generalize pageC bs at' = q at *
    obtain ⟨⟨pw, pd, pt⟩, ok⟩ := q
    simp only [pageV]
    have ha : Mem w1 (w1.alloc (.cells #[.bool pw, .string pd, .string pt] 27)) := (Mem.refl w1).alloc _
    have hP := Blk.new w1 #[.bool pw, .string pd, .string pt] 27
    have hC1 := hC.mem (m1.trans ha)
    have hb1 := hb.mem (m1.trans ha)
    have hm1 := hm.trans (m1.trans ha)
    have c0 := hC1.cell (j := 0) rfl
    have c1 := hC1.cell (j := 1) rfl
    have c2 := hC1.cell (j := 2) rfl
    have c3 := hC1.cell (j := 3) rfl
    go_wp2_with fail
    generalize hW : w1.alloc (.cells #[.bool pw, .string pd, .string pt] 27) = W1 at *
    generalize w1.heap.size = B1 at *
    clear hW
    refine (HRP.out _ hb1).mono ?_
    rintro e w2 ⟨rfl, m2⟩
    simp only [pageV]
    have ha : Mem w2 (w2.alloc (.cells #[.bool pw, .string pd, .string pt] 27)) := (Mem.refl w2).alloc _
    have hQ := Blk.new w2 #[.bool pw, .string pd, .string pt] 27
    have hP2 := hP.mem (m2.trans ha)
    have hm2 := hm1.trans (m2.trans ha)
    go_wp2_with fail
    generalize hW : w2.alloc (.cells #[.bool pw, .string pd, .string pt] 27) = W2 at *
    generalize w2.heap.size = B2 at *
    clear hW
    refine (awake _).mono ?_
    rintro e w3 ⟨rfl, m3⟩
    have hP3 := hP2.mem m3
    have hQ3 := hQ.mem m3
    have d0 := hP3.cell (j := 0) rfl
    have d1 := hP3.cell (j := 1) rfl
    have d2 := hP3.cell (j := 2) rfl
    have e0 := hQ3.cell (j := 0) rfl
    have e1 := hQ3.cell (j := 1) rfl
    have e2 := hQ3.cell (j := 2) rfl
    have g0 : (place b p == place b p) = true := by simp
    have g1 : (pw == pw) = true := by simp
    have g2 : (pd.toList == pd.toList) = true := by simp
    have g3 : (pt.toList == pt.toList) = true := by simp
    have g4 : (ok == ok) = true := by simp
    generalize place b p = pl at *
    go_wp2_with (first
      | (go_at_call 12; refine (codePlace _ _ _).mono ?_; rintro e w' ⟨rfl, rfl⟩)
      | (go_at_call 13; refine (refPlace _ _ _).mono ?_; rintro e w' ⟨rfl, rfl⟩))
    go_ret
    exact ⟨rfl, hm2.trans m3⟩
end Go.Proofs.Ytcjhaapmehegkaa.Scan
