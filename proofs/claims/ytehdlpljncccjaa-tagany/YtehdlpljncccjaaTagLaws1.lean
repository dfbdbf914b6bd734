/-
  The walks of TagDecode and TagAny.
-/
import Derived.Test.YtehdlpljncccjaaTagSame
namespace Go.Proofs.Ytehdlpljncccjaa.Tag
open Go.RowKit Go.Proofs.Ytehdlpljncccjaa.Pack Go.Proofs.Ytehdlpljncccjaa.Crc

theorem recEq_refl (k s : Int) (ks vs : List Int) : recEq k s ks vs k s ks vs = true := by simp [recEq]

set_option maxHeartbeats 1000000 in
set_option maxRecDepth 100000 in
theorem tagDecode_walk (a0 : ByteArray) (a1 : ByteArray) (w0 : a0.size ≤ maxLen) (_w1 : a1.size ≤ maxLen) (w : World) :
    Calls Try.prog 5 #[.string a0, .string a1] w fun e w' => e = .returned (.bool true) ∧ Mem w w' := by
  by_cases h0 : 300 < a0.size
  · have h0' : (300 : Int) < (a0.size : Int) := by omega
    go_enter Try.func5, Try.ntmps5
    go_wp2_with fail
    refine (awake _).mono ?_
    rintro e w1 ⟨rfl, m1⟩
    go_wp2_with fail
    go_ret
    exact ⟨rfl, m1⟩
  have h0' : (a0.size : Int) ≤ 300 := by omega
  by_cases h1 : 300 < a1.size
  · have h1' : (300 : Int) < (a1.size : Int) := by omega
    go_enter Try.func5, Try.ntmps5
    go_wp2_with fail
    refine (awake _).mono ?_
    rintro e w1 ⟨rfl, m1⟩
    go_wp2_with fail
    go_ret
    exact ⟨rfl, m1⟩
  have h1' : (a1.size : Int) ≤ 300 := by omega
  go_enter Try.func5, Try.ntmps5
  go_wp2_with fail
  refine (tagDecode a0 a1 _ w0).mono ?_
  rintro e w1 ⟨hd, m1⟩
  generalize hO : decode a0.data.toList a1.data.toList = o at hd
  have HO := hide hO
  clear hO
  obtain ⟨va, vb, rfl, ia, ib⟩ := hd
  obtain ⟨oa, ca, rfl⟩ := ia.shape
  obtain ⟨ob, cb, rfl⟩ := ib.shape
  have ha : Mem w1 (w1.alloc (.cells #[.int .i64 (decR o).1, .int .i64 (decR o).2.1, .slice oa (decR o).2.2.1.length ca, .slice ob (decR o).2.2.2.length cb] 24)) := (Mem.refl w1).alloc _
  have hA := Box.new w1 (decR o).1 (decR o).2.1 (.slice oa (decR o).2.2.1.length ca) (.slice ob (decR o).2.2.2.length cb) 24
  go_wp2_with fail
  refine (refDecode a0 a1 _ w0).mono ?_
  rintro e w2 ⟨hd, m2⟩
  rw [HO.out] at hd
  obtain ⟨vc, vd, rfl, ic, id'⟩ := hd
  obtain ⟨oc, cc, rfl⟩ := ic.shape
  obtain ⟨od, cd, rfl⟩ := id'.shape
  have hb : Mem w2 (w2.alloc (.cells #[.int .i64 (decR o).1, .int .i64 (decR o).2.1, .slice oc (decR o).2.2.1.length cc, .slice od (decR o).2.2.2.length cd] 24)) := (Mem.refl w2).alloc _
  have hB := Box.new w2 (decR o).1 (decR o).2.1 (.slice oc (decR o).2.2.1.length cc) (.slice od (decR o).2.2.2.length cd) 24
  go_wp2_with fail
  refine (awake _).mono ?_
  rintro e w3 ⟨rfl, m3⟩
  have m123 := ha.trans (m2.trans (hb.trans m3))
  have m23 := hb.trans m3
  obtain ⟨a0', a1', a2', a3'⟩ := hA.mem (m2.trans m23)
  obtain ⟨b0', b1', b2', b3'⟩ := hB.mem m3
  have ia3 := ia.mem m123
  have ib3 := ib.mem m123
  have ic3 := ic.mem m23
  have id3 := id'.mem m23
  have hm := m1.trans m123
  have qe : (decE o == decE o) = true := by simp
  clear ha hb hA hB ia ib ic id' m1 m2 m3 m123 m23
  go_wp2_with fail
  refine (recSame _ _ _ _ _ _ _ _ _ _ _ _ _ ia3 ib3 ic3 id3).mono ?_
  rintro e w4 ⟨rfl, m4⟩
  rw [recEq_refl]
  go_wp2_with fail
  go_ret
  exact ⟨rfl, hm.trans m4⟩

set_option maxHeartbeats 1000000 in
set_option maxRecDepth 100000 in
theorem tagAny_walk (k s : Int) (vk vv : Value) (ks vs : List Int) (data : ByteArray) (w : World) (hk : Ints .i64 w vk ks) (hv : Ints .i64 w vv vs) :
    Calls Try.prog 3 #[.agg #[.int .i64 k, .int .i64 s, vk, vv], .string data] w fun e w' => e = .returned (.bool true) ∧ Mem w w' := by
  obtain ⟨oa, ca, rfl⟩ := hk.shape
  obtain ⟨ob, cb, rfl⟩ := hv.shape
  have hm : Mem w (w.alloc (.cells #[.int .i64 k, .int .i64 s, .slice oa ks.length ca, .slice ob vs.length cb] 24)) := (Mem.refl w).alloc _
  have hbox := Box.new w k s (.slice oa ks.length ca) (.slice ob vs.length cb) 24
  go_enter Try.func3, Try.ntmps3
  go_wp2_with fail
  refine (awake _).mono ?_
  rintro e w1 ⟨rfl, m1⟩
  have hm1 := hm.trans m1
  have hbox1 := hbox.mem m1
  obtain ⟨b0, b1, b2, b3⟩ := id hbox1
  go_wp2_with fail
  refine (lawBig k s _ _ ks vs _ (hk.mem hm1) (hv.mem hm1)).mono ?_
  rintro e w2 ⟨rfl, m2⟩
  have hm2 := hm1.trans m2
  have hbox2 := hbox1.mem m2
  clear b0 b1 b2 b3 hm hm1 hbox hbox1 m1 m2
  obtain ⟨b0, b1, b2, b3⟩ := id hbox2
  cases hb : bigB ks vs with
  | true =>
    go_wp2_with fail
    go_ret
    exact ⟨rfl, hm2⟩
  | false =>
    go_wp2_with fail
    refine (lawSame k s _ _ ks vs data _ (hk.mem hm2) (hv.mem hm2)).mono ?_
    rintro e w3 ⟨rfl, m3⟩
    go_wp2_with fail
    go_ret
    exact ⟨rfl, hm2.trans m3⟩
end Go.Proofs.Ytehdlpljncccjaa.Tag
