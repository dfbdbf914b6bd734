/-
  The walk of LookMake.
-/
import Derived.Test.YtfmngbhdbofnfaaLookAny
import Derived.Test.YtfmngbhdbofnfaaTagMakes
namespace Go.Proofs.Ytfmngbhdbofnfaa.Look
open Go.RowKit Go.Proofs.Ytfmngbhdbofnfaa.Pack Go.Proofs.Ytfmngbhdbofnfaa.Crc Go.Proofs.Ytfmngbhdbofnfaa.Tag

theorem mkV_shape (data : ByteArray) (o : Option (List UInt8)) : ∃ (b : Bool) (d t : ByteArray) (n : Int), mkV data o = .tuple #[.agg #[.bool b, .string d, .string t], .int .i64 n] := by
  cases o with
  | none => exact ⟨_, _, _, _, rfl⟩
  | some l => exact ⟨_, _, _, _, rfl⟩

set_option maxHeartbeats 1000000 in
set_option maxRecDepth 100000 in
theorem lookMake_walk (data : ByteArray) (k s : Int) (vk vv : Value) (ks vs : List Int) (a0 : Option Addr) (len0 cap0 : Nat) (z0 : List Int) (w : World) (hk : Ints .i64 w vk ks) (hv : Ints .i64 w vv vs) (w0 : IsRow .u16 w a0 len0 cap0 z0) :
    Calls Try.prog 4 #[.agg #[.string data, .int .i64 k, .int .i64 s, vk, vv], .slice a0 len0 cap0] w fun e w' => e = .returned (.bool true) ∧ Mem w w' := by
  obtain ⟨hz, hwf⟩ := Ints.of_row w0
  generalize z0.take len0 = z at *
  have HZ : Hid (∀ x ∈ z, 0 ≤ x ∧ x ≤ 65535) := fun x h => u16_wf (hwf x h)
  clear w0 hwf
  obtain ⟨oa, ca, rfl⟩ := hk.shape
  obtain ⟨ob, cb, rfl⟩ := hv.shape
  have hm : Mem w (w.alloc (.cells #[.string data, .int .i64 k, .int .i64 s, .slice oa ks.length ca, .slice ob vs.length cb] 33)) := (Mem.refl w).alloc _
  have hW := Blk.new w #[.string data, .int .i64 k, .int .i64 s, .slice oa ks.length ca, .slice ob vs.length cb] 33
  have p0 := hW.cell (j := 0) rfl
  have p1 := hW.cell (j := 1) rfl
  have p2 := hW.cell (j := 2) rfl
  have p3 := hW.cell (j := 3) rfl
  have p4 := hW.cell (j := 4) rfl
  by_cases h1 : 100 < ks.length
  · have h1' : (100 : Int) < (ks.length : Int) := by omega
    go_enter Try.func4, Try.ntmps4
    go_wp2_with fail
    refine (awake _).mono ?_
    rintro e w1 ⟨rfl, m1⟩
    go_wp2_with fail
    go_ret
    exact ⟨rfl, hm.trans m1⟩
  have h1' : (ks.length : Int) ≤ 100 := by omega
  by_cases h2 : 100 < vs.length
  · have h2' : (100 : Int) < (vs.length : Int) := by omega
    go_enter Try.func4, Try.ntmps4
    go_wp2_with fail
    refine (awake _).mono ?_
    rintro e w1 ⟨rfl, m1⟩
    go_wp2_with fail
    go_ret
    exact ⟨rfl, hm.trans m1⟩
  have h2' : (vs.length : Int) ≤ 100 := by omega
  clear h1 h2
  go_enter Try.func4, Try.ntmps4
  go_wp2_with fail
  clear p0 p1 p2 p3 p4
  replace hk := hk.mem hm
  replace hv := hv.mem hm
  replace hz := hz.mem hm
  generalize hW0 : w.alloc (.cells #[.string data, .int .i64 k, .int .i64 s, .slice oa ks.length ca, .slice ob vs.length cb] 33) = W0 at *
  clear hW0
  refine (lookMake k s _ _ ks vs data _ hk hv).mono ?_
  rintro e w1 ⟨rfl, m1⟩
  obtain ⟨b, d, t, n, hV⟩ := mkV_shape data (enc k s ks vs data.data.toList)
  have HV := hide hV
  clear hV
  rw [HV.out]
  have ha : Mem w1 (w1.alloc (.cells #[.bool b, .string d, .string t] 23)) := (Mem.refl w1).alloc _
  have hA := Blk.new w1 #[.bool b, .string d, .string t] 23
  have n1 := m1.trans ha
  replace hm := hm.trans n1
  replace hk := hk.mem n1
  replace hv := hv.mem n1
  replace hz := hz.mem n1
  replace hW := hW.mem n1
  clear m1 ha n1
  have p0 := hW.cell (j := 0) rfl
  have p1 := hW.cell (j := 1) rfl
  have p2 := hW.cell (j := 2) rfl
  have p3 := hW.cell (j := 3) rfl
  have p4 := hW.cell (j := 4) rfl
  go_wp2_with fail
  clear p0 p1 p2 p3 p4
  generalize hW1 : w1.alloc (.cells #[.bool b, .string d, .string t] 23) = W1 at *
  generalize w1.heap.size = B1 at *
  clear hW1
  refine (refMake k s _ _ ks vs data _ hk hv).mono ?_
  rintro e w2 ⟨rfl, m1⟩
  rw [HV.out]
  have ha : Mem w2 (w2.alloc (.cells #[.bool b, .string d, .string t] 23)) := (Mem.refl w2).alloc _
  have hB := Blk.new w2 #[.bool b, .string d, .string t] 23
  have n1 := m1.trans ha
  replace hm := hm.trans n1
  replace hz := hz.mem n1
  replace hW := hW.mem n1
  replace hA := hA.mem n1
  clear m1 ha n1 hk hv HV
  have p0 := hW.cell (j := 0) rfl
  go_wp2_with fail
  clear p0
  generalize hW2 : w2.alloc (.cells #[.bool b, .string d, .string t] 23) = W2 at *
  generalize w2.heap.size = B2 at *
  clear hW2
  have HB := hide hW
  have HI := hide hz
  have hlt : w.heap.size < W2.heap.size := hW.lt
  have hne : w.heap.size ≠ W2.heap.size := by omega
  have HZ5 := hide (Blk.new W2 #[.string ⟨#[]⟩, .int .i64 0, .int .i64 0, .slice none 0 0, .slice none 0 0] 33).drew
  have HM5 := hide (((Mem.refl W2).alloc (.cells #[.string ⟨#[]⟩, .int .i64 0, .int .i64 0, .slice none 0 0, .slice none 0 0] 33)).drew)
  have HK : Hid (∀ W', Mem W2 W' → W'.cell? ⟨w.heap.size, 0, none⟩ = some (.string data)) := fun W' h => (HB.out.mem h).cell (j := 0) rfl
  go_region_held3 (fun w' => w'.cell? ⟨w.heap.size, 0, none⟩ = some (.string data))
    (first
      | with_reducible exact HK.out _ (Mem.drew (Mem.refl W2))
      | with_reducible exact HK.out _ (Mem.trans (Mem.drew (Mem.refl W2)) n1.out)
      | with_reducible exact HK.out _ (Mem.alloc (Mem.trans (Mem.drew (Mem.refl W2)) n1.out) _)
      | with_reducible exact HK.out _ HM5.out
      | with_reducible exact HK.out _ (Mem.trans HM5.out n1.out)
      | with_reducible exact HK.out _ (Mem.setCell (p := ⟨W2.heap.size, 4, none⟩) (Mem.setCell (p := ⟨W2.heap.size, 3, none⟩) (Mem.setCell (p := ⟨W2.heap.size, 2, none⟩) (Mem.setCell (p := ⟨W2.heap.size, 1, none⟩) (Mem.setCell (p := ⟨W2.heap.size, 0, none⟩) (Mem.trans HM5.out n1.out) (Nat.le_refl _) _) (Nat.le_refl _) _) (Nat.le_refl _) _) (Nat.le_refl _) _) (Nat.le_refl _) _))
    (first
      | (go_at_call 13; refine (lawMade _ z _ (HI.out.mem (Mem.drew (Mem.refl W2))) HZ.out).mono ?_; rintro e w3 ⟨⟨vk', vv', rfl, htwo⟩, n1⟩; replace n1 := hide n1; obtain ⟨ok, ck, rfl⟩ := owns_shape htwo.1; obtain ⟨ov, cv, rfl⟩ := owns_shape htwo.2.1)
      | (go_at_call 13; refine (lawMade _ z _ (HI.out.mem HM5.out) HZ.out).mono ?_; rintro e w3 ⟨⟨vk', vv', rfl, htwo⟩, n1⟩; have Z5 := HZ5.out.mem n1; have g0 := Z5.cell (j := 0) rfl; have g1 := Z5.cell (j := 1) rfl; have g2 := Z5.cell (j := 2) rfl; have g3 := Z5.cell (j := 3) rfl; have g4 := Z5.cell (j := 4) rfl; have f0 := Z5.frozen 0; have f1 := Z5.frozen 1; have f2 := Z5.frozen 2; have f3 := Z5.frozen 3; have f4 := Z5.frozen 4; replace n1 := hide n1; obtain ⟨ok, ck, rfl⟩ := owns_shape htwo.1; obtain ⟨ov, cv, rfl⟩ := owns_shape htwo.2.1))
  all_goals (first
    | (have n2 : Mem W2 w3 := by with_reducible exact Mem.trans (Mem.drew (Mem.refl W2)) n1.out
       have hX := Blk.new w3 #[.string data, .int .i64 (mkK z), .int .i64 (mkS z), .slice ok (mkKeys z).length ck, .slice ov (mkVals z).length cv] 33
       have n3 : Mem w3 (w3.alloc (.cells #[.string data, .int .i64 (mkK z), .int .i64 (mkS z), .slice ok (mkKeys z).length ck, .slice ov (mkVals z).length cv] 33)) := (Mem.refl w3).alloc _
       have hT := htwo.mem n3
       have hmF := Mem.trans n2 n3
       clear n1 n2 n3 htwo HZ5 HM5 HK HB HI
       generalize hW3 : w3.alloc (.cells #[.string data, .int .i64 (mkK z), .int .i64 (mkS z), .slice ok (mkKeys z).length ck, .slice ov (mkVals z).length cv] 33) = W3 at *
       generalize w3.heap.size = XB at *
       clear hW3)
    | (have n2 : Mem W2 w3 := by with_reducible exact Mem.trans HM5.out n1.out
       have hl5 := HZ5.out.lt
       have hl6 : W2.heap.size < (W2.alloc (.cells #[.string ⟨#[]⟩, .int .i64 0, .int .i64 0, .slice none 0 0, .slice none 0 0] 33)).drew.heap.size + 4 := by omega
       have hX : Blk (((((w3.setCell ⟨W2.heap.size, 0, none⟩ (.string data)).setCell ⟨W2.heap.size, 1, none⟩ (.int .i64 (mkK z))).setCell ⟨W2.heap.size, 2, none⟩ (.int .i64 (mkS z))).setCell ⟨W2.heap.size, 3, none⟩ (.slice ok (mkKeys z).length ck)).setCell ⟨W2.heap.size, 4, none⟩ (.slice ov (mkVals z).length cv)) W2.heap.size 33 #[.string data, .int .i64 (mkK z), .int .i64 (mkS z), .slice ok (mkKeys z).length ck, .slice ov (mkVals z).length cv] := (Blk.set (Blk.set (Blk.set (Blk.set (Blk.set Z5 0 (.string data)) 1 (.int .i64 (mkK z))) 2 (.int .i64 (mkS z))) 3 (.slice ok (mkKeys z).length ck)) 4 (.slice ov (mkVals z).length cv))
       have hT : Two (((((w3.setCell ⟨W2.heap.size, 0, none⟩ (.string data)).setCell ⟨W2.heap.size, 1, none⟩ (.int .i64 (mkK z))).setCell ⟨W2.heap.size, 2, none⟩ (.int .i64 (mkS z))).setCell ⟨W2.heap.size, 3, none⟩ (.slice ok (mkKeys z).length ck)).setCell ⟨W2.heap.size, 4, none⟩ (.slice ov (mkVals z).length cv)) _ (.slice ok (mkKeys z).length ck) (mkKeys z) (.slice ov (mkVals z).length cv) (mkVals z) := (Two.setCell (Two.setCell (Two.setCell (Two.setCell (Two.setCell htwo (p := ⟨W2.heap.size, 0, none⟩) hl6 (.string data)) (p := ⟨W2.heap.size, 1, none⟩) hl6 (.int .i64 (mkK z))) (p := ⟨W2.heap.size, 2, none⟩) hl6 (.int .i64 (mkS z))) (p := ⟨W2.heap.size, 3, none⟩) hl6 (.slice ok (mkKeys z).length ck)) (p := ⟨W2.heap.size, 4, none⟩) hl6 (.slice ov (mkVals z).length cv))
       have hmF : Mem W2 (((((w3.setCell ⟨W2.heap.size, 0, none⟩ (.string data)).setCell ⟨W2.heap.size, 1, none⟩ (.int .i64 (mkK z))).setCell ⟨W2.heap.size, 2, none⟩ (.int .i64 (mkS z))).setCell ⟨W2.heap.size, 3, none⟩ (.slice ok (mkKeys z).length ck)).setCell ⟨W2.heap.size, 4, none⟩ (.slice ov (mkVals z).length cv)) := (Mem.setCell (p := ⟨W2.heap.size, 4, none⟩) (Mem.setCell (p := ⟨W2.heap.size, 3, none⟩) (Mem.setCell (p := ⟨W2.heap.size, 2, none⟩) (Mem.setCell (p := ⟨W2.heap.size, 1, none⟩) (Mem.setCell (p := ⟨W2.heap.size, 0, none⟩) (Mem.trans HM5.out n1.out) (Nat.le_refl _) (.string data)) (Nat.le_refl _) (.int .i64 (mkK z))) (Nat.le_refl _) (.int .i64 (mkS z))) (Nat.le_refl _) (.slice ok (mkKeys z).length ck)) (Nat.le_refl _) (.slice ov (mkVals z).length cv))
       clear n1 n2 htwo HZ5 HM5 HK HB HI Z5 g0 g1 g2 g3 g4 f0 f1 f2 f3 f4 hl5 hl6
       generalize hW3 : (((((w3.setCell ⟨W2.heap.size, 0, none⟩ (.string data)).setCell ⟨W2.heap.size, 1, none⟩ (.int .i64 (mkK z))).setCell ⟨W2.heap.size, 2, none⟩ (.int .i64 (mkS z))).setCell ⟨W2.heap.size, 3, none⟩ (.slice ok (mkKeys z).length ck)).setCell ⟨W2.heap.size, 4, none⟩ (.slice ov (mkVals z).length cv)) = W3 at *
       generalize hXB : W2.heap.size = XB at *
       clear hW3 hXB))
  all_goals (
    obtain ⟨ik, iv⟩ := hT.ints
    replace hm := hm.trans hmF
    replace hA := hA.mem hmF
    replace hB := hB.mem hmF
    clear hT hmF hW hz
    have p0 := hX.cell (j := 0) rfl
    have p1 := hX.cell (j := 1) rfl
    have p2 := hX.cell (j := 2) rfl
    have p3 := hX.cell (j := 3) rfl
    have p4 := hX.cell (j := 4) rfl
    go_wp2_with fail
    clear p0 p1 p2 p3 p4
    refine (lookMake (mkK z) (mkS z) _ _ (mkKeys z) (mkVals z) data _ ik iv).mono ?_
    rintro e w4 ⟨rfl, m1⟩
    obtain ⟨b', d', t', n', hV⟩ := mkV_shape data (enc (mkK z) (mkS z) (mkKeys z) (mkVals z) data.data.toList)
    have HV := hide hV
    clear hV
    rw [HV.out]
    have ha : Mem w4 (w4.alloc (.cells #[.bool b', .string d', .string t'] 23)) := (Mem.refl w4).alloc _
    have hC := Blk.new w4 #[.bool b', .string d', .string t'] 23
    have n1 := m1.trans ha
    replace hm := hm.trans n1
    replace ik := ik.mem n1
    replace iv := iv.mem n1
    replace hX := hX.mem n1
    replace hA := hA.mem n1
    replace hB := hB.mem n1
    clear m1 ha n1
    have p0 := hX.cell (j := 0) rfl
    have p1 := hX.cell (j := 1) rfl
    have p2 := hX.cell (j := 2) rfl
    have p3 := hX.cell (j := 3) rfl
    have p4 := hX.cell (j := 4) rfl
    go_wp2_with fail
    clear p0 p1 p2 p3 p4
    generalize hW4 : w4.alloc (.cells #[.bool b', .string d', .string t'] 23) = W4 at *
    generalize w4.heap.size = B4 at *
    clear hW4
    refine (refMake (mkK z) (mkS z) _ _ (mkKeys z) (mkVals z) data _ ik iv).mono ?_
    rintro e w5 ⟨rfl, m1⟩
    rw [HV.out]
    have ha : Mem w5 (w5.alloc (.cells #[.bool b', .string d', .string t'] 23)) := (Mem.refl w5).alloc _
    have hD := Blk.new w5 #[.bool b', .string d', .string t'] 23
    have n1 := m1.trans ha
    replace hm := hm.trans n1
    replace hA := hA.mem n1
    replace hB := hB.mem n1
    replace hC := hC.mem n1
    clear m1 ha n1 ik iv hX HV
    go_wp2_with fail
    generalize hW5 : w5.alloc (.cells #[.bool b', .string d', .string t'] 23) = W5 at *
    generalize w5.heap.size = B5 at *
    clear hW5
    refine (awake _).mono ?_
    rintro e w6 ⟨rfl, m1⟩
    replace hm := hm.trans m1
    replace hA := hA.mem m1
    replace hB := hB.mem m1
    replace hC := hC.mem m1
    replace hD := hD.mem m1
    clear m1
    have a0 := hA.cell (j := 0) rfl
    have a1 := hA.cell (j := 1) rfl
    have a2 := hA.cell (j := 2) rfl
    have b0 := hB.cell (j := 0) rfl
    have b1 := hB.cell (j := 1) rfl
    have b2 := hB.cell (j := 2) rfl
    have c0 := hC.cell (j := 0) rfl
    have c1 := hC.cell (j := 1) rfl
    have c2 := hC.cell (j := 2) rfl
    have d0 := hD.cell (j := 0) rfl
    have d1 := hD.cell (j := 1) rfl
    have d2 := hD.cell (j := 2) rfl
    have q1 : (n == n) = true := by simp
    have q2 : (n' == n') = true := by simp
    go_wp2_with fail
    go_ret
    exact ⟨rfl, hm⟩)
end Go.Proofs.Ytfmngbhdbofnfaa.Look
