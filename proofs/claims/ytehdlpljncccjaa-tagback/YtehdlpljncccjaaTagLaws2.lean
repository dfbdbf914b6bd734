/-
  The walks of TagLong, TagBack and TagApart.
-/
import Derived.Test.YtehdlpljncccjaaTagMakes
namespace Go.Proofs.Ytehdlpljncccjaa.Tag
open Go.RowKit Go.Proofs.Ytehdlpljncccjaa.Pack Go.Proofs.Ytehdlpljncccjaa.Crc

theorem u16_wf {n : Int} (h : (Lit.int .u16 n).wf = true) : 0 ≤ n ∧ n ≤ 65535 := by
  simp [Lit.wf, IntKind.min, IntKind.max, IntKind.signed, IntKind.bits] at h
  omega
/-- a record by numbers, and data of at most 16 bytes: it has a tag -/
theorem made_enc (z : List Int) (D : ByteArray) (h : D.size ≤ 16) : ∃ T, enc (mkK z) (mkS z) (mkKeys z) (mkVals z) D.data.toList = some T ∧ 10 ≤ T.length ∧ T.length ≤ 40 := by
  have he := enc_yes (made_right z) (show D.data.toList.length ≤ 16 by simpa using h)
  exact ⟨_, he, tag_ge he, made_long z _⟩
theorem cut_size (a : ByteArray) (n : Nat) : (a.extract 0 n).size ≤ n := by
  rw [ByteArray.size_extract]; omega
theorem apart_eq {z z' : List Int} {data T T' : List UInt8} (h : enc (mkK z) (mkS z) (mkKeys z) (mkVals z) data = some T) (h' : enc (mkK z') (mkS z') (mkKeys z') (mkVals z') data = some T') :
    (T == T') = recEq (mkK z) (mkS z) (mkKeys z) (mkVals z) (mkK z') (mkS z') (mkKeys z') (mkVals z') := by
  have hi := enc_apart h h'
  by_cases he : T = T'
  · obtain ⟨e1, e2, e3, e4⟩ := hi.1 he
    rw [he, beq_self_eq_true]
    unfold recEq
    rw [decide_eq_true e1, decide_eq_true e2, decide_eq_true e3, decide_eq_true e4]; rfl
  · rw [beq_eq_false_iff_ne.2 he]
    by_cases hr : recEq (mkK z) (mkS z) (mkKeys z) (mkVals z) (mkK z') (mkS z') (mkKeys z') (mkVals z') = true
    · exfalso
      unfold recEq at hr
      simp only [Bool.and_eq_true, decide_eq_true_eq] at hr
      exact he (hi.2 ⟨hr.1.1.1, hr.1.1.2, hr.1.2, hr.2⟩)
    · simpa using hr
theorem recEq_self (k s : Int) (ks vs : List Int) : recEq k s ks vs k s ks vs = true := by simp [recEq]

set_option maxHeartbeats 1000000 in
set_option maxRecDepth 100000 in
theorem tagLong_walk (a0 : Option Addr) (len0 cap0 : Nat) (z0 : List Int) (a1 : ByteArray) (w : World) (w0 : IsRow .u16 w a0 len0 cap0 z0) (_w1 : a1.size ≤ maxLen) :
    Calls Try.prog 10 #[.slice a0 len0 cap0, .string a1] w fun e w' => e = .returned (.bool true) ∧ Mem w w' := by
  obtain ⟨hz, hw⟩ := Ints.of_row w0
  have hb : ∀ x ∈ z0.take len0, 0 ≤ x ∧ x ≤ 65535 := fun x hx => u16_wf (hw x hx)
  clear w0 hw
  generalize z0.take len0 = z at *
  obtain ⟨oz, cz, hoz⟩ := hz.shape
  rw [hoz] at hz ⊢
  clear hoz
  go_enter Try.func10, Try.ntmps10
  go_wp2_with fail
  refine (awake _).mono ?_
  rintro e w1 ⟨rfl, m1⟩
  by_cases hd : 16 < a1.size
  · have hd' : (16 : Int) < (a1.size : Int) := by omega
    have hcs := cut_size a1 16
    go_wp2_with fail
    generalize a1.extract 0 16 = D at *
    clear hd hd'
    refine (lawMade _ z _ (hz.mem m1) hb).mono ?_
    rintro e w2 ⟨⟨vk, vv, rfl, hT⟩, m2⟩
    obtain ⟨ik, iv⟩ := hT.ints
    obtain ⟨ok, ck, rfl⟩ := owns_shape hT.1
    obtain ⟨ov, cv, rfl⟩ := owns_shape hT.2.1
    clear hT
    obtain ⟨T, he, t10, t40⟩ := made_enc z D hcs
    have HE := hide he
    clear he
    have hm2 := m1.trans m2
    go_wp2_with fail
    refine (tagEncode (mkK z) (mkS z) _ _ (mkKeys z) (mkVals z) D _ ik iv).mono ?_
    rintro e w3 ⟨rfl, m3⟩
    rw [HE.out]
    simp only [encV]
    have hsz := size_mk T
    have t10' : (10 : Int) ≤ (T.length : Int) := by omega
    have t40' : (T.length : Int) ≤ 40 := by omega
    go_wp2_with fail
    go_ret
    exact ⟨ret_bool (by simp), hm2.trans m3⟩
  · have hd' : (a1.size : Int) ≤ 16 := by omega
    have hcs : a1.size ≤ 16 := by omega
    go_wp2_with fail
    generalize a1 = D at *
    clear hd hd'
    refine (lawMade _ z _ (hz.mem m1) hb).mono ?_
    rintro e w2 ⟨⟨vk, vv, rfl, hT⟩, m2⟩
    obtain ⟨ik, iv⟩ := hT.ints
    obtain ⟨ok, ck, rfl⟩ := owns_shape hT.1
    obtain ⟨ov, cv, rfl⟩ := owns_shape hT.2.1
    clear hT
    obtain ⟨T, he, t10, t40⟩ := made_enc z D hcs
    have HE := hide he
    clear he
    have hm2 := m1.trans m2
    go_wp2_with fail
    refine (tagEncode (mkK z) (mkS z) _ _ (mkKeys z) (mkVals z) D _ ik iv).mono ?_
    rintro e w3 ⟨rfl, m3⟩
    rw [HE.out]
    simp only [encV]
    have hsz := size_mk T
    have t10' : (10 : Int) ≤ (T.length : Int) := by omega
    have t40' : (T.length : Int) ≤ 40 := by omega
    go_wp2_with fail
    go_ret
    exact ⟨ret_bool (by simp), hm2.trans m3⟩

set_option maxHeartbeats 1000000 in
set_option maxRecDepth 100000 in
theorem tagBack_walk (a0 : Option Addr) (len0 cap0 : Nat) (z0 : List Int) (a1 : ByteArray) (w : World) (w0 : IsRow .u16 w a0 len0 cap0 z0) (_w1 : a1.size ≤ maxLen) :
    Calls Try.prog 6 #[.slice a0 len0 cap0, .string a1] w fun e w' => e = .returned (.bool true) ∧ Mem w w' := by
  obtain ⟨hz, hw⟩ := Ints.of_row w0
  have hb : ∀ x ∈ z0.take len0, 0 ≤ x ∧ x ≤ 65535 := fun x hx => u16_wf (hw x hx)
  clear w0 hw
  generalize z0.take len0 = z at *
  obtain ⟨oz, cz, hoz⟩ := hz.shape
  rw [hoz] at hz ⊢
  clear hoz
  go_enter Try.func6, Try.ntmps6
  go_wp2_with fail
  refine (awake _).mono ?_
  rintro e w1 ⟨rfl, m1⟩
  by_cases hd : 16 < a1.size
  · have hd' : (16 : Int) < (a1.size : Int) := by omega
    have hcs := cut_size a1 16
    go_wp2_with fail
    generalize a1.extract 0 16 = D at *
    clear hd hd'
    refine (lawMade _ z _ (hz.mem m1) hb).mono ?_
    rintro e w2 ⟨⟨vk, vv, rfl, hT⟩, m2⟩
    obtain ⟨ik, iv⟩ := hT.ints
    obtain ⟨ok, ck, rfl⟩ := owns_shape hT.1
    obtain ⟨ov, cv, rfl⟩ := owns_shape hT.2.1
    clear hT
    obtain ⟨T, he, t10, t40⟩ := made_enc z D hcs
    have HE := hide he
    clear he
    have hm2 := m1.trans m2
    have ha : Mem w2 (w2.alloc (.cells #[.int .i64 (mkK z), .int .i64 (mkS z), .slice ok (mkKeys z).length ck, .slice ov (mkVals z).length cv] 24)) := (Mem.refl w2).alloc _
    have hA := Box.new w2 (mkK z) (mkS z) (.slice ok (mkKeys z).length ck) (.slice ov (mkVals z).length cv) 24
    go_wp2_with fail
    refine (tagEncode (mkK z) (mkS z) _ _ (mkKeys z) (mkVals z) D _ (ik.mem ha) (iv.mem ha)).mono ?_
    rintro e w3 ⟨rfl, m3⟩
    rw [HE.out]
    simp only [encV]
    go_wp2_with fail
    refine (tagDecode ⟨T.toArray⟩ D _ (by rw [size_mk]; unfold maxLen; omega)).mono ?_
    rintro e w4 ⟨hdk, m4⟩
    rw [show decode (⟨T.toArray⟩ : ByteArray).data.toList D.data.toList = some (mkK z, mkS z, mkKeys z, mkVals z) from decode_enc HE.out] at hdk
    obtain ⟨vc, vd, rfl, ic, id'⟩ := hdk
    obtain ⟨oc, cc, rfl⟩ := ic.shape
    obtain ⟨od, cd, rfl⟩ := id'.shape
    simp only [decR, decE] at *
    have hb4 : Mem w4 (w4.alloc (.cells #[.int .i64 (mkK z), .int .i64 (mkS z), .slice oc (mkKeys z).length cc, .slice od (mkVals z).length cd] 24)) := (Mem.refl w4).alloc _
    obtain ⟨a0', a1', a2', a3'⟩ := hA.mem (m3.trans (m4.trans hb4))
    have m24 := ha.trans (m3.trans (m4.trans hb4))
    clear hA
    go_wp2_with fail
    refine (recSame _ _ _ _ _ _ _ _ _ _ _ _ _ (ic.mem hb4) (id'.mem hb4) (ik.mem m24) (iv.mem m24)).mono ?_
    rintro e w5 ⟨rfl, m5⟩
    rw [recEq_self]
    go_wp2_with fail
    go_ret
    exact ⟨rfl, hm2.trans (m24.trans m5)⟩
  · have hd' : (a1.size : Int) ≤ 16 := by omega
    have hcs : a1.size ≤ 16 := by omega
    go_wp2_with fail
    generalize a1 = D at *
    clear hd hd'
    refine (lawMade _ z _ (hz.mem m1) hb).mono ?_
    rintro e w2 ⟨⟨vk, vv, rfl, hT⟩, m2⟩
    obtain ⟨ik, iv⟩ := hT.ints
    obtain ⟨ok, ck, rfl⟩ := owns_shape hT.1
    obtain ⟨ov, cv, rfl⟩ := owns_shape hT.2.1
    clear hT
    obtain ⟨T, he, t10, t40⟩ := made_enc z D hcs
    have HE := hide he
    clear he
    have hm2 := m1.trans m2
    have ha : Mem w2 (w2.alloc (.cells #[.int .i64 (mkK z), .int .i64 (mkS z), .slice ok (mkKeys z).length ck, .slice ov (mkVals z).length cv] 24)) := (Mem.refl w2).alloc _
    have hA := Box.new w2 (mkK z) (mkS z) (.slice ok (mkKeys z).length ck) (.slice ov (mkVals z).length cv) 24
    go_wp2_with fail
    refine (tagEncode (mkK z) (mkS z) _ _ (mkKeys z) (mkVals z) D _ (ik.mem ha) (iv.mem ha)).mono ?_
    rintro e w3 ⟨rfl, m3⟩
    rw [HE.out]
    simp only [encV]
    go_wp2_with fail
    refine (tagDecode ⟨T.toArray⟩ D _ (by rw [size_mk]; unfold maxLen; omega)).mono ?_
    rintro e w4 ⟨hdk, m4⟩
    rw [show decode (⟨T.toArray⟩ : ByteArray).data.toList D.data.toList = some (mkK z, mkS z, mkKeys z, mkVals z) from decode_enc HE.out] at hdk
    obtain ⟨vc, vd, rfl, ic, id'⟩ := hdk
    obtain ⟨oc, cc, rfl⟩ := ic.shape
    obtain ⟨od, cd, rfl⟩ := id'.shape
    simp only [decR, decE] at *
    have hb4 : Mem w4 (w4.alloc (.cells #[.int .i64 (mkK z), .int .i64 (mkS z), .slice oc (mkKeys z).length cc, .slice od (mkVals z).length cd] 24)) := (Mem.refl w4).alloc _
    obtain ⟨a0', a1', a2', a3'⟩ := hA.mem (m3.trans (m4.trans hb4))
    have m24 := ha.trans (m3.trans (m4.trans hb4))
    clear hA
    go_wp2_with fail
    refine (recSame _ _ _ _ _ _ _ _ _ _ _ _ _ (ic.mem hb4) (id'.mem hb4) (ik.mem m24) (iv.mem m24)).mono ?_
    rintro e w5 ⟨rfl, m5⟩
    rw [recEq_self]
    go_wp2_with fail
    go_ret
    exact ⟨rfl, hm2.trans (m24.trans m5)⟩

set_option maxHeartbeats 1000000 in
set_option maxRecDepth 100000 in
theorem tagApart_walk (a0 : Option Addr) (len0 cap0 : Nat) (z0 : List Int) (c0 : Option Addr) (len1 cap1 : Nat) (y0 : List Int) (a1 : ByteArray) (w : World) (w0 : IsRow .u16 w a0 len0 cap0 z0) (v0 : IsRow .u16 w c0 len1 cap1 y0) (_w1 : a1.size ≤ maxLen) :
    Calls Try.prog 8 #[.slice a0 len0 cap0, .slice c0 len1 cap1, .string a1] w fun e w' => e = .returned (.bool true) ∧ Mem w w' := by
  obtain ⟨hz, hw⟩ := Ints.of_row w0
  have hb : ∀ x ∈ z0.take len0, 0 ≤ x ∧ x ≤ 65535 := fun x hx => u16_wf (hw x hx)
  clear w0 hw
  generalize z0.take len0 = z at *
  obtain ⟨hy, hv⟩ := Ints.of_row v0
  have hc : ∀ x ∈ y0.take len1, 0 ≤ x ∧ x ≤ 65535 := fun x hx => u16_wf (hv x hx)
  clear v0 hv
  generalize y0.take len1 = y at *
  obtain ⟨oy, cy, hoy⟩ := hy.shape
  rw [hoy] at hy ⊢
  clear hoy
  obtain ⟨oz, cz, hoz⟩ := hz.shape
  rw [hoz] at hz ⊢
  clear hoz
  go_enter Try.func8, Try.ntmps8
  go_wp2_with fail
  refine (awake _).mono ?_
  rintro e w1 ⟨rfl, m1⟩
  by_cases hd : 16 < a1.size
  · have hd' : (16 : Int) < (a1.size : Int) := by omega
    have hcs := cut_size a1 16
    go_wp2_with fail
    generalize a1.extract 0 16 = D at *
    clear hd hd'
    refine (lawMade _ z _ (hz.mem m1) hb).mono ?_
    rintro e w2 ⟨⟨vk, vv, rfl, hT⟩, m2⟩
    obtain ⟨ik, iv⟩ := hT.ints
    obtain ⟨ok, ck, rfl⟩ := owns_shape hT.1
    obtain ⟨ov, cv, rfl⟩ := owns_shape hT.2.1
    clear hT
    have hm2 := m1.trans m2
    go_wp2_with fail
    refine (lawMade _ y _ (hy.mem hm2) hc).mono ?_
    rintro e w3 ⟨⟨vk, vv, rfl, hT⟩, m3⟩
    obtain ⟨jk, jv⟩ := hT.ints
    obtain ⟨pk1, pc1, rfl⟩ := owns_shape hT.1
    obtain ⟨pv1, pd1, rfl⟩ := owns_shape hT.2.1
    clear hT
    obtain ⟨T, he, t10, t40⟩ := made_enc z D hcs
    obtain ⟨T', he', t10', t40'⟩ := made_enc y D hcs
    have hq := apart_eq he he'
    have HE := hide he
    have HE' := hide he'
    have HQ := hide hq
    clear he he' hq t10 t40 t10' t40'
    have ha : Mem w3 ((w3.alloc (.cells #[.int .i64 (mkK z), .int .i64 (mkS z), .slice ok (mkKeys z).length ck, .slice ov (mkVals z).length cv] 24)).alloc (.cells #[.int .i64 (mkK y), .int .i64 (mkS y), .slice pk1 (mkKeys y).length pc1, .slice pv1 (mkVals y).length pd1] 24)) := ((Mem.refl w3).alloc _).alloc _
    have hA : Box ((w3.alloc (.cells #[.int .i64 (mkK z), .int .i64 (mkS z), .slice ok (mkKeys z).length ck, .slice ov (mkVals z).length cv] 24)).alloc (.cells #[.int .i64 (mkK y), .int .i64 (mkS y), .slice pk1 (mkKeys y).length pc1, .slice pv1 (mkVals y).length pd1] 24)) w3.heap.size (mkK z) (mkS z) (.slice ok (mkKeys z).length ck) (.slice ov (mkVals z).length cv) := Box.mem (Box.new w3 _ _ _ _ _) ((Mem.refl _).alloc _)
    have hszA : (w3.alloc (.cells #[.int .i64 (mkK z), .int .i64 (mkS z), .slice ok (mkKeys z).length ck, .slice ov (mkVals z).length cv] 24)).heap.size = w3.heap.size + 1 := by simp
    have hB : Box ((w3.alloc (.cells #[.int .i64 (mkK z), .int .i64 (mkS z), .slice ok (mkKeys z).length ck, .slice ov (mkVals z).length cv] 24)).alloc (.cells #[.int .i64 (mkK y), .int .i64 (mkS y), .slice pk1 (mkKeys y).length pc1, .slice pv1 (mkVals y).length pd1] 24)) (w3.heap.size + 1) (mkK y) (mkS y) (.slice pk1 (mkKeys y).length pc1) (.slice pv1 (mkVals y).length pd1) := by
      have := Box.new (w3.alloc (.cells #[.int .i64 (mkK z), .int .i64 (mkS z), .slice ok (mkKeys z).length ck, .slice ov (mkVals z).length cv] 24)) (mkK y) (mkS y) (.slice pk1 (mkKeys y).length pc1) (.slice pv1 (mkVals y).length pd1) 24
      rwa [hszA] at this
    clear hszA
    go_wp2_with fail
    have m3a := m3.trans ha
    refine (tagEncode (mkK z) (mkS z) _ _ (mkKeys z) (mkVals z) D _ (ik.mem m3a) (iv.mem m3a)).mono ?_
    rintro e w4 ⟨rfl, m4⟩
    rw [HE.out]
    simp only [encV]
    obtain ⟨b0, b1, b2, b3⟩ := hB.mem m4
    go_wp2_with fail
    have ha4 := ha.trans m4
    refine (tagEncode (mkK y) (mkS y) _ _ (mkKeys y) (mkVals y) D _ (jk.mem ha4) (jv.mem ha4)).mono ?_
    rintro e w5 ⟨rfl, m5⟩
    rw [HE'.out]
    simp only [encV]
    clear b0 b1 b2 b3
    have m45 := m4.trans m5
    have m35 := ha.trans m45
    obtain ⟨b0, b1, b2, b3⟩ := hB.mem m45
    obtain ⟨a0', a1', a2', a3'⟩ := hA.mem m45
    clear hA hB
    go_wp2_with fail
    refine (recSame _ _ _ _ _ _ _ _ _ _ _ _ _ (ik.mem (m3.trans m35)) (iv.mem (m3.trans m35)) (jk.mem m35) (jv.mem m35)).mono ?_
    rintro e w6 ⟨rfl, m6⟩
    rw [← HQ.out]
    go_wp2_with fail
    go_ret
    exact ⟨ret_bool (by simp), hm2.trans (m3.trans (m35.trans m6))⟩
  · have hd' : (a1.size : Int) ≤ 16 := by omega
    have hcs : a1.size ≤ 16 := by omega
    go_wp2_with fail
    generalize a1 = D at *
    clear hd hd'
    refine (lawMade _ z _ (hz.mem m1) hb).mono ?_
    rintro e w2 ⟨⟨vk, vv, rfl, hT⟩, m2⟩
    obtain ⟨ik, iv⟩ := hT.ints
    obtain ⟨ok, ck, rfl⟩ := owns_shape hT.1
    obtain ⟨ov, cv, rfl⟩ := owns_shape hT.2.1
    clear hT
    have hm2 := m1.trans m2
    go_wp2_with fail
    refine (lawMade _ y _ (hy.mem hm2) hc).mono ?_
    rintro e w3 ⟨⟨vk, vv, rfl, hT⟩, m3⟩
    obtain ⟨jk, jv⟩ := hT.ints
    obtain ⟨pk1, pc1, rfl⟩ := owns_shape hT.1
    obtain ⟨pv1, pd1, rfl⟩ := owns_shape hT.2.1
    clear hT
    obtain ⟨T, he, t10, t40⟩ := made_enc z D hcs
    obtain ⟨T', he', t10', t40'⟩ := made_enc y D hcs
    have hq := apart_eq he he'
    have HE := hide he
    have HE' := hide he'
    have HQ := hide hq
    clear he he' hq t10 t40 t10' t40'
    have ha : Mem w3 ((w3.alloc (.cells #[.int .i64 (mkK z), .int .i64 (mkS z), .slice ok (mkKeys z).length ck, .slice ov (mkVals z).length cv] 24)).alloc (.cells #[.int .i64 (mkK y), .int .i64 (mkS y), .slice pk1 (mkKeys y).length pc1, .slice pv1 (mkVals y).length pd1] 24)) := ((Mem.refl w3).alloc _).alloc _
    have hA : Box ((w3.alloc (.cells #[.int .i64 (mkK z), .int .i64 (mkS z), .slice ok (mkKeys z).length ck, .slice ov (mkVals z).length cv] 24)).alloc (.cells #[.int .i64 (mkK y), .int .i64 (mkS y), .slice pk1 (mkKeys y).length pc1, .slice pv1 (mkVals y).length pd1] 24)) w3.heap.size (mkK z) (mkS z) (.slice ok (mkKeys z).length ck) (.slice ov (mkVals z).length cv) := Box.mem (Box.new w3 _ _ _ _ _) ((Mem.refl _).alloc _)
    have hszA : (w3.alloc (.cells #[.int .i64 (mkK z), .int .i64 (mkS z), .slice ok (mkKeys z).length ck, .slice ov (mkVals z).length cv] 24)).heap.size = w3.heap.size + 1 := by simp
    have hB : Box ((w3.alloc (.cells #[.int .i64 (mkK z), .int .i64 (mkS z), .slice ok (mkKeys z).length ck, .slice ov (mkVals z).length cv] 24)).alloc (.cells #[.int .i64 (mkK y), .int .i64 (mkS y), .slice pk1 (mkKeys y).length pc1, .slice pv1 (mkVals y).length pd1] 24)) (w3.heap.size + 1) (mkK y) (mkS y) (.slice pk1 (mkKeys y).length pc1) (.slice pv1 (mkVals y).length pd1) := by
      have := Box.new (w3.alloc (.cells #[.int .i64 (mkK z), .int .i64 (mkS z), .slice ok (mkKeys z).length ck, .slice ov (mkVals z).length cv] 24)) (mkK y) (mkS y) (.slice pk1 (mkKeys y).length pc1) (.slice pv1 (mkVals y).length pd1) 24
      rwa [hszA] at this
    clear hszA
    go_wp2_with fail
    have m3a := m3.trans ha
    refine (tagEncode (mkK z) (mkS z) _ _ (mkKeys z) (mkVals z) D _ (ik.mem m3a) (iv.mem m3a)).mono ?_
    rintro e w4 ⟨rfl, m4⟩
    rw [HE.out]
    simp only [encV]
    obtain ⟨b0, b1, b2, b3⟩ := hB.mem m4
    go_wp2_with fail
    have ha4 := ha.trans m4
    refine (tagEncode (mkK y) (mkS y) _ _ (mkKeys y) (mkVals y) D _ (jk.mem ha4) (jv.mem ha4)).mono ?_
    rintro e w5 ⟨rfl, m5⟩
    rw [HE'.out]
    simp only [encV]
    clear b0 b1 b2 b3
    have m45 := m4.trans m5
    have m35 := ha.trans m45
    obtain ⟨b0, b1, b2, b3⟩ := hB.mem m45
    obtain ⟨a0', a1', a2', a3'⟩ := hA.mem m45
    clear hA hB
    go_wp2_with fail
    refine (recSame _ _ _ _ _ _ _ _ _ _ _ _ _ (ik.mem (m3.trans m35)) (iv.mem (m3.trans m35)) (jk.mem m35) (jv.mem m35)).mono ?_
    rintro e w6 ⟨rfl, m6⟩
    rw [← HQ.out]
    go_wp2_with fail
    go_ret
    exact ⟨ret_bool (by simp), hm2.trans (m3.trans (m35.trans m6))⟩
end Go.Proofs.Ytehdlpljncccjaa.Tag
