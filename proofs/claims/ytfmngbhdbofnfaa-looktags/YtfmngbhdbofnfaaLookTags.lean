/-
  The walk of LookTags.
-/
import Derived.Test.YtfmngbhdbofnfaaLookSpoilt
import GoSem.ClaimJoined
namespace Go.Proofs.Ytfmngbhdbofnfaa.Look
open Go.RowKit Go.Proofs.Ytfmngbhdbofnfaa.Pack Go.Proofs.Ytfmngbhdbofnfaa.Crc Go.Proofs.Ytfmngbhdbofnfaa.Tag

theorem ext_le (s : ByteArray) (a b : Nat) (h : s.size ≤ maxLen) : (s.extract a b).size ≤ maxLen := by
  rw [ByteArray.size_extract]; unfold maxLen at *; omega

set_option maxHeartbeats 2000000 in
set_option maxRecDepth 100000 in
theorem lookTags_walk (a0 : Option Addr) (len0 cap0 : Nat) (z0 : List Int) (a1 : ByteArray) (a2 : ByteArray) (a3 : Int) (w : World) (w0 : IsRow .u16 w a0 len0 cap0 z0) (_w1 : a1.size ≤ maxLen) (_w2 : a2.size ≤ maxLen) (w3 : (Lit.int .u8 a3).wf = true) (s2 : a2.data.toList.length ≤ reachBytes) :
    Calls Try.prog 6 #[.slice a0 len0 cap0, .string a1, .string a2, .int .u8 a3] w fun e w' => e = .returned (.bool true) ∧ Mem w w' := by
  obtain ⟨hz, hwf⟩ := Ints.of_row w0
  have HZ : Hid (∀ x ∈ z0.take len0, 0 ≤ x ∧ x ≤ 65535) := fun x h => u16_wf (hwf x h)
  generalize z0.take len0 = z at *
  have hb2 : 0 ≤ a3 ∧ a3 ≤ 255 := bounds_u8 w3
  obtain ⟨hb0, hb1⟩ := hb2
  clear w0 hwf w3
  obtain ⟨B, rfl⟩ : ∃ L : List UInt8, a2 = ⟨L.toArray⟩ := ⟨a2.data.toList, by simp⟩
  have hB : B.length ≤ 140737488351232 := s2
  clear s2 _w2
  obtain ⟨D, hD, hcase⟩ : ∃ D : ByteArray, D.size ≤ 16 ∧ ((16 < a1.size ∧ a1.extract 0 16 = D) ∨ (¬ 16 < a1.size ∧ a1 = D)) := by
    by_cases h : 16 < a1.size
    · exact ⟨_, cut_size a1 16, .inl ⟨h, rfl⟩⟩
    · exact ⟨a1, by omega, .inr ⟨h, rfl⟩⟩
  obtain ⟨T, he, t10, t40⟩ := made_enc z D hD
  have HE := hide he
  have hTs : (ByteArray.mk T.toArray).size ≤ maxLen := by rw [size_mk]; unfold maxLen; omega
  have hTB : (ByteArray.mk (T ++ B).toArray).size ≤ maxLen := by rw [size_mk, List.length_append]; unfold maxLen; omega
  have hsum : ¬ (9223372036854775807 < T.length + B.length) := by omega
  clear he
  rcases hcase with ⟨h, hC⟩ | ⟨h, rfl⟩
  all_goals (first
    | (have h' : (16 : Int) < (a1.size : Int) := by omega
       have HT := hide hC
       clear hC
       go_enter Try.func6, Try.ntmps6
       go_wp2_with fail
       rw [HT.out]
       clear HT h h')
    | (have h' : (a1.size : Int) ≤ 16 := by omega
       go_enter Try.func6, Try.ntmps6
       go_wp2_with fail
       generalize a1 = D at *
       clear h h'))
  all_goals (
    refine (lawMade _ z _ hz HZ.out).mono ?_
    rintro e w2 ⟨⟨vk, vv, rfl, hT⟩, hm⟩
    obtain ⟨ik, iv⟩ := hT.ints
    obtain ⟨ok, ck, rfl⟩ := owns_shape hT.1
    obtain ⟨ov, cv, rfl⟩ := owns_shape hT.2.1
    clear hT hz HZ
    go_wp2_with fail
    refine (refMake (mkK z) (mkS z) _ _ (mkKeys z) (mkVals z) D _ ik iv).mono ?_
    rintro e w3 ⟨rfl, m1⟩
    rw [HE.out]
    simp only [mkV]
    have hP := Blk.new w3 #[.bool true, .string D, .string ⟨T.toArray⟩] 23
    have hm3 := hm.trans m1
    clear m1 ik iv HE hm
    have p0 := hP.cell (j := 0) rfl
    have p1 := hP.cell (j := 1) rfl
    have p2 := hP.cell (j := 2) rfl
    have f0 := hP.frozen 0
    have f1 := hP.frozen 1
    have f2 := hP.frozen 2
    have hr : a3 % 5 = 0 ∨ a3 % 5 = 1 ∨ a3 % 5 = 2 ∨ a3 % 5 = 3 ∨ a3 % 5 = 4 := by omega
    rcases hr with hr | hr | hr | hr | hr)
  all_goals (first
    | (have h0 : a3 % 5 = 0 := by omega
       have e0 : (a3 % 5 == 0) = true := by rw [hr]; rfl
       clear hr h0
       go_wp2_with fail
       have hts := hTs
       clear hP p0 p1 p2 f0 f1 f2 hsum hB t10 t40 hD
       clear hTs hTB
       generalize (⟨T.toArray⟩ : ByteArray) = t at *
       generalize (⟨B.toArray⟩ : ByteArray) = d at *
       have isT : True := trivial)
    | (have h1 : a3 % 5 = 1 := by omega
       have e0 : (a3 % 5 == 0) = false := by rw [hr]; rfl
       have e1 : (a3 % 5 == 1) = true := by rw [hr]; rfl
       clear hr h1
       go_wp2_with fail
       rw [cat_two]
       have hts := hTB
       clear hP p0 p1 p2 f0 f1 f2 hsum hB t10 t40 hD
       clear hTs hTB
       generalize (⟨(T ++ B).toArray⟩ : ByteArray) = t at *
       generalize D = d at *
       have isT : True := trivial)
    | (have h2 : a3 % 5 = 2 := by omega
       have e0 : (a3 % 5 == 0) = false := by rw [hr]; rfl
       have e1 : (a3 % 5 == 1) = false := by rw [hr]; rfl
       have e2 : (a3 % 5 == 2) = true := by rw [hr]; rfl
       clear hr h2
       go_wp2_with fail
       have hts := hTs
       clear hP p0 p1 p2 f0 f1 f2 hsum hB t10 t40 hD
       clear hTs hTB
       generalize (⟨T.toArray⟩ : ByteArray) = t at *
       generalize D = d at *
       have isF : True := trivial)
    | (have h3 : a3 % 5 = 3 := by omega
       have e0 : (a3 % 5 == 0) = false := by rw [hr]; rfl
       have e1 : (a3 % 5 == 1) = false := by rw [hr]; rfl
       have e2 : (a3 % 5 == 2) = false := by rw [hr]; rfl
       have e3 : (a3 % 5 == 3) = true := by rw [hr]; rfl
       clear hr h3
       go_wp2_with fail
       have hts := ext_le ⟨T.toArray⟩ (T.length / 2) T.length hTs
       clear hP p0 p1 p2 f0 f1 f2 hsum hB t10 t40 hD
       clear hTs hTB
       generalize (ByteArray.extract ⟨T.toArray⟩ (T.length / 2) T.length) = t at *
       generalize D = d at *
       have isT : True := trivial)
    | (have h4 : a3 % 5 = 4 := by omega
       have e0 : (a3 % 5 == 0) = false := by rw [hr]; rfl
       have e1 : (a3 % 5 == 1) = false := by rw [hr]; rfl
       have e2 : (a3 % 5 == 2) = false := by rw [hr]; rfl
       have e3 : (a3 % 5 == 3) = false := by rw [hr]; rfl
       clear hr h4
       go_wp2_with fail
       have hts := hTs
       clear hP p0 p1 p2 f0 f1 f2 hsum hB t10 t40 hD
       clear hTs hTB
       generalize (⟨T.toArray⟩ : ByteArray) = t at *
       generalize D = d at *
       have isT : True := trivial))
  all_goals (first
    | (clear isT
       refine (lookLook true d t _ hts).mono ?_
       rintro e w4 ⟨hd, m1⟩
       have hP := Blk.new w3 #[.bool true, .string d, .string t] 23
       have hm := hm3.alloc (.cells #[.bool true, .string d, .string t] 23)
       generalize hW3 : w3.alloc (.cells #[.bool true, .string d, .string t] 23) = W3 at *
       generalize w3.heap.size = BP at *
       clear hW3 hm3
       generalize hO : look true t.data.toList d.data.toList = o at hd
       have HO := hide hO
       clear hO
       obtain ⟨va, vb, rfl, ia, ib, _, _⟩ := hd
       obtain ⟨oa, ca, rfl⟩ := ia.shape
       obtain ⟨ob, cb, rfl⟩ := ib.shape
       have ha : Mem w4 (w4.alloc (.cells #[.int .i64 (decR o.2).1, .int .i64 (decR o.2).2.1, .slice oa (decR o.2).2.2.1.length ca, .slice ob (decR o.2).2.2.2.length cb] 27)) := (Mem.refl w4).alloc _
       have hA := Blk.new w4 #[.int .i64 (decR o.2).1, .int .i64 (decR o.2).2.1, .slice oa (decR o.2).2.2.1.length ca, .slice ob (decR o.2).2.2.2.length cb] 27
       have n1 := m1.trans ha
       replace hm := hm.trans n1
       replace hP := hP.mem n1
       replace ia := ia.mem ha
       replace ib := ib.mem ha
       clear m1 ha n1
       have p0 := hP.cell (j := 0) rfl
       have p1 := hP.cell (j := 1) rfl
       have p2 := hP.cell (j := 2) rfl
       go_wp2_with fail
       clear p0 p1 p2 hP
       generalize hW1 : w4.alloc (.cells #[.int .i64 (decR o.2).1, .int .i64 (decR o.2).2.1, .slice oa (decR o.2).2.2.1.length ca, .slice ob (decR o.2).2.2.2.length cb] 27) = W4 at *
       generalize w4.heap.size = B1 at *
       clear hW1
       refine (refLook true d t _ hts).mono ?_
       rintro e w5 ⟨hd, m1⟩
       rw [HO.out] at hd
       obtain ⟨va, vb, rfl, ic, id', _, _⟩ := hd
       obtain ⟨oc, cc, rfl⟩ := ic.shape
       obtain ⟨od, cd, rfl⟩ := id'.shape
       have ha : Mem w5 (w5.alloc (.cells #[.int .i64 (decR o.2).1, .int .i64 (decR o.2).2.1, .slice oc (decR o.2).2.2.1.length cc, .slice od (decR o.2).2.2.2.length cd] 27)) := (Mem.refl w5).alloc _
       have hB := Blk.new w5 #[.int .i64 (decR o.2).1, .int .i64 (decR o.2).2.1, .slice oc (decR o.2).2.2.1.length cc, .slice od (decR o.2).2.2.2.length cd] 27
       have n1 := m1.trans ha
       replace hm := hm.trans n1
       replace hA := hA.mem n1
       replace ia := ia.mem n1
       replace ib := ib.mem n1
       replace ic := ic.mem ha
       replace id' := id'.mem ha
       clear m1 ha n1
       go_wp2_with fail
       generalize hW2 : w5.alloc (.cells #[.int .i64 (decR o.2).1, .int .i64 (decR o.2).2.1, .slice oc (decR o.2).2.2.1.length cc, .slice od (decR o.2).2.2.2.length cd] 27) = W5 at *
       generalize w5.heap.size = B2 at *
       clear hW2
       refine (awake _).mono ?_
       rintro e w6 ⟨rfl, m1⟩
       replace hm := hm.trans m1
       replace hA := hA.mem m1
       replace hB := hB.mem m1
       replace ia := ia.mem m1
       replace ib := ib.mem m1
       replace ic := ic.mem m1
       replace id' := id'.mem m1
       clear m1
       have a0 := hA.cell (j := 0) rfl
       have a1 := hA.cell (j := 1) rfl
       have a2 := hA.cell (j := 2) rfl
       have a3 := hA.cell (j := 3) rfl
       have b0 := hB.cell (j := 0) rfl
       have b1 := hB.cell (j := 1) rfl
       have b2 := hB.cell (j := 2) rfl
       have b3 := hB.cell (j := 3) rfl
       have qe : (o.1 == o.1) = true := by simp
       go_wp2_with fail
       refine (recSame _ _ _ _ _ _ _ _ _ _ _ _ _ ia ib ic id').mono ?_
       rintro e w7 ⟨rfl, m5⟩
       rw [recEq_refl]
       go_wp2_with fail
       go_ret
       exact ⟨rfl, hm.trans m5⟩)
    | (clear isF
       refine (lookLook false d t _ hts).mono ?_
       rintro e w4 ⟨hd, m1⟩
       have hP := Blk.new w3 #[.bool false, .string d, .string t] 23
       have hm := hm3.alloc (.cells #[.bool false, .string d, .string t] 23)
       generalize hW3 : w3.alloc (.cells #[.bool false, .string d, .string t] 23) = W3 at *
       generalize w3.heap.size = BP at *
       clear hW3 hm3
       generalize hO : look false t.data.toList d.data.toList = o at hd
       have HO := hide hO
       clear hO
       obtain ⟨va, vb, rfl, ia, ib, _, _⟩ := hd
       obtain ⟨oa, ca, rfl⟩ := ia.shape
       obtain ⟨ob, cb, rfl⟩ := ib.shape
       have ha : Mem w4 (w4.alloc (.cells #[.int .i64 (decR o.2).1, .int .i64 (decR o.2).2.1, .slice oa (decR o.2).2.2.1.length ca, .slice ob (decR o.2).2.2.2.length cb] 27)) := (Mem.refl w4).alloc _
       have hA := Blk.new w4 #[.int .i64 (decR o.2).1, .int .i64 (decR o.2).2.1, .slice oa (decR o.2).2.2.1.length ca, .slice ob (decR o.2).2.2.2.length cb] 27
       have n1 := m1.trans ha
       replace hm := hm.trans n1
       replace hP := hP.mem n1
       replace ia := ia.mem ha
       replace ib := ib.mem ha
       clear m1 ha n1
       have p0 := hP.cell (j := 0) rfl
       have p1 := hP.cell (j := 1) rfl
       have p2 := hP.cell (j := 2) rfl
       go_wp2_with fail
       clear p0 p1 p2 hP
       generalize hW1 : w4.alloc (.cells #[.int .i64 (decR o.2).1, .int .i64 (decR o.2).2.1, .slice oa (decR o.2).2.2.1.length ca, .slice ob (decR o.2).2.2.2.length cb] 27) = W4 at *
       generalize w4.heap.size = B1 at *
       clear hW1
       refine (refLook false d t _ hts).mono ?_
       rintro e w5 ⟨hd, m1⟩
       rw [HO.out] at hd
       obtain ⟨va, vb, rfl, ic, id', _, _⟩ := hd
       obtain ⟨oc, cc, rfl⟩ := ic.shape
       obtain ⟨od, cd, rfl⟩ := id'.shape
       have ha : Mem w5 (w5.alloc (.cells #[.int .i64 (decR o.2).1, .int .i64 (decR o.2).2.1, .slice oc (decR o.2).2.2.1.length cc, .slice od (decR o.2).2.2.2.length cd] 27)) := (Mem.refl w5).alloc _
       have hB := Blk.new w5 #[.int .i64 (decR o.2).1, .int .i64 (decR o.2).2.1, .slice oc (decR o.2).2.2.1.length cc, .slice od (decR o.2).2.2.2.length cd] 27
       have n1 := m1.trans ha
       replace hm := hm.trans n1
       replace hA := hA.mem n1
       replace ia := ia.mem n1
       replace ib := ib.mem n1
       replace ic := ic.mem ha
       replace id' := id'.mem ha
       clear m1 ha n1
       go_wp2_with fail
       generalize hW2 : w5.alloc (.cells #[.int .i64 (decR o.2).1, .int .i64 (decR o.2).2.1, .slice oc (decR o.2).2.2.1.length cc, .slice od (decR o.2).2.2.2.length cd] 27) = W5 at *
       generalize w5.heap.size = B2 at *
       clear hW2
       refine (awake _).mono ?_
       rintro e w6 ⟨rfl, m1⟩
       replace hm := hm.trans m1
       replace hA := hA.mem m1
       replace hB := hB.mem m1
       replace ia := ia.mem m1
       replace ib := ib.mem m1
       replace ic := ic.mem m1
       replace id' := id'.mem m1
       clear m1
       have a0 := hA.cell (j := 0) rfl
       have a1 := hA.cell (j := 1) rfl
       have a2 := hA.cell (j := 2) rfl
       have a3 := hA.cell (j := 3) rfl
       have b0 := hB.cell (j := 0) rfl
       have b1 := hB.cell (j := 1) rfl
       have b2 := hB.cell (j := 2) rfl
       have b3 := hB.cell (j := 3) rfl
       have qe : (o.1 == o.1) = true := by simp
       go_wp2_with fail
       refine (recSame _ _ _ _ _ _ _ _ _ _ _ _ _ ia ib ic id').mono ?_
       rintro e w7 ⟨rfl, m5⟩
       rw [recEq_refl]
       go_wp2_with fail
       go_ret
       exact ⟨rfl, hm.trans m5⟩))
end Go.Proofs.Ytfmngbhdbofnfaa.Look
