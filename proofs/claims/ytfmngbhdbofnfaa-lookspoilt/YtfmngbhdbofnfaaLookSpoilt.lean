/-
  The walk of LookSpoilt.
-/
import Derived.Test.YtfmngbhdbofnfaaLookMake
namespace Go.Proofs.Ytfmngbhdbofnfaa.Look
open Go.RowKit Go.Proofs.Ytfmngbhdbofnfaa.Pack Go.Proofs.Ytfmngbhdbofnfaa.Crc Go.Proofs.Ytfmngbhdbofnfaa.Tag

/-- the text with the byte at p turned by b -/
def turn (l : List UInt8) (p : Nat) (b : UInt8) : List UInt8 := l.modify p (· ^^^ b)
theorem turn_length (l : List UInt8) (p : Nat) (b : UInt8) : (turn l p b).length = l.length := by simp [turn]
theorem turn_snoc (l : List UInt8) (p : Nat) (b : UInt8) (k : Nat) (h : k < l.length) :
    (turn l p b).take (k + 1) = (turn l p b).take k ++ [if p = k then l[k] ^^^ b else l[k]] := by
  rw [List.take_succ_eq_append_getElem (by rw [turn_length]; exact h)]
  congr 2
  unfold turn
  rw [List.getElem_modify]
theorem xor_ne {x b : UInt8} (h : b ≠ 0) : x ≠ x ^^^ b := by
  intro e
  apply h
  have e2 : x.toNat = (x ^^^ b).toNat := by rw [← e]
  rw [UInt8.toNat_xor] at e2
  have h3 : b.toNat = 0 := xor_right_inj (c := x.toNat) (by rw [← e2, Nat.xor_zero])
  exact UInt8.toNat_inj.1 h3
theorem or_ne (y : UInt8) : y ||| 1 ≠ 0 := by
  intro e
  have h2 : (y ||| 1).toNat = 0 := by rw [e]; rfl
  rw [UInt8.toNat_or] at h2
  have h3 : (y.toNat ||| 1).testBit 0 = true := by rw [Nat.testBit_or]; simp
  rw [show (1 : UInt8).toNat = 1 from rfl] at h2
  rw [h2] at h3
  simp at h3
theorem xor_or (x y : UInt8) : bits .xor .u8 (x.toNat : Int) (bits .or .u8 (y.toNat : Int) 1) = ((x ^^^ (y ||| 1)).toNat : Int) := by
  have e : bits .or .u8 (y.toNat : Int) 1 = ((y ||| 1).toNat : Int) := by
    have h : ∀ n : Nat, n < 256 → bits .or .u8 (n : Int) 1 = (((n ||| 1 : Nat)) : Int) := by decide +kernel
    rw [h _ y.toNat_lt, UInt8.toNat_or]; rfl
  rw [e, u8_xor_nat _ _ x.toNat_lt (y ||| 1).toNat_lt, UInt8.toNat_xor]
theorem turn_none {k s : Int} {ks vs : List Int} {data T : List UInt8} (h : enc k s ks vs data = some T) {p : Nat} (hp : p < T.length) {b : UInt8} (hb : b ≠ 0) : look true (turn T p b) data = (2, none) := by
  have e1 : turn T p b = T.take p ++ (T[p] ^^^ b) :: T.drop (p + 1) := List.modify_eq_take_cons_drop hp
  have e2 : T = T.take p ++ T[p] :: T.drop (p + 1) := by rw [List.getElem_cons_drop, List.take_append_drop]
  have h' : enc k s ks vs data = some (T.take p ++ T[p] :: T.drop (p + 1)) := by rw [← e2]; exact h
  unfold look
  simp only []
  rw [e1, decode_changed h' (xor_ne hb)]
theorem look_enc {k s : Int} {ks vs : List Int} {data T : List UInt8} (h : enc k s ks vs data = some T) : look true T data = (1, some (k, s, ks, vs)) := by
  unfold look; simp only []; rw [decode_enc h]

set_option maxHeartbeats 1000000 in
set_option maxRecDepth 100000 in
theorem lookSpoilt_walk (a0 : Option Addr) (len0 cap0 : Nat) (z0 : List Int) (a1 : ByteArray) (a2 : Int) (a3 : Int) (w : World) (w0 : IsRow .u16 w a0 len0 cap0 z0) (_w1 : a1.size ≤ maxLen) (w2 : (Lit.int .u8 a2).wf = true) (w3 : (Lit.int .u8 a3).wf = true) :
    Calls Try.prog 5 #[.slice a0 len0 cap0, .string a1, .int .u8 a2, .int .u8 a3] w fun e w' => e = .returned (.bool true) ∧ Mem w w' := by
  obtain ⟨hz, hwf⟩ := Ints.of_row w0
  have HZ : Hid (∀ x ∈ z0.take len0, 0 ≤ x ∧ x ≤ 65535) := fun x h => u16_wf (hwf x h)
  generalize z0.take len0 = z at *
  have hb1 : 0 ≤ a2 ∧ a2 ≤ 255 := bounds_u8 w2
  have hb2 : 0 ≤ a3 ∧ a3 ≤ 255 := bounds_u8 w3
  obtain ⟨p, rfl⟩ := Int.eq_ofNat_of_zero_le hb1.1
  obtain ⟨y, rfl⟩ : ∃ b : UInt8, a3 = (b.toNat : Int) := ⟨UInt8.ofNat a3.toNat, by rw [UInt8.toNat_ofNat']; omega⟩
  obtain ⟨i0, hi, hz0, hz1, hz2⟩ := info_parts info_u8
  clear w0 hwf w2 w3
  obtain ⟨D, hD, hcase⟩ : ∃ D : ByteArray, D.size ≤ 16 ∧ ((16 < a1.size ∧ a1.extract 0 16 = D) ∨ (¬ 16 < a1.size ∧ a1 = D)) := by
    by_cases h : 16 < a1.size
    · exact ⟨_, cut_size a1 16, .inl ⟨h, rfl⟩⟩
    · exact ⟨a1, by omega, .inr ⟨h, rfl⟩⟩
  obtain ⟨T, he, t10, t40⟩ := made_enc z D hD
  have HE := hide he
  have HL := hide (look_enc he)
  have HN := hide (turn_none he (p := p % T.length) (Nat.mod_lt _ (by omega)) (or_ne y))
  have hTe : T.isEmpty = false := by cases T with | nil => simp at t10 | cons a l => rfl
  have hTs : (ByteArray.mk T.toArray).size ≤ maxLen := by rw [size_mk]; unfold maxLen; omega
  clear he
  rcases hcase with ⟨h, hC⟩ | ⟨h, rfl⟩
  all_goals (first
    | (have h' : (16 : Int) < (a1.size : Int) := by omega
       have HT := hide hC
       clear hC
       go_enter Try.func5, Try.ntmps5
       go_wp2_with fail
       refine (awake _).mono ?_
       rintro e w1 ⟨rfl, hm⟩
       go_wp2_with fail
       rw [HT.out]
       clear HT h h')
    | (have h' : (a1.size : Int) ≤ 16 := by omega
       go_enter Try.func5, Try.ntmps5
       go_wp2_with fail
       refine (awake _).mono ?_
       rintro e w1 ⟨rfl, hm⟩
       go_wp2_with fail
       generalize a1 = D at *
       clear h h'))
  all_goals (
    refine (lawMade _ z _ (hz.mem hm) HZ.out).mono ?_
    rintro e w2 ⟨⟨vk, vv, rfl, hT⟩, m1⟩
    obtain ⟨ik, iv⟩ := hT.ints
    obtain ⟨ok, ck, rfl⟩ := owns_shape hT.1
    obtain ⟨ov, cv, rfl⟩ := owns_shape hT.2.1
    clear hT hz HZ
    have ha : Mem w2 (w2.alloc (.cells #[.int .i64 (mkK z), .int .i64 (mkS z), .slice ok (mkKeys z).length ck, .slice ov (mkVals z).length cv] 27)) := (Mem.refl w2).alloc _
    have hR := Blk.new w2 #[.int .i64 (mkK z), .int .i64 (mkS z), .slice ok (mkKeys z).length ck, .slice ov (mkVals z).length cv] 27
    replace hm := hm.trans (m1.trans ha)
    replace ik := ik.mem ha
    replace iv := iv.mem ha
    clear m1 ha
    go_wp2_with fail
    generalize hW2 : w2.alloc (.cells #[.int .i64 (mkK z), .int .i64 (mkS z), .slice ok (mkKeys z).length ck, .slice ov (mkVals z).length cv] 27) = W2 at *
    generalize w2.heap.size = BR at *
    clear hW2
    refine (lookMake (mkK z) (mkS z) _ _ (mkKeys z) (mkVals z) D _ ik iv).mono ?_
    rintro e w3 ⟨rfl, m1⟩
    rw [HE.out]
    simp only [mkV]
    have ha : Mem w3 (w3.alloc (.cells #[.bool true, .string D, .string ⟨T.toArray⟩] 23)) := (Mem.refl w3).alloc _
    have hP := Blk.new w3 #[.bool true, .string D, .string ⟨T.toArray⟩] 23
    have hBP := (hm.trans m1).size
    have n1 := m1.trans ha
    replace hm := hm.trans n1
    replace ik := ik.mem n1
    replace iv := iv.mem n1
    replace hR := hR.mem n1
    clear m1 ha n1
    go_wp2_with fail
    generalize hW3 : w3.alloc (.cells #[.bool true, .string D, .string ⟨T.toArray⟩] 23) = W3 at *
    generalize w3.heap.size = BP at *
    clear hW3
    refine (lookLook true D ⟨T.toArray⟩ _ hTs).mono ?_
    rintro e w4 ⟨hd, m1⟩
    replace hd : LookOk W3.heap.size (look true T D.data.toList) e w4 := hd
    rw [HL.out] at hd
    obtain ⟨va, vb, rfl, ia, ib, _, _⟩ := hd
    simp only [decR] at ia ib ⊢
    obtain ⟨oa, ca, rfl⟩ := ia.shape
    obtain ⟨ob, cb, rfl⟩ := ib.shape
    have ha : Mem w4 (w4.alloc (.cells #[.int .i64 (mkK z), .int .i64 (mkS z), .slice oa (mkKeys z).length ca, .slice ob (mkVals z).length cb] 27)) := (Mem.refl w4).alloc _
    have hQ := Blk.new w4 #[.int .i64 (mkK z), .int .i64 (mkS z), .slice oa (mkKeys z).length ca, .slice ob (mkVals z).length cb] 27
    have n1 := m1.trans ha
    replace hm := hm.trans n1
    replace ik := ik.mem n1
    replace iv := iv.mem n1
    replace ia := ia.mem ha
    replace ib := ib.mem ha
    replace hR := hR.mem n1
    replace hP := hP.mem n1
    clear m1 ha n1
    have r0 := hR.cell (j := 0) rfl
    have r1 := hR.cell (j := 1) rfl
    have r2 := hR.cell (j := 2) rfl
    have r3 := hR.cell (j := 3) rfl
    have q0 := hQ.cell (j := 0) rfl
    have q1 := hQ.cell (j := 1) rfl
    have q2 := hQ.cell (j := 2) rfl
    have q3 := hQ.cell (j := 3) rfl
    go_wp2_with fail
    clear r0 r1 r2 r3 q0 q1 q2 q3
    refine (recSame _ _ _ _ _ _ _ _ _ _ _ _ _ ik iv ia ib).mono ?_
    rintro e w5 ⟨rfl, m1⟩
    rw [recEq_self]
    replace hm := hm.trans m1
    have n1 := (Mem.refl w4)
    replace hP := hP.mem m1
    clear m1 n1 ik iv ia ib hR hQ
    have p2 := hP.cell (j := 2) rfl
    go_wp2_with fail
    clear p2
    generalize hB : y ||| 1 = bb at HN
    have HBB := hide hB
    clear hB
    go_loopw [15, 16] (fun l i wr => ∃ k : Nat, k ≤ T.length ∧ i = .int .i64 k ∧ wr.ownsRow w5.heap.size 5 1 l k (bcells ((turn T (p % T.length) bb).take k)) ∧ Mem w5 wr) (fun _ i _ => T.length - (intOf i).toNat)
    case atStart => exact ⟨0, Nat.zero_le _, rfl, World.ownsRow_nil _ _ _ _, Mem.refl _⟩
    case round =>
      obtain ⟨k, hk, rfl, hown, hmr⟩ := hrel
      have hPr := hP.mem hmr
      have p2 := hPr.cell (j := 2) rfl
      have hcl := turn_length T (p % T.length) bb
      by_cases hlt : k < T.length
      · have hlt' : (k : Int) < (T.length : Int) := by omega
        have hltA : k < (⟨T.toArray⟩ : ByteArray).size := by rw [size_mk]; exact hlt
        have hne : ((T.length : Int) == 0) = false := by rw [beq_eq_false_iff_ne]; omega
        have hget : (⟨T.toArray⟩ : ByteArray)[k]'hltA = T[k] := by simp [ByteArray.getElem_eq_getElem_data]
        have hsn := hide (turn_snoc T (p % T.length) bb k hlt)
        have HX : Hid (bits .xor .u8 (T[k].toNat : Int) (bits .or .u8 (y.toNat : Int) 1) = ((T[k] ^^^ bb).toNat : Int)) := by
          show _ = _
          rw [← HBB.out]; exact xor_or _ _
        generalize hL : turn T (p % T.length) bb = L at *
        generalize hc : T[k] = c at *
        clear hL hc
        have hln : (L.take k).length = k := by rw [List.length_take]; omega
        by_cases hp : p % T.length = k
        · have hpk : ((k : Int) == (p : Int) % (T.length : Int)) = true := by rw [beq_iff_eq]; omega
          go_wp2_with (first | (at_builtin; refine push8 rfl _ _ rfl w5.heap.size _ (L.take k) k hln rfl hown hmr.size (c ^^^ bb) _ HX.out rfl (by omega) ?_) | fail)
          intro v' w' h1 h2
          rw [show L.take k ++ [c ^^^ bb] = L.take (k + 1) from by rw [hsn.out, if_pos hp]] at h1
          clear hown
          go_wp2_with fail
          go_roundw
          case rel => exact ⟨k + 1, by omega, by go_num, h1, Below.trans hmr h2⟩
          case measure => simp [intOf]; omega
        · have hpk : ((k : Int) == (p : Int) % (T.length : Int)) = false := by rw [beq_eq_false_iff_ne]; omega
          go_wp2_with (first | (at_builtin; refine push8 rfl _ _ rfl w5.heap.size _ (L.take k) k hln rfl hown hmr.size c _ rfl rfl (by omega) ?_) | fail)
          intro v' w' h1 h2
          rw [show L.take k ++ [c] = L.take (k + 1) from by rw [hsn.out, if_neg hp]] at h1
          clear hown
          go_wp2_with fail
          go_roundw
          case rel => exact ⟨k + 1, by omega, by go_num, h1, Below.trans hmr h2⟩
          case measure => simp [intOf]; omega
      · have hke : k = T.length := by omega
        subst hke
        generalize hL : turn T (p % T.length) bb = L at *
        rw [List.take_of_length_le (by omega)] at hown
        have hcv := conv_owned (l := L) (by rw [hcl]; exact hown)
        have HLL := hide hL
        clear hL hown p2
        have hLs : (ByteArray.mk L.toArray).size ≤ maxLen := by rw [size_mk, hcl]; unfold maxLen; omega
        have p2 := hPr.cell (j := 2) rfl
        have f2 := hPr.frozen 2
        have hP2 : Blk (wr.setCell ⟨BP, 2, none⟩ (.string ⟨L.toArray⟩)) BP 23 #[.bool true, .string D, .string ⟨L.toArray⟩] := hPr.set 2 _
        have n0 := hP2.cell (j := 0) rfl
        have n1 := hP2.cell (j := 1) rfl
        have n2 := hP2.cell (j := 2) rfl
        go_wp2_with fail
        replace hm := (hm.trans hmr).setCell (p := ⟨BP, 2, none⟩) hBP (.string ⟨L.toArray⟩)
        clear n0 n1 n2 hcv p2 f2 hP2 hPr hmr hP
        generalize wr.setCell ⟨BP, 2, none⟩ (.string ⟨L.toArray⟩) = W6 at *
        refine (lookLook true D ⟨L.toArray⟩ _ hLs).mono ?_
        rintro e w7 ⟨hd, m1⟩
        replace hd : LookOk W6.heap.size (look true L D.data.toList) e w7 := hd
        rw [HN.out] at hd
        obtain ⟨va, vb, rfl, ia, ib, _, _⟩ := hd
        obtain ⟨oa, ca, rfl⟩ := ia.shape
        obtain ⟨ob, cb, rfl⟩ := ib.shape
        clear ia ib
        have ha : Mem w7 (w7.alloc (.cells #[.int .i64 0, .int .i64 0, .slice oa 0 ca, .slice ob 0 cb] 27)) := (Mem.refl w7).alloc _
        simp only [decR]
        go_wp2_with fail
        go_ret
        exact ⟨rfl, hm.trans (m1.trans ha)⟩)
end Go.Proofs.Ytfmngbhdbofnfaa.Look
