/-
  The walk of TagSpoilt.
-/
import Derived.Test.YtehdlpljncccjaaTagLaws2
import Derived.Test.YtehdlpljncccjaaTagChange
namespace Go.Proofs.Ytehdlpljncccjaa.Tag
open Go.RowKit Go.Proofs.Ytehdlpljncccjaa.Pack Go.Proofs.Ytehdlpljncccjaa.Crc

theorem u8_wf {n : Int} (h : (Lit.int .u8 n).wf = true) : ∃ i : Nat, n = (i : Int) ∧ i ≤ 255 := by
  simp [Lit.wf, IntKind.min, IntKind.max, IntKind.signed, IntKind.bits] at h
  exact ⟨n.toNat, by omega, by omega⟩
theorem spoilt_tag {k s : Int} {ks vs : List Int} {data T : List UInt8} (h : enc k s ks vs data = some T) (h10 : 10 ≤ T.length) (i d : Nat) (h1 : 1 ≤ d) (h2 : d ≤ 255) : decode (chg (i % T.length) d T) data = none := by
  obtain ⟨p, x, y, q, e1, e2, hne⟩ := chg_split (n := i % T.length) (d := d) (l := T) (Nat.mod_lt _ (by omega)) h1 h2
  rw [e2]
  rw [e1] at h
  exact decode_changed h hne
theorem spoilt_data {k s : Int} {ks vs : List Int} {data T : List UInt8} (h : enc k s ks vs data = some T) (h0 : 0 < data.length) (i d : Nat) (h1 : 1 ≤ d) (h2 : d ≤ 255) : decode T (chg (i % data.length) d data) = none := by
  obtain ⟨p, x, y, q, e1, e2, hne⟩ := chg_split (n := i % data.length) (d := d) (l := data) (Nat.mod_lt _ h0) h1 h2
  rw [e2]
  rw [e1] at h
  exact decode_data h hne
theorem mod_nn (i n : Nat) : (i : Int) % (n : Int) = ((i % n : Nat) : Int) := by simp
theorem mod_255 (j : Nat) : 1 + (j : Int) % 255 = ((1 + j % 255 : Nat) : Int) := by simp
theorem toL (l : List UInt8) : (⟨l.toArray⟩ : ByteArray).data.toList = l := by simp
theorem ext_take (l : List UInt8) (k : Nat) : ((⟨l.toArray⟩ : ByteArray).extract 0 k) = ⟨(l.take k).toArray⟩ := by
  apply ByteArray.ext
  rw [ByteArray.data_extract]
  apply Array.ext'
  rw [Array.toList_extract, List.extract_eq_take_drop]
  simp

set_option maxHeartbeats 1000000 in
set_option maxRecDepth 100000 in
theorem tagSpoilt_walk (a0 : Option Addr) (len0 cap0 : Nat) (z0 : List Int) (a1 : ByteArray) (a2 a3 : Int) (w : World) (w0 : IsRow .u16 w a0 len0 cap0 z0) (_w1 : a1.size ≤ maxLen) (w2 : (Lit.int .u8 a2).wf = true) (w3 : (Lit.int .u8 a3).wf = true) :
    Calls Try.prog 7 #[.slice a0 len0 cap0, .string a1, .int .u8 a2, .int .u8 a3] w fun e w' => e = .returned (.bool true) ∧ Mem w w' := by
  obtain ⟨hz, hw⟩ := Ints.of_row w0
  have hb : ∀ x ∈ z0.take len0, 0 ≤ x ∧ x ≤ 65535 := fun x hx => u16_wf (hw x hx)
  clear w0 hw
  generalize z0.take len0 = z at *
  obtain ⟨i, rfl, hi⟩ := u8_wf w2
  obtain ⟨j, rfl, hj⟩ := u8_wf w3
  clear w2 w3
  obtain ⟨oz, cz, hoz⟩ := hz.shape
  rw [hoz] at hz ⊢
  clear hoz
  go_enter Try.func7, Try.ntmps7
  go_wp2_with fail
  refine (awake _).mono ?_
  rintro e w1 ⟨rfl, m1⟩
  by_cases hd : 16 < a1.size
  · have hd' : (16 : Int) < (a1.size : Int) := by omega
    have hcs := cut_size a1 16
    go_wp2_with fail
    generalize a1.extract 0 16 = D at *
    clear hd hd'
    refine (lawMade _ z _ (hz.mem m1) hb).mono ?_
    rintro e w2 ⟨⟨vk, vv, rfl, hT⟩, m2⟩
    obtain ⟨ik, iv⟩ := hT.ints
    obtain ⟨ok, ck, rfl⟩ := owns_shape hT.1
    obtain ⟨ov, cv, rfl⟩ := owns_shape hT.2.1
    clear hT
    obtain ⟨T, he, t10, t40⟩ := made_enc z D hcs
    have HE := hide he
    clear he
    have hm2 := m1.trans m2
    obtain ⟨Dl, rfl⟩ : ∃ Dl : List UInt8, D = ⟨Dl.toArray⟩ := ⟨D.data.toList, by simp⟩
    replace HE : Hid (enc (mkK z) (mkS z) (mkKeys z) (mkVals z) Dl = some T) := HE.out
    have hDs : Dl.length ≤ 16 := by rw [size_mk] at hcs; exact hcs
    clear hcs
    have H1 := hide (spoilt_tag HE.out t10 i (1 + j % 255) (by omega) (by omega))
    obtain ⟨T6, hT6⟩ : ∃ T6, T6 = T ++ [(0 : UInt8)] := ⟨_, rfl⟩
    have HC6 : Hid ((⟨T.toArray⟩ ++ ⟨#[0]⟩ : ByteArray) = ⟨T6.toArray⟩) := by rw [hT6]; exact cat_two T [0]
    have H2 : Hid (decode T6 Dl = none) := by rw [hT6]; exact decode_more HE.out 0
    have hT6l : T6.length ≤ 41 := by rw [hT6, List.length_append]; show T.length + 1 ≤ _; omega
    clear hT6
    obtain ⟨T7, hT7⟩ : ∃ T7, T7 = T.take (T.length - 1) := ⟨_, rfl⟩
    have HC7 : Hid ((⟨T.toArray⟩ : ByteArray).extract 0 (T.length - 1) = ⟨T7.toArray⟩) := by rw [hT7]; exact ext_take T _
    have H3 : Hid (decode T7 Dl = none) := by rw [hT7]; exact decode_less HE.out
    have hT7l : T7.length ≤ 40 := by rw [hT7, List.length_take]; omega
    clear hT7
    have hT0 : (T == []) = false := by rw [beq_eq_false_iff_ne]; intro h; rw [h] at t10; simp at t10
    have t10' : (10 : Int) ≤ (T.length : Int) := by omega
    have t40' : (T.length : Int) ≤ 40 := by omega
    have hTl : ¬ (T.length : Int) = 0 := by omega
    go_wp2_with fail
    refine (tagEncode (mkK z) (mkS z) _ _ (mkKeys z) (mkVals z) ⟨Dl.toArray⟩ _ ik iv).mono ?_
    rintro e w3 ⟨rfl, m3⟩
    rw [show enc (mkK z) (mkS z) (mkKeys z) (mkVals z) (⟨Dl.toArray⟩ : ByteArray).data.toList = some T from HE.out]
    simp only [encV]
    have hm3 := hm2.trans m3
    go_wp2_with fail
    rw [mod_nn i T.length, mod_255 j]
    have hd1 : 1 ≤ 1 + j % 255 := by omega
    have hd2 : 1 + j % 255 ≤ 255 := by omega
    generalize 1 + j % 255 = d at *
    refine (lawChange T (i % T.length) d _ (by omega) hd1 hd2).mono ?_
    rintro e w4 ⟨rfl, m4⟩
    have hcl := chg_length (i % T.length) d T
    go_wp2_with fail
    refine (tagDecode ⟨(chg (i % T.length) d T).toArray⟩ ⟨Dl.toArray⟩ _ (by rw [size_mk, chg_length]; unfold maxLen; omega)).mono ?_
    rintro e w5 ⟨hdk, m5⟩
    rw [toL, toL, H1.out] at hdk
    obtain ⟨vc5, vd5, rfl, ic, id'⟩ := hdk
    obtain ⟨oc5, cc5, rfl⟩ := ic.shape
    obtain ⟨od5, cd5, rfl⟩ := id'.shape
    clear ic id'
    simp only [decR, decE]
    have hm5 := (hm3.trans m4).trans (m5.trans ((Mem.refl w5).alloc (.cells #[.int .i64 0, .int .i64 0, .slice oc5 0 cc5, .slice od5 0 cd5] 24)))
    go_wp2_with fail
    rw [HC6.out]
    refine (tagDecode ⟨T6.toArray⟩ ⟨Dl.toArray⟩ _ (by rw [size_mk]; unfold maxLen; omega)).mono ?_
    rintro e w6 ⟨hdk, m6⟩
    rw [toL, toL, H2.out] at hdk
    obtain ⟨vc6, vd6, rfl, ic, id'⟩ := hdk
    obtain ⟨oc6, cc6, rfl⟩ := ic.shape
    obtain ⟨od6, cd6, rfl⟩ := id'.shape
    clear ic id'
    simp only [decR, decE]
    have hm6 := hm5.trans (m6.trans ((Mem.refl w6).alloc (.cells #[.int .i64 0, .int .i64 0, .slice oc6 0 cc6, .slice od6 0 cd6] 24)))
    go_wp2_with fail
    rw [HC7.out]
    refine (tagDecode ⟨T7.toArray⟩ ⟨Dl.toArray⟩ _ (by rw [size_mk]; unfold maxLen; omega)).mono ?_
    rintro e w7 ⟨hdk, m7⟩
    rw [toL, toL, H3.out] at hdk
    obtain ⟨vc7, vd7, rfl, ic, id'⟩ := hdk
    obtain ⟨oc7, cc7, rfl⟩ := ic.shape
    obtain ⟨od7, cd7, rfl⟩ := id'.shape
    clear ic id'
    simp only [decR, decE]
    have hm7 := hm6.trans (m7.trans ((Mem.refl w7).alloc (.cells #[.int .i64 0, .int .i64 0, .slice oc7 0 cc7, .slice od7 0 cd7] 24)))
    by_cases hD : Dl = []
    · have hD0 : (Dl == []) = true := by rw [hD]; rfl
      clear hD
      go_wp2_with fail
      go_ret
      exact ⟨rfl, hm7⟩
    · have hD0 : (Dl == []) = false := by rw [beq_eq_false_iff_ne]; exact hD
      have hDl : 0 < Dl.length := List.length_pos_iff.2 hD
      have hDn : ¬ (Dl.length : Int) = 0 := by omega
      obtain ⟨C, hC⟩ : ∃ C, C = chg (i % Dl.length) d Dl := ⟨_, rfl⟩
      have H4 : Hid (decode T C = none) := by rw [hC]; exact spoilt_data HE.out hDl i d hd1 hd2
      have HCC := hide hC
      clear hD hC
      go_wp2_with fail
      rw [mod_nn i Dl.length]
      refine (lawChange Dl (i % Dl.length) d _ (by omega) hd1 hd2).mono ?_
      rintro e w8 ⟨rfl, m8⟩
      rw [← HCC.out]
      go_wp2_with fail
      refine (tagDecode ⟨T.toArray⟩ ⟨C.toArray⟩ _ (by rw [size_mk]; unfold maxLen; omega)).mono ?_
      rintro e w9 ⟨hdk, m9⟩
      rw [toL, toL, H4.out] at hdk
      obtain ⟨vc9, vd9, rfl, ic, id'⟩ := hdk
      obtain ⟨oc9, cc9, rfl⟩ := ic.shape
      obtain ⟨od9, cd9, rfl⟩ := id'.shape
      clear ic id'
      simp only [decR, decE]
      have hm9 := (hm7.trans m8).trans (m9.trans ((Mem.refl w9).alloc (.cells #[.int .i64 0, .int .i64 0, .slice oc9 0 cc9, .slice od9 0 cd9] 24)))
      go_wp2_with fail
      go_ret
      exact ⟨rfl, hm9⟩
  · have hd' : (a1.size : Int) ≤ 16 := by omega
    have hcs : a1.size ≤ 16 := by omega
    go_wp2_with fail
    generalize a1 = D at *
    clear hd hd'
    refine (lawMade _ z _ (hz.mem m1) hb).mono ?_
    rintro e w2 ⟨⟨vk, vv, rfl, hT⟩, m2⟩
    obtain ⟨ik, iv⟩ := hT.ints
    obtain ⟨ok, ck, rfl⟩ := owns_shape hT.1
    obtain ⟨ov, cv, rfl⟩ := owns_shape hT.2.1
    clear hT
    obtain ⟨T, he, t10, t40⟩ := made_enc z D hcs
    have HE := hide he
    clear he
    have hm2 := m1.trans m2
    obtain ⟨Dl, rfl⟩ : ∃ Dl : List UInt8, D = ⟨Dl.toArray⟩ := ⟨D.data.toList, by simp⟩
    replace HE : Hid (enc (mkK z) (mkS z) (mkKeys z) (mkVals z) Dl = some T) := HE.out
    have hDs : Dl.length ≤ 16 := by rw [size_mk] at hcs; exact hcs
    clear hcs
    have H1 := hide (spoilt_tag HE.out t10 i (1 + j % 255) (by omega) (by omega))
    obtain ⟨T6, hT6⟩ : ∃ T6, T6 = T ++ [(0 : UInt8)] := ⟨_, rfl⟩
    have HC6 : Hid ((⟨T.toArray⟩ ++ ⟨#[0]⟩ : ByteArray) = ⟨T6.toArray⟩) := by rw [hT6]; exact cat_two T [0]
    have H2 : Hid (decode T6 Dl = none) := by rw [hT6]; exact decode_more HE.out 0
    have hT6l : T6.length ≤ 41 := by rw [hT6, List.length_append]; show T.length + 1 ≤ _; omega
    clear hT6
    obtain ⟨T7, hT7⟩ : ∃ T7, T7 = T.take (T.length - 1) := ⟨_, rfl⟩
    have HC7 : Hid ((⟨T.toArray⟩ : ByteArray).extract 0 (T.length - 1) = ⟨T7.toArray⟩) := by rw [hT7]; exact ext_take T _
    have H3 : Hid (decode T7 Dl = none) := by rw [hT7]; exact decode_less HE.out
    have hT7l : T7.length ≤ 40 := by rw [hT7, List.length_take]; omega
    clear hT7
    have hT0 : (T == []) = false := by rw [beq_eq_false_iff_ne]; intro h; rw [h] at t10; simp at t10
    have t10' : (10 : Int) ≤ (T.length : Int) := by omega
    have t40' : (T.length : Int) ≤ 40 := by omega
    have hTl : ¬ (T.length : Int) = 0 := by omega
    go_wp2_with fail
    refine (tagEncode (mkK z) (mkS z) _ _ (mkKeys z) (mkVals z) ⟨Dl.toArray⟩ _ ik iv).mono ?_
    rintro e w3 ⟨rfl, m3⟩
    rw [show enc (mkK z) (mkS z) (mkKeys z) (mkVals z) (⟨Dl.toArray⟩ : ByteArray).data.toList = some T from HE.out]
    simp only [encV]
    have hm3 := hm2.trans m3
    go_wp2_with fail
    rw [mod_nn i T.length, mod_255 j]
    have hd1 : 1 ≤ 1 + j % 255 := by omega
    have hd2 : 1 + j % 255 ≤ 255 := by omega
    generalize 1 + j % 255 = d at *
    refine (lawChange T (i % T.length) d _ (by omega) hd1 hd2).mono ?_
    rintro e w4 ⟨rfl, m4⟩
    have hcl := chg_length (i % T.length) d T
    go_wp2_with fail
    refine (tagDecode ⟨(chg (i % T.length) d T).toArray⟩ ⟨Dl.toArray⟩ _ (by rw [size_mk, chg_length]; unfold maxLen; omega)).mono ?_
    rintro e w5 ⟨hdk, m5⟩
    rw [toL, toL, H1.out] at hdk
    obtain ⟨vc5, vd5, rfl, ic, id'⟩ := hdk
    obtain ⟨oc5, cc5, rfl⟩ := ic.shape
    obtain ⟨od5, cd5, rfl⟩ := id'.shape
    clear ic id'
    simp only [decR, decE]
    have hm5 := (hm3.trans m4).trans (m5.trans ((Mem.refl w5).alloc (.cells #[.int .i64 0, .int .i64 0, .slice oc5 0 cc5, .slice od5 0 cd5] 24)))
    go_wp2_with fail
    rw [HC6.out]
    refine (tagDecode ⟨T6.toArray⟩ ⟨Dl.toArray⟩ _ (by rw [size_mk]; unfold maxLen; omega)).mono ?_
    rintro e w6 ⟨hdk, m6⟩
    rw [toL, toL, H2.out] at hdk
    obtain ⟨vc6, vd6, rfl, ic, id'⟩ := hdk
    obtain ⟨oc6, cc6, rfl⟩ := ic.shape
    obtain ⟨od6, cd6, rfl⟩ := id'.shape
    clear ic id'
    simp only [decR, decE]
    have hm6 := hm5.trans (m6.trans ((Mem.refl w6).alloc (.cells #[.int .i64 0, .int .i64 0, .slice oc6 0 cc6, .slice od6 0 cd6] 24)))
    go_wp2_with fail
    rw [HC7.out]
    refine (tagDecode ⟨T7.toArray⟩ ⟨Dl.toArray⟩ _ (by rw [size_mk]; unfold maxLen; omega)).mono ?_
    rintro e w7 ⟨hdk, m7⟩
    rw [toL, toL, H3.out] at hdk
    obtain ⟨vc7, vd7, rfl, ic, id'⟩ := hdk
    obtain ⟨oc7, cc7, rfl⟩ := ic.shape
    obtain ⟨od7, cd7, rfl⟩ := id'.shape
    clear ic id'
    simp only [decR, decE]
    have hm7 := hm6.trans (m7.trans ((Mem.refl w7).alloc (.cells #[.int .i64 0, .int .i64 0, .slice oc7 0 cc7, .slice od7 0 cd7] 24)))
    by_cases hD : Dl = []
    · have hD0 : (Dl == []) = true := by rw [hD]; rfl
      clear hD
      go_wp2_with fail
      go_ret
      exact ⟨rfl, hm7⟩
    · have hD0 : (Dl == []) = false := by rw [beq_eq_false_iff_ne]; exact hD
      have hDl : 0 < Dl.length := List.length_pos_iff.2 hD
      have hDn : ¬ (Dl.length : Int) = 0 := by omega
      obtain ⟨C, hC⟩ : ∃ C, C = chg (i % Dl.length) d Dl := ⟨_, rfl⟩
      have H4 : Hid (decode T C = none) := by rw [hC]; exact spoilt_data HE.out hDl i d hd1 hd2
      have HCC := hide hC
      clear hD hC
      go_wp2_with fail
      rw [mod_nn i Dl.length]
      refine (lawChange Dl (i % Dl.length) d _ (by omega) hd1 hd2).mono ?_
      rintro e w8 ⟨rfl, m8⟩
      rw [← HCC.out]
      go_wp2_with fail
      refine (tagDecode ⟨T.toArray⟩ ⟨C.toArray⟩ _ (by rw [size_mk]; unfold maxLen; omega)).mono ?_
      rintro e w9 ⟨hdk, m9⟩
      rw [toL, toL, H4.out] at hdk
      obtain ⟨vc9, vd9, rfl, ic, id'⟩ := hdk
      obtain ⟨oc9, cc9, rfl⟩ := ic.shape
      obtain ⟨od9, cd9, rfl⟩ := id'.shape
      clear ic id'
      simp only [decR, decE]
      have hm9 := (hm7.trans m8).trans (m9.trans ((Mem.refl w9).alloc (.cells #[.int .i64 0, .int .i64 0, .slice oc9 0 cc9, .slice od9 0 cd9] 24)))
      go_wp2_with fail
      go_ret
      exact ⟨rfl, hm9⟩
end Go.Proofs.Ytehdlpljncccjaa.Tag
