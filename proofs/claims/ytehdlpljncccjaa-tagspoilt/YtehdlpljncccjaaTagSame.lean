/-
  Layer 3: records that are the same; what the statements ask of a record.
-/
import Derived.Test.YtehdlpljncccjaaTagDecode
namespace Go.Proofs.Ytehdlpljncccjaa.Tag
open Go.RowKit Go.Proofs.Ytehdlpljncccjaa.Pack Go.Proofs.Ytehdlpljncccjaa.Crc

def recEq (k s : Int) (ks vs : List Int) (k' s' : Int) (ks' vs' : List Int) : Bool := decide (k = k') && decide (s = s') && decide (ks = ks') && decide (vs = vs')

set_option maxHeartbeats 1000000 in
set_option maxRecDepth 100000 in
theorem recSame (k s k' s' : Int) (vk vv vk' vv' : Value) (ks vs ks' vs' : List Int) (w : World) (hk : Ints .i64 w vk ks) (hv : Ints .i64 w vv vs) (hk' : Ints .i64 w vk' ks') (hv' : Ints .i64 w vv' vs') :
    Calls Try.prog 17 #[.agg #[.int .i64 k, .int .i64 s, vk, vv], .agg #[.int .i64 k', .int .i64 s', vk', vv']] w fun e w' => e = .returned (.bool (recEq k s ks vs k' s' ks' vs')) ∧ Mem w w' := by
  obtain ⟨oa, ca, rfl⟩ := hk.shape
  obtain ⟨ob, cb, rfl⟩ := hv.shape
  obtain ⟨oc, cc, rfl⟩ := hk'.shape
  obtain ⟨od, cd, rfl⟩ := hv'.shape
  have hm : Mem w ((w.alloc (.cells #[.int .i64 k, .int .i64 s, .slice oa ks.length ca, .slice ob vs.length cb] 24)).alloc (.cells #[.int .i64 k', .int .i64 s', .slice oc ks'.length cc, .slice od vs'.length cd] 24)) := ((Mem.refl w).alloc _).alloc _
  by_cases h1 : k = k'
  case neg =>
    have g1 : (k == k') = false := by rw [beq_eq_false_iff_ne]; exact h1
    have HV : Hid (recEq k s ks vs k' s' ks' vs' = false) := by show _ = _; unfold recEq; rw [decide_eq_false h1]; rfl
    clear h1
    go_enter Try.func17, Try.ntmps17
    go_wp2_with fail
    go_ret
    exact ⟨ret_b HV.out.symm, hm⟩
  subst h1
  by_cases h2 : s = s'
  case neg =>
    have g2 : (s == s') = false := by rw [beq_eq_false_iff_ne]; exact h2
    have HV : Hid (recEq k s ks vs k s' ks' vs' = false) := by show _ = _; unfold recEq; rw [decide_eq_false h2, Bool.and_false]; rfl
    clear h2
    go_enter Try.func17, Try.ntmps17
    go_wp2_with fail
    go_ret
    exact ⟨ret_b HV.out.symm, hm⟩
  subst h2
  have hR : recEq k s ks vs k s ks' vs' = (decide (ks = ks') && decide (vs = vs')) := by unfold recEq; rw [decide_eq_true rfl, decide_eq_true rfl]; rfl
  have HR := hide hR
  clear hR
  by_cases h3 : ks = ks'
  case neg =>
    have HD : Hid (decide (ks = ks') = false) := decide_eq_false h3
    clear h3
    go_enter Try.func17, Try.ntmps17
    go_wp2_with fail
    refine (refSame _ _ ks ks' _ (hk.mem hm) (hk'.mem hm)).mono ?_
    rintro e w1 ⟨rfl, n, rfl⟩
    rw [HD.out]
    go_wp2_with fail
    go_ret
    exact ⟨ret_b (by rw [HR.out, HD.out]; rfl), hm.drewN n⟩
  have HD : Hid (decide (ks = ks') = true) := decide_eq_true h3
  clear h3
  go_enter Try.func17, Try.ntmps17
  go_wp2_with fail
  refine (refSame _ _ ks ks' _ (hk.mem hm) (hk'.mem hm)).mono ?_
  rintro e w1 ⟨rfl, n, rfl⟩
  rw [HD.out]
  go_wp2_with fail
  refine (refSame _ _ vs vs' _ (hv.mem (hm.drewN n)) (hv'.mem (hm.drewN n))).mono ?_
  rintro e w1 ⟨rfl, n2, rfl⟩
  go_wp2_with fail
  go_ret
  exact ⟨ret_b (by rw [HR.out, HD.out]; rfl), hm.drewN _⟩

def bigB (ks vs : List Int) : Bool := decide (100 < ks.length) || decide (100 < vs.length)
set_option maxHeartbeats 1000000 in
set_option maxRecDepth 100000 in
theorem lawBig (k s : Int) (vk vv : Value) (ks vs : List Int) (w : World) (hk : Ints .i64 w vk ks) (hv : Ints .i64 w vv vs) :
    Calls Try.prog 12 #[.agg #[.int .i64 k, .int .i64 s, vk, vv]] w fun e w' => e = .returned (.bool (bigB ks vs)) ∧ Mem w w' := by
  obtain ⟨oa, ca, rfl⟩ := hk.shape
  obtain ⟨ob, cb, rfl⟩ := hv.shape
  have hm : Mem w (w.alloc (.cells #[.int .i64 k, .int .i64 s, .slice oa ks.length ca, .slice ob vs.length cb] 24)) := (Mem.refl w).alloc _
  by_cases h1 : 100 < ks.length
  · have h1' : (100 : Int) < (ks.length : Int) := by omega
    go_enter Try.func12, Try.ntmps12
    go_wp2_with fail
    go_ret
    exact ⟨ret_b (by unfold bigB; rw [decide_eq_true h1]; rfl), hm⟩
  · have h1' : (ks.length : Int) ≤ 100 := by omega
    go_enter Try.func12, Try.ntmps12
    go_wp2_with fail
    go_ret
    refine ⟨ret_b ?_, hm⟩
    unfold bigB
    rw [decide_eq_false h1, decide_eq_false (show ¬ (100 : Int) < (ks.length : Int) by omega), Bool.false_or, Bool.false_or, decide_eq_decide]
    constructor <;> intro h <;> omega

set_option maxHeartbeats 1000000 in
set_option maxRecDepth 100000 in
theorem lawSame (k s : Int) (vk vv : Value) (ks vs : List Int) (data : ByteArray) (w : World) (hk : Ints .i64 w vk ks) (hv : Ints .i64 w vv vs) :
    Calls Try.prog 13 #[.agg #[.int .i64 k, .int .i64 s, vk, vv], .string data] w fun e w' => e = .returned (.bool true) ∧ Mem w w' := by
  obtain ⟨oa, ca, rfl⟩ := hk.shape
  obtain ⟨ob, cb, rfl⟩ := hv.shape
  have hm : Mem w (w.alloc (.cells #[.int .i64 k, .int .i64 s, .slice oa ks.length ca, .slice ob vs.length cb] 24)) := (Mem.refl w).alloc _
  have hbox := Box.new w k s (.slice oa ks.length ca) (.slice ob vs.length cb) 24
  go_enter Try.func13, Try.ntmps13
  go_wp2_with fail
  refine (tagEncode k s _ _ ks vs data _ (hk.mem hm) (hv.mem hm)).mono ?_
  rintro e w1 ⟨rfl, m1⟩
  obtain ⟨str, en, hE⟩ : ∃ (str : ByteArray) (en : Int), encV (enc k s ks vs data.data.toList) = .tuple #[.string str, .int .i64 en] := by
    cases enc k s ks vs data.data.toList with
    | none => exact ⟨_, _, rfl⟩
    | some t => exact ⟨_, _, rfl⟩
  have HE := hide hE
  clear hE
  rw [HE.out]
  have hbox1 := hbox.mem m1
  have hm1 := hm.trans m1
  obtain ⟨b0, b1, b2, b3⟩ := id hbox1
  go_wp2_with fail
  refine (refEncode k s _ _ ks vs data _ (hk.mem hm1) (hv.mem hm1)).mono ?_
  rintro e w2 ⟨rfl, m2⟩
  rw [HE.out]
  have hbox2 := hbox1.mem m2
  have hm2 := hm1.trans m2
  clear b0 b1 b2 b3 hbox hbox1 m1 m2 hm hm1
  obtain ⟨b0, b1, b2, b3⟩ := id hbox2
  have hk2 := hk.mem hm2
  have hv2 := hv.mem hm2
  have q1 : (right k s ks vs == right k s ks vs) = true := by simp
  have q2 : (str.toList == str.toList) = true := by simp
  have q3 : (en == en) = true := by simp
  go_wp2_with fail
  have HB := hide hbox2
  have HK := hide hk2
  have HW := hide hv2
  clear hk2 hv2 hbox2
  go_region_held3 (fun w' => w'.cell? ⟨w.heap.size, 0, none⟩ = some (.int .i64 k) ∧ w'.cell? ⟨w.heap.size, 1, none⟩ = some (.int .i64 s) ∧ w'.cell? ⟨w.heap.size, 2, none⟩ = some (.slice oa ks.length ca) ∧ w'.cell? ⟨w.heap.size, 3, none⟩ = some (.slice ob vs.length cb))
    (first | exact HB.out.mem (Mem.drew (Mem.refl w2)) | exact HB.out.mem (Mem.trans (Mem.drew (Mem.refl w2)) n1.out) | exact HB.out.mem (Mem.trans (Mem.drew (Mem.refl w2)) (Mem.trans n1.out n2.out)) | go_keep)
    (first
      | (go_at_call 20; refine (tagRight k s _ _ ks vs _ (HK.out.mem (Mem.drew (Mem.refl w2))) (HW.out.mem (Mem.drew (Mem.refl w2)))).mono ?_; rintro e w3 ⟨rfl, n1⟩; replace n1 := hide n1)
      | (go_at_call 22; refine (refRight k s _ _ ks vs _ (HK.out.mem (Mem.trans (Mem.drew (Mem.refl w2)) n1.out)) (HW.out.mem (Mem.trans (Mem.drew (Mem.refl w2)) n1.out))).mono ?_; rintro e w4 ⟨rfl, n2⟩; replace n2 := hide n2))
  go_wp2_with fail
  go_ret
  exact ⟨rfl, hm2.trans (Mem.trans (Mem.drew (Mem.refl w2)) (n1.out.trans n2.out))⟩

/-! ### What any right program answers -/
def exTag : List UInt8 := [2, 1, 5, 1, 3, 0, 223, 158, 50, 33]
theorem ex_enc : enc 1 5 [3] [] [97, 98] = some exTag := by decide +kernel
theorem ex_back : decode exTag [97, 98] = some (1, 5, [3], []) := decode_enc ex_enc
theorem ex_data : decode exTag [97, 99] = none := decode_data (p := [97]) (q := []) (x := 98) (y := 99) ex_enc (by decide)
theorem ex_none : enc 0 0 [] [] [] = none := enc_no (by decide)
theorem ex_right : right 1 5 [3] [] = true := by decide

set_option maxHeartbeats 1000000 in
set_option maxRecDepth 100000 in
theorem awake (w : World) :
    Calls Try.prog 11 #[] w fun e w' => e = .returned (.bool true) ∧ Mem w w' := by
  have hl := Ints.lit .i64 w [3] 3 (by decide)
  have hm : Mem w ((w.alloc (.cells #[.int .i64 3] 3)).alloc (.cells #[.int .i64 1, .int .i64 5, .slice (some ⟨w.heap.size, 0, none⟩) 1 1, .slice none 0 0] 24)) := ((Mem.refl w).alloc _).alloc _
  have hk : Ints .i64 ((w.alloc (.cells #[.int .i64 3] 3)).alloc (.cells #[.int .i64 1, .int .i64 5, .slice (some ⟨w.heap.size, 0, none⟩) 1 1, .slice none 0 0] 24)) (.slice (some ⟨w.heap.size, 0, none⟩) 1 1) [3] := Ints.mem hl ((Mem.refl _).alloc _)
  have hsz : (w.alloc (.cells #[.int .i64 3] 3)).heap.size = w.heap.size + 1 := by simp
  have hbox : Box ((w.alloc (.cells #[.int .i64 3] 3)).alloc (.cells #[.int .i64 1, .int .i64 5, .slice (some ⟨w.heap.size, 0, none⟩) 1 1, .slice none 0 0] 24)) (w.heap.size + 1) 1 5 (.slice (some ⟨w.heap.size, 0, none⟩) 1 1) (.slice none 0 0) := by
    have := Box.new (w.alloc (.cells #[.int .i64 3] 3)) 1 5 (.slice (some ⟨w.heap.size, 0, none⟩) 1 1) (.slice none 0 0) 24
    rwa [hsz] at this
  clear hl hsz
  go_enter Try.func11, Try.ntmps11
  go_wp2_with fail
  generalize ((w.alloc (.cells #[.int .i64 3] 3)).alloc (.cells #[.int .i64 1, .int .i64 5, .slice (some ⟨w.heap.size, 0, none⟩) 1 1, .slice none 0 0] 24)) = W0 at *
  refine (tagEncode 1 5 _ _ [3] [] ⟨#[97, 98]⟩ _ hk (Ints.nil _ _ _ _)).mono ?_
  rintro e w1 ⟨rfl, m1⟩
  rw [show enc 1 5 [3] [] _ = _ from ex_enc]
  have e0 : encV (some exTag) = .tuple #[.string ⟨#[2, 1, 5, 1, 3, 0, 223, 158, 50, 33]⟩, .int .i64 0] := rfl
  rw [e0]
  clear e0
  go_wp2_with fail
  refine (tagDecode ⟨#[2, 1, 5, 1, 3, 0, 223, 158, 50, 33]⟩ ⟨#[97, 98]⟩ _ (by decide)).mono ?_
  rintro e w2 ⟨hd, m2⟩
  replace hd : DecOk (decode exTag [97, 98]) e w2 := hd
  rw [ex_back] at hd
  obtain ⟨vk, vv, rfl, ik, iv⟩ := hd
  obtain ⟨oa, ca, rfl⟩ := ik.shape
  obtain ⟨ob, cb, rfl⟩ := iv.shape
  replace ik : Ints .i64 w2 (.slice oa 1 ca) [3] := ik
  replace iv : Ints .i64 w2 (.slice ob 0 cb) [] := iv
  have hm2 := hm.trans (m1.trans m2)
  have hk2 := hk.mem (m1.trans m2)
  have hbox2 := hbox.mem (m1.trans m2)
  have hq := Box.new w2 1 5 (.slice oa 1 ca) (.slice ob 0 cb) 24
  have ha : Mem w2 (w2.alloc (.cells #[.int .i64 1, .int .i64 5, .slice oa 1 ca, .slice ob 0 cb] 24)) := (Mem.refl w2).alloc _
  clear hm m1 m2 hk hbox
  simp only [decR, decE]
  go_wp2_with fail
  have hm3 := hm2.trans ha
  have hk3 := hk2.mem ha
  have ik3 := ik.mem ha
  have iv3 := iv.mem ha
  have hbox3 := hbox2.mem ha
  clear hm2 hk2 ik iv hbox2 ha
  generalize hW3 : w2.alloc (.cells #[.int .i64 1, .int .i64 5, .slice oa 1 ca, .slice ob 0 cb] 24) = W3 at *
  generalize w2.heap.size = B2 at *
  clear hW3
  refine (tagDecode ⟨#[2, 1, 5, 1, 3, 0, 223, 158, 50, 33]⟩ ⟨#[97, 99]⟩ _ (by decide)).mono ?_
  rintro e w4 ⟨hd, m4⟩
  replace hd : DecOk (decode exTag [97, 99]) e w4 := hd
  rw [ex_data] at hd
  obtain ⟨vk', vv', rfl, ik', iv'⟩ := hd
  obtain ⟨oc, cc, rfl⟩ := ik'.shape
  obtain ⟨od, cd, rfl⟩ := iv'.shape
  clear ik' iv'
  simp only [decR, decE]
  have ha : Mem w4 (w4.alloc (.cells #[.int .i64 0, .int .i64 0, .slice oc 0 cc, .slice od 0 cd] 24)) := (Mem.refl w4).alloc _
  go_wp2_with fail
  have m5 := m4.trans ha
  clear m4 ha
  generalize hW5 : w4.alloc (.cells #[.int .i64 0, .int .i64 0, .slice oc 0 cc, .slice od 0 cd] 24) = W5 at *
  generalize w4.heap.size = B4 at *
  clear hW5
  refine (tagEncode 0 0 _ _ [] [] ⟨#[]⟩ _ (Ints.nil _ _ _ _) (Ints.nil _ _ _ _)).mono ?_
  rintro e w6 ⟨rfl, m6⟩
  rw [show enc 0 0 [] [] _ = _ from ex_none]
  simp only [encV]
  have m56 := m5.trans m6
  have hm6 := hm3.trans m56
  have hk6 := hk3.mem m56
  have ik6 := ik3.mem m56
  have iv6 := iv3.mem m56
  obtain ⟨b0, b1, b2, b3⟩ := hbox3.mem m56
  obtain ⟨d0, d1, d2, d3⟩ := hq.mem m56
  have hbox6 := hbox3.mem m56
  clear hm3 hk3 ik3 iv3 hbox3 hq m5 m6 m56
  have q6 : (((⟨#[2, 1, 5, 1, 3, 0, 223, 158, 50, 33]⟩ : ByteArray).extract 0 6).toList == [2, 1, 5, 1, 3, 0]) = true := by rw [toList_data]; rfl
  go_wp2_with fail
  refine (recSame 1 5 1 5 _ _ _ _ [3] [] [3] [] _ ik6 iv6 hk6 (Ints.nil _ _ _ _)).mono ?_
  rintro e w7 ⟨rfl, m7⟩
  rw [show recEq 1 5 [3] [] 1 5 [3] [] = true from by decide]
  obtain ⟨f0, f1, f2, f3⟩ := hbox6.mem m7
  clear b0 b1 b2 b3 d0 d1 d2 d3
  go_wp2_with fail
  refine (tagRight 1 5 _ _ [3] [] _ (hk6.mem m7) (Ints.nil _ _ _ _)).mono ?_
  rintro e w8 ⟨rfl, m8⟩
  rw [ex_right]
  go_wp2_with fail
  go_ret
  exact ⟨rfl, hm6.trans (m7.trans m8)⟩
end Go.Proofs.Ytehdlpljncccjaa.Tag
