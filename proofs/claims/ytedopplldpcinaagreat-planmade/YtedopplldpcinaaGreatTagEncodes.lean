/-
  Layer 3: what records are encoded as (the program's and the document's).
-/
import Derived.Test.YtedopplldpcinaaGreatLowWalks
import Derived.Test.YtedopplldpcinaaGreatMemLow
import Derived.Deep.RegionHeld3
namespace Go.Proofs.YtedopplldpcinaaGreat.Tag
open Go.RowKit Go.Proofs.YtedopplldpcinaaGreat.Pack Go.Proofs.YtedopplldpcinaaGreat.Crc

/-- a list with d more in each place -/
def shift (d : Int) (l : List Int) : List Int := l.map (· + d)
theorem shift_length (d : Int) (l : List Int) : (shift d l).length = l.length := by simp [shift]
theorem shift_snoc (d : Int) (l : List Int) (k : Nat) (h : k < l.length) : (shift d l).take k ++ [l.getD k 0 + d] = (shift d l).take (k + 1) := by
  have hk : k < (shift d l).length := by rw [shift_length]; exact h
  rw [List.take_succ_eq_append_getElem hk]
  simp [shift, h]
theorem shift_up (l : List Int) : shift 1 l = up l := rfl
theorem shift_down (l : List Int) : shift (-1) l = down l := by
  unfold shift down
  exact List.map_congr_left fun z _ => by omega
theorem getD_mem {l : List Int} {k : Nat} (h : k < l.length) : l.getD k 0 ∈ l := by
  have : l.getD k 0 = l[k] := by simp [h]
  rw [this]; exact List.getElem_mem h

theorem okAll_head {k s : Int} {ks vs : List Int} (h : right k s ks vs = true) : okAll [k, s] := by
  obtain ⟨hs, _, hk, _⟩ := right_parts h
  intro z hz
  rcases List.mem_cons.1 hz with rfl | hz
  · omega
  · have : z = s := by simpa using hz
    omega
theorem okAll_keys {k s : Int} {ks vs : List Int} (h : right k s ks vs = true) : okAll ks := by
  obtain ⟨_, ⟨_, _, hk⟩, _⟩ := right_parts h
  intro z hz
  have := hk z hz
  omega
theorem okAll_up {k s : Int} {ks vs : List Int} (h : right k s ks vs = true) : okAll (up vs) := by
  obtain ⟨_, _, _, _, hv⟩ := right_parts h
  exact up_mem hv
theorem packI_short (l : List Int) (h : l.length ≤ 8) : (packI l).length ≤ 54 := by
  have := packI_len l (by unfold maxN; omega)
  omega
theorem body_short {k s : Int} {ks vs : List Int} (h : right k s ks vs = true) : (body k s ks vs).length ≤ 162 := by
  obtain ⟨_, ⟨_, h8, _⟩, _, hv8, _⟩ := right_parts h
  unfold body
  have g1 := packI_short [k, s] (by simp)
  have g2 := packI_short ks h8
  have g3 := packI_short (up vs) (by rw [up_length]; exact hv8)
  simp only [List.length_append]
  omega

/-- a record in a block of its own -/
def Box (w : World) (b : Nat) (k s : Int) (vk vv : Value) : Prop :=
  w.cell? ⟨b, 0, none⟩ = some (.int .i64 k) ∧ w.cell? ⟨b, 1, none⟩ = some (.int .i64 s) ∧ w.cell? ⟨b, 2, none⟩ = some vk ∧ w.cell? ⟨b, 3, none⟩ = some vv
theorem Box.mem {w w' : World} {b : Nat} {k s : Int} {vk vv : Value} (h : Box w b k s vk vv) (m : Mem w w') : Box w' b k s vk vv := by
  obtain ⟨h0, h1, h2, h3⟩ := h
  have hb : b < w.heap.size := World.block_lt_of_cell? w _ h0
  refine ⟨?_, ?_, ?_, ?_⟩
  · rw [Below.cell m (p := ⟨b, 0, none⟩) hb]; exact h0
  · rw [Below.cell m (p := ⟨b, 1, none⟩) hb]; exact h1
  · rw [Below.cell m (p := ⟨b, 2, none⟩) hb]; exact h2
  · rw [Below.cell m (p := ⟨b, 3, none⟩) hb]; exact h3
theorem Box.below {w w' : World} {B b : Nat} {k s : Int} {vk vv : Value} (h : Box w b k s vk vv) (m : Below B w w') (hb : b < B) : Box w' b k s vk vv := by
  obtain ⟨h0, h1, h2, h3⟩ := h
  refine ⟨?_, ?_, ?_, ?_⟩
  · rw [Below.cell m (p := ⟨b, 0, none⟩) hb]; exact h0
  · rw [Below.cell m (p := ⟨b, 1, none⟩) hb]; exact h1
  · rw [Below.cell m (p := ⟨b, 2, none⟩) hb]; exact h2
  · rw [Below.cell m (p := ⟨b, 3, none⟩) hb]; exact h3
theorem Ints.below {k : IntKind} {w w' : World} {B b off n cap : Nat} {zs : List Int} (h : Ints k w (.slice (some ⟨b, off, none⟩) n cap) zs) (m : Below B w w') (hb : b < B) : Ints k w' (.slice (some ⟨b, off, none⟩) n cap) zs := by
  refine ⟨h.1, ?_⟩
  rcases h.2 with h | ⟨b', off', cap', hv, h0, hc⟩
  · exact .inl h
  · injection hv with ha hn hcap
    injection ha with ha
    injection ha with e1 e2 e3
    subst e1
    refine .inr ⟨b, off', cap', by rw [e2, hn, hcap], h0, fun j hj => ?_⟩
    rw [Below.cell m (p := ⟨b, off' + j, none⟩) hb]
    exact hc j hj
theorem Box.new (w : World) (k s : Int) (vk vv : Value) (t : TypeId) : Box (w.alloc (.cells #[.int .i64 k, .int .i64 s, vk, vv] t)) w.heap.size k s vk vv := by
  refine ⟨?_, ?_, ?_, ?_⟩ <;> rw [World.cell?_alloc_mark] <;> rfl

set_option maxHeartbeats 1000000 in
set_option maxRecDepth 100000 in
theorem refBody (k s : Int) (vk vv : Value) (ks vs : List Int) (w : World) (hk : Ints .i64 w vk ks) (hv : Ints .i64 w vv vs) (hr : right k s ks vs = true) :
    Calls Tryz.prog 77 #[.agg #[.int .i64 k, .int .i64 s, vk, vv]] w fun e w' => e = .returned (.string ⟨(body k s ks vs).toArray⟩) ∧ Mem w w' := by
  obtain ⟨oa, ca, rfl⟩ := hk.shape
  obtain ⟨ob, cb, rfl⟩ := hv.shape
  obtain ⟨_, ⟨_, hk8, _⟩, _, hv8, hvb⟩ := right_parts hr
  have HVB := hide hvb
  clear hvb
  have HR := hide hr
  clear hr
  have hm : Mem w (w.alloc (.cells #[.int .i64 k, .int .i64 s, .slice oa ks.length ca, .slice ob vs.length cb] 50)) := (Mem.refl w).alloc _
  have hbox := Box.new w k s (.slice oa ks.length ca) (.slice ob vs.length cb) 50
  have hm1 := (Mem.refl (w.alloc (.cells #[.int .i64 k, .int .i64 s, .slice oa ks.length ca, .slice ob vs.length cb] 50))).alloc (.cells #[.int .i64 k, .int .i64 s] 3)
  have hlit := Ints.lit .i64 (w.alloc (.cells #[.int .i64 k, .int .i64 s, .slice oa ks.length ca, .slice ob vs.length cb] 50)) [k, s] 3 (by simp [maxLen])
  go_enter Tryz.func77, Tryz.ntmps77
  go_wp2_with fail
  go_loopw [4, 5] (fun out i wr => ∃ j : Nat, j ≤ vs.length ∧ i = .int .i64 j ∧ wr.ownsRow (w.heap.size + 2) 3 1 out j (icells ((shift 1 vs).take j)) ∧ Mem w wr ∧ Box wr w.heap.size k s (.slice oa ks.length ca) (.slice ob vs.length cb) ∧ Ints .i64 wr (.slice (some ⟨w.heap.size + 1, 0, none⟩) 2 2) [k, s] ∧ w.heap.size + 2 ≤ wr.heap.size) (fun _ i _ => vs.length - (intOf i).toNat)
  case atStart =>
    exact ⟨0, Nat.zero_le _, rfl, ⟨rfl, .inl ⟨rfl, rfl⟩⟩, hm.trans hm1, hbox.mem hm1, by simpa using hlit, by simp⟩
  case round =>
    clear hm hbox hm1 hlit
    obtain ⟨j, hj, rfl, hown, hm, hbox, hhead, hsz⟩ := hrel
    obtain ⟨b0, b1, b2, b3⟩ := id hbox
    by_cases hlt : j < vs.length
    · obtain ⟨b, off, rfl, hc⟩ := (hv.mem hm).at (by omega)
      have c1 := hc j hlt
      have hbz := HVB.out _ (getD_mem hlt)
      have HS := hide (shift_snoc 1 vs j hlt)
      clear hc HVB
      generalize vs.getD j 0 = z at *
      generalize hL : (shift 1 vs).take j = L at *
      clear hL
      obtain ⟨hb1, hb2⟩ := hbz
      go_wp2_with (first | (at_builtin; refine pushI rfl _ _ rfl (w.heap.size + 2) _ L j rfl hown hsz (z + 1) rfl (by omega) ?_) | fail)
      intro v' w' h1 h2
      rw [HS.out] at h1
      have hbox' := hbox.below h2 (by omega)
      have hhead' := Ints.below hhead h2 (by omega)
      have hsz' : w.heap.size + 2 ≤ w'.heap.size := Nat.le_trans hsz h2.size
      have hm' : Mem w w' := Below.trans hm (Below.mono h2 (by omega))
      clear hown c1 b0 b1 b2 b3 hhead hbox
      go_wp2_with fail
      go_roundw
      case rel => exact ⟨j + 1, by omega, by go_num, h1, hm', hbox', hhead', hsz'⟩
      case measure => simp [intOf]; omega
    · have hje : j = vs.length := by omega
      subst hje
      rw [List.take_of_length_le (by rw [shift_length]; exact Nat.le_refl _)] at hown
      have hout := Ints.of_owns hown
      obtain ⟨oc, cc, rfl⟩ := hout.shape
      rw [shift_up] at hout
      clear hown
      have E1 : Hid (packV [k, s] = _) := packV_yes (okAll_head HR.out)
      have E2 : Hid (packV ks = _) := packV_yes (okAll_keys HR.out)
      have E3 : Hid (packV (up vs) = _) := packV_yes (okAll_up HR.out)
      go_wp2_with fail
      refine (refPack _ [k, s] _ hhead (by simp)).mono ?_
      rintro e w1 ⟨rfl, hm1⟩
      rw [E1.out]
      obtain ⟨d0, d1, d2, d3⟩ := hbox.mem hm1
      clear b0 b1 b2 b3
      go_wp2_with fail
      refine (refPack _ ks _ (hk.mem (hm.trans hm1)) (by omega)).mono ?_
      rintro e w2 ⟨rfl, hm2⟩
      rw [E2.out]
      clear d0 d1 d2 d3
      go_wp2_with fail
      refine (refPack _ (up vs) _ (hout.mem (hm1.trans hm2)) (by rw [up_length]; omega)).mono ?_
      rintro e w3 ⟨rfl, hm3⟩
      rw [E3.out]
      have g1 := packI_short [k, s] (by simp)
      have g2 := packI_short ks hk8
      have g3 := packI_short (up vs) (by rw [up_length]; exact hv8)
      go_wp2_with fail
      go_ret
      refine ⟨ret_str ?_, hm.trans (hm1.trans (hm2.trans hm3))⟩
      rw [cat_two, cat_two]; rfl

theorem cat_data (l : List UInt8) (d : ByteArray) : ((⟨l.toArray⟩ : ByteArray) ++ d).data.toList = l ++ d.data.toList := by simp
theorem cat_size (l : List UInt8) (d : ByteArray) : ((⟨l.toArray⟩ : ByteArray) ++ d).size = l.length + d.size := by
  rw [ByteArray.size_append, size_mk]
theorem tup_eq {a b c d : Value} (h : a = c) (h' : b = d) : Value.tuple #[a, b] = .tuple #[c, d] := by rw [h, h']
/-- what Encode answers -/
def encV : Option (List UInt8) → Value
  | none => .tuple #[.string ⟨#[]⟩, .int .i64 1]
  | some l => .tuple #[.string ⟨l.toArray⟩, .int .i64 0]

set_option maxHeartbeats 1000000 in
set_option maxRecDepth 100000 in
theorem refEncode (k s : Int) (vk vv : Value) (ks vs : List Int) (data : ByteArray) (w : World) (hk : Ints .i64 w vk ks) (hv : Ints .i64 w vv vs) :
    Calls Tryz.prog 57 #[.agg #[.int .i64 k, .int .i64 s, vk, vv], .string data] w fun e w' => e = .returned (encV (enc k s ks vs data.data.toList)) ∧ Mem w w' := by
  obtain ⟨oa, ca, rfl⟩ := hk.shape
  obtain ⟨ob, cb, rfl⟩ := hv.shape
  have hm : Mem w (w.alloc (.cells #[.int .i64 k, .int .i64 s, .slice oa ks.length ca, .slice ob vs.length cb] 50)) := (Mem.refl w).alloc _
  have hbox := Box.new w k s (.slice oa ks.length ca) (.slice ob vs.length cb) 50
  have hdl : data.data.toList.length = data.size := by simp
  cases hr : right k s ks vs with
  | false =>
    have HR := hide hr
    clear hr
    go_enter Tryz.func57, Tryz.ntmps57
    go_wp2_with fail
    refine (refRight k s _ _ ks vs _ (hk.mem hm) (hv.mem hm)).mono ?_
    rintro e w1 ⟨rfl, hm1⟩
    rw [HR.out]
    go_wp2_with fail
    go_ret2
    refine ⟨ret_eq ?_, hm.trans hm1⟩
    rw [enc_no HR.out]; rfl
  | true =>
    have HR := hide hr
    clear hr
    by_cases hd16 : 16 < data.size
    · have hd' : (16 : Int) < (data.size : Int) := by omega
      go_enter Tryz.func57, Tryz.ntmps57
      go_wp2_with fail
      refine (refRight k s _ _ ks vs _ (hk.mem hm) (hv.mem hm)).mono ?_
      rintro e w1 ⟨rfl, hm1⟩
      rw [HR.out]
      go_wp2_with fail
      go_ret2
      refine ⟨ret_eq ?_, hm.trans hm1⟩
      rw [enc_long (by omega)]; rfl
    · have hd' : (data.size : Int) ≤ 16 := by omega
      have HE : Hid (enc k s ks vs data.data.toList = _) := enc_yes HR.out (by omega)
      have hbs := body_short HR.out
      go_enter Tryz.func57, Tryz.ntmps57
      go_wp2_with fail
      refine (refRight k s _ _ ks vs _ (hk.mem hm) (hv.mem hm)).mono ?_
      rintro e w1 ⟨rfl, hm1⟩
      rw [HR.out]
      obtain ⟨b0, b1, b2, b3⟩ := hbox.mem hm1
      have hm2 := hm.trans hm1
      go_wp2_with fail
      refine (refBody k s _ _ ks vs _ (hk.mem hm2) (hv.mem hm2) HR.out).mono ?_
      rintro e w2 ⟨rfl, hm3⟩
      have hm4 := hm2.trans hm3
      clear b0 b1 b2 b3 hbox hm1 hm3
      go_wp2_with fail
      refine (refSum _ _ ?_).mono ?_
      · rw [cat_size]; unfold maxLen; omega
      rintro e w3 ⟨rfl, rfl⟩
      rw [cat_data]
      have hsl := Crc.sum_lt (body k s ks vs ++ data.data.toList)
      generalize hS : sum (body k s ks vs ++ data.data.toList) = S at *
      have HS := hide hS
      clear hS
      go_wp2_with fail
      refine (refBytes_yes S _ hsl).mono ?_
      rintro e w4 ⟨rfl, hm5⟩
      have g4 : (four S).length = 4 := four_length S
      go_wp2_with fail
      go_ret2
      refine ⟨ret_eq ?_, hm4.trans hm5⟩
      rw [HE.out]
      unfold encV tagOf
      rw [HS.out]
      exact tup_eq (str_eq (cat_two _ _)) rfl

theorem cat3 (a b c : List UInt8) : ((({ data := #[] } : ByteArray) ++ ⟨a.toArray⟩) ++ ⟨b.toArray⟩) ++ ⟨c.toArray⟩ = ⟨(a ++ b ++ c).toArray⟩ := by
  have h0 : (({ data := #[] } : ByteArray) ++ ⟨a.toArray⟩) = ⟨a.toArray⟩ := by
    have := cat_two [] a
    simpa using this
  rw [h0, cat_two, cat_two]
end Go.Proofs.YtedopplldpcinaaGreat.Tag
