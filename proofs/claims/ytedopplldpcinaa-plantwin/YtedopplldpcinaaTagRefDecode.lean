/-
  Layer 3: what is decoded, by the document.
-/
import Derived.Test.YtedopplldpcinaaTagEncodes
import Derived.Test.YtedopplldpcinaaMemLow
import Derived.Laws.ResultCell
import Derived.Laws.Rows
import Derived.Deep.RegionLaw
import Derived.Deep.DrawnRows
namespace Go.Proofs.Ytedopplldpcinaa.Tag
open Go.RowKit Go.Proofs.Ytedopplldpcinaa.Pack Go.Proofs.Ytedopplldpcinaa.Crc

/-! ### What Unpack answers, field by field -/
def uL : Option (List Nat × List UInt8) → List Nat
  | none => []
  | some (l, _) => l
def uR : Option (List Nat × List UInt8) → List UInt8
  | none => []
  | some (_, r) => r
def uE : Option (List Nat × List UInt8) → Int
  | none => 20
  | some _ => 0
theorem unpackU {base : Nat} {o : Option (List Nat × List UInt8)} {e : Ending} {w' : World} (h : unpackOk base o e w') :
    ∃ oa cap, e = .returned (.tuple #[.slice oa (uL o).length cap, .string ⟨(uR o).toArray⟩, .int .i64 (uE o)]) ∧ Ints .i64 w' (.slice oa (uL o).length cap) (ints (uL o)) ∧ Past base (.slice oa (uL o).length cap) := by
  cases o with
  | none => exact ⟨none, 0, h, Ints.nil _ _ _ _, Past.nil _ _ _⟩
  | some p =>
    obtain ⟨l, r⟩ := p
    obtain ⟨v, he, hv⟩ := h
    have hi := Ints.of_owns (k := .i64) (zs := ints l) hv
    have hp := Past.of_owns hv
    obtain ⟨oa, cap, rfl⟩ := hi.shape
    rw [ints_length] at he hi hp
    exact ⟨oa, cap, he, hi, hp⟩
theorem unpack_nil : unpack [] = none := unpack_none take_nil
theorem uR_len (o : Option (List Nat × List UInt8)) (s : List UInt8) (h : o = unpack s) : (uR o).length ≤ s.length := by
  cases o with
  | none => simp [uR]
  | some p =>
    obtain ⟨l, r⟩ := p
    have := (unpack_some h.symm).1
    rw [this]; simp [uR]
theorem uL_le (o : Option (List Nat × List UInt8)) (s : List UInt8) (h : o = unpack s) : (uL o).length ≤ 1099511627776 ∧ ∀ n ∈ uL o, n ≤ maxN := by
  cases o with
  | none => simp [uL]
  | some p =>
    obtain ⟨l, r⟩ := p
    obtain ⟨_, hl, hn⟩ := unpack_some h.symm
    exact ⟨hl, hn⟩
/-- the three lists, by what Unpack answers -/
theorem dec_u {t : List UInt8} {o1 o2 o3 : Option (List Nat × List UInt8)} (h1 : o1 = unpack t) (h2 : o2 = unpack (uR o1)) (h3 : o3 = unpack (uR o2)) :
    dec t = if uE o1 = 0 ∧ uE o2 = 0 ∧ uE o3 = 0 then some (uL o1, uL o2, uL o3) else none := by
  unfold dec
  rw [← h1]
  cases o1 with
  | none => simp [uE]
  | some p =>
    obtain ⟨l, r⟩ := p
    simp only [uR] at h2
    simp only []
    rw [← h2]
    cases o2 with
    | none => simp [uE]
    | some q =>
      obtain ⟨k, r2⟩ := q
      simp only [uR] at h3
      simp only []
      rw [← h3]
      cases o3 with
      | none => simp [uE]
      | some x => obtain ⟨v, r3⟩ := x; simp [uE, uL]

/-! ### What Decode answers -/
def decR : Option (Int × Int × List Int × List Int) → Int × Int × List Int × List Int
  | none => (0, 0, [], [])
  | some r => r
def decE : Option (Int × Int × List Int × List Int) → Int
  | none => 30
  | some _ => 0
def DecOk (o : Option (Int × Int × List Int × List Int)) (e : Ending) (w' : World) : Prop :=
  ∃ vk vv, e = .returned (.tuple #[.agg #[.int .i64 (decR o).1, .int .i64 (decR o).2.1, vk, vv], .int .i64 (decE o)]) ∧ Ints .i64 w' vk (decR o).2.2.1 ∧ Ints .i64 w' vv (decR o).2.2.2
theorem DecOk.none (w' : World) : DecOk none (.returned (.tuple #[.agg #[.int .i64 0, .int .i64 0, .slice none 0 0, .slice none 0 0], .int .i64 30])) w' :=
  ⟨_, _, rfl, Ints.nil _ _ _ _, Ints.nil _ _ _ _⟩
/-- the same, and its lists lie in no block ahead of base -/
def DecPast (base : Nat) (o : Option (Int × Int × List Int × List Int)) (e : Ending) (w' : World) : Prop :=
  ∃ vk vv, e = .returned (.tuple #[.agg #[.int .i64 (decR o).1, .int .i64 (decR o).2.1, vk, vv], .int .i64 (decE o)]) ∧ Ints .i64 w' vk (decR o).2.2.1 ∧ Ints .i64 w' vv (decR o).2.2.2 ∧ Past base vk ∧ Past base vv
theorem DecPast.none (base : Nat) (w' : World) : DecPast base none (.returned (.tuple #[.agg #[.int .i64 0, .int .i64 0, .slice none 0 0, .slice none 0 0], .int .i64 30])) w' :=
  ⟨_, _, rfl, Ints.nil _ _ _ _, Ints.nil _ _ _ _, Past.nil _ _ _, Past.nil _ _ _⟩
theorem DecPast.ok {base : Nat} {o : Option (Int × Int × List Int × List Int)} {e : Ending} {w' : World} (h : DecPast base o e w') : DecOk o e w' := by
  obtain ⟨vk, vv, h1, h2, h3, _, _⟩ := h
  exact ⟨vk, vv, h1, h2, h3⟩
theorem decode_dec_none {t data : List UInt8} (h : dec t = none) : decode t data = none := by unfold decode; rw [h]
theorem decode_dec_len {t data : List UInt8} {l k v : List Nat} (h : dec t = some (l, k, v)) (hl : ¬ l.length = 2) : decode t data = none := by
  unfold decode; rw [h]; simp only []; rw [if_neg (fun h => hl h.1)]
theorem decode_dec {t data : List UInt8} {l k v : List Nat} (h : dec t = some (l, k, v)) (hl : l.length = 2) :
    decode t data = if enc (i1 l) (i2 l) (zs k) (down (zs v)) data = some t then some (i1 l, i2 l, zs k, down (zs v)) else none := by
  unfold decode; rw [h]; simp only []
  by_cases hc : enc (i1 l) (i2 l) (zs k) (down (zs v)) data = some t
  · rw [if_pos ⟨hl, hc⟩, if_pos hc]
  · rw [if_neg (fun h => hc h.2), if_neg hc]

theorem getD_nat {l : List Nat} {k : Nat} (h : k < l.length) : l.getD k 0 ∈ l := by
  have : l.getD k 0 = l[k] := by simp [h]
  rw [this]; exact List.getElem_mem h
theorem down_snoc (l : List Int) (k : Nat) (h : k < l.length) : (down l).take k ++ [l.getD k 0 - 1] = (down l).take (k + 1) := by
  have hk : k < (down l).length := by simpa [down] using h
  rw [List.take_succ_eq_append_getElem hk]
  simp [down, h]
theorem i64_id (z : Int) (h0 : -9223372036854775808 ≤ z) (h1 : z < 9223372036854775808) : IntKind.i64.wrap z = z := by
  simp only [IntKind.wrap, IntKind.signed, IntKind.bits]
  simp
  omega
theorem owns_shape {w : World} {base : Nat} {e : TypeId} {size : Nat} {v : Value} {n : Nat} {xs : List Value} (h : w.ownsRow base e size v n xs) : ∃ oa cap, v = .slice oa n cap := by
  rcases h.2 with ⟨rfl, h0⟩ | ⟨g, cap, cur, rfl, _⟩
  · subst h0; exact ⟨_, _, rfl⟩
  · exact ⟨_, _, rfl⟩
theorem two_of {l : List Nat} (h : l.length = 2) : ∃ x y, l = [x, y] := by
  match l, h with
  | [x, y], _ => exact ⟨x, y, rfl⟩
theorem info_rec : (Try.prog.info? 47).map (·.size) = some 4 := by kernel_rfl
/-- a record that is read out of its block -/
theorem load_rec {w : World} {b : Nat} {a0 a1 a2 a3 : Value} (h : Blk w b 47 #[a0, a1, a2, a3]) : (loadVar 47 ⟨b, 0, none⟩).run Try.prog w = .ok (.agg #[a0, a1, a2, a3]) w :=
  run_loadVar_row w b 47 47 #[a0, a1, a2, a3] (0, 0) _ h Try.underlying47 rfl info_rec
/-- a record and a number as results -/
theorem ret_rec {fn : Func} {p u : Tmp} (h : fn.results = #[.cell p 47, .tmp u]) (tmps : Array Value) (w : World) {b : Nat} {a0 a1 a2 a3 : Value} (hp : tmps.getD p undef = .pointer (some ⟨b, 0, none⟩)) (hb : Blk w b 47 #[a0, a1, a2, a3]) :
    (results fn tmps).run Try.prog w = .ok (.tuple #[.agg #[a0, a1, a2, a3], tmps.getD u undef]) w := by
  rw [results_cell_tmp h, hp]
  simp only [asAddr, Sem.run_pure, Result.andThen_ok, load_rec hb]

set_option maxHeartbeats 2000000 in
set_option maxRecDepth 100000 in
theorem refDecodeP (s data : ByteArray) (w : World) (hs : s.size ≤ maxLen) :
    Calls Try.prog 32 #[.string s, .string data] w fun e w' => DecPast w.heap.size (decode s.data.toList data.data.toList) e w' ∧ Mem w w' := by
  generalize h1 : unpack s.data.toList = o1
  generalize h2 : unpack (uR o1) = o2
  generalize h3 : unpack (uR o2) = o3
  have hd := dec_u h1.symm h2.symm h3.symm
  have hr1 := uR_len o1 _ h1.symm
  have hr2 := uR_len o2 _ h2.symm
  have hl1 := (uL_le o1 _ h1.symm).1
  have hl3 := uL_le o3 _ h3.symm
  have hsl : s.data.toList.length = s.size := by simp
  have H1 := hide h1
  have H2 := hide h2
  have H3 := hide h3
  have HD := hide hd
  have HL3 := hide hl3.2
  replace hl3 := hl3.1
  clear h1 h2 h3 hd
  have hm0 : Mem w (w.alloc (.cells #[.int .i64 0, .int .i64 0, .slice none 0 0, .slice none 0 0] 47)) := (Mem.refl w).alloc _
  have hb0 := Blk.new w #[.int .i64 0, .int .i64 0, .slice none 0 0, .slice none 0 0] 47
  go_enter Try.func32, Try.ntmps32
  go_wp2_with fail
  refine (refUnpack s _ hs).mono ?_
  rintro e w1 ⟨hu, m1⟩
  rw [H1.out] at hu
  obtain ⟨oa, ca, rfl, ia, _⟩ := unpackU hu
  clear hu
  go_wp2_with fail
  refine (refUnpack ⟨(uR o1).toArray⟩ _ (by rw [size_mk]; omega)).mono ?_
  rintro e w2 ⟨hu, m2⟩
  rw [H2.out] at hu
  obtain ⟨ob, cb, rfl, ib, pb⟩ := unpackU hu
  have pb' : Past (w.heap.size + 1) (.slice ob (uL o2).length cb) := pb.mono (Nat.le_trans hb0.lt m1.size)
  clear pb
  clear hu
  go_wp2_with fail
  refine (refUnpack ⟨(uR o2).toArray⟩ _ (by rw [size_mk]; omega)).mono ?_
  rintro e w3 ⟨hu, m3⟩
  rw [H3.out] at hu
  obtain ⟨oc, cc, rfl, ic, _⟩ := unpackU hu
  clear hu
  have m03 := m1.trans (m2.trans m3)
  have ha3 := ia.mem (m2.trans m3)
  have hb3 := ib.mem m3
  have hblk := hb0.mem m03
  have hm3 := hm0.trans m03
  clear m1 m2 m3 m03 ia ib hb0 hm0
  have f0 := hblk.frozen 0
  have f1 := hblk.frozen 1
  have f2 := hblk.frozen 2
  have f3 := hblk.frozen 3
  have c0 := hblk.cell (j := 0) rfl
  have c1 := hblk.cell (j := 1) rfl
  have c2 := hblk.cell (j := 2) rfl
  have c3 := hblk.cell (j := 3) rfl
  generalize uL o1 = L1 at *
  generalize uL o2 = L2 at *
  generalize uL o3 = L3 at *
  generalize uE o1 = e1 at *
  generalize uE o2 = e2 at *
  generalize uE o3 = e3 at *
  by_cases g1 : e1 = 0
  case neg =>
    have g1' : (e1 != 0) = true := by rw [bne_iff_ne]; exact g1
    have HN : Hid (decode s.data.toList data.data.toList = none) := decode_dec_none (by rw [HD.out, if_neg (by omega)])
    go_wp2_with fail
    refine bodyPost_ret (ret_rec rfl _ _ rfl (hblk.put4 _ _ _ _)) rfl ⟨?_, hm3.put4 (Nat.le_refl _) _ _ _ _⟩
    rw [HN.out]
    exact DecPast.none _ _
  by_cases g2 : e2 = 0
  case neg =>
    subst g1
    have g2' : (e2 != 0) = true := by rw [bne_iff_ne]; exact g2
    have HN : Hid (decode s.data.toList data.data.toList = none) := decode_dec_none (by rw [HD.out, if_neg (by omega)])
    go_wp2_with fail
    refine bodyPost_ret (ret_rec rfl _ _ rfl (hblk.put4 _ _ _ _)) rfl ⟨?_, hm3.put4 (Nat.le_refl _) _ _ _ _⟩
    rw [HN.out]
    exact DecPast.none _ _
  by_cases g3 : e3 = 0
  case neg =>
    subst g1
    subst g2
    have g3' : (e3 != 0) = true := by rw [bne_iff_ne]; exact g3
    have HN : Hid (decode s.data.toList data.data.toList = none) := decode_dec_none (by rw [HD.out, if_neg (by omega)])
    go_wp2_with fail
    refine bodyPost_ret (ret_rec rfl _ _ rfl (hblk.put4 _ _ _ _)) rfl ⟨?_, hm3.put4 (Nat.le_refl _) _ _ _ _⟩
    rw [HN.out]
    exact DecPast.none _ _
  subst g1
  subst g2
  subst g3
  replace HD : Hid (dec s.data.toList = some (L1, L2, L3)) := by
    show _ = _
    rw [HD.out, if_pos ⟨rfl, rfl, rfl⟩]
  by_cases gl : L1.length = 2
  case neg =>
    have gl' : ((L1.length : Int) != 2) = true := by rw [bne_iff_ne]; omega
    have HN : Hid (decode s.data.toList data.data.toList = none) := decode_dec_len HD.out gl
    clear gl
    go_wp2_with fail
    refine bodyPost_ret (ret_rec rfl _ _ rfl (hblk.put4 _ _ _ _)) rfl ⟨?_, hm3.put4 (Nat.le_refl _) _ _ _ _⟩
    rw [HN.out]
    exact DecPast.none _ _
  have HN := hide (decode_dec (data := data.data.toList) HD.out gl)
  obtain ⟨x, y, rfl⟩ := two_of gl
  have ha4 : Ints .i64 w3 (.slice oa 2 ca) [(x : Int), (y : Int)] := ha3
  clear ha3 gl
  obtain ⟨la, lo, rfl, lc⟩ := ha4.at (by simp)
  have l0 : w3.cell? ⟨la, lo, none⟩ = some (.int .i64 x) := lc 0 (by simp)
  have l1 : w3.cell? ⟨la, lo + 1, none⟩ = some (.int .i64 y) := lc 1 (by simp)
  clear lc ha4
  have hla := World.block_lt_of_cell? w3 _ l0
  go_wp2_with fail
  go_region_held3 (fun w' => w'.cell? ⟨la, lo, none⟩ = some (.int .i64 x) ∧ w'.cell? ⟨la, lo + 1, none⟩ = some (.int .i64 y)) (go_keep) (fail)
  have hm4 : Mem w3 (w3.alloc (.cells #[.int .i64 x, .int .i64 y, .slice ob L2.length cb, .slice none 0 0] 47)).drew := ((Mem.refl w3).alloc _).drew
  have hblk4 : Blk (w3.alloc (.cells #[.int .i64 x, .int .i64 y, .slice ob L2.length cb, .slice none 0 0] 47)).drew w3.heap.size 47 #[.int .i64 x, .int .i64 y, .slice ob L2.length cb, .slice none 0 0] := (Blk.new w3 _ _).drew
  have hsz4 : w3.heap.size + 1 ≤ (w3.alloc (.cells #[.int .i64 x, .int .i64 y, .slice ob L2.length cb, .slice none 0 0] 47)).drew.heap.size := hblk4.lt
  clear f0 f1 f2 f3 c0 c1 c2 c3 l0 l1 hla
  go_wp2_with fail
  go_loopw [15] (fun i wr => ∃ (j : Nat) (vv : Value), j ≤ L3.length ∧ i = .int .i64 j ∧ Mem w3 wr ∧ Blk wr w3.heap.size 47 #[.int .i64 x, .int .i64 y, .slice ob L2.length cb, vv] ∧ wr.ownsRow (w3.heap.size + 1) 3 1 vv j (icells ((down (ints L3)).take j)) ∧ w3.heap.size + 1 ≤ wr.heap.size) (fun i _ => L3.length - (intOf i).toNat)
  case atStart => exact ⟨0, _, Nat.zero_le _, rfl, hm4, hblk4, ⟨rfl, .inl ⟨rfl, rfl⟩⟩, hsz4⟩
  case round =>
    clear hm4 hblk4 hsz4
    obtain ⟨j, vv, hj, rfl, hmr, hbr, hown, hsz⟩ := hrel
    have r0 := hbr.cell (j := 0) rfl
    have r1 := hbr.cell (j := 1) rfl
    have r2 := hbr.cell (j := 2) rfl
    have r3 := hbr.cell (j := 3) rfl
    have rf := hbr.frozen 3
    by_cases hlt : j < L3.length
    · obtain ⟨lb, lp, rfl, lc⟩ := ic.at (by rw [ints_length]; omega)
      have hli : j < (ints L3).length := by rw [ints_length]; exact hlt
      have cj0 := lc j hli
      have hlb : lb < w3.heap.size := World.block_lt_of_cell? w3 _ cj0
      have cj : wr.cell? ⟨lb, lp + j, none⟩ = some (.int .i64 ((ints L3).getD j 0)) := by
        rw [Below.cell hmr (p := ⟨lb, lp + j, none⟩) hlb]; exact cj0
      have hzb := HL3.out _ (getD_nat hlt)
      unfold maxN at hzb
      have HS := hide (down_snoc (ints L3) j hli)
      have hzz : (ints L3).getD j 0 = ((L3.getD j 0 : Nat) : Int) := by simp [ints, hlt]
      rw [hzz] at cj HS
      clear lc cj0 hli hzz
      generalize L3.getD j 0 = z at *
      generalize hL : (down (ints L3)).take j = L at *
      clear hL
      obtain ⟨ov, cv, rfl⟩ := owns_shape hown
      have hlt' : (j : Int) < (L3.length : Int) := by omega
      have hj0 : (0 : Int) ≤ (j : Int) := by omega
      have hzb' : (z : Int) ≤ 1099511627776 := by omega
      have hz0 : (0 : Int) ≤ (z : Int) := by omega
      have hwz := i64_id ((z : Int) - 1) (by omega) (by omega)
      have KS : Hid (∀ W, Below (w3.heap.size + 1) wr W → W.cell? ⟨w3.heap.size, 3, none⟩ = some (.slice ov j cv) ∧ W.cell? ⟨lb, lp + j, none⟩ = some (.int .i64 (z : Int)) ∧ W.frozen? ⟨w3.heap.size, 3, none⟩ = false) := fun W h2 =>
        ⟨by rw [Below.cell h2 (p := ⟨w3.heap.size, 3, none⟩) (by show w3.heap.size < w3.heap.size + 1; omega)]; exact r3, by rw [Below.cell h2 (p := ⟨lb, lp + j, none⟩) (by show lb < w3.heap.size + 1; omega)]; exact cj, by rw [Below.frozen h2 (p := ⟨w3.heap.size, 3, none⟩) (by show w3.heap.size < w3.heap.size + 1; omega)]; exact rf⟩
      go_wp2_with fail
      have a1 := (KS.out (wr.alloc (.cells #[.int .i64 ((z : Int) - 1)] 3)) ((Below.refl _ wr).alloc hsz _)).1
      go_region_law ((refine step_pushI_drew (by rfl) _ _ (by rfl) (w3.heap.size + 1) _ L j (by rfl) hown hsz ((z : Int) - 1) (by rfl) (by omega) ?_; intro v' w' h1 h2; obtain ⟨ov', cv', rfl⟩ := owns_shape h1; have q1 := (KS.out _ h2).1; have q2 := (KS.out _ h2).2.2))
      all_goals (
        rw [HS.out] at h1
        have hb' : Blk (w'.setCell ⟨w3.heap.size, 3, none⟩ (.slice ov' (j + 1) cv')) w3.heap.size 47 #[.int .i64 x, .int .i64 y, .slice ob L2.length cb, .slice ov' (j + 1) cv'] := (hbr.below h2 (by omega)).set 3 _
        have hm' : Mem w3 (w'.setCell ⟨w3.heap.size, 3, none⟩ (.slice ov' (j + 1) cv')) := Mem.setCell (Below.trans hmr (Below.mono h2 (by omega))) (Nat.le_refl _) _
        have ho' := ownsRow_setCell_below h1 (a := ⟨w3.heap.size, 3, none⟩) (by show w3.heap.size < w3.heap.size + 1; omega) (.slice ov' (j + 1) cv')
        have hs' : w3.heap.size + 1 ≤ (w'.setCell ⟨w3.heap.size, 3, none⟩ (.slice ov' (j + 1) cv')).heap.size := hb'.lt
        clear h1 hown a1 q1 q2 r0 r1 r2 r3 rf cj hwz
        go_wp2_with fail
        go_roundw
        case rel => exact ⟨j + 1, _, by omega, by go_num, hm', hb', ho', hs'⟩
        case measure => simp [intOf]; omega)
    · have hje : j = L3.length := by omega
      subst hje
      rw [List.take_of_length_le (by simp [down, ints])] at hown
      have hvv := Ints.of_owns hown
      have pv : Past (w.heap.size + 1) vv := (Past.of_owns hown).mono (by have := hblk.lt; omega)
      obtain ⟨ov, cv, rfl⟩ := owns_shape hown
      clear hown
      have hkk := hb3.mem hmr
      have hres := hblk.mem hmr
      have hmw := hm3.trans hmr
      go_wp2_with fail
      refine (refEncode x y _ _ (ints L2) (down (ints L3)) data _ hkk hvv).mono ?_
      rintro e w5 ⟨rfl, m5⟩
      have hres5 := hres.mem m5
      have hm5 := hmw.trans m5
      have hbr5 := hbr.mem m5
      have hk5 := hkk.mem m5
      have hv5 := hvv.mem m5
      have f0 := hres5.frozen 0
      have f1 := hres5.frozen 1
      have f2 := hres5.frozen 2
      have f3 := hres5.frozen 3
      have c0 := hres5.cell (j := 0) rfl
      have c1 := hres5.cell (j := 1) rfl
      have c2 := hres5.cell (j := 2) rfl
      have c3 := hres5.cell (j := 3) rfl
      have r0 := hbr5.cell (j := 0) rfl
      have r1 := hbr5.cell (j := 1) rfl
      have r2 := hbr5.cell (j := 2) rfl
      have r3 := hbr5.cell (j := 3) rfl
      clear hres hmw hbr hkk hvv hmr m5
      replace HN : Hid (decode s.data.toList data.data.toList = if enc x y (ints L2) (down (ints L3)) data.data.toList = some s.data.toList then some ((x : Int), (y : Int), ints L2, down (ints L3)) else none) := HN.out
      cases he : enc x y (ints L2) (down (ints L3)) data.data.toList with
      | none =>
        have HV : Hid (decode s.data.toList data.data.toList = none) := by
          show _ = _
          rw [HN.out, if_neg (by rw [he]; intro h; cases h)]
        clear he HN
        simp only [encV]
        go_wp2_with fail
        refine bodyPost_ret (ret_rec rfl _ _ rfl (hres5.put4 _ _ _ _)) rfl ⟨?_, hm5.put4 (Nat.le_refl _) _ _ _ _⟩
        rw [HV.out]
        exact DecPast.none _ _
      | some t =>
        have HE := hide he
        clear he
        simp only [encV]
        by_cases ht : t = s.data.toList
        · have hq : (t == s.toList) = true := by rw [toList_data, ht, beq_self_eq_true]
          have HV : Hid (decode s.data.toList data.data.toList = some ((x : Int), (y : Int), ints L2, down (ints L3))) := by
            show _ = _
            rw [HN.out, if_pos (by rw [HE.out, ht])]
          clear ht HN HE
          go_wp2_with fail
          refine bodyPost_ret (ret_rec rfl _ _ rfl (hres5.put4 _ _ _ _)) rfl ⟨?_, hm5.put4 (Nat.le_refl _) _ _ _ _⟩
          rw [HV.out]
          refine ⟨_, _, rfl, ?_, ?_, pb'.mono (by omega), pv.mono (by omega)⟩
          · exact hk5.put4 pb' _ _ _ _
          · exact hv5.put4 pv _ _ _ _
        · have hq : (t == s.toList) = false := by rw [toList_data, beq_eq_false_iff_ne]; exact ht
          have HV : Hid (decode s.data.toList data.data.toList = none) := by
            show _ = _
            rw [HN.out, if_neg (by rw [HE.out]; intro h; injection h with h; exact ht h)]
          clear ht HN HE
          go_wp2_with fail
          refine bodyPost_ret (ret_rec rfl _ _ rfl (hres5.put4 _ _ _ _)) rfl ⟨?_, hm5.put4 (Nat.le_refl _) _ _ _ _⟩
          rw [HV.out]
          exact DecPast.none _ _
theorem refDecode (s data : ByteArray) (w : World) (hs : s.size ≤ maxLen) :
    Calls Try.prog 32 #[.string s, .string data] w fun e w' => DecOk (decode s.data.toList data.data.toList) e w' ∧ Mem w w' :=
  (refDecodeP s data w hs).mono fun _ _ h => ⟨h.1.ok, h.2⟩
end Go.Proofs.Ytedopplldpcinaa.Tag
