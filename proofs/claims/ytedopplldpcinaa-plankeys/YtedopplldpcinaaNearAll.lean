/-
  TagDecOwn, PlanNearC: in one text (merge.json).
-/
import Derived.Test.YtedopplldpcinaaTagRefDecode
import Derived.Test.YtedopplldpcinaaTagEncodes
import Derived.Test.YtedopplldpcinaaMemLow
import Derived.Laws.ResultCell
import Derived.Laws.Rows
import Derived.Deep.RegionLaw
import Derived.Deep.DrawnRows
import Derived.Test.YtedopplldpcinaaPlanChips
import Derived.Test.YtedopplldpcinaaPlanTwinC
import Derived.Test.YtedopplldpcinaaReplayOf
import Derived.BigRegion
/-
  Layer 3, the document: Decode: the Values of what comes are a row of the call's own.
-/
namespace Go.Proofs.Ytedopplldpcinaa.Tag
open Go.RowKit Go.Proofs.Ytedopplldpcinaa.Pack Go.Proofs.Ytedopplldpcinaa.Crc
theorem owns_put4 {w : World} {base b : Nat} {v : Value} {n : Nat} {xs : List Value} (h : w.ownsRow base 3 1 v n xs) (hb : b < base) (x0 x1 x2 x3 : Value) :
    ((((w.setCell ⟨b, 0, none⟩ x0).setCell ⟨b, 1, none⟩ x1).setCell ⟨b, 2, none⟩ x2).setCell ⟨b, 3, none⟩ x3).ownsRow base 3 1 v n xs :=
  ownsRow_setCell_below (a := ⟨b, 3, none⟩) (ownsRow_setCell_below (a := ⟨b, 2, none⟩) (ownsRow_setCell_below (a := ⟨b, 1, none⟩) (ownsRow_setCell_below (a := ⟨b, 0, none⟩) h hb x0) hb x1) hb x2) hb x3
/-- the same, and its Values are a row of the call's own -/
def DecOwn (base : Nat) (o : Option (Int × Int × List Int × List Int)) (e : Ending) (w' : World) : Prop :=
  ∃ vk vv, e = .returned (.tuple #[.agg #[.int .i64 (decR o).1, .int .i64 (decR o).2.1, vk, vv], .int .i64 (decE o)]) ∧ Ints .i64 w' vk (decR o).2.2.1 ∧ Ints .i64 w' vv (decR o).2.2.2 ∧ Past base vk ∧ Past base vv ∧ ∃ bv n, w'.ownsRow bv 3 1 vv n (icells (decR o).2.2.2)
theorem DecOwn.none (base : Nat) (w' : World) : DecOwn base none (.returned (.tuple #[.agg #[.int .i64 0, .int .i64 0, .slice none 0 0, .slice none 0 0], .int .i64 30])) w' :=
  ⟨_, _, rfl, Ints.nil _ _ _ _, Ints.nil _ _ _ _, Past.nil _ _ _, Past.nil _ _ _, 0, _, World.ownsRow_nil _ _ _ _⟩
theorem DecOwn.past {base : Nat} {o : Option (Int × Int × List Int × List Int)} {e : Ending} {w' : World} (h : DecOwn base o e w') : DecPast base o e w' := by
  obtain ⟨vk, vv, h1, h2, h3, h4, h5, _⟩ := h
  exact ⟨vk, vv, h1, h2, h3, h4, h5⟩
set_option maxHeartbeats 8000000 in
set_option maxRecDepth 100000 in
theorem refDecodeO (s data : ByteArray) (w : World) (hs : s.size ≤ maxLen) :
    Calls Try.prog 32 #[.string s, .string data] w fun e w' => DecOwn w.heap.size (decode s.data.toList data.data.toList) e w' ∧ Mem w w' := by
  generalize h1 : unpack s.data.toList = o1
  generalize h2 : unpack (uR o1) = o2
  generalize h3 : unpack (uR o2) = o3
  have hd := dec_u h1.symm h2.symm h3.symm
  have hr1 := uR_len o1 _ h1.symm
  have hr2 := uR_len o2 _ h2.symm
  have hl1 := (uL_le o1 _ h1.symm).1
  have hl3 := uL_le o3 _ h3.symm
  have hsl : s.data.toList.length = s.size := by simp
  have H1 := hide h1
  have H2 := hide h2
  have H3 := hide h3
  have HD := hide hd
  have HL3 := hide hl3.2
  replace hl3 := hl3.1
  clear h1 h2 h3 hd
  have hm0 : Mem w (w.alloc (.cells #[.int .i64 0, .int .i64 0, .slice none 0 0, .slice none 0 0] 47)) := (Mem.refl w).alloc _
  have hb0 := Blk.new w #[.int .i64 0, .int .i64 0, .slice none 0 0, .slice none 0 0] 47
  go_enter Try.func32, Try.ntmps32
  go_wp2_with fail
  refine (refUnpack s _ hs).mono ?_
  rintro e w1 ⟨hu, m1⟩
  rw [H1.out] at hu
  obtain ⟨oa, ca, rfl, ia, _⟩ := unpackU hu
  clear hu
  go_wp2_with fail
  refine (refUnpack ⟨(uR o1).toArray⟩ _ (by rw [size_mk]; omega)).mono ?_
  rintro e w2 ⟨hu, m2⟩
  rw [H2.out] at hu
  obtain ⟨ob, cb, rfl, ib, pb⟩ := unpackU hu
  have pb' : Past (w.heap.size + 1) (.slice ob (uL o2).length cb) := pb.mono (Nat.le_trans hb0.lt m1.size)
  clear pb
  clear hu
  go_wp2_with fail
  refine (refUnpack ⟨(uR o2).toArray⟩ _ (by rw [size_mk]; omega)).mono ?_
  rintro e w3 ⟨hu, m3⟩
  rw [H3.out] at hu
  obtain ⟨oc, cc, rfl, ic, _⟩ := unpackU hu
  clear hu
  have m03 := m1.trans (m2.trans m3)
  have ha3 := ia.mem (m2.trans m3)
  have hb3 := ib.mem m3
  have hblk := hb0.mem m03
  have hm3 := hm0.trans m03
  clear m1 m2 m3 m03 ia ib hb0 hm0
  have f0 := hblk.frozen 0
  have f1 := hblk.frozen 1
  have f2 := hblk.frozen 2
  have f3 := hblk.frozen 3
  have c0 := hblk.cell (j := 0) rfl
  have c1 := hblk.cell (j := 1) rfl
  have c2 := hblk.cell (j := 2) rfl
  have c3 := hblk.cell (j := 3) rfl
  generalize uL o1 = L1 at *
  generalize uL o2 = L2 at *
  generalize uL o3 = L3 at *
  generalize uE o1 = e1 at *
  generalize uE o2 = e2 at *
  generalize uE o3 = e3 at *
  by_cases g1 : e1 = 0
  case neg =>
    have g1' : (e1 != 0) = true := by rw [bne_iff_ne]; exact g1
    have HN : Hid (decode s.data.toList data.data.toList = none) := decode_dec_none (by rw [HD.out, if_neg (by omega)])
    go_wp2_with fail
    refine bodyPost_ret (ret_rec rfl _ _ rfl (hblk.put4 _ _ _ _)) rfl ⟨?_, hm3.put4 (Nat.le_refl _) _ _ _ _⟩
    rw [HN.out]
    exact DecOwn.none _ _
  by_cases g2 : e2 = 0
  case neg =>
    subst g1
    have g2' : (e2 != 0) = true := by rw [bne_iff_ne]; exact g2
    have HN : Hid (decode s.data.toList data.data.toList = none) := decode_dec_none (by rw [HD.out, if_neg (by omega)])
    go_wp2_with fail
    refine bodyPost_ret (ret_rec rfl _ _ rfl (hblk.put4 _ _ _ _)) rfl ⟨?_, hm3.put4 (Nat.le_refl _) _ _ _ _⟩
    rw [HN.out]
    exact DecOwn.none _ _
  by_cases g3 : e3 = 0
  case neg =>
    subst g1
    subst g2
    have g3' : (e3 != 0) = true := by rw [bne_iff_ne]; exact g3
    have HN : Hid (decode s.data.toList data.data.toList = none) := decode_dec_none (by rw [HD.out, if_neg (by omega)])
    go_wp2_with fail
    refine bodyPost_ret (ret_rec rfl _ _ rfl (hblk.put4 _ _ _ _)) rfl ⟨?_, hm3.put4 (Nat.le_refl _) _ _ _ _⟩
    rw [HN.out]
    exact DecOwn.none _ _
  subst g1
  subst g2
  subst g3
  replace HD : Hid (dec s.data.toList = some (L1, L2, L3)) := by
    show _ = _
    rw [HD.out, if_pos ⟨rfl, rfl, rfl⟩]
  by_cases gl : L1.length = 2
  case neg =>
    have gl' : ((L1.length : Int) != 2) = true := by rw [bne_iff_ne]; omega
    have HN : Hid (decode s.data.toList data.data.toList = none) := decode_dec_len HD.out gl
    clear gl
    go_wp2_with fail
    refine bodyPost_ret (ret_rec rfl _ _ rfl (hblk.put4 _ _ _ _)) rfl ⟨?_, hm3.put4 (Nat.le_refl _) _ _ _ _⟩
    rw [HN.out]
    exact DecOwn.none _ _
  have HN := hide (decode_dec (data := data.data.toList) HD.out gl)
  obtain ⟨x, y, rfl⟩ := two_of gl
  have ha4 : Ints .i64 w3 (.slice oa 2 ca) [(x : Int), (y : Int)] := ha3
  clear ha3 gl
  obtain ⟨la, lo, rfl, lc⟩ := ha4.at (by simp)
  have l0 : w3.cell? ⟨la, lo, none⟩ = some (.int .i64 x) := lc 0 (by simp)
  have l1 : w3.cell? ⟨la, lo + 1, none⟩ = some (.int .i64 y) := lc 1 (by simp)
  clear lc ha4
  have hla := World.block_lt_of_cell? w3 _ l0
  go_wp2_with fail
  go_region_held3 (fun w' => w'.cell? ⟨la, lo, none⟩ = some (.int .i64 x) ∧ w'.cell? ⟨la, lo + 1, none⟩ = some (.int .i64 y)) (go_keep) (fail)
  have hm4 : Mem w3 (w3.alloc (.cells #[.int .i64 x, .int .i64 y, .slice ob L2.length cb, .slice none 0 0] 47)).drew := ((Mem.refl w3).alloc _).drew
  have hblk4 : Blk (w3.alloc (.cells #[.int .i64 x, .int .i64 y, .slice ob L2.length cb, .slice none 0 0] 47)).drew w3.heap.size 47 #[.int .i64 x, .int .i64 y, .slice ob L2.length cb, .slice none 0 0] := (Blk.new w3 _ _).drew
  have hsz4 : w3.heap.size + 1 ≤ (w3.alloc (.cells #[.int .i64 x, .int .i64 y, .slice ob L2.length cb, .slice none 0 0] 47)).drew.heap.size := hblk4.lt
  clear f0 f1 f2 f3 c0 c1 c2 c3 l0 l1 hla
  go_wp2_with fail
  go_loopw [15] (fun i wr => ∃ (j : Nat) (vv : Value), j ≤ L3.length ∧ i = .int .i64 j ∧ Mem w3 wr ∧ Blk wr w3.heap.size 47 #[.int .i64 x, .int .i64 y, .slice ob L2.length cb, vv] ∧ wr.ownsRow (w3.heap.size + 1) 3 1 vv j (icells ((down (ints L3)).take j)) ∧ w3.heap.size + 1 ≤ wr.heap.size) (fun i _ => L3.length - (intOf i).toNat)
  case atStart => exact ⟨0, _, Nat.zero_le _, rfl, hm4, hblk4, ⟨rfl, .inl ⟨rfl, rfl⟩⟩, hsz4⟩
  case round =>
    clear hm4 hblk4 hsz4
    obtain ⟨j, vv, hj, rfl, hmr, hbr, hown, hsz⟩ := hrel
    have r0 := hbr.cell (j := 0) rfl
    have r1 := hbr.cell (j := 1) rfl
    have r2 := hbr.cell (j := 2) rfl
    have r3 := hbr.cell (j := 3) rfl
    have rf := hbr.frozen 3
    by_cases hlt : j < L3.length
    · obtain ⟨lb, lp, rfl, lc⟩ := ic.at (by rw [ints_length]; omega)
      have hli : j < (ints L3).length := by rw [ints_length]; exact hlt
      have cj0 := lc j hli
      have hlb : lb < w3.heap.size := World.block_lt_of_cell? w3 _ cj0
      have cj : wr.cell? ⟨lb, lp + j, none⟩ = some (.int .i64 ((ints L3).getD j 0)) := by
        rw [Below.cell hmr (p := ⟨lb, lp + j, none⟩) hlb]; exact cj0
      have hzb := HL3.out _ (getD_nat hlt)
      unfold maxN at hzb
      have HS := hide (down_snoc (ints L3) j hli)
      have hzz : (ints L3).getD j 0 = ((L3.getD j 0 : Nat) : Int) := by simp [ints, hlt]
      rw [hzz] at cj HS
      clear lc cj0 hli hzz
      generalize L3.getD j 0 = z at *
      generalize hL : (down (ints L3)).take j = L at *
      clear hL
      obtain ⟨ov, cv, rfl⟩ := owns_shape hown
      have hlt' : (j : Int) < (L3.length : Int) := by omega
      have hj0 : (0 : Int) ≤ (j : Int) := by omega
      have hzb' : (z : Int) ≤ 1099511627776 := by omega
      have hz0 : (0 : Int) ≤ (z : Int) := by omega
      have hwz := i64_id ((z : Int) - 1) (by omega) (by omega)
      have KS : Hid (∀ W, Below (w3.heap.size + 1) wr W → W.cell? ⟨w3.heap.size, 3, none⟩ = some (.slice ov j cv) ∧ W.cell? ⟨lb, lp + j, none⟩ = some (.int .i64 (z : Int)) ∧ W.frozen? ⟨w3.heap.size, 3, none⟩ = false) := fun W h2 =>
        ⟨by rw [Below.cell h2 (p := ⟨w3.heap.size, 3, none⟩) (by show w3.heap.size < w3.heap.size + 1; omega)]; exact r3, by rw [Below.cell h2 (p := ⟨lb, lp + j, none⟩) (by show lb < w3.heap.size + 1; omega)]; exact cj, by rw [Below.frozen h2 (p := ⟨w3.heap.size, 3, none⟩) (by show w3.heap.size < w3.heap.size + 1; omega)]; exact rf⟩
      go_wp2_with fail
      have a1 := (KS.out (wr.alloc (.cells #[.int .i64 ((z : Int) - 1)] 3)) ((Below.refl _ wr).alloc hsz _)).1
      go_region_law ((refine step_pushI_drew (by rfl) _ _ (by rfl) (w3.heap.size + 1) _ L j (by rfl) hown hsz ((z : Int) - 1) (by rfl) (by omega) ?_; intro v' w' h1 h2; obtain ⟨ov', cv', rfl⟩ := owns_shape h1; have q1 := (KS.out _ h2).1; have q2 := (KS.out _ h2).2.2))
      all_goals (
        rw [HS.out] at h1
        have hb' : Blk (w'.setCell ⟨w3.heap.size, 3, none⟩ (.slice ov' (j + 1) cv')) w3.heap.size 47 #[.int .i64 x, .int .i64 y, .slice ob L2.length cb, .slice ov' (j + 1) cv'] := (hbr.below h2 (by omega)).set 3 _
        have hm' : Mem w3 (w'.setCell ⟨w3.heap.size, 3, none⟩ (.slice ov' (j + 1) cv')) := Mem.setCell (Below.trans hmr (Below.mono h2 (by omega))) (Nat.le_refl _) _
        have ho' := ownsRow_setCell_below h1 (a := ⟨w3.heap.size, 3, none⟩) (by show w3.heap.size < w3.heap.size + 1; omega) (.slice ov' (j + 1) cv')
        have hs' : w3.heap.size + 1 ≤ (w'.setCell ⟨w3.heap.size, 3, none⟩ (.slice ov' (j + 1) cv')).heap.size := hb'.lt
        clear h1 hown a1 q1 q2 r0 r1 r2 r3 rf cj hwz
        go_wp2_with fail
        go_roundw
        case rel => exact ⟨j + 1, _, by omega, by go_num, hm', hb', ho', hs'⟩
        case measure => simp [intOf]; omega)
    · have hje : j = L3.length := by omega
      subst hje
      rw [List.take_of_length_le (by simp [down, ints])] at hown
      have hvv := Ints.of_owns hown
      have pv : Past (w.heap.size + 1) vv := (Past.of_owns hown).mono (by have := hblk.lt; omega)
      obtain ⟨ov, cv, rfl⟩ := owns_shape hown
      have HO := hide hown
      have hwl : w.heap.size < w3.heap.size + 1 := by have := hblk.lt; omega
      clear hown
      have hkk := hb3.mem hmr
      have hres := hblk.mem hmr
      have hmw := hm3.trans hmr
      go_wp2_with fail
      refine (refEncode x y _ _ (ints L2) (down (ints L3)) data _ hkk hvv).mono ?_
      rintro e w5 ⟨rfl, m5⟩
      have hres5 := hres.mem m5
      have hm5 := hmw.trans m5
      have hbr5 := hbr.mem m5
      have hk5 := hkk.mem m5
      have hv5 := hvv.mem m5
      have HO5 := hide (owns_below HO.out m5)
      clear HO
      have f0 := hres5.frozen 0
      have f1 := hres5.frozen 1
      have f2 := hres5.frozen 2
      have f3 := hres5.frozen 3
      have c0 := hres5.cell (j := 0) rfl
      have c1 := hres5.cell (j := 1) rfl
      have c2 := hres5.cell (j := 2) rfl
      have c3 := hres5.cell (j := 3) rfl
      have r0 := hbr5.cell (j := 0) rfl
      have r1 := hbr5.cell (j := 1) rfl
      have r2 := hbr5.cell (j := 2) rfl
      have r3 := hbr5.cell (j := 3) rfl
      clear hres hmw hbr hkk hvv hmr m5
      replace HN : Hid (decode s.data.toList data.data.toList = if enc x y (ints L2) (down (ints L3)) data.data.toList = some s.data.toList then some ((x : Int), (y : Int), ints L2, down (ints L3)) else none) := HN.out
      cases he : enc x y (ints L2) (down (ints L3)) data.data.toList with
      | none =>
        have HV : Hid (decode s.data.toList data.data.toList = none) := by
          show _ = _
          rw [HN.out, if_neg (by rw [he]; intro h; cases h)]
        clear he HN
        simp only [encV]
        go_wp2_with fail
        refine bodyPost_ret (ret_rec rfl _ _ rfl (hres5.put4 _ _ _ _)) rfl ⟨?_, hm5.put4 (Nat.le_refl _) _ _ _ _⟩
        rw [HV.out]
        exact DecOwn.none _ _
      | some t =>
        have HE := hide he
        clear he
        simp only [encV]
        by_cases ht : t = s.data.toList
        · have hq : (t == s.toList) = true := by rw [toList_data, ht, beq_self_eq_true]
          have HV : Hid (decode s.data.toList data.data.toList = some ((x : Int), (y : Int), ints L2, down (ints L3))) := by
            show _ = _
            rw [HN.out, if_pos (by rw [HE.out, ht])]
          clear ht HN HE
          go_wp2_with fail
          refine bodyPost_ret (ret_rec rfl _ _ rfl (hres5.put4 _ _ _ _)) rfl ⟨?_, hm5.put4 (Nat.le_refl _) _ _ _ _⟩
          rw [HV.out]
          refine ⟨_, _, rfl, ?_, ?_, pb'.mono (by omega), pv.mono (by omega), _, _, owns_put4 HO5.out hwl _ _ _ _⟩
          · exact hk5.put4 pb' _ _ _ _
          · exact hv5.put4 pv _ _ _ _
        · have hq : (t == s.toList) = false := by rw [toList_data, beq_eq_false_iff_ne]; exact ht
          have HV : Hid (decode s.data.toList data.data.toList = none) := by
            show _ = _
            rw [HN.out, if_neg (by rw [HE.out]; intro h; injection h with h; exact ht h)]
          clear ht HN HE
          go_wp2_with fail
          refine bodyPost_ret (ret_rec rfl _ _ rfl (hres5.put4 _ _ _ _)) rfl ⟨?_, hm5.put4 (Nat.le_refl _) _ _ _ _⟩
          rw [HV.out]
          exact DecOwn.none _ _
end Go.Proofs.Ytedopplldpcinaa.Tag
/-
  Layer 12, the statements' own: near answers a chip of as many blocks, of as many pages. (By mk_plannear.py.)
-/
namespace Go.Proofs.Ytedopplldpcinaa.Plan
open Go.RowKit Go.Proofs.Ytedopplldpcinaa.Nand Go.Proofs.Ytedopplldpcinaa.Scan Go.Proofs.Ytedopplldpcinaa.Tag

def NearOut (bs : List BlockT) (br off : Bool) (ops : Int) (w : World) (e : Ending) (w' : World) : Prop :=
  ∃ v bs', e = .returned (chipV v br off ops) ∧ BlocksAt (fun x => w.heap.size ≤ x) w' v bs' ∧ LikeB bs bs'
set_option maxHeartbeats 16000000 in
set_option maxRecDepth 100000 in
theorem lawNear (S : Nat → Prop) (vb : Value) (bs : List BlockT) (br off : Bool) (ops : Int) (w : World) (hb : BlocksAt S w vb bs) (hf : Few bs) (hsz : ∀ b ∈ bs, ∀ p ∈ b.1, p.2.2.size ≤ maxLen) :
    Calls Try.prog 12 #[chipV vb br off ops] w fun e w' => NearOut bs br off ops w e w' ∧ Mem w w' := by
  obtain ⟨oa, ca, rfl⟩ := hb.shape
  have hbl := hb.1
  unfold maxLen at hbl
  have hm0 : Mem w ((w.alloc (.cells #[.slice oa bs.length ca, .bool br, .bool off, .int .i64 ops] 26)).alloc (.cells #[.slice none 0 0, .bool false, .bool false, .int .i64 0] 26)) := ((Mem.refl w).alloc _).alloc _
  have hC := (Blk.new w #[.slice oa bs.length ca, .bool br, .bool off, .int .i64 ops] 26).alloc (.cells #[.slice none 0 0, .bool false, .bool false, .int .i64 0] 26)
  have hR0 := Blk.new (w.alloc (.cells #[.slice oa bs.length ca, .bool br, .bool off, .int .i64 ops] 26)) #[.slice none 0 0, .bool false, .bool false, .int .i64 0] 26
  rw [World.size_alloc] at hR0
  have hsz0 : ((w.alloc (.cells #[.slice oa bs.length ca, .bool br, .bool off, .int .i64 ops] 26)).alloc (.cells #[.slice none 0 0, .bool false, .bool false, .int .i64 0] 26)).heap.size = w.heap.size + 1 + 1 := by simp
  have HOWN := hide (ownOwn S _ bs br off ops _ (hb.mem hm0) hf)
  have hL0 : LikeB bs bs := ⟨rfl, hsz⟩
  have HFL : Hid (∀ bs', LikeB bs bs' → ∀ j (h : j < bs'.length), bs'[j].1.length ≤ 1000) := fun bs' h j hj => (h.few hf).2 _ (List.getElem_mem hj)
  have c0 := hC.cell (j := 0) rfl
  have c1 := hC.cell (j := 1) rfl
  have c2 := hC.cell (j := 2) rfl
  have c3 := hC.cell (j := 3) rfl
  simp only [chipV]
  clear hb hsz hC
  go_enter Try.func12, Try.ntmps12
  go_wp2_with fail
  generalize hW0 : (w.alloc (.cells #[.slice oa bs.length ca, .bool br, .bool off, .int .i64 ops] 26)).alloc (.cells #[.slice none 0 0, .bool false, .bool false, .int .i64 0] 26) = W0 at *
  clear hW0 c0 c1 c2 c3
  refine HOWN.out.mono ?_
  rintro e w1 ⟨⟨v1, rfl, hO1⟩, m1⟩
  obtain ⟨oc, cc, rfl⟩ := hO1.shape
  simp only [chipV]
  have ha : Mem w1 (w1.alloc (.cells #[.slice oc bs.length cc, .bool br, .bool off, .int .i64 ops] 26)) := (Mem.refl w1).alloc _
  have hX := Blk.new w1 #[.slice oc bs.length cc, .bool br, .bool off, .int .i64 ops] 26
  have hO2 := (hO1.mono (S' := fun x => x ≠ w1.heap.size ∧ w.heap.size + 1 < x) fun g hg hl => ⟨Nat.ne_of_lt hl, by omega⟩).mem ha
  have hR1 := hR0.mem (m1.trans ha)
  have hm1 := hm0.trans (m1.trans ha)
  have hBw : w.heap.size + 1 < w1.heap.size := by have := m1.size; omega
  have c0 := hX.cell (j := 0) rfl
  clear hO1 hR0 hm0 hsz0 HOWN
  go_wp2_with fail
  generalize hW1 : w1.alloc (.cells #[.slice oc bs.length cc, .bool br, .bool off, .int .i64 ops] 26) = W1 at *
  generalize w1.heap.size = Bc at *
  clear hW1 ha m1
  go_loopw [4] (fun i wr => ∃ (j : Nat) (bs' : List BlockT), j ≤ bs.length ∧ LikeB bs bs' ∧ i = .int .i64 j ∧ Blk wr Bc 26 #[.slice oc bs.length cc, .bool br, .bool off, .int .i64 ops] ∧ OwnS (fun x => x ≠ Bc ∧ w.heap.size + 1 < x) wr (.slice oc bs.length cc) bs' ∧ Blk wr (w.heap.size + 1) 26 #[.slice none 0 0, .bool false, .bool false, .int .i64 0] ∧ Mem w wr) (fun i _ => bs.length - (intOf i).toNat)
  case atStart => exact ⟨0, bs, Nat.zero_le _, hL0, rfl, hX, hO2, hR1, hm1⟩
  case round =>
    clear hX hO2 hR1 hm1 c0 hL0
    obtain ⟨j, bs', hj, hL, rfl, hX, hO, hR, hm⟩ := hrel
    have hj0 : (0 : Int) ≤ (j : Int) := by omega
    have c0 := hX.cell (j := 0) rfl
    have c1 := hX.cell (j := 1) rfl
    have c2 := hX.cell (j := 2) rfl
    have c3 := hX.cell (j := 3) rfl
    have hlen := hL.len
    by_cases hlt : j < bs.length
    · have hlt' : (j : Int) < (bs.length : Int) := by omega
      have hLL := hide hlen
      clear hlen
      go_wp2_with fail
      obtain ⟨wo, hwo⟩ : ∃ x, x = wr := ⟨_, rfl⟩
      subst hwo
      obtain ⟨pl, hpl0⟩ : ∃ pl, pl = (bs.getD j default).1.length := ⟨_, rfl⟩
      have HPL0 := hide hpl0
      clear hpl0
      go_loopw [5] (fun q w2 => ∃ (k : Nat) (bs' : List BlockT), k ≤ pl ∧ LikeB bs bs' ∧ q = .int .i64 k ∧ Blk w2 Bc 26 #[.slice oc bs.length cc, .bool br, .bool off, .int .i64 ops] ∧ OwnS (fun x => x ≠ Bc ∧ w.heap.size + 1 < x) w2 (.slice oc bs.length cc) bs' ∧ Blk w2 (w.heap.size + 1) 26 #[.slice none 0 0, .bool false, .bool false, .int .i64 0] ∧ Mem w w2) (fun q _ => pl - (intOf q).toNat)
      case atStart => exact ⟨0, bs', Nat.zero_le _, hL, rfl, hX, hO, hR, hm⟩
      case round =>
        clear hX hO hR hm c0 c1 c2 c3 hL hLL bs'
        obtain ⟨k, bs', hk, hL, rfl, hX, hO, hR, hm⟩ := hrel
        have c0 := hX.cell (j := 0) rfl
        have hk0 : (0 : Int) ≤ (k : Int) := by omega
        have hjb : j < bs'.length := by rw [hL.len]; exact hlt
        obtain ⟨bj, hbj⟩ : ∃ bj, bs'[j]? = some bj := ⟨bs'[j], List.getElem?_eq_getElem hjb⟩
        have hpl : bj.1.length = pl := by
          have h1 := congrArg (fun l => l[j]?) hL.1
          simp only [List.getElem?_map, hbj, List.getElem?_eq_getElem hlt, Option.map_some, Option.some.injEq] at h1
          rw [h1, HPL0.out, List.getD_eq_getElem?_getD, List.getElem?_eq_getElem hlt]
          rfl
        obtain ⟨ps, nx, er, bd⟩ := bj
        simp only [] at hpl
        rw [← hpl] at hk
        have hps : ps.length ≤ 1000 := by
          obtain ⟨hq, e⟩ := List.getElem?_eq_some_iff.1 hbj
          have := HFL.out bs' hL j hq
          rw [e] at this
          exact this
        have HPL := hide hpl
        clear hpl
        by_cases hkl : k < ps.length
        · have hkl' : (k : Int) < (ps.length : Int) := by omega
          have hOr := hO.mono (S' := fun x => (x ≠ Bc ∧ w.heap.size + 1 < x) ∧ x < wr.heap.size) fun x hx hl => ⟨hx, hl⟩
          have hts := hL.2 _ (List.mem_of_getElem? hbj) ps[k] (List.getElem_mem hkl)
          obtain ⟨g, n, cap, x, of', cp, hv, hn, b0, ⟨q0, q1, q2⟩, ⟨hSx, hSf⟩, _⟩ := hOr.page hbj (p := k) hkl
          injection hv with e1 e2 e3
          subst e1 e3
          have HBJ := hide hbj
          have HL := hide hL
          clear hbj hL e2 hn hO
          have HKL := hide hkl
          generalize hpg : ps[k] = pg at *
          obtain ⟨pw, pd, pt⟩ := pg
          simp only [] at q0 q1 q2 hts
          have HPG := hide hpg
          clear hpg
          have HP : Hid (∀ w', Mem wr w' → w'.cell? ⟨x, of' + k * 3, none⟩ = some (.bool pw) ∧ w'.cell? ⟨x, of' + k * 3 + 1, none⟩ = some (.string pd) ∧ w'.cell? ⟨x, of' + k * 3 + 2, none⟩ = some (.string pt)) := fun w' m => ⟨(Below.cell m (p := ⟨x, of' + k * 3, none⟩) hSx.2).trans q0, (Below.cell m (p := ⟨x, of' + k * 3 + 1, none⟩) hSx.2).trans q1, (Below.cell m (p := ⟨x, of' + k * 3 + 2, none⟩) hSx.2).trans q2⟩
          have HX := hide hX
          have HR := hide hR
          have HM := hide hm
          have HOr := hide hOr
          clear hX hR hm hOr
          have HDC := hide (fun (w' : World) (_ : Mem wr w') => refDecodeO pt pd w' hts)
          have N0 := hide (Mem.drew (Mem.refl wr))
          have NZ := hide (((Mem.refl wr).alloc (.cells #[.int .i64 0, .int .i64 0, .slice none 0 0, .slice none 0 0] 47)).drew)
          have NL : Hid (wr.heap.size + 1 ≤ (wr.alloc (.cells #[.int .i64 0, .int .i64 0, .slice none 0 0, .slice none 0 0] 47)).drew.heap.size) := by show _ ≤ (wr.heap.push _).size; simp
          unfold DecOwn at HDC
          generalize Tag.decode pt.data.toList pd.data.toList = dec at HDC
          generalize decR dec = dr at HDC
          generalize decE dec = de at HDC
          obtain ⟨rk, rs, ks0, vs0⟩ := dr
          simp only [] at HDC
          go_wp2_with fail
          go_region_held3 (fun w' => w'.cell? ⟨x, of' + k * 3, none⟩ = some (.bool pw) ∧ w'.cell? ⟨x, of' + k * 3 + 1, none⟩ = some (.string pd) ∧ w'.cell? ⟨x, of' + k * 3 + 2, none⟩ = some (.string pt))
            (first
              | with_reducible exact HP.out _ N0.out
              | with_reducible exact HP.out _ NZ.out
              | with_reducible exact HP.out _ N1.out
              | with_reducible exact HP.out _ (Mem.alloc N1.out _)
              | exact HP.out _ (Mem.put4 N1.out (Nat.le_refl _) _ _ _ _))
            (first
              | (go_at_call 32; with_reducible refine (HDC.out _ N0.out).mono ?_; rintro e u1 ⟨⟨vk, vv, rfl, ik, iv, pk, pv, bv, nv, ho⟩, nn1⟩; have N1 : Hid (Mem wr u1) := hide (Mem.trans N0.out nn1); obtain ⟨ok, ck, rfl⟩ := ik.shape; obtain ⟨ov, cv, rfl⟩ := iv.shape; have HO := hide ho; clear ho)
              | (go_at_call 32; with_reducible refine (HDC.out _ NZ.out).mono ?_; rintro e u1 ⟨⟨vk, vv, rfl, ik, iv, pk, pv, bv, nv, ho⟩, nn1⟩; have N1 : Hid (Mem wr u1) := hide (Mem.trans NZ.out nn1); obtain ⟨ok, ck, rfl⟩ := ik.shape; obtain ⟨ov, cv, rfl⟩ := iv.shape; have HO := hide ho; clear ho; have hD := ((Blk.new wr #[.int .i64 0, .int .i64 0, .slice none 0 0, .slice none 0 0] 47).drew).mem nn1; have g0 := hD.cell (j := 0) rfl; have g1 := hD.cell (j := 1) rfl; have g2 := hD.cell (j := 2) rfl; have g3 := hD.cell (j := 3) rfl; have f0 := hD.frozen 0; have f1 := hD.frozen 1; have f2 := hD.frozen 2; have f3 := hD.frozen 3))
          all_goals (first
            | (have hBX := hD.put4 (.int .i64 rk) (.int .i64 rs) (.slice ok ks0.length ck) (.slice ov vs0.length cv)
               have N2 := Mem.put4 (b := wr.heap.size) N1.out (Nat.le_refl _) (.int .i64 rk) (.int .i64 rs) (.slice ok ks0.length ck) (.slice ov vs0.length cv)
               have hBY : wr.heap.size ≤ wr.heap.size := Nat.le_refl _
               have HV : Hid (∀ a, ov = some a → wr.heap.size ≤ a.block ∧ a.block ≠ wr.heap.size ∧ Soft ((((u1.setCell ⟨wr.heap.size, 0, none⟩ (.int .i64 rk)).setCell ⟨wr.heap.size, 1, none⟩ (.int .i64 rs)).setCell ⟨wr.heap.size, 2, none⟩ (.slice ok ks0.length ck)).setCell ⟨wr.heap.size, 3, none⟩ (.slice ov vs0.length cv)) a.block) := by
                 intro a ha
                 have h1 := pv a _ _ (by rw [ha])
                 have h2 := NL.out
                 have h3 : Soft u1 a.block := by have := HO.out; rw [ha] at this; exact owns_soft this
                 exact ⟨by omega, by omega, (((h3.setCell _ _).setCell _ _).setCell _ _).setCell _ _⟩
               replace ik := ik.put4 (b := wr.heap.size) (pk.mono NL.out) (.int .i64 rk) (.int .i64 rs) (.slice ok ks0.length ck) (.slice ov vs0.length cv)
               replace iv := iv.put4 (b := wr.heap.size) (pv.mono NL.out) (.int .i64 rk) (.int .i64 rs) (.slice ok ks0.length ck) (.slice ov vs0.length cv)
               clear N1 hD g0 g1 g2 g3 f0 f1 f2 f3 HO pk pv N0 NZ NL HDC
               generalize hux : (((u1.setCell ⟨wr.heap.size, 0, none⟩ (.int .i64 rk)).setCell ⟨wr.heap.size, 1, none⟩ (.int .i64 rs)).setCell ⟨wr.heap.size, 2, none⟩ (.slice ok ks0.length ck)).setCell ⟨wr.heap.size, 3, none⟩ (.slice ov vs0.length cv) = ux at *
               obtain ⟨BY, hby⟩ : ∃ BY, BY = wr.heap.size := ⟨_, rfl⟩
               clear hux)
            | (have hBX := Blk.new u1 #[.int .i64 rk, .int .i64 rs, .slice ok ks0.length ck, .slice ov vs0.length cv] 47
               have mA : Mem u1 (u1.alloc (.cells #[.int .i64 rk, .int .i64 rs, .slice ok ks0.length ck, .slice ov vs0.length cv] 47)) := (Mem.refl u1).alloc _
               have N2 := Mem.trans N1.out mA
               have hBY : wr.heap.size ≤ u1.heap.size := N1.out.size
               have HV : Hid (∀ a, ov = some a → wr.heap.size ≤ a.block ∧ a.block ≠ u1.heap.size ∧ Soft (u1.alloc (.cells #[.int .i64 rk, .int .i64 rs, .slice ok ks0.length ck, .slice ov vs0.length cv] 47)) a.block) := by
                 intro a ha
                 have h1 : wr.heap.size ≤ a.block := pv a _ _ (by rw [ha])
                 have h4 := HO.out
                 rw [ha] at h4
                 have h3 : Soft u1 a.block := owns_soft h4
                 have h5 : a.block < u1.heap.size := (h4.lt a.block rfl).2
                 exact ⟨h1, by omega, h3.mem mA h5⟩
               replace ik := ik.mem mA
               replace iv := iv.mem mA
               clear N1 mA HO pk pv N0 NZ NL HDC
               generalize hux : u1.alloc (.cells #[.int .i64 rk, .int .i64 rs, .slice ok ks0.length ck, .slice ov vs0.length cv] 47) = ux at *
               obtain ⟨BY, hby⟩ : ∃ BY, BY = u1.heap.size := ⟨_, rfl⟩
               clear hux))
          all_goals (
            have hBY2 : wr.heap.size ≤ BY := by rw [hby]; exact hBY
            have HV2 : Hid (∀ a, ov = some a → wr.heap.size ≤ a.block ∧ a.block ≠ BY ∧ Soft ux a.block) := by intro a ha; rw [hby]; exact HV.out a ha
            rw [← hby] at hBX ⊢
            clear HV hBY hby
            have hX1 := HX.out.mem N2
            have hR1 := HR.out.mem N2
            have hm1 := HM.out.trans N2
            have hO1 := HOr.out.mem N2
            have HOX := hide (hO1.mono (S' := (fun x => x ≠ Bc ∧ w.heap.size + 1 < x)) fun x hx _ => hx.1)
            obtain ⟨q0, q1, q2⟩ := HP.out _ N2
            have r0 := hBX.cell (j := 0) rfl
            have r1 := hBX.cell (j := 1) rfl
            have r2 := hBX.cell (j := 2) rfl
            have r3 := hBX.cell (j := 3) rfl
            have b1 := (Below.cell N2 (p := ⟨g, j * 4, none⟩) (World.block_lt_of_cell? wr _ b0)).trans b0
            have hgl := World.block_lt_of_cell? wr _ b0
            have hkn : k + 1 ≤ pl := by have h1 := HPL.out; have h2 := HKL.out; omega
            have HBC : Hid (Bc < wr.heap.size ∧ w.heap.size + 1 < wr.heap.size) := ⟨HX.out.lt, HR.out.lt⟩
            have hwpm : w.heap.size ≤ wr.heap.size := HM.out.size
            clear HP N2 b0 HX HR HM HOr c0
            obtain ⟨wp, hwp⟩ : ∃ x, x = wr := ⟨_, rfl⟩
            subst hwp
            cases pw with
            | false =>
              go_wp2_with fail
              go_roundw
              case rel => exact ⟨k + 1, bs', hkn, HL.out, by go_num, hX1, HOX.out, hR1, hm1⟩
              case measure => simp [intOf]; omega
            | true =>
              by_cases hde : de = 0
              · have hde2 : (de != 0) = false := by simp [hde]
                by_cases hrk : rk = 2
                · have hrk2 : (rk != 2) = false := by simp [hrk]
                  subst hde hrk
                  have hvl := iv.1
                  unfold maxLen at hvl
                  go_wp2_with fail
                  go_loopw [9] (fun i wq => ∃ (m : Nat) (zs ks : List Int), m ≤ vs0.length ∧ i = .int .i64 m ∧ (zs.length = vs0.length ∧ ks.length = ks0.length) ∧ Ints .i64 wq (.slice ov vs0.length cv) zs ∧ Ints .i64 wq (.slice ok ks0.length ck) ks ∧ Blk wq BY 47 #[.int .i64 2, .int .i64 rs, .slice ok ks0.length ck, .slice ov vs0.length cv] ∧ (∀ a, ov = some a → Soft wq a.block) ∧ Blk wq Bc 26 #[.slice (some ⟨g, 0, none⟩) bs.length cc, .bool br, .bool off, .int .i64 ops] ∧ OwnS (fun x => (x ≠ Bc ∧ w.heap.size + 1 < x) ∧ x < wp.heap.size) wq (.slice (some ⟨g, 0, none⟩) bs.length cc) bs' ∧ Blk wq (w.heap.size + 1) 26 #[.slice none 0 0, .bool false, .bool false, .int .i64 0] ∧ Mem w wq ∧ wq.cell? ⟨g, j * 4, none⟩ = some (.slice (some ⟨x, of', none⟩) ps.length cp)) (fun i _ => vs0.length - (intOf i).toNat)
                  case atStart => exact ⟨0, vs0, ks0, Nat.zero_le _, rfl, ⟨rfl, rfl⟩, iv, ik, hBX, fun a ha => (HV2.out a ha).2.2, hX1, hO1, hR1, hm1, b1⟩
                  case round =>
                    have HVB : Hid (∀ a, ov = some a → wp.heap.size ≤ a.block ∧ a.block ≠ BY) := fun a ha => ⟨(HV2.out a ha).1, (HV2.out a ha).2.1⟩
                    clear iv ik hBX hX1 hO1 hR1 hm1 b1 HOX q0 q1 q2 r0 r1 r2 r3 HV2
                    obtain ⟨m, zs, ks, hmle, rfl, ⟨hzl, hkl2⟩, iv, ik, hBX, hsf, hX1, hO1, hR1, hm1, b1⟩ := hrel
                    have HZL := hide hzl
                    have HKL2 := hide hkl2
                    clear hzl hkl2
                    have r0 := hBX.cell (j := 0) rfl
                    have r1 := hBX.cell (j := 1) rfl
                    have r2 := hBX.cell (j := 2) rfl
                    have r3 := hBX.cell (j := 3) rfl
                    have hmi : (0 : Int) ≤ (m : Int) := by omega
                    by_cases hml : m < vs0.length
                    · have hml' : (m : Int) < (vs0.length : Int) := by omega
                      obtain ⟨vbk, vo, rfl, hc⟩ := iv.at (by have := HZL.out; omega)
                      have zc := hc m (by have := HZL.out; omega)
                      have fz := hsf _ rfl (vo + m)
                      obtain ⟨hvw, hvb⟩ := HVB.out _ rfl
                      simp only [] at hvw hvb
                      generalize zs.getD m 0 = z at zc
                      clear hc
                      have HREL : Hid (∀ z', ∃ zs' ks' : List Int, (zs'.length = vs0.length ∧ ks'.length = ks0.length) ∧ Ints .i64 (wr.setCell ⟨vbk, vo + m, none⟩ (.int .i64 z')).drew (.slice (some ⟨vbk, vo, none⟩) vs0.length cv) zs' ∧ Ints .i64 (wr.setCell ⟨vbk, vo + m, none⟩ (.int .i64 z')).drew (.slice ok ks0.length ck) ks' ∧ Blk (wr.setCell ⟨vbk, vo + m, none⟩ (.int .i64 z')).drew BY 47 #[.int .i64 2, .int .i64 rs, .slice ok ks0.length ck, .slice (some ⟨vbk, vo, none⟩) vs0.length cv] ∧ (∀ a, some (⟨vbk, vo, none⟩ : Addr) = some a → Soft (wr.setCell ⟨vbk, vo + m, none⟩ (.int .i64 z')).drew a.block) ∧ Blk (wr.setCell ⟨vbk, vo + m, none⟩ (.int .i64 z')).drew Bc 26 #[.slice (some ⟨g, 0, none⟩) bs.length cc, .bool br, .bool off, .int .i64 ops] ∧ OwnS (fun x => (x ≠ Bc ∧ w.heap.size + 1 < x) ∧ x < wp.heap.size) (wr.setCell ⟨vbk, vo + m, none⟩ (.int .i64 z')).drew (.slice (some ⟨g, 0, none⟩) bs.length cc) bs' ∧ Blk (wr.setCell ⟨vbk, vo + m, none⟩ (.int .i64 z')).drew (w.heap.size + 1) 26 #[.slice none 0 0, .bool false, .bool false, .int .i64 0] ∧ Mem w (wr.setCell ⟨vbk, vo + m, none⟩ (.int .i64 z')).drew ∧ (wr.setCell ⟨vbk, vo + m, none⟩ (.int .i64 z')).drew.cell? ⟨g, j * 4, none⟩ = some (.slice (some ⟨x, of', none⟩) ps.length cp)) := by
                        intro z'
                        obtain ⟨zs', l1, i1⟩ := Ints.poke iv zc z'
                        obtain ⟨ks', l2, i2⟩ := Ints.poke ik zc z'
                        have md := (Mem.refl (wr.setCell ⟨vbk, vo + m, none⟩ (.int .i64 z'))).drew
                        refine ⟨zs', ks', ⟨by rw [l1, HZL.out], by rw [l2, HKL2.out]⟩, i1.mem md, i2.mem md, (hBX.other (a := ⟨vbk, vo + m, none⟩) (Ne.symm hvb) _).drew, fun a ha => ?_, (hX1.other (a := ⟨vbk, vo + m, none⟩) (by show Bc ≠ vbk; have := HBC.out; omega) _).drew, (hO1.setCell (p := ⟨vbk, vo + m, none⟩) (fun h => by have h2 : vbk < wp.heap.size := h.2; omega) _).mem md, (hR1.other (a := ⟨vbk, vo + m, none⟩) (by show w.heap.size + 1 ≠ vbk; have := HBC.out; omega) _).drew, (hm1.setCell (p := ⟨vbk, vo + m, none⟩) (by show w.heap.size ≤ vbk; omega) _).drew, ?_⟩
                        · injection ha with ha
                          subst ha
                          exact fun off => (hsf _ rfl).setCell _ _ off
                        · exact (World.cell?_setCell_far _ _ _ _ (by show vbk ≠ g; omega)).trans b1
                      by_cases hz0 : 0 ≤ z
                      · have hd : decide (0 ≤ z) = true := decide_eq_true hz0
                        clear iv ik hsf hX1 hO1 hR1 hm1 b1
                        go_wp2_with fail
                        go_region
                        all_goals (
                          go_wp2_with fail
                          go_roundw
                          case rel => exact (HREL.out _).elim fun zs' h => h.elim fun ks' h => ⟨m + 1, zs', ks', by omega, by go_num, h⟩
                          case measure => simp [intOf]; omega)
                      · have hd : decide (0 ≤ z) = false := decide_eq_false hz0
                        have hzn : z < 0 := by omega
                        clear HREL
                        go_wp2_with fail
                        go_roundw
                        case rel => exact ⟨m + 1, zs, ks, by omega, by go_num, ⟨HZL.out, HKL2.out⟩, iv, ik, hBX, hsf, hX1, hO1, hR1, hm1, b1⟩
                        case measure => simp [intOf]; omega
                    · have hme : m = vs0.length := by omega
                      have hml' : ¬ ((m : Int) < (vs0.length : Int)) := by omega
                      subst hme
                      go_wp2_with fail
                      have HOF := hide (fun (w' : World) (m : Mem wr w') => lawOf 2 rs ok ov ck cv ks zs pd w' (by have := ik.mem m; rw [← HKL2.out] at this; exact this) (by have := iv.mem m; rw [← HZL.out] at this; exact this))
                      rw [HKL2.out, HZL.out] at HOF
                      have HRB : Hid (∀ w', Mem wr w' → w'.cell? ⟨BY, 0, none⟩ = some (.int .i64 2) ∧ w'.cell? ⟨BY, 1, none⟩ = some (.int .i64 rs) ∧ w'.cell? ⟨BY, 2, none⟩ = some (.slice ok ks0.length ck) ∧ w'.cell? ⟨BY, 3, none⟩ = some (.slice ov vs0.length cv)) := fun w' m => ⟨(hBX.mem m).cell (j := 0) rfl, (hBX.mem m).cell (j := 1) rfl, (hBX.mem m).cell (j := 2) rfl, (hBX.mem m).cell (j := 3) rfl⟩
                      have HD0 := hide (Mem.drew (Mem.refl wr))
                      have HP9 : Hid (∀ w', Mem wr w' → (w'.cell? ⟨x, of' + k * 3, none⟩ = some (.bool true) ∧ w'.cell? ⟨x, of' + k * 3 + 1, none⟩ = some (.string pd) ∧ w'.cell? ⟨x, of' + k * 3 + 2, none⟩ = some (.string pt)) ∧ (((x ≠ Bc ∧ w.heap.size + 1 < x) ∧ x < wp.heap.size) ∧ Soft w' x) ∧
                          ∀ pg, OwnS (fun x => (x ≠ Bc ∧ w.heap.size + 1 < x) ∧ x < wp.heap.size) (set3 w' x (of' + k * 3) pg) (.slice (some ⟨g, 0, none⟩) bs.length cc) (bs'.set j (ps.set k pg, nx, er, bd))) := by
                        intro w' m
                        obtain ⟨⟨h0, h1, h2⟩, hs, hset⟩ := pageAt (hO1.mem m) HBJ.out (p := k) HKL.out ((Below.cell m (p := ⟨g, j * 4, none⟩) (World.block_lt_of_cell? wr _ b1)).trans b1)
                        exact ⟨⟨h0.trans (congrArg (fun q : PageT => some (Value.bool q.1)) HPG.out), h1.trans (congrArg (fun q : PageT => some (Value.string q.2.1)) HPG.out), h2.trans (congrArg (fun q : PageT => some (Value.string q.2.2)) HPG.out)⟩, hs, hset⟩
                      obtain ⟨⟨q0, q1, q2⟩, ⟨hSx2, _⟩, _⟩ := HP9.out _ HD0.out
                      have HXB : Hid (x ≠ BY ∧ x ≠ Bc ∧ w.heap.size + 1 < x) := ⟨by have := hSx2.2; omega, hSx2.1.1, hSx2.1.2⟩
                      have HPS := hide (enc_small (k := 2) (s := rs) (ks := ks) (vs := zs) (l := pd.data.toList) (data := pd))
                      generalize hmk : mkPage pd (enc 2 rs ks zs pd.data.toList) = pgn at *
                      have HMX := hide hX1
                      have HMR := hide hR1
                      have HMM := hide hm1
                      clear hmk hX1 hR1 hm1 hO1 hBX iv ik hsf b1 r0 r1 r2 r3 HVB
                      obtain ⟨nw, nd, nt⟩ := pgn
                      simp only [] at HPS
                      refine wp_region_held_drew (S := (fun w' => w'.cell? ⟨BY, 0, none⟩ = some (.int .i64 2) ∧ w'.cell? ⟨BY, 1, none⟩ = some (.int .i64 rs) ∧ w'.cell? ⟨BY, 2, none⟩ = some (.slice ok ks0.length ck) ∧ w'.cell? ⟨BY, 3, none⟩ = some (.slice ov vs0.length cv))) (by kernel_rfl) (HRB.out _ HD0.out) (fun hHeld => ?_)
                      refine takeH_at (i := 0) (d := 87) (v := ?_) rfl (by kernel_rfl) (by kernel_rfl) (by kernel_rfl) (fun _ _ _ h => h) rfl (Or.inl ⟨by rfl, ?hy⟩) (by assumption) ?_
                      case hy => (intro w hSw; (try dsimp only at hSw); (go_simp <;> with_reducible rfl))
                      simp only [List.setIfInBounds_toArray, List.set_cons_zero, List.set_cons_succ]
                      refine takeH_at (i := 1) (d := 88) (v := ?_) rfl (by kernel_rfl) (by kernel_rfl) (by kernel_rfl) (fun _ _ _ h => h) rfl (Or.inl ⟨by rfl, ?hy⟩) (by assumption) ?_
                      case hy => (intro w hSw; (try dsimp only at hSw); (go_simp <;> with_reducible rfl))
                      simp only [List.setIfInBounds_toArray, List.set_cons_zero, List.set_cons_succ]
                      refine takeH_at (i := 2) (d := 89) (v := ?_) rfl (by kernel_rfl) (by kernel_rfl) (by kernel_rfl) (fun _ _ _ h => h) rfl (Or.inl ⟨by rfl, ?hy⟩) (by assumption) ?_
                      case hy => (intro w hSw; (try dsimp only at hSw); (go_simp <;> with_reducible rfl))
                      simp only [List.setIfInBounds_toArray, List.set_cons_zero, List.set_cons_succ]
                      refine takeH_at (i := 3) (d := 90) (v := ?_) rfl (by kernel_rfl) (by kernel_rfl) (by kernel_rfl) (fun _ _ _ h => h) rfl (Or.inl ⟨by rfl, ?hy⟩) (by assumption) ?_
                      case hy => (intro w hSw; (try dsimp only at hSw); (go_simp <;> with_reducible rfl))
                      simp only [List.setIfInBounds_toArray, List.set_cons_zero, List.set_cons_succ]
                      refine takeH_at (i := 4) (d := 91) (v := ?_) rfl (by kernel_rfl) (by kernel_rfl) (by kernel_rfl) (fun _ _ _ h => h) rfl (Or.inl ⟨by rfl, ?hy⟩) (by assumption) ?_
                      case hy => (intro w hSw; (try dsimp only at hSw); (go_simp <;> with_reducible rfl))
                      simp only [List.setIfInBounds_toArray, List.set_cons_zero, List.set_cons_succ]
                      refine wpAnyH_ready (rs := [5]) (by kernel_rfl) (by simp) ?_
                      refine AllReadyH.cons rfl (fun K hK => ?_) AllReadyH.nil
                      rw [if_pos (by rfl)]
                      go_simp
                      refine hK.out _ _ (HRB.out _ HD0.out) (fun hHeld2 => ?_)
                      clear hK K
                      try simp only [Act.put, List.setIfInBounds_toArray, List.set_cons_zero, List.set_cons_succ]
                      refine wpAnyH_ready (rs := [6]) (by kernel_rfl) (by simp) ?_
                      refine AllReadyH.cons rfl (fun K hK => ?_) AllReadyH.nil
                      rw [if_pos (by rfl)]
                      go_simp
                      go_at_call 18
                      refine (HOF.out _ HD0.out).mono ?_
                      rintro e w9 ⟨rfl, n9⟩
                      have M9 := hide (Mem.trans HD0.out n9)
                      go_wp2_with fail
                      refine hK.out _ _ (HRB.out _ M9.out) (fun hHeld3 => ?_)
                      clear hK K
                      try simp only [Act.put, List.setIfInBounds_toArray, List.set_cons_zero, List.set_cons_succ]
                      refine takeH_at (i := 7) (d := 94) (v := ?_) rfl (by kernel_rfl) (by kernel_rfl) (by kernel_rfl) (fun _ _ _ h => h) rfl (Or.inl ⟨by rfl, ?hy⟩) (by assumption) ?_
                      case hy => (intro w hSw; (try dsimp only at hSw); (go_simp <;> with_reducible rfl))
                      simp only [List.setIfInBounds_toArray, List.set_cons_zero, List.set_cons_succ]
                      refine wpAnyH_ready (rs := [8]) (by kernel_rfl) (by simp) ?_
                      refine AllReadyH.cons rfl (fun K hK => ?_) AllReadyH.nil
                      rw [if_pos (by rfl)]
                      obtain ⟨⟨p0, p1, p2⟩, ⟨_, hsx⟩, _⟩ := HP9.out _ M9.out
                      have s0 := hsx (of' + k * 3)
                      have s1 := hsx (of' + k * 3 + 1)
                      have s2 := hsx (of' + k * 3 + 2)
                      go_simp
                      refine hK.out _ _ ((by obtain ⟨e0, e1, e2, e3⟩ := HRB.out _ M9.out; have hne := HXB.out.1; exact ⟨by rw [World.cell?_setCell_far _ _ _ _ hne, World.cell?_setCell_far _ _ _ _ hne, World.cell?_setCell_far _ _ _ _ hne]; exact e0, by rw [World.cell?_setCell_far _ _ _ _ hne, World.cell?_setCell_far _ _ _ _ hne, World.cell?_setCell_far _ _ _ _ hne]; exact e1, by rw [World.cell?_setCell_far _ _ _ _ hne, World.cell?_setCell_far _ _ _ _ hne, World.cell?_setCell_far _ _ _ _ hne]; exact e2, by rw [World.cell?_setCell_far _ _ _ _ hne, World.cell?_setCell_far _ _ _ _ hne, World.cell?_setCell_far _ _ _ _ hne]; exact e3⟩)) (fun hHeld4 => ?_)
                      clear hK K
                      try simp only [Act.put, List.setIfInBounds_toArray, List.set_cons_zero, List.set_cons_succ]
                      refine wpAnyH_done (by kernel_rfl) ?_ _

                      have hL9 := HL.out.set HBJ.out (p := k) (pg := (nw, nd, nt)) HPS.out
                      have hO9 := ((HP9.out _ M9.out).2.2 (nw, nd, nt)).mono (S' := (fun x => x ≠ Bc ∧ w.heap.size + 1 < x)) fun y hy _ => hy.1
                      have hX9 := ((((HMX.out.mem M9.out).other (a := ⟨x, of' + k * 3, none⟩) (Ne.symm HXB.out.2.1) (.bool nw)).other (a := ⟨x, of' + k * 3 + 1, none⟩) (Ne.symm HXB.out.2.1) (.string nd)).other (a := ⟨x, of' + k * 3 + 2, none⟩) (Ne.symm HXB.out.2.1) (.string nt))
                      have hR9 := ((((HMR.out.mem M9.out).other (a := ⟨x, of' + k * 3, none⟩) (Nat.ne_of_lt HXB.out.2.2) (.bool nw)).other (a := ⟨x, of' + k * 3 + 1, none⟩) (Nat.ne_of_lt HXB.out.2.2) (.string nd)).other (a := ⟨x, of' + k * 3 + 2, none⟩) (Nat.ne_of_lt HXB.out.2.2) (.string nt))
                      have hM9 := (((HMM.out.trans M9.out).setCell (p := ⟨x, of' + k * 3, none⟩) (by show w.heap.size ≤ x; have := HXB.out.2.2; omega) (.bool nw)).setCell (p := ⟨x, of' + k * 3 + 1, none⟩) (by show w.heap.size ≤ x; have := HXB.out.2.2; omega) (.string nd)).setCell (p := ⟨x, of' + k * 3 + 2, none⟩) (by show w.heap.size ≤ x; have := HXB.out.2.2; omega) (.string nt)
                      go_wp2_with fail
                      go_roundw
                      case rel => exact ⟨k + 1, _, hkn, hL9, by go_num, hX9, hO9, hR9, hM9⟩
                      case measure => simp [intOf]; omega
                · have hrk2 : (rk != 2) = true := by simp [hrk]
                  go_wp2_with fail
                  go_roundw
                  case rel => exact ⟨k + 1, bs', hkn, HL.out, by go_num, hX1, HOX.out, hR1, hm1⟩
                  case measure => simp [intOf]; omega
              · have hde2 : (de != 0) = true := by simp [hde]
                go_wp2_with fail
                go_roundw
                case rel => exact ⟨k + 1, bs', hkn, HL.out, by go_num, hX1, HOX.out, hR1, hm1⟩
                case measure => simp [intOf]; omega)
        · have hkl' : ¬ ((k : Int) < (ps.length : Int)) := by omega
          obtain ⟨g, f, op, cp, rfl, _, x0, _, _, _, _⟩ := hO.to.at (i := j) hjb
          have hgl : bs'[j].1.length = ps.length := by
            obtain ⟨_, e⟩ := List.getElem?_eq_some_iff.1 hbj
            rw [e]
          rw [hgl] at x0
          have HO := hide hO
          have HL := hide hL
          clear hO hgl hbj hL
          go_wp2_with fail
          go_roundw
          case rel => exact ⟨j + 1, bs', by omega, HL.out, by go_num, hX, HO.out, hR, hm⟩
          case measure => simp [intOf]; omega
    · have hlt' : ¬ ((j : Int) < (bs.length : Int)) := by omega
      have hO2 := hide hO
      have HL := hide hL
      have z0 := hR.frozen 0
      have z1 := hR.frozen 1
      have z2 := hR.frozen 2
      have z3 := hR.frozen 3
      have y0 := hR.cell (j := 0) rfl
      have y1 := hR.cell (j := 1) rfl
      have y2 := hR.cell (j := 2) rfl
      have y3 := hR.cell (j := 3) rfl
      clear hO hlen hL
      go_wp2_with fail
      refine bodyPost_ret (ret_chip1 rfl _ _ rfl (hR.put4 _ _ _ _)) rfl ⟨?_, hm.put4 (Nat.le_succ _) _ _ _ _⟩
      exact ⟨.slice oc bs.length cc, bs', rfl, ((hO2.out.put4 (b := w.heap.size + 1) (fun h => by have := h.2; omega) _ _ _ _).mono fun x hx _ => by have := hx.2; omega).to, HL.out⟩
end Go.Proofs.Ytedopplldpcinaa.Plan
