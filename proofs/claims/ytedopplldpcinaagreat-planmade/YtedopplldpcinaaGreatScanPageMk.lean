/-
  Layer 6: pages by numbers.
-/
import Derived.Test.YtedopplldpcinaaGreatScanLow
import Derived.Test.YtedopplldpcinaaGreatTagMakes
namespace Go.Proofs.YtedopplldpcinaaGreat.Scan
open Go.RowKit Go.Proofs.YtedopplldpcinaaGreat.Nand Go.Proofs.YtedopplldpcinaaGreat.Tag Go.Proofs.YtedopplldpcinaaGreat.Pack

theorem right_long {k s : Int} {ks vs : List Int} (hr : right k s ks vs = true) (data : List UInt8) : (tagOf k s ks vs data).length ≤ 60 := by
  obtain ⟨hs, ⟨h1, h8, hk⟩, hkind, hvl, hv⟩ := right_parts hr
  rw [tag_length]
  have p1 : packI [k, s] = pack (nats [k, s]) := packI_nats (by
    intro z hz
    rcases List.mem_cons.1 hz with rfl | hz
    · omega
    · have : z = s := by simpa using hz
      omega)
  have p2 : packI ks = pack (nats ks) := packI_nats (fun z hz => by have := hk z hz; omega)
  have p3 : packI (up vs) = pack (nats (up vs)) := packI_nats (up_mem hv)
  unfold body
  rw [p1, p2, p3]
  unfold pack
  have n1 : (nats [k, s]).length = 2 := by simp [nats]
  have n2 : (nats ks).length = ks.length := by simp [nats]
  have n3 : (nats (up vs)).length = vs.length := by simp [nats, up]
  have c1 : (put (nats [k, s]).length).length ≤ 1 := put_len _ 0 (by rw [n1]; omega)
  have c2 : (put (nats ks).length).length ≤ 1 := put_len _ 0 (by rw [n2]; omega)
  have c3 : (put (nats (up vs)).length).length ≤ 1 := put_len _ 0 (by rw [n3]; omega)
  have d1 : (puts (nats [k, s])).length ≤ 7 := by
    have e : nats [k, s] = [k.toNat, s.toNat] := rfl
    rw [e, puts_cons, puts_cons, puts_nil, List.append_nil, List.length_append]
    have a1 : (put k.toNat).length ≤ 1 := put_len _ 0 (by omega)
    have a2 : (put s.toNat).length ≤ 6 := put_len _ 5 (by omega)
    omega
  have d2 : (puts (nats ks)).length ≤ 1 * (nats ks).length := puts_le fun n hn => put_len _ 0 (by
    have := nats_le (b := 63) (fun z hz => by have := hk z hz; omega) n hn
    omega)
  have d3 : (puts (nats (up vs))).length ≤ 2 * (nats (up vs)).length := puts_le fun n hn => put_len _ 1 (by
    have := nats_le (l := up vs) (b := 512) (fun z hz => by
      obtain ⟨y, hy, rfl⟩ := List.mem_map.1 hz
      have := hv y hy
      omega) n hn
    omega)
  simp only [List.length_append]
  omega
theorem made_right' (z : List Int) {s : Int} (h0 : 0 ≤ s) (h1 : s ≤ 1099511627776) : right (mkK z) s (mkKeys z) (mkVals z) = true := by
  have h := made_right z
  unfold right at *
  simp only [Bool.and_eq_true] at h
  rw [h.1.2, h.2]
  simp only [seqOk, Bool.and_true, Bool.and_eq_true, decide_eq_true_eq]
  exact ⟨h0, h1⟩

def mkPage (data : ByteArray) : Option (List UInt8) → PageT
  | none => zeroPage
  | some t => (true, data, ⟨t.toArray⟩)
/-- the page of a Seq and of numbers -/
def pageMk (s : Int) (z : List Int) : PageT := mkPage ⟨#[100]⟩ (enc (mkK z) s (mkKeys z) (mkVals z) [100])
theorem mkPage_size {data : ByteArray} {k s : Int} {ks vs : List Int} {l : List UInt8} (hd : data.size ≤ 100) : (mkPage data (enc k s ks vs l)).2.1.size ≤ 100 ∧ (mkPage data (enc k s ks vs l)).2.2.size ≤ 100 := by
  cases h : enc k s ks vs l with
  | none => exact ⟨Nat.zero_le _, Nat.zero_le _⟩
  | some t =>
    obtain ⟨hr, _, rfl⟩ := enc_some h
    refine ⟨hd, ?_⟩
    have := right_long hr l
    show (ByteArray.mk (tagOf k s ks vs l).toArray).size ≤ 100
    rw [show (ByteArray.mk (tagOf k s ks vs l).toArray).size = (tagOf k s ks vs l).length from by simp [ByteArray.size]]
    omega
theorem pageMk_size (s : Int) (z : List Int) : (pageMk s z).2.1.size ≤ 100 ∧ (pageMk s z).2.2.size ≤ 100 := mkPage_size (by decide)
theorem pageMk_is (z : List Int) {s : Int} (h0 : 0 ≤ s) (h1 : s ≤ 1099511627776) : pageMk s z = (true, ⟨#[100]⟩, ⟨(tagOf (mkK z) s (mkKeys z) (mkVals z) [100]).toArray⟩) := by
  unfold pageMk
  rw [enc_yes (made_right' z h0 h1) (by decide)]
  rfl
theorem pageMk_decode (z : List Int) {s : Int} (h0 : 0 ≤ s) (h1 : s ≤ 1099511627776) : Tag.decode (pageMk s z).2.2.data.toList (pageMk s z).2.1.data.toList = some (mkK z, s, mkKeys z, mkVals z) := by
  rw [pageMk_is z h0 h1]
  show Tag.decode (tagOf (mkK z) s (mkKeys z) (mkVals z) [100]).toArray.toList [100] = _
  rw [List.toList_toArray]
  exact Tag.decode_enc (enc_yes (made_right' z h0 h1) (by decide))
theorem pageMk_look (z : List Int) {s : Int} (h0 : 0 ≤ s) (h1 : s ≤ 1099511627776) : Look.look (pageMk s z).1 (pageMk s z).2.2.data.toList (pageMk s z).2.1.data.toList = (1, some (mkK z, s, mkKeys z, mkVals z)) := by
  have hd := pageMk_decode z h0 h1
  have hw : (pageMk s z).1 = true := by rw [pageMk_is z h0 h1]
  unfold Look.look
  rw [hw]
  simp only [hd]
theorem mkV_page (data : ByteArray) (o : Option (List UInt8)) : ∃ e : Int, Look.mkV data o = .tuple #[pageV (mkPage data o), .int .i64 e] := by
  cases o with
  | none => exact ⟨1, rfl⟩
  | some t => exact ⟨0, rfl⟩

theorem ret_page1 {fn : Func} {p : Tmp} (h : fn.results = #[.cell p 33]) (tmps : Array Value) (w : World) {b : Nat} {a0 a1 a2 : Value} (hp : tmps.getD p undef = .pointer (some ⟨b, 0, none⟩)) (hb : Blk w b 33 #[a0, a1, a2]) :
    (results fn tmps).run Tryz.prog w = .ok (.agg #[a0, a1, a2]) w :=
  results_cell_row h tmps w b 33 #[a0, a1, a2] (0, 0) _ hp hb Tryz.underlying33 rfl Nand.info_page

set_option maxHeartbeats 2000000 in
set_option maxRecDepth 100000 in
theorem lawPage (s : Int) (v : Value) (z : List Int) (w : World) (hz : Ints .u16 w v z) (hb : ∀ x ∈ z, 0 ≤ x ∧ x ≤ 65535) :
    Calls Tryz.prog 53 #[.int .i64 s, v] w fun e w' => e = .returned (pageV (pageMk s z)) ∧ Mem w w' := by
  have hR0 := Blk.new w #[.bool false, .string ⟨#[]⟩, .string ⟨#[]⟩] 33
  have hm0 : Mem w (w.alloc (.cells #[.bool false, .string ⟨#[]⟩, .string ⟨#[]⟩] 33)) := (Mem.refl w).alloc _
  replace hz := hz.mem hm0
  go_enter Tryz.func53, Tryz.ntmps53
  go_wp2_with fail
  generalize hW0 : w.alloc (.cells #[.bool false, .string ⟨#[]⟩, .string ⟨#[]⟩] 33) = W0 at *
  clear hW0
  refine (lawMade _ z _ hz hb).mono ?_
  rintro e w2 ⟨⟨vk, vv, rfl, hT⟩, m1⟩
  obtain ⟨ik, iv⟩ := hT.ints
  obtain ⟨ok, ck, rfl⟩ := owns_shape hT.1
  obtain ⟨ov, cv, rfl⟩ := owns_shape hT.2.1
  clear hT hz hb
  have ha : Mem w2 (w2.alloc (.cells #[.int .i64 (mkK z), .int .i64 s, .slice ok (mkKeys z).length ck, .slice ov (mkVals z).length cv] 50)) := (Mem.refl w2).alloc _
  have hR1 := hR0.mem (m1.trans ha)
  have hm1 := hm0.trans (m1.trans ha)
  have ik1 := ik.mem ha
  have iv1 := iv.mem ha
  clear ik iv hR0 hm0 m1 ha
  go_wp2_with fail
  refine (Look.refMake (mkK z) s _ _ (mkKeys z) (mkVals z) ⟨#[100]⟩ _ ik1 iv1).mono ?_
  rintro e w3 ⟨rfl, m2⟩
  obtain ⟨en, hen⟩ := mkV_page ⟨#[100]⟩ (enc (mkK z) s (mkKeys z) (mkVals z) (⟨#[100]⟩ : ByteArray).data.toList)
  rw [hen]
  have HP : Hid (mkPage ⟨#[100]⟩ (enc (mkK z) s (mkKeys z) (mkVals z) (⟨#[100]⟩ : ByteArray).data.toList) = pageMk s z) := rfl
  rw [HP.out]
  clear hen HP
  generalize hpg : pageMk s z = pg at *
  have HPG := hide hpg
  clear hpg
  have hb2 : Mem w3 (w3.alloc (.cells #[.bool pg.1, .string pg.2.1, .string pg.2.2] 33)) := (Mem.refl w3).alloc _
  have hR2 := hR1.mem (m2.trans hb2)
  have hm2 := hm1.trans (m2.trans hb2)
  have z0 := hR2.cell (j := 0) rfl
  have z1 := hR2.cell (j := 1) rfl
  have z2 := hR2.cell (j := 2) rfl
  have f0 := hR2.frozen 0
  have f1 := hR2.frozen 1
  have f2 := hR2.frozen 2
  clear hR1 hm1 m2 hb2
  go_wp2_with fail
  exact bodyPost_ret (ret_page1 rfl _ _ rfl (hR2.put3 _ _ _)) rfl ⟨by rw [HPG.out], hm2.put3 (Nat.le_refl _) _ _ _⟩
end Go.Proofs.YtedopplldpcinaaGreat.Scan
