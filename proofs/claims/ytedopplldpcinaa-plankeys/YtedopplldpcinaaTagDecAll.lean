/-
  TagDecode, TagSame, Looks: in one text (merge.json).
-/
import Derived.Test.YtedopplldpcinaaTagRefDecode
import Derived.Defers
import Derived.Recover
import Derived.Laws.Pointers
import Derived.RegionTactic
import Derived.BigRegion
/-
  Layer 3: what is decoded: the lists are taken by a method that panics; what is recovered.
-/
namespace Go.Proofs.Ytedopplldpcinaa.Tag
open Go.RowKit Go.Proofs.Ytedopplldpcinaa.Pack Go.Proofs.Ytedopplldpcinaa.Crc

/-- a record as the one result -/
theorem ret_rec1 {fn : Func} {p : Tmp} (h : fn.results = #[.cell p 47]) (tmps : Array Value) (w : World) {b : Nat} {a0 a1 a2 a3 : Value} (hp : tmps.getD p undef = .pointer (some ⟨b, 0, none⟩)) (hb : Blk w b 47 #[a0, a1, a2, a3]) :
    (results fn tmps).run Try.prog w = .ok (.agg #[a0, a1, a2, a3]) w :=
  results_cell_row h tmps w b 47 #[a0, a1, a2, a3] (0, 0) _ hp hb Try.underlying47 rfl info_rec
abbrev boom : List PanicEntry := [{ v := .iface 50 (.int .i64 30), recovered := false }]
/-- what record takes: the three lists of a head of two numbers -/
def RecOk (o : Option (List Nat × List Nat × List Nat)) (base : Nat) (e : Ending) (w' : World) : Prop := match o with
  | none => e = .panicked boom
  | some (l, k, v) => if l.length = 2 then ∃ vk vv, e = .returned (.agg #[.int .i64 (i1 l), .int .i64 (i2 l), vk, vv]) ∧ Ints .i64 w' vk (ints k) ∧ Ints .i64 w' vv (down (ints v)) ∧ Past base vk ∧ Past base vv
    else e = .panicked boom

theorem RecOk.yes {x y : Nat} {k v : List Nat} {base : Nat} {e : Ending} {w' : World}
    (h : ∃ vk vv, e = .returned (.agg #[.int .i64 x, .int .i64 y, vk, vv]) ∧ Ints .i64 w' vk (ints k) ∧ Ints .i64 w' vv (down (ints v)) ∧ Past base vk ∧ Past base vv) : RecOk (some ([x, y], k, v)) base e w' := by
  have e2 : ([x, y] : List Nat).length = 2 := rfl
  unfold RecOk
  simp only []
  rw [if_pos e2]
  exact h

/-! ### What the deferred function does -/
theorem load_errno {w : World} {b : Nat} {a : Value} (h : Blk w b 50 #[a]) : (loadVar 50 ⟨b, 0, none⟩).run Try.prog w = .ok a w := by
  have c := h.cell (j := 0) rfl
  simp [go_sem, c]
theorem ret_both {fn : Func} {p q : Tmp} (h : fn.results = #[.cell p 47, .cell q 50]) (tmps : Array Value) (w : World) {rb eb : Nat} {a0 a1 a2 a3 a4 : Value} (hp : tmps.getD p undef = .pointer (some ⟨rb, 0, none⟩)) (hq : tmps.getD q undef = .pointer (some ⟨eb, 0, none⟩))
    (hb : Blk w rb 47 #[a0, a1, a2, a3]) (he : Blk w eb 50 #[a4]) : (results fn tmps).run Try.prog w = .ok (.tuple #[.agg #[a0, a1, a2, a3], a4]) w := by
  have hp' : tmps[p]?.getD undef = .pointer (some ⟨rb, 0, none⟩) := by simpa using hp
  have hq' : tmps[q]?.getD undef = .pointer (some ⟨eb, 0, none⟩) := by simpa using hq
  simp [results, h, hp', hq', asAddr, load_rec hb, load_errno he]

end Go.Proofs.Ytedopplldpcinaa.Tag
/-
  Layer 3: records that are the same; what the statements ask of a record.
-/
namespace Go.Proofs.Ytedopplldpcinaa.Tag
open Go.RowKit Go.Proofs.Ytedopplldpcinaa.Pack Go.Proofs.Ytedopplldpcinaa.Crc

def recEq (k s : Int) (ks vs : List Int) (k' s' : Int) (ks' vs' : List Int) : Bool := decide (k = k') && decide (s = s') && decide (ks = ks') && decide (vs = vs')


/-! ### What any right program answers -/
def exTag : List UInt8 := [2, 1, 5, 1, 3, 0, 223, 158, 50, 33]
theorem ex_enc : enc 1 5 [3] [] [97, 98] = some exTag := by decide +kernel
theorem ex_back : decode exTag [97, 98] = some (1, 5, [3], []) := decode_enc ex_enc
theorem ex_data : decode exTag [97, 99] = none := decode_data (p := [97]) (q := []) (x := 98) (y := 99) ex_enc (by decide)
theorem ex_none : enc 0 0 [] [] [] = none := enc_no (by decide)
theorem ex_right : right 1 5 [3] [] = true := by decide

end Go.Proofs.Ytedopplldpcinaa.Tag
/-
  Layer 4: what a page is, and the page of a write: what the program and the document answer.
-/
namespace Go.Proofs.Ytedopplldpcinaa.Look
open Go.RowKit Go.Proofs.Ytedopplldpcinaa.Pack Go.Proofs.Ytedopplldpcinaa.Crc Go.Proofs.Ytedopplldpcinaa.Tag

/-- what a page is: 0, 1 or 2, and its record -/
def look (wr : Bool) (tg data : List UInt8) : Int × Option (Int × Int × List Int × List Int) :=
  match wr with
  | false => (0, none)
  | true => match Tag.decode tg data with
    | none => (2, none)
    | some r => (1, some r)
def LookOk (base : Nat) (q : Int × Option (Int × Int × List Int × List Int)) (e : Ending) (w' : World) : Prop :=
  ∃ vk vv, e = .returned (.tuple #[.int .i64 q.1, .agg #[.int .i64 (decR q.2).1, .int .i64 (decR q.2).2.1, vk, vv]]) ∧ Ints .i64 w' vk (decR q.2).2.2.1 ∧ Ints .i64 w' vv (decR q.2).2.2.2 ∧ Past base vk ∧ Past base vv
theorem LookOk.none (base : Nat) (n : Int) (w' : World) : LookOk base (n, none) (.returned (.tuple #[.int .i64 n, .agg #[.int .i64 0, .int .i64 0, .slice none 0 0, .slice none 0 0]])) w' :=
  ⟨_, _, rfl, Ints.nil _ _ _ _, Ints.nil _ _ _ _, Past.nil _ _ _, Past.nil _ _ _⟩
/-- the page of a write -/
def mkV (data : ByteArray) : Option (List UInt8) → Value
  | none => .tuple #[.agg #[.bool false, .string ⟨#[]⟩, .string ⟨#[]⟩], .int .i64 1]
  | some t => .tuple #[.agg #[.bool true, .string data, .string ⟨t.toArray⟩], .int .i64 0]

theorem info_page : (Try.prog.info? 36).map (·.size) = some 3 := by kernel_rfl
theorem load_page {w : World} {b : Nat} {a0 a1 a2 : Value} (h : Blk w b 36 #[a0, a1, a2]) : (loadVar 36 ⟨b, 0, none⟩).run Try.prog w = .ok (.agg #[a0, a1, a2]) w :=
  run_loadVar_row w b 36 36 #[a0, a1, a2] (0, 0) _ h Try.underlying36 rfl info_page
theorem ret_page {fn : Func} {p u : Tmp} (h : fn.results = #[.cell p 36, .tmp u]) (tmps : Array Value) (w : World) {b : Nat} {a0 a1 a2 : Value} (hp : tmps.getD p undef = .pointer (some ⟨b, 0, none⟩)) (hb : Blk w b 36 #[a0, a1, a2]) :
    (results fn tmps).run Try.prog w = .ok (.tuple #[.agg #[a0, a1, a2], tmps.getD u undef]) w := by
  rw [results_cell_tmp h, hp]
  simp only [asAddr, Sem.run_pure, Result.andThen_ok, load_page hb]
theorem ret_numrec {fn : Func} {p u : Tmp} (h : fn.results = #[.tmp u, .cell p 47]) (tmps : Array Value) (w : World) {b : Nat} {a0 a1 a2 a3 : Value} (hp : tmps.getD p undef = .pointer (some ⟨b, 0, none⟩)) (hb : Blk w b 47 #[a0, a1, a2, a3]) :
    (results fn tmps).run Try.prog w = .ok (.tuple #[tmps.getD u undef, .agg #[a0, a1, a2, a3]]) w := by
  have hp' : tmps[p]?.getD undef = .pointer (some ⟨b, 0, none⟩) := by simpa using hp
  simp [results, h, hp', asAddr, load_rec hb]

set_option maxHeartbeats 1000000 in
set_option maxRecDepth 100000 in
theorem refLook (wr : Bool) (data tg : ByteArray) (w : World) (hs : tg.size ≤ maxLen) :
    Calls Try.prog 47 #[.agg #[.bool wr, .string data, .string tg]] w fun e w' => LookOk w.heap.size (look wr tg.data.toList data.data.toList) e w' ∧ Mem w w' := by
  have hsz : (w.alloc (.cells #[.bool wr, .string data, .string tg] 36)).heap.size = w.heap.size + 1 := by simp
  have hm : Mem w ((w.alloc (.cells #[.bool wr, .string data, .string tg] 36)).alloc (.cells #[.int .i64 0, .int .i64 0, .slice none 0 0, .slice none 0 0] 47)) := ((Mem.refl w).alloc _).alloc _
  have hP : Blk ((w.alloc (.cells #[.bool wr, .string data, .string tg] 36)).alloc (.cells #[.int .i64 0, .int .i64 0, .slice none 0 0, .slice none 0 0] 47)) w.heap.size 36 #[.bool wr, .string data, .string tg] := (Blk.new w _ _).alloc _
  have hR : Blk ((w.alloc (.cells #[.bool wr, .string data, .string tg] 36)).alloc (.cells #[.int .i64 0, .int .i64 0, .slice none 0 0, .slice none 0 0] 47)) (w.heap.size + 1) 47 #[.int .i64 0, .int .i64 0, .slice none 0 0, .slice none 0 0] := by
    have := Blk.new (w.alloc (.cells #[.bool wr, .string data, .string tg] 36)) #[.int .i64 0, .int .i64 0, .slice none 0 0, .slice none 0 0] 47
    rwa [hsz] at this
  clear hsz
  cases wr with
  | false =>
    go_enter Try.func47, Try.ntmps47
    go_wp2_with fail
    exact bodyPost_ret (ret_numrec rfl _ _ rfl hR) rfl ⟨LookOk.none _ _ _, hm⟩
  | true =>
    go_enter Try.func47, Try.ntmps47
    go_wp2_with fail
    refine (refDecodeP tg data _ hs).mono ?_
    rintro e w1 ⟨hd, m1⟩
    have hz0 := hR.lt
    have hR1 := hR.mem m1
    have hm1 := hm.trans m1
    obtain ⟨va, vb, rfl, ia, ib, pa, pb⟩ := hd
    replace pa := pa.mono (show w.heap.size + 2 ≤ _ by omega)
    replace pb := pb.mono (show w.heap.size + 2 ≤ _ by omega)
    clear hP hR hm m1 hz0
    obtain ⟨oa, ca, rfl⟩ := ia.shape
    obtain ⟨ob, cb, rfl⟩ := ib.shape
    cases hO : Tag.decode tg.data.toList data.data.toList with
    | none =>
      have HL : Hid (look true tg.data.toList data.data.toList = (2, none)) := by show _ = _; unfold look; rw [hO]
      rw [hO] at ia ib pa pb
      clear hO
      simp only [decR, decE] at *
      have ha : Mem w1 (w1.alloc (.cells #[.int .i64 0, .int .i64 0, .slice oa 0 ca, .slice ob 0 cb] 47)) := (Mem.refl w1).alloc _
      have hR2 := hR1.mem ha
      have hm2 := hm1.trans ha
      have f0 := hR2.frozen 0
      have f1 := hR2.frozen 1
      have f2 := hR2.frozen 2
      have f3 := hR2.frozen 3
      have c0 := hR2.cell (j := 0) rfl
      have c1 := hR2.cell (j := 1) rfl
      have c2 := hR2.cell (j := 2) rfl
      have c3 := hR2.cell (j := 3) rfl
      go_wp2_with fail
      refine bodyPost_ret (ret_numrec rfl _ _ rfl (hR2.put4 _ _ _ _)) rfl ⟨?_, hm2.put4 (by omega) _ _ _ _⟩
      rw [HL.out]
      exact LookOk.none _ _ _
    | some r =>
      obtain ⟨k, s, ks, vs⟩ := r
      have HL : Hid (look true tg.data.toList data.data.toList = (1, some (k, s, ks, vs))) := by show _ = _; unfold look; rw [hO]
      rw [hO] at ia ib pa pb
      clear hO
      simp only [decR, decE] at *
      have ha : Mem w1 (w1.alloc (.cells #[.int .i64 k, .int .i64 s, .slice oa ks.length ca, .slice ob vs.length cb] 47)) := (Mem.refl w1).alloc _
      have hR2 := hR1.mem ha
      have hm2 := hm1.trans ha
      have hB := Blk.new w1 #[.int .i64 k, .int .i64 s, .slice oa ks.length ca, .slice ob vs.length cb] 47
      have f0 := hR2.frozen 0
      have f1 := hR2.frozen 1
      have f2 := hR2.frozen 2
      have f3 := hR2.frozen 3
      have c0 := hR2.cell (j := 0) rfl
      have c1 := hR2.cell (j := 1) rfl
      have c2 := hR2.cell (j := 2) rfl
      have c3 := hR2.cell (j := 3) rfl
      have d0 := hB.cell (j := 0) rfl
      have d1 := hB.cell (j := 1) rfl
      have d2 := hB.cell (j := 2) rfl
      have d3 := hB.cell (j := 3) rfl
      go_wp2_with fail
      go_region
      go_wp2_with fail
      refine bodyPost_ret (ret_numrec rfl _ _ rfl (hR2.put4 _ _ _ _).drew) rfl ⟨?_, (hm2.put4 (by omega) _ _ _ _).drew⟩
      rw [HL.out]
      exact ⟨_, _, rfl, ((ia.mem ha).put4 pa _ _ _ _).mem (Mem.refl _).drew, ((ib.mem ha).put4 pb _ _ _ _).mem (Mem.refl _).drew, pa.mono (by omega), pb.mono (by omega)⟩
set_option maxHeartbeats 1000000 in
set_option maxRecDepth 100000 in
theorem refMake (k s : Int) (vk vv : Value) (ks vs : List Int) (data : ByteArray) (w : World) (hk : Ints .i64 w vk ks) (hv : Ints .i64 w vv vs) :
    Calls Try.prog 46 #[.agg #[.string data, .int .i64 k, .int .i64 s, vk, vv]] w fun e w' => e = .returned (mkV data (enc k s ks vs data.data.toList)) ∧ Mem w w' := by
  obtain ⟨oa, ca, rfl⟩ := hk.shape
  obtain ⟨ob, cb, rfl⟩ := hv.shape
  have hsz : (w.alloc (.cells #[.string data, .int .i64 k, .int .i64 s, .slice oa ks.length ca, .slice ob vs.length cb] 49)).heap.size = w.heap.size + 1 := by simp
  have hm : Mem w ((w.alloc (.cells #[.string data, .int .i64 k, .int .i64 s, .slice oa ks.length ca, .slice ob vs.length cb] 49)).alloc (.cells #[.bool false, .string ⟨#[]⟩, .string ⟨#[]⟩] 36)) := ((Mem.refl w).alloc _).alloc _
  have hW : Blk ((w.alloc (.cells #[.string data, .int .i64 k, .int .i64 s, .slice oa ks.length ca, .slice ob vs.length cb] 49)).alloc (.cells #[.bool false, .string ⟨#[]⟩, .string ⟨#[]⟩] 36)) w.heap.size 49 #[.string data, .int .i64 k, .int .i64 s, .slice oa ks.length ca, .slice ob vs.length cb] := (Blk.new w _ _).alloc _
  have hP : Blk ((w.alloc (.cells #[.string data, .int .i64 k, .int .i64 s, .slice oa ks.length ca, .slice ob vs.length cb] 49)).alloc (.cells #[.bool false, .string ⟨#[]⟩, .string ⟨#[]⟩] 36)) (w.heap.size + 1) 36 #[.bool false, .string ⟨#[]⟩, .string ⟨#[]⟩] := by
    have := Blk.new (w.alloc (.cells #[.string data, .int .i64 k, .int .i64 s, .slice oa ks.length ca, .slice ob vs.length cb] 49)) #[.bool false, .string ⟨#[]⟩, .string ⟨#[]⟩] 36
    rwa [hsz] at this
  clear hsz
  go_enter Try.func46, Try.ntmps46
  go_wp2_with fail
  refine (refEncode k s _ _ ks vs data _ (hk.mem hm) (hv.mem hm)).mono ?_
  rintro e w1 ⟨rfl, m1⟩
  have hP1 := hP.mem m1
  have hW1 := hW.mem m1
  have hm1 := hm.trans m1
  clear hP hW hm m1
  have f0 := hP1.frozen 0
  have f1 := hP1.frozen 1
  have f2 := hP1.frozen 2
  have c0 := hP1.cell (j := 0) rfl
  have c1 := hP1.cell (j := 1) rfl
  have c2 := hP1.cell (j := 2) rfl
  have d0 := hW1.cell (j := 0) rfl
  cases hE : enc k s ks vs data.data.toList with
  | none =>
    have HE := hide hE
    clear hE
    simp only [encV]
    go_wp2_with fail
    exact bodyPost_ret (ret_page rfl _ _ rfl (hP1.put3 _ _ _)) rfl ⟨by rw [HE.out]; rfl, hm1.put3 (by omega) _ _ _⟩
  | some l =>
    have HE := hide hE
    clear hE
    simp only [encV]
    go_wp2_with fail
    exact bodyPost_ret (ret_page rfl _ _ rfl (hP1.put3 _ _ _)) rfl ⟨by rw [HE.out]; rfl, hm1.put3 (by omega) _ _ _⟩

end Go.Proofs.Ytedopplldpcinaa.Look
