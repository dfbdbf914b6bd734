/-
  TagDecode, TagSame, Looks: in one text (merge.json).
-/
import Derived.Test.YtbibkheiagglbaaTagRefDecode
import Derived.Defers
import Derived.Recover
import Derived.Laws.Pointers
import Derived.RegionTactic
import Derived.BigRegion
/-
  Layer 3: what is decoded: the lists are taken by a method that panics; what is recovered.
-/
namespace Go.Proofs.Ytbibkheiagglbaa.Tag
open Go.RowKit Go.Proofs.Ytbibkheiagglbaa.Pack Go.Proofs.Ytbibkheiagglbaa.Crc

set_option maxHeartbeats 1000000 in
set_option maxRecDepth 100000 in
theorem tagList_no (b : Nat) (s : ByteArray) (w : World) (hb : Blk w b 112 #[.string s]) (hs : s.size ≤ maxLen) (hu : unpack s.data.toList = none) :
    Calls Try.prog 84 #[.pointer (some ⟨b, 0, none⟩)] w fun e w' => e = .panicked [{ v := .iface 47 (.int .i64 30), recovered := false }] ∧ Mem w w' := by
  have c0 := hb.cell (j := 0) rfl
  have HU := hide hu
  clear hu
  go_enter Try.func84, Try.ntmps84
  go_wp2_with fail
  refine (packUnpack s _ hs).mono ?_
  rintro e w1 ⟨hu, m1⟩
  rw [HU.out] at hu
  obtain ⟨oa, ca, rfl, ia, _⟩ := unpackU hu
  clear hu
  simp only [uE]
  go_wp2_with fail
  exact ⟨rfl, rfl, m1⟩

set_option maxHeartbeats 1000000 in
set_option maxRecDepth 100000 in
theorem tagList_yes (b : Nat) (s : ByteArray) (w : World) (hb : Blk w b 112 #[.string s]) (hs : s.size ≤ maxLen) (l : List Nat) (r : List UInt8) (hu : unpack s.data.toList = some (l, r)) :
    Calls Try.prog 84 #[.pointer (some ⟨b, 0, none⟩)] w fun e w' => ∃ oa ca w1, e = .returned (.slice oa l.length ca) ∧ w' = w1.setCell ⟨b, 0, none⟩ (.string ⟨r.toArray⟩) ∧ Mem w w1 ∧ Ints .i64 w1 (.slice oa l.length ca) (ints l) ∧ Past w.heap.size (.slice oa l.length ca) := by
  have c0 := hb.cell (j := 0) rfl
  have HU := hide hu
  clear hu
  go_enter Try.func84, Try.ntmps84
  go_wp2_with fail
  refine (packUnpack s _ hs).mono ?_
  rintro e w1 ⟨hu, m1⟩
  rw [HU.out] at hu
  obtain ⟨oa, ca, rfl, ia, pa⟩ := unpackU hu
  clear hu c0
  have hb1 := hb.mem m1
  have c0 := hb1.cell (j := 0) rfl
  have f0 := hb1.frozen 0
  simp only [uE, uL, uR] at *
  go_wp2_with fail
  go_ret
  exact ⟨oa, ca, w1, rfl, rfl, m1, ia, pa⟩

/-- what a record's pointers point to, by their numbers -/
theorem ptr0 (a b c : Option Addr) (w : World) : (Instr.index 132 (.agg #[.pointer a, .pointer b, .pointer c]) (.int .i64 0)).run Try.prog w = .ok (.pointer a) w := by kernel_rfl
theorem ptr1 (a b c : Option Addr) (w : World) : (Instr.index 132 (.agg #[.pointer a, .pointer b, .pointer c]) (.int .i64 1)).run Try.prog w = .ok (.pointer b) w := by kernel_rfl
theorem ptr2 (a b c : Option Addr) (w : World) : (Instr.index 132 (.agg #[.pointer a, .pointer b, .pointer c]) (.int .i64 2)).run Try.prog w = .ok (.pointer c) w := by kernel_rfl

/-- a record as the one result -/
theorem ret_rec1 {fn : Func} {p : Tmp} (h : fn.results = #[.cell p 30]) (tmps : Array Value) (w : World) {b : Nat} {a0 a1 a2 a3 : Value} (hp : tmps.getD p undef = .pointer (some ⟨b, 0, none⟩)) (hb : Blk w b 30 #[a0, a1, a2, a3]) :
    (results fn tmps).run Try.prog w = .ok (.agg #[a0, a1, a2, a3]) w :=
  results_cell_row h tmps w b 30 #[a0, a1, a2, a3] (0, 0) _ hp hb Try.underlying30 rfl info_rec
abbrev boom : List PanicEntry := [{ v := .iface 47 (.int .i64 30), recovered := false }]
/-- what record takes: the three lists of a head of two numbers -/
def RecOk (o : Option (List Nat × List Nat × List Nat)) (base : Nat) (e : Ending) (w' : World) : Prop := match o with
  | none => e = .panicked boom
  | some (l, k, v) => if l.length = 2 then ∃ vk vv, e = .returned (.agg #[.int .i64 (i1 l), .int .i64 (i2 l), vk, vv]) ∧ Ints .i64 w' vk (ints k) ∧ Ints .i64 w' vv (down (ints v)) ∧ Past base vk ∧ Past base vv
    else e = .panicked boom

theorem RecOk.yes {x y : Nat} {k v : List Nat} {base : Nat} {e : Ending} {w' : World}
    (h : ∃ vk vv, e = .returned (.agg #[.int .i64 x, .int .i64 y, vk, vv]) ∧ Ints .i64 w' vk (ints k) ∧ Ints .i64 w' vv (down (ints v)) ∧ Past base vk ∧ Past base vv) : RecOk (some ([x, y], k, v)) base e w' := by
  have e2 : ([x, y] : List Nat).length = 2 := rfl
  unfold RecOk
  simp only []
  rw [if_pos e2]
  exact h

set_option maxHeartbeats 2000000 in
set_option maxRecDepth 100000 in
theorem tagRecord (b : Nat) (s : ByteArray) (w : World) (hb : Blk w b 112 #[.string s]) (hs : s.size ≤ maxLen) :
    Calls Try.prog 67 #[.pointer (some ⟨b, 0, none⟩)] w fun e w' => RecOk (dec s.data.toList) w.heap.size e w' ∧ Below b w w' := by
  have p0 := ptr0
  have p1 := ptr1
  have p2 := ptr2
  have hbl := hb.lt
  have hsl : s.data.toList.length = s.size := by simp
  have hb0 : Blk ((w.alloc (.cells #[.int .i64 0, .int .i64 0, .slice none 0 0, .slice none 0 0] 30)).alloc (.cells #[.slice none 0 0] 24)) b 112 #[.string s] := (hb.alloc _).alloc _
  have hr0 : Blk ((w.alloc (.cells #[.int .i64 0, .int .i64 0, .slice none 0 0, .slice none 0 0] 30)).alloc (.cells #[.slice none 0 0] 24)) w.heap.size 30 #[.int .i64 0, .int .i64 0, .slice none 0 0, .slice none 0 0] := (Blk.new w _ _).alloc _
  have hsz0 : (w.alloc (.cells #[.int .i64 0, .int .i64 0, .slice none 0 0, .slice none 0 0] 30)).heap.size = w.heap.size + 1 := by simp
  have hh0 : Blk ((w.alloc (.cells #[.int .i64 0, .int .i64 0, .slice none 0 0, .slice none 0 0] 30)).alloc (.cells #[.slice none 0 0] 24)) (w.heap.size + 1) 24 #[.slice none 0 0] := by
    have := Blk.new (w.alloc (.cells #[.int .i64 0, .int .i64 0, .slice none 0 0, .slice none 0 0] 30)) #[.slice none 0 0] 24
    rwa [hsz0] at this
  have n0 : Below b w ((w.alloc (.cells #[.int .i64 0, .int .i64 0, .slice none 0 0, .slice none 0 0] 30)).alloc (.cells #[.slice none 0 0] 24)) := (((Mem.refl w).alloc _).alloc _).below (by omega)
  have z0 := hh0.lt
  clear hsz0
  go_enter Try.func67, Try.ntmps67
  go_wp2_with fail
  refine wp_loop_rounds 4 ?_
  rw [rounds_succ]
  go_wp2_with fail
  generalize ((w.alloc (.cells #[.int .i64 0, .int .i64 0, .slice none 0 0, .slice none 0 0] 30)).alloc (.cells #[.slice none 0 0] 24)) = W0 at *
  cases hu1 : unpack s.data.toList with
  | none =>
    have HD : Hid (dec s.data.toList = none) := by show _ = _; unfold dec; rw [hu1]
    refine (tagList_no b s _ hb0 hs hu1).mono ?_
    rintro e w1 ⟨rfl, m1⟩
    refine ⟨rfl, ?_, Below.trans n0 (m1.below (by omega))⟩
    rw [HD.out]; rfl
  | some q =>
  obtain ⟨l, t1⟩ := q
  have ht1 : t1.length ≤ s.size := by have := (unpack_some hu1).1; rw [← hsl, this]; simp
  refine (tagList_yes b s _ hb0 hs l t1 hu1).mono ?_
  rintro e w1 ⟨oa, ca, v1, rfl, rfl, m1, ia, pa⟩
  have hb1 := ((hb0.mem m1).set 0 (.string ⟨t1.toArray⟩))
  have hr1 := (hr0.mem m1).other (a := ⟨b, 0, none⟩) (by show w.heap.size ≠ b; omega) (.string ⟨t1.toArray⟩)
  have hh1 := (hh0.mem m1).other (a := ⟨b, 0, none⟩) (by show w.heap.size + 1 ≠ b; omega) (.string ⟨t1.toArray⟩)
  have ia1 := ia.setCell (p := ⟨b, 0, none⟩) (pa.mono (by show b + 1 ≤ _; omega)) (.string ⟨t1.toArray⟩)
  have n1 := Below.setCell (Below.trans n0 (m1.below (by omega))) (p := ⟨b, 0, none⟩) (Nat.le_refl b) (.string ⟨t1.toArray⟩)
  have c1 := hh1.cell (j := 0) rfl
  have f1 := hh1.frozen 0
  go_wp2_with fail
  have B1 : Blk ((v1.setCell ⟨b, 0, none⟩ (.string ⟨t1.toArray⟩)).setCell ⟨w.heap.size + 1, 0, none⟩ (.slice oa l.length ca)) b 112 #[.string ⟨t1.toArray⟩] := hb1.other (by show b ≠ w.heap.size + 1; omega) _
  have R1 : Blk ((v1.setCell ⟨b, 0, none⟩ (.string ⟨t1.toArray⟩)).setCell ⟨w.heap.size + 1, 0, none⟩ (.slice oa l.length ca)) w.heap.size 30 #[.int .i64 0, .int .i64 0, .slice none 0 0, .slice none 0 0] := hr1.other (by show w.heap.size ≠ w.heap.size + 1; omega) _
  have E1 : Blk ((v1.setCell ⟨b, 0, none⟩ (.string ⟨t1.toArray⟩)).setCell ⟨w.heap.size + 1, 0, none⟩ (.slice oa l.length ca)) (w.heap.size + 1) 24 #[.slice oa l.length ca] := hh1.set 0 _
  have I1 := ia1.setCell (p := ⟨w.heap.size + 1, 0, none⟩) (pa.mono (by show w.heap.size + 1 + 1 ≤ _; omega)) (.slice oa l.length ca)
  have N1 := Below.setCell n1 (p := ⟨w.heap.size + 1, 0, none⟩) (by show b ≤ w.heap.size + 1; omega) (.slice oa l.length ca)
  have PA := pa.mono (show w.heap.size + 2 ≤ W0.heap.size by omega)
  clear hb0 hr0 hh0 n0 m1 ia pa hb1 hr1 hh1 ia1 n1 c1 f1
  generalize (v1.setCell ⟨b, 0, none⟩ (.string ⟨t1.toArray⟩)).setCell ⟨w.heap.size + 1, 0, none⟩ (.slice oa l.length ca) = W1 at *
  have z1 := E1.lt
  -- the second list: Keys
  rw [rounds_succ]
  go_wp2_with fail
  cases hu2 : unpack t1 with
  | none =>
    have HD : Hid (dec s.data.toList = none) := by show _ = _; unfold dec; rw [hu1]; simp only []; rw [hu2]
    refine (tagList_no b ⟨t1.toArray⟩ _ B1 (by rw [size_mk]; omega) hu2).mono ?_
    rintro e w2 ⟨rfl, m2⟩
    refine ⟨rfl, ?_, Below.trans N1 (m2.below (by omega))⟩
    rw [HD.out]; rfl
  | some q =>
  obtain ⟨k, t2⟩ := q
  have ht2 : t2.length ≤ s.size := by have := (unpack_some hu2).1; rw [this] at ht1; simp at ht1; omega
  refine (tagList_yes b ⟨t1.toArray⟩ _ B1 (by rw [size_mk]; omega) k t2 hu2).mono ?_
  rintro e w2 ⟨ob, cb, v2, rfl, rfl, m2, ib, pb⟩
  have hb2 := ((B1.mem m2).set 0 (.string ⟨t2.toArray⟩))
  have hr2 := (R1.mem m2).other (a := ⟨b, 0, none⟩) (by show w.heap.size ≠ b; omega) (.string ⟨t2.toArray⟩)
  have hh2 := (E1.mem m2).other (a := ⟨b, 0, none⟩) (by show w.heap.size + 1 ≠ b; omega) (.string ⟨t2.toArray⟩)
  have ia2 := (I1.mem m2).setCell (p := ⟨b, 0, none⟩) (PA.mono (by show b + 1 ≤ _; omega)) (.string ⟨t2.toArray⟩)
  have ib2 := ib.setCell (p := ⟨b, 0, none⟩) (pb.mono (by show b + 1 ≤ _; omega)) (.string ⟨t2.toArray⟩)
  have n2 := Below.setCell (Below.trans N1 (m2.below (by omega))) (p := ⟨b, 0, none⟩) (Nat.le_refl b) (.string ⟨t2.toArray⟩)
  have c2 := hr2.cell (j := 2) rfl
  have f2 := hr2.frozen 2
  go_wp2_with fail
  have B2 : Blk ((v2.setCell ⟨b, 0, none⟩ (.string ⟨t2.toArray⟩)).setCell ⟨w.heap.size, 2, none⟩ (.slice ob k.length cb)) b 112 #[.string ⟨t2.toArray⟩] := hb2.other (by show b ≠ w.heap.size; omega) _
  have R2 : Blk ((v2.setCell ⟨b, 0, none⟩ (.string ⟨t2.toArray⟩)).setCell ⟨w.heap.size, 2, none⟩ (.slice ob k.length cb)) w.heap.size 30 #[.int .i64 0, .int .i64 0, .slice ob k.length cb, .slice none 0 0] := hr2.set 2 _
  have E2 : Blk ((v2.setCell ⟨b, 0, none⟩ (.string ⟨t2.toArray⟩)).setCell ⟨w.heap.size, 2, none⟩ (.slice ob k.length cb)) (w.heap.size + 1) 24 #[.slice oa l.length ca] := hh2.other (by show w.heap.size + 1 ≠ w.heap.size; omega) _
  have I2 := ia2.setCell (p := ⟨w.heap.size, 2, none⟩) (PA.mono (by show w.heap.size + 1 ≤ _; omega)) (.slice ob k.length cb)
  have J2 := ib2.setCell (p := ⟨w.heap.size, 2, none⟩) (pb.mono (by show w.heap.size + 1 ≤ _; omega)) (.slice ob k.length cb)
  have N2 := Below.setCell n2 (p := ⟨w.heap.size, 2, none⟩) (by show b ≤ w.heap.size; omega) (.slice ob k.length cb)
  have PB := pb.mono (show w.heap.size + 2 ≤ W1.heap.size by omega)
  clear B1 R1 E1 I1 N1 m2 ib pb hb2 hr2 hh2 ia2 ib2 n2 c2 f2
  generalize (v2.setCell ⟨b, 0, none⟩ (.string ⟨t2.toArray⟩)).setCell ⟨w.heap.size, 2, none⟩ (.slice ob k.length cb) = W2 at *
  have z2 := E2.lt
  -- the third list: Values
  rw [rounds_succ]
  go_wp2_with fail
  cases hu3 : unpack t2 with
  | none =>
    have HD : Hid (dec s.data.toList = none) := by show _ = _; unfold dec; rw [hu1]; simp only []; rw [hu2]; simp only []; rw [hu3]
    refine (tagList_no b ⟨t2.toArray⟩ _ B2 (by rw [size_mk]; omega) hu3).mono ?_
    rintro e w3 ⟨rfl, m3⟩
    refine ⟨rfl, ?_, Below.trans N2 (m3.below (by omega))⟩
    rw [HD.out]; rfl
  | some q =>
  obtain ⟨v, t3⟩ := q
  have HD : Hid (dec s.data.toList = some (l, k, v)) := by show _ = _; unfold dec; rw [hu1]; simp only []; rw [hu2]; simp only []; rw [hu3]
  have hvl := (unpack_some hu3).2
  refine (tagList_yes b ⟨t2.toArray⟩ _ B2 (by rw [size_mk]; omega) v t3 hu3).mono ?_
  rintro e w3 ⟨oc, cc, v3, rfl, rfl, m3, ic, pc⟩
  have hr3 := (R2.mem m3).other (a := ⟨b, 0, none⟩) (by show w.heap.size ≠ b; omega) (.string ⟨t3.toArray⟩)
  have hh3 := (E2.mem m3).other (a := ⟨b, 0, none⟩) (by show w.heap.size + 1 ≠ b; omega) (.string ⟨t3.toArray⟩)
  have ia3 := (I2.mem m3).setCell (p := ⟨b, 0, none⟩) (PA.mono (by show b + 1 ≤ _; omega)) (.string ⟨t3.toArray⟩)
  have ib3 := (J2.mem m3).setCell (p := ⟨b, 0, none⟩) (PB.mono (by show b + 1 ≤ _; omega)) (.string ⟨t3.toArray⟩)
  have ic3 := ic.setCell (p := ⟨b, 0, none⟩) (pc.mono (by show b + 1 ≤ _; omega)) (.string ⟨t3.toArray⟩)
  have n3 := Below.setCell (Below.trans N2 (m3.below (by omega))) (p := ⟨b, 0, none⟩) (Nat.le_refl b) (.string ⟨t3.toArray⟩)
  have c3 := hr3.cell (j := 3) rfl
  have f3 := hr3.frozen 3
  clear hu1 hu2 hu3
  go_wp2_with fail
  have R3 : Blk ((v3.setCell ⟨b, 0, none⟩ (.string ⟨t3.toArray⟩)).setCell ⟨w.heap.size, 3, none⟩ (.slice oc v.length cc)) w.heap.size 30 #[.int .i64 0, .int .i64 0, .slice ob k.length cb, .slice oc v.length cc] := hr3.set 3 _
  have E3 : Blk ((v3.setCell ⟨b, 0, none⟩ (.string ⟨t3.toArray⟩)).setCell ⟨w.heap.size, 3, none⟩ (.slice oc v.length cc)) (w.heap.size + 1) 24 #[.slice oa l.length ca] := hh3.other (by show w.heap.size + 1 ≠ w.heap.size; omega) _
  have I3 := ia3.setCell (p := ⟨w.heap.size, 3, none⟩) (PA.mono (by show w.heap.size + 1 ≤ _; omega)) (.slice oc v.length cc)
  have J3 := ib3.setCell (p := ⟨w.heap.size, 3, none⟩) (PB.mono (by show w.heap.size + 1 ≤ _; omega)) (.slice oc v.length cc)
  have K3 := ic3.setCell (p := ⟨w.heap.size, 3, none⟩) (pc.mono (by show w.heap.size + 1 ≤ _; omega)) (.slice oc v.length cc)
  have N3 := Below.setCell n3 (p := ⟨w.heap.size, 3, none⟩) (by show b ≤ w.heap.size; omega) (.slice oc v.length cc)
  have PC := pc.mono (show w.heap.size + 2 ≤ W2.heap.size by omega)
  clear B2 R2 E2 I2 J2 N2 m3 ic pc hr3 hh3 ia3 ib3 ic3 n3 c3 f3
  generalize (v3.setCell ⟨b, 0, none⟩ (.string ⟨t3.toArray⟩)).setCell ⟨w.heap.size, 3, none⟩ (.slice oc v.length cc) = W3 at *
  have z3 := E3.lt
  rw [rounds_succ]
  have e0 := E3.cell (j := 0) rfl
  by_cases gl : l.length = 2
  case neg =>
    have gl' : ((l.length : Int) != 2) = true := by rw [bne_iff_ne]; omega
    have HL := hide gl
    clear gl
    go_wp2_with fail
    refine ⟨rfl, ?_, N3⟩
    rw [HD.out]
    show ite _ _ _
    rw [if_neg HL.out]
  obtain ⟨x, y, rfl⟩ := two_of gl
  have I4 : Ints .i64 W3 (.slice oa 2 ca) [(x : Int), (y : Int)] := I3
  obtain ⟨la, lo, rfl, lc⟩ := I4.at (by simp)
  have l0 : W3.cell? ⟨la, lo, none⟩ = some (.int .i64 x) := lc 0 (by simp)
  have l1 : W3.cell? ⟨la, lo + 1, none⟩ = some (.int .i64 y) := lc 1 (by simp)
  have hla : w.heap.size + 2 ≤ la := PA _ _ _ rfl
  have r0 := R3.cell (j := 0) rfl
  have r1 := R3.cell (j := 1) rfl
  have g0 := R3.frozen 0
  have g1 := R3.frozen 1
  clear lc I3 I4 gl
  go_wp2_with fail
  go_region
  have R4 : Blk ((W3.setCell ⟨w.heap.size, 0, none⟩ (.int .i64 x)).setCell ⟨w.heap.size, 1, none⟩ (.int .i64 y)).drew w.heap.size 30 #[.int .i64 x, .int .i64 y, .slice ob k.length cb, .slice oc v.length cc] := ((R3.set 0 _).set 1 _).drew
  have J4 : Ints .i64 ((W3.setCell ⟨w.heap.size, 0, none⟩ (.int .i64 x)).setCell ⟨w.heap.size, 1, none⟩ (.int .i64 y)).drew (.slice ob k.length cb) (ints k) := ((J3.setCell (p := ⟨w.heap.size, 0, none⟩) (PB.mono (by show w.heap.size + 1 ≤ _; omega)) _).setCell (p := ⟨w.heap.size, 1, none⟩) (PB.mono (by show w.heap.size + 1 ≤ _; omega)) _).mem (Mem.refl _).drew
  have K4 : Ints .i64 ((W3.setCell ⟨w.heap.size, 0, none⟩ (.int .i64 x)).setCell ⟨w.heap.size, 1, none⟩ (.int .i64 y)).drew (.slice oc v.length cc) (ints v) := ((K3.setCell (p := ⟨w.heap.size, 0, none⟩) (PC.mono (by show w.heap.size + 1 ≤ _; omega)) _).setCell (p := ⟨w.heap.size, 1, none⟩) (PC.mono (by show w.heap.size + 1 ≤ _; omega)) _).mem (Mem.refl _).drew
  have N4 : Below b w ((W3.setCell ⟨w.heap.size, 0, none⟩ (.int .i64 x)).setCell ⟨w.heap.size, 1, none⟩ (.int .i64 y)).drew := (Below.setCell (Below.setCell N3 (p := ⟨w.heap.size, 0, none⟩) (by show b ≤ w.heap.size; omega) _) (p := ⟨w.heap.size, 1, none⟩) (by show b ≤ w.heap.size; omega) _).drew
  clear R3 E3 J3 K3 N3 e0 l0 l1 r0 r1 g0 g1
  generalize ((W3.setCell ⟨w.heap.size, 0, none⟩ (.int .i64 x)).setCell ⟨w.heap.size, 1, none⟩ (.int .i64 y)).drew = W4 at *
  have c3 := R4.cell (j := 3) rfl
  obtain ⟨hvl1, hvl2⟩ := hvl
  unfold maxN at hvl1
  go_wp2_with fail
  refine (tagShifted _ (ints v) (-1) _ K4 ?_ (by rw [ints_length]; exact hvl1)).mono ?_
  · intro z hz
    obtain ⟨n, hn, rfl⟩ := List.mem_map.1 hz
    have := hvl2 n hn
    unfold maxN at this
    omega
  rintro e W5 ⟨⟨vv, rfl, iv, pv⟩, m5⟩
  rw [shift_down] at iv
  have z4 := R4.lt
  have PV := pv.mono (show w.heap.size + 1 ≤ W4.heap.size by omega)
  obtain ⟨od, cd, rfl⟩ := iv.shape
  have R5 := R4.mem m5
  have J5 := J4.mem m5
  have N5 := Below.trans N4 (m5.below (show b ≤ W4.heap.size by omega))
  have d3 := R5.cell (j := 3) rfl
  have d0 := R5.cell (j := 0) rfl
  have d1 := R5.cell (j := 1) rfl
  have d2 := R5.cell (j := 2) rfl
  have h0 := R5.frozen 0
  have h1 := R5.frozen 1
  have h2 := R5.frozen 2
  have h3 := R5.frozen 3
  clear c3 R4 J4 K4 N4 m5 pv
  go_wp2_with fail
  have R6 : Blk (W5.setCell ⟨w.heap.size, 3, none⟩ (.slice od (down (ints v)).length cd)) w.heap.size 30 #[.int .i64 x, .int .i64 y, .slice ob k.length cb, .slice od (down (ints v)).length cd] := R5.set 3 _
  have PB1 := PB.mono (show w.heap.size + 1 ≤ w.heap.size + 2 by omega)
  refine bodyPost_ret (ret_rec1 rfl _ _ rfl (R6.put4 _ _ _ _)) rfl ⟨?_, ?_⟩
  · rw [HD.out]
    refine RecOk.yes ?_
    exact ⟨_, _, rfl, (J5.setCell (p := ⟨w.heap.size, 3, none⟩) PB1 _).put4 PB1 _ _ _ _, (iv.setCell (p := ⟨w.heap.size, 3, none⟩) PV _).put4 PV _ _ _ _, PB.mono (by omega), PV.mono (by omega)⟩
  · exact (Below.setCell N5 (p := ⟨w.heap.size, 3, none⟩) (by show b ≤ w.heap.size; omega) _).put4 (by omega) _ _ _ _

/-! ### What the deferred function does -/
set_option maxHeartbeats 1000000 in
set_option maxRecDepth 100000 in
theorem catch_panicking (rb eb : Nat) (a0 a1 a2 a3 a4 : Value) (older : List PanicEntry) (w : World) (hr : Blk w rb 30 #[a0, a1, a2, a3]) (he : Blk w eb 47 #[a4]) (hne : rb ≠ eb) :
    CallsD Try.prog 66 #[.pointer (some ⟨rb, 0, none⟩), .pointer (some ⟨eb, 0, none⟩)] (.panicking ({ v := .iface 47 (.int .i64 30), recovered := false } :: older)) w fun e u' w' =>
      e = .returned (.tuple #[]) ∧ u' = .panicking ({ v := .iface 47 (.int .i64 30), recovered := true } :: older) ∧ w' = (((((w.setCell ⟨rb, 0, none⟩ (.int .i64 0)).setCell ⟨rb, 1, none⟩ (.int .i64 0)).setCell ⟨rb, 2, none⟩ (.slice none 0 0)).setCell ⟨rb, 3, none⟩ (.slice none 0 0)).setCell ⟨eb, 0, none⟩ (.int .i64 30)).drew := by
  have c0 := hr.cell (j := 0) rfl
  have c1 := hr.cell (j := 1) rfl
  have c2 := hr.cell (j := 2) rfl
  have c3 := hr.cell (j := 3) rfl
  have c4 := he.cell (j := 0) rfl
  have f0 := hr.frozen 0
  have f1 := hr.frozen 1
  have f2 := hr.frozen 2
  have f3 := hr.frozen 3
  have f4 := he.frozen 0
  have hta : ∀ w : World, (Instr.typeAssert (.iface 47 (.int .i64 30)) 20 47 false).run Try.prog w = .ok (.int .i64 30) w := fun _ => by kernel_rfl
  refine callsD_of_wpS Try.func66 rfl fun c₀ cs hu => ?_
  apply wpS_seq
  apply wpS_region
  simp [wpOpsS, go_sem, recoverD, hu, Try.ntmps66, Exit.thenS]
  refine wpS_of_wp ?_
  simp only [Array.replicate]
  simp
  go_wp2
  go_region
  simp +zetaDelta [bodyPostS, results, Try.results66]

set_option maxHeartbeats 1000000 in
set_option maxRecDepth 100000 in
theorem catch_idle (p q : Addr) (w : World) :
    CallsD Try.prog 66 #[.pointer (some p), .pointer (some q)] .returning w fun e u' w' => e = .returned (.tuple #[]) ∧ u' = .returning ∧ w' = w := by
  refine callsD_of_wpS Try.func66 rfl fun c₀ cs hu => ?_
  apply wpS_seq
  apply wpS_region
  simp [wpOpsS, go_sem, recoverD, hu, Try.ntmps66, Exit.thenS]
  refine wpS_of_wp ?_
  simp only [Array.replicate]
  simp
  go_wp2
  simp +zetaDelta [bodyPostS, results, Try.results66]
  cases c₀
  simp_all

theorem load_errno {w : World} {b : Nat} {a : Value} (h : Blk w b 47 #[a]) : (loadVar 47 ⟨b, 0, none⟩).run Try.prog w = .ok a w := by
  have c := h.cell (j := 0) rfl
  simp [go_sem, c]
theorem ret_both {fn : Func} {p q : Tmp} (h : fn.results = #[.cell p 30, .cell q 47]) (tmps : Array Value) (w : World) {rb eb : Nat} {a0 a1 a2 a3 a4 : Value} (hp : tmps.getD p undef = .pointer (some ⟨rb, 0, none⟩)) (hq : tmps.getD q undef = .pointer (some ⟨eb, 0, none⟩))
    (hb : Blk w rb 30 #[a0, a1, a2, a3]) (he : Blk w eb 47 #[a4]) : (results fn tmps).run Try.prog w = .ok (.tuple #[.agg #[a0, a1, a2, a3], a4]) w := by
  have hp' : tmps[p]?.getD undef = .pointer (some ⟨rb, 0, none⟩) := by simpa using hp
  have hq' : tmps[q]?.getD undef = .pointer (some ⟨eb, 0, none⟩) := by simpa using hq
  simp [results, h, hp', hq', asAddr, load_rec hb, load_errno he]

/-- the door, behind a panic -/
theorem door_panic {o : Option (Int × Int × List Int × List Int)} (ho : o = none) (w W : World) (rb eb : Nat) (a0 a1 a2 a3 a4 : Value) (tmps : Array Value) (h4 : tmps.getD 4 undef = .pointer (some ⟨rb, 0, none⟩)) (h5 : tmps.getD 5 undef = .pointer (some ⟨eb, 0, none⟩))
    (hr : Blk W rb 30 #[a0, a1, a2, a3]) (he : Blk W eb 47 #[a4]) (hne : rb ≠ eb) (m : Mem w W) (hrb : w.heap.size ≤ rb) (heb : w.heap.size ≤ eb) :
    Leaves Try.prog Try.f56 tmps (fun e w' => DecPast w.heap.size o e w' ∧ Mem w w') [{ target := .fn (.func 66) #[.pointer (some ⟨rb, 0, none⟩), .pointer (some ⟨eb, 0, none⟩)], args := #[] }] (.panicking boom) W := by
  subst ho
  refine leaves_cons (f := 66) (args := #[.pointer (some ⟨rb, 0, none⟩), .pointer (some ⟨eb, 0, none⟩)]) (by simp) (by simp [go_sem]) ?_
  refine (catch_panicking rb eb a0 a1 a2 a3 a4 [] W hr he hne).mono ?_
  rintro e u' w'' ⟨rfl, rfl, rfl⟩
  have R := (hr.put4 (.int .i64 0) (.int .i64 0) (.slice none 0 0) (.slice none 0 0)).other (a := ⟨eb, 0, none⟩) hne (.int .i64 30)
  have E := ((((he.other (a := ⟨rb, 0, none⟩) (Ne.symm hne) (.int .i64 0)).other (a := ⟨rb, 1, none⟩) (Ne.symm hne) (.int .i64 0)).other (a := ⟨rb, 2, none⟩) (Ne.symm hne) (.slice none 0 0)).other (a := ⟨rb, 3, none⟩) (Ne.symm hne) (.slice none 0 0)).set 0 (.int .i64 30)
  exact ⟨_, ret_both rfl _ _ h4 h5 R.drew (Blk.drew E), DecPast.none _ _, (Mem.setCell (m.put4 hrb _ _ _ _) heb _).drew⟩
/-- the door, behind a return -/
theorem door_return (W : World) (rb eb : Nat) (a0 a1 a2 a3 a4 : Value) (tmps : Array Value) (R : Ending → World → Prop) (h4 : tmps.getD 4 undef = .pointer (some ⟨rb, 0, none⟩)) (h5 : tmps.getD 5 undef = .pointer (some ⟨eb, 0, none⟩))
    (hr : Blk W rb 30 #[a0, a1, a2, a3]) (he : Blk W eb 47 #[a4]) (hR : R (.returned (.tuple #[.agg #[a0, a1, a2, a3], a4])) W) :
    Leaves Try.prog Try.f56 tmps R [{ target := .fn (.func 66) #[.pointer (some ⟨rb, 0, none⟩), .pointer (some ⟨eb, 0, none⟩)], args := #[] }] .returning W := by
  refine leaves_cons (f := 66) (args := #[.pointer (some ⟨rb, 0, none⟩), .pointer (some ⟨eb, 0, none⟩)]) (by simp) (by simp [go_sem]) ?_
  refine (catch_idle ⟨rb, 0, none⟩ ⟨eb, 0, none⟩ W).mono ?_
  rintro e u' w'' ⟨rfl, rfl, rfl⟩
  exact ⟨_, ret_both rfl _ _ h4 h5 hr he, hR⟩

set_option maxHeartbeats 2000000 in
set_option maxRecDepth 100000 in
theorem tagDecodeP (s data : ByteArray) (w : World) (hs : s.size ≤ maxLen) :
    Calls Try.prog 56 #[.string s, .string data] w fun e w' => DecPast w.heap.size (decode s.data.toList data.data.toList) e w' ∧ Mem w w' := by
  have hmf : ∀ (fn : Fn) (first cap : Array Value) (w : World), (Instr.makeFunc fn first cap).run Try.prog w = .ok (.func fn first cap) w := fun _ _ _ _ => rfl
  have hR0 : Blk (((w.alloc (.cells #[.int .i64 0, .int .i64 0, .slice none 0 0, .slice none 0 0] 30)).alloc (.cells #[.int .i64 0] 47)).alloc (.cells #[.string s] 112)) w.heap.size 30 #[.int .i64 0, .int .i64 0, .slice none 0 0, .slice none 0 0] := ((Blk.new w _ _).alloc _).alloc _
  have hsz1 : (w.alloc (.cells #[.int .i64 0, .int .i64 0, .slice none 0 0, .slice none 0 0] 30)).heap.size = w.heap.size + 1 := by simp
  have hsz2 : ((w.alloc (.cells #[.int .i64 0, .int .i64 0, .slice none 0 0, .slice none 0 0] 30)).alloc (.cells #[.int .i64 0] 47)).heap.size = w.heap.size + 1 + 1 := by simp
  have hE0 : Blk (((w.alloc (.cells #[.int .i64 0, .int .i64 0, .slice none 0 0, .slice none 0 0] 30)).alloc (.cells #[.int .i64 0] 47)).alloc (.cells #[.string s] 112)) (w.heap.size + 1) 47 #[.int .i64 0] := by
    have := Blk.new (w.alloc (.cells #[.int .i64 0, .int .i64 0, .slice none 0 0, .slice none 0 0] 30)) #[.int .i64 0] 47
    rw [hsz1] at this
    exact this.alloc _
  have hT0 : Blk (((w.alloc (.cells #[.int .i64 0, .int .i64 0, .slice none 0 0, .slice none 0 0] 30)).alloc (.cells #[.int .i64 0] 47)).alloc (.cells #[.string s] 112)) (w.heap.size + 1 + 1) 112 #[.string s] := by
    have := Blk.new ((w.alloc (.cells #[.int .i64 0, .int .i64 0, .slice none 0 0, .slice none 0 0] 30)).alloc (.cells #[.int .i64 0] 47)) #[.string s] 112
    rwa [hsz2] at this
  have m0 : Mem w (((w.alloc (.cells #[.int .i64 0, .int .i64 0, .slice none 0 0, .slice none 0 0] 30)).alloc (.cells #[.int .i64 0] 47)).alloc (.cells #[.string s] 112)) := (((Mem.refl w).alloc _).alloc _).alloc _
  clear hsz1 hsz2
  go_enter_defers Try.func56, Try.ntmps56
  go_wp2_with fail
  generalize (((w.alloc (.cells #[.int .i64 0, .int .i64 0, .slice none 0 0, .slice none 0 0] 30)).alloc (.cells #[.int .i64 0] 47)).alloc (.cells #[.string s] 112)) = W0 at *
  have z0 := hT0.lt
  refine (tagRecord _ s _ hT0 hs).mono ?_
  rintro e W1 ⟨hok, n1⟩
  have R1 := hR0.below n1 (by omega)
  have E1 := hE0.below n1 (by omega)
  have m1 : Mem w W1 := Below.trans m0 (Below.mono n1 (by omega))
  clear hR0 hE0 hT0 m0
  cases hd : dec s.data.toList with
  | none =>
    rw [hd] at hok
    have hb : e = .panicked boom := hok
    subst hb
    have HV : Hid (decode s.data.toList data.data.toList = none) := decode_dec_none hd
    clear hok hd
    exact door_panic HV.out w W1 w.heap.size (w.heap.size + 1) _ _ _ _ _ _ rfl rfl R1 E1 (by omega) m1 (by omega) (by omega)
  | some q =>
  obtain ⟨l, k, v⟩ := q
  rw [hd] at hok
  by_cases gl : l.length = 2
  case neg =>
    have HV : Hid (decode s.data.toList data.data.toList = none) := decode_dec_len hd gl
    have hb : e = .panicked boom := by
      unfold RecOk at hok
      simp only [] at hok
      rwa [if_neg gl] at hok
    subst hb
    exact door_panic HV.out w W1 w.heap.size (w.heap.size + 1) _ _ _ _ _ _ rfl rfl R1 E1 (by omega) m1 (by omega) (by omega)
  have HN := hide (decode_dec (data := data.data.toList) hd gl)
  obtain ⟨vk, vv, rfl, ik, iv, pk, pv⟩ : ∃ vk vv, e = .returned (.agg #[.int .i64 (i1 l), .int .i64 (i2 l), vk, vv]) ∧ Ints .i64 W1 vk (ints k) ∧ Ints .i64 W1 vv (down (ints v)) ∧ Past W0.heap.size vk ∧ Past W0.heap.size vv := by
    unfold RecOk at hok
    simp only [] at hok
    rwa [if_pos gl] at hok
  clear hok hd gl
  have hk5 := pk.mono (show w.heap.size + 2 ≤ W0.heap.size by omega)
  have hv5 := pv.mono (show w.heap.size + 2 ≤ W0.heap.size by omega)
  obtain ⟨ok, ck, rfl⟩ := ik.shape
  obtain ⟨ov, cv, rfl⟩ := iv.shape
  have c0 := R1.cell (j := 0) rfl
  have c1 := R1.cell (j := 1) rfl
  have c2 := R1.cell (j := 2) rfl
  have c3 := R1.cell (j := 3) rfl
  have f0 := R1.frozen 0
  have f1 := R1.frozen 1
  have f2 := R1.frozen 2
  have f3 := R1.frozen 3
  go_wp2_with fail
  have R2 := R1.put4 (.int .i64 (i1 l)) (.int .i64 (i2 l)) (.slice ok (ints k).length ck) (.slice ov (down (ints v)).length cv)
  have E2 := (((E1.other (a := ⟨w.heap.size, 0, none⟩) (by show w.heap.size + 1 ≠ w.heap.size; omega) (.int .i64 (i1 l))).other (a := ⟨w.heap.size, 1, none⟩) (by show w.heap.size + 1 ≠ w.heap.size; omega) (.int .i64 (i2 l))).other (a := ⟨w.heap.size, 2, none⟩) (by show w.heap.size + 1 ≠ w.heap.size; omega) (.slice ok (ints k).length ck)).other (a := ⟨w.heap.size, 3, none⟩) (by show w.heap.size + 1 ≠ w.heap.size; omega) (.slice ov (down (ints v)).length cv)
  have ik2 := ik.put4 (b := w.heap.size) (hk5.mono (by omega)) (.int .i64 (i1 l)) (.int .i64 (i2 l)) (.slice ok (ints k).length ck) (.slice ov (down (ints v)).length cv)
  have iv2 := iv.put4 (b := w.heap.size) (hv5.mono (by omega)) (.int .i64 (i1 l)) (.int .i64 (i2 l)) (.slice ok (ints k).length ck) (.slice ov (down (ints v)).length cv)
  have m2 := m1.put4 (b := w.heap.size) (Nat.le_refl _) (.int .i64 (i1 l)) (.int .i64 (i2 l)) (.slice ok (ints k).length ck) (.slice ov (down (ints v)).length cv)
  clear c0 c1 c2 c3 f0 f1 f2 f3 R1 E1 ik iv m1 n1 pk pv
  generalize (((W1.setCell ⟨w.heap.size, 0, none⟩ (.int .i64 (i1 l))).setCell ⟨w.heap.size, 1, none⟩ (.int .i64 (i2 l))).setCell ⟨w.heap.size, 2, none⟩ (.slice ok (ints k).length ck)).setCell ⟨w.heap.size, 3, none⟩ (.slice ov (down (ints v)).length cv) = W2 at *
  refine (tagEncode (i1 l) (i2 l) _ _ (ints k) (down (ints v)) data _ ik2 iv2).mono ?_
  rintro e W3 ⟨rfl, n3⟩
  have R3 := R2.mem n3
  have E3 := E2.mem n3
  have ik3 := ik2.mem n3
  have iv3 := iv2.mem n3
  have m3 := m2.trans n3
  clear R2 E2 ik2 iv2 m2 n3
  replace HN : Hid (decode s.data.toList data.data.toList = if enc (i1 l) (i2 l) (ints k) (down (ints v)) data.data.toList = some s.data.toList then some (i1 l, i2 l, ints k, down (ints v)) else none) := HN.out
  cases he : enc (i1 l) (i2 l) (ints k) (down (ints v)) data.data.toList with
  | none =>
    have HV : Hid (decode s.data.toList data.data.toList = none) := by
      show _ = _
      rw [HN.out, if_neg (by rw [he]; intro h; cases h)]
    clear he HN
    simp only [encV]
    go_wp2_with fail
    exact door_panic HV.out w W3 w.heap.size (w.heap.size + 1) _ _ _ _ _ _ rfl rfl R3 E3 (by omega) m3 (by omega) (by omega)
  | some t =>
    have HE := hide he
    clear he
    simp only [encV]
    by_cases ht : t = s.data.toList
    · have hq : (t == s.toList) = true := by rw [toList_data, ht, beq_self_eq_true]
      have HV : Hid (decode s.data.toList data.data.toList = some (i1 l, i2 l, ints k, down (ints v))) := by
        show _ = _
        rw [HN.out, if_pos (by rw [HE.out, ht])]
      clear ht HN HE
      have c0 := R3.cell (j := 0) rfl
      have c1 := R3.cell (j := 1) rfl
      have c2 := R3.cell (j := 2) rfl
      have c3 := R3.cell (j := 3) rfl
      have c4 := E3.cell (j := 0) rfl
      have f0 := R3.frozen 0
      have f1 := R3.frozen 1
      have f2 := R3.frozen 2
      have f3 := R3.frozen 3
      have f4 := E3.frozen 0
      have R4 := (R3.put4 (.int .i64 (i1 l)) (.int .i64 (i2 l)) (.slice ok (ints k).length ck) (.slice ov (down (ints v)).length cv)).other (a := ⟨w.heap.size + 1, 0, none⟩) (by show w.heap.size ≠ w.heap.size + 1; omega) (.int .i64 0)
      have E4 := ((((E3.other (a := ⟨w.heap.size, 0, none⟩) (by show w.heap.size + 1 ≠ w.heap.size; omega) (.int .i64 (i1 l))).other (a := ⟨w.heap.size, 1, none⟩) (by show w.heap.size + 1 ≠ w.heap.size; omega) (.int .i64 (i2 l))).other (a := ⟨w.heap.size, 2, none⟩) (by show w.heap.size + 1 ≠ w.heap.size; omega) (.slice ok (ints k).length ck)).other (a := ⟨w.heap.size, 3, none⟩) (by show w.heap.size + 1 ≠ w.heap.size; omega) (.slice ov (down (ints v)).length cv)).set 0 (.int .i64 0)
      go_wp2_with fail
      refine door_return _ w.heap.size (w.heap.size + 1) _ _ _ _ _ _ _ rfl rfl R4 E4 ⟨?_, ?_⟩
      · rw [HV.out]
        exact ⟨_, _, rfl, (ik3.put4 (hk5.mono (by omega)) _ _ _ _).setCell (p := ⟨w.heap.size + 1, 0, none⟩) (hk5.mono (by show w.heap.size + 1 + 1 ≤ _; omega)) _, (iv3.put4 (hv5.mono (by omega)) _ _ _ _).setCell (p := ⟨w.heap.size + 1, 0, none⟩) (hv5.mono (by show w.heap.size + 1 + 1 ≤ _; omega)) _, hk5.mono (by omega), hv5.mono (by omega)⟩
      · exact (m3.put4 (Nat.le_refl _) _ _ _ _).setCell (p := ⟨w.heap.size + 1, 0, none⟩) (by show w.heap.size ≤ w.heap.size + 1; omega) _
    · have hq : (t == s.toList) = false := by rw [toList_data, beq_eq_false_iff_ne]; exact ht
      have HV : Hid (decode s.data.toList data.data.toList = none) := by
        show _ = _
        rw [HN.out, if_neg (by rw [HE.out]; intro h; injection h with h; exact ht h)]
      clear ht HN HE
      go_wp2_with fail
      exact door_panic HV.out w W3 w.heap.size (w.heap.size + 1) _ _ _ _ _ _ rfl rfl R3 E3 (by omega) m3 (by omega) (by omega)
theorem tagDecode (s data : ByteArray) (w : World) (hs : s.size ≤ maxLen) :
    Calls Try.prog 56 #[.string s, .string data] w fun e w' => DecOk (decode s.data.toList data.data.toList) e w' ∧ Mem w w' :=
  (tagDecodeP s data w hs).mono fun _ _ h => ⟨h.1.ok, h.2⟩
end Go.Proofs.Ytbibkheiagglbaa.Tag
/-
  Layer 3: records that are the same; what the statements ask of a record.
-/
namespace Go.Proofs.Ytbibkheiagglbaa.Tag
open Go.RowKit Go.Proofs.Ytbibkheiagglbaa.Pack Go.Proofs.Ytbibkheiagglbaa.Crc

def recEq (k s : Int) (ks vs : List Int) (k' s' : Int) (ks' vs' : List Int) : Bool := decide (k = k') && decide (s = s') && decide (ks = ks') && decide (vs = vs')


/-! ### What any right program answers -/
def exTag : List UInt8 := [2, 1, 5, 1, 3, 0, 223, 158, 50, 33]
theorem ex_enc : enc 1 5 [3] [] [97, 98] = some exTag := by decide +kernel
theorem ex_back : decode exTag [97, 98] = some (1, 5, [3], []) := decode_enc ex_enc
theorem ex_data : decode exTag [97, 99] = none := decode_data (p := [97]) (q := []) (x := 98) (y := 99) ex_enc (by decide)
theorem ex_none : enc 0 0 [] [] [] = none := enc_no (by decide)
theorem ex_right : right 1 5 [3] [] = true := by decide

end Go.Proofs.Ytbibkheiagglbaa.Tag
/-
  Layer 4: what a page is, and the page of a write: what the program and the document answer.
-/
namespace Go.Proofs.Ytbibkheiagglbaa.Look
open Go.RowKit Go.Proofs.Ytbibkheiagglbaa.Pack Go.Proofs.Ytbibkheiagglbaa.Crc Go.Proofs.Ytbibkheiagglbaa.Tag

/-- what a page is: 0, 1 or 2, and its record -/
def look (wr : Bool) (tg data : List UInt8) : Int × Option (Int × Int × List Int × List Int) :=
  match wr with
  | false => (0, none)
  | true => match Tag.decode tg data with
    | none => (2, none)
    | some r => (1, some r)
def LookOk (base : Nat) (q : Int × Option (Int × Int × List Int × List Int)) (e : Ending) (w' : World) : Prop :=
  ∃ vk vv, e = .returned (.tuple #[.int .i64 q.1, .agg #[.int .i64 (decR q.2).1, .int .i64 (decR q.2).2.1, vk, vv]]) ∧ Ints .i64 w' vk (decR q.2).2.2.1 ∧ Ints .i64 w' vv (decR q.2).2.2.2 ∧ Past base vk ∧ Past base vv
theorem LookOk.none (base : Nat) (n : Int) (w' : World) : LookOk base (n, none) (.returned (.tuple #[.int .i64 n, .agg #[.int .i64 0, .int .i64 0, .slice none 0 0, .slice none 0 0]])) w' :=
  ⟨_, _, rfl, Ints.nil _ _ _ _, Ints.nil _ _ _ _, Past.nil _ _ _, Past.nil _ _ _⟩
/-- the page of a write -/
def mkV (data : ByteArray) : Option (List UInt8) → Value
  | none => .tuple #[.agg #[.bool false, .string ⟨#[]⟩, .string ⟨#[]⟩], .int .i64 1]
  | some t => .tuple #[.agg #[.bool true, .string data, .string ⟨t.toArray⟩], .int .i64 0]

theorem info_page : (Try.prog.info? 54).map (·.size) = some 3 := by kernel_rfl
theorem load_page {w : World} {b : Nat} {a0 a1 a2 : Value} (h : Blk w b 54 #[a0, a1, a2]) : (loadVar 54 ⟨b, 0, none⟩).run Try.prog w = .ok (.agg #[a0, a1, a2]) w :=
  run_loadVar_row w b 54 54 #[a0, a1, a2] (0, 0) _ h Try.underlying54 rfl info_page
theorem ret_page {fn : Func} {p u : Tmp} (h : fn.results = #[.cell p 54, .tmp u]) (tmps : Array Value) (w : World) {b : Nat} {a0 a1 a2 : Value} (hp : tmps.getD p undef = .pointer (some ⟨b, 0, none⟩)) (hb : Blk w b 54 #[a0, a1, a2]) :
    (results fn tmps).run Try.prog w = .ok (.tuple #[.agg #[a0, a1, a2], tmps.getD u undef]) w := by
  rw [results_cell_tmp h, hp]
  simp only [asAddr, Sem.run_pure, Result.andThen_ok, load_page hb]
theorem ret_numrec {fn : Func} {p u : Tmp} (h : fn.results = #[.tmp u, .cell p 30]) (tmps : Array Value) (w : World) {b : Nat} {a0 a1 a2 a3 : Value} (hp : tmps.getD p undef = .pointer (some ⟨b, 0, none⟩)) (hb : Blk w b 30 #[a0, a1, a2, a3]) :
    (results fn tmps).run Try.prog w = .ok (.tuple #[tmps.getD u undef, .agg #[a0, a1, a2, a3]]) w := by
  have hp' : tmps[p]?.getD undef = .pointer (some ⟨b, 0, none⟩) := by simpa using hp
  simp [results, h, hp', asAddr, load_rec hb]

set_option maxHeartbeats 1000000 in
set_option maxRecDepth 100000 in
theorem lookLook (wr : Bool) (data tg : ByteArray) (w : World) (hs : tg.size ≤ maxLen) :
    Calls Try.prog 46 #[.agg #[.bool wr, .string data, .string tg]] w fun e w' => LookOk w.heap.size (look wr tg.data.toList data.data.toList) e w' ∧ Mem w w' := by
  have hsz : (w.alloc (.cells #[.bool wr, .string data, .string tg] 54)).heap.size = w.heap.size + 1 := by simp
  have hm : Mem w ((w.alloc (.cells #[.bool wr, .string data, .string tg] 54)).alloc (.cells #[.int .i64 0, .int .i64 0, .slice none 0 0, .slice none 0 0] 30)) := ((Mem.refl w).alloc _).alloc _
  have hP : Blk ((w.alloc (.cells #[.bool wr, .string data, .string tg] 54)).alloc (.cells #[.int .i64 0, .int .i64 0, .slice none 0 0, .slice none 0 0] 30)) w.heap.size 54 #[.bool wr, .string data, .string tg] := (Blk.new w _ _).alloc _
  have hR : Blk ((w.alloc (.cells #[.bool wr, .string data, .string tg] 54)).alloc (.cells #[.int .i64 0, .int .i64 0, .slice none 0 0, .slice none 0 0] 30)) (w.heap.size + 1) 30 #[.int .i64 0, .int .i64 0, .slice none 0 0, .slice none 0 0] := by
    have := Blk.new (w.alloc (.cells #[.bool wr, .string data, .string tg] 54)) #[.int .i64 0, .int .i64 0, .slice none 0 0, .slice none 0 0] 30
    rwa [hsz] at this
  clear hsz
  cases wr with
  | false =>
    go_enter Try.func46, Try.ntmps46
    go_wp2_with fail
    exact bodyPost_ret (ret_numrec rfl _ _ rfl hR) rfl ⟨LookOk.none _ _ _, hm⟩
  | true =>
    go_enter Try.func46, Try.ntmps46
    go_wp2_with fail
    refine (tagDecodeP tg data _ hs).mono ?_
    rintro e w1 ⟨hd, m1⟩
    have hz0 := hR.lt
    have hR1 := hR.mem m1
    have hm1 := hm.trans m1
    obtain ⟨va, vb, rfl, ia, ib, pa, pb⟩ := hd
    replace pa := pa.mono (show w.heap.size + 2 ≤ _ by omega)
    replace pb := pb.mono (show w.heap.size + 2 ≤ _ by omega)
    clear hP hR hm m1 hz0
    obtain ⟨oa, ca, rfl⟩ := ia.shape
    obtain ⟨ob, cb, rfl⟩ := ib.shape
    cases hO : Tag.decode tg.data.toList data.data.toList with
    | none =>
      have HL : Hid (look true tg.data.toList data.data.toList = (2, none)) := by show _ = _; unfold look; rw [hO]
      rw [hO] at ia ib pa pb
      clear hO
      simp only [decR, decE] at *
      have ha : Mem w1 (w1.alloc (.cells #[.int .i64 0, .int .i64 0, .slice oa 0 ca, .slice ob 0 cb] 30)) := (Mem.refl w1).alloc _
      have hR2 := hR1.mem ha
      have hm2 := hm1.trans ha
      have f0 := hR2.frozen 0
      have f1 := hR2.frozen 1
      have f2 := hR2.frozen 2
      have f3 := hR2.frozen 3
      have c0 := hR2.cell (j := 0) rfl
      have c1 := hR2.cell (j := 1) rfl
      have c2 := hR2.cell (j := 2) rfl
      have c3 := hR2.cell (j := 3) rfl
      go_wp2_with fail
      refine bodyPost_ret (ret_numrec rfl _ _ rfl (hR2.put4 _ _ _ _)) rfl ⟨?_, hm2.put4 (by omega) _ _ _ _⟩
      rw [HL.out]
      exact LookOk.none _ _ _
    | some r =>
      obtain ⟨k, s, ks, vs⟩ := r
      have HL : Hid (look true tg.data.toList data.data.toList = (1, some (k, s, ks, vs))) := by show _ = _; unfold look; rw [hO]
      rw [hO] at ia ib pa pb
      clear hO
      simp only [decR, decE] at *
      have ha : Mem w1 (w1.alloc (.cells #[.int .i64 k, .int .i64 s, .slice oa ks.length ca, .slice ob vs.length cb] 30)) := (Mem.refl w1).alloc _
      have hR2 := hR1.mem ha
      have hm2 := hm1.trans ha
      have hB := Blk.new w1 #[.int .i64 k, .int .i64 s, .slice oa ks.length ca, .slice ob vs.length cb] 30
      have f0 := hR2.frozen 0
      have f1 := hR2.frozen 1
      have f2 := hR2.frozen 2
      have f3 := hR2.frozen 3
      have c0 := hR2.cell (j := 0) rfl
      have c1 := hR2.cell (j := 1) rfl
      have c2 := hR2.cell (j := 2) rfl
      have c3 := hR2.cell (j := 3) rfl
      have d0 := hB.cell (j := 0) rfl
      have d1 := hB.cell (j := 1) rfl
      have d2 := hB.cell (j := 2) rfl
      have d3 := hB.cell (j := 3) rfl
      go_wp2_with fail
      go_region
      go_wp2_with fail
      refine bodyPost_ret (ret_numrec rfl _ _ rfl (hR2.put4 _ _ _ _).drew) rfl ⟨?_, (hm2.put4 (by omega) _ _ _ _).drew⟩
      rw [HL.out]
      exact ⟨_, _, rfl, ((ia.mem ha).put4 pa _ _ _ _).mem (Mem.refl _).drew, ((ib.mem ha).put4 pb _ _ _ _).mem (Mem.refl _).drew, pa.mono (by omega), pb.mono (by omega)⟩
set_option maxHeartbeats 1000000 in
set_option maxRecDepth 100000 in
theorem refLook (wr : Bool) (data tg : ByteArray) (w : World) (hs : tg.size ≤ maxLen) :
    Calls Try.prog 42 #[.agg #[.bool wr, .string data, .string tg]] w fun e w' => LookOk w.heap.size (look wr tg.data.toList data.data.toList) e w' ∧ Mem w w' := by
  have hsz : (w.alloc (.cells #[.bool wr, .string data, .string tg] 54)).heap.size = w.heap.size + 1 := by simp
  have hm : Mem w ((w.alloc (.cells #[.bool wr, .string data, .string tg] 54)).alloc (.cells #[.int .i64 0, .int .i64 0, .slice none 0 0, .slice none 0 0] 30)) := ((Mem.refl w).alloc _).alloc _
  have hP : Blk ((w.alloc (.cells #[.bool wr, .string data, .string tg] 54)).alloc (.cells #[.int .i64 0, .int .i64 0, .slice none 0 0, .slice none 0 0] 30)) w.heap.size 54 #[.bool wr, .string data, .string tg] := (Blk.new w _ _).alloc _
  have hR : Blk ((w.alloc (.cells #[.bool wr, .string data, .string tg] 54)).alloc (.cells #[.int .i64 0, .int .i64 0, .slice none 0 0, .slice none 0 0] 30)) (w.heap.size + 1) 30 #[.int .i64 0, .int .i64 0, .slice none 0 0, .slice none 0 0] := by
    have := Blk.new (w.alloc (.cells #[.bool wr, .string data, .string tg] 54)) #[.int .i64 0, .int .i64 0, .slice none 0 0, .slice none 0 0] 30
    rwa [hsz] at this
  clear hsz
  cases wr with
  | false =>
    go_enter Try.func42, Try.ntmps42
    go_wp2_with fail
    exact bodyPost_ret (ret_numrec rfl _ _ rfl hR) rfl ⟨LookOk.none _ _ _, hm⟩
  | true =>
    go_enter Try.func42, Try.ntmps42
    go_wp2_with fail
    refine (refDecodeP tg data _ hs).mono ?_
    rintro e w1 ⟨hd, m1⟩
    have hz0 := hR.lt
    have hR1 := hR.mem m1
    have hm1 := hm.trans m1
    obtain ⟨va, vb, rfl, ia, ib, pa, pb⟩ := hd
    replace pa := pa.mono (show w.heap.size + 2 ≤ _ by omega)
    replace pb := pb.mono (show w.heap.size + 2 ≤ _ by omega)
    clear hP hR hm m1 hz0
    obtain ⟨oa, ca, rfl⟩ := ia.shape
    obtain ⟨ob, cb, rfl⟩ := ib.shape
    cases hO : Tag.decode tg.data.toList data.data.toList with
    | none =>
      have HL : Hid (look true tg.data.toList data.data.toList = (2, none)) := by show _ = _; unfold look; rw [hO]
      rw [hO] at ia ib pa pb
      clear hO
      simp only [decR, decE] at *
      have ha : Mem w1 (w1.alloc (.cells #[.int .i64 0, .int .i64 0, .slice oa 0 ca, .slice ob 0 cb] 30)) := (Mem.refl w1).alloc _
      have hR2 := hR1.mem ha
      have hm2 := hm1.trans ha
      have f0 := hR2.frozen 0
      have f1 := hR2.frozen 1
      have f2 := hR2.frozen 2
      have f3 := hR2.frozen 3
      have c0 := hR2.cell (j := 0) rfl
      have c1 := hR2.cell (j := 1) rfl
      have c2 := hR2.cell (j := 2) rfl
      have c3 := hR2.cell (j := 3) rfl
      go_wp2_with fail
      refine bodyPost_ret (ret_numrec rfl _ _ rfl (hR2.put4 _ _ _ _)) rfl ⟨?_, hm2.put4 (by omega) _ _ _ _⟩
      rw [HL.out]
      exact LookOk.none _ _ _
    | some r =>
      obtain ⟨k, s, ks, vs⟩ := r
      have HL : Hid (look true tg.data.toList data.data.toList = (1, some (k, s, ks, vs))) := by show _ = _; unfold look; rw [hO]
      rw [hO] at ia ib pa pb
      clear hO
      simp only [decR, decE] at *
      have ha : Mem w1 (w1.alloc (.cells #[.int .i64 k, .int .i64 s, .slice oa ks.length ca, .slice ob vs.length cb] 30)) := (Mem.refl w1).alloc _
      have hR2 := hR1.mem ha
      have hm2 := hm1.trans ha
      have hB := Blk.new w1 #[.int .i64 k, .int .i64 s, .slice oa ks.length ca, .slice ob vs.length cb] 30
      have f0 := hR2.frozen 0
      have f1 := hR2.frozen 1
      have f2 := hR2.frozen 2
      have f3 := hR2.frozen 3
      have c0 := hR2.cell (j := 0) rfl
      have c1 := hR2.cell (j := 1) rfl
      have c2 := hR2.cell (j := 2) rfl
      have c3 := hR2.cell (j := 3) rfl
      have d0 := hB.cell (j := 0) rfl
      have d1 := hB.cell (j := 1) rfl
      have d2 := hB.cell (j := 2) rfl
      have d3 := hB.cell (j := 3) rfl
      go_wp2_with fail
      go_region
      go_wp2_with fail
      refine bodyPost_ret (ret_numrec rfl _ _ rfl (hR2.put4 _ _ _ _).drew) rfl ⟨?_, (hm2.put4 (by omega) _ _ _ _).drew⟩
      rw [HL.out]
      exact ⟨_, _, rfl, ((ia.mem ha).put4 pa _ _ _ _).mem (Mem.refl _).drew, ((ib.mem ha).put4 pb _ _ _ _).mem (Mem.refl _).drew, pa.mono (by omega), pb.mono (by omega)⟩
set_option maxHeartbeats 1000000 in
set_option maxRecDepth 100000 in
theorem refMake (k s : Int) (vk vv : Value) (ks vs : List Int) (data : ByteArray) (w : World) (hk : Ints .i64 w vk ks) (hv : Ints .i64 w vv vs) :
    Calls Try.prog 40 #[.agg #[.string data, .int .i64 k, .int .i64 s, vk, vv]] w fun e w' => e = .returned (mkV data (enc k s ks vs data.data.toList)) ∧ Mem w w' := by
  obtain ⟨oa, ca, rfl⟩ := hk.shape
  obtain ⟨ob, cb, rfl⟩ := hv.shape
  have hsz : (w.alloc (.cells #[.string data, .int .i64 k, .int .i64 s, .slice oa ks.length ca, .slice ob vs.length cb] 81)).heap.size = w.heap.size + 1 := by simp
  have hm : Mem w ((w.alloc (.cells #[.string data, .int .i64 k, .int .i64 s, .slice oa ks.length ca, .slice ob vs.length cb] 81)).alloc (.cells #[.bool false, .string ⟨#[]⟩, .string ⟨#[]⟩] 54)) := ((Mem.refl w).alloc _).alloc _
  have hW : Blk ((w.alloc (.cells #[.string data, .int .i64 k, .int .i64 s, .slice oa ks.length ca, .slice ob vs.length cb] 81)).alloc (.cells #[.bool false, .string ⟨#[]⟩, .string ⟨#[]⟩] 54)) w.heap.size 81 #[.string data, .int .i64 k, .int .i64 s, .slice oa ks.length ca, .slice ob vs.length cb] := (Blk.new w _ _).alloc _
  have hP : Blk ((w.alloc (.cells #[.string data, .int .i64 k, .int .i64 s, .slice oa ks.length ca, .slice ob vs.length cb] 81)).alloc (.cells #[.bool false, .string ⟨#[]⟩, .string ⟨#[]⟩] 54)) (w.heap.size + 1) 54 #[.bool false, .string ⟨#[]⟩, .string ⟨#[]⟩] := by
    have := Blk.new (w.alloc (.cells #[.string data, .int .i64 k, .int .i64 s, .slice oa ks.length ca, .slice ob vs.length cb] 81)) #[.bool false, .string ⟨#[]⟩, .string ⟨#[]⟩] 54
    rwa [hsz] at this
  clear hsz
  go_enter Try.func40, Try.ntmps40
  go_wp2_with fail
  refine (refEncode k s _ _ ks vs data _ (hk.mem hm) (hv.mem hm)).mono ?_
  rintro e w1 ⟨rfl, m1⟩
  have hP1 := hP.mem m1
  have hW1 := hW.mem m1
  have hm1 := hm.trans m1
  clear hP hW hm m1
  have f0 := hP1.frozen 0
  have f1 := hP1.frozen 1
  have f2 := hP1.frozen 2
  have c0 := hP1.cell (j := 0) rfl
  have c1 := hP1.cell (j := 1) rfl
  have c2 := hP1.cell (j := 2) rfl
  have d0 := hW1.cell (j := 0) rfl
  cases hE : enc k s ks vs data.data.toList with
  | none =>
    have HE := hide hE
    clear hE
    simp only [encV]
    go_wp2_with fail
    exact bodyPost_ret (ret_page rfl _ _ rfl (hP1.put3 _ _ _)) rfl ⟨by rw [HE.out]; rfl, hm1.put3 (by omega) _ _ _⟩
  | some l =>
    have HE := hide hE
    clear hE
    simp only [encV]
    go_wp2_with fail
    exact bodyPost_ret (ret_page rfl _ _ rfl (hP1.put3 _ _ _)) rfl ⟨by rw [HE.out]; rfl, hm1.put3 (by omega) _ _ _⟩

end Go.Proofs.Ytbibkheiagglbaa.Look
