/-
  ScanPages, ScanIter, ScanAllMath, ScanCmp, ScanSort, ScanAll, ScanAwake, ScanSame: in one text (merge.json).
-/
import Derived.Test.YtbibkheiagglbaaScanLow
import Derived.RangeFuncNested
import Derived.RangeFuncBound
import Derived.RangeFuncCalls
import Derived.RangeFuncLeaves
import Derived.Shelf.Abstract
import Derived.Shelf.RegionOpen
import Derived.WalkKit
import Derived.OwnWalkIn
import Derived.TacticsInMore
import Derived.LoopNIn
import Derived.LoopIn
import Derived.Test.YtbibkheiagglbaaShelf
import Derived.Shelf.SlSortCmp.QuietGrown
import Derived.Shelf.SlSortCmp.NoneTotal
import Derived.Maps.OwnIn
import Derived.Maps.AppendAt
import Derived.Test.YtbibkheiagglbaaScanPageMk
import Derived.Test.YtbibkheiagglbaaNandNewAll
import Derived.Test.YtbibkheiagglbaaNandSpecs
/-
  Layer 6: the page at a place, by the document and by the program.
-/
namespace Go.Proofs.Ytbibkheiagglbaa.Scan
open Go.RowKit Go.Proofs.Ytbibkheiagglbaa.Nand

def pageC (bs : List BlockT) (at' : Int) : PageT × Bool :=
  if 0 ≤ at' ∧ at'.toNat / 16 < bs.length ∧ at'.toNat / 16 < 32 ∧ at'.toNat % 16 < (bs.getD (at'.toNat / 16) default).1.length then ((bs.getD (at'.toNat / 16) default).1.getD (at'.toNat % 16) zeroPage, true) else (zeroPage, false)
theorem pageC_neg {bs : List BlockT} {at' : Int} (h : at' < 0) : pageC bs at' = (zeroPage, false) := by
  unfold pageC; rw [if_neg (by omega)]
theorem pageC_no {bs : List BlockT} {n : Nat} (h : ¬ (n / 16 < bs.length ∧ n / 16 < 32)) : pageC bs n = (zeroPage, false) := by
  unfold pageC; rw [if_neg (fun h' => h ⟨h'.2.1, h'.2.2.1⟩)]
theorem pageC_short {bs : List BlockT} {n : Nat} (hb : n / 16 < bs.length) (h : bs[n / 16].1.length ≤ n % 16) : pageC bs n = (zeroPage, false) := by
  unfold pageC
  rw [if_neg]
  intro h'
  have := h'.2.2.2
  rw [Int.toNat_natCast] at this
  simp [hb] at this
  omega
theorem pageC_yes {bs : List BlockT} {n : Nat} (hb : n / 16 < bs.length) (hb' : n / 16 < 32) (h : n % 16 < bs[n / 16].1.length) : pageC bs n = (bs[n / 16].1[n % 16], true) := by
  unfold pageC
  rw [if_pos]
  · rw [Int.toNat_natCast]
    simp [hb, h]
  · rw [Int.toNat_natCast]
    exact ⟨by omega, hb, hb', by simpa [hb] using h⟩

def PageSpec (F : Nat) : Prop := ∀ (S : Nat → Prop) (vb : Value) (bs : List BlockT) (br off : Bool) (ops at' : Int) (w : World), BlocksAt S w vb bs → at' ≤ 9223372036854775807 →
  Calls Try.prog F #[chipV vb br off ops, .int .i64 at'] w fun e w' => e = .returned (.tuple #[pageV (pageC bs at').1, .bool (pageC bs at').2]) ∧ Mem w w'
theorem blk_at2 (w : World) (o : Obj) (cs : Array Value) (t : TypeId) : Blk ((w.alloc o).alloc (.cells cs t)) (w.heap.size + 1) t cs := by
  have := Blk.new (w.alloc o) cs t
  rwa [show (w.alloc o).heap.size = w.heap.size + 1 by simp] at this
theorem ret_pageB {fn : Func} {p u : Tmp} (h : fn.results = #[.cell p 54, .tmp u]) (tmps : Array Value) (w : World) {b : Nat} {a0 a1 a2 : Value} (hp : tmps.getD p undef = .pointer (some ⟨b, 0, none⟩)) (hb : Blk w b 54 #[a0, a1, a2]) :
    (results fn tmps).run Try.prog w = .ok (.tuple #[.agg #[a0, a1, a2], tmps.getD u undef]) w := Nand.ret_page h tmps w hp hb

end Go.Proofs.Ytbibkheiagglbaa.Scan
/-
  Layer 6, the program: the pages, one behind the other, each behind its place.
-/
namespace Go.Proofs.Ytbibkheiagglbaa.Scan
open Go.RowKit Go.Shelf Go.Proofs.Ytbibkheiagglbaa.Nand
attribute [local go_sem] Oper.semAt_some

def pgAt (bs : List BlockT) (b p : Nat) : PageT := (bs.getD b default).1.getD p zeroPage
def encY (bs : List BlockT) (x : Nat × Nat) : Array Value := #[.int .i64 (place x.1 x.2), pageV (pgAt bs x.1 x.2)]
def yRow (b n : Nat) : List (Nat × Nat) := (List.range n).map fun p => (b, p)
def yTo (bs : List BlockT) (k : Nat) : List (Nat × Nat) := (List.range k).flatMap fun b => yRow b (min (bs.getD b default).1.length 16)
theorem yRow_succ (b n : Nat) : yRow b (n + 1) = yRow b n ++ [(b, n)] := by simp [yRow, List.range_succ]
theorem yTo_succ (bs : List BlockT) (k : Nat) : yTo bs (k + 1) = yTo bs k ++ yRow k (min (bs.getD k default).1.length 16) := by simp [yTo, List.range_succ]
theorem yRow_length (b n : Nat) : (yRow b n).length = n := by simp [yRow]
theorem yTo_length (bs : List BlockT) (k : Nat) : (yTo bs k).length ≤ k * 16 := by
  induction k with
  | zero => simp [yTo]
  | succ k ih => rw [yTo_succ, List.length_append, yRow_length]; omega
theorem grown_of_mem {w w' : World} (m : Mem w w') : w.grownBy w' none := ⟨m.os, m.tape, m.output, m.size, fun k hk _ => m.block k hk⟩
theorem abides_mem {β : Type} {B : Nat} {J : β → World → Prop} (h : AbidesFrom B J) {s : β} {w w' : World} (hs : J s w) (m : Mem w w') : J s w' :=
  h s w w' none hs (grown_of_mem m) (fun r e => by cases e)

set_option maxRecDepth 100000 in
set_option maxHeartbeats 4000000 in
theorem pages1 (n l Bn n₀ B : Nat) (hn : 1 ≤ n) (oa : Option Addr) (ca : Nat) (bs : List BlockT) (br off : Bool) (ops : Int) (J Jx : List (Nat × Nat) → World → Prop) (hJ : AbidesFrom B J)
    (hY : ∀ pre x W, J pre W → pre.length < 512 → YieldAt Fence.wide (n - 1) Try.prog l (encY bs x) W fun e W' =>
      (e = .returned (.bool true) ∧ J (pre ++ [x]) W' ∧ Below n₀ W W') ∨ (e = .returned (.bool false) ∧ Jx (pre ++ [x]) W'))
    (W : World) (hC : Blk W Bn 42 #[.slice oa bs.length ca, .bool br, .bool off, .int .i64 ops]) (hb : BlocksAt (fun x => x < n₀) W (.slice oa bs.length ca) bs) (hn₀ : n₀ ≤ W.heap.size) (h0 : J [] W) :
    CallsIn Fence.wide n Try.prog 52 #[.func (.yield l) #[] #[], .pointer (some ⟨Bn, 0, none⟩)] W fun e W' => (∃ v, e = .returned v) ∧
      ((∃ ys, ys = yTo bs (min bs.length 32) ∧ J ys W') ∨ (∃ pre, True ∧ Jx pre W')) := by
  have w24 : Fence.wide.fn 53 := trivial
  have w40 : Fence.wide.fn 54 := trivial
  have w12 : Fence.wide.fn 55 := trivial
  have c0 := hC.cell (j := 0) rfl
  have c1 := hC.cell (j := 1) rfl
  have c2 := hC.cell (j := 2) rfl
  have c3 := hC.cell (j := 3) rfl
  refine callsIn_of_wp Try.func52 rfl trivial ?_ rfl
  simp only [Try.ntmps52, List.size_toArray, List.length_cons, List.length_nil, Nat.reduceAdd, Nat.reduceSub, Array.replicate_succ, Array.replicate_zero, List.push_toArray, List.append_toArray, List.nil_append, List.cons_append]
  gi_wp2_with (gi_at_call 53; refine (callsIn_wide.2 (placedBlocks _ _ bs br off ops _ hb)).mono ?_; rintro e w1 ⟨⟨v1, rfl, hb1⟩, m1⟩; obtain ⟨bt, hbt⟩ : ∃ bt, bs.take 32 = bt := ⟨_, rfl⟩; rw [hbt] at hb1; have HBT := hide hbt; clear hbt; obtain ⟨o1, q1, rfl⟩ := hb1.shape)
  have j1 := abides_mem hJ h0 m1
  have hn1 : n₀ ≤ w1.heap.size := Nat.le_trans hn₀ m1.size
  have hlen32 : bt.length ≤ 32 := by rw [← HBT.out, List.length_take]; omega
  have HL : Hid (bt.length = min bs.length 32) := by show _ = _; rw [← HBT.out, List.length_take]; omega
  have HG : Hid (∀ k (h : k < bt.length), bt[k] = bs.getD k default) := by
    have e := HBT.out
    subst e
    intro k h
    have hk : k < bs.length := by rw [List.length_take] at h; omega
    simp [hk]
  clear c0 c1 c2 c3 hC hb m1 h0 hn₀ HBT
  gi_loopw [10] (fun i wr => ∃ k : Nat, k ≤ bt.length ∧ i = .int .i64 k ∧ J (yTo bs k) wr ∧ Below n₀ w1 wr) (fun i _ => bt.length - (intOf i).toNat)
  case atStart => exact ⟨0, Nat.zero_le _, rfl, by simpa [yTo] using j1, Below.refl _ _⟩
  case round =>
    obtain ⟨k, hk, rfl, hJk, hnx⟩ := hrel
    by_cases hlt : k < bt.length
    · have hlt' : (k : Int) < (bt.length : Int) := by omega
      have hk0 : (0 : Int) ≤ (k : Int) := by omega
      have hbr := hb1.kept (S' := fun x => x < n₀) (w' := wr) fun g hg _ => ⟨hg, fun off => Below.cell hnx (p := ⟨g, off, none⟩) hg⟩
      obtain ⟨ga, fa, pa, qa, rfl, _, x0, x1, x2, x3, hpa⟩ := hbr.at hlt
      have HGk := hide (HG.out k hlt)
      generalize hbk : bt[k] = bk at x0 x1 x2 x3 hpa HGk
      clear hbk
      obtain ⟨ps, nx, er, bd⟩ := bk
      simp only [] at x0 x1 x2 x3 hpa
      have ma : Mem wr (wr.alloc (.cells #[.slice pa ps.length qa, .int .i64 nx, .int .i64 er, .bool bd] 52)) := (Mem.refl wr).alloc _
      have hpa1 := hpa.mem ma
      gi_wp2_with (gi_at_call 54; refine (callsIn_wide.2 (placedPages _ _ ps nx er bd _ hpa1)).mono ?_; rintro e w2 ⟨⟨v2, rfl, hp2⟩, m2⟩; obtain ⟨pt, hpt⟩ : ∃ pt, ps.take 16 = pt := ⟨_, rfl⟩; rw [hpt] at hp2; have HPT := hide hpt; clear hpt; obtain ⟨o2, q2, rfl⟩ := hp2.shape)
      have j2 := abides_mem hJ (abides_mem hJ hJk ma) m2
      have hb2 : Below n₀ w1 w2 := Below.trans hnx (Below.mono (ma.trans m2) (Nat.le_trans hn1 hnx.size))
      have hlen16 : pt.length ≤ 16 := by rw [← HPT.out, List.length_take]; omega
      have HL2 : Hid (pt.length = min ps.length 16) := by show _ = _; rw [← HPT.out, List.length_take]; omega
      have HG2 : Hid (∀ j (h : j < pt.length), pt[j] = pgAt bs k j) := by
        have e := HPT.out
        subst e
        intro j h
        have hj : j < ps.length := by rw [List.length_take] at h; omega
        unfold pgAt
        rw [← HGk.out]
        simp [hj]
      have HRow : Hid (yTo bs (k + 1) = yTo bs k ++ yRow k pt.length) := by
        show _ = _
        rw [yTo_succ, ← HGk.out, HL2.out]
      clear x0 x1 x2 x3 hpa ma hpa1 hJk hbr HGk m2 HPT
      gi_loopw [18] (fun i wr => ∃ j : Nat, j ≤ pt.length ∧ i = .int .i64 j ∧ J (yTo bs k ++ yRow k j) wr ∧ Below n₀ w2 wr) (fun i _ => pt.length - (intOf i).toNat)
      case atStart => exact ⟨0, Nat.zero_le _, rfl, by simpa [yRow] using j2, Below.refl _ _⟩
      case round =>
        obtain ⟨j, hj, rfl, hJj, hny⟩ := hrel
        by_cases hlj : j < pt.length
        · have hlj' : (j : Int) < (pt.length : Int) := by omega
          have hj0 : (0 : Int) ≤ (j : Int) := by omega
          have hpr := hp2.kept (S' := fun x => x < n₀) (w' := wr) fun g hg _ => ⟨hg, fun off => Below.cell hny (p := ⟨g, off, none⟩) hg⟩
          obtain ⟨gp, fp, rfl, _, y0, y1, y2⟩ := hpr.at hlj
          rw [HG2.out j hlj] at y0 y1 y2
          have hln : (yTo bs k ++ yRow k j).length < 512 := by
            have := yTo_length bs k
            rw [List.length_append, yRow_length]
            omega
          have mp : Mem wr ((wr.alloc (.cells #[.bool (pgAt bs k j).1, .string (pgAt bs k j).2.1, .string (pgAt bs k j).2.2] 54)).drew) := ((Mem.refl wr).alloc _).drew
          have hJp := abides_mem hJ hJj mp
          have HJN := hide (hY _ (k, j) _ hJp hln)
          obtain ⟨fn, tmps, assign, body, hy, hR⟩ := HJN.out
          unfold encY at hy
          dsimp only at hy
          generalize pgAt bs k j = pg at *
          have hR2 := hR.mono (R' := fun e W' => ∃ bo : Bool, e = .returned (.bool bo) ∧ ((bo = true ∧ J (yTo bs k ++ yRow k j ++ [(k, j)]) W' ∧ Below n₀ (wr.alloc (.cells #[.bool pg.1, .string pg.2.1, .string pg.2.2] 54)).drew W') ∨ (bo = false ∧ Jx (yTo bs k ++ yRow k j ++ [(k, j)]) W'))) (by
            rintro e W' (⟨rfl, h1, h2⟩ | ⟨rfl, h1⟩)
            · exact ⟨true, rfl, .inl ⟨rfl, h1, h2⟩⟩
            · exact ⟨false, rfl, .inr ⟨rfl, h1⟩⟩)
          clear hR HJN
          gi_wp2
          gi_region_with (first
            | (gi_at_call 55; refine (callsIn_wide.2 (codePlace _ _ _)).mono ?_; rintro e w' ⟨rfl, rfl⟩)
            | (refine hR2.mono ?_; rintro e W3 ⟨bo, rfl, hbo⟩))
          all_goals (rcases hbo with ⟨rfl, hJ3, hk3⟩ | ⟨rfl, hJx3⟩)
          · have hb3 := Below.trans hny (Below.trans (Below.mono mp (by have := hb2.size; have := hny.size; omega)) hk3)
            rw [List.append_assoc, ← yRow_succ] at hJ3
            gi_wp2
            go_roundw
            case rel => exact ⟨j + 1, by omega, by go_num, hJ3, hb3⟩
            case measure => simp [intOf]; omega
          · gi_wp2
            refine bodyPost_ret (results_none rfl _ _ _) rfl ?_
            exact ⟨⟨_, rfl⟩, .inr ⟨_, trivial, hJx3⟩⟩
          · have hb3 := Below.trans hny (Below.trans (Below.mono mp (by have := hb2.size; have := hny.size; omega)) hk3)
            rw [List.append_assoc, ← yRow_succ] at hJ3
            gi_wp2
            go_roundw
            case rel => exact ⟨j + 1, by omega, by go_num, hJ3, hb3⟩
            case measure => simp [intOf]; omega
          · gi_wp2
            refine bodyPost_ret (results_none rfl _ _ _) rfl ?_
            exact ⟨⟨_, rfl⟩, .inr ⟨_, trivial, hJx3⟩⟩
        · have hje : j = pt.length := by omega
          subst hje
          have hlj' : ¬ ((pt.length : Int) < (pt.length : Int)) := by omega
          rw [← HRow.out] at hJj
          have hb3 := Below.trans hb2 hny
          gi_wp2
          go_roundw
          case rel => exact ⟨k + 1, by omega, by go_num, hJj, hb3⟩
          case measure => simp [intOf]; omega
    · have hke : k = bt.length := by omega
      subst hke
      have hlt' : ¬ ((bt.length : Int) < (bt.length : Int)) := by omega
      gi_wp2
      go_end0
      exact ⟨⟨_, rfl⟩, .inl (by rw [← HL.out]; exact hJk)⟩
end Go.Proofs.Ytbibkheiagglbaa.Scan
/-
  Layer 6: what the pages tell, in the order in which the program comes by them.
-/
namespace Go.Proofs.Ytbibkheiagglbaa.Scan
open Go.RowKit Go.Proofs.Ytbibkheiagglbaa.Nand

/-- what a page tells, wherever it is -/
def tellQ (b p : Nat) (pg : PageT) : List FoundT := (Look.look pg.1 pg.2.2.data.toList pg.2.1.data.toList).2.toList.map fun r => (place b p, r)
theorem tellQ_P {b p : Nat} (hb : b < 32) (hp : p < 16) (pg : PageT) : tellQ b p pg = tellP b p pg := by
  unfold tellQ tellP
  rw [if_pos ⟨hb, hp⟩]
theorem tellQ_none {b p : Nat} {pg : PageT} (h : (Look.look pg.1 pg.2.2.data.toList pg.2.1.data.toList).2 = none) : tellQ b p pg = [] := by
  unfold tellQ
  rw [h]
  rfl
theorem tellQ_some {b p : Nat} {pg : PageT} {r : RecT} (hr : (Look.look pg.1 pg.2.2.data.toList pg.2.1.data.toList).2 = some r) : tellQ b p pg = [(place b p, r)] := by
  unfold tellQ
  rw [hr]
  rfl
def tellY (bs : List BlockT) (pre : List (Nat × Nat)) : List FoundT := pre.flatMap fun x => tellQ x.1 x.2 (pgAt bs x.1 x.2)
theorem tellY_append (bs : List BlockT) (xs ys : List (Nat × Nat)) : tellY bs (xs ++ ys) = tellY bs xs ++ tellY bs ys := by simp [tellY]
theorem tellY_snoc (bs : List BlockT) (pre : List (Nat × Nat)) (x : Nat × Nat) : tellY bs (pre ++ [x]) = tellY bs pre ++ tellQ x.1 x.2 (pgAt bs x.1 x.2) := by simp [tellY]
theorem tellY_length (bs : List BlockT) (pre : List (Nat × Nat)) : (tellY bs pre).length ≤ pre.length := by
  induction pre with
  | nil => simp [tellY]
  | cons x xs ih =>
    have h1 : (tellQ x.1 x.2 (pgAt bs x.1 x.2)).length ≤ 1 := by
      unfold tellQ
      cases (Look.look (pgAt bs x.1 x.2).1 (pgAt bs x.1 x.2).2.2.data.toList (pgAt bs x.1 x.2).2.1.data.toList).2 <;> simp
    have : tellY bs (x :: xs) = tellQ x.1 x.2 (pgAt bs x.1 x.2) ++ tellY bs xs := by simp [tellY]
    rw [this, List.length_append, List.length_cons]
    omega
theorem tellY_row (bs : List BlockT) {k : Nat} (hk : k < 32) {n : Nat} (hn : n ≤ (bs.getD k default).1.length) (hn' : n ≤ 16) : tellY bs (yRow k n) = tellB k 0 ((bs.getD k default).1.take n) := by
  induction n with
  | zero => simp [yRow, tellY, tellB]
  | succ n ih =>
    have hlt : n < (bs.getD k default).1.length := by omega
    rw [yRow_succ, tellY_snoc, ih (by omega) (by omega), tellB_take k _ hlt]
    congr 1
    show tellQ k n (pgAt bs k n) = _
    rw [tellQ_P hk (by omega)]
    unfold pgAt
    rw [show (bs.getD k default).1.getD n zeroPage = (bs.getD k default).1[n] from by rw [List.getD_eq_getElem?_getD, List.getElem?_eq_getElem hlt]; rfl]
theorem tellB_16 (k : Nat) (ps : List PageT) : tellB k 0 (ps.take (min ps.length 16)) = tellB k 0 ps := by
  by_cases h : ps.length ≤ 16
  · rw [show min ps.length 16 = ps.length by omega, List.take_length]
  · have e : ps = ps.take 16 ++ ps.drop 16 := (List.take_append_drop 16 ps).symm
    rw [show min ps.length 16 = 16 by omega]
    conv => rhs; rw [e]
    rw [tellB_append, show 0 + (ps.take 16).length = 16 by rw [List.length_take]; omega]
    have h0 := tellB_len16 k 16 (ps.drop 16)
    have h1 : tellB k 16 (ps.drop 16) = [] := List.length_eq_zero_iff.1 (by omega)
    rw [h1, List.append_nil]
theorem tellY_to (bs : List BlockT) {k : Nat} (hk : k ≤ bs.length) (hk' : k ≤ 32) : tellY bs (yTo bs k) = tellC 0 (bs.take k) := by
  induction k with
  | zero => simp [yTo, tellY, tellC]
  | succ k ih =>
    have hlt : k < bs.length := by omega
    rw [yTo_succ, tellY_append, ih (by omega) (by omega), tellY_row bs (by omega) (by omega) (by omega), tellB_16, tellC_take bs hlt]
    congr 1
    rw [show bs.getD k default = bs[k] from by rw [List.getD_eq_getElem?_getD, List.getElem?_eq_getElem hlt]; rfl]
theorem tellY_all (bs : List BlockT) : tellY bs (yTo bs (min bs.length 32)) = tellC 0 bs := by
  rw [tellY_to bs (by omega) (by omega)]
  by_cases h : bs.length ≤ 32
  · rw [show min bs.length 32 = bs.length by omega, List.take_length]
  · have e : bs = bs.take 32 ++ bs.drop 32 := (List.take_append_drop 32 bs).symm
    rw [show min bs.length 32 = 32 by omega]
    conv => rhs; rw [e]
    rw [tellC_append, show 0 + (bs.take 32).length = 32 by rw [List.length_take]; omega]
    have h0 := tellC_len512 32 (bs.drop 32)
    have h1 : tellC 32 (bs.drop 32) = [] := List.length_eq_zero_iff.1 (by omega)
    rw [h1, List.append_nil]
theorem pgAt_size {bs : List BlockT} (h : ∀ b ∈ bs, ∀ p ∈ b.1, p.2.2.size ≤ maxLen) (b p : Nat) : (pgAt bs b p).2.2.size ≤ maxLen := by
  unfold pgAt
  by_cases hb : b < bs.length
  · rw [show bs.getD b default = bs[b] from by rw [List.getD_eq_getElem?_getD, List.getElem?_eq_getElem hb]; rfl]
    by_cases hp : p < bs[b].1.length
    · rw [show bs[b].1.getD p zeroPage = bs[b].1[p] from by rw [List.getD_eq_getElem?_getD, List.getElem?_eq_getElem hp]; rfl]
      exact h _ (List.getElem_mem hb) _ (List.getElem_mem hp)
    · rw [show bs[b].1.getD p zeroPage = zeroPage from by rw [List.getD_eq_getElem?_getD, List.getElem?_eq_none (by omega)]; rfl]
      show (0 : Nat) ≤ maxLen
      exact Nat.zero_le _
  · rw [show bs.getD b default = default from by rw [List.getD_eq_getElem?_getD, List.getElem?_eq_none (by omega)]; rfl]
    show (0 : Nat) ≤ maxLen
    exact Nat.zero_le _

/-! ### Cells that lie on where what is no cells turns -/
theorem IntsIn.kept2 {S S' : Nat → Prop} {w w' : World} {v : Value} {zs : List Int} (h : IntsIn S w v zs) (hS : ∀ g, S g → (∃ off u, w.cell? ⟨g, off, none⟩ = some u) → S' g ∧ ∀ off, w'.cell? ⟨g, off, none⟩ = w.cell? ⟨g, off, none⟩) : IntsIn S' w' v zs := by
  refine ⟨h.1, ?_⟩
  rcases h.2 with h | ⟨b, off, cap, hv, h0, hs, hc⟩
  · exact .inl h
  · obtain ⟨h1, h2⟩ := hS b hs ⟨_, _, hc 0 h0⟩
    exact .inr ⟨b, off, cap, hv, h0, h1, fun j hj => by rw [h2]; exact hc j hj⟩
theorem FitsL.kept2 {S S' : Nat → Prop} {w w' : World} {xs : List RowT} {fs : List FoundT} (h : FitsL S w xs fs) (hS : ∀ g, S g → (∃ off u, w.cell? ⟨g, off, none⟩ = some u) → S' g ∧ ∀ off, w'.cell? ⟨g, off, none⟩ = w.cell? ⟨g, off, none⟩) : FitsL S' w' xs fs :=
  ⟨h.1, fun i a b => by
    obtain ⟨e0, e1, e2, k1, k2⟩ := h.2 i a b
    exact ⟨e0, e1, e2, k1.kept2 hS, k2.kept2 hS⟩⟩
/-- a block that bears a cell is cells -/
theorem cells_of_cell {w : World} {g off : Nat} {u : Value} (h : w.cell? ⟨g, off, none⟩ = some u) {o : Obj} (ho : w.heap[g]? = some o) : o.isCells = true := by
  unfold World.cell? at h
  rw [ho] at h
  cases o <;> simp_all [Obj.isCells]
theorem FitsL.turned {S : Nat → Prop} {w w' : World} {row : Option Nat} {xs : List RowT} {fs : List FoundT} (h : FitsL S w xs fs) (hg : w.grownBy w' row) (hr : ∀ r, row = some r → ∃ o : Obj, w.heap[r]? = some o ∧ o.isCells = false) : FitsL S w' xs fs :=
  h.kept2 fun g hs ⟨off, u, hc⟩ => by
    have hlt := World.block_lt_of_cell? w _ hc
    refine ⟨hs, fun off' => World.cell?_of_block (w := w) (a := ⟨g, off', none⟩) (hg.block g hlt (fun e => ?_))⟩
    obtain ⟨o, ho, hn⟩ := hr g e.symm
    have := cells_of_cell hc ho
    rw [hn] at this
    cases this
theorem FoundsAt.turned {S : Nat → Prop} {w w' : World} {row : Option Nat} {v : Value} {fs : List FoundT} (h : FoundsAt S w v fs) (hg : w.grownBy w' row) (hr : ∀ r, row = some r → ∃ o : Obj, w.heap[r]? = some o ∧ o.isCells = false) : FoundsAt S w' v fs := by
  refine ⟨h.1, ?_⟩
  rcases h.2 with h | ⟨g, off, cap, xs, hv, h0, hs, hf, hc⟩
  · exact .inl h
  · have hlen := hf.1
    have c0 : w.cell? ⟨g, off + (0 * 5 + 0), none⟩ = some (.int .i64 (xs[0]'(by omega)).1) := hc _ _ (by rw [rowCells_get (by omega) (by omega)]; rfl)
    have e : w'.heap[g]? = w.heap[g]? := by
      refine hg.block g (World.block_lt_of_cell? w _ c0) (fun e => ?_)
      obtain ⟨o, ho, hn⟩ := hr g e.symm
      have := cells_of_cell c0 ho
      rw [hn] at this
      cases this
    exact .inr ⟨g, off, cap, xs, hv, h0, hs, hf.turned hg hr, fun j u hj => (World.cell?_of_block (w := w) (a := ⟨g, off + j, none⟩) e).trans (hc j u hj)⟩
end Go.Proofs.Ytbibkheiagglbaa.Scan
/-
  Layer 6, the program: which of two stands ahead.
-/
namespace Go.Proofs.Ytbibkheiagglbaa.Scan
open Go.RowKit Go.Proofs.Ytbibkheiagglbaa.Nand Go.Sort Go.Shelf

def cmpOr (x y : Int) : Int := if x = 0 then y else x
def cmpF (x y : RowT) : Int := cmpOr (Lib.compareInt x.2.2.1 y.2.2.1) (Lib.compareInt x.1 y.1)

set_option maxHeartbeats 1000000 in
set_option maxRecDepth 100000 in
theorem codeOr (x y : Int) (g c : Nat) (w : World) (h0 : w.cell? ⟨g, 0, none⟩ = some (.int .i64 x)) (h1 : w.cell? ⟨g, 1, none⟩ = some (.int .i64 y)) :
    Calls Try.prog 59 #[.slice (some ⟨g, 0, none⟩) 2 c] w fun e w' => e = .returned (.int .i64 (cmpOr x y)) ∧ w' = w := by
  by_cases hx : x = 0
  · subst hx
    have HV : Hid (cmpOr 0 y = y) := by show _ = _; unfold cmpOr; rw [if_pos rfl]
    by_cases hy : y = 0
    · subst hy
      go_enter Try.func59, Try.ntmps59
      go_wp2_with fail
      refine wp_loop_rounds 4 ?_
      rw [rounds_succ]; go_wp2_with fail
      rw [rounds_succ]; go_wp2_with fail
      rw [rounds_succ]; go_wp2_with fail
      go_ret
      exact ⟨ret_int HV.out.symm, rfl⟩
    · have hy2 : (y != 0) = true := by simp [hy]
      go_enter Try.func59, Try.ntmps59
      go_wp2_with fail
      refine wp_loop_rounds 4 ?_
      rw [rounds_succ]; go_wp2_with fail
      rw [rounds_succ]; go_wp2_with fail
      go_ret
      exact ⟨ret_int HV.out.symm, rfl⟩
  · have HV : Hid (cmpOr x y = x) := by show _ = _; unfold cmpOr; rw [if_neg hx]
    have hx2 : (x != 0) = true := by simp [hx]
    go_enter Try.func59, Try.ntmps59
    go_wp2_with fail
    refine wp_loop_rounds 4 ?_
    rw [rounds_succ]; go_wp2_with fail
    go_ret
    exact ⟨ret_int HV.out.symm, rfl⟩

theorem cell_third (w : World) (o1 o2 : Obj) (cs : Array Value) (t : TypeId) {j : Nat} {v : Value} (h : cs[j]? = some v) : (((w.alloc o1).alloc o2).alloc (.cells cs t)).drew.cell? ⟨w.heap.size + 1 + 1, j, none⟩ = some v := by
  have hb := Blk.new ((w.alloc o1).alloc o2) cs t
  rw [show ((w.alloc o1).alloc o2).heap.size = w.heap.size + 1 + 1 by simp] at hb
  exact hb.drew.cell h
theorem grow_third (w : World) (o1 o2 o3 : Obj) : (((w.alloc o1).alloc o2).alloc o3).drew = grow (w.drewN 1) (#[o1] ++ #[o2] ++ #[o3]) := by
  rw [alloc_eq_grow, alloc_eq_grow, alloc_eq_grow, grow_grow, grow_grow]
  rfl
set_option maxHeartbeats 2000000 in
set_option maxRecDepth 100000 in
theorem codeEarlier (x y : RowT) (W : World) : Calls Try.prog 48 #[.agg (encF x).toArray, .agg (encF y).toArray] W fun e w' => e = .returned (.int .i64 (cmpF x y)) ∧ ∃ q os', w' = grow (W.drewN q) os' := by
  have hcon := fun a b W' => AnyG.cmp_Compare_int Try.cmpI a b W'
  change ∀ a b W', Calls Try.prog 60 _ _ _ at hcon
  obtain ⟨p, k, s, ⟨oa, na, ca⟩, ⟨ob, nb, cb⟩⟩ := x
  obtain ⟨p', k', s', ⟨oc, nc, cc⟩, ⟨od, nd, cd⟩⟩ := y
  have HV : Hid (cmpF (p, k, s, (oa, na, ca), (ob, nb, cb)) (p', k', s', (oc, nc, cc), (od, nd, cd)) = cmpOr (Lib.compareInt s s') (Lib.compareInt p p')) := rfl
  show Calls Try.prog 48 #[.agg #[.int .i64 p, .int .i64 k, .int .i64 s, .slice oa na ca, .slice ob nb cb], .agg #[.int .i64 p', .int .i64 k', .int .i64 s', .slice oc nc cc, .slice od nd cd]] W _
  have c1 := hcon s s'
  have c2 := hcon p p'
  clear hcon
  generalize Lib.compareInt s s' = r1 at *
  generalize Lib.compareInt p p' = r2 at *
  go_enter Try.func48, Try.ntmps48
  go_wp2_with fail
  go_region_held3 (fun w' => w'.cell? ⟨W.heap.size, 0, none⟩ = some (.int .i64 p) ∧ w'.cell? ⟨W.heap.size, 2, none⟩ = some (.int .i64 s) ∧ w'.cell? ⟨W.heap.size + 1, 0, none⟩ = some (.int .i64 p') ∧ w'.cell? ⟨W.heap.size + 1, 2, none⟩ = some (.int .i64 s'))
    (go_keep)
    (first
      | (go_at_call 60; refine (c1 _).mono ?_; clear c1; rintro e w' ⟨rfl, rfl⟩)
      | (go_at_call 60; refine (c2 _).mono ?_; rintro e w' ⟨rfl, rfl⟩)
      | (go_at_call 59; refine (codeOr r1 r2 _ _ _ (cell_third W _ _ _ _ rfl) (cell_third W _ _ _ _ rfl)).mono ?_; rintro e w' ⟨rfl, rfl⟩))
  go_wp2_with fail
  go_ret
  exact ⟨ret_int HV.out.symm, 1, _, grow_third W _ _ _⟩

theorem codeCmps (blk off size : Nat) (w : World) : CmpLays Try.prog 48 #[] encF 5 cmpF blk off size w :=
  fun _ _ _ _ x y => codeEarlier x y _

/-! ### The order -/
theorem cmpF_lt (x y : RowT) : ltOf cmpF x y = (decide (x.2.2.1 < y.2.2.1) || (decide (x.2.2.1 = y.2.2.1) && decide (x.1 < y.1))) := by
  unfold ltOf cmpF cmpOr Lib.compareInt
  by_cases h1 : x.2.2.1 < y.2.2.1
  · simp [h1]
  · by_cases h2 : y.2.2.1 < x.2.2.1
    · have h3 : ¬ x.2.2.1 = y.2.2.1 := by omega
      simp [h1, h2, h3]
    · have h3 : x.2.2.1 = y.2.2.1 := by omega
      by_cases h4 : x.1 < y.1
      · simp [h3, h4]
      · by_cases h5 : y.1 < x.1 <;> simp [h3, h4, h5]
theorem cmpF_swo : SWO (ltOf cmpF) :=
  ⟨fun x => by rw [cmpF_lt]; simp, fun x y z h1 h2 => by rw [cmpF_lt] at *; simp at *; omega, fun x y z h1 h2 => by rw [cmpF_lt] at *; simp at *; omega⟩
end Go.Proofs.Ytbibkheiagglbaa.Scan
/-
  Layer 6, the program: what was found is sorted.
-/
namespace Go.Proofs.Ytbibkheiagglbaa.Scan
open Go.RowKit Go.Proofs.Ytbibkheiagglbaa.Nand Go.Sort Go.Shelf

theorem rowCells_at {xs : List RowT} {j : Nat} (hj : j < xs.length * 5) : (rowCells xs)[j]? = some ((encF xs.toArray[j / 5]!)[j % 5]!) := by
  have h1 : j / 5 < xs.length := by omega
  have h2 : j % 5 < 5 := by omega
  have h := rowCells_get h1 h2
  rw [show j / 5 * 5 + j % 5 = j by omega] at h
  rw [h, show xs.toArray[j / 5]! = xs[j / 5] from by simp [h1]]
  have h3 : j % 5 < (encF xs[j / 5]).length := by rw [encF_length]; exact h2
  rw [List.getElem?_eq_getElem h3, getElem!_pos (encF xs[j / 5]) (j % 5) h3]
theorem holdsF {w : World} {base g n cap : Nat} {xs : List RowT} (h : w.ownsRow base 32 5 (.slice (some ⟨g, 0, none⟩) n cap) n (rowCells xs)) : HoldsK encF 5 w g 0 xs.toArray := by
  have hl : (rowCells xs).length = n * 5 := h.1
  rw [rowCells_length] at hl
  intro j hj
  have hj' : j < xs.length * 5 := by simpa using hj
  refine ⟨?_, by rw [Nat.zero_add]; exact h.frozenAt j⟩
  rw [Nat.zero_add, h.cellAt j (by omega), rowCells_at hj', get_flatK _ _ _ _ (by simpa using hj')]
  rfl
theorem sortedCells {w : World} {g m : Nat} {d0 d : Array RowT} {os : Array Obj} (h0 : HoldsK encF 5 w g 0 d0) (hs : d.size = d0.size) (hg : g < w.heap.size) (j : Nat) (u : Value) (hj : (rowCells d.toList)[j]? = some u) : (sortWorldK encF 5 w g 0 m d os).cell? ⟨g, j, none⟩ = some u := by
  have hlt : j < d.toList.length * 5 := by
    have := (List.getElem?_eq_some_iff.1 hj).1
    rw [rowCells_length] at this
    exact this
  have hh : HoldsK encF 5 (Sort.ahead w m) g 0 d0 := h0
  have h1 := holdsK_putRowK encF 5 (Sort.ahead w m) g 0 d0 d hh hs
  unfold sortWorldK
  rw [cell?_grow _ _ _ (by unfold putRowK; rw [Sort.size_putRow]; exact hg)]
  have h2 := (h1 j (by simpa using hlt)).1
  rw [Nat.zero_add] at h2
  rw [h2, ← hj, rowCells_at hlt, get_flatK _ _ _ _ (by simpa using hlt)]
  simp
theorem sortedElse {w : World} {g m : Nat} {d : Array RowT} {os : Array Obj} {b : Nat} (hb : b < w.heap.size) (hne : b ≠ g) : (sortWorldK encF 5 w g 0 m d os).heap[b]? = w.heap[b]? := by
  unfold sortWorldK putRowK putRow mapBlock grow
  rw [Array.getElem?_append_left (by simpa using hb)]
  simp [Array.getElem?_modify, Ne.symm hne, Sort.ahead]
theorem sortedBelow {w : World} {g m : Nat} {d : Array RowT} {os : Array Obj} {B : Nat} (hB : B ≤ w.heap.size) (hg : B ≤ g) : RowKit.Below B w (sortWorldK encF 5 w g 0 m d os) := by
  refine ⟨rfl, rfl, rfl, ?_, fun k hk => sortedElse (by omega) (by omega)⟩
  unfold sortWorldK putRowK putRow mapBlock grow
  simp [Sort.ahead]
/-! ### Other orders of the same row -/
theorem FitsL.cons {S : Nat → Prop} {w : World} {x : RowT} {f : FoundT} {xs : List RowT} {fs : List FoundT} (hx : Fits S w x f) (h : FitsL S w xs fs) : FitsL S w (x :: xs) (f :: fs) := by
  refine ⟨by simp [h.1], fun i a b => ?_⟩
  cases i with
  | zero => exact hx
  | succ i => exact h.2 i (by simpa using a) (by simpa using b)
theorem FitsL.uncons {S : Nat → Prop} {w : World} {x : RowT} {xs : List RowT} {fs : List FoundT} (h : FitsL S w (x :: xs) fs) : ∃ f fs', fs = f :: fs' ∧ Fits S w x f ∧ FitsL S w xs fs' := by
  cases fs with
  | nil => have := h.1; simp at this
  | cons f fs' =>
    refine ⟨f, fs', rfl, h.2 0 (by simp) (by simp), by have := h.1; simpa using this, fun i a b => h.2 (i + 1) (by simpa using a) (by simpa using b)⟩
theorem FitsL.perm {S : Nat → Prop} {w : World} {xs ys : List RowT} (hp : xs.Perm ys) : ∀ {fs : List FoundT}, FitsL S w xs fs → ∃ gs, fs.Perm gs ∧ FitsL S w ys gs := by
  induction hp with
  | nil => intro fs h; exact ⟨fs, List.Perm.refl _, h⟩
  | cons x _ ih =>
    intro fs h
    obtain ⟨f, fs', rfl, hx, h'⟩ := h.uncons
    obtain ⟨gs, h1, h2⟩ := ih h'
    exact ⟨f :: gs, h1.cons f, h2.cons hx⟩
  | swap x y l =>
    intro fs h
    obtain ⟨f, fs', rfl, hx, h'⟩ := h.uncons
    obtain ⟨f', fs'', rfl, hx', h''⟩ := h'.uncons
    exact ⟨f' :: f :: fs'', List.Perm.swap _ _ _, (h''.cons hx).cons hx'⟩
  | trans _ _ ih1 ih2 =>
    intro fs h
    obtain ⟨gs, h1, h2⟩ := ih1 h
    obtain ⟨hs, h3, h4⟩ := ih2 h2
    exact ⟨hs, h1.trans h3, h4⟩
theorem fits_lt {S : Nat → Prop} {w : World} {x y : RowT} {f g : FoundT} (hx : Fits S w x f) (hy : Fits S w y g) : ltOf cmpF x y = aheadF f g := by
  rw [cmpF_lt]
  unfold aheadF
  rw [hx.1, hx.2.2.1, hy.1, hy.2.2.1]
theorem sorted_fits {S : Nat → Prop} {w : World} {d : Array RowT} {gs : List FoundT} (h : FitsL S w d.toList gs) (hs : SortedIn (ltOf cmpF) 0 d.size d) : gs.Pairwise leF := by
  have hl := h.1
  rw [List.pairwise_iff_getElem]
  intro i j hi hj hij
  have hi' : i < d.size := by simp at hl; omega
  have hj' : j < d.size := by simp at hl; omega
  have h1 := hs i j (Nat.zero_le _) hij hj'
  rw [getElem!_pos d i hi', getElem!_pos d j hj'] at h1
  have h2 := fits_lt (h.2 j (by simpa using hj') hj) (h.2 i (by simpa using hi') hi)
  rw [Array.getElem_toList, Array.getElem_toList] at h2
  unfold leF
  rw [← h2]
  exact h1

set_option maxHeartbeats 1000000 in
set_option maxRecDepth 100000 in
/-- **the sort: what was found stands in its order; nothing else turns** -/
theorem codeSort (v : Value) (n base : Nat) (xs : List RowT) (fs : List FoundT) (w : World) (hown : w.ownsRow base 32 5 v n (rowCells xs)) (hn : n = fs.length) (hlen : fs.length ≤ 1000) (hf : FitsL (fun g => v.ownBlock ≠ some g ∧ base ≤ g) w xs fs) (ha : Apart fs) (hb : base ≤ w.heap.size) :
    Calls Try.prog 47 #[v, .func (.func 48) #[] #[]] w fun e w' => e = .returned (.tuple #[]) ∧ FoundsAt (fun g => base ≤ g) w' v (allF fs) ∧ RowKit.Below base w w' ∧ ∀ b, b < w.heap.size → v.ownBlock ≠ some b → w'.heap[b]? = w.heap[b]? := by
  rcases id hown.2 with ⟨rfl, h0⟩ | ⟨g, cap, cur, rfl, hg, hh, hlc, hcm, hcs, ht⟩
  · have hfs : fs = [] := List.length_eq_zero_iff.1 (by omega)
    subst hfs
    have hcon := AnyF.slices_SortFunc_none Try.sortF none 0 (.func (.func 48) #[] #[]) w
    change Calls Try.prog 47 _ _ _ at hcon
    refine hcon.mono ?_
    rintro e w' ⟨rfl, rfl⟩
    exact ⟨rfl, FoundsAt.nil _ _ _ _, RowKit.Below.refl _ _, fun _ _ _ => rfl⟩
  · have hxl : xs.length = n := by have := hf.1; omega
    have hgl : g < w.heap.size := (Array.getElem?_eq_some_iff.1 hh).1
    have hH := holdsF hown
    have eg : ∀ args w, (callFunc 48 args).run Try.prog w = .ok (.enter 48 args) w := enters_of Try.func48 (by kernel_rfl) rfl
    have hcon := AnyQ.slices_SortFunc Try.sortF 5 Try.isAgg32 Try.sizeOf32 encF encF_length (fun x v hv => by simp [encF] at hv; rcases hv with rfl | rfl | rfl | rfl | rfl <;> rfl) cmpF cmpF_swo 48 #[] g 0 cap xs.toArray w eg (codeCmps g 0 xs.toArray.size w) hH hgl (by simp; omega)
    change Calls Try.prog 47 _ _ _ at hcon
    have hsz : xs.toArray.size = n := by simpa using hxl
    rw [hsz] at hcon
    refine hcon.mono ?_
    rintro e w' ⟨rfl, d', m, os, hp, hs, rfl⟩
    have hd : d'.size = xs.toArray.size := hp.1
    have hperm : d'.toList.Perm xs := by
      have := hp.2.2
      rw [← hsz] at this
      have e1 : d'.extract 0 xs.toArray.size = d' := by rw [← hd]; simp
      have e2 : xs.toArray.extract 0 xs.toArray.size = xs.toArray := by simp
      rw [e1, e2] at this
      exact this
    obtain ⟨gs, p1, p2⟩ := FitsL.perm hperm.symm hf
    have hso := sorted_fits p2 (by rw [hd, hsz]; exact hs)
    have hgs : gs = allF fs := sorted_is ha p1.symm hso
    subst hgs
    have hcells : ∀ b, b < w.heap.size → b ≠ g → (sortWorldK encF 5 w g 0 m d' os).heap[b]? = w.heap[b]? := fun b h1 h2 => sortedElse h1 h2
    refine ⟨rfl, ⟨by rw [allF_length]; unfold maxLen; omega, ?_⟩, sortedBelow hb hg, fun b h1 h2 => hcells b h1 (fun e => h2 (by rw [e]; rfl))⟩
    by_cases hz : (allF fs).length = 0
    · exact .inl ⟨List.length_eq_zero_iff.1 hz, some ⟨g, 0, none⟩, cap, by rw [show n = 0 by rw [allF_length] at hz; omega]⟩
    · refine .inr ⟨g, 0, cap, d'.toList, by rw [allF_length, hn], by omega, hg, ?_, fun j u hj => by rw [Nat.zero_add]; exact sortedCells hH hd hgl j u hj⟩
      exact p2.kept fun b hb1 hb2 => ⟨hb1.2, fun off => World.cell?_of_block (w := w) (a := ⟨b, off, none⟩) (hcells b hb2 (fun e => hb1.1 (by rw [e]; rfl)))⟩
end Go.Proofs.Ytbibkheiagglbaa.Scan
/-
  Layer 6, the program: all that a chip's pages tell.
-/
namespace Go.Proofs.Ytbibkheiagglbaa.Scan
open Go.RowKit Go.Shelf Go.Proofs.Ytbibkheiagglbaa.Nand
attribute [local go_sem] Oper.semAt_some

set_option maxHeartbeats 1000000 in
set_option maxRecDepth 100000 in
theorem codePages (oa : Option Addr) (na ca : Nat) (br off : Bool) (ops : Int) (w : World) : Calls Try.prog 45 #[.agg #[.slice oa na ca, .bool br, .bool off, .int .i64 ops]] w fun e w' => e = .returned (.func (.func 52) #[] #[.pointer (some ⟨w.heap.size, 0, none⟩)]) ∧ w' = w.alloc (.cells #[.slice oa na ca, .bool br, .bool off, .int .i64 ops] 42) := by
  go_enter Try.func45, Try.ntmps45
  go_wp2_with fail
  go_ret
  exact ⟨rfl, rfl⟩
theorem pages_stops (n Bn n₀ : Nat) (hn : 1 ≤ n) (oa : Option Addr) (ca : Nat) (bs : List BlockT) (br off : Bool) (ops : Int) (w : World) (hC : Blk w Bn 42 #[.slice oa bs.length ca, .bool br, .bool off, .int .i64 ops]) (hb : BlocksAt (fun x => x < n₀) w (.slice oa bs.length ca) bs) (hn₀ : n₀ ≤ w.heap.size) :
    SeqStopsK Fence.wide n Try.prog 52 #[.pointer (some ⟨Bn, 0, none⟩)] (encY bs) (Below n₀) (fun ys => ys = yTo bs (min bs.length 32)) (fun _ => True) 512 w := fun l J Jx W hW hJ _ hY h0 =>
  pages1 n l Bn n₀ _ hn oa ca bs br off ops J Jx hJ hY W (hC.mem hW) (hb.mem hW) (Nat.le_trans hn₀ hW.size) h0

/-- between two rounds -/
def AllI (bs : List BlockT) (w : World) (pre : List (Nat × Nat)) (W : World) : Prop :=
  (∃ v xs, Boxed W (w.heap.size + 1) 36 v ∧ W.ownsRow w.heap.size 32 5 v (tellY bs pre).length (rowCells xs) ∧ FitsL (fun g => v.ownBlock ≠ some g ∧ w.heap.size + 1 < g) W xs (tellY bs pre)) ∧ Below w.heap.size w W
theorem allI_own (bs : List BlockT) (w : World) {B : Nat} (hB : w.heap.size ≤ B) : OwnFrom B (AllI bs w) := by
  rintro s X Y row ⟨⟨v, xs, hv, hr, hf⟩, hb⟩ hg hrow
  have hrow' : ∀ r, row = some r → ∃ o : Obj, X.heap[r]? = some o ∧ o.isCells = false := fun r e => (hrow r e).2
  refine ⟨⟨v, xs, hv.kept hg (fun e' => ?_), hr.kept hg ?_, hf.turned hg hrow'⟩, hb.grown hg hb.size (fun k e => Nat.le_trans hB (hrow k e).1)⟩
  · obtain ⟨o, ho, hc⟩ := hrow' _ e'.symm
    rw [show X.heap[w.heap.size + 1]? = _ from hv] at ho; cases ho; cases hc
  · rcases hr.2 with ⟨rfl, _⟩ | ⟨g, cap, cur, rfl, _, hgb, _⟩
    · exact .inl rfl
    · refine .inr fun e' => ?_
      obtain ⟨o, ho, hc⟩ := hrow' g (by simpa [Value.ownBlock] using e'.symm)
      rw [hgb] at ho; cases ho; cases hc
theorem cell_found (w : World) {B : Nat} (hB : B = w.heap.size) (z : RowT) : ∀ j u, (encF z)[j]? = some u → (w.alloc (.cells #[.int .i64 z.1, .int .i64 z.2.1, .int .i64 z.2.2.1, .slice z.2.2.2.1.1 z.2.2.2.1.2.1 z.2.2.2.1.2.2, .slice z.2.2.2.2.1 z.2.2.2.2.2.1 z.2.2.2.2.2.2] 32)).cell? ((⟨B, 0, none⟩ : Addr).add j) = some u := by
  intro j u hj
  subst hB
  rw [add_none, World.cell?_alloc_mark]
  simpa [encF] using hj
theorem encF_one (z : RowT) : ∀ u ∈ encF z, u.oneCell' = true := by
  intro u hu
  simp [encF] at hu
  rcases hu with rfl | rfl | rfl | rfl | rfl <;> rfl
theorem keeps_of_mem {B : Nat} {W W' : World} (m : Mem W W') : KeepsFrom B W W' :=
  ⟨m.size, fun k _ _ hk _ => (m.block k (Array.getElem?_eq_some_iff.1 hk).1).trans hk⟩
theorem allI_mem {bs : List BlockT} {w : World} {pre : List (Nat × Nat)} {W W' : World} (h : AllI bs w pre W) (m : Mem W W') : AllI bs w pre W' := by
  obtain ⟨⟨v, xs, hv, hr, hf⟩, hb⟩ := h
  exact ⟨⟨v, xs, (m.block _ hv.lt).trans hv, owns_below hr m, hf.mem m⟩, Below.trans hb (Below.mono m hb.size)⟩

set_option maxRecDepth 100000 in
set_option maxHeartbeats 8000000 in
theorem codeAll : AllSpec 33 := by
  intro S vb bs br off ops w hb hf hsz
  obtain ⟨i0, hi, hz0, hz1, hz2⟩ := info_parts info_found5
  refine (callsIn_wide (n := 5)).1 ?_
  obtain ⟨oa, ca, rfl⟩ := hb.shape
  have HSZ := hide (fun b p => pgAt_size hsz b p)
  have w25 : Fence.wide.fn 45 := trivial
  have w26 : Fence.wide.fn 46 := trivial
  have w27 : Fence.wide.fn 47 := trivial
  clear hsz
  refine callsIn_of_wp_marks Try.func33 rfl trivial ?_ rfl
  simp only [Try.ntmps33, List.size_toArray, List.length_cons, List.length_nil, Nat.reduceAdd, Nat.reduceSub, Array.replicate_succ, Array.replicate_zero, List.push_toArray, List.append_toArray, List.nil_append, List.cons_append]
  gi_wp2_with (gi_at_call 45; refine (callsIn_wide.2 (codePages _ _ _ _ _ _ _)).mono ?_; rintro e w' ⟨rfl, rfl⟩)
  have hsz : (((w.alloc (.cells #[.slice oa bs.length ca, .bool br, .bool off, .int .i64 ops] 42)).alloc (.cells #[.slice none 0 0] 36)).alloc (.cells #[.slice oa bs.length ca, .bool br, .bool off, .int .i64 ops] 42)).heap.size = w.heap.size + 3 := by simp
  have hM0 : Mem w (((w.alloc (.cells #[.slice oa bs.length ca, .bool br, .bool off, .int .i64 ops] 42)).alloc (.cells #[.slice none 0 0] 36)).alloc (.cells #[.slice oa bs.length ca, .bool br, .bool off, .int .i64 ops] 42)) := (((Mem.refl w).alloc _).alloc _).alloc _
  have bF : Boxed (((w.alloc (.cells #[.slice oa bs.length ca, .bool br, .bool off, .int .i64 ops] 42)).alloc (.cells #[.slice none 0 0] 36)).alloc (.cells #[.slice oa bs.length ca, .bool br, .bool off, .int .i64 ops] 42)) (w.heap.size + 1) 36 (.slice none 0 0) := by
    have h := (Boxed.new (w.alloc (.cells #[.slice oa bs.length ca, .bool br, .bool off, .int .i64 ops] 42)) 36 (.slice none 0 0)).alloc (.cells #[.slice oa bs.length ca, .bool br, .bool off, .int .i64 ops] 42)
    rwa [World.size_alloc] at h
  have hC2 : Blk (((w.alloc (.cells #[.slice oa bs.length ca, .bool br, .bool off, .int .i64 ops] 42)).alloc (.cells #[.slice none 0 0] 36)).alloc (.cells #[.slice oa bs.length ca, .bool br, .bool off, .int .i64 ops] 42)) (w.heap.size + 1 + 1) 42 #[.slice oa bs.length ca, .bool br, .bool off, .int .i64 ops] := by
    have h := Blk.new ((w.alloc (.cells #[.slice oa bs.length ca, .bool br, .bool off, .int .i64 ops] 42)).alloc (.cells #[.slice none 0 0] 36)) #[.slice oa bs.length ca, .bool br, .bool off, .int .i64 ops] 42
    rwa [World.size_alloc, World.size_alloc] at h
  obtain ⟨W0, hW0⟩ : ∃ W0, ((w.alloc (.cells #[.slice oa bs.length ca, .bool br, .bool off, .int .i64 ops] 42)).alloc (.cells #[.slice none 0 0] 36)).alloc (.cells #[.slice oa bs.length ca, .bool br, .bool off, .int .i64 ops] 42) = W0 := ⟨_, rfl⟩
  rw [hW0] at hsz hM0 bF hC2 ⊢
  clear hW0
  have hb0 := (hb.mono (S' := fun x => x < w.heap.size) fun g _ h => h).mem hM0
  have hI0 : AllI bs w [] W0 := ⟨⟨_, [], bF, World.ownsRow_nil _ _ _ _, FitsL.nil _ _⟩, hM0⟩
  refine wpIn_rangeFunc_ownH rfl (by decide) (gf := 52) (lb := #[.pointer (some ⟨w.heap.size + 1 + 1, 0, none⟩)]) rfl trivial (enters_of Try.func52 (by kernel_rfl) rfl)
    (pages_stops 4 (w.heap.size + 1 + 1) w.heap.size (by decide) oa ca bs br off ops W0 hC2 hb0 (by omega)) belowK_t (belowK_b (by omega)) (Below.refl _ _) (fun _ => rfl)
    (AllI bs w) (fun _ _ _ => False) (allI_own bs w (by omega)) (fun _ _ _ _ _ hs _ _ => hs) hI0
    (fun x a' W => ∃ Bx, w.heap.size + 1 < Bx ∧ Blk W Bx 54 #[.bool (pgAt bs x.1 x.2).1, .string (pgAt bs x.1 x.2).2.1, .string (pgAt bs x.1 x.2).2.2] ∧ a' = { tmps := #[chipV (.slice oa bs.length ca) br off ops, .pointer (some ⟨w.heap.size, 0, none⟩), .slice none 0 0, .pointer (some ⟨w.heap.size + 1, 0, none⟩), .int .i64 (place x.1 x.2), .pointer (some ⟨Bx, 0, none⟩), undef, undef, .agg #[.slice oa bs.length ca, .bool br, .bool off, .int .i64 ops], .func (.func 52) #[] #[.pointer (some ⟨w.heap.size + 1 + 1, 0, none⟩)], .int .i64 (place x.1 x.2), pageV (pgAt bs x.1 x.2), undef, undef, undef, undef, undef, undef, undef, undef, undef, undef, undef, undef, undef, undef, undef, undef], defers := [] })
    (fun x a' _ X Y row hs hg hr => by
      obtain ⟨Bx, h1, h2, h3⟩ := hs
      refine ⟨Bx, h1, (hg.block Bx h2.lt (fun e => ?_)).trans h2, h3⟩
      obtain ⟨_, o, ho, hc⟩ := hr Bx e.symm
      rw [show X.heap[Bx]? = _ from h2] at ho; cases ho; cases hc)
    ?assign ?body ?done ?stop
  case assign =>
    rintro l pre x W K hI hK
    have hs1 := hI.1
    obtain ⟨v, xs, hv, _⟩ := hs1
    have hlt := hv.lt
    unfold encY
    gi_wp2
    exact hK _ _ ((KeepsOthers.alloc _ _).from _) ((Below.refl _ W).alloc hI.2.size _) (allI_mem hI ((Mem.refl _).alloc _)) ⟨W.heap.size, hlt, Blk.new W _ _, rfl⟩
  case body =>
    rintro l pre x a' W hl ⟨r, hr⟩ hI ⟨Bx, hBx, bX, rfl⟩ hlt
    have hts := HSZ.out x.1 x.2
    have hcs := look_cases (pgAt bs x.1 x.2).1 (pgAt bs x.1 x.2).2.2.data.toList (pgAt bs x.1 x.2).2.1.data.toList
    have HSn := hide (tellY_snoc bs pre x)
    have HN := hide (fun h => tellQ_none (b := x.1) (p := x.2) (pg := pgAt bs x.1 x.2) h)
    have HSo := hide (fun (r : RecT) hr => tellQ_some (b := x.1) (p := x.2) (pg := pgAt bs x.1 x.2) (r := r) hr)
    have htl := tellY_length bs pre
    generalize pgAt bs x.1 x.2 = pg at *
    have c0 := bX.cell (j := 0) rfl
    have c1 := bX.cell (j := 1) rfl
    have c2 := bX.cell (j := 2) rfl
    obtain ⟨hIv, hB⟩ := hI
    obtain ⟨v, xs, hv, hrow, hfit⟩ := hIv
    have hlt1 := hv.lt
    generalize hq : Look.look pg.1 pg.2.2.data.toList pg.2.1.data.toList = q at *
    have HQ := hide hq
    clear hq
    rcases hcs with rfl | rfl | ⟨⟨kd, sq, ks, vs⟩, rfl⟩
    · have HE := hide (HN.out rfl)
      clear HN HSo
      gi_wp2_with (gi_at_call 46; refine (CallsIn.inRound l (callsIn_wide.2 (Look.lookLook pg.1 pg.2.1 pg.2.2 _ hts))).mono ?_; rintro e w1 ⟨hlk, m1⟩; rw [HQ.out] at hlk; obtain ⟨vk, vv, rfl, ik, iv, pk, pv⟩ := hlk; obtain ⟨ok, ck, rfl⟩ := ik.shape; obtain ⟨ov, cv, rfl⟩ := iv.shape; simp only [Tag.decR] at *)
      have mA : Mem W (w1.alloc (.cells #[.int .i64 0, .int .i64 0, .slice ok 0 ck, .slice ov 0 cv] 30)) := m1.alloc _
      have hI2 : AllI bs w pre _ := allI_mem ⟨⟨v, xs, hv, hrow, hfit⟩, hB⟩ mA
      exact ⟨keeps_of_mem mA, Below.mono mA hB.size, by unfold AllI at *; rw [HSn.out, HE.out, List.append_nil]; exact hI2⟩
    · have HE := hide (HN.out rfl)
      clear HN HSo
      gi_wp2_with (gi_at_call 46; refine (CallsIn.inRound l (callsIn_wide.2 (Look.lookLook pg.1 pg.2.1 pg.2.2 _ hts))).mono ?_; rintro e w1 ⟨hlk, m1⟩; rw [HQ.out] at hlk; obtain ⟨vk, vv, rfl, ik, iv, pk, pv⟩ := hlk; obtain ⟨ok, ck, rfl⟩ := ik.shape; obtain ⟨ov, cv, rfl⟩ := iv.shape; simp only [Tag.decR] at *)
      have mA : Mem W (w1.alloc (.cells #[.int .i64 0, .int .i64 0, .slice ok 0 ck, .slice ov 0 cv] 30)) := m1.alloc _
      have hI2 : AllI bs w pre _ := allI_mem ⟨⟨v, xs, hv, hrow, hfit⟩, hB⟩ mA
      exact ⟨keeps_of_mem mA, Below.mono mA hB.size, by unfold AllI at *; rw [HSn.out, HE.out, List.append_nil]; exact hI2⟩
    · have HE := hide (HSo.out (kd, sq, ks, vs) rfl)
      clear HN HSo
      gi_wp2_with (first
        | (gi_at_call 46; refine (CallsIn.inRound l (callsIn_wide.2 (Look.lookLook pg.1 pg.2.1 pg.2.2 _ hts))).mono ?_; rintro e w1 ⟨hlk, m1⟩; rw [HQ.out] at hlk; obtain ⟨vk, vv, rfl, ik, iv, pk, pv⟩ := hlk; obtain ⟨ok, ck, rfl⟩ := ik.shape; obtain ⟨ov, cv, rfl⟩ := iv.shape; simp only [Tag.decR] at *; have mA : Mem W (w1.alloc (.cells #[.int .i64 kd, .int .i64 sq, .slice ok ks.length ck, .slice ov vs.length cv] 30)) := m1.alloc _; have hv2 : Boxed (w1.alloc (.cells #[.int .i64 kd, .int .i64 sq, .slice ok ks.length ck, .slice ov vs.length cv] 30)) (w.heap.size + 1) 36 v := (mA.block _ hlt1).trans hv; have hrow2 := owns_below hrow mA; have cF := hv2.cell)
        | (gi_at_builtin; refine wpListIn_append_own_at _ rfl _ _ 36 rfl w.heap.size 32 i0 _ 5 72 Try.underlying36 hi hz0 hz1 hz2 rfl (by decide) v _ _ rfl (hrow2.alloc _) ⟨w1.heap.size + 1, 0, none⟩ 1 1 (encF (place x.1 x.2, kd, sq, (ok, ks.length, ck), (ov, vs.length, cv))) rfl rfl (cell_found _ (by simp) (place x.1 x.2, kd, sq, (ok, ks.length, ck), (ov, vs.length, cv))) (encF_one _) (by unfold maxLen; omega) (by omega) (by have := hB.size; have := m1.size; simp; omega) ?_; intro v' w3 hown' hgrow hnil hat; obtain ⟨g', cap', rfl⟩ := ownsRow_succ hown'; obtain ⟨hv3, hv4, hr4, hk4, hb4⟩ := hv2.appended (by decide) hrow2 (by have := hB.size; have := mA.size; omega) (by omega) hown' hgrow; have hc1 := hv3.cell; have hf1 := hv3.frozen))
      have hfit2 := hfit.mem mA
      have jk := (IntsIn.of_past ik pk).kept (S' := fun b => v.ownBlock ≠ some b ∧ w.heap.size + 1 < b) (w' := w1.alloc (.cells #[.int .i64 kd, .int .i64 sq, .slice ok ks.length ck, .slice ov vs.length cv] 30)) fun b hb1 hb2 => ⟨⟨fun e => by have := (hrow.lt b e).2; omega, by omega⟩, fun off => Below.cell ((Mem.refl w1).alloc _) (p := ⟨b, off, none⟩) hb2⟩
      have jv := (IntsIn.of_past iv pv).kept (S' := fun b => v.ownBlock ≠ some b ∧ w.heap.size + 1 < b) (w' := w1.alloc (.cells #[.int .i64 kd, .int .i64 sq, .slice ok ks.length ck, .slice ov vs.length cv] 30)) fun b hb1 hb2 => ⟨⟨fun e => by have := (hrow.lt b e).2; omega, by omega⟩, fun off => Below.cell ((Mem.refl w1).alloc _) (p := ⟨b, off, none⟩) hb2⟩
      have hfz : Fits (fun b => v.ownBlock ≠ some b ∧ w.heap.size + 1 < b) (w1.alloc (.cells #[.int .i64 kd, .int .i64 sq, .slice ok ks.length ck, .slice ov vs.length cv] 30)) (place x.1 x.2, kd, sq, (ok, ks.length, ck), (ov, vs.length, cv)) (place x.1 x.2, kd, sq, ks, vs) := ⟨rfl, rfl, rfl, jk, jv⟩
      have hfa := hfit2.snoc hfz
      have hfin := hfa.kept (S' := fun b => (Value.slice (some ⟨g', 0, none⟩) ((tellY bs pre).length + 1) cap').ownBlock ≠ some b ∧ w.heap.size + 1 < b) (w' := w3.setCell ⟨w.heap.size + 1, 0, none⟩ (.slice (some ⟨g', 0, none⟩) ((tellY bs pre).length + 1) cap')) fun b hb1 hb2 => by
        have hne : (Value.slice (some ⟨g', 0, none⟩) ((tellY bs pre).length + 1) cap').ownBlock ≠ some b := by
          rcases hat with h | h
          · rw [h]; exact hb1.1
          · rw [h]; intro e; injection e with e; simp at e hb2; omega
        refine ⟨⟨hne, hb1.2⟩, fun off => World.cell?_of_block (a := ⟨b, off, none⟩) ?_⟩
        rw [Below.heap_setCell _ _ _ b (by show b ≠ w.heap.size + 1; have := hb1.2; omega)]
        rw [hgrow.block b (by simp at hb2 ⊢; omega) (fun e => hb1.1 e.symm)]
        exact Below.heap_alloc _ _ b hb2
      refine ⟨(keeps_of_mem mA).trans (hk4.from _), Below.trans (Below.mono mA hB.size) hb4, ⟨_, xs ++ [(place x.1 x.2, kd, sq, (ok, ks.length, ck), (ov, vs.length, cv))], hv4, ?_, ?_⟩, Below.trans hB (Below.trans (Below.mono mA hB.size) hb4)⟩
      · rw [HSn.out, HE.out, List.length_append, rowCells_snoc]; exact hr4
      · rw [HSn.out, HE.out]; exact hfin
  case done =>
    rintro D ys W hD rfl ⟨⟨v, xs, hv, hrow, hfit⟩, hB⟩ hK
    rw [tellY_all] at hrow hfit
    have hl512 := tellC_len512 0 bs
    have hfit2 := hfit.mono (S' := fun g => v.ownBlock ≠ some g ∧ w.heap.size ≤ g) fun g hg _ => ⟨hg.1, by have := hg.2; omega⟩
    have hc := hv.cell
    have hnD : v.ownBlock ≠ some D := by
      intro e
      rcases hrow.2 with ⟨rfl, _⟩ | ⟨g, cap, cur, rfl, _, hgb, _⟩
      · simp [Value.ownBlock] at e
      · obtain rfl : g = D := by simpa [Value.ownBlock] using e
        rw [hgb] at hK; cases hK
    have hnB : v.ownBlock ≠ some (w.heap.size + 1) := (hv.not_row (by decide) hrow).symm
    have hDl := (Array.getElem?_eq_some_iff.1 hK).1
    have hBl := hv.lt
    have HS := hide (codeSort v _ w.heap.size xs (tellC 0 bs) W hrow rfl (by omega) hfit2 (tellC_apart 0 bs) hB.size)
    clear hfit hfit2 hrow
    gi_wp2_with (gi_at_call 47; refine (callsIn_wide.2 HS.out).mono ?_; rintro e w5 ⟨rfl, hF, hb5, hkeep⟩; have hv5 : Boxed w5 (w.heap.size + 1) 36 v := (hkeep _ hBl hnB).trans hv; have hc5 := hv5.cell; have hK5 := (hkeep D hDl hnD).trans hK)
    refine ⟨by simp, .inl ⟨_, _, rfl, run_takeDeferred hK5, ?_⟩⟩
    refine ⟨_, results_tmp rfl _ _ _, ⟨v, rfl, hF.turned (grownBy_putObj' _ D _) (fun r e => by cases e; exact ⟨_, hK5, rfl⟩)⟩, ?_⟩
    exact Below.trans (Below.trans hB hb5) (belowK_b (w := w) (Nat.le_refl _) w5 D _ _ (by omega) hK5 rfl rfl)
  case stop =>
    rintro D c pre W _ _ h _
    exact h.elim
end Go.Proofs.Ytbibkheiagglbaa.Scan
/-
  Layer 6: what any right program answers.
-/
namespace Go.Proofs.Ytbibkheiagglbaa.Scan
open Go.RowKit Go.Proofs.Ytbibkheiagglbaa.Nand Go.Proofs.Ytbibkheiagglbaa.Tag

end Go.Proofs.Ytbibkheiagglbaa.Scan
/-
  Layer 6: two lists that are the same, by the document.
-/
namespace Go.Proofs.Ytbibkheiagglbaa.Scan
open Go.RowKit Go.Proofs.Ytbibkheiagglbaa.Nand

end Go.Proofs.Ytbibkheiagglbaa.Scan
