/-
  Layer 6: eight texts in one (mk_late.py).
-/
import Derived.Test.YtcjhaapmehegkaaScanCode1
import Derived.RangeFuncNested
import Derived.RangeFuncBound
import Derived.RangeFuncCalls
import Derived.RangeFuncLeaves
import Derived.Shelf.Abstract
import Derived.Shelf.RegionOpen
import Derived.WalkKit
import Derived.OwnWalkIn
import Derived.TacticsInMore
import Derived.LoopNIn
import Derived.LoopIn
import Derived.Test.YtcjhaapmehegkaaShelf
import Derived.Shelf.SlSortCmp.QuietGrown
import Derived.Shelf.SlSortCmp.NoneTotal
import Derived.Maps.OwnIn
import Derived.Maps.AppendAt
import Derived.Test.YtcjhaapmehegkaaScanPageMk
import Derived.Test.YtcjhaapmehegkaaNandNews
import Derived.Test.YtcjhaapmehegkaaNandSpec
import Derived.Test.YtcjhaapmehegkaaScanRefAll
/-
  Layer 6: the page at a place, by the document and by the program.
-/
namespace Go.Proofs.Ytcjhaapmehegkaa.Scan
open Go.RowKit Go.Proofs.Ytcjhaapmehegkaa.Nand

def pageC (bs : List BlockT) (at' : Int) : PageT × Bool :=
  if 0 ≤ at' ∧ at'.toNat / 16 < bs.length ∧ at'.toNat / 16 < 32 ∧ at'.toNat % 16 < (bs.getD (at'.toNat / 16) default).1.length then ((bs.getD (at'.toNat / 16) default).1.getD (at'.toNat % 16) zeroPage, true) else (zeroPage, false)
theorem pageC_neg {bs : List BlockT} {at' : Int} (h : at' < 0) : pageC bs at' = (zeroPage, false) := by
  unfold pageC; rw [if_neg (by omega)]
theorem pageC_no {bs : List BlockT} {n : Nat} (h : ¬ (n / 16 < bs.length ∧ n / 16 < 32)) : pageC bs n = (zeroPage, false) := by
  unfold pageC; rw [if_neg (fun h' => h ⟨h'.2.1, h'.2.2.1⟩)]
theorem pageC_short {bs : List BlockT} {n : Nat} (hb : n / 16 < bs.length) (h : bs[n / 16].1.length ≤ n % 16) : pageC bs n = (zeroPage, false) := by
  unfold pageC
  rw [if_neg]
  intro h'
  have := h'.2.2.2
  rw [Int.toNat_natCast] at this
  simp [hb] at this
  omega
theorem pageC_yes {bs : List BlockT} {n : Nat} (hb : n / 16 < bs.length) (hb' : n / 16 < 32) (h : n % 16 < bs[n / 16].1.length) : pageC bs n = (bs[n / 16].1[n % 16], true) := by
  unfold pageC
  rw [if_pos]
  · rw [Int.toNat_natCast]
    simp [hb, h]
  · rw [Int.toNat_natCast]
    exact ⟨by omega, hb, hb', by simpa [hb] using h⟩

def PageSpec (F : Nat) : Prop := ∀ (S : Nat → Prop) (vb : Value) (bs : List BlockT) (br off : Bool) (ops at' : Int) (w : World), BlocksAt S w vb bs → at' ≤ 9223372036854775807 →
  Calls Try.prog F #[chipV vb br off ops, .int .i64 at'] w fun e w' => e = .returned (.tuple #[pageV (pageC bs at').1, .bool (pageC bs at').2]) ∧ Mem w w'
theorem blk_at2 (w : World) (o : Obj) (cs : Array Value) (t : TypeId) : Blk ((w.alloc o).alloc (.cells cs t)) (w.heap.size + 1) t cs := by
  have := Blk.new (w.alloc o) cs t
  rwa [show (w.alloc o).heap.size = w.heap.size + 1 by simp] at this
theorem ret_pageB {fn : Func} {p u : Tmp} (h : fn.results = #[.cell p 27, .tmp u]) (tmps : Array Value) (w : World) {b : Nat} {a0 a1 a2 : Value} (hp : tmps.getD p undef = .pointer (some ⟨b, 0, none⟩)) (hb : Blk w b 27 #[a0, a1, a2]) :
    (results fn tmps).run Try.prog w = .ok (.tuple #[.agg #[a0, a1, a2], tmps.getD u undef]) w := Nand.ret_page h tmps w hp hb

set_option maxHeartbeats 2000000 in
set_option maxRecDepth 100000 in
theorem refPage : PageSpec 11 := by
  intro S vb bs br off ops at' w hb hle
  obtain ⟨oa, ca, rfl⟩ := hb.shape
  have hsz : (w.alloc (.cells #[.slice oa bs.length ca, .bool br, .bool off, .int .i64 ops] 24)).heap.size = w.heap.size + 1 := by simp
  have hm : Mem w ((w.alloc (.cells #[.slice oa bs.length ca, .bool br, .bool off, .int .i64 ops] 24)).alloc (.cells #[.bool false, .string ⟨#[]⟩, .string ⟨#[]⟩] 27)) := ((Mem.refl w).alloc _).alloc _
  have hC : Blk ((w.alloc (.cells #[.slice oa bs.length ca, .bool br, .bool off, .int .i64 ops] 24)).alloc (.cells #[.bool false, .string ⟨#[]⟩, .string ⟨#[]⟩] 27)) w.heap.size 24 #[.slice oa bs.length ca, .bool br, .bool off, .int .i64 ops] := (Blk.new w _ _).alloc _
  have hP : Blk ((w.alloc (.cells #[.slice oa bs.length ca, .bool br, .bool off, .int .i64 ops] 24)).alloc (.cells #[.bool false, .string ⟨#[]⟩, .string ⟨#[]⟩] 27)) (w.heap.size + 1) 27 #[.bool false, .string ⟨#[]⟩, .string ⟨#[]⟩] := by
    have := Blk.new (w.alloc (.cells #[.slice oa bs.length ca, .bool br, .bool off, .int .i64 ops] 24)) #[.bool false, .string ⟨#[]⟩, .string ⟨#[]⟩] 27
    rwa [hsz] at this
  clear hsz
  replace hb := hb.mem hm
  have hbl := hb.1
  unfold maxLen at hbl
  by_cases h0 : at' < 0
  · have HV := hide (pageC_neg (bs := bs) h0)
    go_enter Try.func11, Try.ntmps11
    go_wp2_with fail
    exact bodyPost_ret (ret_pageB rfl _ _ rfl hP) rfl ⟨by rw [HV.out]; rfl, hm⟩
  have h0' : 0 ≤ at' := by omega
  obtain ⟨n, rfl⟩ := Int.eq_ofNat_of_zero_le h0'
  obtain ⟨q, hq⟩ : ∃ q : Nat, (n : Int) / 16 = (q : Int) := ⟨n / 16, by omega⟩
  obtain ⟨r, hr⟩ : ∃ r : Nat, (n : Int) % 16 = (r : Int) := ⟨n % 16, by omega⟩
  have HQ : Hid (n / 16 = q) := by show _ = _; omega
  have HR : Hid (n % 16 = r) := by show _ = _; omega
  have hq0 : (0 : Int) ≤ (q : Int) := by omega
  have hr0 : (0 : Int) ≤ (r : Int) := by omega
  have hr1 : (r : Int) < 16 := by omega
  have hqm : (q : Int) ≤ 9223372036854775807 := by omega
  by_cases h1 : q < bs.length
  case neg =>
    have h1' : (bs.length : Int) ≤ (q : Int) := by omega
    have HV := hide (pageC_no (bs := bs) (n := n) (fun h => h1 (HQ.out ▸ h.1)))
    go_enter Try.func11, Try.ntmps11
    go_wp2_with fail
    exact bodyPost_ret (ret_pageB rfl _ _ rfl hP) rfl ⟨by rw [HV.out]; rfl, hm⟩
  have h1' : (q : Int) < (bs.length : Int) := by omega
  by_cases h2 : q < 32
  case neg =>
    have h2' : (32 : Int) ≤ (q : Int) := by omega
    have HV := hide (pageC_no (bs := bs) (n := n) (fun h => h2 (HQ.out ▸ h.2)))
    go_enter Try.func11, Try.ntmps11
    go_wp2_with fail
    exact bodyPost_ret (ret_pageB rfl _ _ rfl hP) rfl ⟨by rw [HV.out]; rfl, hm⟩
  have h2' : (q : Int) < 32 := by omega
  have HY := hide (fun h1 h2 => pageC_yes (bs := bs) (n := n) h1 h2)
  have HS := hide (fun h1 => pageC_short (bs := bs) (n := n) h1)
  obtain ⟨ga, fa, pa, qa, rfl, _, x0, _, _, _, hpa⟩ := hb.at h1
  have HP1 : Hid (bs[q].1.length ≤ r → pageC bs n = (zeroPage, false)) := by
    have hs := HS.out
    have e1 := HQ.out
    have e2 := HR.out
    subst e1; subst e2
    exact hs h1
  have HP2 : Hid (∀ h : r < bs[q].1.length, pageC bs n = (bs[q].1[r], true)) := by
    have hs := HY.out
    have e1 := HQ.out
    have e2 := HR.out
    subst e1; subst e2
    exact hs h1 h2
  clear HY HS HQ HR
  generalize bs[q].1 = ps at *
  by_cases h3 : r < ps.length
  case neg =>
    have h3' : (ps.length : Int) ≤ (r : Int) := by omega
    have HV := hide (HP1.out (by omega))
    go_enter Try.func11, Try.ntmps11
    go_wp2_with fail
    exact bodyPost_ret (ret_pageB rfl _ _ rfl hP) rfl ⟨by rw [HV.out]; rfl, hm⟩
  have h3' : (r : Int) < (ps.length : Int) := by omega
  obtain ⟨gp, fp, rfl, _, y0, y1, y2⟩ := hpa.at h3
  have HV := hide (HP2.out h3)
  generalize ps[r] = pg at y0 y1 y2 HV
  have l1 := World.block_lt_of_cell? _ _ y0
  clear HP1 HP2
  go_enter Try.func11, Try.ntmps11
  go_wp2_with fail
  exact bodyPost_ret (ret_pageB rfl _ _ rfl (blk_at2 w _ _ _)) rfl ⟨by rw [HV.out]; rfl, ((Mem.refl w).alloc _).alloc _⟩

set_option maxHeartbeats 2000000 in
set_option maxRecDepth 100000 in
theorem codePage : PageSpec 10 := by
  intro S vb bs br off ops at' w hb hle
  obtain ⟨oa, ca, rfl⟩ := hb.shape
  have hsz : (w.alloc (.cells #[.slice oa bs.length ca, .bool br, .bool off, .int .i64 ops] 24)).heap.size = w.heap.size + 1 := by simp
  have hm : Mem w ((w.alloc (.cells #[.slice oa bs.length ca, .bool br, .bool off, .int .i64 ops] 24)).alloc (.cells #[.bool false, .string ⟨#[]⟩, .string ⟨#[]⟩] 27)) := ((Mem.refl w).alloc _).alloc _
  have hC : Blk ((w.alloc (.cells #[.slice oa bs.length ca, .bool br, .bool off, .int .i64 ops] 24)).alloc (.cells #[.bool false, .string ⟨#[]⟩, .string ⟨#[]⟩] 27)) w.heap.size 24 #[.slice oa bs.length ca, .bool br, .bool off, .int .i64 ops] := (Blk.new w _ _).alloc _
  have hP : Blk ((w.alloc (.cells #[.slice oa bs.length ca, .bool br, .bool off, .int .i64 ops] 24)).alloc (.cells #[.bool false, .string ⟨#[]⟩, .string ⟨#[]⟩] 27)) (w.heap.size + 1) 27 #[.bool false, .string ⟨#[]⟩, .string ⟨#[]⟩] := by
    have := Blk.new (w.alloc (.cells #[.slice oa bs.length ca, .bool br, .bool off, .int .i64 ops] 24)) #[.bool false, .string ⟨#[]⟩, .string ⟨#[]⟩] 27
    rwa [hsz] at this
  clear hsz
  replace hb := hb.mem hm
  have hbl := hb.1
  unfold maxLen at hbl
  by_cases h0 : at' < 0
  · have HV := hide (pageC_neg (bs := bs) h0)
    go_enter Try.func10, Try.ntmps10
    go_wp2_with fail
    exact bodyPost_ret (ret_pageB rfl _ _ rfl hP) rfl ⟨by rw [HV.out]; rfl, hm⟩
  have h0' : 0 ≤ at' := by omega
  obtain ⟨n, rfl⟩ := Int.eq_ofNat_of_zero_le h0'
  obtain ⟨q, hq⟩ : ∃ q : Nat, (n : Int) / 16 = (q : Int) := ⟨n / 16, by omega⟩
  obtain ⟨r, hr⟩ : ∃ r : Nat, (n : Int) % 16 = (r : Int) := ⟨n % 16, by omega⟩
  have HQ : Hid (n / 16 = q) := by show _ = _; omega
  have HR : Hid (n % 16 = r) := by show _ = _; omega
  have hq0 : (0 : Int) ≤ (q : Int) := by omega
  have hr0 : (0 : Int) ≤ (r : Int) := by omega
  have hr1 : (r : Int) < 16 := by omega
  have hqm : (q : Int) ≤ 9223372036854775807 := by omega
  have HB := hide (fun (w' : World) (h : Mem ((w.alloc (.cells #[.slice oa bs.length ca, .bool br, .bool off, .int .i64 ops] 24)).alloc (.cells #[.bool false, .string ⟨#[]⟩, .string ⟨#[]⟩] 27)) w') => hP.mem h)
  have hct := placedBlocks S _ bs br off ops _ hb
  have HNo := hide (fun h => pageC_no (bs := bs) (n := n) h)
  have HY := hide (fun h1 h2 => pageC_yes (bs := bs) (n := n) h1 h2)
  have HS := hide (fun h1 => pageC_short (bs := bs) (n := n) h1)
  have htl : (bs.take 32).length = min bs.length 32 := by rw [List.length_take]; omega
  have HTL := hide htl
  clear htl
  go_enter Try.func10, Try.ntmps10
  go_wp2_with fail
  refine hct.mono ?_
  rintro e w1 ⟨⟨v1, rfl, hb1⟩, m1⟩
  clear hct
  have hP1 := HB.out _ m1
  clear HB hP hC hb
  have hm1 := hm.trans m1
  clear hm m1
  obtain ⟨o1, c1, rfl⟩ := hb1.shape
  have HLT : Hid (q < (bs.take 32).length ↔ n / 16 < bs.length ∧ n / 16 < 32) := by
    show _ ↔ _
    rw [HTL.out, HQ.out]; omega
  have hb1l := hb1.1
  unfold maxLen at hb1l
  have z0 := hP1.cell (j := 0) rfl
  have z1 := hP1.cell (j := 1) rfl
  have z2 := hP1.cell (j := 2) rfl
  have f0 := hP1.frozen 0
  have f1 := hP1.frozen 1
  have f2 := hP1.frozen 2
  by_cases h1 : q < (bs.take 32).length
  case neg =>
    have HV := hide (HNo.out (fun h => h1 (HLT.out.2 h)))
    clear HNo HY HS HLT HTL
    generalize bs.take 32 = bt at *
    have h1' : (bt.length : Int) ≤ (q : Int) := by omega
    go_wp2_with fail
    exact bodyPost_ret (ret_pageB rfl _ _ rfl (hP1.put3 _ _ _)) rfl ⟨by rw [HV.out]; rfl, hm1.put3 (by omega) _ _ _⟩
  obtain ⟨ga, fa, pa, qa, rfl, q1, x0, q2, q3, q4, hpa⟩ := hb1.at h1
  clear q1 q2 q3 q4
  have hqb : q < bs.length := by have h := HLT.out.1 h1; rw [HQ.out] at h; exact h.1
  have hq32 : q < 32 := by have h := HLT.out.1 h1; rw [HQ.out] at h; exact h.2
  have e1 : (bs.take 32)[q] = bs[q] := by simp
  rw [e1] at x0 hpa
  have HP1 : Hid (bs[q].1.length ≤ r → pageC bs n = (zeroPage, false)) := by
    have hs := HS.out
    have e1 := HQ.out
    have e2 := HR.out
    subst e1; subst e2
    exact hs hqb
  have HP2 : Hid (∀ h : r < bs[q].1.length, pageC bs n = (bs[q].1[r], true)) := by
    have hs := HY.out
    have e1 := HQ.out
    have e2 := HR.out
    subst e1; subst e2
    exact hs hqb hq32
  clear HY HS HQ HR HNo HLT HTL e1
  generalize bs[q].1 = ps at *
  have hqi : (q : Int) < ((bs.take 32).length : Int) := by omega
  clear h1 hqb
  generalize bs.take 32 = bt at *
  by_cases h3 : r < ps.length
  case neg =>
    have h3' : (ps.length : Int) ≤ (r : Int) := by omega
    have HV := hide (HP1.out (by omega))
    clear HP1 HP2
    go_wp2_with fail
    exact bodyPost_ret (ret_pageB rfl _ _ rfl (hP1.put3 _ _ _)) rfl ⟨by rw [HV.out]; rfl, hm1.put3 (by omega) _ _ _⟩
  have h3' : (r : Int) < (ps.length : Int) := by omega
  obtain ⟨gp, fp, rfl, _, y0, y1, y2⟩ := hpa.at h3
  have HV := hide (HP2.out h3)
  generalize ps[r] = pg at y0 y1 y2 HV
  clear HP1 HP2
  go_wp2_with fail
  exact bodyPost_ret (ret_pageB rfl _ _ rfl (hP1.put3 _ _ _)) rfl ⟨by rw [HV.out]; rfl, hm1.put3 (by omega) _ _ _⟩
end Go.Proofs.Ytcjhaapmehegkaa.Scan
/-
  Layer 6, the program: the pages, one behind the other, each behind its place.
-/
namespace Go.Proofs.Ytcjhaapmehegkaa.Scan
open Go.RowKit Go.Shelf Go.Proofs.Ytcjhaapmehegkaa.Nand
attribute [local go_sem] Oper.semAt_some

def pgAt (bs : List BlockT) (b p : Nat) : PageT := (bs.getD b default).1.getD p zeroPage
def encY (bs : List BlockT) (x : Nat × Nat) : Array Value := #[.int .i64 (place x.1 x.2), pageV (pgAt bs x.1 x.2)]
def yRow (b n : Nat) : List (Nat × Nat) := (List.range n).map fun p => (b, p)
def yTo (bs : List BlockT) (k : Nat) : List (Nat × Nat) := (List.range k).flatMap fun b => yRow b (min (bs.getD b default).1.length 16)
theorem yRow_succ (b n : Nat) : yRow b (n + 1) = yRow b n ++ [(b, n)] := by simp [yRow, List.range_succ]
theorem yTo_succ (bs : List BlockT) (k : Nat) : yTo bs (k + 1) = yTo bs k ++ yRow k (min (bs.getD k default).1.length 16) := by simp [yTo, List.range_succ]
theorem yRow_length (b n : Nat) : (yRow b n).length = n := by simp [yRow]
theorem yTo_length (bs : List BlockT) (k : Nat) : (yTo bs k).length ≤ k * 16 := by
  induction k with
  | zero => simp [yTo]
  | succ k ih => rw [yTo_succ, List.length_append, yRow_length]; omega
theorem grown_of_mem {w w' : World} (m : Mem w w') : w.grownBy w' none := ⟨m.os, m.tape, m.output, m.size, fun k hk _ => m.block k hk⟩
theorem abides_mem {β : Type} {B : Nat} {J : β → World → Prop} (h : AbidesFrom B J) {s : β} {w w' : World} (hs : J s w) (m : Mem w w') : J s w' :=
  h s w w' none hs (grown_of_mem m) (fun r e => by cases e)

set_option maxRecDepth 100000 in
set_option maxHeartbeats 4000000 in
theorem pages1 (n l Bn n₀ B : Nat) (hn : 1 ≤ n) (oa : Option Addr) (ca : Nat) (bs : List BlockT) (br off : Bool) (ops : Int) (J Jx : List (Nat × Nat) → World → Prop) (hJ : AbidesFrom B J)
    (hY : ∀ pre x W, J pre W → pre.length < 512 → YieldAt Fence.wide (n - 1) Try.prog l (encY bs x) W fun e W' =>
      (e = .returned (.bool true) ∧ J (pre ++ [x]) W' ∧ Below n₀ W W') ∨ (e = .returned (.bool false) ∧ Jx (pre ++ [x]) W'))
    (W : World) (hC : Blk W Bn 24 #[.slice oa bs.length ca, .bool br, .bool off, .int .i64 ops]) (hb : BlocksAt (fun x => x < n₀) W (.slice oa bs.length ca) bs) (hn₀ : n₀ ≤ W.heap.size) (h0 : J [] W) :
    CallsIn Fence.wide n Try.prog 39 #[.func (.yield l) #[] #[], .pointer (some ⟨Bn, 0, none⟩)] W fun e W' => (∃ v, e = .returned v) ∧
      ((∃ ys, ys = yTo bs (min bs.length 32) ∧ J ys W') ∨ (∃ pre, True ∧ Jx pre W')) := by
  have w24 : Fence.wide.fn 24 := trivial
  have w40 : Fence.wide.fn 40 := trivial
  have w12 : Fence.wide.fn 12 := trivial
  have c0 := hC.cell (j := 0) rfl
  have c1 := hC.cell (j := 1) rfl
  have c2 := hC.cell (j := 2) rfl
  have c3 := hC.cell (j := 3) rfl
  refine callsIn_of_wp Try.func39 rfl trivial ?_ rfl
  simp only [Try.ntmps39, List.size_toArray, List.length_cons, List.length_nil, Nat.reduceAdd, Nat.reduceSub, Array.replicate_succ, Array.replicate_zero, List.push_toArray, List.append_toArray, List.nil_append, List.cons_append]
  gi_wp2_with (gi_at_call 24; refine (callsIn_wide.2 (placedBlocks _ _ bs br off ops _ hb)).mono ?_; rintro e w1 ⟨⟨v1, rfl, hb1⟩, m1⟩; obtain ⟨bt, hbt⟩ : ∃ bt, bs.take 32 = bt := ⟨_, rfl⟩; rw [hbt] at hb1; have HBT := hide hbt; clear hbt; obtain ⟨o1, q1, rfl⟩ := hb1.shape)
  have j1 := abides_mem hJ h0 m1
  have hn1 : n₀ ≤ w1.heap.size := Nat.le_trans hn₀ m1.size
  have hlen32 : bt.length ≤ 32 := by rw [← HBT.out, List.length_take]; omega
  have HL : Hid (bt.length = min bs.length 32) := by show _ = _; rw [← HBT.out, List.length_take]; omega
  have HG : Hid (∀ k (h : k < bt.length), bt[k] = bs.getD k default) := by
    have e := HBT.out
    subst e
    intro k h
    have hk : k < bs.length := by rw [List.length_take] at h; omega
    simp [hk]
  clear c0 c1 c2 c3 hC hb m1 h0 hn₀ HBT
  gi_loopw [10] (fun i wr => ∃ k : Nat, k ≤ bt.length ∧ i = .int .i64 k ∧ J (yTo bs k) wr ∧ Below n₀ w1 wr) (fun i _ => bt.length - (intOf i).toNat)
  case atStart => exact ⟨0, Nat.zero_le _, rfl, by simpa [yTo] using j1, Below.refl _ _⟩
  case round =>
    obtain ⟨k, hk, rfl, hJk, hnx⟩ := hrel
    by_cases hlt : k < bt.length
    · have hlt' : (k : Int) < (bt.length : Int) := by omega
      have hk0 : (0 : Int) ≤ (k : Int) := by omega
      have hbr := hb1.kept (S' := fun x => x < n₀) (w' := wr) fun g hg _ => ⟨hg, fun off => Below.cell hnx (p := ⟨g, off, none⟩) hg⟩
      obtain ⟨ga, fa, pa, qa, rfl, _, x0, x1, x2, x3, hpa⟩ := hbr.at hlt
      have HGk := hide (HG.out k hlt)
      generalize hbk : bt[k] = bk at x0 x1 x2 x3 hpa HGk
      clear hbk
      obtain ⟨ps, nx, er, bd⟩ := bk
      simp only [] at x0 x1 x2 x3 hpa
      have ma : Mem wr (wr.alloc (.cells #[.slice pa ps.length qa, .int .i64 nx, .int .i64 er, .bool bd] 34)) := (Mem.refl wr).alloc _
      have hpa1 := hpa.mem ma
      gi_wp2_with (gi_at_call 40; refine (callsIn_wide.2 (placedPages _ _ ps nx er bd _ hpa1)).mono ?_; rintro e w2 ⟨⟨v2, rfl, hp2⟩, m2⟩; obtain ⟨pt, hpt⟩ : ∃ pt, ps.take 16 = pt := ⟨_, rfl⟩; rw [hpt] at hp2; have HPT := hide hpt; clear hpt; obtain ⟨o2, q2, rfl⟩ := hp2.shape)
      have j2 := abides_mem hJ (abides_mem hJ hJk ma) m2
      have hb2 : Below n₀ w1 w2 := Below.trans hnx (Below.mono (ma.trans m2) (Nat.le_trans hn1 hnx.size))
      have hlen16 : pt.length ≤ 16 := by rw [← HPT.out, List.length_take]; omega
      have HL2 : Hid (pt.length = min ps.length 16) := by show _ = _; rw [← HPT.out, List.length_take]; omega
      have HG2 : Hid (∀ j (h : j < pt.length), pt[j] = pgAt bs k j) := by
        have e := HPT.out
        subst e
        intro j h
        have hj : j < ps.length := by rw [List.length_take] at h; omega
        unfold pgAt
        rw [← HGk.out]
        simp [hj]
      have HRow : Hid (yTo bs (k + 1) = yTo bs k ++ yRow k pt.length) := by
        show _ = _
        rw [yTo_succ, ← HGk.out, HL2.out]
      clear x0 x1 x2 x3 hpa ma hpa1 hJk hbr HGk m2 HPT
      gi_loopw [18] (fun i wr => ∃ j : Nat, j ≤ pt.length ∧ i = .int .i64 j ∧ J (yTo bs k ++ yRow k j) wr ∧ Below n₀ w2 wr) (fun i _ => pt.length - (intOf i).toNat)
      case atStart => exact ⟨0, Nat.zero_le _, rfl, by simpa [yRow] using j2, Below.refl _ _⟩
      case round =>
        obtain ⟨j, hj, rfl, hJj, hny⟩ := hrel
        by_cases hlj : j < pt.length
        · have hlj' : (j : Int) < (pt.length : Int) := by omega
          have hj0 : (0 : Int) ≤ (j : Int) := by omega
          have hpr := hp2.kept (S' := fun x => x < n₀) (w' := wr) fun g hg _ => ⟨hg, fun off => Below.cell hny (p := ⟨g, off, none⟩) hg⟩
          obtain ⟨gp, fp, rfl, _, y0, y1, y2⟩ := hpr.at hlj
          rw [HG2.out j hlj] at y0 y1 y2
          have hln : (yTo bs k ++ yRow k j).length < 512 := by
            have := yTo_length bs k
            rw [List.length_append, yRow_length]
            omega
          have mp : Mem wr ((wr.alloc (.cells #[.bool (pgAt bs k j).1, .string (pgAt bs k j).2.1, .string (pgAt bs k j).2.2] 27)).drew) := ((Mem.refl wr).alloc _).drew
          have hJp := abides_mem hJ hJj mp
          have HJN := hide (hY _ (k, j) _ hJp hln)
          obtain ⟨fn, tmps, assign, body, hy, hR⟩ := HJN.out
          unfold encY at hy
          dsimp only at hy
          generalize pgAt bs k j = pg at *
          have hR2 := hR.mono (R' := fun e W' => ∃ bo : Bool, e = .returned (.bool bo) ∧ ((bo = true ∧ J (yTo bs k ++ yRow k j ++ [(k, j)]) W' ∧ Below n₀ (wr.alloc (.cells #[.bool pg.1, .string pg.2.1, .string pg.2.2] 27)).drew W') ∨ (bo = false ∧ Jx (yTo bs k ++ yRow k j ++ [(k, j)]) W'))) (by
            rintro e W' (⟨rfl, h1, h2⟩ | ⟨rfl, h1⟩)
            · exact ⟨true, rfl, .inl ⟨rfl, h1, h2⟩⟩
            · exact ⟨false, rfl, .inr ⟨rfl, h1⟩⟩)
          clear hR HJN
          gi_wp2
          gi_region_with (first
            | (gi_at_call 12; refine (callsIn_wide.2 (codePlace _ _ _)).mono ?_; rintro e w' ⟨rfl, rfl⟩)
            | (refine hR2.mono ?_; rintro e W3 ⟨bo, rfl, hbo⟩))
          all_goals (rcases hbo with ⟨rfl, hJ3, hk3⟩ | ⟨rfl, hJx3⟩)
          · have hb3 := Below.trans hny (Below.trans (Below.mono mp (by have := hb2.size; have := hny.size; omega)) hk3)
            rw [List.append_assoc, ← yRow_succ] at hJ3
            gi_wp2
            go_roundw
            case rel => exact ⟨j + 1, by omega, by go_num, hJ3, hb3⟩
            case measure => simp [intOf]; omega
          · gi_wp2
            refine bodyPost_ret (results_none rfl _ _ _) rfl ?_
            exact ⟨⟨_, rfl⟩, .inr ⟨_, trivial, hJx3⟩⟩
          · have hb3 := Below.trans hny (Below.trans (Below.mono mp (by have := hb2.size; have := hny.size; omega)) hk3)
            rw [List.append_assoc, ← yRow_succ] at hJ3
            gi_wp2
            go_roundw
            case rel => exact ⟨j + 1, by omega, by go_num, hJ3, hb3⟩
            case measure => simp [intOf]; omega
          · gi_wp2
            refine bodyPost_ret (results_none rfl _ _ _) rfl ?_
            exact ⟨⟨_, rfl⟩, .inr ⟨_, trivial, hJx3⟩⟩
        · have hje : j = pt.length := by omega
          subst hje
          have hlj' : ¬ ((pt.length : Int) < (pt.length : Int)) := by omega
          rw [← HRow.out] at hJj
          have hb3 := Below.trans hb2 hny
          gi_wp2
          go_roundw
          case rel => exact ⟨k + 1, by omega, by go_num, hJj, hb3⟩
          case measure => simp [intOf]; omega
    · have hke : k = bt.length := by omega
      subst hke
      have hlt' : ¬ ((bt.length : Int) < (bt.length : Int)) := by omega
      gi_wp2
      go_end0
      exact ⟨⟨_, rfl⟩, .inl (by rw [← HL.out]; exact hJk)⟩
end Go.Proofs.Ytcjhaapmehegkaa.Scan
/-
  Layer 6: what the pages tell, in the order in which the program comes by them.
-/
namespace Go.Proofs.Ytcjhaapmehegkaa.Scan
open Go.RowKit Go.Proofs.Ytcjhaapmehegkaa.Nand

/-- what a page tells, wherever it is -/
def tellQ (b p : Nat) (pg : PageT) : List FoundT := (Look.look pg.1 pg.2.2.data.toList pg.2.1.data.toList).2.toList.map fun r => (place b p, r)
theorem tellQ_P {b p : Nat} (hb : b < 32) (hp : p < 16) (pg : PageT) : tellQ b p pg = tellP b p pg := by
  unfold tellQ tellP
  rw [if_pos ⟨hb, hp⟩]
theorem tellQ_none {b p : Nat} {pg : PageT} (h : (Look.look pg.1 pg.2.2.data.toList pg.2.1.data.toList).2 = none) : tellQ b p pg = [] := by
  unfold tellQ
  rw [h]
  rfl
theorem tellQ_some {b p : Nat} {pg : PageT} {r : RecT} (hr : (Look.look pg.1 pg.2.2.data.toList pg.2.1.data.toList).2 = some r) : tellQ b p pg = [(place b p, r)] := by
  unfold tellQ
  rw [hr]
  rfl
def tellY (bs : List BlockT) (pre : List (Nat × Nat)) : List FoundT := pre.flatMap fun x => tellQ x.1 x.2 (pgAt bs x.1 x.2)
theorem tellY_append (bs : List BlockT) (xs ys : List (Nat × Nat)) : tellY bs (xs ++ ys) = tellY bs xs ++ tellY bs ys := by simp [tellY]
theorem tellY_snoc (bs : List BlockT) (pre : List (Nat × Nat)) (x : Nat × Nat) : tellY bs (pre ++ [x]) = tellY bs pre ++ tellQ x.1 x.2 (pgAt bs x.1 x.2) := by simp [tellY]
theorem tellY_length (bs : List BlockT) (pre : List (Nat × Nat)) : (tellY bs pre).length ≤ pre.length := by
  induction pre with
  | nil => simp [tellY]
  | cons x xs ih =>
    have h1 : (tellQ x.1 x.2 (pgAt bs x.1 x.2)).length ≤ 1 := by
      unfold tellQ
      cases (Look.look (pgAt bs x.1 x.2).1 (pgAt bs x.1 x.2).2.2.data.toList (pgAt bs x.1 x.2).2.1.data.toList).2 <;> simp
    have : tellY bs (x :: xs) = tellQ x.1 x.2 (pgAt bs x.1 x.2) ++ tellY bs xs := by simp [tellY]
    rw [this, List.length_append, List.length_cons]
    omega
theorem tellY_row (bs : List BlockT) {k : Nat} (hk : k < 32) {n : Nat} (hn : n ≤ (bs.getD k default).1.length) (hn' : n ≤ 16) : tellY bs (yRow k n) = tellB k 0 ((bs.getD k default).1.take n) := by
  induction n with
  | zero => simp [yRow, tellY, tellB]
  | succ n ih =>
    have hlt : n < (bs.getD k default).1.length := by omega
    rw [yRow_succ, tellY_snoc, ih (by omega) (by omega), tellB_take k _ hlt]
    congr 1
    show tellQ k n (pgAt bs k n) = _
    rw [tellQ_P hk (by omega)]
    unfold pgAt
    rw [show (bs.getD k default).1.getD n zeroPage = (bs.getD k default).1[n] from by rw [List.getD_eq_getElem?_getD, List.getElem?_eq_getElem hlt]; rfl]
theorem tellB_16 (k : Nat) (ps : List PageT) : tellB k 0 (ps.take (min ps.length 16)) = tellB k 0 ps := by
  by_cases h : ps.length ≤ 16
  · rw [show min ps.length 16 = ps.length by omega, List.take_length]
  · have e : ps = ps.take 16 ++ ps.drop 16 := (List.take_append_drop 16 ps).symm
    rw [show min ps.length 16 = 16 by omega]
    conv => rhs; rw [e]
    rw [tellB_append, show 0 + (ps.take 16).length = 16 by rw [List.length_take]; omega]
    have h0 := tellB_len16 k 16 (ps.drop 16)
    have h1 : tellB k 16 (ps.drop 16) = [] := List.length_eq_zero_iff.1 (by omega)
    rw [h1, List.append_nil]
theorem tellY_to (bs : List BlockT) {k : Nat} (hk : k ≤ bs.length) (hk' : k ≤ 32) : tellY bs (yTo bs k) = tellC 0 (bs.take k) := by
  induction k with
  | zero => simp [yTo, tellY, tellC]
  | succ k ih =>
    have hlt : k < bs.length := by omega
    rw [yTo_succ, tellY_append, ih (by omega) (by omega), tellY_row bs (by omega) (by omega) (by omega), tellB_16, tellC_take bs hlt]
    congr 1
    rw [show bs.getD k default = bs[k] from by rw [List.getD_eq_getElem?_getD, List.getElem?_eq_getElem hlt]; rfl]
theorem tellY_all (bs : List BlockT) : tellY bs (yTo bs (min bs.length 32)) = tellC 0 bs := by
  rw [tellY_to bs (by omega) (by omega)]
  by_cases h : bs.length ≤ 32
  · rw [show min bs.length 32 = bs.length by omega, List.take_length]
  · have e : bs = bs.take 32 ++ bs.drop 32 := (List.take_append_drop 32 bs).symm
    rw [show min bs.length 32 = 32 by omega]
    conv => rhs; rw [e]
    rw [tellC_append, show 0 + (bs.take 32).length = 32 by rw [List.length_take]; omega]
    have h0 := tellC_len512 32 (bs.drop 32)
    have h1 : tellC 32 (bs.drop 32) = [] := List.length_eq_zero_iff.1 (by omega)
    rw [h1, List.append_nil]
theorem pgAt_size {bs : List BlockT} (h : ∀ b ∈ bs, ∀ p ∈ b.1, p.2.2.size ≤ maxLen) (b p : Nat) : (pgAt bs b p).2.2.size ≤ maxLen := by
  unfold pgAt
  by_cases hb : b < bs.length
  · rw [show bs.getD b default = bs[b] from by rw [List.getD_eq_getElem?_getD, List.getElem?_eq_getElem hb]; rfl]
    by_cases hp : p < bs[b].1.length
    · rw [show bs[b].1.getD p zeroPage = bs[b].1[p] from by rw [List.getD_eq_getElem?_getD, List.getElem?_eq_getElem hp]; rfl]
      exact h _ (List.getElem_mem hb) _ (List.getElem_mem hp)
    · rw [show bs[b].1.getD p zeroPage = zeroPage from by rw [List.getD_eq_getElem?_getD, List.getElem?_eq_none (by omega)]; rfl]
      show (0 : Nat) ≤ maxLen
      exact Nat.zero_le _
  · rw [show bs.getD b default = default from by rw [List.getD_eq_getElem?_getD, List.getElem?_eq_none (by omega)]; rfl]
    show (0 : Nat) ≤ maxLen
    exact Nat.zero_le _

/-! ### Cells that lie on where what is no cells turns -/
theorem IntsIn.kept2 {S S' : Nat → Prop} {w w' : World} {v : Value} {zs : List Int} (h : IntsIn S w v zs) (hS : ∀ g, S g → (∃ off u, w.cell? ⟨g, off, none⟩ = some u) → S' g ∧ ∀ off, w'.cell? ⟨g, off, none⟩ = w.cell? ⟨g, off, none⟩) : IntsIn S' w' v zs := by
  refine ⟨h.1, ?_⟩
  rcases h.2 with h | ⟨b, off, cap, hv, h0, hs, hc⟩
  · exact .inl h
  · obtain ⟨h1, h2⟩ := hS b hs ⟨_, _, hc 0 h0⟩
    exact .inr ⟨b, off, cap, hv, h0, h1, fun j hj => by rw [h2]; exact hc j hj⟩
theorem FitsL.kept2 {S S' : Nat → Prop} {w w' : World} {xs : List RowT} {fs : List FoundT} (h : FitsL S w xs fs) (hS : ∀ g, S g → (∃ off u, w.cell? ⟨g, off, none⟩ = some u) → S' g ∧ ∀ off, w'.cell? ⟨g, off, none⟩ = w.cell? ⟨g, off, none⟩) : FitsL S' w' xs fs :=
  ⟨h.1, fun i a b => by
    obtain ⟨e0, e1, e2, k1, k2⟩ := h.2 i a b
    exact ⟨e0, e1, e2, k1.kept2 hS, k2.kept2 hS⟩⟩
/-- a block that bears a cell is cells -/
theorem cells_of_cell {w : World} {g off : Nat} {u : Value} (h : w.cell? ⟨g, off, none⟩ = some u) {o : Obj} (ho : w.heap[g]? = some o) : o.isCells = true := by
  unfold World.cell? at h
  rw [ho] at h
  cases o <;> simp_all [Obj.isCells]
theorem FitsL.turned {S : Nat → Prop} {w w' : World} {row : Option Nat} {xs : List RowT} {fs : List FoundT} (h : FitsL S w xs fs) (hg : w.grownBy w' row) (hr : ∀ r, row = some r → ∃ o : Obj, w.heap[r]? = some o ∧ o.isCells = false) : FitsL S w' xs fs :=
  h.kept2 fun g hs ⟨off, u, hc⟩ => by
    have hlt := World.block_lt_of_cell? w _ hc
    refine ⟨hs, fun off' => World.cell?_of_block (w := w) (a := ⟨g, off', none⟩) (hg.block g hlt (fun e => ?_))⟩
    obtain ⟨o, ho, hn⟩ := hr g e.symm
    have := cells_of_cell hc ho
    rw [hn] at this
    cases this
theorem FoundsAt.turned {S : Nat → Prop} {w w' : World} {row : Option Nat} {v : Value} {fs : List FoundT} (h : FoundsAt S w v fs) (hg : w.grownBy w' row) (hr : ∀ r, row = some r → ∃ o : Obj, w.heap[r]? = some o ∧ o.isCells = false) : FoundsAt S w' v fs := by
  refine ⟨h.1, ?_⟩
  rcases h.2 with h | ⟨g, off, cap, xs, hv, h0, hs, hf, hc⟩
  · exact .inl h
  · have hlen := hf.1
    have c0 : w.cell? ⟨g, off + (0 * 5 + 0), none⟩ = some (.int .i64 (xs[0]'(by omega)).1) := hc _ _ (by rw [rowCells_get (by omega) (by omega)]; rfl)
    have e : w'.heap[g]? = w.heap[g]? := by
      refine hg.block g (World.block_lt_of_cell? w _ c0) (fun e => ?_)
      obtain ⟨o, ho, hn⟩ := hr g e.symm
      have := cells_of_cell c0 ho
      rw [hn] at this
      cases this
    exact .inr ⟨g, off, cap, xs, hv, h0, hs, hf.turned hg hr, fun j u hj => (World.cell?_of_block (w := w) (a := ⟨g, off + j, none⟩) e).trans (hc j u hj)⟩
end Go.Proofs.Ytcjhaapmehegkaa.Scan
/-
  Layer 6, the program: which of two stands ahead.
-/
namespace Go.Proofs.Ytcjhaapmehegkaa.Scan
open Go.RowKit Go.Proofs.Ytcjhaapmehegkaa.Nand Go.Sort Go.Shelf

def cmpOr (x y : Int) : Int := if x = 0 then y else x
def cmpF (x y : RowT) : Int := cmpOr (Lib.compareInt x.2.2.1 y.2.2.1) (Lib.compareInt x.1 y.1)

set_option maxHeartbeats 1000000 in
set_option maxRecDepth 100000 in
theorem codeOr (x y : Int) (g c : Nat) (w : World) (h0 : w.cell? ⟨g, 0, none⟩ = some (.int .i64 x)) (h1 : w.cell? ⟨g, 1, none⟩ = some (.int .i64 y)) :
    Calls Try.prog 44 #[.slice (some ⟨g, 0, none⟩) 2 c] w fun e w' => e = .returned (.int .i64 (cmpOr x y)) ∧ w' = w := by
  by_cases hx : x = 0
  · subst hx
    have HV : Hid (cmpOr 0 y = y) := by show _ = _; unfold cmpOr; rw [if_pos rfl]
    by_cases hy : y = 0
    · subst hy
      go_enter Try.func44, Try.ntmps44
      go_wp2_with fail
      refine wp_loop_rounds 4 ?_
      rw [rounds_succ]; go_wp2_with fail
      rw [rounds_succ]; go_wp2_with fail
      rw [rounds_succ]; go_wp2_with fail
      go_ret
      exact ⟨ret_int HV.out.symm, rfl⟩
    · have hy2 : (y != 0) = true := by simp [hy]
      go_enter Try.func44, Try.ntmps44
      go_wp2_with fail
      refine wp_loop_rounds 4 ?_
      rw [rounds_succ]; go_wp2_with fail
      rw [rounds_succ]; go_wp2_with fail
      go_ret
      exact ⟨ret_int HV.out.symm, rfl⟩
  · have HV : Hid (cmpOr x y = x) := by show _ = _; unfold cmpOr; rw [if_neg hx]
    have hx2 : (x != 0) = true := by simp [hx]
    go_enter Try.func44, Try.ntmps44
    go_wp2_with fail
    refine wp_loop_rounds 4 ?_
    rw [rounds_succ]; go_wp2_with fail
    go_ret
    exact ⟨ret_int HV.out.symm, rfl⟩

theorem cell_third (w : World) (o1 o2 : Obj) (cs : Array Value) (t : TypeId) {j : Nat} {v : Value} (h : cs[j]? = some v) : (((w.alloc o1).alloc o2).alloc (.cells cs t)).drew.cell? ⟨w.heap.size + 1 + 1, j, none⟩ = some v := by
  have hb := Blk.new ((w.alloc o1).alloc o2) cs t
  rw [show ((w.alloc o1).alloc o2).heap.size = w.heap.size + 1 + 1 by simp] at hb
  exact hb.drew.cell h
theorem grow_third (w : World) (o1 o2 o3 : Obj) : (((w.alloc o1).alloc o2).alloc o3).drew = grow (w.drewN 1) (#[o1] ++ #[o2] ++ #[o3]) := by
  rw [alloc_eq_grow, alloc_eq_grow, alloc_eq_grow, grow_grow, grow_grow]
  rfl
set_option maxHeartbeats 2000000 in
set_option maxRecDepth 100000 in
theorem codeEarlier (x y : RowT) (W : World) : Calls Try.prog 28 #[.agg (encF x).toArray, .agg (encF y).toArray] W fun e w' => e = .returned (.int .i64 (cmpF x y)) ∧ ∃ q os', w' = grow (W.drewN q) os' := by
  have hcon := fun a b W' => AnyG.cmp_Compare_int Try.cmpI a b W'
  change ∀ a b W', Calls Try.prog 45 _ _ _ at hcon
  obtain ⟨p, k, s, ⟨oa, na, ca⟩, ⟨ob, nb, cb⟩⟩ := x
  obtain ⟨p', k', s', ⟨oc, nc, cc⟩, ⟨od, nd, cd⟩⟩ := y
  have HV : Hid (cmpF (p, k, s, (oa, na, ca), (ob, nb, cb)) (p', k', s', (oc, nc, cc), (od, nd, cd)) = cmpOr (Lib.compareInt s s') (Lib.compareInt p p')) := rfl
  show Calls Try.prog 28 #[.agg #[.int .i64 p, .int .i64 k, .int .i64 s, .slice oa na ca, .slice ob nb cb], .agg #[.int .i64 p', .int .i64 k', .int .i64 s', .slice oc nc cc, .slice od nd cd]] W _
  have c1 := hcon s s'
  have c2 := hcon p p'
  clear hcon
  generalize Lib.compareInt s s' = r1 at *
  generalize Lib.compareInt p p' = r2 at *
  go_enter Try.func28, Try.ntmps28
  go_wp2_with fail
  go_region_held3 (fun w' => w'.cell? ⟨W.heap.size, 0, none⟩ = some (.int .i64 p) ∧ w'.cell? ⟨W.heap.size, 2, none⟩ = some (.int .i64 s) ∧ w'.cell? ⟨W.heap.size + 1, 0, none⟩ = some (.int .i64 p') ∧ w'.cell? ⟨W.heap.size + 1, 2, none⟩ = some (.int .i64 s'))
    (go_keep)
    (first
      | (go_at_call 45; refine (c1 _).mono ?_; clear c1; rintro e w' ⟨rfl, rfl⟩)
      | (go_at_call 45; refine (c2 _).mono ?_; rintro e w' ⟨rfl, rfl⟩)
      | (go_at_call 44; refine (codeOr r1 r2 _ _ _ (cell_third W _ _ _ _ rfl) (cell_third W _ _ _ _ rfl)).mono ?_; rintro e w' ⟨rfl, rfl⟩))
  go_wp2_with fail
  go_ret
  exact ⟨ret_int HV.out.symm, 1, _, grow_third W _ _ _⟩

theorem codeCmps (blk off size : Nat) (w : World) : CmpLays Try.prog 28 #[] encF 5 cmpF blk off size w :=
  fun _ _ _ _ x y => codeEarlier x y _

/-! ### The order -/
theorem cmpF_lt (x y : RowT) : ltOf cmpF x y = (decide (x.2.2.1 < y.2.2.1) || (decide (x.2.2.1 = y.2.2.1) && decide (x.1 < y.1))) := by
  unfold ltOf cmpF cmpOr Lib.compareInt
  by_cases h1 : x.2.2.1 < y.2.2.1
  · simp [h1]
  · by_cases h2 : y.2.2.1 < x.2.2.1
    · have h3 : ¬ x.2.2.1 = y.2.2.1 := by omega
      simp [h1, h2, h3]
    · have h3 : x.2.2.1 = y.2.2.1 := by omega
      by_cases h4 : x.1 < y.1
      · simp [h3, h4]
      · by_cases h5 : y.1 < x.1 <;> simp [h3, h4, h5]
theorem cmpF_swo : SWO (ltOf cmpF) :=
  ⟨fun x => by rw [cmpF_lt]; simp, fun x y z h1 h2 => by rw [cmpF_lt] at *; simp at *; omega, fun x y z h1 h2 => by rw [cmpF_lt] at *; simp at *; omega⟩
end Go.Proofs.Ytcjhaapmehegkaa.Scan
/-
  Layer 6, the program: what was found is sorted.
-/
namespace Go.Proofs.Ytcjhaapmehegkaa.Scan
open Go.RowKit Go.Proofs.Ytcjhaapmehegkaa.Nand Go.Sort Go.Shelf

theorem rowCells_at {xs : List RowT} {j : Nat} (hj : j < xs.length * 5) : (rowCells xs)[j]? = some ((encF xs.toArray[j / 5]!)[j % 5]!) := by
  have h1 : j / 5 < xs.length := by omega
  have h2 : j % 5 < 5 := by omega
  have h := rowCells_get h1 h2
  rw [show j / 5 * 5 + j % 5 = j by omega] at h
  rw [h, show xs.toArray[j / 5]! = xs[j / 5] from by simp [h1]]
  have h3 : j % 5 < (encF xs[j / 5]).length := by rw [encF_length]; exact h2
  rw [List.getElem?_eq_getElem h3, getElem!_pos (encF xs[j / 5]) (j % 5) h3]
theorem holdsF {w : World} {base g n cap : Nat} {xs : List RowT} (h : w.ownsRow base 53 5 (.slice (some ⟨g, 0, none⟩) n cap) n (rowCells xs)) : HoldsK encF 5 w g 0 xs.toArray := by
  have hl : (rowCells xs).length = n * 5 := h.1
  rw [rowCells_length] at hl
  intro j hj
  have hj' : j < xs.length * 5 := by simpa using hj
  refine ⟨?_, by rw [Nat.zero_add]; exact h.frozenAt j⟩
  rw [Nat.zero_add, h.cellAt j (by omega), rowCells_at hj', get_flatK _ _ _ _ (by simpa using hj')]
  rfl
theorem sortedCells {w : World} {g m : Nat} {d0 d : Array RowT} {os : Array Obj} (h0 : HoldsK encF 5 w g 0 d0) (hs : d.size = d0.size) (hg : g < w.heap.size) (j : Nat) (u : Value) (hj : (rowCells d.toList)[j]? = some u) : (sortWorldK encF 5 w g 0 m d os).cell? ⟨g, j, none⟩ = some u := by
  have hlt : j < d.toList.length * 5 := by
    have := (List.getElem?_eq_some_iff.1 hj).1
    rw [rowCells_length] at this
    exact this
  have hh : HoldsK encF 5 (Sort.ahead w m) g 0 d0 := h0
  have h1 := holdsK_putRowK encF 5 (Sort.ahead w m) g 0 d0 d hh hs
  unfold sortWorldK
  rw [cell?_grow _ _ _ (by unfold putRowK; rw [Sort.size_putRow]; exact hg)]
  have h2 := (h1 j (by simpa using hlt)).1
  rw [Nat.zero_add] at h2
  rw [h2, ← hj, rowCells_at hlt, get_flatK _ _ _ _ (by simpa using hlt)]
  simp
theorem sortedElse {w : World} {g m : Nat} {d : Array RowT} {os : Array Obj} {b : Nat} (hb : b < w.heap.size) (hne : b ≠ g) : (sortWorldK encF 5 w g 0 m d os).heap[b]? = w.heap[b]? := by
  unfold sortWorldK putRowK putRow mapBlock grow
  rw [Array.getElem?_append_left (by simpa using hb)]
  simp [Array.getElem?_modify, Ne.symm hne, Sort.ahead]
theorem sortedBelow {w : World} {g m : Nat} {d : Array RowT} {os : Array Obj} {B : Nat} (hB : B ≤ w.heap.size) (hg : B ≤ g) : RowKit.Below B w (sortWorldK encF 5 w g 0 m d os) := by
  refine ⟨rfl, rfl, rfl, ?_, fun k hk => sortedElse (by omega) (by omega)⟩
  unfold sortWorldK putRowK putRow mapBlock grow
  simp [Sort.ahead]
/-! ### Other orders of the same row -/
theorem FitsL.cons {S : Nat → Prop} {w : World} {x : RowT} {f : FoundT} {xs : List RowT} {fs : List FoundT} (hx : Fits S w x f) (h : FitsL S w xs fs) : FitsL S w (x :: xs) (f :: fs) := by
  refine ⟨by simp [h.1], fun i a b => ?_⟩
  cases i with
  | zero => exact hx
  | succ i => exact h.2 i (by simpa using a) (by simpa using b)
theorem FitsL.uncons {S : Nat → Prop} {w : World} {x : RowT} {xs : List RowT} {fs : List FoundT} (h : FitsL S w (x :: xs) fs) : ∃ f fs', fs = f :: fs' ∧ Fits S w x f ∧ FitsL S w xs fs' := by
  cases fs with
  | nil => have := h.1; simp at this
  | cons f fs' =>
    refine ⟨f, fs', rfl, h.2 0 (by simp) (by simp), by have := h.1; simpa using this, fun i a b => h.2 (i + 1) (by simpa using a) (by simpa using b)⟩
theorem FitsL.perm {S : Nat → Prop} {w : World} {xs ys : List RowT} (hp : xs.Perm ys) : ∀ {fs : List FoundT}, FitsL S w xs fs → ∃ gs, fs.Perm gs ∧ FitsL S w ys gs := by
  induction hp with
  | nil => intro fs h; exact ⟨fs, List.Perm.refl _, h⟩
  | cons x _ ih =>
    intro fs h
    obtain ⟨f, fs', rfl, hx, h'⟩ := h.uncons
    obtain ⟨gs, h1, h2⟩ := ih h'
    exact ⟨f :: gs, h1.cons f, h2.cons hx⟩
  | swap x y l =>
    intro fs h
    obtain ⟨f, fs', rfl, hx, h'⟩ := h.uncons
    obtain ⟨f', fs'', rfl, hx', h''⟩ := h'.uncons
    exact ⟨f' :: f :: fs'', List.Perm.swap _ _ _, (h''.cons hx).cons hx'⟩
  | trans _ _ ih1 ih2 =>
    intro fs h
    obtain ⟨gs, h1, h2⟩ := ih1 h
    obtain ⟨hs, h3, h4⟩ := ih2 h2
    exact ⟨hs, h1.trans h3, h4⟩
theorem fits_lt {S : Nat → Prop} {w : World} {x y : RowT} {f g : FoundT} (hx : Fits S w x f) (hy : Fits S w y g) : ltOf cmpF x y = aheadF f g := by
  rw [cmpF_lt]
  unfold aheadF
  rw [hx.1, hx.2.2.1, hy.1, hy.2.2.1]
theorem sorted_fits {S : Nat → Prop} {w : World} {d : Array RowT} {gs : List FoundT} (h : FitsL S w d.toList gs) (hs : SortedIn (ltOf cmpF) 0 d.size d) : gs.Pairwise leF := by
  have hl := h.1
  rw [List.pairwise_iff_getElem]
  intro i j hi hj hij
  have hi' : i < d.size := by simp at hl; omega
  have hj' : j < d.size := by simp at hl; omega
  have h1 := hs i j (Nat.zero_le _) hij hj'
  rw [getElem!_pos d i hi', getElem!_pos d j hj'] at h1
  have h2 := fits_lt (h.2 j (by simpa using hj') hj) (h.2 i (by simpa using hi') hi)
  rw [Array.getElem_toList, Array.getElem_toList] at h2
  unfold leF
  rw [← h2]
  exact h1

set_option maxHeartbeats 1000000 in
set_option maxRecDepth 100000 in
/-- **the sort: what was found stands in its order; nothing else turns** -/
theorem codeSort (v : Value) (n base : Nat) (xs : List RowT) (fs : List FoundT) (w : World) (hown : w.ownsRow base 53 5 v n (rowCells xs)) (hn : n = fs.length) (hlen : fs.length ≤ 1000) (hf : FitsL (fun g => v.ownBlock ≠ some g ∧ base ≤ g) w xs fs) (ha : Apart fs) (hb : base ≤ w.heap.size) :
    Calls Try.prog 27 #[v, .func (.func 28) #[] #[]] w fun e w' => e = .returned (.tuple #[]) ∧ FoundsAt (fun g => base ≤ g) w' v (allF fs) ∧ RowKit.Below base w w' ∧ ∀ b, b < w.heap.size → v.ownBlock ≠ some b → w'.heap[b]? = w.heap[b]? := by
  rcases id hown.2 with ⟨rfl, h0⟩ | ⟨g, cap, cur, rfl, hg, hh, hlc, hcm, hcs, ht⟩
  · have hfs : fs = [] := List.length_eq_zero_iff.1 (by omega)
    subst hfs
    have hcon := AnyF.slices_SortFunc_none Try.sortF none 0 (.func (.func 28) #[] #[]) w
    change Calls Try.prog 27 _ _ _ at hcon
    refine hcon.mono ?_
    rintro e w' ⟨rfl, rfl⟩
    exact ⟨rfl, FoundsAt.nil _ _ _ _, RowKit.Below.refl _ _, fun _ _ _ => rfl⟩
  · have hxl : xs.length = n := by have := hf.1; omega
    have hgl : g < w.heap.size := (Array.getElem?_eq_some_iff.1 hh).1
    have hH := holdsF hown
    have eg : ∀ args w, (callFunc 28 args).run Try.prog w = .ok (.enter 28 args) w := enters_of Try.func28 (by kernel_rfl) rfl
    have hcon := AnyQ.slices_SortFunc Try.sortF 5 Try.isAgg53 Try.sizeOf53 encF encF_length (fun x v hv => by simp [encF] at hv; rcases hv with rfl | rfl | rfl | rfl | rfl <;> rfl) cmpF cmpF_swo 28 #[] g 0 cap xs.toArray w eg (codeCmps g 0 xs.toArray.size w) hH hgl (by simp; omega)
    change Calls Try.prog 27 _ _ _ at hcon
    have hsz : xs.toArray.size = n := by simpa using hxl
    rw [hsz] at hcon
    refine hcon.mono ?_
    rintro e w' ⟨rfl, d', m, os, hp, hs, rfl⟩
    have hd : d'.size = xs.toArray.size := hp.1
    have hperm : d'.toList.Perm xs := by
      have := hp.2.2
      rw [← hsz] at this
      have e1 : d'.extract 0 xs.toArray.size = d' := by rw [← hd]; simp
      have e2 : xs.toArray.extract 0 xs.toArray.size = xs.toArray := by simp
      rw [e1, e2] at this
      exact this
    obtain ⟨gs, p1, p2⟩ := FitsL.perm hperm.symm hf
    have hso := sorted_fits p2 (by rw [hd, hsz]; exact hs)
    have hgs : gs = allF fs := sorted_is ha p1.symm hso
    subst hgs
    have hcells : ∀ b, b < w.heap.size → b ≠ g → (sortWorldK encF 5 w g 0 m d' os).heap[b]? = w.heap[b]? := fun b h1 h2 => sortedElse h1 h2
    refine ⟨rfl, ⟨by rw [allF_length]; unfold maxLen; omega, ?_⟩, sortedBelow hb hg, fun b h1 h2 => hcells b h1 (fun e => h2 (by rw [e]; rfl))⟩
    by_cases hz : (allF fs).length = 0
    · exact .inl ⟨List.length_eq_zero_iff.1 hz, some ⟨g, 0, none⟩, cap, by rw [show n = 0 by rw [allF_length] at hz; omega]⟩
    · refine .inr ⟨g, 0, cap, d'.toList, by rw [allF_length, hn], by omega, hg, ?_, fun j u hj => by rw [Nat.zero_add]; exact sortedCells hH hd hgl j u hj⟩
      exact p2.kept fun b hb1 hb2 => ⟨hb1.2, fun off => World.cell?_of_block (w := w) (a := ⟨b, off, none⟩) (hcells b hb2 (fun e => hb1.1 (by rw [e]; rfl)))⟩
end Go.Proofs.Ytcjhaapmehegkaa.Scan
/-
  Layer 6, the program: all that a chip's pages tell.
-/
namespace Go.Proofs.Ytcjhaapmehegkaa.Scan
open Go.RowKit Go.Shelf Go.Proofs.Ytcjhaapmehegkaa.Nand
attribute [local go_sem] Oper.semAt_some

set_option maxHeartbeats 1000000 in
set_option maxRecDepth 100000 in
theorem codePages (oa : Option Addr) (na ca : Nat) (br off : Bool) (ops : Int) (w : World) : Calls Try.prog 25 #[.agg #[.slice oa na ca, .bool br, .bool off, .int .i64 ops]] w fun e w' => e = .returned (.func (.func 39) #[] #[.pointer (some ⟨w.heap.size, 0, none⟩)]) ∧ w' = w.alloc (.cells #[.slice oa na ca, .bool br, .bool off, .int .i64 ops] 24) := by
  go_enter Try.func25, Try.ntmps25
  go_wp2_with fail
  go_ret
  exact ⟨rfl, rfl⟩
theorem pages_stops (n Bn n₀ : Nat) (hn : 1 ≤ n) (oa : Option Addr) (ca : Nat) (bs : List BlockT) (br off : Bool) (ops : Int) (w : World) (hC : Blk w Bn 24 #[.slice oa bs.length ca, .bool br, .bool off, .int .i64 ops]) (hb : BlocksAt (fun x => x < n₀) w (.slice oa bs.length ca) bs) (hn₀ : n₀ ≤ w.heap.size) :
    SeqStopsK Fence.wide n Try.prog 39 #[.pointer (some ⟨Bn, 0, none⟩)] (encY bs) (Below n₀) (fun ys => ys = yTo bs (min bs.length 32)) (fun _ => True) 512 w := fun l J Jx W hW hJ _ hY h0 =>
  pages1 n l Bn n₀ _ hn oa ca bs br off ops J Jx hJ hY W (hC.mem hW) (hb.mem hW) (Nat.le_trans hn₀ hW.size) h0

/-- between two rounds -/
def AllI (bs : List BlockT) (w : World) (pre : List (Nat × Nat)) (W : World) : Prop :=
  (∃ v xs, Boxed W (w.heap.size + 1) 36 v ∧ W.ownsRow w.heap.size 53 5 v (tellY bs pre).length (rowCells xs) ∧ FitsL (fun g => v.ownBlock ≠ some g ∧ w.heap.size + 1 < g) W xs (tellY bs pre)) ∧ Below w.heap.size w W
theorem allI_own (bs : List BlockT) (w : World) {B : Nat} (hB : w.heap.size ≤ B) : OwnFrom B (AllI bs w) := by
  rintro s X Y row ⟨⟨v, xs, hv, hr, hf⟩, hb⟩ hg hrow
  have hrow' : ∀ r, row = some r → ∃ o : Obj, X.heap[r]? = some o ∧ o.isCells = false := fun r e => (hrow r e).2
  refine ⟨⟨v, xs, hv.kept hg (fun e' => ?_), hr.kept hg ?_, hf.turned hg hrow'⟩, hb.grown hg hb.size (fun k e => Nat.le_trans hB (hrow k e).1)⟩
  · obtain ⟨o, ho, hc⟩ := hrow' _ e'.symm
    rw [show X.heap[w.heap.size + 1]? = _ from hv] at ho; cases ho; cases hc
  · rcases hr.2 with ⟨rfl, _⟩ | ⟨g, cap, cur, rfl, _, hgb, _⟩
    · exact .inl rfl
    · refine .inr fun e' => ?_
      obtain ⟨o, ho, hc⟩ := hrow' g (by simpa [Value.ownBlock] using e'.symm)
      rw [hgb] at ho; cases ho; cases hc
theorem cell_found (w : World) {B : Nat} (hB : B = w.heap.size) (z : RowT) : ∀ j u, (encF z)[j]? = some u → (w.alloc (.cells #[.int .i64 z.1, .int .i64 z.2.1, .int .i64 z.2.2.1, .slice z.2.2.2.1.1 z.2.2.2.1.2.1 z.2.2.2.1.2.2, .slice z.2.2.2.2.1 z.2.2.2.2.2.1 z.2.2.2.2.2.2] 53)).cell? ((⟨B, 0, none⟩ : Addr).add j) = some u := by
  intro j u hj
  subst hB
  rw [add_none, World.cell?_alloc_mark]
  simpa [encF] using hj
theorem encF_one (z : RowT) : ∀ u ∈ encF z, u.oneCell' = true := by
  intro u hu
  simp [encF] at hu
  rcases hu with rfl | rfl | rfl | rfl | rfl <;> rfl
theorem keeps_of_mem {B : Nat} {W W' : World} (m : Mem W W') : KeepsFrom B W W' :=
  ⟨m.size, fun k _ _ hk _ => (m.block k (Array.getElem?_eq_some_iff.1 hk).1).trans hk⟩
theorem allI_mem {bs : List BlockT} {w : World} {pre : List (Nat × Nat)} {W W' : World} (h : AllI bs w pre W) (m : Mem W W') : AllI bs w pre W' := by
  obtain ⟨⟨v, xs, hv, hr, hf⟩, hb⟩ := h
  exact ⟨⟨v, xs, (m.block _ hv.lt).trans hv, owns_below hr m, hf.mem m⟩, Below.trans hb (Below.mono m hb.size)⟩

set_option maxRecDepth 100000 in
set_option maxHeartbeats 8000000 in
theorem codeAll : AllSpec 15 := by
  intro S vb bs br off ops w hb hf hsz
  obtain ⟨i0, hi, hz0, hz1, hz2⟩ := info_parts info_found5
  refine (callsIn_wide (n := 5)).1 ?_
  obtain ⟨oa, ca, rfl⟩ := hb.shape
  have HSZ := hide (fun b p => pgAt_size hsz b p)
  have w25 : Fence.wide.fn 25 := trivial
  have w26 : Fence.wide.fn 26 := trivial
  have w27 : Fence.wide.fn 27 := trivial
  clear hsz
  refine callsIn_of_wp_marks Try.func15 rfl trivial ?_ rfl
  simp only [Try.ntmps15, List.size_toArray, List.length_cons, List.length_nil, Nat.reduceAdd, Nat.reduceSub, Array.replicate_succ, Array.replicate_zero, List.push_toArray, List.append_toArray, List.nil_append, List.cons_append]
  gi_wp2_with (gi_at_call 25; refine (callsIn_wide.2 (codePages _ _ _ _ _ _ _)).mono ?_; rintro e w' ⟨rfl, rfl⟩)
  have hsz : (((w.alloc (.cells #[.slice oa bs.length ca, .bool br, .bool off, .int .i64 ops] 24)).alloc (.cells #[.slice none 0 0] 36)).alloc (.cells #[.slice oa bs.length ca, .bool br, .bool off, .int .i64 ops] 24)).heap.size = w.heap.size + 3 := by simp
  have hM0 : Mem w (((w.alloc (.cells #[.slice oa bs.length ca, .bool br, .bool off, .int .i64 ops] 24)).alloc (.cells #[.slice none 0 0] 36)).alloc (.cells #[.slice oa bs.length ca, .bool br, .bool off, .int .i64 ops] 24)) := (((Mem.refl w).alloc _).alloc _).alloc _
  have bF : Boxed (((w.alloc (.cells #[.slice oa bs.length ca, .bool br, .bool off, .int .i64 ops] 24)).alloc (.cells #[.slice none 0 0] 36)).alloc (.cells #[.slice oa bs.length ca, .bool br, .bool off, .int .i64 ops] 24)) (w.heap.size + 1) 36 (.slice none 0 0) := by
    have h := (Boxed.new (w.alloc (.cells #[.slice oa bs.length ca, .bool br, .bool off, .int .i64 ops] 24)) 36 (.slice none 0 0)).alloc (.cells #[.slice oa bs.length ca, .bool br, .bool off, .int .i64 ops] 24)
    rwa [World.size_alloc] at h
  have hC2 : Blk (((w.alloc (.cells #[.slice oa bs.length ca, .bool br, .bool off, .int .i64 ops] 24)).alloc (.cells #[.slice none 0 0] 36)).alloc (.cells #[.slice oa bs.length ca, .bool br, .bool off, .int .i64 ops] 24)) (w.heap.size + 1 + 1) 24 #[.slice oa bs.length ca, .bool br, .bool off, .int .i64 ops] := by
    have h := Blk.new ((w.alloc (.cells #[.slice oa bs.length ca, .bool br, .bool off, .int .i64 ops] 24)).alloc (.cells #[.slice none 0 0] 36)) #[.slice oa bs.length ca, .bool br, .bool off, .int .i64 ops] 24
    rwa [World.size_alloc, World.size_alloc] at h
  obtain ⟨W0, hW0⟩ : ∃ W0, ((w.alloc (.cells #[.slice oa bs.length ca, .bool br, .bool off, .int .i64 ops] 24)).alloc (.cells #[.slice none 0 0] 36)).alloc (.cells #[.slice oa bs.length ca, .bool br, .bool off, .int .i64 ops] 24) = W0 := ⟨_, rfl⟩
  rw [hW0] at hsz hM0 bF hC2 ⊢
  clear hW0
  have hb0 := (hb.mono (S' := fun x => x < w.heap.size) fun g _ h => h).mem hM0
  have hI0 : AllI bs w [] W0 := ⟨⟨_, [], bF, World.ownsRow_nil _ _ _ _, FitsL.nil _ _⟩, hM0⟩
  refine wpIn_rangeFunc_ownH rfl (by decide) (gf := 39) (lb := #[.pointer (some ⟨w.heap.size + 1 + 1, 0, none⟩)]) rfl trivial (enters_of Try.func39 (by kernel_rfl) rfl)
    (pages_stops 4 (w.heap.size + 1 + 1) w.heap.size (by decide) oa ca bs br off ops W0 hC2 hb0 (by omega)) belowK_t (belowK_b (by omega)) (Below.refl _ _) (fun _ => rfl)
    (AllI bs w) (fun _ _ _ => False) (allI_own bs w (by omega)) (fun _ _ _ _ _ hs _ _ => hs) hI0
    (fun x a' W => ∃ Bx, w.heap.size + 1 < Bx ∧ Blk W Bx 27 #[.bool (pgAt bs x.1 x.2).1, .string (pgAt bs x.1 x.2).2.1, .string (pgAt bs x.1 x.2).2.2] ∧ a' = { tmps := #[chipV (.slice oa bs.length ca) br off ops, .pointer (some ⟨w.heap.size, 0, none⟩), .slice none 0 0, .pointer (some ⟨w.heap.size + 1, 0, none⟩), .int .i64 (place x.1 x.2), .pointer (some ⟨Bx, 0, none⟩), undef, undef, .agg #[.slice oa bs.length ca, .bool br, .bool off, .int .i64 ops], .func (.func 39) #[] #[.pointer (some ⟨w.heap.size + 1 + 1, 0, none⟩)], .int .i64 (place x.1 x.2), pageV (pgAt bs x.1 x.2), undef, undef, undef, undef, undef, undef, undef, undef, undef, undef, undef, undef, undef, undef, undef, undef], defers := [] })
    (fun x a' _ X Y row hs hg hr => by
      obtain ⟨Bx, h1, h2, h3⟩ := hs
      refine ⟨Bx, h1, (hg.block Bx h2.lt (fun e => ?_)).trans h2, h3⟩
      obtain ⟨_, o, ho, hc⟩ := hr Bx e.symm
      rw [show X.heap[Bx]? = _ from h2] at ho; cases ho; cases hc)
    ?assign ?body ?done ?stop
  case assign =>
    rintro l pre x W K hI hK
    have hs1 := hI.1
    obtain ⟨v, xs, hv, _⟩ := hs1
    have hlt := hv.lt
    unfold encY
    gi_wp2
    exact hK _ _ ((KeepsOthers.alloc _ _).from _) ((Below.refl _ W).alloc hI.2.size _) (allI_mem hI ((Mem.refl _).alloc _)) ⟨W.heap.size, hlt, Blk.new W _ _, rfl⟩
  case body =>
    rintro l pre x a' W hl ⟨r, hr⟩ hI ⟨Bx, hBx, bX, rfl⟩ hlt
    have hts := HSZ.out x.1 x.2
    have hcs := look_cases (pgAt bs x.1 x.2).1 (pgAt bs x.1 x.2).2.2.data.toList (pgAt bs x.1 x.2).2.1.data.toList
    have HSn := hide (tellY_snoc bs pre x)
    have HN := hide (fun h => tellQ_none (b := x.1) (p := x.2) (pg := pgAt bs x.1 x.2) h)
    have HSo := hide (fun (r : RecT) hr => tellQ_some (b := x.1) (p := x.2) (pg := pgAt bs x.1 x.2) (r := r) hr)
    have htl := tellY_length bs pre
    generalize pgAt bs x.1 x.2 = pg at *
    have c0 := bX.cell (j := 0) rfl
    have c1 := bX.cell (j := 1) rfl
    have c2 := bX.cell (j := 2) rfl
    obtain ⟨hIv, hB⟩ := hI
    obtain ⟨v, xs, hv, hrow, hfit⟩ := hIv
    have hlt1 := hv.lt
    generalize hq : Look.look pg.1 pg.2.2.data.toList pg.2.1.data.toList = q at *
    have HQ := hide hq
    clear hq
    rcases hcs with rfl | rfl | ⟨⟨kd, sq, ks, vs⟩, rfl⟩
    · have HE := hide (HN.out rfl)
      clear HN HSo
      gi_wp2_with (gi_at_call 26; refine (CallsIn.inRound l (callsIn_wide.2 (Look.lookLook pg.1 pg.2.1 pg.2.2 _ hts))).mono ?_; rintro e w1 ⟨hlk, m1⟩; rw [HQ.out] at hlk; obtain ⟨vk, vv, rfl, ik, iv, pk, pv⟩ := hlk; obtain ⟨ok, ck, rfl⟩ := ik.shape; obtain ⟨ov, cv, rfl⟩ := iv.shape; simp only [Tag.decR] at *)
      have mA : Mem W (w1.alloc (.cells #[.int .i64 0, .int .i64 0, .slice ok 0 ck, .slice ov 0 cv] 51)) := m1.alloc _
      have hI2 : AllI bs w pre _ := allI_mem ⟨⟨v, xs, hv, hrow, hfit⟩, hB⟩ mA
      exact ⟨keeps_of_mem mA, Below.mono mA hB.size, by unfold AllI at *; rw [HSn.out, HE.out, List.append_nil]; exact hI2⟩
    · have HE := hide (HN.out rfl)
      clear HN HSo
      gi_wp2_with (gi_at_call 26; refine (CallsIn.inRound l (callsIn_wide.2 (Look.lookLook pg.1 pg.2.1 pg.2.2 _ hts))).mono ?_; rintro e w1 ⟨hlk, m1⟩; rw [HQ.out] at hlk; obtain ⟨vk, vv, rfl, ik, iv, pk, pv⟩ := hlk; obtain ⟨ok, ck, rfl⟩ := ik.shape; obtain ⟨ov, cv, rfl⟩ := iv.shape; simp only [Tag.decR] at *)
      have mA : Mem W (w1.alloc (.cells #[.int .i64 0, .int .i64 0, .slice ok 0 ck, .slice ov 0 cv] 51)) := m1.alloc _
      have hI2 : AllI bs w pre _ := allI_mem ⟨⟨v, xs, hv, hrow, hfit⟩, hB⟩ mA
      exact ⟨keeps_of_mem mA, Below.mono mA hB.size, by unfold AllI at *; rw [HSn.out, HE.out, List.append_nil]; exact hI2⟩
    · have HE := hide (HSo.out (kd, sq, ks, vs) rfl)
      clear HN HSo
      gi_wp2_with (first
        | (gi_at_call 26; refine (CallsIn.inRound l (callsIn_wide.2 (Look.lookLook pg.1 pg.2.1 pg.2.2 _ hts))).mono ?_; rintro e w1 ⟨hlk, m1⟩; rw [HQ.out] at hlk; obtain ⟨vk, vv, rfl, ik, iv, pk, pv⟩ := hlk; obtain ⟨ok, ck, rfl⟩ := ik.shape; obtain ⟨ov, cv, rfl⟩ := iv.shape; simp only [Tag.decR] at *; have mA : Mem W (w1.alloc (.cells #[.int .i64 kd, .int .i64 sq, .slice ok ks.length ck, .slice ov vs.length cv] 51)) := m1.alloc _; have hv2 : Boxed (w1.alloc (.cells #[.int .i64 kd, .int .i64 sq, .slice ok ks.length ck, .slice ov vs.length cv] 51)) (w.heap.size + 1) 36 v := (mA.block _ hlt1).trans hv; have hrow2 := owns_below hrow mA; have cF := hv2.cell)
        | (gi_at_builtin; refine wpListIn_append_own_at _ rfl _ _ 36 rfl w.heap.size 53 i0 _ 5 72 Try.underlying36 hi hz0 hz1 hz2 rfl (by decide) v _ _ rfl (hrow2.alloc _) ⟨w1.heap.size + 1, 0, none⟩ 1 1 (encF (place x.1 x.2, kd, sq, (ok, ks.length, ck), (ov, vs.length, cv))) rfl rfl (cell_found _ (by simp) (place x.1 x.2, kd, sq, (ok, ks.length, ck), (ov, vs.length, cv))) (encF_one _) (by unfold maxLen; omega) (by omega) (by have := hB.size; have := m1.size; simp; omega) ?_; intro v' w3 hown' hgrow hnil hat; obtain ⟨g', cap', rfl⟩ := ownsRow_succ hown'; obtain ⟨hv3, hv4, hr4, hk4, hb4⟩ := hv2.appended (by decide) hrow2 (by have := hB.size; have := mA.size; omega) (by omega) hown' hgrow; have hc1 := hv3.cell; have hf1 := hv3.frozen))
      have hfit2 := hfit.mem mA
      have jk := (IntsIn.of_past ik pk).kept (S' := fun b => v.ownBlock ≠ some b ∧ w.heap.size + 1 < b) (w' := w1.alloc (.cells #[.int .i64 kd, .int .i64 sq, .slice ok ks.length ck, .slice ov vs.length cv] 51)) fun b hb1 hb2 => ⟨⟨fun e => by have := (hrow.lt b e).2; omega, by omega⟩, fun off => Below.cell ((Mem.refl w1).alloc _) (p := ⟨b, off, none⟩) hb2⟩
      have jv := (IntsIn.of_past iv pv).kept (S' := fun b => v.ownBlock ≠ some b ∧ w.heap.size + 1 < b) (w' := w1.alloc (.cells #[.int .i64 kd, .int .i64 sq, .slice ok ks.length ck, .slice ov vs.length cv] 51)) fun b hb1 hb2 => ⟨⟨fun e => by have := (hrow.lt b e).2; omega, by omega⟩, fun off => Below.cell ((Mem.refl w1).alloc _) (p := ⟨b, off, none⟩) hb2⟩
      have hfz : Fits (fun b => v.ownBlock ≠ some b ∧ w.heap.size + 1 < b) (w1.alloc (.cells #[.int .i64 kd, .int .i64 sq, .slice ok ks.length ck, .slice ov vs.length cv] 51)) (place x.1 x.2, kd, sq, (ok, ks.length, ck), (ov, vs.length, cv)) (place x.1 x.2, kd, sq, ks, vs) := ⟨rfl, rfl, rfl, jk, jv⟩
      have hfa := hfit2.snoc hfz
      have hfin := hfa.kept (S' := fun b => (Value.slice (some ⟨g', 0, none⟩) ((tellY bs pre).length + 1) cap').ownBlock ≠ some b ∧ w.heap.size + 1 < b) (w' := w3.setCell ⟨w.heap.size + 1, 0, none⟩ (.slice (some ⟨g', 0, none⟩) ((tellY bs pre).length + 1) cap')) fun b hb1 hb2 => by
        have hne : (Value.slice (some ⟨g', 0, none⟩) ((tellY bs pre).length + 1) cap').ownBlock ≠ some b := by
          rcases hat with h | h
          · rw [h]; exact hb1.1
          · rw [h]; intro e; injection e with e; simp at e hb2; omega
        refine ⟨⟨hne, hb1.2⟩, fun off => World.cell?_of_block (a := ⟨b, off, none⟩) ?_⟩
        rw [Below.heap_setCell _ _ _ b (by show b ≠ w.heap.size + 1; have := hb1.2; omega)]
        rw [hgrow.block b (by simp at hb2 ⊢; omega) (fun e => hb1.1 e.symm)]
        exact Below.heap_alloc _ _ b hb2
      refine ⟨(keeps_of_mem mA).trans (hk4.from _), Below.trans (Below.mono mA hB.size) hb4, ⟨_, xs ++ [(place x.1 x.2, kd, sq, (ok, ks.length, ck), (ov, vs.length, cv))], hv4, ?_, ?_⟩, Below.trans hB (Below.trans (Below.mono mA hB.size) hb4)⟩
      · rw [HSn.out, HE.out, List.length_append, rowCells_snoc]; exact hr4
      · rw [HSn.out, HE.out]; exact hfin
  case done =>
    rintro D ys W hD rfl ⟨⟨v, xs, hv, hrow, hfit⟩, hB⟩ hK
    rw [tellY_all] at hrow hfit
    have hl512 := tellC_len512 0 bs
    have hfit2 := hfit.mono (S' := fun g => v.ownBlock ≠ some g ∧ w.heap.size ≤ g) fun g hg _ => ⟨hg.1, by have := hg.2; omega⟩
    have hc := hv.cell
    have hnD : v.ownBlock ≠ some D := by
      intro e
      rcases hrow.2 with ⟨rfl, _⟩ | ⟨g, cap, cur, rfl, _, hgb, _⟩
      · simp [Value.ownBlock] at e
      · obtain rfl : g = D := by simpa [Value.ownBlock] using e
        rw [hgb] at hK; cases hK
    have hnB : v.ownBlock ≠ some (w.heap.size + 1) := (hv.not_row (by decide) hrow).symm
    have hDl := (Array.getElem?_eq_some_iff.1 hK).1
    have hBl := hv.lt
    have HS := hide (codeSort v _ w.heap.size xs (tellC 0 bs) W hrow rfl (by omega) hfit2 (tellC_apart 0 bs) hB.size)
    clear hfit hfit2 hrow
    gi_wp2_with (gi_at_call 27; refine (callsIn_wide.2 HS.out).mono ?_; rintro e w5 ⟨rfl, hF, hb5, hkeep⟩; have hv5 : Boxed w5 (w.heap.size + 1) 36 v := (hkeep _ hBl hnB).trans hv; have hc5 := hv5.cell; have hK5 := (hkeep D hDl hnD).trans hK)
    refine ⟨by simp, .inl ⟨_, _, rfl, run_takeDeferred hK5, ?_⟩⟩
    refine ⟨_, results_tmp rfl _ _ _, ⟨v, rfl, hF.turned (grownBy_putObj' _ D _) (fun r e => by cases e; exact ⟨_, hK5, rfl⟩)⟩, ?_⟩
    exact Below.trans (Below.trans hB hb5) (belowK_b (w := w) (Nat.le_refl _) w5 D _ _ (by omega) hK5 rfl rfl)
  case stop =>
    rintro D c pre W _ _ h _
    exact h.elim
end Go.Proofs.Ytcjhaapmehegkaa.Scan
/-
  Layer 6: what any right program answers.
-/
namespace Go.Proofs.Ytcjhaapmehegkaa.Scan
open Go.RowKit Go.Proofs.Ytcjhaapmehegkaa.Nand Go.Proofs.Ytcjhaapmehegkaa.Tag

def z2 : List PageT := [zeroPage, zeroPage]
def sa1 : List BlockT := [(z2, 0, 0, false), (z2, 0, 0, false)]
def sa2 (p : PageT) : List BlockT := [([(true, p.2.1, p.2.2), zeroPage], 1, 0, false), (z2, 0, 0, false)]
def sa3 (p q : PageT) : List BlockT := [([(true, p.2.1, p.2.2), zeroPage], 1, 0, false), ([(true, q.2.1, q.2.2), zeroPage], 1, 0, false)]
theorem sa_new : newC 2 2 [] = ((sa1, false, false, 0), 0) := by kernel_rfl
theorem sa_prog1 (p : PageT) : Nand.program (sa1, false, false, 0) 0 0 p (0, ⟨#[]⟩, ⟨#[]⟩, 0) = ((sa2 p, false, false, 1), 0) := by kernel_rfl
theorem sa_prog2 (p q : PageT) : Nand.program (sa2 p, false, false, 1) 1 0 q (0, ⟨#[]⟩, ⟨#[]⟩, 0) = ((sa3 p q, false, false, 2), 0) := by kernel_rfl
def rec0 (s : Int) : RecT := (mkK [], s, mkKeys [], mkVals [])
theorem sa_tell (b : Nat) {s : Int} (h0 : 0 ≤ s) (h1 : s ≤ 1099511627776) (hb : b < 32) : tellB b 0 [(true, (pageMk s []).2.1, (pageMk s []).2.2), zeroPage] = [(place b 0, rec0 s)] := by
  have hl := pageMk_look [] h0 h1
  have hw : (pageMk s []).1 = true := by rw [pageMk_is [] h0 h1]
  rw [hw] at hl
  rw [tellB, tellB, tellB, List.append_nil, tellP_some ⟨hb, by omega⟩ (r := rec0 s) (by show (Look.look true _ _).2 = _; rw [hl]; rfl), tellP_none (pg := zeroPage) rfl]
  rfl
theorem sa_all : allC (sa3 (pageMk 7 []) (pageMk 3 [])) = [(16, rec0 3), (0, rec0 7)] := by
  unfold allC sa3
  rw [tellC, tellC, tellC, List.append_nil]
  rw [sa_tell 0 (by decide) (by decide) (by decide), sa_tell 1 (by decide) (by decide) (by decide)]
  have e0 : place (0 : Nat) (0 : Nat) = 0 := by decide
  have e1 : place (1 : Nat) (0 : Nat) = 16 := by decide
  show allF ([(place (0 : Nat) (0 : Nat), rec0 7)] ++ [(place (1 : Nat) (0 : Nat), rec0 3)]) = _
  rw [e0, e1, allF_snoc]
  show putF (16, rec0 3) [(0, rec0 7)] = _
  unfold putF
  rw [if_pos (by rw [aheadF_iff]; left; show (3 : Int) < 7; decide)]
theorem sa_page16 (p q : PageT) : pageC (sa3 p q) 16 = ((true, q.2.1, q.2.2), true) := pageC_yes (bs := sa3 p q) (n := 16) (by show 1 < 2; decide) (by decide) (by show 0 < 2; decide)
theorem sa_page2 (p q : PageT) : pageC (sa3 p q) 2 = (zeroPage, false) := pageC_short (bs := sa3 p q) (n := 2) (by show 0 < 2; decide) (by show 2 ≤ 2; decide)
theorem sa_few3 (p q : PageT) : Few (sa3 p q) := ⟨by simp [sa3], by intro b hb; simp [sa3] at hb; rcases hb with rfl | rfl <;> simp⟩
theorem sa_size {p q : PageT} (hp : p.2.2.size ≤ 100) (hq : q.2.2.size ≤ 100) : ∀ b ∈ sa3 p q, ∀ x ∈ b.1, x.2.2.size ≤ maxLen := by
  intro b hb x hx
  have hz : zeroPage.2.2.size ≤ maxLen := Nat.zero_le _
  simp [sa3] at hb
  rcases hb with rfl | rfl
  · simp at hx; rcases hx with rfl | rfl
    · show p.2.2.size ≤ maxLen; unfold maxLen; omega
    · exact hz
  · simp at hx; rcases hx with rfl | rfl
    · show q.2.2.size ≤ maxLen; unfold maxLen; omega
    · exact hz
theorem sa_few1 : Few sa1 := ⟨by decide, by intro b hb; simp [sa1, z2] at hb; subst hb; decide⟩
theorem sa_few2 (p : PageT) : Few (sa2 p) := ⟨by simp [sa2], by intro b hb; simp [sa2, z2] at hb; rcases hb with rfl | rfl <;> simp⟩
set_option maxHeartbeats 2000000 in
set_option maxRecDepth 100000 in
theorem awake (w : World) : Calls Try.prog 9 #[] w fun e w' => e = .returned (.bool true) ∧ Mem w w' := by
  go_enter Try.func9, Try.ntmps9
  go_wp2_with fail
  refine (refNew 2 2 _ [] _ (Ints.nil _ _ _ _) (by decide)).mono ?_
  rintro e w1 ⟨hr, m1⟩
  rw [sa_new] at hr
  obtain ⟨v1, rfl, hb1⟩ := hr
  obtain ⟨o1, c1, rfl⟩ := hb1.shape
  replace hb1 : BlocksAt _ w1 (.slice o1 2 c1) sa1 := hb1
  rw [show sa1.length = 2 from rfl]
  simp only [chipV]
  have ha : Mem w1 (w1.alloc (.cells #[.slice o1 2 c1, .bool false, .bool false, .int .i64 0] 24)) := (Mem.refl w1).alloc _
  have hX1 := Blk.new w1 #[.slice o1 2 c1, .bool false, .bool false, .int .i64 0] 24
  have hBw : w.heap.size ≤ w1.heap.size := m1.size
  replace hb1 := hb1.mono (S' := fun x => x ≠ w1.heap.size) fun g _ hl => Nat.ne_of_lt hl
  have hm := m1.trans ha
  replace hb1 := hb1.mem ha
  go_wp2_with fail
  generalize hg1 : w1.alloc (.cells #[.slice o1 2 c1, .bool false, .bool false, .int .i64 0] 24) = W1 at *
  generalize w1.heap.size = B1 at *
  clear hg1 ha m1
  have a0 := hX1.cell (j := 0) rfl
  have a1 := hX1.cell (j := 1) rfl
  have a2 := hX1.cell (j := 2) rfl
  have a3 := hX1.cell (j := 3) rfl
  have HB := hide hb1
  clear hb1
  go_region_with (first
    | (go_at_call 18; refine (lawPage 7 _ [] _ (Ints.nil _ _ _ _) (by simp)).mono ?_; rintro e w2 ⟨rfl, m2⟩; have Y := hX1.drew.mem m2; have b0 := Y.cell (j := 0) rfl; have b1 := Y.cell (j := 1) rfl; have b2 := Y.cell (j := 2) rfl; have b3 := Y.cell (j := 3) rfl; have M2 := hide (Mem.trans (Mem.drew (Mem.refl W1)) m2))
    | (go_at_call 19; refine (progSpec_ref _ _ sa1 false false 0 0 0 (pageMk 7 []) (0, ⟨#[]⟩, ⟨#[]⟩, 0) _ (HB.out.mem M2.out) sa_few1).mono ?_; rintro e w3 ⟨hr, m3⟩; rw [sa_prog1] at hr; obtain ⟨v3, rfl, hb3⟩ := hr; obtain ⟨o3, c3, rfl⟩ := hb3.shape; have Z := Y.mem m3; have e0 := Z.cell (j := 0) rfl; have e1 := Z.cell (j := 1) rfl; have e2 := Z.cell (j := 2) rfl; have e3 := Z.cell (j := 3) rfl; have f0 := Z.frozen 0; have f1 := Z.frozen 1; have f2 := Z.frozen 2; have f3 := Z.frozen 3))
  all_goals (
    replace hb3 : BlocksAt _ w3 (.slice o3 2 c3) (sa2 (pageMk 7 [])) := hb3
    rw [show (sa2 (pageMk 7 [])).length = 2 from rfl]
    simp only [chipV]
    have hYl := Y.lt
    have hX3 := Z.put4 (.slice o3 2 c3) (.bool false) (.bool false) (.int .i64 1)
    have hb3' := (hb3.mono (S' := fun x => x ≠ B1) fun g hg _ => by rcases hg with h | h; exact h; omega).put4 (b := B1) (fun h => h rfl) (.slice o3 2 c3) (.bool false) (.bool false) (.int .i64 1)
    have hm3 := (hm.trans (M2.out.trans m3)).put4 (b := B1) hBw (.slice o3 2 c3) (.bool false) (.bool false) (.int .i64 1)
    generalize hg3 : ((((w3.setCell ⟨B1, 0, none⟩ (.slice o3 2 c3)).setCell ⟨B1, 1, none⟩ (.bool false)).setCell ⟨B1, 2, none⟩ (.bool false)).setCell ⟨B1, 3, none⟩ (.int .i64 1)) = W3 at *
    clear hg3 e0 e1 e2 e3 f0 f1 f2 f3 b0 b1 b2 b3 Z Y m2 m3 M2 HB hb3 hX1 hm a0 a1 a2 a3
    have a0 := hX3.cell (j := 0) rfl
    have a1 := hX3.cell (j := 1) rfl
    have a2 := hX3.cell (j := 2) rfl
    have a3 := hX3.cell (j := 3) rfl
    have HB := hide hb3'
    clear hb3'
    go_wp2_with fail
    go_region_with (first
      | (go_at_call 18; refine (lawPage 3 _ [] _ (Ints.nil _ _ _ _) (by simp)).mono ?_; rintro e w4 ⟨rfl, m4⟩; have Y := hX3.drew.mem m4; have b0 := Y.cell (j := 0) rfl; have b1 := Y.cell (j := 1) rfl; have b2 := Y.cell (j := 2) rfl; have b3 := Y.cell (j := 3) rfl; have M4 := hide (Mem.trans (Mem.drew (Mem.refl W3)) m4))
      | (go_at_call 19; refine (progSpec_ref _ _ (sa2 (pageMk 7 [])) false false 1 1 0 (pageMk 3 []) (0, ⟨#[]⟩, ⟨#[]⟩, 0) _ (HB.out.mem M4.out) (sa_few2 _)).mono ?_; rintro e w5 ⟨hr, m5⟩; rw [sa_prog2] at hr; obtain ⟨v5, rfl, hb5⟩ := hr; obtain ⟨o5, c5, rfl⟩ := hb5.shape; have Z := Y.mem m5; have e0 := Z.cell (j := 0) rfl; have e1 := Z.cell (j := 1) rfl; have e2 := Z.cell (j := 2) rfl; have e3 := Z.cell (j := 3) rfl; have f0 := Z.frozen 0; have f1 := Z.frozen 1; have f2 := Z.frozen 2; have f3 := Z.frozen 3))
    all_goals (
      replace hb5 : BlocksAt _ w5 (.slice o5 2 c5) (sa3 (pageMk 7 []) (pageMk 3 [])) := hb5
      rw [show (sa3 (pageMk 7 []) (pageMk 3 [])).length = 2 from rfl]
      simp only [chipV]
      have hYl := Y.lt
      have hX5 := Z.put4 (.slice o5 2 c5) (.bool false) (.bool false) (.int .i64 2)
      have hb5' := (hb5.mono (S' := fun x => x ≠ B1) fun g hg _ => by rcases hg with h | h; exact h; omega).put4 (b := B1) (fun h => h rfl) (.slice o5 2 c5) (.bool false) (.bool false) (.int .i64 2)
      have hm5 := (hm3.trans (M4.out.trans m5)).put4 (b := B1) hBw (.slice o5 2 c5) (.bool false) (.bool false) (.int .i64 2)
      generalize hg5 : ((((w5.setCell ⟨B1, 0, none⟩ (.slice o5 2 c5)).setCell ⟨B1, 1, none⟩ (.bool false)).setCell ⟨B1, 2, none⟩ (.bool false)).setCell ⟨B1, 3, none⟩ (.int .i64 2)) = W5 at *
      clear hg5 e0 e1 e2 e3 f0 f1 f2 f3 b0 b1 b2 b3 Z Y m4 m5 M4 HB hb5 hX3 hm3 a0 a1 a2 a3
      have a0 := hX5.cell (j := 0) rfl
      have a1 := hX5.cell (j := 1) rfl
      have a2 := hX5.cell (j := 2) rfl
      have a3 := hX5.cell (j := 3) rfl
      go_wp2_with fail
      refine (codeAll _ _ (sa3 (pageMk 7 []) (pageMk 3 [])) false false 2 _ hb5' (sa_few3 _ _) (sa_size (pageMk_size 7 []).2 (pageMk_size 3 []).2)).mono ?_
      rintro e w6 ⟨⟨v6, rfl, hf6⟩, m6⟩
      rw [sa_all] at hf6
      obtain ⟨o6, c6, rfl⟩ := hf6.shape
      have Y := hX5.mem m6
      have a0 := Y.cell (j := 0) rfl
      have a1 := Y.cell (j := 1) rfl
      have a2 := Y.cell (j := 2) rfl
      have a3 := Y.cell (j := 3) rfl
      go_wp2_with fail
      refine (codePage _ _ (sa3 (pageMk 7 []) (pageMk 3 [])) false false 2 16 _ (hb5'.mem m6) (by decide)).mono ?_
      rintro e w7 ⟨rfl, m7⟩
      rw [sa_page16]
      simp only [pageV]
      generalize (pageMk 3 []).2.1 = d7 at *
      generalize (pageMk 3 []).2.2 = t7 at *
      have n7 : Mem w7 (w7.alloc (.cells #[.bool true, .string d7, .string t7] 27)) := (Mem.refl w7).alloc _
      have hP7 := Blk.new w7 #[.bool true, .string d7, .string t7] 27
      have Y7 := Y.mem (m7.trans n7)
      have a0 := Y7.cell (j := 0) rfl
      have a1 := Y7.cell (j := 1) rfl
      have a2 := Y7.cell (j := 2) rfl
      have a3 := Y7.cell (j := 3) rfl
      go_wp2_with fail
      refine (codePage _ _ (sa3 (pageMk 7 []) (pageMk 3 [])) false false 2 2 _ (hb5'.mem (m6.trans (m7.trans n7))) (by decide)).mono ?_
      rintro e w8 ⟨rfl, m8⟩
      rw [sa_page2]
      simp only [pageV, zeroPage]
      have n8 : Mem w8 (w8.alloc (.cells #[.bool false, .string ⟨#[]⟩, .string ⟨#[]⟩] 27)) := (Mem.refl w8).alloc _
      have M8 := m7.trans (n7.trans (m8.trans n8))
      have P0 := (hP7.mem (m8.trans n8)).cell (j := 0) rfl
      have hf8 := hf6.mem M8
      obtain ⟨g6, f6, _, _, _, _, rfl, _, x0, _, x2, _⟩ := hf8.at (i := 0) (by decide)
      obtain ⟨g6', f6', _, _, _, _, he6, _, z0, _⟩ := hf8.at (i := 1) (by decide)
      injection he6 with he6
      injection he6 with he6 he7
      subst he6
      subst he7
      have y0 : (w8.alloc (.cells #[.bool false, .string ⟨#[]⟩, .string ⟨#[]⟩] 27)).cell? ⟨g6, f6, none⟩ = some (.int .i64 16) := by simpa using x0
      have y2 : (w8.alloc (.cells #[.bool false, .string ⟨#[]⟩, .string ⟨#[]⟩] 27)).cell? ⟨g6, f6 + 2, none⟩ = some (.int .i64 3) := by simpa [rec0] using x2
      have y5 : (w8.alloc (.cells #[.bool false, .string ⟨#[]⟩, .string ⟨#[]⟩] 27)).cell? ⟨g6, f6 + 5, none⟩ = some (.int .i64 0) := by simpa using z0
      clear x0 x2 z0
      have p1 : place 1 1 = 17 := by decide
      have p2 : place 0 16 = -1 := by decide
      have hmf := hm5.trans (m6.trans M8)
      clear hf8 hf6 m6 m7 n7 m8 n8 M8 hb5' Y Y7 hX5 hm5
      go_wp2_with (go_at_call 12; refine (codePlace _ _ _).mono ?_; rintro e w' ⟨rfl, rfl⟩)
      go_ret
      exact ⟨rfl, hmf⟩))
end Go.Proofs.Ytcjhaapmehegkaa.Scan
/-
  Layer 6: two lists that are the same, by the document.
-/
namespace Go.Proofs.Ytcjhaapmehegkaa.Scan
open Go.RowKit Go.Proofs.Ytcjhaapmehegkaa.Nand

theorem recEq_self (k s : Int) (ks vs : List Int) : Tag.recEq k s ks vs k s ks vs = true := by simp [Tag.recEq]
set_option maxHeartbeats 2000000 in
set_option maxRecDepth 100000 in
theorem refScanSame (S S' : Nat → Prop) (va vb : Value) (fs : List FoundT) (w : World) (ha : FoundsAt S w va fs) (hb : FoundsAt S' w vb fs) :
    Calls Try.prog 14 #[va, vb] w fun e w' => e = .returned (.bool true) ∧ Mem w w' := by
  obtain ⟨oa, ca, rfl⟩ := ha.shape
  obtain ⟨ob, cb, rfl⟩ := hb.shape
  have hlen := ha.1
  unfold maxLen at hlen
  have e1 : ((fs.length : Int) != (fs.length : Int)) = false := by simp
  go_enter Try.func14, Try.ntmps14
  go_wp2_with fail
  clear e1
  go_loopw [5] (fun i wr => ∃ k : Nat, k ≤ fs.length ∧ i = .int .i64 k ∧ Mem w wr) (fun i _ => fs.length - (intOf i).toNat)
  case atStart => exact ⟨0, Nat.zero_le _, rfl, Mem.refl _⟩
  case round =>
    obtain ⟨k, hk, rfl, hmr⟩ := hrel
    by_cases hlt : k < fs.length
    · have hlt' : (k : Int) < (fs.length : Int) := by omega
      have hk0 : (0 : Int) ≤ (k : Int) := by omega
      obtain ⟨ga, fa, oka, cka, ova, cva, rfl, _, x0, x1, x2, x3, x4, ik, iv⟩ := (ha.mem hmr).at hlt
      obtain ⟨gb, fb, okb, ckb, ovb, cvb, rfl, _, y0, y1, y2, y3, y4, jk, jv⟩ := (hb.mem hmr).at hlt
      generalize fs[k] = f at *
      obtain ⟨p, kd, sq, ks, vs⟩ := f
      simp only [] at x0 x1 x2 x3 x4 ik iv y0 y1 y2 y3 y4 jk jv
      have q1 : (p != p) = false := by simp
      have HK : Hid (∀ w', Mem wr w' → w'.cell? ⟨ga, fa + k * 5, none⟩ = some (.int .i64 p) ∧ w'.cell? ⟨ga, fa + k * 5 + 1, none⟩ = some (.int .i64 kd) ∧ w'.cell? ⟨ga, fa + k * 5 + 2, none⟩ = some (.int .i64 sq) ∧ w'.cell? ⟨ga, fa + k * 5 + 3, none⟩ = some (.slice oka ks.length cka) ∧ w'.cell? ⟨ga, fa + k * 5 + 4, none⟩ = some (.slice ova vs.length cva) ∧ w'.cell? ⟨gb, fb + k * 5, none⟩ = some (.int .i64 p) ∧ w'.cell? ⟨gb, fb + k * 5 + 1, none⟩ = some (.int .i64 kd) ∧ w'.cell? ⟨gb, fb + k * 5 + 2, none⟩ = some (.int .i64 sq) ∧ w'.cell? ⟨gb, fb + k * 5 + 3, none⟩ = some (.slice okb ks.length ckb) ∧ w'.cell? ⟨gb, fb + k * 5 + 4, none⟩ = some (.slice ovb vs.length cvb)) := fun w' h =>
        have t : ∀ {g o : Nat} {u : Value}, wr.cell? ⟨g, o, none⟩ = some u → w'.cell? ⟨g, o, none⟩ = some u := fun {g o u} hc => (Below.cell h (p := ⟨g, o, none⟩) (World.block_lt_of_cell? wr _ hc)).trans hc
        ⟨t x0, t x1, t x2, t x3, t x4, t y0, t y1, t y2, t y3, t y4⟩
      have N0 := hide (Mem.drew (Mem.refl wr))
      have HI := hide (⟨ik.ints, iv.ints, jk.ints, jv.ints⟩ : Ints .i64 wr _ ks ∧ Ints .i64 wr _ vs ∧ Ints .i64 wr _ ks ∧ Ints .i64 wr _ vs)
      clear ik iv jk jv
      go_wp2_with fail
      go_region_held3 (fun w' => w'.cell? ⟨ga, fa + k * 5, none⟩ = some (.int .i64 p) ∧ w'.cell? ⟨ga, fa + k * 5 + 1, none⟩ = some (.int .i64 kd) ∧ w'.cell? ⟨ga, fa + k * 5 + 2, none⟩ = some (.int .i64 sq) ∧ w'.cell? ⟨ga, fa + k * 5 + 3, none⟩ = some (.slice oka ks.length cka) ∧ w'.cell? ⟨ga, fa + k * 5 + 4, none⟩ = some (.slice ova vs.length cva) ∧ w'.cell? ⟨gb, fb + k * 5, none⟩ = some (.int .i64 p) ∧ w'.cell? ⟨gb, fb + k * 5 + 1, none⟩ = some (.int .i64 kd) ∧ w'.cell? ⟨gb, fb + k * 5 + 2, none⟩ = some (.int .i64 sq) ∧ w'.cell? ⟨gb, fb + k * 5 + 3, none⟩ = some (.slice okb ks.length ckb) ∧ w'.cell? ⟨gb, fb + k * 5 + 4, none⟩ = some (.slice ovb vs.length cvb))
        (first | with_reducible exact HK.out _ N0.out | with_reducible exact HK.out _ N1.out | go_keep)
        ((go_at_call 21; refine (Tag.recSame kd sq kd sq _ _ _ _ ks vs ks vs _ (HI.out.1.mem N0.out) (HI.out.2.1.mem N0.out) (HI.out.2.2.1.mem N0.out) (HI.out.2.2.2.mem N0.out)).mono ?_; rintro e w1 ⟨rfl, n1⟩; rw [recEq_self]; have N1 := hide (Mem.trans N0.out n1)))
      have m1 := hmr.trans N1.out
      go_wp2_with fail
      go_roundw
      case rel => exact ⟨k + 1, by omega, by go_num, m1⟩
      case measure => simp [intOf]; omega
    · have hke : k = fs.length := by omega
      subst hke
      have hlt' : ¬ ((fs.length : Int) < (fs.length : Int)) := by omega
      go_wp2_with fail
      go_ret
      exact ⟨rfl, hmr⟩
end Go.Proofs.Ytcjhaapmehegkaa.Scan
