/-
  Layer 6, the program: the pages, one behind the other, each behind its place.
-/
import Derived.RangeFuncNested
import Derived.RangeFuncBound
import Derived.RangeFuncCalls
import Derived.RangeFuncLeaves
import Derived.Shelf.Abstract
import Derived.Shelf.RegionOpen
import Derived.WalkKit
import Derived.OwnWalkIn
import Derived.TacticsInMore
import Derived.LoopNIn
import Derived.LoopIn
import Derived.Test.YtcjhaapmehegkaaScanCode1
namespace Go.Proofs.Ytcjhaapmehegkaa.Scan
open Go.RowKit Go.Shelf Go.Proofs.Ytcjhaapmehegkaa.Nand
attribute [local go_sem] Oper.semAt_some

def pgAt (bs : List BlockT) (b p : Nat) : PageT := (bs.getD b default).1.getD p zeroPage
def encY (bs : List BlockT) (x : Nat × Nat) : Array Value := #[.int .i64 (place x.1 x.2), pageV (pgAt bs x.1 x.2)]
def yRow (b n : Nat) : List (Nat × Nat) := (List.range n).map fun p => (b, p)
def yTo (bs : List BlockT) (k : Nat) : List (Nat × Nat) := (List.range k).flatMap fun b => yRow b (min (bs.getD b default).1.length 16)
theorem yRow_succ (b n : Nat) : yRow b (n + 1) = yRow b n ++ [(b, n)] := by simp [yRow, List.range_succ]
theorem yTo_succ (bs : List BlockT) (k : Nat) : yTo bs (k + 1) = yTo bs k ++ yRow k (min (bs.getD k default).1.length 16) := by simp [yTo, List.range_succ]
theorem yRow_length (b n : Nat) : (yRow b n).length = n := by simp [yRow]
theorem yTo_length (bs : List BlockT) (k : Nat) : (yTo bs k).length ≤ k * 16 := by
  induction k with
  | zero => simp [yTo]
  | succ k ih => rw [yTo_succ, List.length_append, yRow_length]; omega
theorem grown_of_mem {w w' : World} (m : Mem w w') : w.grownBy w' none := ⟨m.os, m.tape, m.output, m.size, fun k hk _ => m.block k hk⟩
theorem abides_mem {β : Type} {B : Nat} {J : β → World → Prop} (h : AbidesFrom B J) {s : β} {w w' : World} (hs : J s w) (m : Mem w w') : J s w' :=
  h s w w' none hs (grown_of_mem m) (fun r e => by cases e)

set_option maxRecDepth 100000 in
set_option maxHeartbeats 4000000 in
theorem pages1 (n l Bn n₀ B : Nat) (hn : 1 ≤ n) (oa : Option Addr) (ca : Nat) (bs : List BlockT) (br off : Bool) (ops : Int) (J Jx : List (Nat × Nat) → World → Prop) (hJ : AbidesFrom B J)
    (hY : ∀ pre x W, J pre W → pre.length < 512 → YieldAt Fence.wide (n - 1) Try.prog l (encY bs x) W fun e W' =>
      (e = .returned (.bool true) ∧ J (pre ++ [x]) W' ∧ Below n₀ W W') ∨ (e = .returned (.bool false) ∧ Jx (pre ++ [x]) W'))
    (W : World) (hC : Blk W Bn 24 #[.slice oa bs.length ca, .bool br, .bool off, .int .i64 ops]) (hb : BlocksAt (fun x => x < n₀) W (.slice oa bs.length ca) bs) (hn₀ : n₀ ≤ W.heap.size) (h0 : J [] W) :
    CallsIn Fence.wide n Try.prog 39 #[.func (.yield l) #[] #[], .pointer (some ⟨Bn, 0, none⟩)] W fun e W' => (∃ v, e = .returned v) ∧
      ((∃ ys, ys = yTo bs (min bs.length 32) ∧ J ys W') ∨ (∃ pre, True ∧ Jx pre W')) := by
  have w24 : Fence.wide.fn 24 := trivial
  have w40 : Fence.wide.fn 40 := trivial
  have w12 : Fence.wide.fn 12 := trivial
  have c0 := hC.cell (j := 0) rfl
  have c1 := hC.cell (j := 1) rfl
  have c2 := hC.cell (j := 2) rfl
  have c3 := hC.cell (j := 3) rfl
  refine callsIn_of_wp Try.func39 rfl trivial ?_ rfl
  simp only [Try.ntmps39, List.size_toArray, List.length_cons, List.length_nil, Nat.reduceAdd, Nat.reduceSub, Array.replicate_succ, Array.replicate_zero, List.push_toArray, List.append_toArray, List.nil_append, List.cons_append]
  gi_wp2_with (gi_at_call 24; refine (callsIn_wide.2 (placedBlocks _ _ bs br off ops _ hb)).mono ?_; rintro e w1 ⟨⟨v1, rfl, hb1⟩, m1⟩; obtain ⟨bt, hbt⟩ : ∃ bt, bs.take 32 = bt := ⟨_, rfl⟩; rw [hbt] at hb1; have HBT := hide hbt; clear hbt; obtain ⟨o1, q1, rfl⟩ := hb1.shape)
  have j1 := abides_mem hJ h0 m1
  have hn1 : n₀ ≤ w1.heap.size := Nat.le_trans hn₀ m1.size
  have hlen32 : bt.length ≤ 32 := by rw [← HBT.out, List.length_take]; omega
  have HL : Hid (bt.length = min bs.length 32) := by show _ = _; rw [← HBT.out, List.length_take]; omega
  have HG : Hid (∀ k (h : k < bt.length), bt[k] = bs.getD k default) := by
    have e := HBT.out
    subst e
    intro k h
    have hk : k < bs.length := by rw [List.length_take] at h; omega
    simp [hk]
  clear c0 c1 c2 c3 hC hb m1 h0 hn₀ HBT
  gi_loopw [10] (fun i wr => ∃ k : Nat, k ≤ bt.length ∧ i = .int .i64 k ∧ J (yTo bs k) wr ∧ Below n₀ w1 wr) (fun i _ => bt.length - (intOf i).toNat)
  case atStart => exact ⟨0, Nat.zero_le _, rfl, by simpa [yTo] using j1, Below.refl _ _⟩
  case round =>
    obtain ⟨k, hk, rfl, hJk, hnx⟩ := hrel
    by_cases hlt : k < bt.length
    · have hlt' : (k : Int) < (bt.length : Int) := by omega
      have hk0 : (0 : Int) ≤ (k : Int) := by omega
      have hbr := hb1.kept (S' := fun x => x < n₀) (w' := wr) fun g hg _ => ⟨hg, fun off => Below.cell hnx (p := ⟨g, off, none⟩) hg⟩
      obtain ⟨ga, fa, pa, qa, rfl, _, x0, x1, x2, x3, hpa⟩ := hbr.at hlt
      have HGk := hide (HG.out k hlt)
      generalize hbk : bt[k] = bk at x0 x1 x2 x3 hpa HGk
      clear hbk
      obtain ⟨ps, nx, er, bd⟩ := bk
      simp only [] at x0 x1 x2 x3 hpa
      have ma : Mem wr (wr.alloc (.cells #[.slice pa ps.length qa, .int .i64 nx, .int .i64 er, .bool bd] 34)) := (Mem.refl wr).alloc _
      have hpa1 := hpa.mem ma
      gi_wp2_with (gi_at_call 40; refine (callsIn_wide.2 (placedPages _ _ ps nx er bd _ hpa1)).mono ?_; rintro e w2 ⟨⟨v2, rfl, hp2⟩, m2⟩; obtain ⟨pt, hpt⟩ : ∃ pt, ps.take 16 = pt := ⟨_, rfl⟩; rw [hpt] at hp2; have HPT := hide hpt; clear hpt; obtain ⟨o2, q2, rfl⟩ := hp2.shape)
      have j2 := abides_mem hJ (abides_mem hJ hJk ma) m2
      have hb2 : Below n₀ w1 w2 := Below.trans hnx (Below.mono (ma.trans m2) (Nat.le_trans hn1 hnx.size))
      have hlen16 : pt.length ≤ 16 := by rw [← HPT.out, List.length_take]; omega
      have HL2 : Hid (pt.length = min ps.length 16) := by show _ = _; rw [← HPT.out, List.length_take]; omega
      have HG2 : Hid (∀ j (h : j < pt.length), pt[j] = pgAt bs k j) := by
        have e := HPT.out
        subst e
        intro j h
        have hj : j < ps.length := by rw [List.length_take] at h; omega
        unfold pgAt
        rw [← HGk.out]
        simp [hj]
      have HRow : Hid (yTo bs (k + 1) = yTo bs k ++ yRow k pt.length) := by
        show _ = _
        rw [yTo_succ, ← HGk.out, HL2.out]
      clear x0 x1 x2 x3 hpa ma hpa1 hJk hbr HGk m2 HPT
      gi_loopw [18] (fun i wr => ∃ j : Nat, j ≤ pt.length ∧ i = .int .i64 j ∧ J (yTo bs k ++ yRow k j) wr ∧ Below n₀ w2 wr) (fun i _ => pt.length - (intOf i).toNat)
      case atStart => exact ⟨0, Nat.zero_le _, rfl, by simpa [yRow] using j2, Below.refl _ _⟩
      case round =>
        obtain ⟨j, hj, rfl, hJj, hny⟩ := hrel
        by_cases hlj : j < pt.length
        · have hlj' : (j : Int) < (pt.length : Int) := by omega
          have hj0 : (0 : Int) ≤ (j : Int) := by omega
          have hpr := hp2.kept (S' := fun x => x < n₀) (w' := wr) fun g hg _ => ⟨hg, fun off => Below.cell hny (p := ⟨g, off, none⟩) hg⟩
          obtain ⟨gp, fp, rfl, _, y0, y1, y2⟩ := hpr.at hlj
          rw [HG2.out j hlj] at y0 y1 y2
          have hln : (yTo bs k ++ yRow k j).length < 512 := by
            have := yTo_length bs k
            rw [List.length_append, yRow_length]
            omega
          have mp : Mem wr ((wr.alloc (.cells #[.bool (pgAt bs k j).1, .string (pgAt bs k j).2.1, .string (pgAt bs k j).2.2] 27)).drew) := ((Mem.refl wr).alloc _).drew
          have hJp := abides_mem hJ hJj mp
          have HJN := hide (hY _ (k, j) _ hJp hln)
          obtain ⟨fn, tmps, assign, body, hy, hR⟩ := HJN.out
          unfold encY at hy
          dsimp only at hy
          generalize pgAt bs k j = pg at *
          have hR2 := hR.mono (R' := fun e W' => ∃ bo : Bool, e = .returned (.bool bo) ∧ ((bo = true ∧ J (yTo bs k ++ yRow k j ++ [(k, j)]) W' ∧ Below n₀ (wr.alloc (.cells #[.bool pg.1, .string pg.2.1, .string pg.2.2] 27)).drew W') ∨ (bo = false ∧ Jx (yTo bs k ++ yRow k j ++ [(k, j)]) W'))) (by
            rintro e W' (⟨rfl, h1, h2⟩ | ⟨rfl, h1⟩)
            · exact ⟨true, rfl, .inl ⟨rfl, h1, h2⟩⟩
            · exact ⟨false, rfl, .inr ⟨rfl, h1⟩⟩)
          clear hR HJN
          gi_wp2
          gi_region_with (first
            | (gi_at_call 12; refine (callsIn_wide.2 (codePlace _ _ _)).mono ?_; rintro e w' ⟨rfl, rfl⟩)
            | (refine hR2.mono ?_; rintro e W3 ⟨bo, rfl, hbo⟩))
          all_goals (rcases hbo with ⟨rfl, hJ3, hk3⟩ | ⟨rfl, hJx3⟩)
          · have hb3 := Below.trans hny (Below.trans (Below.mono mp (by have := hb2.size; have := hny.size; omega)) hk3)
            rw [List.append_assoc, ← yRow_succ] at hJ3
            gi_wp2
            go_roundw
            case rel => exact ⟨j + 1, by omega, by go_num, hJ3, hb3⟩
            case measure => simp [intOf]; omega
          · gi_wp2
            refine bodyPost_ret (results_none rfl _ _ _) rfl ?_
            exact ⟨⟨_, rfl⟩, .inr ⟨_, trivial, hJx3⟩⟩
          · have hb3 := Below.trans hny (Below.trans (Below.mono mp (by have := hb2.size; have := hny.size; omega)) hk3)
            rw [List.append_assoc, ← yRow_succ] at hJ3
            gi_wp2
            go_roundw
            case rel => exact ⟨j + 1, by omega, by go_num, hJ3, hb3⟩
            case measure => simp [intOf]; omega
          · gi_wp2
            refine bodyPost_ret (results_none rfl _ _ _) rfl ?_
            exact ⟨⟨_, rfl⟩, .inr ⟨_, trivial, hJx3⟩⟩
        · have hje : j = pt.length := by omega
          subst hje
          have hlj' : ¬ ((pt.length : Int) < (pt.length : Int)) := by omega
          rw [← HRow.out] at hJj
          have hb3 := Below.trans hb2 hny
          gi_wp2
          go_roundw
          case rel => exact ⟨k + 1, by omega, by go_num, hJj, hb3⟩
          case measure => simp [intOf]; omega
    · have hke : k = bt.length := by omega
      subst hke
      have hlt' : ¬ ((bt.length : Int) < (bt.length : Int)) := by omega
      gi_wp2
      go_end0
      exact ⟨⟨_, rfl⟩, .inl (by rw [← HL.out]; exact hJk)⟩
end Go.Proofs.Ytcjhaapmehegkaa.Scan
