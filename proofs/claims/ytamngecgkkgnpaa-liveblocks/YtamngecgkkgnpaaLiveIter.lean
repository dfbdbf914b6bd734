/-
  Layer 8, the program: the sectors that have a place, told one by one, and collected.
-/
import Derived.RangeFuncBox
import Derived.RangeFuncLeaves
import Derived.Shelf.Abstract
import Derived.WalkKit
import Derived.OwnWalkIn
import Derived.TacticsInMore
import Derived.LoopNIn
import Derived.LoopIn
import Derived.Maps.OwnIn
import Derived.Maps.AppendAt
import Derived.Test.YtamngecgkkgnpaaLiveMath
import Derived.Test.YtamngecgkkgnpaaReplayNews
namespace Go.Proofs.Ytamngecgkkgnpaa.Live
open Go.RowKit Go.Shelf Go.Proofs.Ytamngecgkkgnpaa.Replay
attribute [local go_sem] Oper.semAt_some

set_option maxRecDepth 100000 in
set_option maxHeartbeats 2000000 in
theorem sectors1 (n l Bl Bp : Nat) (hn : 1 ≤ n) (oa : Option Addr) (ca : Nat) (zs : List Int) (p : Int) (w0 : World) (hl : w0.cell? ⟨Bl, 0, none⟩ = some (.slice oa zs.length ca)) (hp : w0.cell? ⟨Bp, 0, none⟩ = some (.int .i64 p)) (hz : Ints .i64 w0 (.slice oa zs.length ca) zs) (J Jx : List Int → World → Prop)
    (hY : ∀ pre x W, J pre W → pre.length < zs.length → YieldAt Fence.wide (n - 1) Try.prog l #[.int .i64 x] W fun e W' =>
      (e = .returned (.bool true) ∧ J (pre ++ [x]) W' ∧ Below w0.heap.size W W') ∨ (e = .returned (.bool false) ∧ Jx (pre ++ [x]) W'))
    (W : World) (hW : Mem w0 W) (h0 : J [] W) :
    CallsIn Fence.wide n Try.prog 45 #[.func (.yield l) #[] #[], .pointer (some ⟨Bl, 0, none⟩), .pointer (some ⟨Bp, 0, none⟩)] W fun e W' => (∃ v, e = .returned v) ∧
      ((∃ ys, ys = which zs p ∧ J ys W') ∨ (∃ pre, True ∧ Jx pre W')) := by
  have hBl := World.block_lt_of_cell? w0 _ hl
  have hBp := World.block_lt_of_cell? w0 _ hp
  have hl0 := (Below.cell hW (p := ⟨Bl, 0, none⟩) hBl).trans hl
  have hzl := hz.1
  unfold maxLen at hzl
  refine callsIn_of_wp Try.func45 rfl trivial ?_ rfl
  simp only [Try.ntmps45, List.size_toArray, List.length_cons, List.length_nil, Nat.reduceAdd, Nat.reduceSub, Array.replicate_succ, Array.replicate_zero, List.push_toArray, List.append_toArray, List.nil_append, List.cons_append]
  gi_wp2
  gi_loopw [8] (fun i wr => ∃ k : Nat, k ≤ zs.length ∧ i = .int .i64 k ∧ J (whichN zs p k) wr ∧ Mem w0 wr) (fun i _ => zs.length - (intOf i).toNat)
  case atStart => exact ⟨0, Nat.zero_le _, rfl, h0, hW⟩
  case round =>
    clear hl0
    obtain ⟨k, hk, rfl, hJk, hmr⟩ := hrel
    by_cases hlt : k < zs.length
    · have hlt' : (k : Int) < (zs.length : Int) := by omega
      have hk0 : (0 : Int) ≤ (k : Int) := by omega
      have hp1 := (Below.cell hmr (p := ⟨Bp, 0, none⟩) hBp).trans hp
      obtain ⟨ab, ao, rfl, hc⟩ := (hz.mem hmr).at (by omega)
      have d0 := hc k hlt
      have HYes := hide (fun (h1 : 0 ≤ p) (h2 : zs.getD k 0 = p) => whichN_yes (l := zs) h1 h2)
      have HNo := hide (fun h => whichN_no (l := zs) (p := p) (k := k) h)
      have hln := whichN_len zs p k
      clear hc
      generalize zs.getD k 0 = x at *
      by_cases h1 : 0 ≤ p
      · by_cases h2 : x = p
        · subst h2
          have HE := hide (HYes.out h1 rfl)
          obtain ⟨fn, tmps, assign, body, hy, hR⟩ := hY (whichN zs x k) k wr hJk (by omega)
          gi_wp2
          refine hR.mono ?_
          rintro e W3 (⟨rfl, hJ3, hk3⟩ | ⟨rfl, hJx3⟩)
          · have hm3 : Mem w0 W3 := Below.trans hmr (Below.mono hk3 (Nat.le_refl _))
            rw [← HE.out] at hJ3
            gi_wp2
            go_roundw
            case rel => exact ⟨k + 1, by omega, by go_num, hJ3, hm3⟩
            case measure => simp [intOf]; omega
          · gi_wp2
            refine bodyPost_ret (results_none rfl _ _ _) rfl ?_
            exact ⟨⟨_, rfl⟩, .inr ⟨_, trivial, hJx3⟩⟩
        · have HE := hide (HNo.out (fun h => h2 h.2))
          have h2' : ¬ (p = x) := fun e => h2 e.symm
          rw [← HE.out] at hJk
          gi_wp2
          refine ⟨fun _ h => (by cases h), ?_⟩
          gi_wp2
          go_roundw
          case rel => exact ⟨k + 1, by omega, by go_num, hJk, hmr⟩
          case measure => simp [intOf]; omega
      · have HE := hide (HNo.out (fun h => h1 h.1))
        have h1' : p ≤ -1 := by omega
        rw [← HE.out] at hJk
        gi_wp2
        refine ⟨fun _ h => (by cases h), ?_⟩
        gi_wp2
        go_roundw
        case rel => exact ⟨k + 1, by omega, by go_num, hJk, hmr⟩
        case measure => simp [intOf]; omega
    · have hke : k = zs.length := by omega
      subst hke
      have hlt' : ¬ ((zs.length : Int) < (zs.length : Int)) := by omega
      gi_wp2
      go_end0
      exact ⟨⟨_, rfl⟩, .inl hJk⟩
theorem sectors_stops (n Bl Bp : Nat) (hn : 1 ≤ n) (oa : Option Addr) (ca : Nat) (zs : List Int) (p : Int) (w0 w : World) (hl : w0.cell? ⟨Bl, 0, none⟩ = some (.slice oa zs.length ca)) (hp : w0.cell? ⟨Bp, 0, none⟩ = some (.int .i64 p)) (hz : Ints .i64 w0 (.slice oa zs.length ca) zs) (hw : Mem w0 w) :
    SeqStopsK Fence.wide n Try.prog 45 #[.pointer (some ⟨Bl, 0, none⟩), .pointer (some ⟨Bp, 0, none⟩)] (fun x : Int => #[Value.int .i64 x]) (Below w0.heap.size) (fun ys => ys = which zs p) (fun _ => True) zs.length w := fun l J Jx W hW _ _ hY h0 =>
  sectors1 n l Bl Bp hn oa ca zs p w0 hl hp hz J Jx hY W (Mem.trans hw hW) h0
theorem info_int8 : (Try.prog.info? 3).map (fun i => (i.zero, i.size, i.bytes)) = some (some (.int .i64 0), 1, 8) := by kernel_rfl
set_option maxRecDepth 100000 in
set_option maxHeartbeats 2000000 in
/-- slices.AppendSeq onto nothing -/
theorem codeAppendSeq (Bl Bp : Nat) (oa : Option Addr) (ca : Nat) (zs : List Int) (p : Int) (w : World) (hl : w.cell? ⟨Bl, 0, none⟩ = some (.slice oa zs.length ca)) (hp : w.cell? ⟨Bp, 0, none⟩ = some (.int .i64 p)) (hz : Ints .i64 w (.slice oa zs.length ca) zs) (hlen : zs.length ≤ 1000) :
    Calls Try.prog 44 #[.slice none 0 0, .func (.func 45) #[] #[.pointer (some ⟨Bl, 0, none⟩), .pointer (some ⟨Bp, 0, none⟩)]] w fun e w' => ∃ v, e = .returned v ∧ w'.ownsRow w.heap.size 3 1 v (which zs p).length (icells (which zs p)) ∧ Mem w w' := by
  obtain ⟨i0, hi, hz0, hz1, hz2⟩ := info_parts info_int8
  refine (callsIn_wide (n := 5)).1 ?_
  refine callsIn_of_wp_marks Try.func44 rfl trivial ?_ rfl
  simp only [Try.ntmps44, List.size_toArray, List.length_cons, List.length_nil, Nat.reduceAdd, Nat.reduceSub, Array.replicate_succ, Array.replicate_zero, List.push_toArray, List.append_toArray, List.nil_append, List.cons_append]
  gi_wp2
  have bO := Boxed.new w 22 (.slice none 0 0)
  have hB0 : Below w.heap.size w (w.alloc (.cells #[.slice none 0 0] 22)) := (Below.refl _ w).alloc (Nat.le_refl _) _
  refine wpIn_rangeFunc_ownG rfl (by decide) (gf := 45) (lb := #[.pointer (some ⟨Bl, 0, none⟩), .pointer (some ⟨Bp, 0, none⟩)]) rfl trivial (enters_of Try.func45 (by kernel_rfl) rfl)
    (sectors_stops 4 Bl Bp (by decide) oa ca zs p w _ hl hp hz hB0) belowK_t (belowK_b (by simp)) (Below.refl _ _) (fun _ => rfl)
    (fun pre W => (∃ v, Boxed W w.heap.size 22 v ∧ W.ownsRow w.heap.size 3 1 v pre.length (pre.map (Value.int .i64)) ∧ (v = .slice none 0 0 ↔ pre = [])) ∧ Below w.heap.size w W)
    (fun _ _ _ => False)
    (OwnFrom.and (Own.from (holdsRow_own w.heap.size w.heap.size 22 3 1 (fun pre => pre.length) (fun pre => pre.map (Value.int .i64)) (fun pre v => v = .slice none 0 0 ↔ pre = [])) _) (ownFrom_below (Nat.le_refl _) (by simp)))
    (fun _ _ _ _ _ hs _ _ => hs)
    ⟨⟨_, bO, World.ownsRow_nil _ _ _ _, by simp⟩, hB0⟩
    (fun x => { tmps := #[.slice none 0 0, .func (.func 45) #[] #[.pointer (some ⟨Bl, 0, none⟩), .pointer (some ⟨Bp, 0, none⟩)], .pointer (some ⟨w.heap.size, 0, none⟩), undef, .slice none 0 0, .int .i64 x, .func (.func 45) #[] #[.pointer (some ⟨Bl, 0, none⟩), .pointer (some ⟨Bp, 0, none⟩)], .int .i64 x, undef, undef, undef, undef, undef], defers := [] }) ?assign ?body ?done ?stop
  case assign =>
    intro l x W K hK
    gi_wp2
    exact hK
  case body =>
    rintro l pre x W ⟨⟨v, hv, hrow, hnil⟩, hB⟩ hlt
    have hc := hv.cell
    gi_wp2_with (gi_at_builtin; refine wpListIn_append_own _ rfl _ _ 22 rfl w.heap.size 3 i0 (.int .i64 0) 1 8 Try.underlying22 hi hz0 hz1 hz2 rfl (by decide) _ _ _ rfl (hrow.alloc _) ⟨W.heap.size, 0, none⟩ 1 1 [.int .i64 x] rfl rfl (cell_one_new _ _ _) (by simp [Value.oneCell']) (by unfold maxLen; omega) (by omega) (by have := hB.size; simp; omega) ?_; intro v' w1 hown' hgrow _; obtain ⟨g', cap', rfl⟩ := ownsRow_succ hown'; obtain ⟨hv1, hv2, hr2, hk2, hb2⟩ := hv.appended (by decide) hrow hB.size (Nat.le_refl _) hown' hgrow; have hc1 := hv1.cell; have hf1 := hv1.frozen)
    exact ⟨hk2.from _, hb2, ⟨_, hv2, by simpa using hr2, by simp⟩, hB.trans hb2⟩
  case done =>
    rintro D ys W hD rfl ⟨⟨v, hv, hrow, hnil⟩, hB⟩ hK
    have hc := hv.cell
    gi_wp2
    refine ⟨by simp, .inl ⟨_, _, rfl, run_takeDeferred hK, ?_⟩⟩
    exact ⟨_, results_tmp rfl _ _ _, v, rfl, ownsRow_putObj hrow _ hK rfl, hB.trans (belowK_b (w := w) (Nat.le_refl _) W D _ _ (by simp at hD; omega) hK rfl rfl)⟩
  case stop =>
    rintro D c pre W _ _ h _
    exact h.elim
set_option maxRecDepth 100000 in
set_option maxHeartbeats 1000000 in
theorem codeCollect (Bl Bp : Nat) (oa : Option Addr) (ca : Nat) (zs : List Int) (p : Int) (w : World) (hl : w.cell? ⟨Bl, 0, none⟩ = some (.slice oa zs.length ca)) (hp : w.cell? ⟨Bp, 0, none⟩ = some (.int .i64 p)) (hz : Ints .i64 w (.slice oa zs.length ca) zs) (hlen : zs.length ≤ 1000) :
    Calls Try.prog 34 #[.func (.func 45) #[] #[.pointer (some ⟨Bl, 0, none⟩), .pointer (some ⟨Bp, 0, none⟩)]] w fun e w' => ∃ v, e = .returned v ∧ w'.ownsRow w.heap.size 3 1 v (which zs p).length (icells (which zs p)) ∧ Mem w w' := by
  go_enter Try.func34, Try.ntmps34
  go_wp2_with fail
  refine (codeAppendSeq Bl Bp oa ca zs p w hl hp hz hlen).mono ?_
  rintro e w1 ⟨v, rfl, h1, m1⟩
  go_wp2_with fail
  go_ret
  exact ⟨v, rfl, h1, m1⟩
end Go.Proofs.Ytamngecgkkgnpaa.Live
