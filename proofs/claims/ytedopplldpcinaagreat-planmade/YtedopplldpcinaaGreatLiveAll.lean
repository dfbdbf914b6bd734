/-
  LiveIter, LiveCode, LiveRefs: in one text (merge.json).
-/
import Derived.RangeFuncBox
import Derived.RangeFuncLeaves
import Derived.Shelf.Abstract
import Derived.WalkKit
import Derived.OwnWalkIn
import Derived.TacticsInMore
import Derived.LoopNIn
import Derived.LoopIn
import Derived.Maps.OwnIn
import Derived.Maps.AppendAt
import Derived.Test.YtedopplldpcinaaGreatRepLivMath
import Derived.Test.YtedopplldpcinaaGreatReplayNews
import Derived.Maps.OwnSet
import Derived.Test.YtedopplldpcinaaGreatScanLow
/-
  Layer 8, the program: the sectors that have a place, told one by one, and collected.
-/
namespace Go.Proofs.YtedopplldpcinaaGreat.Live
open Go.RowKit Go.Shelf Go.Proofs.YtedopplldpcinaaGreat.Replay
attribute [local go_sem] Oper.semAt_some

set_option maxRecDepth 100000 in
set_option maxHeartbeats 2000000 in
theorem sectors1 (n l Bl Bp : Nat) (hn : 1 ≤ n) (oa : Option Addr) (ca : Nat) (zs : List Int) (p : Int) (w0 : World) (hl : w0.cell? ⟨Bl, 0, none⟩ = some (.slice oa zs.length ca)) (hp : w0.cell? ⟨Bp, 0, none⟩ = some (.int .i64 p)) (hz : Ints .i64 w0 (.slice oa zs.length ca) zs) (J Jx : List Int → World → Prop)
    (hY : ∀ pre x W, J pre W → pre.length < zs.length → YieldAt Fence.wide (n - 1) Tryz.prog l #[.int .i64 x] W fun e W' =>
      (e = .returned (.bool true) ∧ J (pre ++ [x]) W' ∧ Below w0.heap.size W W') ∨ (e = .returned (.bool false) ∧ Jx (pre ++ [x]) W'))
    (W : World) (hW : Mem w0 W) (h0 : J [] W) :
    CallsIn Fence.wide n Tryz.prog 82 #[.func (.yield l) #[] #[], .pointer (some ⟨Bl, 0, none⟩), .pointer (some ⟨Bp, 0, none⟩)] W fun e W' => (∃ v, e = .returned v) ∧
      ((∃ ys, ys = which zs p ∧ J ys W') ∨ (∃ pre, True ∧ Jx pre W')) := by
  have hBl := World.block_lt_of_cell? w0 _ hl
  have hBp := World.block_lt_of_cell? w0 _ hp
  have hl0 := (Below.cell hW (p := ⟨Bl, 0, none⟩) hBl).trans hl
  have hzl := hz.1
  unfold maxLen at hzl
  refine callsIn_of_wp Tryz.func82 rfl trivial ?_ rfl
  simp only [Tryz.ntmps82, List.size_toArray, List.length_cons, List.length_nil, Nat.reduceAdd, Nat.reduceSub, Array.replicate_succ, Array.replicate_zero, List.push_toArray, List.append_toArray, List.nil_append, List.cons_append]
  gi_wp2
  gi_loopw [8] (fun i wr => ∃ k : Nat, k ≤ zs.length ∧ i = .int .i64 k ∧ J (whichN zs p k) wr ∧ Mem w0 wr) (fun i _ => zs.length - (intOf i).toNat)
  case atStart => exact ⟨0, Nat.zero_le _, rfl, h0, hW⟩
  case round =>
    clear hl0
    obtain ⟨k, hk, rfl, hJk, hmr⟩ := hrel
    by_cases hlt : k < zs.length
    · have hlt' : (k : Int) < (zs.length : Int) := by omega
      have hk0 : (0 : Int) ≤ (k : Int) := by omega
      have hp1 := (Below.cell hmr (p := ⟨Bp, 0, none⟩) hBp).trans hp
      obtain ⟨ab, ao, rfl, hc⟩ := (hz.mem hmr).at (by omega)
      have d0 := hc k hlt
      have HYes := hide (fun (h1 : 0 ≤ p) (h2 : zs.getD k 0 = p) => whichN_yes (l := zs) h1 h2)
      have HNo := hide (fun h => whichN_no (l := zs) (p := p) (k := k) h)
      have hln := whichN_len zs p k
      clear hc
      generalize zs.getD k 0 = x at *
      by_cases h1 : 0 ≤ p
      · by_cases h2 : x = p
        · subst h2
          have HE := hide (HYes.out h1 rfl)
          obtain ⟨fn, tmps, assign, body, hy, hR⟩ := hY (whichN zs x k) k wr hJk (by omega)
          gi_wp2
          refine hR.mono ?_
          rintro e W3 (⟨rfl, hJ3, hk3⟩ | ⟨rfl, hJx3⟩)
          · have hm3 : Mem w0 W3 := Below.trans hmr (Below.mono hk3 (Nat.le_refl _))
            rw [← HE.out] at hJ3
            gi_wp2
            go_roundw
            case rel => exact ⟨k + 1, by omega, by go_num, hJ3, hm3⟩
            case measure => simp [intOf]; omega
          · gi_wp2
            refine bodyPost_ret (results_none rfl _ _ _) rfl ?_
            exact ⟨⟨_, rfl⟩, .inr ⟨_, trivial, hJx3⟩⟩
        · have HE := hide (HNo.out (fun h => h2 h.2))
          have h2' : ¬ (p = x) := fun e => h2 e.symm
          rw [← HE.out] at hJk
          gi_wp2
          refine ⟨fun _ h => (by cases h), ?_⟩
          gi_wp2
          go_roundw
          case rel => exact ⟨k + 1, by omega, by go_num, hJk, hmr⟩
          case measure => simp [intOf]; omega
      · have HE := hide (HNo.out (fun h => h1 h.1))
        have h1' : p ≤ -1 := by omega
        rw [← HE.out] at hJk
        gi_wp2
        refine ⟨fun _ h => (by cases h), ?_⟩
        gi_wp2
        go_roundw
        case rel => exact ⟨k + 1, by omega, by go_num, hJk, hmr⟩
        case measure => simp [intOf]; omega
    · have hke : k = zs.length := by omega
      subst hke
      have hlt' : ¬ ((zs.length : Int) < (zs.length : Int)) := by omega
      gi_wp2
      go_end0
      exact ⟨⟨_, rfl⟩, .inl hJk⟩
theorem sectors_stops (n Bl Bp : Nat) (hn : 1 ≤ n) (oa : Option Addr) (ca : Nat) (zs : List Int) (p : Int) (w0 w : World) (hl : w0.cell? ⟨Bl, 0, none⟩ = some (.slice oa zs.length ca)) (hp : w0.cell? ⟨Bp, 0, none⟩ = some (.int .i64 p)) (hz : Ints .i64 w0 (.slice oa zs.length ca) zs) (hw : Mem w0 w) :
    SeqStopsK Fence.wide n Tryz.prog 82 #[.pointer (some ⟨Bl, 0, none⟩), .pointer (some ⟨Bp, 0, none⟩)] (fun x : Int => #[Value.int .i64 x]) (Below w0.heap.size) (fun ys => ys = which zs p) (fun _ => True) zs.length w := fun l J Jx W hW _ _ hY h0 =>
  sectors1 n l Bl Bp hn oa ca zs p w0 hl hp hz J Jx hY W (Mem.trans hw hW) h0
theorem info_int8 : (Tryz.prog.info? 3).map (fun i => (i.zero, i.size, i.bytes)) = some (some (.int .i64 0), 1, 8) := by kernel_rfl
set_option maxRecDepth 100000 in
set_option maxHeartbeats 2000000 in
/-- slices.AppendSeq onto nothing -/
theorem codeAppendSeq (Bl Bp : Nat) (oa : Option Addr) (ca : Nat) (zs : List Int) (p : Int) (w : World) (hl : w.cell? ⟨Bl, 0, none⟩ = some (.slice oa zs.length ca)) (hp : w.cell? ⟨Bp, 0, none⟩ = some (.int .i64 p)) (hz : Ints .i64 w (.slice oa zs.length ca) zs) (hlen : zs.length ≤ 1000) :
    Calls Tryz.prog 81 #[.slice none 0 0, .func (.func 82) #[] #[.pointer (some ⟨Bl, 0, none⟩), .pointer (some ⟨Bp, 0, none⟩)]] w fun e w' => ∃ v, e = .returned v ∧ w'.ownsRow w.heap.size 3 1 v (which zs p).length (icells (which zs p)) ∧ Mem w w' := by
  obtain ⟨i0, hi, hz0, hz1, hz2⟩ := info_parts info_int8
  refine (callsIn_wide (n := 5)).1 ?_
  refine callsIn_of_wp_marks Tryz.func81 rfl trivial ?_ rfl
  simp only [Tryz.ntmps81, List.size_toArray, List.length_cons, List.length_nil, Nat.reduceAdd, Nat.reduceSub, Array.replicate_succ, Array.replicate_zero, List.push_toArray, List.append_toArray, List.nil_append, List.cons_append]
  gi_wp2
  have bO := Boxed.new w 25 (.slice none 0 0)
  have hB0 : Below w.heap.size w (w.alloc (.cells #[.slice none 0 0] 25)) := (Below.refl _ w).alloc (Nat.le_refl _) _
  refine wpIn_rangeFunc_ownG rfl (by decide) (gf := 82) (lb := #[.pointer (some ⟨Bl, 0, none⟩), .pointer (some ⟨Bp, 0, none⟩)]) rfl trivial (enters_of Tryz.func82 (by kernel_rfl) rfl)
    (sectors_stops 4 Bl Bp (by decide) oa ca zs p w _ hl hp hz hB0) belowK_t (belowK_b (by simp)) (Below.refl _ _) (fun _ => rfl)
    (fun pre W => (∃ v, Boxed W w.heap.size 25 v ∧ W.ownsRow w.heap.size 3 1 v pre.length (pre.map (Value.int .i64)) ∧ (v = .slice none 0 0 ↔ pre = [])) ∧ Below w.heap.size w W)
    (fun _ _ _ => False)
    (OwnFrom.and (Own.from (holdsRow_own w.heap.size w.heap.size 25 3 1 (fun pre => pre.length) (fun pre => pre.map (Value.int .i64)) (fun pre v => v = .slice none 0 0 ↔ pre = [])) _) (ownFrom_below (Nat.le_refl _) (by simp)))
    (fun _ _ _ _ _ hs _ _ => hs)
    ⟨⟨_, bO, World.ownsRow_nil _ _ _ _, by simp⟩, hB0⟩
    (fun x => { tmps := #[.slice none 0 0, .func (.func 82) #[] #[.pointer (some ⟨Bl, 0, none⟩), .pointer (some ⟨Bp, 0, none⟩)], .pointer (some ⟨w.heap.size, 0, none⟩), undef, .slice none 0 0, .int .i64 x, .func (.func 82) #[] #[.pointer (some ⟨Bl, 0, none⟩), .pointer (some ⟨Bp, 0, none⟩)], .int .i64 x, undef, undef, undef, undef, undef], defers := [] }) ?assign ?body ?done ?stop
  case assign =>
    intro l x W K hK
    gi_wp2
    exact hK
  case body =>
    rintro l pre x W ⟨⟨v, hv, hrow, hnil⟩, hB⟩ hlt
    have hc := hv.cell
    gi_wp2_with (gi_at_builtin; refine wpListIn_append_own _ rfl _ _ 25 rfl w.heap.size 3 i0 (.int .i64 0) 1 8 Tryz.underlying25 hi hz0 hz1 hz2 rfl (by decide) _ _ _ rfl (hrow.alloc _) ⟨W.heap.size, 0, none⟩ 1 1 [.int .i64 x] rfl rfl (cell_one_new _ _ _) (by simp [Value.oneCell']) (by unfold maxLen; omega) (by omega) (by have := hB.size; simp; omega) ?_; intro v' w1 hown' hgrow _; obtain ⟨g', cap', rfl⟩ := ownsRow_succ hown'; obtain ⟨hv1, hv2, hr2, hk2, hb2⟩ := hv.appended (by decide) hrow hB.size (Nat.le_refl _) hown' hgrow; have hc1 := hv1.cell; have hf1 := hv1.frozen)
    exact ⟨hk2.from _, hb2, ⟨_, hv2, by simpa using hr2, by simp⟩, hB.trans hb2⟩
  case done =>
    rintro D ys W hD rfl ⟨⟨v, hv, hrow, hnil⟩, hB⟩ hK
    have hc := hv.cell
    gi_wp2
    refine ⟨by simp, .inl ⟨_, _, rfl, run_takeDeferred hK, ?_⟩⟩
    exact ⟨_, results_tmp rfl _ _ _, v, rfl, ownsRow_putObj hrow _ hK rfl, hB.trans (belowK_b (w := w) (Nat.le_refl _) W D _ _ (by simp at hD; omega) hK rfl rfl)⟩
  case stop =>
    rintro D c pre W _ _ h _
    exact h.elim
set_option maxRecDepth 100000 in
set_option maxHeartbeats 1000000 in
theorem codeCollect (Bl Bp : Nat) (oa : Option Addr) (ca : Nat) (zs : List Int) (p : Int) (w : World) (hl : w.cell? ⟨Bl, 0, none⟩ = some (.slice oa zs.length ca)) (hp : w.cell? ⟨Bp, 0, none⟩ = some (.int .i64 p)) (hz : Ints .i64 w (.slice oa zs.length ca) zs) (hlen : zs.length ≤ 1000) :
    Calls Tryz.prog 62 #[.func (.func 82) #[] #[.pointer (some ⟨Bl, 0, none⟩), .pointer (some ⟨Bp, 0, none⟩)]] w fun e w' => ∃ v, e = .returned v ∧ w'.ownsRow w.heap.size 3 1 v (which zs p).length (icells (which zs p)) ∧ Mem w w' := by
  go_enter Tryz.func62, Tryz.ntmps62
  go_wp2_with fail
  refine (codeAppendSeq Bl Bp oa ca zs p w hl hp hz hlen).mono ?_
  rintro e w1 ⟨v, rfl, h1, m1⟩
  go_wp2_with fail
  go_ret
  exact ⟨v, rfl, h1, m1⟩
end Go.Proofs.YtedopplldpcinaaGreat.Live
/-
  Layer 8, the program: Owners, Says, Live, Count.
-/
namespace Go.Proofs.YtedopplldpcinaaGreat.Live
open Go.RowKit Go.Maps Go.Proofs.YtedopplldpcinaaGreat.Replay Go.Proofs.YtedopplldpcinaaGreat.Scan

theorem Mem8.size {a b : World} (h : Mem a b) : a.heap.size ≤ b.heap.size := Below.size h
set_option maxHeartbeats 1000000 in
set_option maxRecDepth 100000 in
theorem codeSectors (oa : Option Addr) (n ca : Nat) (p : Int) (w : World) : Calls Tryz.prog 63 #[.slice oa n ca, .int .i64 p] w fun e w' => e = .returned (.func (.func 82) #[] #[.pointer (some ⟨w.heap.size, 0, none⟩), .pointer (some ⟨w.heap.size + 1, 0, none⟩)]) ∧ w' = (w.alloc (.cells #[.slice oa n ca] 25)).alloc (.cells #[.int .i64 p] 3) := by
  go_enter Tryz.func63, Tryz.ntmps63
  go_wp2_with fail
  go_ret
  exact ⟨rfl, rfl⟩

set_option maxHeartbeats 1000000 in
set_option maxRecDepth 100000 in
theorem codeOwners (t : TableT) (om ob : Option Addr) (cm cb : Nat) (p : Int) (w : World) (h1 : Ints .i64 w (.slice om t.1.length cm) t.1) (hl : t.1.length ≤ 1000) :
    Calls Tryz.prog 36 #[.agg #[.slice om t.1.length cm, .slice ob t.2.length cb], .int .i64 p] w fun e w' => (∃ v, e = .returned v ∧ IntsIn (fun x => w.heap.size ≤ x) w' v (which t.1 p)) ∧ Mem w w' := by
  have hY := Blk.new w #[.slice om t.1.length cm, .slice ob t.2.length cb] 27
  have ma : Mem w (w.alloc (.cells #[.slice om t.1.length cm, .slice ob t.2.length cb] 27)) := (Mem.refl w).alloc _
  replace h1 := h1.mem ma
  go_enter Tryz.func36, Tryz.ntmps36
  go_wp2_with fail
  generalize hW : w.alloc (.cells #[.slice om t.1.length cm, .slice ob t.2.length cb] 27) = W at *
  clear hW
  refine (codeSectors om t.1.length cm p W).mono ?_
  rintro e w1 ⟨rfl, rfl⟩
  have ha : Mem W ((W.alloc (.cells #[.slice om t.1.length cm] 25)).alloc (.cells #[.int .i64 p] 3)) := ((Mem.refl W).alloc _).alloc _
  have b1 := ((Blk.new W #[.slice om t.1.length cm] 25).alloc (.cells #[.int .i64 p] 3)).cell (j := 0) rfl
  have b2 := (Blk.new (W.alloc (.cells #[.slice om t.1.length cm] 25)) #[.int .i64 p] 3).cell (j := 0) rfl
  rw [World.size_alloc] at b2
  replace h1 := h1.mem ha
  have HX := hide b1
  have HZ := hide b2
  have hm := ma.trans ha
  have hs := Mem8.size hm
  clear b1 b2 ha
  go_wp2_with fail
  refine (codeCollect _ _ om cm t.1 p _ HX.out HZ.out h1 hl).mono ?_
  rintro e w1 ⟨v, rfl, h2, m2⟩
  go_wp2_with fail
  go_ret
  exact ⟨⟨v, rfl, (IntsIn.of_owns h2).mono fun g hg _ => Nat.le_trans hs hg⟩, hm.trans m2⟩

set_option maxHeartbeats 1000000 in
set_option maxRecDepth 100000 in
theorem codeSays (t : TableT) (om ob : Option Addr) (cm cb : Nat) (p : Int) (w : World) (h1 : Ints .i64 w (.slice ob t.2.length cb) t.2) (hl : t.2.length ≤ 1000) :
    Calls Tryz.prog 39 #[.agg #[.slice om t.1.length cm, .slice ob t.2.length cb], .int .i64 p] w fun e w' => (∃ v, e = .returned v ∧ IntsIn (fun x => w.heap.size ≤ x) w' v (which t.2 p)) ∧ Mem w w' := by
  have hY := Blk.new w #[.slice om t.1.length cm, .slice ob t.2.length cb] 27
  have ma : Mem w (w.alloc (.cells #[.slice om t.1.length cm, .slice ob t.2.length cb] 27)) := (Mem.refl w).alloc _
  replace h1 := h1.mem ma
  go_enter Tryz.func39, Tryz.ntmps39
  go_wp2_with fail
  generalize hW : w.alloc (.cells #[.slice om t.1.length cm, .slice ob t.2.length cb] 27) = W at *
  clear hW
  refine (codeSectors ob t.2.length cb p W).mono ?_
  rintro e w1 ⟨rfl, rfl⟩
  have ha : Mem W ((W.alloc (.cells #[.slice ob t.2.length cb] 25)).alloc (.cells #[.int .i64 p] 3)) := ((Mem.refl W).alloc _).alloc _
  have b1 := ((Blk.new W #[.slice ob t.2.length cb] 25).alloc (.cells #[.int .i64 p] 3)).cell (j := 0) rfl
  have b2 := (Blk.new (W.alloc (.cells #[.slice ob t.2.length cb] 25)) #[.int .i64 p] 3).cell (j := 0) rfl
  rw [World.size_alloc] at b2
  replace h1 := h1.mem ha
  have HX := hide b1
  have HZ := hide b2
  have hm := ma.trans ha
  have hs := Mem8.size hm
  clear b1 b2 ha
  go_wp2_with fail
  refine (codeCollect _ _ ob cb t.2 p _ HX.out HZ.out h1 hl).mono ?_
  rintro e w1 ⟨v, rfl, h2, m2⟩
  go_wp2_with fail
  go_ret
  exact ⟨⟨v, rfl, (IntsIn.of_owns h2).mono fun g hg _ => Nat.le_trans hs hg⟩, hm.trans m2⟩

/-- the keys of a list that stand in the map -/
def keysOf (l : List Int) (k : Nat) : List Lit := ((l.take k).filter fun z => decide (0 ≤ z)).map (Lit.int .i64)
theorem keysOf_yes {l : List Int} {k : Nat} (h : k < l.length) (h0 : 0 ≤ l.getD k 0) : keysOf l (k + 1) = keysOf l k ++ [.int .i64 (l.getD k 0)] := by
  have e : l[k] = l.getD k 0 := by simp [h]
  unfold keysOf
  rw [List.take_succ_eq_append_getElem h, List.filter_append, List.map_append, e]
  rw [List.filter_cons_of_pos (by simpa using h0)]
  rfl
theorem keysOf_no {l : List Int} {k : Nat} (h : k < l.length) (h0 : l.getD k 0 < 0) : keysOf l (k + 1) = keysOf l k := by
  have e : l[k] = l.getD k 0 := by simp [h]
  unfold keysOf
  rw [List.take_succ_eq_append_getElem h, List.filter_append, List.map_append, e]
  rw [List.filter_cons_of_neg (by simpa using h0)]
  simp
theorem keysOf_key {l : List Int} {k : Nat} : ∀ x ∈ keysOf l k, WideAt.IsKeyLit x := by
  intro x hx
  unfold keysOf at hx
  obtain ⟨_, _, rfl⟩ := List.mem_map.1 hx
  trivial
def accOf (t : TableT) : Nat → List Lit
  | 0 => []
  | 1 => keysOf t.1 t.1.length
  | _ => keysOf t.1 t.1.length ++ keysOf t.2 t.2.length
def listOf (t : TableT) : Nat → List Int
  | 0 => t.1
  | _ => t.2
theorem accOf_succ (t : TableT) {j : Nat} (h : j < 2) : accOf t (j + 1) = accOf t j ++ keysOf (listOf t j) (listOf t j).length := by
  match j, h with
  | 0, _ => simp [accOf, listOf]
  | 1, _ => simp [accOf, listOf]
theorem accOf_key (t : TableT) (j : Nat) : ∀ x ∈ accOf t j, WideAt.IsKeyLit x := by
  match j with
  | 0 => intro x hx; cases hx
  | 1 => exact keysOf_key
  | (n + 2) =>
    intro x hx
    rcases List.mem_append.1 hx with h | h
    · exact keysOf_key x h
    · exact keysOf_key x h
def setT (acc : List Lit) : DataW Unit := setOf (.agg []) acc
theorem setT_snoc (acc : List Lit) (x : Lit) : setT (acc ++ [x]) = (setT acc).put x (.agg []) := setOf_snoc _ _ _
theorem keysOf_any (l : List Int) (p : Int) : ((keysOf l l.length).any fun x => x.sameKey (.int .i64 p)) = (decide (0 ≤ p) && hasL l p) := by
  rw [Bool.eq_iff_iff, List.any_eq_true, Bool.and_eq_true, decide_eq_true_eq, hasL_iff]
  unfold keysOf
  rw [List.take_length]
  constructor
  · rintro ⟨x, hx, hs⟩
    obtain ⟨z, hz, rfl⟩ := List.mem_map.1 hx
    have := WideAt.sameKey_eq hs
    injection this with _ e
    subst e
    obtain ⟨h1, h2⟩ := List.mem_filter.1 hz
    exact ⟨by simpa using h2, h1⟩
  · rintro ⟨h1, h2⟩
    exact ⟨.int .i64 p, List.mem_map.2 ⟨p, List.mem_filter.2 ⟨h2, by simpa using h1⟩, rfl⟩, WideAt.sameKey_self trivial⟩
theorem setT_has (t : TableT) (p : Int) : Maps.has (setT (accOf t 2)) (.int .i64 p) = liveT t p := by
  unfold setT
  rw [has_setOf _ _ _ (accOf_key t 2)]
  show (keysOf t.1 t.1.length ++ keysOf t.2 t.2.length).any _ = _
  rw [List.any_append, keysOf_any, keysOf_any]
  unfold liveT
  cases decide (0 ≤ p) <;> simp
theorem law_int : Keyed Tryz.prog 3 := int_keyed Tryz.underlying3
theorem zero_unit (w : World) : (zeroValue 118).run Tryz.prog w = .ok (.agg #[]) w := by kernel_rfl
end Go.Proofs.YtedopplldpcinaaGreat.Live
/-
  Layer 8, the document: Owners, Says, Live, Count.
-/
namespace Go.Proofs.YtedopplldpcinaaGreat.Live
open Go.RowKit Go.Proofs.YtedopplldpcinaaGreat.Replay Go.Proofs.YtedopplldpcinaaGreat.Scan

set_option maxHeartbeats 2000000 in
set_option maxRecDepth 100000 in
theorem refWhich (oa : Option Addr) (ca : Nat) (zs : List Int) (p : Int) (w : World) (hz : Ints .i64 w (.slice oa zs.length ca) zs) (hl : zs.length ≤ 1000) :
    Calls Tryz.prog 72 #[.slice oa zs.length ca, .int .i64 p] w fun e w' => (∃ v, e = .returned v ∧ IntsIn (fun x => w.heap.size ≤ x) w' v (which zs p) ∧ CapOk v) ∧ Mem w w' := by
  by_cases h0 : 0 ≤ p
  · go_enter Tryz.func72, Tryz.ntmps72
    go_wp2
    go_loopw [5, 6] (fun v i wr => ∃ k : Nat, k ≤ zs.length ∧ i = .int .i64 k ∧ wr.ownsRow w.heap.size 3 1 v (whichN zs p k).length (icells (whichN zs p k)) ∧ Mem w wr) (fun _ i _ => zs.length - (intOf i).toNat)
    case atStart => exact ⟨0, Nat.zero_le _, rfl, World.ownsRow_nil _ _ _ _, Mem.refl _⟩
    case round =>
      obtain ⟨k, hk, rfl, hown, hmr⟩ := hrel
      by_cases hlt : k < zs.length
      · have hlt' : (k : Int) < (zs.length : Int) := by omega
        have hk0 : (0 : Int) ≤ (k : Int) := by omega
        obtain ⟨ab, ao, rfl, hc⟩ := (hz.mem hmr).at (by omega)
        have d0 := hc k hlt
        have HYes := hide (fun (h1 : 0 ≤ p) (h2 : zs.getD k 0 = p) => whichN_yes (l := zs) h1 h2)
        have HNo := hide (fun h => whichN_no (l := zs) (p := p) (k := k) h)
        have hln := whichN_len zs p k
        clear hc
        generalize zs.getD k 0 = x at *
        by_cases h2 : x = p
        · have HE := hide (HYes.out h0 h2)
          subst h2
          have hmw := Mem8.size hmr
          go_wp2_with (at_builtin; refine pushI rfl _ _ rfl w.heap.size _ (whichN zs x k) _ rfl hown hmw k rfl (by omega) ?_; intro v2 w2 o2 b2)
          have m2 : Mem w w2 := Below.trans hmr b2
          have HL : Hid ((whichN zs x k).length + 1 = (whichN zs x (k + 1)).length) := by show _ = _; rw [HE.out]; simp
          rw [HL.out, ← HE.out] at o2
          go_roundw
          case rel => exact ⟨k + 1, by omega, by go_num, o2, m2⟩
          case measure => simp [intOf]; omega
        · have HE := hide (HNo.out (fun h => h2 h.2))
          rw [← HE.out] at hown
          go_wp2
          go_roundw
          case rel => exact ⟨k + 1, by omega, by go_num, hown, hmr⟩
          case measure => simp [intOf]; omega
      · have hke : k = zs.length := by omega
        subst hke
        have hlt' : ¬ ((zs.length : Int) < (zs.length : Int)) := by omega
        go_wp2
        go_ret
        exact ⟨⟨_, rfl, IntsIn.of_owns hown, CapOk.owns hown⟩, hmr⟩
  · have h0' : p ≤ -1 := by omega
    have HE : Hid (which zs p = []) := whichN_neg (by omega) _
    have hI : IntsIn (fun x => w.heap.size ≤ x) w (.slice none 0 0) (which zs p) := by rw [HE.out]; exact ⟨by simp, .inl ⟨rfl, none, 0, rfl⟩⟩
    by_cases hlt : 0 < zs.length
    · have hlt' : (0 : Int) < (zs.length : Int) := by omega
      go_enter Tryz.func72, Tryz.ntmps72
      go_wp2
      refine wp_loop_rounds 1 ?_
      rw [rounds_succ]
      go_wp2
      go_ret
      exact ⟨⟨_, rfl, hI, CapOk.nil _ _⟩, Mem.refl _⟩
    · have hlt' : (zs.length : Int) ≤ 0 := by omega
      go_enter Tryz.func72, Tryz.ntmps72
      go_wp2
      refine wp_loop_rounds 1 ?_
      rw [rounds_succ]
      go_wp2
      go_ret
      exact ⟨⟨_, rfl, hI, CapOk.nil _ _⟩, Mem.refl _⟩

set_option maxHeartbeats 1000000 in
set_option maxRecDepth 100000 in
theorem refOwners (t : TableT) (om ob : Option Addr) (cm cb : Nat) (p : Int) (w : World) (h1 : Ints .i64 w (.slice om t.1.length cm) t.1) (hl : t.1.length ≤ 1000) :
    Calls Tryz.prog 49 #[.agg #[.slice om t.1.length cm, .slice ob t.2.length cb], .int .i64 p] w fun e w' => (∃ v, e = .returned v ∧ IntsIn (fun x => w.heap.size ≤ x) w' v (which t.1 p) ∧ CapOk v) ∧ Mem w w' := by
  have hY := Blk.new w #[.slice om t.1.length cm, .slice ob t.2.length cb] 27
  have ma : Mem w (w.alloc (.cells #[.slice om t.1.length cm, .slice ob t.2.length cb] 27)) := (Mem.refl w).alloc _
  have hs := Mem8.size ma
  replace h1 := h1.mem ma
  go_enter Tryz.func49, Tryz.ntmps49
  go_wp2_with fail
  generalize hW : w.alloc (.cells #[.slice om t.1.length cm, .slice ob t.2.length cb] 27) = W at *
  clear hW
  refine (refWhich om cm t.1 p W h1 hl).mono ?_
  rintro e w1 ⟨⟨v, rfl, h2, hcv⟩, m2⟩
  go_wp2_with fail
  go_ret
  exact ⟨⟨v, rfl, h2.mono fun g hg _ => Nat.le_trans hs hg, hcv⟩, ma.trans m2⟩

set_option maxHeartbeats 1000000 in
set_option maxRecDepth 100000 in
theorem refSays (t : TableT) (om ob : Option Addr) (cm cb : Nat) (p : Int) (w : World) (h1 : Ints .i64 w (.slice ob t.2.length cb) t.2) (hl : t.2.length ≤ 1000) :
    Calls Tryz.prog 51 #[.agg #[.slice om t.1.length cm, .slice ob t.2.length cb], .int .i64 p] w fun e w' => (∃ v, e = .returned v ∧ IntsIn (fun x => w.heap.size ≤ x) w' v (which t.2 p) ∧ CapOk v) ∧ Mem w w' := by
  have hY := Blk.new w #[.slice om t.1.length cm, .slice ob t.2.length cb] 27
  have ma : Mem w (w.alloc (.cells #[.slice om t.1.length cm, .slice ob t.2.length cb] 27)) := (Mem.refl w).alloc _
  have hs := Mem8.size ma
  replace h1 := h1.mem ma
  go_enter Tryz.func51, Tryz.ntmps51
  go_wp2_with fail
  generalize hW : w.alloc (.cells #[.slice om t.1.length cm, .slice ob t.2.length cb] 27) = W at *
  clear hW
  refine (refWhich ob cb t.2 p W h1 hl).mono ?_
  rintro e w1 ⟨⟨v, rfl, h2, hcv⟩, m2⟩
  go_wp2_with fail
  go_ret
  exact ⟨⟨v, rfl, h2.mono fun g hg _ => Nat.le_trans hs hg, hcv⟩, ma.trans m2⟩

end Go.Proofs.YtedopplldpcinaaGreat.Live
