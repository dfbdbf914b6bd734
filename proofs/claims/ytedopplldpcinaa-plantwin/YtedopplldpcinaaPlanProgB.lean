/-
  PlanChunk, RoundRegion, PlanMarks, PlanMovesP: in one text (merge.json).
-/
import Derived.Sort.BigQuietIn
import Derived.RangeFuncNested
import Derived.RangeFuncLeaves
import Derived.Shelf.Abstract
import Derived.WalkKit
import Derived.OwnWalkIn
import Derived.TacticsInMore
import Derived.LoopNIn
import Derived.LoopIn
import Derived.Sort.QuietIn
import Derived.Test.YtedopplldpcinaaIndexWay
import Derived.Test.YtedopplldpcinaaPlanProgA
import Derived.Deep.RegionHeld3
import Derived.RangeFuncCalls
import Derived.Test.YtedopplldpcinaaPlanMovesAll
import Derived.Sort.LoopGhostIn
/-
  Layer 12, the program: the parts of a list, told one by one.
-/
namespace Go.Proofs.Ytedopplldpcinaa.Plan
open Go.RowKit Go.Shelf Go.Proofs.Ytedopplldpcinaa.Nand Go.Proofs.Ytedopplldpcinaa.Scan Go.Proofs.Ytedopplldpcinaa.Live Go.Proofs.Ytedopplldpcinaa.Replay Go.Proofs.Ytedopplldpcinaa.Index
attribute [local go_sem] Oper.semAt_some

/-- the address of part number k -/
def addC (oa : Option Addr) (k : Nat) : Option Addr := oa.map fun a => ⟨a.block, a.off + 8 * k, none⟩
def lenC (n k : Nat) : Nat := min 8 (n - 8 * k)
def pnN (n : Nat) : Nat := (n + 7) / 8
def encC (oa : Option Addr) (n : Nat) (k : Nat) : Array Value := #[.slice (addC oa k) (lenC n k) (lenC n k)]
theorem pnN_lt {n k : Nat} : k < pnN n ↔ 8 * k < n := by unfold pnN; omega

set_option maxRecDepth 100000 in
set_option maxHeartbeats 4000000 in
theorem chunk1 (n t Bl Bn : Nat) (hn : 1 ≤ n) (oa : Option Addr) (len ca : Nat) (S : Nat → Prop) (hSl : S Bl) (hSn : S Bn) (hlen : len ≤ 1000) (hca : len ≤ ca) (hoa : 0 < len → ∃ ab ao, oa = some ⟨ab, ao, none⟩) (w0 : World) (hl : w0.cell? ⟨Bl, 0, none⟩ = some (.slice oa len ca)) (hq : w0.cell? ⟨Bn, 0, none⟩ = some (.int .i64 8)) (J Jx : List Nat → World → Prop)
    (hJ : ∀ s W q, J s W → J s (W.drewN q)) (hY : ∀ pre x W, J pre W → pre.length < pnN len → YieldAt Fence.wide (n - 1) Try.prog t (encC oa len x) W fun e W' =>
      (e = .returned (.bool true) ∧ J (pre ++ [x]) W' ∧ KeepsOn S W W') ∨ (e = .returned (.bool false) ∧ Jx (pre ++ [x]) W'))
    (W : World) (hW : KeepsOn S w0 W) (h0 : J [] W) :
    CallsIn Fence.wide n Try.prog 92 #[.func (.yield t) #[] #[], .pointer (some ⟨Bl, 0, none⟩), .pointer (some ⟨Bn, 0, none⟩)] W fun e W' => (∃ v, e = .returned v) ∧
      ((∃ ys, ys = List.range (pnN len) ∧ J ys W') ∨ (∃ pre, True ∧ Jx pre W')) := by
  have hl0 := hW.cell hSl hl
  have hq0 := hW.cell hSn hq
  refine callsIn_of_wp Try.func92 rfl trivial ?_ rfl
  simp only [Try.ntmps92, List.size_toArray, List.length_cons, List.length_nil, Nat.reduceAdd, Nat.reduceSub, Array.replicate_succ, Array.replicate_zero, List.push_toArray, List.append_toArray, List.nil_append, List.cons_append]
  gi_wp2
  gi_loopw [4] (fun i wr => ∃ k : Nat, k ≤ pnN len ∧ i = .int .i64 ((8 * k : Nat) : Int) ∧ J (List.range k) wr ∧ KeepsOn S w0 wr) (fun i _ => len + 8 - (intOf i).toNat)
  case atStart => exact ⟨0, Nat.zero_le _, rfl, h0, hW⟩
  case round =>
    clear hl0 hq0
    obtain ⟨k, hk, rfl, hJk, hmr⟩ := hrel
    have hl1 := hmr.cell hSl hl
    have hq1 := hmr.cell hSn hq
    by_cases hlt : k < pnN len
    · have h8 := pnN_lt.1 hlt
      have hlt' : ((8 * k : Nat) : Int) < (len : Int) := by omega
      have hk0 : (0 : Int) ≤ ((8 * k : Nat) : Int) := by omega
      obtain ⟨ab, ao, rfl⟩ := hoa (by omega)
      have hmn : min (8 : Int) ((len - 8 * k : Nat) : Int) = ((min 8 (len - 8 * k) : Nat) : Int) := by omega
      have h8' : (8 * k : Nat) ≤ len := by omega
      gi_wp2
      gi_quiet (fail)
      clear hmn
      have hme : (if ((len - 8 * k : Nat) : Int) < 8 then ((len - 8 * k : Nat) : Int) else 8) = ((lenC len k : Nat) : Int) := by unfold lenC; split <;> omega
      rw [hme]
      have hm1 : 8 * k + lenC len k ≤ len := by unfold lenC; omega
      have hm2 : lenC len k ≤ 8 := by unfold lenC; omega
      have hm3 : 8 * k + lenC len k ≤ ca := by omega
      have hm0 : ¬ (lenC len k = 0) := by unfold lenC; omega
      have hm0' : 0 < lenC len k := by omega
      have hl2 : (wr.drewN nq).cell? ⟨Bl, 0, none⟩ = some (.slice (some ⟨ab, ao, none⟩) len ca) := hl1
      have hq2 : (wr.drewN nq).cell? ⟨Bn, 0, none⟩ = some (.int .i64 8) := hq1
      have hJd := hJ _ _ nq hJk
      have hmd : KeepsOn S w0 (wr.drewN nq) := hmr.trans ⟨Nat.le_refl _, fun _ _ _ => rfl⟩
      clear hl1 hq1 hme hJk hmr
      generalize wr.drewN nq = wd at *
      obtain ⟨fn, tmps, assign, body, hy, hR⟩ := hY (List.range k) k wd hJd (by simpa using hlt)
      unfold encC addC at hy
      simp only [Option.map_some] at hy
      generalize lenC len k = m at *
      gi_wp2
      refine hR.mono ?_
      rintro e W3 (⟨rfl, hJ3, hk3⟩ | ⟨rfl, hJx3⟩)
      · have hm3' : KeepsOn S w0 W3 := hmd.trans hk3
        rw [← List.range_succ] at hJ3
        have hq3 := hm3'.cell hSn hq
        gi_wp2
        go_roundw
        case rel => exact ⟨k + 1, by omega, by go_num, hJ3, hm3'⟩
        case measure => simp [intOf]; omega
      · gi_wp2
        refine bodyPost_ret (results_none rfl _ _ _) rfl ?_
        exact ⟨⟨_, rfl⟩, .inr ⟨_, trivial, hJx3⟩⟩
    · have hke : k = pnN len := by omega
      have hlt' : ¬ ((8 * k : Nat) : Int) < (len : Int) := by have hn8 : ¬ 8 * k < len := fun h => hlt (pnN_lt.2 h); omega
      subst hke
      gi_wp2
      go_end0
      exact ⟨⟨_, rfl⟩, .inl hJk⟩
theorem chunk_stops (n Bl Bn : Nat) (hn : 1 ≤ n) (oa : Option Addr) (len ca : Nat) (S : Nat → Prop) (hSl : S Bl) (hSn : S Bn) (hlen : len ≤ 1000) (hca : len ≤ ca) (hoa : 0 < len → ∃ ab ao, oa = some ⟨ab, ao, none⟩) (w0 : World) (hl : w0.cell? ⟨Bl, 0, none⟩ = some (.slice oa len ca)) (hq : w0.cell? ⟨Bn, 0, none⟩ = some (.int .i64 8)) :
    SeqStopsK Fence.wide n Try.prog 92 #[.pointer (some ⟨Bl, 0, none⟩), .pointer (some ⟨Bn, 0, none⟩)] (encC oa len) (KeepsOn S) (fun ys => ys = List.range (pnN len)) (fun _ => True) (pnN len) w0 := fun t J Jx W hW hJ _ hY h0 =>
  chunk1 n t Bl Bn hn oa len ca S hSl hSn hlen hca hoa w0 hl hq J Jx (fun s W q h => hJ s W _ none h ⟨rfl, rfl, rfl, Nat.le_refl _, fun _ _ _ => rfl⟩ (fun r e => by cases e)) hY W (KeepsOn.mem hW) h0

set_option maxHeartbeats 1000000 in
set_option maxRecDepth 100000 in
theorem codeChunk (oa : Option Addr) (n ca : Nat) (w : World) : Calls Try.prog 65 #[.slice oa n ca, .int .i64 8] w fun e w' => e = .returned (.func (.func 92) #[] #[.pointer (some ⟨w.heap.size, 0, none⟩), .pointer (some ⟨w.heap.size + 1, 0, none⟩)]) ∧ w' = (w.alloc (.cells #[.slice oa n ca] 28)).alloc (.cells #[.int .i64 8] 3) := by
  go_enter Try.func65, Try.ntmps65
  go_wp2_with fail
  go_ret
  exact ⟨rfl, rfl⟩
set_option maxHeartbeats 1000000 in
set_option maxRecDepth 100000 in
theorem codeParts (oa : Option Addr) (n ca : Nat) (w : World) : Calls Try.prog 38 #[.slice oa n ca] w fun e w' => e = .returned (.func (.func 92) #[] #[.pointer (some ⟨w.heap.size, 0, none⟩), .pointer (some ⟨w.heap.size + 1, 0, none⟩)]) ∧ w' = (w.alloc (.cells #[.slice oa n ca] 28)).alloc (.cells #[.int .i64 8] 3) := by
  go_enter Try.func38, Try.ntmps38
  go_wp2_with fail
  refine (codeChunk oa n ca w).mono ?_
  rintro e w1 ⟨rfl, rfl⟩
  go_wp2_with fail
  go_ret
  exact ⟨rfl, rfl⟩
end Go.Proofs.Ytedopplldpcinaa.Plan
/-
  A region that draws its order, in a round of a range over a function: whatever is shown of it outside of a round holds there too.
-/
namespace Go.Proofs.Ytedopplldpcinaa.Plan
open Go.RowKit

def noDef (l : List Oper) : Bool := l.all fun o => match o.op with | .defer _ => false | _ => true
theorem noDef_spec {l : List Oper} (h : noDef l = true) {i : Nat} {o : Oper} (ho : l.toArray[i]? = some o) : ∀ c, o.op ≠ .defer c := by
  intro c hc
  have hm : o ∈ l := by
    have := List.mem_of_getElem? (l := l) (i := i) (a := o) (by simpa using ho)
    exact this
  have := List.all_eq_true.1 h o hm
  rw [hc] at this
  cases this
theorem rows_wide {n : Nat} {P : Program} {row : String} {args : Array Value} {w : World} {R : Value → World → Prop} (h : Rows P row args w R) : RowsIn Fence.wide n P row args w R :=
  fun c cs _ => let ⟨v, w', r, s⟩ := h c cs; ⟨v, w', r, stepsIn_wide.2 s⟩
theorem upon_wide {n : Nat} {P : Program} {o : Oper} {a : Act} {K K' : Act → World → Prop} {Q : Exit → Act → World → Prop} (hK : ∀ a w, K a w → K' a w) : ∀ r : Result Next, o.upon P a K Q r → o.uponIn Fence.wide n P a K' Q r
  | .ok (.value _) _, h => hK _ _ h
  | .ok .skip _, h => hK _ _ h
  | .ok (.defer _) _, h => hK _ _ h
  | .ok (.enter _ _) _, h => ⟨fun h => (by cases h), callsIn_wide.2 (Calls.mono h fun e w' q => by
      cases e with
      | returned v => exact hK _ _ q
      | panicked c => exact q
      | outgrown => exact q)⟩
  | .ok (.row _ _) _, h => ⟨fun h => (by cases h), rows_wide (Rows.mono h fun _ _ q => hK _ _ q)⟩
  | .ok (.round _ _ _ _ _) _, h => h.elim
  | .halt e _, h => by cases e <;> first | exact h | exact h.elim
theorem op_wide {n : Nat} {P : Program} {l : List Oper} {Q : Exit → Act → World → Prop} (t : Nat) (hl : ¬ LetsOut Q) (hd : noDef l = true) {i : Nat} {K K' : Act → World → Prop} (hK : ∀ a w, K a w → K' a w) {a : Act} {w : World}
    (h : wpOp P l.toArray Q i K a w) : wpOpIn (Fence.wide.inRound t) n P l.toArray Q i K' a w := by
  unfold wpOp at h
  unfold wpOpIn
  cases ho : l.toArray[i]? with
  | none => rw [ho] at h; exact hK _ _ h
  | some o =>
    rw [ho] at h
    simp only [] at h ⊢
    by_cases hw : Region.wanted o (yielded l.toArray a.tmps) = true
    · rw [if_pos hw] at h ⊢
      rcases h with h | ⟨_, h⟩
      · unfold Oper.wpIn
        rw [Oper.semAt_eq _ _ _ (noDef_spec hd ho)]
        exact ⟨fun _ _ => trivial, upon_wide (n := n) hK _ h⟩
      · exact absurd h hl
    · rw [if_neg hw] at h ⊢
      exact ⟨fun _ _ => trivial, hK _ _ h⟩
theorem any_wide {n : Nat} {P : Program} {md : Region.Mode} {l : List Oper} {Q : Exit → Act → World → Prop} (t : Nat) (hl : ¬ LetsOut Q) (hd : noDef l = true) : ∀ (fuel : Nat) (listed : Array Bool) (a : Act) (w : World),
    wpAny P md l.toArray Q fuel listed a w → wpAnyIn (Fence.wide.inRound t) n P md l.toArray Q fuel listed a w
  | 0, _, _, _, h => h
  | fuel + 1, _, _, _, h => ⟨h.1, fun i hi => op_wide t hl hd (any_wide t hl hd fuel _) (h.2 i hi)⟩
/-- the beginning, with what is held -/
theorem region_round {n t : Nat} {P : Program} {id : Nat} {l : List Oper} {Q : Exit → Act → World → Prop} {S : World → Prop} {a : Act} {w : World} (hm : P.follows .mixedOrders = true) (hd : noDef l = true) (hl : ¬ LetsOut Q) (hS : S w.drew)
    (h : S w.drew → wpAnyH P .any l.toArray Q S l.toArray.size (Array.replicate l.toArray.size false) a w.drew) : (Code.region id l.toArray true).wpIn (Fence.wide.inRound t) n P Q a w :=
  wpIn_region_any hm (any_wide t hl hd _ _ _ _ (wpAny_of_held _ _ _ _ (h hS)))
end Go.Proofs.Ytedopplldpcinaa.Plan
/-
  Layer 12, the program: marks of ranges over a function that stand in a loop; writes on their way, through the steps of an iterator; one write more, in a region.
-/
namespace Go.Proofs.Ytedopplldpcinaa.Plan
open Go.RowKit Go.Proofs.Ytedopplldpcinaa.Nand Go.Proofs.Ytedopplldpcinaa.Scan Go.Proofs.Ytedopplldpcinaa.Live Go.Proofs.Ytedopplldpcinaa.Replay Go.Proofs.Ytedopplldpcinaa.Index

def marks (ds : List Nat) : List Deferred := ds.map fun D => { target := .collected D, args := #[] }
/-- the marks that a function's ranges have left; each block as it was laid -/
def Marked (base : Nat) (df : List Deferred) (w : World) : Prop := ∃ ds : List Nat, df = marks ds ∧ ds.Nodup ∧ ∀ D ∈ ds, base ≤ D ∧ w.heap[D]? = some (.deferred (some []))
theorem Marked.nil (base : Nat) (w : World) : Marked base [] w := ⟨[], rfl, List.nodup_nil, fun D h => by cases h⟩
theorem Marked.push {base : Nat} {df : List Deferred} {w w' : World} (h : Marked base df w) (hk : ∀ (k : Nat) (o : Obj), w.heap[k]? = some o → o.isCells = false → w'.heap[k]? = some o) {D : Nat} (hb : base ≤ w.heap.size) (hD : w.heap.size ≤ D) (hw : w'.heap[D]? = some (.deferred (some []))) : Marked base ({ target := .collected D, args := #[] } :: df) w' := by
  obtain ⟨ds, rfl, hn, h⟩ := h
  refine ⟨D :: ds, rfl, ?_, ?_⟩
  · rw [List.nodup_cons]
    refine ⟨fun hm => ?_, hn⟩
    have := (Array.getElem?_eq_some_iff.1 (h D hm).2).1
    omega
  · intro D' hD'
    rcases List.mem_cons.1 hD' with rfl | hD'
    · exact ⟨by omega, hw⟩
    · exact ⟨(h D' hD').1, hk _ _ (h D' hD').2 rfl⟩
theorem Marked.later {base : Nat} {df : List Deferred} {w w' : World} (h : Marked base df w) (hk : ∀ (k : Nat) (o : Obj), w.heap[k]? = some o → o.isCells = false → w'.heap[k]? = some o) : Marked base df w' := by
  obtain ⟨ds, rfl, hn, h⟩ := h
  exact ⟨ds, rfl, hn, fun D hD => ⟨(h D hD).1, hk _ _ (h D hD).2 rfl⟩⟩
/-- the function's end: the marks are taken -/
theorem leaves_marks {F : Fence} {n : Nat} {P : Program} {fn : Func} {tmps : Array Value} {R : Ending → World → Prop} {base : Nat} {G : World → Prop} (hG : OwnFrom base (fun (_ : Unit) => G)) {df : List Deferred} {w : World} (h : Marked base df w) (hg : G w)
    (hL : ∀ w', G w' → LeavesInM F n P fn tmps R [] .returning w') : LeavesInM F n P fn tmps R df .returning w := by
  obtain ⟨ds, rfl, hn, h⟩ := h
  induction ds generalizing w with
  | nil => exact hL w hg
  | cons D ds ih =>
    have hD := h D (List.mem_cons_self ..)
    rw [List.nodup_cons] at hn
    refine ⟨by simp, .inl ⟨D, w.putObj D (.deferred none), rfl, run_takeDeferred hD.2, ih (w := w.putObj D (.deferred none)) ?_ hn.2 ?_⟩⟩
    · exact OwnFrom.putObj (s := ()) hG (.deferred none) hg hD.1 hD.2 rfl
    · intro D' hD'
      refine ⟨(h D' (List.mem_cons_of_mem _ hD')).1, ?_⟩
      have hne : D' ≠ D := fun e => hn.1 (e ▸ hD')
      rw [World.putObj_heap_other hne]
      exact (h D' (List.mem_cons_of_mem _ hD')).2

/-! ### through an iterator's steps -/
theorem cells_own {X Y : World} {row : Option Nat} {B b : Nat} (hg : X.grownBy Y row) (hr : ∀ r, row = some r → B ≤ r ∧ ∃ o : Obj, X.heap[r]? = some o ∧ o.isCells = false) {off : Nat} {v : Value} (hc : X.cell? ⟨b, off, none⟩ = some v) : ∀ i, Y.cell? ⟨b, i, none⟩ = X.cell? ⟨b, i, none⟩ := by
  have hbl := World.block_lt_of_cell? X _ hc
  have hne : some b ≠ row := by
    intro e
    obtain ⟨_, o, ho, hcell⟩ := hr b e.symm
    simp only [World.cell?, ho] at hc
    cases o <;> simp_all [Obj.isCells]
  exact fun i => World.cell?_of_block (a := ⟨b, i, none⟩) (hg.block b hbl hne)
theorem intsIn_own {X Y : World} {row : Option Nat} {B : Nat} (hg : X.grownBy Y row) (hr : ∀ r, row = some r → B ≤ r ∧ ∃ o : Obj, X.heap[r]? = some o ∧ o.isCells = false) {S : Nat → Prop} {v : Value} {zs : List Int} (h : IntsIn S X v zs) : IntsIn S Y v zs := by
  refine ⟨h.1, ?_⟩
  rcases h.2 with h | ⟨b, off, cap, hv, h0, hs, hc⟩
  · exact .inl h
  · exact .inr ⟨b, off, cap, hv, h0, hs, fun j hj => (cells_own hg hr (hc 0 h0) _).trans (hc j hj)⟩
theorem fitsWL_own {X Y : World} {row : Option Nat} {B : Nat} (hg : X.grownBy Y row) (hr : ∀ r, row = some r → B ≤ r ∧ ∃ o : Obj, X.heap[r]? = some o ∧ o.isCells = false) {S : Nat → Prop} {xs : List WRowT} {fs : List WriteT} (h : FitsWL S X xs fs) : FitsWL S Y xs fs :=
  ⟨h.1, fun i a b => let f := h.2 i a b; ⟨f.1, f.2.1, f.2.2.1, intsIn_own hg hr f.2.2.2.1, intsIn_own hg hr f.2.2.2.2⟩⟩
theorem owns_own {X Y : World} {row : Option Nat} {B : Nat} (hg : X.grownBy Y row) (hr : ∀ r, row = some r → B ≤ r ∧ ∃ o : Obj, X.heap[r]? = some o ∧ o.isCells = false) {base : Nat} {e : TypeId} {size : Nat} {v : Value} {n : Nat} {xs : List Value} (h : X.ownsRow base e size v n xs) : Y.ownsRow base e size v n xs := by
  refine ⟨h.1, ?_⟩
  rcases h.2 with h | ⟨g, cap, cur, h1, h2, hh, h⟩
  · exact .inl h
  · refine .inr ⟨g, cap, cur, h1, h2, ?_, h⟩
    rw [hg.block g (Array.getElem?_eq_some_iff.1 hh).1 (fun e => by
      obtain ⟨_, o, ho, hc⟩ := hr g e.symm
      rw [hh] at ho; cases ho; cases hc)]
    exact hh
theorem heldW_own {X Y : World} {row : Option Nat} {B : Nat} (hg : X.grownBy Y row) (hr : ∀ r, row = some r → B ≤ r ∧ ∃ o : Obj, X.heap[r]? = some o ∧ o.isCells = false) {base : Nat} {v : Value} {ws : List WriteT} (h : HeldW base X v ws) : HeldW base Y v ws := by
  obtain ⟨xs, o, f⟩ := h
  exact ⟨xs, owns_own hg hr o, fitsWL_own hg hr f⟩
theorem writesAt_own {X Y : World} {row : Option Nat} {B : Nat} (hg : X.grownBy Y row) (hr : ∀ r, row = some r → B ≤ r ∧ ∃ o : Obj, X.heap[r]? = some o ∧ o.isCells = false) {S : Nat → Prop} {v : Value} {fs : List WriteT} (h : WritesAt S X v fs) : WritesAt S Y v fs := by
  refine ⟨h.1, ?_⟩
  rcases h.2 with h | ⟨g, off, cap, xs, hv, h0, hs, hf, hc⟩
  · exact .inl h
  · have hlen := hf.1
    have c0 : X.cell? ⟨g, off + (0 * 5 + 0), none⟩ = some (.string (xs[0]'(by omega)).1) := hc _ _ (by rw [wrCells_get (by omega) (by omega)]; rfl)
    exact .inr ⟨g, off, cap, xs, hv, h0, hs, fitsWL_own hg hr hf, fun j u hj => (cells_own hg hr c0 _).trans (hc j u hj)⟩

/-! ### the row of writes, and the variable that holds it -/
/-- what is kept while writes come: all but the variable and the row -/
def Keeps (Bw : Nat) (v : Value) : World → World → Prop := KeepsOn fun k => k ≠ Bw ∧ some k ≠ v.ownBlock
/-- the row is where it was, or in a new block -/
def NewRow (n : Nat) (v v' : Value) : Prop := v'.ownBlock = v.ownBlock ∨ ∃ g, v'.ownBlock = some g ∧ n ≤ g
theorem NewRow.refl (n : Nat) (v : Value) : NewRow n v v := .inl rfl
theorem NewRow.ne {n : Nat} {v v' : Value} (h : NewRow n v v') {k : Nat} (hk : k < n) (hne : some k ≠ v.ownBlock) : some k ≠ v'.ownBlock := by
  rcases h with e | ⟨g, e, hg⟩
  · rw [e]; exact hne
  · rw [e]; intro e2; injection e2 with e2; omega
theorem NewRow.trans {n m : Nat} {v v' v2 : Value} (h : NewRow n v v') (h' : NewRow m v' v2) (hm : n ≤ m) : NewRow n v v2 := by
  rcases h' with e | ⟨g, e, hg⟩
  · rcases h with e2 | ⟨g2, e2, hg2⟩
    · exact .inl (e.trans e2)
    · exact .inr ⟨g2, e.trans e2, hg2⟩
  · exact .inr ⟨g, e, by omega⟩
theorem Keeps.trans {Bw : Nat} {v v' : Value} {X Y Z : World} (h : Keeps Bw v X Y) (h' : Keeps Bw v' Y Z) (hn : NewRow X.heap.size v v') : Keeps Bw v X Z :=
  ⟨Nat.le_trans h.size h'.size, fun k hk hx => (h'.same k ⟨hk.1, hn.ne hx hk.2⟩ (Nat.lt_of_lt_of_le hx h.size)).trans (h.same k hk hx)⟩
theorem Keeps.refl (Bw : Nat) (v : Value) (X : World) : Keeps Bw v X X := KeepsOn.refl _ _
theorem Keeps.mem {Bw : Nat} {v : Value} {X Y : World} (m : Mem X Y) : Keeps Bw v X Y := KeepsOn.mem m
theorem held_cells {base : Nat} {w : World} {v : Value} {ws : List WriteT} (h : HeldW base w v ws) {g : Nat} (hg : v.ownBlock = some g) : base ≤ g ∧ ∃ cs fr, w.heap[g]? = some (.cells cs 49 fr) := by
  obtain ⟨xs, o, -⟩ := h
  rcases o.2 with ⟨rfl, _⟩ | ⟨g', cap, cur, rfl, h2, hh, -⟩
  · cases hg
  · injection hg with e
    subst e
    exact ⟨h2, _, _, hh⟩
/-- what is no cells lies as it lay -/
theorem Keeps.others {Bw base : Nat} {v : Value} {ws : List WriteT} {X Y : World} {t : TypeId} {cs : Array Value} (h : Keeps Bw v X Y) (hb : Blk X Bw t cs) (hh : HeldW base X v ws) : ∀ (k : Nat) (o : Obj), X.heap[k]? = some o → o.isCells = false → Y.heap[k]? = some o := by
  intro k o hk ho
  refine (h.same k ⟨fun e => ?_, fun e => ?_⟩ (Array.getElem?_eq_some_iff.1 hk).1).trans hk
  · subst e
    rw [show X.heap[k]? = _ from hb] at hk; cases hk; cases ho
  · obtain ⟨_, cs, fr, hh⟩ := held_cells hh e.symm
    rw [hh] at hk; cases hk; cases ho
theorem Keeps.from {Bw base B : Nat} {v : Value} {ws : List WriteT} {X Y : World} {t : TypeId} {cs : Array Value} (h : Keeps Bw v X Y) (hb : Blk X Bw t cs) (hh : HeldW base X v ws) : KeepsFrom B X Y := ⟨h.size, fun k o _ hk ho => h.others hb hh k o hk ho⟩
theorem Keeps.own {Bw : Nat} {v : Value} {u X Y : World} {row : Option Nat} (h : Keeps Bw v u X) (hg : X.grownBy Y row) (hr : ∀ r, row = some r → u.heap.size ≤ r ∧ ∃ o : Obj, X.heap[r]? = some o ∧ o.isCells = false) : Keeps Bw v u Y :=
  ⟨Nat.le_trans h.size hg.size, fun k hk hx => (hg.block k (Nat.lt_of_lt_of_le hx h.size) (fun e => by have := (hr k e.symm).1; omega)).trans (h.same k hk hx)⟩
theorem Keeps.cell {Bw : Nat} {v : Value} {X Y : World} (h : Keeps Bw v X Y) {g : Nat} (h1 : g ≠ Bw) (h2 : some g ≠ v.ownBlock) {off : Nat} {u : Value} (hc : X.cell? ⟨g, off, none⟩ = some u) : Y.cell? ⟨g, off, none⟩ = some u := KeepsOn.cell h (p := ⟨g, off, none⟩) ⟨h1, h2⟩ hc
theorem Keeps.ints {Bw : Nat} {v : Value} {X Y : World} (h : Keeps Bw v X Y) {S S' : Nat → Prop} {x : Value} {zs : List Int} (hz : IntsIn S X x zs) (hS : ∀ g, S g → g < X.heap.size → S' g ∧ g ≠ Bw ∧ some g ≠ v.ownBlock) : IntsIn S' Y x zs :=
  hz.kept fun g hg hl => ⟨(hS g hg hl).1, fun off => World.cell?_of_block (a := ⟨g, off, none⟩) (h.same g (hS g hg hl).2 hl)⟩
theorem Keeps.blk {Bw : Nat} {v : Value} {X Y : World} (h : Keeps Bw v X Y) {g : Nat} {t : TypeId} {cs : Array Value} (hb : Blk X g t cs) (h1 : g ≠ Bw) (h2 : some g ≠ v.ownBlock) : Blk Y g t cs := (h.same g ⟨h1, h2⟩ hb.lt).trans hb

/-- one more onto a row of writes, as a step of a region; what is written lies in a new block -/
theorem step_pushWrite {ops : Array Oper} {o : Oper} {a : Act} {K : Act → World → Prop} {Q : Exit → Act → World → Prop} {E : Prop} {w : World} (hgd : o.guard = none) (s x : Operand)
    (ho : o.op = .call { callee := .builtin .append, args := #[s, x], argTypes := #[43, 43] })
    (base : Nat) (v : Value) (xs : List WRowT) (n : Nat) (hs : a.eval s = v) (hown : w.ownsRow base 49 5 v n (wrCells xs)) (hbase : base ≤ w.heap.size)
    (z : WRowT) (B : Nat) (hB : B = w.heap.size) (hx : a.eval x = .slice (some ⟨B, 0, none⟩) 1 1) (hlen : n ≤ 1000000)
    (h : ∀ v' w', w'.ownsRow base 49 5 v' (n + 1) (wrCells (xs ++ [z])) → Below base w w' → (∀ g, g < w.heap.size → some g ≠ v.ownBlock → w'.heap[g]? = w.heap[g]?) → (v'.ownBlock = v.ownBlock ∨ ∃ g, v'.ownBlock = some g ∧ w.heap.size ≤ g) → w.heap.size ≤ w'.heap.size → K (a.put o.dst v') w') :
    if Region.wanted o (yielded ops a.tmps) = true then Oper.wp Try.prog o a (w.alloc (.cells #[.string z.1, .int .i64 z.2.1, .int .i64 z.2.2.1, .slice z.2.2.2.1.1 z.2.2.2.1.2.1 z.2.2.2.1.2.2, .slice z.2.2.2.2.1 z.2.2.2.2.2.1 z.2.2.2.2.2.2] 49)) K Q else E := by
  obtain ⟨i0, hi, hz0, hz1, hz2⟩ := info_parts info_write5
  have hw : Region.wanted o (yielded ops a.tmps) = true := by simp [Region.wanted, hgd]
  rw [if_pos hw]
  subst hB
  have c1 : ∀ j u, (encW z)[j]? = some u → (w.alloc (.cells #[.string z.1, .int .i64 z.2.1, .int .i64 z.2.2.1, .slice z.2.2.2.1.1 z.2.2.2.1.2.1 z.2.2.2.1.2.2, .slice z.2.2.2.2.1 z.2.2.2.2.2.1 z.2.2.2.2.2.2] 49)).cell? ((⟨w.heap.size, 0, none⟩ : Addr).add j) = some u := by
    intro j u hj
    rw [add_none]
    refine (World.cell?_alloc_mark w _ _ _ _).trans ?_
    simpa [encW] using hj
  have c2 : ∀ u ∈ encW z, u.oneCell' = true := by intro u hu; simp [encW] at hu; rcases hu with rfl | rfl | rfl | rfl | rfl <;> rfl
  have c5 : base ≤ (w.alloc (.cells #[.string z.1, .int .i64 z.2.1, .int .i64 z.2.2.1, .slice z.2.2.2.1.1 z.2.2.2.1.2.1 z.2.2.2.1.2.2, .slice z.2.2.2.2.1 z.2.2.2.2.2.1 z.2.2.2.2.2.2] 49)).heap.size := by simp; omega
  obtain ⟨v', w', hr, h1, h2, -, h4⟩ := run_append_own_at (P := Try.prog) (w.alloc (.cells #[.string z.1, .int .i64 z.2.1, .int .i64 z.2.2.1, .slice z.2.2.2.1.1 z.2.2.2.1.2.1 z.2.2.2.1.2.2, .slice z.2.2.2.2.1 z.2.2.2.2.2.1 z.2.2.2.2.2.2] 49)) base 43 o.type 49 i0 _ 5 80 Try.underlying43 hi hz0 hz1 hz2 rfl (by decide) v n (wrCells xs) (hown.alloc _) ⟨w.heap.size, 0, none⟩ 1 1 (encW z) rfl c1 c2 (by unfold maxLen; omega) (by omega) c5
  have hsz := h2.size
  rw [World.size_alloc] at hsz
  unfold Oper.wp execOp
  simp only [ho, resolve, invoke, builtin, Sem.run_bind, Sem.run_pure, Result.andThen_ok, List.map_toArray, List.map_cons, List.map_nil, hs, hx, hr]
  refine h v' w' (by rw [wrCells_snoc]; exact h1) ?_ (fun g hg hne => (h2.block g (by rw [World.size_alloc]; omega) hne).trans (Below.heap_alloc w _ g hg)) ?_ (by omega)
  · exact ((Below.refl base w).alloc hbase _).grown h2 (by rw [World.size_alloc]; omega) (fun k hk => (hown.lt k hk).1)
  · rcases h4 with h4 | h4
    · exact .inl h4
    · exact .inr ⟨_, h4, by rw [World.size_alloc]; omega⟩

/-! ### between two rounds -/
/-- the writes so far: in the variable at block Bw -/
def AddI (Bw base : Nat) (e u : World) (v0 : Value) (ws : List WriteT) (f : Nat → WriteT) (pre : List Nat) (X : World) : Prop :=
  ∃ va, Blk X Bw 43 #[va] ∧ HeldW base X va (ws ++ pre.map f) ∧ NewRow u.heap.size v0 va ∧ Keeps Bw v0 u X ∧ Mem e X
theorem addI_own {Bw base : Nat} {e u : World} {v0 : Value} {ws : List WriteT} {f : Nat → WriteT} (he : e.heap.size ≤ u.heap.size) : OwnFrom u.heap.size (AddI Bw base e u v0 ws f) := by
  rintro pre X Y row ⟨va, h1, h2, h3, h4, h5⟩ hg hr
  exact ⟨va, blk_own (β := Unit) () X Y row h1 hg hr, heldW_own hg hr h2, h3, h4.own hg hr, ownFrom_below (β := Unit) (Nat.le_refl _) he () X Y row h5 hg hr⟩
/-- what the iterator is told of a round -/
def KeptIt (Bw : Nat) (u : World) (v0 : Value) : World → World → Prop := KeepsOn fun k => k < u.heap.size ∧ k ≠ Bw ∧ some k ≠ v0.ownBlock
theorem held_set {base : Nat} {X : World} {v : Value} {ws : List WriteT} (h : HeldW base X v ws) {p : Addr} (hp : p.block < base) (x : Value) : HeldW base (X.setCell p x) v ws := by
  obtain ⟨xs, o, f⟩ := h
  exact ⟨xs, ownsRow_setCell_below o hp x, f.kept fun g hg _ => ⟨hg, fun off => World.cell?_of_block (a := ⟨g, off, none⟩) (Below.heap_setCell X p x g (fun e => by have := hg.1; omega))⟩⟩
/-- the end of a round -/
theorem add_done {Bw base : Nat} {e u X X1 X3 : World} {v0 va vb : Value} {ws : List WriteT} {f : Nat → WriteT} {pre : List Nat} {x : Nat} {xs : List WRowT} {z : WRowT} (hBw : Bw < base) (heb : e.heap.size ≤ Bw) (h1 : Blk X Bw 43 #[va]) (hn : NewRow u.heap.size v0 va) (hk : Keeps Bw v0 u X) (hm : Mem e X)
    (m1 : Mem X X1) (ho : X1.ownsRow base 49 5 va (ws ++ pre.map f).length (wrCells xs)) (hf : FitsWL (fun y => base ≤ y ∧ some y ≠ va.ownBlock) X1 xs (ws ++ pre.map f)) (hz : FitsW (fun y => base ≤ y ∧ some y ≠ va.ownBlock) X1 z (f x))
    (g1 : X3.ownsRow base 49 5 vb ((ws ++ pre.map f).length + 1) (wrCells (xs ++ [z]))) (g2 : Below base X1 X3) (g3 : ∀ g, g < X1.heap.size → some g ≠ va.ownBlock → X3.heap[g]? = X1.heap[g]?) (g4 : vb.ownBlock = va.ownBlock ∨ ∃ g, vb.ownBlock = some g ∧ X1.heap.size ≤ g) (g5 : X1.heap.size ≤ X3.heap.size) :
    KeepsFrom u.heap.size X (X3.setCell ⟨Bw, 0, none⟩ vb) ∧ KeptIt Bw u v0 X (X3.setCell ⟨Bw, 0, none⟩ vb) ∧ AddI Bw base e u v0 ws f (pre ++ [x]) (X3.setCell ⟨Bw, 0, none⟩ vb) := by
  have hs1 := mem_le m1
  have hh := HeldW.pushed hf hz g1 g3 g4
  have hne : some Bw ≠ va.ownBlock := fun e' => by have := (ho.lt Bw e'.symm).1; omega
  have kx : Keeps Bw va X (X3.setCell ⟨Bw, 0, none⟩ vb) := ⟨by rw [size_setCell]; omega, fun k hk' hx => by
    rw [Below.heap_setCell X3 ⟨Bw, 0, none⟩ vb k hk'.1, g3 k (by omega) hk'.2]
    exact Below.block m1 k hx⟩
  have b1 : Blk X1 Bw 43 #[va] := h1.mem m1
  have b3 : Blk X3 Bw 43 #[va] := (g3 Bw b1.lt hne).trans b1
  have hmX : Mem e (X3.setCell ⟨Bw, 0, none⟩ vb) := Mem.setCell (Below.trans (Mem.trans hm m1) (Below.mono g2 (by omega))) (p := ⟨Bw, 0, none⟩) heb vb
  have hu := hk.size
  refine ⟨⟨kx.size, fun k o _ hko hc => ?_⟩, ⟨kx.size, fun k hk' hx => kx.same k ⟨hk'.2.1, hn.ne hk'.1 hk'.2.2⟩ hx⟩, vb, b3.set 0 vb, ?_, hn.trans g4 (by omega), hk.trans kx hn, hmX⟩
  · refine (kx.same k ⟨fun e' => ?_, fun e' => ?_⟩ (Array.getElem?_eq_some_iff.1 hko).1).trans hko
    · subst e'
      rw [show X.heap[k]? = _ from h1] at hko; cases hko; cases hc
    · rcases ho.2 with ⟨hv, _⟩ | ⟨g', cap, cur, hv, _, hh', -⟩
      · rw [hv] at e'; cases e'
      · rw [hv] at e'
        injection e' with e'
        subst e'
        rw [Below.block m1 k (Array.getElem?_eq_some_iff.1 hko).1, hko] at hh'
        cases hh'; cases hc
  · rw [List.map_append, ← List.append_assoc]
    exact held_set hh (by show Bw < base; exact hBw) vb
theorem chunk_ints {S : Nat → Prop} {w : World} {ow : Option Addr} {cw : Nat} {L : List Int} (h : IntsIn S w (.slice ow L.length cw) L) (x : Nat) : IntsIn S w (.slice (addC ow x) (lenC L.length x) (lenC L.length x)) (chunk L x) := by
  have hl := chunk_len L x
  by_cases h0 : 8 * x < L.length
  · rcases h.2 with ⟨rfl, _⟩ | ⟨b, o, c, hv, h1, hs, hc⟩
    · simp at h0
    · injection hv with hv1
      subst hv1
      have := IntsIn.part h (i := 8 * x) (m := lenC L.length x) (lenC L.length x) (by unfold lenC; omega) (by unfold lenC; omega)
      have e : ((L.drop (8 * x)).take (lenC L.length x)) = chunk L x := by
        unfold chunk lenC
        rw [List.take_eq_take_iff, List.length_drop]
        omega
      rw [e] at this
      exact this
  · have e : chunk L x = [] := List.length_eq_zero_iff.1 (by omega)
    have e2 : lenC L.length x = 0 := by unfold lenC; omega
    rw [e, e2]
    exact ⟨by simp, .inl ⟨rfl, _, _, rfl⟩⟩
theorem parts_range (L : List Int) : (List.range (pnN L.length)).map (chunk L) = partsL L := rfl
theorem keptIt_put {Bw : Nat} {u : World} {v0 : Value} (X : World) {l : Nat} (o' : Obj) (hl : u.heap.size ≤ l) : KeptIt Bw u v0 X (X.putObj l o') :=
  ⟨by simp [World.putObj], fun i hi _ => World.putObj_heap_other (fun e => by have := hi.1; omega)⟩
theorem parts_data (L : List Int) (f : List Int → WriteT) : (List.range (pnN L.length)).map (fun x => f (chunk L x)) = (partsL L).map f := by
  rw [← parts_range, List.map_map]
  rfl
theorem places_mem {b z : Int} (hb : 0 ≤ b ∧ b < 32) : z ∈ placesN b 16 ↔ 0 ≤ z ∧ z / 16 = b := by
  unfold placesN
  rw [if_pos hb, List.mem_map]
  constructor
  · rintro ⟨p, hp, rfl⟩
    rw [List.mem_range] at hp
    have := place_in hb hp
    omega
  · rintro ⟨h0, h1⟩
    refine ⟨(z % 16).toNat, by rw [List.mem_range]; omega, ?_⟩
    rw [place_in hb (by omega)]
    omega
theorem which_ge0 {l : List Int} {p z : Int} (h : z ∈ which l p) : 0 ≤ z := by
  obtain ⟨i, _, e, _⟩ := which_mem.1 h
  omega
theorem moved_apart {t : TableT} {b : Int} (hb : 0 ≤ b ∧ b < 32) (l : List Int) (hl : ∀ z ∈ l, 0 ≤ z) : l.filter (fun z => !decide (mapT t z ∈ placesN b 16)) = apartL t l b := by
  unfold apartL
  refine List.filter_congr fun z hz => ?_
  unfold apartB
  rw [mapT_has (hl z hz)]
  by_cases h : hasT t z ∈ placesN b 16
  · rw [decide_eq_true h, decide_eq_false]
    · rfl
    · have := (places_mem hb).1 h; omega
  · rw [decide_eq_false h, decide_eq_true]
    · rfl
    · by_cases h0 : hasT t z < 0
      · exact .inl h0
      · exact .inr fun e => h ((places_mem hb).2 ⟨by omega, e⟩)
end Go.Proofs.Ytedopplldpcinaa.Plan
/-
  Layer 12, the program: Moves.
-/
namespace Go.Proofs.Ytedopplldpcinaa.Plan
open Go.RowKit Go.Shelf Go.Proofs.Ytedopplldpcinaa.Nand Go.Proofs.Ytedopplldpcinaa.Scan Go.Proofs.Ytedopplldpcinaa.Live Go.Proofs.Ytedopplldpcinaa.Replay Go.Proofs.Ytedopplldpcinaa.Index
attribute [local go_sem] Oper.semAt_some

set_option maxHeartbeats 16000000 in
set_option maxRecDepth 100000 in
theorem codeMoves : MovesSpec 14 := by
  intro S vb bs br off ops t om ob cm cb b w hb h1 h2 hl1 hl2 hwf
  obtain ⟨oa, ca, rfl⟩ := hb.shape
  have HB := hide hb
  have H1 := hide h1
  have H2 := hide h2
  have HWF := hide hwf
  have HL := hide (fun k => movesN_len bs t b k hl1 hl2)
  have HS := hide (fun k => movesN_succ bs t b k)
  have hm0 : Mem w (((w.alloc (.cells #[.slice oa bs.length ca, .bool br, .bool off, .int .i64 ops] 26)).alloc (.cells #[.slice om t.1.length cm, .slice ob t.2.length cb] 30)).alloc (.cells #[.slice none 0 0] 43)) := (((Mem.refl w).alloc _).alloc _).alloc _
  have hC := ((Blk.new w #[.slice oa bs.length ca, .bool br, .bool off, .int .i64 ops] 26).alloc (.cells #[.slice om t.1.length cm, .slice ob t.2.length cb] 30)).alloc (.cells #[.slice none 0 0] 43)
  have hT := (Blk.new (w.alloc (.cells #[.slice oa bs.length ca, .bool br, .bool off, .int .i64 ops] 26)) #[.slice om t.1.length cm, .slice ob t.2.length cb] 30).alloc (.cells #[.slice none 0 0] 43)
  have hW := Blk.new ((w.alloc (.cells #[.slice oa bs.length ca, .bool br, .bool off, .int .i64 ops] 26)).alloc (.cells #[.slice om t.1.length cm, .slice ob t.2.length cb] 30)) #[.slice none 0 0] 43
  rw [World.size_alloc] at hT
  rw [World.size_alloc, World.size_alloc] at hW
  simp only [chipV]
  clear hb h1 h2 hwf
  refine (callsIn_wide (n := 6)).1 ?_
  have w35 : Fence.wide.fn 35 := trivial
  have w27 : Fence.wide.fn 27 := trivial
  have w28 : Fence.wide.fn 28 := trivial
  have w38 : Fence.wide.fn 38 := trivial
  have w41 : Fence.wide.fn 41 := trivial
  have w40 : Fence.wide.fn 40 := trivial
  refine callsIn_of_wp_marks Try.func14 rfl trivial ?_ rfl
  simp only [Try.ntmps14, List.size_toArray, List.length_cons, List.length_nil, Nat.reduceAdd, Nat.reduceSub, Array.replicate_succ, Array.replicate_zero, List.push_toArray, List.append_toArray, List.nil_append, List.cons_append]
  gi_wp2_with fail
  obtain ⟨w0, hw0⟩ : ∃ w0, (((w.alloc (.cells #[.slice oa bs.length ca, .bool br, .bool off, .int .i64 ops] 26)).alloc (.cells #[.slice om t.1.length cm, .slice ob t.2.length cb] 30)).alloc (.cells #[.slice none 0 0] 43)) = w0 := ⟨_, rfl⟩
  rw [hw0] at hm0 hC hT hW ⊢
  have hs0 : w0.heap.size = w.heap.size + 3 := by rw [← hw0]; simp
  clear hw0
  gi_at_call 35
  refine (callsIn_wide.2 (codePlaces b w0)).mono ?_
  rintro e w1 ⟨⟨vo, rfl, ho⟩, m1⟩
  obtain ⟨oo, co, rfl⟩ := ho.ints.shape
  have hC1 := hC.mem m1
  have hT1 := hT.mem m1
  have hW1 := hW.mem m1
  have hm1 := hm0.trans m1
  have hs1 := mem_le m1
  clear hC hT hW hm0 m1
  have hm2 : Mem w (w1.alloc (.cells #[.slice oo (placesN b 16).length co] 28)) := hm1.alloc _
  have hO := Blk.new w1 #[.slice oo (placesN b 16).length co] 28
  have ho2 := ho.mem ((Mem.refl w1).alloc (.cells #[.slice oo (placesN b 16).length co] 28))
  replace hC1 := hC1.alloc (.cells #[.slice oo (placesN b 16).length co] 28)
  replace hT1 := hT1.alloc (.cells #[.slice oo (placesN b 16).length co] 28)
  replace hW1 := hW1.alloc (.cells #[.slice oo (placesN b 16).length co] 28)
  gi_wp2_with fail
  obtain ⟨w2, hw2⟩ : ∃ w2, w1.alloc (.cells #[.slice oo (placesN b 16).length co] 28) = w2 := ⟨_, rfl⟩
  rw [hw2] at hm2 hO ho2 hC1 hT1 hW1 ⊢
  have hs2 : w2.heap.size = w1.heap.size + 1 := by rw [← hw2]; simp
  clear hw2 ho hm1
  have hno := placesN_len b 16
  refine wpIn_loop_ghost_k (fun g a' wr => ∃ (df : List Deferred) (u11 u12 u13 u14 u15 u21 u22 u23 u24 u25 u26 u27 u28 u29 u30 u31 u32 u33 u34 u35 u36 u37 u38 u39 u40 u41 u42 u43 u44 u45 u46 u47 u48 u49 u50 u51 u52 u53 u54 u55 u56 u57 : Value), (∃ (k : Nat) (va : Value), k ≤ (placesN b 16).length ∧ (placesN b 16).length - k ≤ g ∧ u21 = .int .i64 k ∧ Blk wr (w.heap.size + 1 + 1) 43 #[va] ∧ HeldW w2.heap.size wr va (movesN bs t b k) ∧ KeepsOn (fun x => x < w2.heap.size ∧ x ≠ w.heap.size + 1 + 1) w2 wr ∧ Mem w wr ∧ Marked w2.heap.size df wr) ∧ a' = { tmps := #[.agg #[.slice oa bs.length ca, .bool br, .bool off, .int .i64 ops], .agg #[.slice om t.1.length cm, .slice ob t.2.length cb], .int .i64 b, .pointer (some ⟨w.heap.size, 0, none⟩), .pointer (some ⟨w.heap.size + 1, 0, none⟩), undef, .slice none 0 0, .pointer (some ⟨w.heap.size + 1 + 1, 0, none⟩), .pointer (some ⟨w1.heap.size, 0, none⟩), .func (.func 36) #[] #[.pointer (some ⟨w1.heap.size, 0, none⟩), .pointer (some ⟨w.heap.size + 1, 0, none⟩)], undef, u11, u12, u13, u14, u15, .int .i64 b, .slice oo (placesN b 16).length co, .func (.func 36) #[] #[.pointer (some ⟨w1.heap.size, 0, none⟩), .pointer (some ⟨w.heap.size + 1, 0, none⟩)], .slice oo (placesN b 16).length co, .int .i64 (placesN b 16).length, u21, u22, u23, u24, u25, u26, u27, u28, u29, u30, u31, u32, u33, u34, u35, u36, u37, u38, u39, u40, u41, u42, u43, u44, u45, u46, u47, u48, u49, u50, u51, u52, u53, u54, u55, u56, u57], defers := df }) (placesN b 16).length ?start ?round
  case start => exact ⟨[], _, _, _, _, _, _, _, _, _, _, _, _, _, _, _, _, _, _, _, _, _, _, _, _, _, _, _, _, _, _, _, _, _, _, _, _, _, _, _, _, _, _, ⟨0, _, Nat.zero_le _, by omega, rfl, hW1, HeldW.nil _ _, KeepsOn.refl _ _, hm2, Marked.nil _ _⟩, rfl⟩
  case round =>
    intro gk _ wr hinv
    obtain ⟨df, u11, u12, u13, u14, u15, u21, u22, u23, u24, u25, u26, u27, u28, u29, u30, u31, u32, u33, u34, u35, u36, u37, u38, u39, u40, u41, u42, u43, u44, u45, u46, u47, u48, u49, u50, u51, u52, u53, u54, u55, u56, u57, ⟨k, va, hk, hg, rfl, hWr, hheld, hkp, hmr, hmk⟩, rfl⟩ := hinv
    intro J K hJ hK
    have HJ9 := hide hJ
    clear hJ
    have hle := HL.out k
    have HK9 := hide hK
    clear hK
    by_cases hlt : k < (placesN b 16).length
    · have hlt' : (k : Int) < ((placesN b 16).length : Int) := by omega
      have hk0 : (0 : Int) ≤ (k : Int) := by omega
      have hbr : 0 ≤ b ∧ b < 32 := by
        by_cases h : 0 ≤ b ∧ b < 32
        · exact h
        · have : placesN b 16 = [] := by unfold placesN; rw [if_neg h]
          rw [this] at hlt; simp at hlt
      have hk16 : k < 16 := by omega
      have HP : Hid ((placesN b 16).getD k 0 = place b k) := by
        show _ = _
        unfold placesN
        rw [if_pos hbr, List.getD_eq_getElem?_getD, List.getElem?_map, List.getElem?_range hk16]
        rfl
      have hpw := place_wf b k
      unfold wfZ at hpw
      have HM : Hid (pageMoves bs t b k = (partsL (which t.1 (place b k))).map (dataW (pageC bs (place b k)).1.2.1) ++ (partsL (apartL t (which t.2 (place b k)) b)).map (changeW t)) := rfl
      have HN := hide (HS.out k)
      have HO9 : Hid (∀ X, KeepsOn (fun x => x < w2.heap.size ∧ x ≠ w.heap.size + 1 + 1) w2 X → IntsIn (fun x => x < w2.heap.size ∧ x ≠ w.heap.size + 1 + 1) X (.slice oo (placesN b 16).length co) (placesN b 16)) := fun X h => (ho2.mono (S' := fun x => x < w2.heap.size ∧ x ≠ w.heap.size + 1 + 1) (fun x hx hl => ⟨hl, by omega⟩)).kept fun x hx hl => ⟨hx, fun off => World.cell?_of_block (a := ⟨x, off, none⟩) (h.same x hx hl)⟩
      have hOk : ∀ X, KeepsOn (fun x => x < w2.heap.size ∧ x ≠ w.heap.size + 1 + 1) w2 X → Blk X w1.heap.size 28 #[.slice oo (placesN b 16).length co] ∧ Blk X w.heap.size 26 #[.slice oa bs.length ca, .bool br, .bool off, .int .i64 ops] ∧ Blk X (w.heap.size + 1) 30 #[.slice om t.1.length cm, .slice ob t.2.length cb] := fun X h => ⟨(h.same _ ⟨by omega, by omega⟩ (by omega)).trans hO, (h.same _ ⟨by omega, by omega⟩ (by omega)).trans hC1, (h.same _ ⟨by omega, by omega⟩ (by omega)).trans hT1⟩
      have HBK := hide hOk
      clear hOk hO hC1 hT1 ho2 hW1
      obtain ⟨zb, zo, rfl, hzc⟩ := (HO9.out wr hkp).ints.at (by omega)
      have d0 := hzc k hlt
      rw [HP.out] at d0
      clear hzc HP
      obtain ⟨hBo, hBc, hBt⟩ := HBK.out wr hkp
      have c0 := hBc.cell (j := 0) rfl
      have c1 := hBc.cell (j := 1) rfl
      have c2 := hBc.cell (j := 2) rfl
      have c3 := hBc.cell (j := 3) rfl
      generalize place b k = q at *
      generalize movesN bs t b k = ws at *
      generalize pageMoves bs t b k = pm at *
      have HG := hide (fun (w' : World) (m : Mem wr w') => codePage _ _ bs br off ops q w' ((HB.out.mem hmr).mem m) hpw.2)
      generalize pageC bs q = pc at *
      obtain ⟨⟨pw, pd, pt⟩, pb⟩ := pc
      simp only [] at HM
      gi_wp2_with fail
      gi_at_call 27
      refine (callsIn_wide.2 (HG.out _ (Mem.refl wr))).mono ?_
      rintro e u1 ⟨rfl, n1⟩
      have N1 := hide n1
      clear c0 c1 c2 c3 HG n1 d0
      have mY : Mem wr (u1.alloc (.cells #[.bool pw, .string pd, .string pt] 36)) := Mem.alloc N1.out _
      have hY := Blk.new u1 #[.bool pw, .string pd, .string pt] 36
      have hBt2 := hBt.mem mY
      have y0 := hBt2.cell (j := 0) rfl
      have y1 := hBt2.cell (j := 1) rfl
      have hD1 := mem_le mY
      have hmY := hmr.trans mY
      have HO := hide (codeOwnersOwn t om ob cm cb q _ (H1.out.mem hmY).ints hl1)
      have hDp : wr.heap.size ≤ u1.heap.size := mem_le N1.out
      gi_wp2_with fail
      gi_at_call 28
      refine (callsIn_wide.2 HO.out).mono ?_
      rintro e u2 ⟨⟨vw, rfl, io9⟩, n2⟩
      have io := IntsIn.of_owns io9
      have hcp := CapOk.owns io9
      obtain ⟨ow, cw, rfl⟩ := io.ints.shape
      replace hcp := hcp _ _ _ rfl
      clear io9
      have hY2 := hY.mem n2
      replace io := io.mono (S' := fun x => wr.heap.size ≤ x) (fun g hg _ => Nat.le_trans hD1 hg)
      have hmy2 := mY.trans n2
      generalize u1.heap.size = P at *
      clear y0 y1 HO hY mY hBt2
      gi_wp2_with fail
      gi_at_call 38
      refine (callsIn_wide.2 (codeParts ow _ cw _)).mono ?_
      rintro e u3 ⟨rfl, hu3⟩
      subst hu3
      gi_wp2_with fail
      have hlq1 : (which t.1 q).length ≤ 1000 := Nat.le_trans (which_len t.1 q) hl1
      have hoa1 : 0 < (which t.1 q).length → ∃ ab ao, ow = some ⟨ab, ao, none⟩ := fun h0 => by obtain ⟨ab, ao, e, _⟩ := io.ints.at h0; exact ⟨ab, ao, e⟩
      have b11 := (Blk.new u2 #[.slice ow (which t.1 q).length cw] 28).alloc (.cells #[.int .i64 8] 3)
      have b12 := Blk.new (u2.alloc (.cells #[.slice ow (which t.1 q).length cw] 28)) #[.int .i64 8] 3
      rw [World.size_alloc] at b12
      have mz1 : Mem u2 ((u2.alloc (.cells #[.slice ow (which t.1 q).length cw] 28)).alloc (.cells #[.int .i64 8] 3)) := ((Mem.refl u2).alloc _).alloc _
      have sz1 : ((u2.alloc (.cells #[.slice ow (which t.1 q).length cw] 28)).alloc (.cells #[.int .i64 8] 3)).heap.size = u2.heap.size + 2 := by simp
      obtain ⟨v1, hv1⟩ : ∃ v1, ((u2.alloc (.cells #[.slice ow (which t.1 q).length cw] 28)).alloc (.cells #[.int .i64 8] 3)) = v1 := ⟨_, rfl⟩
      rw [hv1] at b11 b12 mz1 sz1 ⊢
      clear hv1
      have mv1 : Mem wr v1 := hmy2.trans mz1
      have smv1 := mem_le mv1
      have sq1 := mem_le hmy2
      have hvo1 : ∀ g, va.ownBlock = some g → w2.heap.size ≤ g ∧ g < wr.heap.size := fun g e => by obtain ⟨xs, o, -⟩ := hheld; exact o.lt g e
      have hwv1 := hWr.mem mv1
      have hhv1 := hheld.mem mv1
      have io1 := io.mem mz1
      have hw21 : w2.heap.size ≤ wr.heap.size := hkp.size
      have hs2v1 : w.heap.size ≤ v1.heap.size := by omega
      have hne1 : ∀ g, wr.heap.size ≤ g → g ≠ w.heap.size + 1 + 1 ∧ some g ≠ va.ownBlock := fun g hg => ⟨by omega, fun e => by have := (hvo1 g e.symm).2; omega⟩
      have h01 : AddI (w.heap.size + 1 + 1) w2.heap.size w v1 va ws (fun x => dataW pd (chunk (which t.1 q) x)) [] v1 := ⟨va, hwv1, by simpa using hhv1, NewRow.refl _ _, Keeps.refl _ _ _, hmr.trans mv1⟩
      refine wpIn_rangeFunc_ownG rfl (by decide) (gf := 92) (lb := #[.pointer (some ⟨u2.heap.size, 0, none⟩), .pointer (some ⟨u2.heap.size + 1, 0, none⟩)]) rfl trivial (enters_of Try.func92 (by kernel_rfl) rfl)
        (chunk_stops 5 u2.heap.size (u2.heap.size + 1) (by decide) ow (which t.1 q).length cw (fun k => k < v1.heap.size ∧ k ≠ w.heap.size + 1 + 1 ∧ some k ≠ va.ownBlock) ⟨by omega, hne1 _ (by omega)⟩ ⟨by omega, hne1 _ (by omega)⟩ hlq1 hcp hoa1 v1 (b11.cell (j := 0) rfl) (b12.cell (j := 0) rfl))
        (fun h k => KeepsOn.trans h k) (fun X l o o' hl _ _ _ => keptIt_put X o' hl) (Below.refl _ _) (fun _ => rfl)
        (AddI (w.heap.size + 1 + 1) w2.heap.size w v1 va ws (fun x => dataW pd (chunk (which t.1 q) x))) (fun _ _ _ => False) (addI_own hs2v1) (fun _ _ _ _ _ hs _ _ => hs) h01 ?a1 ?assign1 ?body1 ?done1 ?stop1
      case assign1 =>
        intro l x W K hK
        unfold encC
        gi_wp2
        exact hK
      case stop1 =>
        rintro D c pre X _ _ h _
        exact h.elim
      case body1 =>
        rintro tt pre x X ⟨vb, hXb, hXh, hXn, hXk, hXm⟩ hlt2
        clear HK9 HJ9 h01
        have hYX := hXk.blk (hY2.mem mz1) (hne1 P hDp).1 (hne1 P hDp).2
        have cB := hXb.cell (j := 0) rfl
        have ci := hXk.ints (S' := fun y => w2.heap.size ≤ y ∧ some y ≠ vb.ownBlock) (chunk_ints io1 x) (fun g hg hl => ⟨⟨Nat.le_trans hw21 hg, hXn.ne hl (hne1 g hg).2⟩, hne1 g hg⟩)
        have hlen : (ws ++ pre.map fun x => dataW pd (chunk (which t.1 q) x)).length ≤ 1000000 := by
          rw [List.length_append, List.length_map]
          have : pnN (which t.1 q).length ≤ (which t.1 q).length := by unfold pnN; omega
          have := hle
          omega
        have N0 := hide (Mem.drew (Mem.refl X))
        have sX := hXk.size
        have KX : Hid (∀ w', Mem X w' → w'.cell? ⟨P, 1, none⟩ = some (.string pd)) := fun w' m => (hYX.mem m).cell (j := 1) rfl
        have hPl := hYX.lt
        gi_wp2_with fail
        refine region_round (S := fun w' => w'.cell? ⟨P, 1, none⟩ = some (.string pd)) (by kernel_rfl) (by kernel_rfl) (fun ⟨_, _, h⟩ => h) (KX.out _ N0.out) (fun hHeld => ?_)
        refine takeH_at (i := 1) (d := 37) (v := ?_) rfl (by kernel_rfl) (by kernel_rfl) (by kernel_rfl) (fun _ _ _ h => h) rfl (Or.inl ⟨by rfl, ?hy⟩) (by assumption) ?_
        case hy => (intro w hSw; (try dsimp only at hSw); (go_simp <;> with_reducible rfl))
        simp only [List.setIfInBounds_toArray, List.set_cons_zero, List.set_cons_succ]
        refine takeH_at (i := 2) (d := 38) (v := ?_) rfl (by kernel_rfl) (by kernel_rfl) (by kernel_rfl) (fun _ _ _ h => h) rfl (Or.inl ⟨by rfl, ?hy⟩) (by assumption) ?_
        case hy => (intro w hSw; (try dsimp only at hSw); (go_simp <;> with_reducible rfl))
        simp only [List.setIfInBounds_toArray, List.set_cons_zero, List.set_cons_succ]
        refine takeH_at (i := 3) (d := 39) (v := ?_) rfl (by kernel_rfl) (by kernel_rfl) (by kernel_rfl) (fun _ _ _ h => h) rfl (Or.inl ⟨by rfl, ?hy⟩) (by assumption) ?_
        case hy => (intro w hSw; (try dsimp only at hSw); (go_simp <;> with_reducible rfl))
        simp only [List.setIfInBounds_toArray, List.set_cons_zero, List.set_cons_succ]
        refine wpAnyH_ready (rs := [0, 4]) (by kernel_rfl) (by simp) ?_
        refine AllReadyH.cons rfl (fun K hK => ?_) (AllReadyH.cons rfl (fun K hK => ?_) AllReadyH.nil)
        · go_simp
          refine hK.out _ _ (KX.out _ N0.out) (fun hHeld0 => ?_)
          clear hK K
          refine wpAnyH_ready (rs := [4]) (by kernel_rfl) (by simp) ?_
          refine AllReadyH.cons rfl (fun K hK => ?_) AllReadyH.nil
          · go_simp
            go_at_call 39
            refine (codeDataWrite pd _ _ _ _).mono ?_
            rintro e u7 ⟨rfl, n7⟩
            have N7 := hide (Mem.trans N0.out n7)
            have cB7 := (hXb.mem N7.out).cell (j := 0) rfl
            have cB8 := ((hXb.mem N7.out).alloc (.cells #[.string pd, .int .i64 1, .int .i64 0, .slice (addC ow x) (lenC (which t.1 q).length x) (lenC (which t.1 q).length x), .slice none 0 0] 49)).cell (j := 0) rfl
            go_wp2_with fail
            refine hK.out _ _ (KX.out _ N7.out) (fun hHeld7 => ?_)
            clear hK K
            refine wpAnyH_ready (rs := [5]) (by kernel_rfl) (by simp) ?_
            refine AllReadyH.cons rfl (fun K hK => ?_) AllReadyH.nil
            · go_simp
              refine hK.out _ _ (KX.out _ (Mem.alloc N7.out _)) (fun hHeld8 => ?_)
              clear hK K
              refine wpAnyH_ready (rs := [6]) (by kernel_rfl) (by simp) ?_
              refine AllReadyH.cons rfl (fun K hK => ?_) AllReadyH.nil
              · obtain ⟨xs, hoX, hfX⟩ := hXh.mem N7.out
                obtain ⟨nn, hnn⟩ : ∃ nn, (ws ++ List.map (fun x => dataW pd (chunk (which t.1 q) x)) pre).length = nn := ⟨_, rfl⟩
                rw [hnn] at hoX hlen
                refine step_pushWrite (by rfl) _ _ (by rfl) w2.heap.size vb xs _ (by rfl) hoX (Nat.le_trans hw21 (Nat.le_trans smv1 (Nat.le_trans sX (mem_le N7.out)))) (pd, 1, 0, (addC ow x, lenC (which t.1 q).length x, lenC (which t.1 q).length x), (none, 0, 0)) u7.heap.size rfl (by rfl) hlen ?_
                intro vc w8 g1 g2 g3 g4 g5
                obtain ⟨gc, cc, rfl⟩ := ownsRow_succ g1
                have hneB : some (w.heap.size + 1 + 1) ≠ vb.ownBlock := fun e => by have := (hoX.lt _ e.symm).1; omega
                have b8 : Blk w8 (w.heap.size + 1 + 1) 43 #[vb] := (g3 _ (hXb.mem N7.out).lt hneB).trans (hXb.mem N7.out)
                have cB9 := b8.cell (j := 0) rfl
                have fB9 := b8.frozen 0
                have hneP : some P ≠ vb.ownBlock := hXn.ne (hY2.mem mz1).lt (hne1 P hDp).2
                have hYw : Blk w8 P 36 #[.bool pw, .string pd, .string pt] := (g3 P (hYX.mem N7.out).lt hneP).trans (hYX.mem N7.out)
                have KX3 := hYw.cell (j := 1) rfl
                refine hK.out _ _ KX3 (fun hHeld9 => ?_)
                clear hK K
                simp only [Act.put, List.setIfInBounds_toArray]
                refine wpAnyH_ready (rs := [7]) (by kernel_rfl) (by simp) ?_
                refine AllReadyH.cons rfl (fun K hK => ?_) AllReadyH.nil
                · go_simp
                  refine hK.out _ _ ((hYw.other (a := ⟨w.heap.size + 1 + 1, 0, none⟩) (hne1 P hDp).1 _).cell (j := 1) rfl) (fun hHeldA => ?_)
                  clear hK K
                  refine wpAnyH_done (by kernel_rfl) ?_ _
                  subst hnn
                  have hzX : FitsW (fun y => w2.heap.size ≤ y ∧ some y ≠ vb.ownBlock) u7 ((pd, 1, 0, (addC ow x, lenC (which t.1 q).length x, lenC (which t.1 q).length x), (none, 0, 0)) : WRowT) (dataW pd (chunk (which t.1 q) x)) := ⟨rfl, rfl, rfl, ci.mem N7.out, ⟨by simp [dataW], .inl ⟨rfl, none, 0, rfl⟩⟩⟩
                  exact add_done (f := fun x => dataW pd (chunk (which t.1 q) x)) (x := x) (by omega) (by omega) hXb hXn hXk hXm N7.out hoX hfX hzX g1 g2 g3 g4 g5
        · go_simp
          go_at_call 39
          refine (codeDataWrite pd _ _ _ _).mono ?_
          rintro e u7 ⟨rfl, n7⟩
          have N7 := hide (Mem.trans N0.out n7)
          have cB7 := (hXb.mem N7.out).cell (j := 0) rfl
          have cB8 := ((hXb.mem N7.out).alloc (.cells #[.string pd, .int .i64 1, .int .i64 0, .slice (addC ow x) (lenC (which t.1 q).length x) (lenC (which t.1 q).length x), .slice none 0 0] 49)).cell (j := 0) rfl
          go_wp2_with fail
          refine hK.out _ _ (KX.out _ N7.out) (fun hHeld7 => ?_)
          clear hK K
          refine wpAnyH_ready (rs := [0, 5]) (by kernel_rfl) (by simp) ?_
          refine AllReadyH.cons rfl (fun K hK => ?_) (AllReadyH.cons rfl (fun K hK => ?_) AllReadyH.nil)
          · go_simp
            refine hK.out _ _ (KX.out _ N7.out) (fun hHeld0 => ?_)
            clear hK K
            refine wpAnyH_ready (rs := [5]) (by kernel_rfl) (by simp) ?_
            refine AllReadyH.cons rfl (fun K hK => ?_) AllReadyH.nil
            · go_simp
              refine hK.out _ _ (KX.out _ (Mem.alloc N7.out _)) (fun hHeld8 => ?_)
              clear hK K
              refine wpAnyH_ready (rs := [6]) (by kernel_rfl) (by simp) ?_
              refine AllReadyH.cons rfl (fun K hK => ?_) AllReadyH.nil
              · obtain ⟨xs, hoX, hfX⟩ := hXh.mem N7.out
                obtain ⟨nn, hnn⟩ : ∃ nn, (ws ++ List.map (fun x => dataW pd (chunk (which t.1 q) x)) pre).length = nn := ⟨_, rfl⟩
                rw [hnn] at hoX hlen
                refine step_pushWrite (by rfl) _ _ (by rfl) w2.heap.size vb xs _ (by rfl) hoX (Nat.le_trans hw21 (Nat.le_trans smv1 (Nat.le_trans sX (mem_le N7.out)))) (pd, 1, 0, (addC ow x, lenC (which t.1 q).length x, lenC (which t.1 q).length x), (none, 0, 0)) u7.heap.size rfl (by rfl) hlen ?_
                intro vc w8 g1 g2 g3 g4 g5
                obtain ⟨gc, cc, rfl⟩ := ownsRow_succ g1
                have hneB : some (w.heap.size + 1 + 1) ≠ vb.ownBlock := fun e => by have := (hoX.lt _ e.symm).1; omega
                have b8 : Blk w8 (w.heap.size + 1 + 1) 43 #[vb] := (g3 _ (hXb.mem N7.out).lt hneB).trans (hXb.mem N7.out)
                have cB9 := b8.cell (j := 0) rfl
                have fB9 := b8.frozen 0
                have hneP : some P ≠ vb.ownBlock := hXn.ne (hY2.mem mz1).lt (hne1 P hDp).2
                have hYw : Blk w8 P 36 #[.bool pw, .string pd, .string pt] := (g3 P (hYX.mem N7.out).lt hneP).trans (hYX.mem N7.out)
                have KX3 := hYw.cell (j := 1) rfl
                refine hK.out _ _ KX3 (fun hHeld9 => ?_)
                clear hK K
                simp only [Act.put, List.setIfInBounds_toArray]
                refine wpAnyH_ready (rs := [7]) (by kernel_rfl) (by simp) ?_
                refine AllReadyH.cons rfl (fun K hK => ?_) AllReadyH.nil
                · go_simp
                  refine hK.out _ _ ((hYw.other (a := ⟨w.heap.size + 1 + 1, 0, none⟩) (hne1 P hDp).1 _).cell (j := 1) rfl) (fun hHeldA => ?_)
                  clear hK K
                  refine wpAnyH_done (by kernel_rfl) ?_ _
                  subst hnn
                  have hzX : FitsW (fun y => w2.heap.size ≤ y ∧ some y ≠ vb.ownBlock) u7 ((pd, 1, 0, (addC ow x, lenC (which t.1 q).length x, lenC (which t.1 q).length x), (none, 0, 0)) : WRowT) (dataW pd (chunk (which t.1 q) x)) := ⟨rfl, rfl, rfl, ci.mem N7.out, ⟨by simp [dataW], .inl ⟨rfl, none, 0, rfl⟩⟩⟩
                  exact add_done (f := fun x => dataW pd (chunk (which t.1 q) x)) (x := x) (by omega) (by omega) hXb hXn hXk hXm N7.out hoX hfX hzX g1 g2 g3 g4 g5
          · go_simp
            refine hK.out _ _ (KX.out _ (Mem.alloc N7.out _)) (fun hHeld8 => ?_)
            clear hK K
            refine wpAnyH_ready (rs := [0]) (by kernel_rfl) (by simp) ?_
            refine AllReadyH.cons rfl (fun K hK => ?_) AllReadyH.nil
            · go_simp
              refine hK.out _ _ (KX.out _ (Mem.alloc N7.out _)) (fun hHeld0 => ?_)
              clear hK K
              refine wpAnyH_ready (rs := [6]) (by kernel_rfl) (by simp) ?_
              refine AllReadyH.cons rfl (fun K hK => ?_) AllReadyH.nil
              · obtain ⟨xs, hoX, hfX⟩ := hXh.mem N7.out
                obtain ⟨nn, hnn⟩ : ∃ nn, (ws ++ List.map (fun x => dataW pd (chunk (which t.1 q) x)) pre).length = nn := ⟨_, rfl⟩
                rw [hnn] at hoX hlen
                refine step_pushWrite (by rfl) _ _ (by rfl) w2.heap.size vb xs _ (by rfl) hoX (Nat.le_trans hw21 (Nat.le_trans smv1 (Nat.le_trans sX (mem_le N7.out)))) (pd, 1, 0, (addC ow x, lenC (which t.1 q).length x, lenC (which t.1 q).length x), (none, 0, 0)) u7.heap.size rfl (by rfl) hlen ?_
                intro vc w8 g1 g2 g3 g4 g5
                obtain ⟨gc, cc, rfl⟩ := ownsRow_succ g1
                have hneB : some (w.heap.size + 1 + 1) ≠ vb.ownBlock := fun e => by have := (hoX.lt _ e.symm).1; omega
                have b8 : Blk w8 (w.heap.size + 1 + 1) 43 #[vb] := (g3 _ (hXb.mem N7.out).lt hneB).trans (hXb.mem N7.out)
                have cB9 := b8.cell (j := 0) rfl
                have fB9 := b8.frozen 0
                have hneP : some P ≠ vb.ownBlock := hXn.ne (hY2.mem mz1).lt (hne1 P hDp).2
                have hYw : Blk w8 P 36 #[.bool pw, .string pd, .string pt] := (g3 P (hYX.mem N7.out).lt hneP).trans (hYX.mem N7.out)
                have KX3 := hYw.cell (j := 1) rfl
                refine hK.out _ _ KX3 (fun hHeld9 => ?_)
                clear hK K
                simp only [Act.put, List.setIfInBounds_toArray]
                refine wpAnyH_ready (rs := [7]) (by kernel_rfl) (by simp) ?_
                refine AllReadyH.cons rfl (fun K hK => ?_) AllReadyH.nil
                · go_simp
                  refine hK.out _ _ ((hYw.other (a := ⟨w.heap.size + 1 + 1, 0, none⟩) (hne1 P hDp).1 _).cell (j := 1) rfl) (fun hHeldA => ?_)
                  clear hK K
                  refine wpAnyH_done (by kernel_rfl) ?_ _
                  subst hnn
                  have hzX : FitsW (fun y => w2.heap.size ≤ y ∧ some y ≠ vb.ownBlock) u7 ((pd, 1, 0, (addC ow x, lenC (which t.1 q).length x, lenC (which t.1 q).length x), (none, 0, 0)) : WRowT) (dataW pd (chunk (which t.1 q) x)) := ⟨rfl, rfl, rfl, ci.mem N7.out, ⟨by simp [dataW], .inl ⟨rfl, none, 0, rfl⟩⟩⟩
                  exact add_done (f := fun x => dataW pd (chunk (which t.1 q) x)) (x := x) (by omega) (by omega) hXb hXn hXk hXm N7.out hoX hfX hzX g1 g2 g3 g4 g5
      case done1 =>
        rintro D1 ys X1 hD1 rfl ⟨vb1, hXb1, hXh1, hXn1, hXk1, hXm1⟩ hKD1
        rw [parts_data (which t.1 q) (dataW pd)] at hXh1
        have hkp1 : KeepsOn (fun x => x < w2.heap.size ∧ x ≠ w.heap.size + 1 + 1) w2 X1 := ⟨Nat.le_trans hkp.size (Nat.le_trans smv1 hXk1.size), fun k hk hx => (hXk1.same k ⟨hk.2, fun e => by have := (hvo1 k e.symm).1; have := hk.1; omega⟩ (by have := hk.1; omega)).trans ((Below.block mv1 k (by have := hk.1; omega)).trans (hkp.same k hk hx))⟩
        have hmk1 := (hmk.later fun k o h _ => (Below.block mv1 k (Array.getElem?_eq_some_iff.1 h).1).trans h).push (hXk1.others hwv1 hhv1) (Nat.le_trans hw21 smv1) hD1 hKD1
        obtain ⟨hBo1, hBc1, hBt1⟩ := HBK.out X1 hkp1
        have hws2 : (ws ++ (partsL (which t.1 q)).map (dataW pd)).length ≤ 5000 := by
          have := partsL_len _ hlq1
          rw [List.length_append, List.length_map]
          omega
        have HMS : Hid (ws ++ (partsL (which t.1 q)).map (dataW pd) ++ (partsL (apartL t (which t.2 q) b)).map (changeW t) = ws ++ pm) := by
          show _ = _
          rw [HM.out, List.append_assoc]
        have hoX1 := HO9.out X1 hkp1
        have h1X1 := IntsIn.of_ints (H1.out.mem hXm1).ints
        have HSY := hide (codeSaysOwn t om ob cm cb q X1 (H2.out.mem hXm1).ints hl2)
        have z0 := hBt1.cell (j := 0) rfl
        have z1 := hBt1.cell (j := 1) rfl
        clear hheld hWr hmk hXn1 hXk1 hhv1 hwv1 h01 io1 io mz1 b11 b12 hne1 hvo1 hoa1 hcp HM hKD1 hY2 hkp hBo hBc hBt sz1 N1
        generalize ws ++ (partsL (which t.1 q)).map (dataW pd) = ws2 at *
        gi_wp2_with fail
        gi_at_call 41
        refine (callsIn_wide.2 HSY.out).mono ?_
        rintro e u4 ⟨⟨vs, rfl, is⟩, n4⟩
        have hTell := codeMoved X1.heap.size w1.heap.size (w.heap.size + 1) (.slice (some ⟨zb, zo, none⟩) (placesN b 16).length co) (placesN b 16) t om ob cm t.2.length cb u4 (by have := hkp1.size; omega) (by have := hkp1.size; omega) (hBo1.mem n4) (hBt1.mem n4) ((hoX1.mono (S' := fun x => x < X1.heap.size) (fun x hx _ => Nat.lt_of_lt_of_le hx.1 hkp1.size)).mem n4) (h1X1.mem n4)
        have HDL := hide (codeDelete X1.heap.size vs (which t.2 q) 36 #[.pointer (some ⟨w1.heap.size, 0, none⟩), .pointer (some ⟨w.heap.size + 1, 0, none⟩)] (enters_of Try.func36 (by kernel_rfl) rfl) (fun z => decide (mapT t z ∈ placesN b 16)) u4 is (mem_le n4) hTell)
        clear HSY hTell is z0 z1
        gi_wp2_with fail
        gi_at_call 40
        refine (callsIn_wide.2 HDL.out).mono ?_
        rintro e u5 ⟨⟨vd, rfl, io, hcp⟩, n5⟩
        have m15 : Mem X1 u5 := Below.trans n4 n5
        rw [moved_apart hbr _ (fun z hz => which_ge0 hz)] at io
        obtain ⟨od, cd, rfl⟩ := io.ints.shape
        replace hcp := hcp _ _ _ rfl
        clear HDL n4 n5
        gi_wp2_with fail
        gi_at_call 38
        refine (callsIn_wide.2 (codeParts od _ cd _)).mono ?_
        rintro e u6 ⟨rfl, hu6⟩
        subst hu6
        gi_wp2_with fail
        have hlq2 : (apartL t (which t.2 q) b).length ≤ 1000 := Nat.le_trans (apartL_len t _ b) (Nat.le_trans (which_len t.2 q) hl2)
        have hoa2 : 0 < (apartL t (which t.2 q) b).length → ∃ ab ao, od = some ⟨ab, ao, none⟩ := fun h0 => by obtain ⟨ab, ao, e, _⟩ := io.ints.at h0; exact ⟨ab, ao, e⟩
        have b21 := (Blk.new u5 #[.slice od (apartL t (which t.2 q) b).length cd] 28).alloc (.cells #[.int .i64 8] 3)
        have b22 := Blk.new (u5.alloc (.cells #[.slice od (apartL t (which t.2 q) b).length cd] 28)) #[.int .i64 8] 3
        rw [World.size_alloc] at b22
        have mz2 : Mem u5 ((u5.alloc (.cells #[.slice od (apartL t (which t.2 q) b).length cd] 28)).alloc (.cells #[.int .i64 8] 3)) := ((Mem.refl u5).alloc _).alloc _
        have sz2 : ((u5.alloc (.cells #[.slice od (apartL t (which t.2 q) b).length cd] 28)).alloc (.cells #[.int .i64 8] 3)).heap.size = u5.heap.size + 2 := by simp
        obtain ⟨v2, hv2⟩ : ∃ v2, ((u5.alloc (.cells #[.slice od (apartL t (which t.2 q) b).length cd] 28)).alloc (.cells #[.int .i64 8] 3)) = v2 := ⟨_, rfl⟩
        rw [hv2] at b21 b22 mz2 sz2 ⊢
        clear hv2
        have mv2 : Mem X1 v2 := m15.trans mz2
        have smv2 := mem_le mv2
        have sq2 := mem_le m15
        have hvo2 : ∀ g, vb1.ownBlock = some g → w2.heap.size ≤ g ∧ g < X1.heap.size := fun g e => by obtain ⟨xs, o, -⟩ := hXh1; exact o.lt g e
        have hwv2 := hXb1.mem mv2
        have hhv2 := hXh1.mem mv2
        have io2 := io.mem mz2
        have hw22 : w2.heap.size ≤ X1.heap.size := hkp1.size
        have hs2v2 : w.heap.size ≤ v2.heap.size := by omega
        have hne2 : ∀ g, X1.heap.size ≤ g → g ≠ w.heap.size + 1 + 1 ∧ some g ≠ vb1.ownBlock := fun g hg => ⟨by omega, fun e => by have := (hvo2 g e.symm).2; omega⟩
        have h02 : AddI (w.heap.size + 1 + 1) w2.heap.size w v2 vb1 ws2 (fun x => changeW t (chunk (apartL t (which t.2 q) b) x)) [] v2 := ⟨vb1, hwv2, by simpa using hhv2, NewRow.refl _ _, Keeps.refl _ _ _, hXm1.trans mv2⟩
        refine wpIn_rangeFunc_ownG rfl (by decide) (gf := 92) (lb := #[.pointer (some ⟨u5.heap.size, 0, none⟩), .pointer (some ⟨u5.heap.size + 1, 0, none⟩)]) rfl trivial (enters_of Try.func92 (by kernel_rfl) rfl)
          (chunk_stops 5 u5.heap.size (u5.heap.size + 1) (by decide) od (apartL t (which t.2 q) b).length cd (fun k => k < v2.heap.size ∧ k ≠ w.heap.size + 1 + 1 ∧ some k ≠ vb1.ownBlock) ⟨by omega, hne2 _ (by omega)⟩ ⟨by omega, hne2 _ (by omega)⟩ hlq2 hcp hoa2 v2 (b21.cell (j := 0) rfl) (b22.cell (j := 0) rfl))
          (fun h k => KeepsOn.trans h k) (fun X l o o' hl _ _ _ => keptIt_put X o' hl) (Below.refl _ _) (fun _ => rfl)
          (AddI (w.heap.size + 1 + 1) w2.heap.size w v2 vb1 ws2 (fun x => changeW t (chunk (apartL t (which t.2 q) b) x))) (fun _ _ _ => False) (addI_own hs2v2) (fun _ _ _ _ _ hs _ _ => hs) h02 ?a2 ?assign2 ?body2 ?done2 ?stop2
        case assign2 =>
          intro l x W K hK
          unfold encC
          gi_wp2
          exact hK
        case stop2 =>
          rintro D c pre X _ _ h _
          exact h.elim
        case body2 =>
          rintro tt pre x X ⟨vb, hXb, hXh, hXn, hXk, hXm⟩ hlt2
          clear HK9 HJ9 h02
          have hTX := hXk.blk (hBt1.mem mv2) (show w.heap.size + 1 ≠ w.heap.size + 1 + 1 by omega) (fun e => by have := (hvo2 _ e.symm).1; omega)
          have cB := hXb.cell (j := 0) rfl
          have ci := hXk.ints (S' := fun y => w2.heap.size ≤ y ∧ some y ≠ vb.ownBlock) (chunk_ints io2 x) (fun g hg hl => ⟨⟨Nat.le_trans hw22 hg, hXn.ne hl (hne2 g hg).2⟩, hne2 g hg⟩)
          have hlen : (ws2 ++ pre.map fun x => changeW t (chunk (apartL t (which t.2 q) b) x)).length ≤ 1000000 := by
            rw [List.length_append, List.length_map]
            have : pnN (apartL t (which t.2 q) b).length ≤ (apartL t (which t.2 q) b).length := by unfold pnN; omega
            have := hws2
            omega
          have N0 := hide (Mem.drew (Mem.refl X))
          have sX := hXk.size
          have hlc : lenC (apartL t (which t.2 q) b).length x = (chunk (apartL t (which t.2 q) b) x).length := (chunk_len _ x).symm
          have HZ : ∀ z ∈ chunk (apartL t (which t.2 q) b) x, 0 ≤ z := fun z hz => which_ge0 (List.mem_filter.1 (List.mem_of_mem_drop (List.mem_of_mem_take hz))).1
          have hks8 : (chunk (apartL t (which t.2 q) b) x).length ≤ 1000 := by rw [← hlc]; unfold lenC; omega
          have hmap : (chunk (apartL t (which t.2 q) b) x).map (mapT t) = (chunk (apartL t (which t.2 q) b) x).map (hasT t) := List.map_congr_left fun z hz => mapT_has (HZ z hz)
          try simp only []
          rw [hlc]
          rw [hlc] at ci
          clear hlc HZ
          obtain ⟨ks, hks⟩ : ∃ ks, chunk (apartL t (which t.2 q) b) x = ks := ⟨_, rfl⟩
          rw [hks] at ci hks8 hmap ⊢
          have KX : Hid (∀ w', Mem X w' → w'.cell? ⟨w.heap.size + 1, 0, none⟩ = some (.slice om t.1.length cm) ∧ w'.cell? ⟨w.heap.size + 1, 1, none⟩ = some (.slice ob t.2.length cb)) := fun w' m => ⟨(hTX.mem m).cell (j := 0) rfl, (hTX.mem m).cell (j := 1) rfl⟩
          have hvX : ∀ g, vb.ownBlock = some g → g < X.heap.size := fun g e => by obtain ⟨xs, o, -⟩ := hXh; exact (o.lt g e).2
          gi_wp2_with fail
          refine region_round (S := fun w' => w'.cell? ⟨w.heap.size + 1, 0, none⟩ = some (.slice om t.1.length cm) ∧ w'.cell? ⟨w.heap.size + 1, 1, none⟩ = some (.slice ob t.2.length cb)) (by kernel_rfl) (by kernel_rfl) (fun ⟨_, _, h⟩ => h) (KX.out _ N0.out) (fun hHeld => ?_)
          refine takeH_at (i := 1) (d := 51) (v := ?_) rfl (by kernel_rfl) (by kernel_rfl) (by kernel_rfl) (fun _ _ _ h => h) rfl (Or.inl ⟨by rfl, ?hy⟩) (by assumption) ?_
          case hy => (intro w hSw; (try dsimp only at hSw); (go_simp <;> with_reducible rfl))
          simp only [List.setIfInBounds_toArray, List.set_cons_zero, List.set_cons_succ]
          refine takeH_at (i := 2) (d := 52) (v := ?_) rfl (by kernel_rfl) (by kernel_rfl) (by kernel_rfl) (fun _ _ _ h => h) rfl (Or.inl ⟨by rfl, ?hy⟩) (by assumption) ?_
          case hy => (intro w hSw; (try dsimp only at hSw); (go_simp <;> with_reducible rfl))
          simp only [List.setIfInBounds_toArray, List.set_cons_zero, List.set_cons_succ]
          refine wpAnyH_ready (rs := [0, 3]) (by kernel_rfl) (by simp) ?_
          refine AllReadyH.cons rfl (fun K hK => ?_) (AllReadyH.cons rfl (fun K hK => ?_) AllReadyH.nil)
          · go_simp
            refine hK.out _ _ (KX.out _ N0.out) (fun hHeld0 => ?_)
            clear hK K
            refine wpAnyH_ready (rs := [3]) (by kernel_rfl) (by simp) ?_
            refine AllReadyH.cons rfl (fun K hK => ?_) AllReadyH.nil
            · go_simp
              go_at_call 42
              refine (codeChangeWrite t om ob cm t.2.length cb (addC od x) ks.length ks _ ((H1.out.mem (hXm.trans N0.out)).ints) ((ci.mem N0.out).ints) hks8).mono ?_
              rintro e u7 ⟨⟨ov, cv, rfl, hv⟩, n7⟩
              have N7 := hide (Mem.trans N0.out n7)
              have cB7 := (hXb.mem N7.out).cell (j := 0) rfl
              have cB8 := ((hXb.mem N7.out).alloc (.cells #[.string ⟨#[]⟩, .int .i64 2, .int .i64 0, .slice (addC od x) ks.length ks.length, .slice ov ks.length cv] 49)).cell (j := 0) rfl
              go_wp2_with fail
              refine hK.out _ _ (KX.out _ N7.out) (fun hHeld7 => ?_)
              clear hK K
              refine wpAnyH_ready (rs := [4]) (by kernel_rfl) (by simp) ?_
              refine AllReadyH.cons rfl (fun K hK => ?_) AllReadyH.nil
              · go_simp
                refine hK.out _ _ (KX.out _ (Mem.alloc N7.out _)) (fun hHeld8 => ?_)
                clear hK K
                refine wpAnyH_ready (rs := [5]) (by kernel_rfl) (by simp) ?_
                refine AllReadyH.cons rfl (fun K hK => ?_) AllReadyH.nil
                · obtain ⟨xs, hoX, hfX⟩ := hXh.mem N7.out
                  obtain ⟨nn, hnn⟩ : ∃ nn, (ws2 ++ List.map (fun x => changeW t (chunk (apartL t (which t.2 q) b) x)) pre).length = nn := ⟨_, rfl⟩
                  rw [hnn] at hoX hlen
                  refine step_pushWrite (by rfl) _ _ (by rfl) w2.heap.size vb xs _ (by rfl) hoX (Nat.le_trans hw22 (Nat.le_trans smv2 (Nat.le_trans sX (mem_le N7.out)))) (⟨#[]⟩, 2, 0, (addC od x, ks.length, ks.length), (ov, ks.length, cv)) u7.heap.size rfl (by rfl) hlen ?_
                  intro vc w8 g1 g2 g3 g4 g5
                  obtain ⟨gc, cc, rfl⟩ := ownsRow_succ g1
                  have hneB : some (w.heap.size + 1 + 1) ≠ vb.ownBlock := fun e => by have := (hoX.lt _ e.symm).1; omega
                  have b8 : Blk w8 (w.heap.size + 1 + 1) 43 #[vb] := (g3 _ (hXb.mem N7.out).lt hneB).trans (hXb.mem N7.out)
                  have cB9 := b8.cell (j := 0) rfl
                  have fB9 := b8.frozen 0
                  have hneT : some (w.heap.size + 1) ≠ vb.ownBlock := fun e => by have := (hoX.lt _ e.symm).1; omega
                  have hTw : Blk w8 (w.heap.size + 1) 30 #[.slice om t.1.length cm, .slice ob t.2.length cb] := (g3 _ (hTX.mem N7.out).lt hneT).trans (hTX.mem N7.out)
                  have KX3 := (show w8.cell? ⟨w.heap.size + 1, 0, none⟩ = some (.slice om t.1.length cm) ∧ w8.cell? ⟨w.heap.size + 1, 1, none⟩ = some (.slice ob t.2.length cb) from ⟨hTw.cell (j := 0) rfl, hTw.cell (j := 1) rfl⟩)
                  refine hK.out _ _ KX3 (fun hHeld9 => ?_)
                  clear hK K
                  simp only [Act.put, List.setIfInBounds_toArray]
                  refine wpAnyH_ready (rs := [6]) (by kernel_rfl) (by simp) ?_
                  refine AllReadyH.cons rfl (fun K hK => ?_) AllReadyH.nil
                  · go_simp
                    refine hK.out _ _ ⟨(hTw.other (a := ⟨w.heap.size + 1 + 1, 0, none⟩) (show w.heap.size + 1 ≠ w.heap.size + 1 + 1 by omega) _).cell (j := 0) rfl, (hTw.other (a := ⟨w.heap.size + 1 + 1, 0, none⟩) (show w.heap.size + 1 ≠ w.heap.size + 1 + 1 by omega) _).cell (j := 1) rfl⟩ (fun hHeldA => ?_)
                    clear hK K
                    refine wpAnyH_done (by kernel_rfl) ?_ _
                    subst hnn
                    rw [hmap] at hv
                    have hzX : FitsW (fun y => w2.heap.size ≤ y ∧ some y ≠ vb.ownBlock) u7 ((⟨#[]⟩, 2, 0, (addC od x, ks.length, ks.length), (ov, ks.length, cv)) : WRowT) (changeW t ks) := ⟨rfl, rfl, rfl, ci.mem N7.out, hv.mono fun g hg _ => ⟨Nat.le_trans hw22 (Nat.le_trans smv2 (Nat.le_trans sX hg)), fun e => by have := hvX g e.symm; have hg' : X.heap.size ≤ g := hg; omega⟩⟩
                    subst hks
                    exact add_done (f := fun x => changeW t (chunk (apartL t (which t.2 q) b) x)) (x := x) (by omega) (by omega) hXb hXn hXk hXm N7.out hoX hfX hzX g1 g2 g3 g4 g5
          · go_simp
            go_at_call 42
            refine (codeChangeWrite t om ob cm t.2.length cb (addC od x) ks.length ks _ ((H1.out.mem (hXm.trans N0.out)).ints) ((ci.mem N0.out).ints) hks8).mono ?_
            rintro e u7 ⟨⟨ov, cv, rfl, hv⟩, n7⟩
            have N7 := hide (Mem.trans N0.out n7)
            have cB7 := (hXb.mem N7.out).cell (j := 0) rfl
            have cB8 := ((hXb.mem N7.out).alloc (.cells #[.string ⟨#[]⟩, .int .i64 2, .int .i64 0, .slice (addC od x) ks.length ks.length, .slice ov ks.length cv] 49)).cell (j := 0) rfl
            go_wp2_with fail
            refine hK.out _ _ (KX.out _ N7.out) (fun hHeld7 => ?_)
            clear hK K
            refine wpAnyH_ready (rs := [0, 4]) (by kernel_rfl) (by simp) ?_
            refine AllReadyH.cons rfl (fun K hK => ?_) (AllReadyH.cons rfl (fun K hK => ?_) AllReadyH.nil)
            · go_simp
              refine hK.out _ _ (KX.out _ N7.out) (fun hHeld0 => ?_)
              clear hK K
              refine wpAnyH_ready (rs := [4]) (by kernel_rfl) (by simp) ?_
              refine AllReadyH.cons rfl (fun K hK => ?_) AllReadyH.nil
              · go_simp
                refine hK.out _ _ (KX.out _ (Mem.alloc N7.out _)) (fun hHeld8 => ?_)
                clear hK K
                refine wpAnyH_ready (rs := [5]) (by kernel_rfl) (by simp) ?_
                refine AllReadyH.cons rfl (fun K hK => ?_) AllReadyH.nil
                · obtain ⟨xs, hoX, hfX⟩ := hXh.mem N7.out
                  obtain ⟨nn, hnn⟩ : ∃ nn, (ws2 ++ List.map (fun x => changeW t (chunk (apartL t (which t.2 q) b) x)) pre).length = nn := ⟨_, rfl⟩
                  rw [hnn] at hoX hlen
                  refine step_pushWrite (by rfl) _ _ (by rfl) w2.heap.size vb xs _ (by rfl) hoX (Nat.le_trans hw22 (Nat.le_trans smv2 (Nat.le_trans sX (mem_le N7.out)))) (⟨#[]⟩, 2, 0, (addC od x, ks.length, ks.length), (ov, ks.length, cv)) u7.heap.size rfl (by rfl) hlen ?_
                  intro vc w8 g1 g2 g3 g4 g5
                  obtain ⟨gc, cc, rfl⟩ := ownsRow_succ g1
                  have hneB : some (w.heap.size + 1 + 1) ≠ vb.ownBlock := fun e => by have := (hoX.lt _ e.symm).1; omega
                  have b8 : Blk w8 (w.heap.size + 1 + 1) 43 #[vb] := (g3 _ (hXb.mem N7.out).lt hneB).trans (hXb.mem N7.out)
                  have cB9 := b8.cell (j := 0) rfl
                  have fB9 := b8.frozen 0
                  have hneT : some (w.heap.size + 1) ≠ vb.ownBlock := fun e => by have := (hoX.lt _ e.symm).1; omega
                  have hTw : Blk w8 (w.heap.size + 1) 30 #[.slice om t.1.length cm, .slice ob t.2.length cb] := (g3 _ (hTX.mem N7.out).lt hneT).trans (hTX.mem N7.out)
                  have KX3 := (show w8.cell? ⟨w.heap.size + 1, 0, none⟩ = some (.slice om t.1.length cm) ∧ w8.cell? ⟨w.heap.size + 1, 1, none⟩ = some (.slice ob t.2.length cb) from ⟨hTw.cell (j := 0) rfl, hTw.cell (j := 1) rfl⟩)
                  refine hK.out _ _ KX3 (fun hHeld9 => ?_)
                  clear hK K
                  simp only [Act.put, List.setIfInBounds_toArray]
                  refine wpAnyH_ready (rs := [6]) (by kernel_rfl) (by simp) ?_
                  refine AllReadyH.cons rfl (fun K hK => ?_) AllReadyH.nil
                  · go_simp
                    refine hK.out _ _ ⟨(hTw.other (a := ⟨w.heap.size + 1 + 1, 0, none⟩) (show w.heap.size + 1 ≠ w.heap.size + 1 + 1 by omega) _).cell (j := 0) rfl, (hTw.other (a := ⟨w.heap.size + 1 + 1, 0, none⟩) (show w.heap.size + 1 ≠ w.heap.size + 1 + 1 by omega) _).cell (j := 1) rfl⟩ (fun hHeldA => ?_)
                    clear hK K
                    refine wpAnyH_done (by kernel_rfl) ?_ _
                    subst hnn
                    rw [hmap] at hv
                    have hzX : FitsW (fun y => w2.heap.size ≤ y ∧ some y ≠ vb.ownBlock) u7 ((⟨#[]⟩, 2, 0, (addC od x, ks.length, ks.length), (ov, ks.length, cv)) : WRowT) (changeW t ks) := ⟨rfl, rfl, rfl, ci.mem N7.out, hv.mono fun g hg _ => ⟨Nat.le_trans hw22 (Nat.le_trans smv2 (Nat.le_trans sX hg)), fun e => by have := hvX g e.symm; have hg' : X.heap.size ≤ g := hg; omega⟩⟩
                    subst hks
                    exact add_done (f := fun x => changeW t (chunk (apartL t (which t.2 q) b) x)) (x := x) (by omega) (by omega) hXb hXn hXk hXm N7.out hoX hfX hzX g1 g2 g3 g4 g5
            · go_simp
              refine hK.out _ _ (KX.out _ (Mem.alloc N7.out _)) (fun hHeld8 => ?_)
              clear hK K
              refine wpAnyH_ready (rs := [0]) (by kernel_rfl) (by simp) ?_
              refine AllReadyH.cons rfl (fun K hK => ?_) AllReadyH.nil
              · go_simp
                refine hK.out _ _ (KX.out _ (Mem.alloc N7.out _)) (fun hHeld0 => ?_)
                clear hK K
                refine wpAnyH_ready (rs := [5]) (by kernel_rfl) (by simp) ?_
                refine AllReadyH.cons rfl (fun K hK => ?_) AllReadyH.nil
                · obtain ⟨xs, hoX, hfX⟩ := hXh.mem N7.out
                  obtain ⟨nn, hnn⟩ : ∃ nn, (ws2 ++ List.map (fun x => changeW t (chunk (apartL t (which t.2 q) b) x)) pre).length = nn := ⟨_, rfl⟩
                  rw [hnn] at hoX hlen
                  refine step_pushWrite (by rfl) _ _ (by rfl) w2.heap.size vb xs _ (by rfl) hoX (Nat.le_trans hw22 (Nat.le_trans smv2 (Nat.le_trans sX (mem_le N7.out)))) (⟨#[]⟩, 2, 0, (addC od x, ks.length, ks.length), (ov, ks.length, cv)) u7.heap.size rfl (by rfl) hlen ?_
                  intro vc w8 g1 g2 g3 g4 g5
                  obtain ⟨gc, cc, rfl⟩ := ownsRow_succ g1
                  have hneB : some (w.heap.size + 1 + 1) ≠ vb.ownBlock := fun e => by have := (hoX.lt _ e.symm).1; omega
                  have b8 : Blk w8 (w.heap.size + 1 + 1) 43 #[vb] := (g3 _ (hXb.mem N7.out).lt hneB).trans (hXb.mem N7.out)
                  have cB9 := b8.cell (j := 0) rfl
                  have fB9 := b8.frozen 0
                  have hneT : some (w.heap.size + 1) ≠ vb.ownBlock := fun e => by have := (hoX.lt _ e.symm).1; omega
                  have hTw : Blk w8 (w.heap.size + 1) 30 #[.slice om t.1.length cm, .slice ob t.2.length cb] := (g3 _ (hTX.mem N7.out).lt hneT).trans (hTX.mem N7.out)
                  have KX3 := (show w8.cell? ⟨w.heap.size + 1, 0, none⟩ = some (.slice om t.1.length cm) ∧ w8.cell? ⟨w.heap.size + 1, 1, none⟩ = some (.slice ob t.2.length cb) from ⟨hTw.cell (j := 0) rfl, hTw.cell (j := 1) rfl⟩)
                  refine hK.out _ _ KX3 (fun hHeld9 => ?_)
                  clear hK K
                  simp only [Act.put, List.setIfInBounds_toArray]
                  refine wpAnyH_ready (rs := [6]) (by kernel_rfl) (by simp) ?_
                  refine AllReadyH.cons rfl (fun K hK => ?_) AllReadyH.nil
                  · go_simp
                    refine hK.out _ _ ⟨(hTw.other (a := ⟨w.heap.size + 1 + 1, 0, none⟩) (show w.heap.size + 1 ≠ w.heap.size + 1 + 1 by omega) _).cell (j := 0) rfl, (hTw.other (a := ⟨w.heap.size + 1 + 1, 0, none⟩) (show w.heap.size + 1 ≠ w.heap.size + 1 + 1 by omega) _).cell (j := 1) rfl⟩ (fun hHeldA => ?_)
                    clear hK K
                    refine wpAnyH_done (by kernel_rfl) ?_ _
                    subst hnn
                    rw [hmap] at hv
                    have hzX : FitsW (fun y => w2.heap.size ≤ y ∧ some y ≠ vb.ownBlock) u7 ((⟨#[]⟩, 2, 0, (addC od x, ks.length, ks.length), (ov, ks.length, cv)) : WRowT) (changeW t ks) := ⟨rfl, rfl, rfl, ci.mem N7.out, hv.mono fun g hg _ => ⟨Nat.le_trans hw22 (Nat.le_trans smv2 (Nat.le_trans sX hg)), fun e => by have := hvX g e.symm; have hg' : X.heap.size ≤ g := hg; omega⟩⟩
                    subst hks
                    exact add_done (f := fun x => changeW t (chunk (apartL t (which t.2 q) b) x)) (x := x) (by omega) (by omega) hXb hXn hXk hXm N7.out hoX hfX hzX g1 g2 g3 g4 g5
        case done2 =>
          rintro D2 ys X2 hD2 rfl ⟨vb2, hXb2, hXh2, hXn2, hXk2, hXm2⟩ hKD2
          rw [parts_data (apartL t (which t.2 q) b) (changeW t)] at hXh2
          have hkp2 : KeepsOn (fun x => x < w2.heap.size ∧ x ≠ w.heap.size + 1 + 1) w2 X2 := ⟨Nat.le_trans hkp1.size (Nat.le_trans smv2 hXk2.size), fun k hk hx => (hXk2.same k ⟨hk.2, fun e => by have := (hvo2 k e.symm).1; have := hk.1; omega⟩ (by have := hk.1; omega)).trans ((Below.block mv2 k (by have := hk.1; omega)).trans (hkp1.same k hk hx))⟩
          have hmk2 := (hmk1.later fun k o h _ => (Below.block mv2 k (Array.getElem?_eq_some_iff.1 h).1).trans h).push (hXk2.others hwv2 hhv2) (Nat.le_trans hw22 smv2) hD2 hKD2
          rw [HMS.out, ← HN.out] at hXh2
          clear hXk2 hhv2 hwv2 h02 io2 io mz2 b21 b22 hne2 hvo2 hoa2 hcp hmk1 hKD2 hXh1 hXb1 HMS hws2 HN hBo1 hBc1 hBt1 hoX1 h1X1
          gi_wp2_with fail
          refine HK9.out _ _ (Handed.intro ((placesN b 16).length - (k + 1)) ?measure ?rel)
          case measure => omega
          case rel => exact HJ9.out _ _ _ ⟨_, _, _, _, _, _, _, _, _, _, _, _, _, _, _, _, _, _, _, _, _, _, _, _, _, _, _, _, _, _, _, _, _, _, _, _, _, _, _, _, _, _, _, ⟨k + 1, vb2, by omega, Nat.le_refl _, by go_num, hXb2, hXh2, hkp2, hXm2, hmk2⟩, rfl⟩
    · have hke : k = (placesN b 16).length := by omega
      subst hke
      have hlt' : ¬ (((placesN b 16).length : Int) < ((placesN b 16).length : Int)) := by omega
      have HE : Hid (movesN bs t b (placesN b 16).length = movesT bs t b) := by
        show _ = _
        unfold movesT placesN
        by_cases h : 0 ≤ b ∧ b < 32
        · rw [if_pos h, if_pos h]; simp
        · rw [if_neg h, if_neg h]; rfl
      rw [HE.out] at hheld
      have c0 := hWr.cell (j := 0) rfl
      have hG : OwnFrom w.heap.size (fun (_ : Unit) X => WritesAt (fun x => S x ∨ w.heap.size ≤ x) X va (movesT bs t b) ∧ Mem w X) := by
        rintro u X Y row ⟨h1, h2⟩ hg hr
        exact ⟨writesAt_own hg hr h1, ownFrom_below (β := Unit) (Nat.le_refl _) (Nat.le_refl _) () X Y row h2 hg hr⟩
      have hgo : WritesAt (fun x => S x ∨ w.heap.size ≤ x) wr va (movesT bs t b) ∧ Mem w wr := by
        obtain ⟨xs, ho, hf⟩ := hheld
        exact ⟨WritesAt.of_owns ho rfl hf (fun g hg _ => .inr (Nat.le_trans (by omega) hg.1)) (fun g hg => .inr (Nat.le_trans (by omega) (ho.lt g hg).1)), hmr⟩
      have hmk' : Marked w.heap.size df wr := by
        obtain ⟨ds, e, hn, h⟩ := hmk
        exact ⟨ds, e, hn, fun D hD => ⟨by have := (h D hD).1; omega, (h D hD).2⟩⟩
      clear HE hheld hWr hkp hmk HL HS HJ9 HK9
      gi_wp2_with fail
      exact leaves_marks hG hmk' hgo (fun W' hW' => ⟨_, results_tmp rfl _ _ _, ⟨va, rfl, hW'.1⟩, hW'.2⟩)
end Go.Proofs.Ytedopplldpcinaa.Plan
