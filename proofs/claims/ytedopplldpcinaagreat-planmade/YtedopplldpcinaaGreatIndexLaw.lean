/-
  A range over an iterator that itself ranges over another one: such an iterator has records and boxes of its own behind the loop's record, and a round must leave them; the law for whoever ranges over it.
-/
import Derived.RangeFuncNested
import Derived.RangeFuncBound
import Derived.RangeFuncCalls
import Derived.RangeFuncLeaves
import Derived.Shelf.Abstract
import Derived.Shelf.RegionOpen
import Derived.WalkKit
import Derived.OwnWalkIn
import Derived.TacticsInMore
import Derived.LoopNIn
import Derived.LoopIn
import Derived.Maps.AppendAt
import Derived.Test.YtedopplldpcinaaGreatIndexRefs2
namespace Go.Proofs.YtedopplldpcinaaGreat.Index
open Go.RowKit Go.Shelf Go.Proofs.YtedopplldpcinaaGreat.Scan

/-- what a round leaves: the blocks of which S₀ holds; from m on what lies ahead of b, and whatever is no cells -/
structure Leaves (S₀ : Nat → Prop) (m b : Nat) (X Y : World) : Prop where
  size : X.heap.size ≤ Y.heap.size
  same : ∀ k o, (S₀ k ∨ (m ≤ k ∧ (k < b ∨ o.isCells = false))) → X.heap[k]? = some o → Y.heap[k]? = some o
theorem Leaves.refl (S₀ : Nat → Prop) (m b : Nat) (X : World) : Leaves S₀ m b X X := ⟨Nat.le_refl _, fun _ _ _ h => h⟩
theorem Leaves.trans {S₀ : Nat → Prop} {m b : Nat} {X Y Z : World} (h : Leaves S₀ m b X Y) (k : Leaves S₀ m b Y Z) : Leaves S₀ m b X Z :=
  ⟨Nat.le_trans h.size k.size, fun i o hb hi => k.same i o hb (h.same i o hb hi)⟩
theorem Leaves.mem {S₀ : Nat → Prop} {m b : Nat} {X Y : World} (h : Mem X Y) : Leaves S₀ m b X Y :=
  ⟨h.size, fun k _ _ hk => (h.block k (Array.getElem?_eq_some_iff.1 hk).1).trans hk⟩
theorem Leaves.from {S₀ : Nat → Prop} {m m' b : Nat} {X Y : World} (h : Leaves S₀ m b X Y) (hm : m ≤ m') : Leaves S₀ m' b X Y :=
  ⟨h.size, fun k o hk => h.same k o (hk.imp id fun h => ⟨by omega, h.2⟩)⟩
theorem Leaves.keeps {S₀ : Nat → Prop} {m b B : Nat} {X Y : World} (h : Leaves S₀ m b X Y) (hm : m ≤ B) : KeepsFrom B X Y :=
  ⟨h.size, fun k o hk h1 h2 => h.same k o (.inr ⟨by omega, .inr h2⟩) h1⟩
/-- a turn of a block, which lies ahead of m -/
theorem Leaves.turn {S₀ : Nat → Prop} {m b l : Nat} {X : World} (hl : ¬ S₀ l) (hm : l < m) (o : Obj) : Leaves S₀ m b X (X.putObj l o) := by
  have hne : ∀ k, k ≠ l → (X.putObj l o).heap[k]? = X.heap[k]? := fun k hk => World.putObj_heap_other hk
  refine ⟨by simp [World.putObj], fun k o' hk h => (hne k ?_).trans h⟩
  rcases hk with hk | hk
  · exact fun e => hl (e ▸ hk)
  · omega
theorem Leaves.setCell {S₀ : Nat → Prop} {m b : Nat} {X : World} {p : Addr} (hp : ¬ S₀ p.block) (hm : p.block < m) (x : Value) : Leaves S₀ m b X (X.setCell p x) := by
  refine ⟨by simp, fun k o hk h => ?_⟩
  rw [Below.heap_setCell X p x k ?_]
  · exact h
  · rcases hk with hk | hk
    · exact fun e => hp (e ▸ hk)
    · omega
/-- an append onto a row of one's own that lies from b on, and the store of it in a box -/
theorem appended_leaves {S₀ : Nat → Prop} {m b n₀ B : Nat} {W w1 : World} {t e : TypeId} {size : Nat} {v v' : Value} {k j : Nat} {xs ys : List Value} {tmp : Obj}
    (hv : Boxed W B t v) (hte : t ≠ e) (hrow : W.ownsRow b e size v k xs) (hb : b ≤ W.heap.size) (hmb : m ≤ b) (hn₀ : n₀ ≤ B) (hSB : ¬ S₀ B) (hBm : B < m) (hS : ∀ k, S₀ k → k < m)
    (hown' : w1.ownsRow b e size v' j ys) (hgrow : (W.alloc tmp).grownBy w1 v.ownBlock) :
    Boxed w1 B t v ∧ Boxed (w1.setCell ⟨B, 0, none⟩ v') B t v' ∧ (w1.setCell ⟨B, 0, none⟩ v').ownsRow b e size v' j ys ∧ Leaves S₀ m b W (w1.setCell ⟨B, 0, none⟩ v') ∧ Below n₀ W (w1.setCell ⟨B, 0, none⟩ v') := by
  have hv1 : Boxed w1 B t v := (hv.alloc tmp).kept hgrow (hv.not_row hte hrow)
  have hkeep : ∀ i, i < W.heap.size → some i ≠ v.ownBlock → i ≠ B → (w1.setCell ⟨B, 0, none⟩ v').heap[i]? = W.heap[i]? := fun i hi hr hB => by
    rw [Below.heap_setCell _ _ _ i hB, hgrow.block i (by simp; omega) hr]
    exact Below.heap_alloc _ _ i hi
  have hsz : W.heap.size ≤ (w1.setCell ⟨B, 0, none⟩ v').heap.size := by have := hgrow.size; simp at this ⊢; omega
  have hnb : ∀ i, i < b → some i ≠ v.ownBlock := fun i hi e => by have := (hrow.lt i e.symm).1; omega
  refine ⟨hv1, hv1.set v', hown'.kept (grownBy_setCell' w1 B v') (.inr (hv1.not_row hte hown').symm), ⟨hsz, fun i o hi ho => ?_⟩, ?_⟩
  · have hil := (Array.getElem?_eq_some_iff.1 ho).1
    refine (hkeep i hil ?_ ?_).trans ho
    · rcases hi with hi | ⟨_, hi | hi⟩
      · exact hnb i (by have := hS i hi; omega)
      · exact hnb i hi
      · intro e
        rcases hrow.2 with ⟨rfl, _⟩ | ⟨g, cap, cur, rfl, _, hgb, _⟩
        · simp [Value.ownBlock] at e
        · obtain rfl : i = g := by simpa [Value.ownBlock] using e
          rw [hgb] at ho; cases ho; cases hi
    · rcases hi with hi | hi
      · exact fun e => hSB (e ▸ hi)
      · omega
  · exact (((Below.refl n₀ W).alloc (by omega) tmp).grown hgrow (by simp; omega) fun i ei => by have := (hrow.lt i ei).1; omega).setCell (p := ⟨B, 0, none⟩) hn₀ v'
theorem grown_mem {w w' : World} (m : Mem w w') : w.grownBy w' none := ⟨m.os, m.tape, m.output, m.size, fun k hk _ => m.block k hk⟩
theorem ownFrom_mem {β : Type} {B : Nat} {I : β → World → Prop} (h : OwnFrom B I) {s : β} {W W' : World} (hs : I s W) (m : Mem W W') : I s W' :=
  h s W W' none hs (grown_mem m) (fun r e => by cases e)
theorem ownFrom_le {β : Type} {B B' : Nat} {I : β → World → Prop} (h : OwnFrom B I) (hB : B ≤ B') : OwnFrom B' I :=
  fun s W W' row hs hg hr => h s W W' row hs hg (fun r e => ⟨Nat.le_trans hB (hr r e).1, (hr r e).2⟩)

theorem blk_own {β : Type} {B b : Nat} {t : TypeId} {cs : Array Value} : OwnFrom B (fun (_ : β) X => Blk X b t cs) := fun _ X Y row hs hg hr =>
  (hg.block b hs.lt (fun e => by
    obtain ⟨_, o, ho, hc⟩ := hr b e.symm
    rw [show X.heap[b]? = _ from hs] at ho; cases ho; cases hc)).trans hs

/-! ### the wide fence asks for no depth -/
theorem room_wide (k : Nat) : Fence.wide.room k := fun d h => by cases h
theorem round_wide {m m' l : Nat} {P : Program} {f : FuncId} {tmps : Array Value} {assign body : Code} {w : World} {R : Ending → World → Prop} (h : RoundIn Fence.wide m P l f tmps assign body w R) : RoundIn Fence.wide m' P l f tmps assign body w R :=
  ⟨h.1, fun c cs _ => h.2 c cs (room_wide _)⟩
theorem round_inner {m l l' : Nat} {P : Program} {f : FuncId} {tmps : Array Value} {assign body : Code} {w : World} {R : Ending → World → Prop} (h : RoundIn Fence.wide m P l f tmps assign body w R) : RoundIn (Fence.wide.inRound l') m P l f tmps assign body w R := h
theorem yield_wide {m l : Nat} (m' : Nat) {P : Program} {args : Array Value} {W : World} {R : Ending → World → Prop} (h : YieldAt Fence.wide m P l args W R) : YieldAt Fence.wide m' P l args W R := by
  obtain ⟨fn, tmps, assign, body, hy, hR⟩ := h
  exact ⟨fn, tmps, assign, body, hy, round_wide hR⟩

/-- an iterator with records and boxes of its own: b is where its own end; the caller's invariant may name b -/
def Tells {α : Type} (P : Program) (S₀ : Nat → Prop) (gf : Nat) (lb : Array Value) (encs : α → Array Value) (S Sp : List α → Prop) (N : Nat) (w0 : World) : Prop :=
  ∀ (n l : Nat) (J Jx : Nat → List α → World → Prop) (W : World), 4 ≤ n → Below w0.heap.size w0 W → l < W.heap.size → (∀ k, S₀ k → k < W.heap.size ∧ k ≠ l) → (∀ b, OwnFrom W.heap.size (J b)) → (∀ b, OwnFrom W.heap.size (Jx b)) →
    (∀ b pre x W1, W.heap.size ≤ b → b ≤ W1.heap.size → J b pre W1 → pre.length < N → YieldAt Fence.wide (n - 1) P l (encs x) W1 fun e W' =>
      ((e = .returned (.bool true) ∧ J b (pre ++ [x]) W') ∨ (e = .returned (.bool false) ∧ Jx b (pre ++ [x]) W')) ∧ Leaves S₀ W.heap.size b W1 W') →
    (∀ b, W.heap.size ≤ b → J b [] W) →
    CallsIn Fence.wide n P gf (#[.func (.yield l) #[] #[]] ++ lb) W fun e W' => (∃ v, e = .returned v) ∧
      ∃ b, W.heap.size ≤ b ∧ ((∃ xs, S xs ∧ J b xs W') ∨ (∃ pre, Sp pre ∧ Jx b pre W'))

/-- how a body of a round is left -/
def roundLeft {α : Type} (S₀ : Nat → Prop) (m b : Nat) (I Ix : Nat → List α → World → Prop) (xs : List α) (X : World) : Exit → Act → World → Prop
  | .normal, _, Y => Leaves S₀ m b X Y ∧ I b xs Y
  | .ret, _, Y => Leaves S₀ m b X Y ∧ Ix b xs Y
  | _, _, _ => False

set_option maxHeartbeats 1000000 in
theorem rangeTells {α : Type} {P : Program} {n : Nat} {S₀ : Nat → Prop} {g : Operand} {ps : Array Tmp} {assign body : Code} {Q : Exit → Act → World → Prop} {a : Act} {w : World} (h2 : 5 ≤ n) {m : Nat} (hm : w.heap.size = m)
    {gf : Nat} {lb : Array Value} (hg : a.eval g = .func (.func gf) #[] lb) (eg : ∀ args w, (callFunc gf args).run P w = .ok (.enter gf args) w)
    {encs : α → Array Value} {S Sp : List α → Prop} {N : Nat} (hseq : Tells P S₀ gf lb encs S Sp N w) (hn₀ : ∀ k, S₀ k → k < m) (hps : ∀ x, (encs x).size = ps.size)
    (I Ix : Nat → List α → World → Prop) (hI : ∀ b, OwnFrom m (I b)) (hIx : ∀ b, OwnFrom m (Ix b)) (h0 : ∀ b, m + 2 ≤ b → I b [] w)
    (Ax : α → Act → World → Prop) (hAx : ∀ x a', OwnFrom m (fun (_ : Unit) W => Ax x a' W))
    (hassign : ∀ (b : Nat) (pre : List α) (x : α) (W : World) (K : Act → World → Prop), m + 2 ≤ b → b ≤ W.heap.size → I b pre W → (∀ a' W', Mem W W' → Ax x a' W' → K a' W') →
      assign.wpIn (Fence.wide.inRound (m + 1)) (n - 1 - 1) P (Exit.then K (fun _ _ _ => False)) { tmps := (ps.zip (encs x)).foldl (fun t (p, v) => t.setIfInBounds p v) a.tmps, defers := [] } W)
    (hbody : ∀ (b : Nat) (pre : List α) (x : α) (a' : Act) (W : World), m + 2 ≤ b → b ≤ W.heap.size → I b pre W → Ax x a' W → pre.length < N → body.wpIn (Fence.wide.inRound (m + 1)) (n - 1 - 1) P (roundLeft S₀ m b I Ix (pre ++ [x]) W) a' W)
    (hdone : ∀ (b : Nat) (xs : List α) (W : World), m + 2 ≤ b → S xs → I b xs W → W.heap[m]? = some (.deferred (some [])) → Q .normal { a with defers := { target := .collected m, args := #[] } :: a.defers } W)
    (hstop : ∀ (b : Nat) (pre : List α) (W : World), m + 2 ≤ b → Sp pre → Ix b pre W → W.heap[m]? = some (.deferred (some [])) → Code.ret.wpIn Fence.wide n P Q { a with defers := { target := .collected m, args := #[] } :: a.defers } W) :
    (Code.rangeFunc g ps assign body).wpIn Fence.wide n P Q a w := by
  have hnl : ¬ S₀ (m + 1) := fun h => by have := hn₀ _ h; omega
  refine wpIn_rangeFunc fun fn _ => ?_
  obtain ⟨rec, hrec⟩ : ∃ rec : LoopState → Option Code → Loop, rec = fun st pe => { state := st, pending := pe, fn, tmps := a.tmps, params := ps, assign, body, defers := m } := ⟨_, rfl⟩
  obtain ⟨V, hV⟩ : ∃ V, (w.alloc (.deferred (some []))).alloc (.loop (rec .ready none)) = V := ⟨_, rfl⟩
  have hVs : V.heap.size = m + 2 := by rw [← hV]; simp; omega
  have hVm : Mem w V := by rw [← hV]; exact ((Mem.refl w).alloc _).alloc _
  have hVl : V.heap[m + 1]? = some (.loop (rec .ready none)) := by
    have := World.alloc_heap_new (w.alloc (.deferred (some []))) (.loop (rec .ready none))
    rw [hV, World.size_alloc, hm] at this
    exact this
  have hVd : V.heap[m]? = some (.deferred (some [])) := by
    rw [← hV]
    refine (Below.heap_alloc _ _ _ (by simp; omega)).trans ?_
    rw [← hm]
    exact World.alloc_heap_new w _
  -- the two blocks of book-keeping abide what lies behind V
  have kept : ∀ {o : Obj} {k : Nat} {X Y : World} {row : Option Nat}, k < V.heap.size → X.heap[k]? = some o → X.grownBy Y row → (∀ r, row = some r → V.heap.size ≤ r ∧ ∃ o : Obj, X.heap[r]? = some o ∧ o.isCells = false) → Y.heap[k]? = some o := fun hk h hgr hr =>
    (hgr.block _ (Array.getElem?_eq_some_iff.1 h).1 (fun e => by have := (hr _ e.symm).1; omega)).trans h
  have low : ∀ {X : World} {row : Option Nat}, (∀ r, row = some r → V.heap.size ≤ r ∧ ∃ o : Obj, X.heap[r]? = some o ∧ o.isCells = false) → (∀ r, row = some r → m ≤ r ∧ ∃ o : Obj, X.heap[r]? = some o ∧ o.isCells = false) := fun hr r e => ⟨by have := (hr r e).1; omega, (hr r e).2⟩
  refine ⟨m + 1, [{ target := .collected m, args := #[] }], V, { target := .fn (.func gf) lb, args := #[.func (.yield (m + 1)) #[] #[]] }, V, gf, #[.func (.yield (m + 1)) #[] #[]] ++ lb, V, ?_, ?_, fun _ _ => trivial, ?_, fun _ => by omega, ?_⟩
  · rw [← hV, hrec]; subst hm; exact run_enterLoop_outer _ _ _ _ _
  · simp only [resolve, hg]
    simp [go_sem]
  · simp [invoke, go_sem, eg]
  refine (hseq (n - 1) (m + 1)
    (fun b pre X => I b pre X ∧ X.heap[m + 1]? = some (.loop (rec .ready none)) ∧ X.heap[m]? = some (.deferred (some [])))
    (fun b pre X => Ix b pre X ∧ X.heap[m + 1]? = some (.loop (rec .done (some .ret))) ∧ X.heap[m]? = some (.deferred (some [])))
    V (by omega) hVm (by omega) (fun k hk => by have := hn₀ k hk; omega)
    (fun b s X Y row hs hgr hr => ⟨hI b s X Y row hs.1 hgr (low hr), kept (by omega) hs.2.1 hgr hr, kept (by omega) hs.2.2 hgr hr⟩)
    (fun b s X Y row hs hgr hr => ⟨hIx b s X Y row hs.1 hgr (low hr), kept (by omega) hs.2.1 hgr hr, kept (by omega) hs.2.2 hgr hr⟩)
    ?_ (fun b hb => ⟨ownFrom_mem (hI b) (h0 b (by omega)) hVm, hVl, hVd⟩)).mono ?_
  · -- a round
    rintro b pre x X hb hbX ⟨hi, hl, hd⟩ hlen
    rw [hVs] at hb ⊢
    have hXs : m + 2 ≤ X.heap.size := (Array.getElem?_eq_some_iff.1 hl).1
    have hy := run_yield (P := P) (args := encs x) hl (by rw [hrec]; exact hps x)
    refine ⟨_, _, _, _, hy, roundIn_of_wpIn trivial ?_⟩
    rw [hrec]
    refine hassign b pre x X _ hb hbX hi ?_
    intro a' X1 hm1 hax
    have hl1 := (hm1.block _ hXs).trans hl
    have hd1 := (hm1.block _ (by omega)).trans hd
    have hi1 := ownFrom_mem (hI b) hi hm1
    have hX1s : m + 1 < X1.heap.size := by have := hm1.size; omega
    refine ⟨_, run_beginRound hl1 (by rw [hrec]), ?_⟩
    have hl2 : (X1.putObj (m + 1) (.loop { rec .ready none with state := .busy })).heap[m + 1]? = some (.loop { rec .ready none with state := .busy }) := World.putObj_heap_same hX1s
    have hd2 : (X1.putObj (m + 1) (.loop { rec .ready none with state := .busy })).heap[m]? = some (.deferred (some [])) := (World.putObj_heap_other (by omega)).trans hd1
    refine wpIn_mono (hbody b pre x a' _ hb (by simp [World.putObj]; have := hm1.size; omega) ((hI b).putObj _ hi1 (by omega) hl1 rfl) ((hAx x a').putObj (s := ()) _ hax (by omega) hl1 rfl) hlen) ?_
    have L1 : Leaves S₀ (m + 2) b X (X1.putObj (m + 1) (.loop { rec .ready none with state := .busy })) := (Leaves.mem hm1).trans (Leaves.turn hnl (by omega) _)
    rintro e a3 Y hp
    cases e with
    | normal =>
      obtain ⟨hL, hi3⟩ := hp
      have hl3 := hL.same _ _ (.inr ⟨by omega, .inr rfl⟩) hl2
      have hd3 := hL.same _ _ (.inr ⟨Nat.le_refl _, .inr rfl⟩) hd2
      have hr := run_endRound (P := P) none hl3
      rw [hrec] at hr hl3
      refine ⟨_, _, hr, .inl ⟨rfl, (hI b).putObj _ hi3 (by omega) hl3 rfl, ?_, (World.putObj_heap_other (by omega)).trans hd3⟩, (L1.trans (hL.from (by omega))).trans (Leaves.turn hnl (by omega) _)⟩
      rw [World.putObj_heap_same (Array.getElem?_eq_some_iff.1 hl3).1]
      rfl
    | ret =>
      obtain ⟨hL, hi3⟩ := hp
      have hl3 := hL.same _ _ (.inr ⟨by omega, .inr rfl⟩) hl2
      have hd3 := hL.same _ _ (.inr ⟨Nat.le_refl _, .inr rfl⟩) hd2
      have hr := run_endRound (P := P) (some .ret) hl3
      rw [hrec] at hr hl3
      refine ⟨_, _, hr, .inr ⟨rfl, (hIx b).putObj _ hi3 (by omega) hl3 rfl, ?_, (World.putObj_heap_other (by omega)).trans hd3⟩, (L1.trans (hL.from (by omega))).trans (Leaves.turn hnl (by omega) _)⟩
      rw [World.putObj_heap_same (Array.getElem?_eq_some_iff.1 hl3).1]
      rfl
    | exit id => exact hp.elim
    | goto t => exact hp.elim
    | panic ch => exact hp.elim
    | outgrown => exact hp.elim
  · -- behind the iterator
    rintro e Y ⟨⟨v, rfl⟩, b, hb, (⟨xs, hS, hi, hl, hd⟩ | ⟨pre, hSp, hi, hl, hd⟩)⟩
    · have hr := run_endLoop (P := P) hl (by rw [hrec]; simp)
      rw [hrec] at hr hl
      exact ⟨none, _, hr, hdone b xs _ (by omega) hS ((hI b).putObj _ hi (by omega) hl rfl) ((World.putObj_heap_other (by omega)).trans hd)⟩
    · have hr := run_endLoop (P := P) hl (by rw [hrec]; simp)
      rw [hrec] at hr hl
      exact ⟨some .ret, _, hr, hstop b pre _ (by omega) hSp ((hIx b).putObj _ hi (by omega) hl rfl) ((World.putObj_heap_other (by omega)).trans hd)⟩
end Go.Proofs.YtedopplldpcinaaGreat.Index
