/-
  Layer 10, the program: the blocks that are in a state, one by one.
-/
import Derived.RangeFuncNested
import Derived.RangeFuncBound
import Derived.RangeFuncCalls
import Derived.RangeFuncLeaves
import Derived.Shelf.Abstract
import Derived.Shelf.RegionOpen
import Derived.WalkKit
import Derived.OwnWalkIn
import Derived.TacticsInMore
import Derived.LoopNIn
import Derived.LoopIn
import Derived.Test.YtlgofanenkbgoaaStatesIs
namespace Go.Proofs.Ytlgofanenkbgoaa.States
open Go.RowKit Go.Shelf Go.Proofs.Ytlgofanenkbgoaa.Nand
attribute [local go_sem] Oper.semAt_some

/-- of the first k blocks those in a state -/
def insN (bs : List BlockT) (o s : Int) : Nat → List Nat
  | 0 => []
  | k + 1 => if stateT bs o k = s then insN bs o s k ++ [k] else insN bs o s k
theorem ins_yes {bs : List BlockT} {o s : Int} {k : Nat} (h : stateT bs o k = s) : insN bs o s (k + 1) = insN bs o s k ++ [k] := by rw [insN, if_pos h]
theorem ins_no {bs : List BlockT} {o s : Int} {k : Nat} (h : ¬ stateT bs o k = s) : insN bs o s (k + 1) = insN bs o s k := by rw [insN, if_neg h]
theorem ins_len (bs : List BlockT) (o s : Int) (k : Nat) : (insN bs o s k).length = manyN bs o s k := by
  induction k with
  | zero => rfl
  | succ k ih =>
    by_cases h : stateT bs o k = s
    · rw [ins_yes h, many_yes h, List.length_append, ih]; rfl
    · rw [ins_no h, many_no h, ih]
theorem ins_le (bs : List BlockT) (o s : Int) (k : Nat) : (insN bs o s k).length ≤ k := by rw [ins_len]; exact many_le _ _ _ _
theorem ins_lt {bs : List BlockT} {o s : Int} {k i : Nat} (h : i ∈ insN bs o s k) : i < k ∧ stateT bs o i = s := by
  induction k with
  | zero => cases h
  | succ k ih =>
    by_cases hs : stateT bs o k = s
    · rw [ins_yes hs, List.mem_append] at h
      rcases h with h | h
      · exact ⟨Nat.lt_succ_of_lt (ih h).1, (ih h).2⟩
      · simp at h; subst h; exact ⟨Nat.lt_succ_self _, hs⟩
    · rw [ins_no hs] at h
      exact ⟨Nat.lt_succ_of_lt (ih h).1, (ih h).2⟩

/-- what is kept: all the blocks of which S holds -/
structure KeepsIn (S : Nat → Prop) (X Y : World) : Prop where
  size : X.heap.size ≤ Y.heap.size
  same : ∀ k, S k → k < X.heap.size → Y.heap[k]? = X.heap[k]?
theorem KeepsIn.refl (S : Nat → Prop) (X : World) : KeepsIn S X X := ⟨Nat.le_refl _, fun _ _ _ => rfl⟩
theorem KeepsIn.trans {S : Nat → Prop} {X Y Z : World} (h : KeepsIn S X Y) (k : KeepsIn S Y Z) : KeepsIn S X Z :=
  ⟨Nat.le_trans h.size k.size, fun i hi hx => (k.same i hi (Nat.lt_of_lt_of_le hx h.size)).trans (h.same i hi hx)⟩
theorem KeepsIn.mem {S : Nat → Prop} {X Y : World} (m : Mem X Y) : KeepsIn S X Y := ⟨m.size, fun k _ hk => m.block k hk⟩
theorem KeepsIn.cell {S : Nat → Prop} {X Y : World} (h : KeepsIn S X Y) {p : Addr} (hp : S p.block) {v : Value} (hc : X.cell? p = some v) : Y.cell? p = some v :=
  (World.cell?_of_block (h.same p.block hp (World.block_lt_of_cell? X p hc))).trans hc
theorem KeepsIn.blk {S : Nat → Prop} {X Y : World} (h : KeepsIn S X Y) {b : Nat} (hb : S b) {t : TypeId} {cs : Array Value} (hc : Blk X b t cs) : Blk Y b t cs :=
  (h.same b hb hc.lt).trans hc
theorem KeepsIn.blocks {S S' : Nat → Prop} {X Y : World} (h : KeepsIn S X Y) (hS : ∀ k, S' k → S k) {v : Value} {bs : List BlockT} (hz : BlocksAt S' X v bs) : BlocksAt S' Y v bs :=
  hz.kept fun g hg hl => ⟨hg, fun off => World.cell?_of_block (a := ⟨g, off, none⟩) (h.same g (hS g hg) hl)⟩
theorem KeepsIn.turned {S : Nat → Prop} {X : World} {k : Nat} (hk : ¬ S k) (o : Obj) : KeepsIn S X (X.putObj k o) :=
  ⟨by simp [World.putObj], fun i hi _ => World.putObj_heap_other (fun e => hk (e ▸ hi))⟩
theorem KeepsIn.setCell {S : Nat → Prop} {X : World} {p : Addr} (hp : ¬ S p.block) (x : Value) : KeepsIn S X (X.setCell p x) :=
  ⟨by simp, fun i hi _ => Below.heap_setCell X p x i (fun e => hp (e ▸ hi))⟩
theorem grown_of_mem {w w' : World} (m : Mem w w') : w.grownBy w' none := ⟨m.os, m.tape, m.output, m.size, fun k hk _ => m.block k hk⟩
theorem abides_mem {β : Type} {B : Nat} {J : β → World → Prop} (h : AbidesFrom B J) {s : β} {w w' : World} (hs : J s w) (m : Mem w w') : J s w' :=
  h s w w' none hs (grown_of_mem m) (fun r e => by cases e)

set_option maxRecDepth 100000 in
set_option maxHeartbeats 8000000 in
theorem in1 (n t Bc Bo Bs B : Nat) (hn : 1 ≤ n) (oa : Option Addr) (ca : Nat) (bs : List BlockT) (br off : Bool) (ops o s : Int) (S S' : Nat → Prop) (hS : ∀ k, S' k → S k) (hSc : S Bc) (hSo : S Bo) (hSs : S Bs) (hlen : bs.length ≤ 1000) (w0 : World) (hc : Blk w0 Bc 24 #[.slice oa bs.length ca, .bool br, .bool off, .int .i64 ops]) (ho : w0.cell? ⟨Bo, 0, none⟩ = some (.int .i64 o)) (hs : w0.cell? ⟨Bs, 0, none⟩ = some (.int .i64 s)) (hb : BlocksAt S' w0 (.slice oa bs.length ca) bs) (J Jx : List Nat → World → Prop) (hJ : AbidesFrom B J)
    (hY : ∀ pre x W, J pre W → pre.length < bs.length → x < bs.length → YieldAt Fence.wide (n - 1) Try.prog t #[.int .i64 ((x : Nat) : Int)] W fun e W' =>
      (e = .returned (.bool true) ∧ J (pre ++ [x]) W' ∧ KeepsIn S W W') ∨ (e = .returned (.bool false) ∧ Jx (pre ++ [x]) W'))
    (W : World) (hW : KeepsIn S w0 W) (h0 : J [] W) :
    CallsIn Fence.wide n Try.prog 34 #[.func (.yield t) #[] #[], .pointer (some ⟨Bc, 0, none⟩), .pointer (some ⟨Bo, 0, none⟩), .pointer (some ⟨Bs, 0, none⟩)] W fun e W' => (∃ v, e = .returned v) ∧
      ((∃ ys, ys = insN bs o s bs.length ∧ J ys W') ∨ (∃ pre, True ∧ Jx pre W')) := by
  have w11 : Fence.wide.fn 11 := trivial
  have hc0 := (hW.blk hSc hc).cell (j := 0) rfl
  refine callsIn_of_wp Try.func34 rfl trivial ?_ rfl
  simp only [Try.ntmps34, List.size_toArray, List.length_cons, List.length_nil, Nat.reduceAdd, Nat.reduceSub, Array.replicate_succ, Array.replicate_zero, List.push_toArray, List.append_toArray, List.nil_append, List.cons_append]
  gi_wp2
  gi_loopw [9] (fun i wr => ∃ k : Nat, k ≤ bs.length ∧ i = .int .i64 k ∧ J (insN bs o s k) wr ∧ KeepsIn S w0 wr) (fun i _ => bs.length - (intOf i).toNat)
  case atStart => exact ⟨0, Nat.zero_le _, rfl, h0, hW⟩
  case round =>
    clear hc0
    obtain ⟨k, hk, rfl, hJk, hmr⟩ := hrel
    by_cases hlt : k < bs.length
    · have hlt' : (k : Int) < (bs.length : Int) := by omega
      have hk0 : (0 : Int) ≤ (k : Int) := by omega
      have hcr := hmr.blk hSc hc
      have e0 := hcr.cell (j := 0) rfl
      have e1 := hcr.cell (j := 1) rfl
      have e2 := hcr.cell (j := 2) rfl
      have e3 := hcr.cell (j := 3) rfl
      have eo := hmr.cell hSo ho
      have es := hmr.cell hSs hs
      have hbr := hide (hmr.blocks hS hb)
      have HYes := hide (ins_yes (bs := bs) (o := o) (s := s) (k := k))
      have HNo := hide (ins_no (bs := bs) (o := o) (s := s) (k := k))
      have hln := ins_le bs o s k
      have HST := hide (fun w' h => (callsIn_wide (n := n - 1)).2 (codeState S' (.slice oa bs.length ca) bs br off ops o (k : Int) w' h))
      generalize stateT bs o k = st at *
      by_cases h2 : st = s
      · subst h2
        have HE := hide (HYes.out rfl)
        have heq : (st == st) = true := by simp
        have HYz : Hid (∀ X1 : World, Mem wr X1 → YieldAt Fence.wide (n - 1) Try.prog t #[.int .i64 (k : Int)] X1 fun e Y => ∃ bo : Bool, e = .returned (.bool bo) ∧
            ((bo = true ∧ J (insN bs o st (k + 1)) Y ∧ KeepsIn S w0 Y) ∨ (bo = false ∧ Jx (insN bs o st (k + 1)) Y))) := by
          intro X1 m1
          refine YieldAt.mono (hY _ k X1 (abides_mem hJ hJk m1) (by omega) hlt) ?_
          rintro e Y (⟨rfl, h3, h4⟩ | ⟨rfl, h3⟩)
          · exact ⟨true, rfl, .inl ⟨rfl, by rw [HE.out]; exact h3, (hmr.trans (KeepsIn.mem m1)).trans h4⟩⟩
          · exact ⟨false, rfl, .inr ⟨rfl, by rw [HE.out]; exact h3⟩⟩
        clear HYes HNo hY hJ
        gi_wp2
        gi_region_with (first
          | (gi_at_call 11; refine (HST.out _ (hbr.out.mem ((Mem.refl wr).drew))).mono ?_; rintro e w1 ⟨rfl, m1⟩; replace m1 : Mem wr w1 := Mem.trans ((Mem.refl wr).drew) m1; have es1 := (Below.cell m1 (p := ⟨Bs, 0, none⟩) (World.block_lt_of_cell? wr _ es)).trans es; obtain ⟨fn, tmps, assign, body, hy, hR⟩ := HYz.out w1 m1)
          | (refine hR.mono ?_; rintro e W3 ⟨bo, rfl, hbo⟩))
        all_goals (rcases hbo with ⟨rfl, hJ3, hk3⟩ | ⟨rfl, hJx3⟩)
        all_goals gi_wp2
        all_goals first
          | (refine bodyPost_ret (results_none rfl _ _ _) rfl ?_
             exact ⟨⟨_, rfl⟩, .inr ⟨_, trivial, hJx3⟩⟩)
          | (go_roundw
             case rel => exact ⟨k + 1, by omega, by go_num, hJ3, hk3⟩
             case measure => simp [intOf]; omega)
      · have HE := hide (HNo.out h2)
        have heq : (st == s) = false := by simpa using h2
        have HF := hide (fun w1 (m1 : Mem wr w1) => show J (insN bs o s (k + 1)) w1 ∧ KeepsIn S w0 w1 from ⟨by rw [HE.out]; exact abides_mem hJ hJk m1, hmr.trans (KeepsIn.mem m1)⟩)
        clear HYes HNo hY hJ
        gi_wp2
        first
          | (gi_region_with (first
              | (gi_at_call 11; refine (HST.out _ (hbr.out.mem ((Mem.refl wr).drew))).mono ?_; rintro e w1 ⟨rfl, m1⟩; replace m1 : Mem wr w1 := Mem.trans ((Mem.refl wr).drew) m1; have es1 := (Below.cell m1 (p := ⟨Bs, 0, none⟩) (World.block_lt_of_cell? wr _ es)).trans es)
              | (with_reducible refine And.intro (fun _ (h : none = some _) => (by cases h)) ?_)))
          | fail
        all_goals gi_wp2
        all_goals (
          go_roundw
          case rel => exact ⟨k + 1, by omega, by go_num, (HF.out w1 m1).1, (HF.out w1 m1).2⟩
          case measure => simp [intOf]; omega)
    · have hke : k = bs.length := by omega
      subst hke
      have hlt' : ¬ ((bs.length : Int) < (bs.length : Int)) := by omega
      gi_wp2
      go_end0
      exact ⟨⟨_, rfl⟩, .inl hJk⟩
end Go.Proofs.Ytlgofanenkbgoaa.States
