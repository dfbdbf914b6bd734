/-
  Layer 10, the program: Pick.
-/
import Derived.Test.YtlgofanenkbgoaaStatesQuiet
import Derived.Test.YtlgofanenkbgoaaStatesMany
namespace Go.Proofs.Ytlgofanenkbgoaa.States
open Go.RowKit Go.Shelf Go.Proofs.Ytlgofanenkbgoaa.Nand
attribute [local go_sem] Oper.semAt_some

def pickI (bs : List BlockT) (j : Option Nat) (k : Nat) : Option Nat :=
  match j with
  | none => some k
  | some j => if erT bs k < erT bs j then some k else some j
def pickL (bs : List BlockT) (l : List Nat) : Option Nat := l.foldl (pickI bs) none
theorem pickL_snoc (bs : List BlockT) (l : List Nat) (x : Nat) : pickL bs (l ++ [x]) = pickI bs (pickL bs l) x := by unfold pickL; rw [List.foldl_append]; rfl
theorem pickL_ins (bs : List BlockT) (o : Int) (k : Nat) : pickL bs (insN bs o 0 k) = pickN bs o k := by
  induction k with
  | zero => rfl
  | succ k ih =>
    by_cases h : stateT bs o k = 0
    · rw [ins_yes h, pickL_snoc, ih]
      cases hp : pickN bs o k with
      | none => rw [pick_first hp h]; rfl
      | some j =>
        unfold pickI
        by_cases he : erT bs k < erT bs j
        · rw [pick_new hp h he]; simp [he]
        · rw [pick_old hp (fun h => he h.2)]; simp [he]
    · rw [ins_no h, ih]
      cases hp : pickN bs o k with
      | none => rw [pick_none hp h]
      | some j => rw [pick_old hp (fun h2 => h h2.1)]
theorem er_at {bs : List BlockT} {k : Nat} (h : k < bs.length) : bs[k].2.2.1 = erT bs k := by unfold erT blkT; rw [List.getD_eq_getElem?_getD, List.getElem?_eq_getElem h]; rfl
def inB (bs : List BlockT) (l : List Nat) : Prop := ∀ j, pickL bs l = some j → j < bs.length

theorem in_stops_mod (n Bc Bo Bs : Nat) (hn : 1 ≤ n) (oa : Option Addr) (ca : Nat) (bs : List BlockT) (br off : Bool) (ops o s : Int) (S S' : Nat → Prop) (hS : ∀ k, S' k → S k) (hSc : S Bc) (hSo : S Bo) (hSs : S Bs) (hlen : bs.length ≤ 1000) (w0 : World) (hc : Blk w0 Bc 24 #[.slice oa bs.length ca, .bool br, .bool off, .int .i64 ops]) (ho : w0.cell? ⟨Bo, 0, none⟩ = some (.int .i64 o)) (hs : w0.cell? ⟨Bs, 0, none⟩ = some (.int .i64 s)) (hb : BlocksAt S' w0 (.slice oa bs.length ca) bs) :
    SeqStopsK Fence.wide n Try.prog 34 #[.pointer (some ⟨Bc, 0, none⟩), .pointer (some ⟨Bo, 0, none⟩), .pointer (some ⟨Bs, 0, none⟩)] (fun x : Nat => #[Value.int .i64 ((x % bs.length : Nat) : Int)]) (KeepsIn S) (fun ys => ys = insN bs o s bs.length) (fun _ => True) bs.length w0 := fun t J Jx W hW hJ _ hY h0 =>
  in1 n t Bc Bo Bs _ hn oa ca bs br off ops o s S S' hS hSc hSo hSs hlen w0 hc ho hs hb J Jx hJ (fun pre x W h1 h2 h3 => by have := hY pre x W h1 h2; simp only [Nat.mod_eq_of_lt h3] at this; exact this) W (KeepsIn.mem hW) h0
def mods (bs : List BlockT) (l : List Nat) : List Nat := l.map (· % bs.length)
theorem mods_ins (bs : List BlockT) (o s : Int) : mods bs (insN bs o s bs.length) = insN bs o s bs.length := by
  unfold mods
  conv => rhs; rw [← List.map_id (insN bs o s bs.length)]
  exact List.map_congr_left fun x hx => Nat.mod_eq_of_lt (ins_lt hx).1
theorem mods_snoc (bs : List BlockT) (l : List Nat) (x : Nat) : mods bs (l ++ [x]) = mods bs l ++ [x % bs.length] := by unfold mods; rw [List.map_append]; rfl
def optV (p : Option Nat) : Value := .int .i64 (optI p)
theorem blk_own {β : Type} {B b : Nat} {t : TypeId} {cs : Array Value} : OwnFrom B (fun (_ : β) X => Blk X b t cs) := fun _ X Y row hs hg hr =>
  (hg.block b hs.lt (fun e => by
    obtain ⟨_, o, ho, hc⟩ := hr b e.symm
    rw [show X.heap[b]? = _ from hs] at ho; cases ho; cases hc)).trans hs
theorem keepsFrom_mem {B : Nat} {X Y : World} (m : Mem X Y) : KeepsFrom B X Y := ⟨m.size, fun k _ _ hk _ => (m.block k (Array.getElem?_eq_some_iff.1 hk).1).trans hk⟩
/-- between two rounds -/
def PickJ (bs : List BlockT) (cs : Array Value) (w : World) (pre : List Nat) (X : World) : Prop :=
  (∀ j, pickL bs (mods bs pre) = some j → j < bs.length) ∧ Boxed X (w.heap.size + 1) 3 (optV (pickL bs (mods bs pre))) ∧ Blk X w.heap.size 24 cs ∧ Below w.heap.size w X
set_option maxRecDepth 100000 in
set_option maxHeartbeats 4000000 in
theorem codePick : PickSpec 18 := by
  intro S vb bs br off ops o w hb hl
  obtain ⟨oa, ca, rfl⟩ := hb.shape
  refine (callsIn_wide (n := 6)).1 ?_
  have w25 : Fence.wide.fn 25 := trivial
  have b0 := Blk.new w #[.slice oa bs.length ca, .bool br, .bool off, .int .i64 ops] 24
  have m1 : Mem w (w.alloc (.cells #[.slice oa bs.length ca, .bool br, .bool off, .int .i64 ops] 24)) := (Mem.refl w).alloc _
  simp only [chipV]
  refine callsIn_of_wp_marks Try.func18 rfl trivial ?_ rfl
  simp only [Try.ntmps18, List.size_toArray, List.length_cons, List.length_nil, Nat.reduceAdd, Nat.reduceSub, Array.replicate_succ, Array.replicate_zero, List.push_toArray, List.append_toArray, List.nil_append, List.cons_append]
  have c0 := b0.cell (j := 0) rfl
  have c1 := b0.cell (j := 1) rfl
  have c2 := b0.cell (j := 2) rfl
  have c3 := b0.cell (j := 3) rfl
  gi_wp2_with (gi_at_call 25; refine (callsIn_wide.2 (codeIn _ _ _ _ _ _ _ _ _)).mono ?_; rintro e w' ⟨rfl, rfl⟩)
  obtain ⟨w1, hw1⟩ : ∃ w1, w.alloc (.cells #[.slice oa bs.length ca, .bool br, .bool off, .int .i64 ops] 24) = w1 := ⟨_, rfl⟩
  have s1 : w1.heap.size = w.heap.size + 1 := by rw [← hw1]; simp
  rw [hw1] at m1
  have b0' : Blk w1 w.heap.size 24 #[.slice oa bs.length ca, .bool br, .bool off, .int .i64 ops] := by rw [← hw1]; exact b0
  clear b0 c0 c1 c2 c3
  rw [hw1]
  clear hw1
  obtain ⟨w2, hw2⟩ : ∃ w2, w1.alloc (.cells #[.int .i64 (-1)] 3) = w2 := ⟨_, rfl⟩
  have s2 : w2.heap.size = w.heap.size + 2 := by rw [← hw2]; simp [s1]
  have m2 : Mem w1 w2 := by rw [← hw2]; exact (Mem.refl w1).alloc _
  have b1 : Boxed w2 (w.heap.size + 1) 3 (.int .i64 (-1)) := by rw [← hw2, ← s1]; exact Boxed.new _ _ _
  rw [hw2]
  clear hw2
  obtain ⟨w3, hw3⟩ : ∃ w3, w2.alloc (.cells #[.slice oa bs.length ca, .bool br, .bool off, .int .i64 ops] 24) = w3 := ⟨_, rfl⟩
  have s3 : w3.heap.size = w.heap.size + 3 := by rw [← hw3]; simp [s2]
  have m3 : Mem w2 w3 := by rw [← hw3]; exact (Mem.refl w2).alloc _
  have b2 : Blk w3 (w.heap.size + 1 + 1) 24 #[.slice oa bs.length ca, .bool br, .bool off, .int .i64 ops] := by rw [← hw3, show w.heap.size + 1 + 1 = w2.heap.size by omega]; exact Blk.new _ _ _
  rw [hw3]
  clear hw3
  obtain ⟨w4, hw4⟩ : ∃ w4, w3.alloc (.cells #[.int .i64 o] 3) = w4 := ⟨_, rfl⟩
  have s4 : w4.heap.size = w.heap.size + 4 := by rw [← hw4]; simp [s3]
  have m4 : Mem w3 w4 := by rw [← hw4]; exact (Mem.refl w3).alloc _
  have b3 : Blk w4 (w.heap.size + 1 + 1 + 1) 3 #[.int .i64 o] := by rw [← hw4, show w.heap.size + 1 + 1 + 1 = w3.heap.size by omega]; exact Blk.new _ _ _
  rw [hw4]
  clear hw4
  obtain ⟨w5, hw5⟩ : ∃ w5, w4.alloc (.cells #[.int .i64 0] 3) = w5 := ⟨_, rfl⟩
  have s5 : w5.heap.size = w.heap.size + 5 := by rw [← hw5]; simp [s4]
  have m5 : Mem w4 w5 := by rw [← hw5]; exact (Mem.refl w4).alloc _
  have b4 : Blk w5 (w.heap.size + 1 + 1 + 1 + 1) 3 #[.int .i64 0] := by rw [← hw5, show w.heap.size + 1 + 1 + 1 + 1 = w4.heap.size by omega]; exact Blk.new _ _ _
  rw [hw5]
  clear hw5
  replace b3 := b3.mem m5
  have m35 := m4.trans m5
  replace b2 := b2.mem m35
  have m25 := m3.trans m35
  replace b1 : Boxed w5 (w.heap.size + 1) 3 (.int .i64 (-1)) := (m25.block _ b1.lt).trans b1
  have m15 := m2.trans m25
  have m05 := m1.trans m15
  have hb5 := ((hb.mono (S' := fun k => k < w.heap.size) (fun g _ hl => hl)).mem m05).mono (S' := fun k => k < w5.heap.size ∧ k ≠ w.heap.size + 1) (fun g hg hl => ⟨hl, by omega⟩)
  have b0 : Blk w5 w.heap.size 24 #[.slice oa bs.length ca, .bool br, .bool off, .int .i64 ops] := b0'.mem m15
  clear s1 s2 s3 s4 m1 m2 m3 m4 m5 m35 m25
  refine wpIn_rangeFunc_ownG rfl (by decide) (gf := 34) (lb := #[.pointer (some ⟨w.heap.size + 1 + 1, 0, none⟩), .pointer (some ⟨w.heap.size + 1 + 1 + 1, 0, none⟩), .pointer (some ⟨w.heap.size + 1 + 1 + 1 + 1, 0, none⟩)]) rfl trivial (enters_of Try.func34 (by kernel_rfl) rfl)
    (in_stops_mod 5 (w.heap.size + 1 + 1) (w.heap.size + 1 + 1 + 1) (w.heap.size + 1 + 1 + 1 + 1) (by decide) oa ca bs br off ops o 0 (fun k => k < w5.heap.size ∧ k ≠ w.heap.size + 1) (fun k => k < w5.heap.size ∧ k ≠ w.heap.size + 1) (fun _ h => h) (by show _ < _ ∧ _; omega) (by show _ < _ ∧ _; omega) (by show _ < _ ∧ _; omega) hl w5 b2 (b3.cell (j := 0) rfl) (b4.cell (j := 0) rfl) hb5)
    (fun h k => KeepsIn.trans h k) (fun X k o o' hk _ _ _ => KeepsIn.turned (by show ¬ (_ < _ ∧ _); omega) o') (Below.refl _ _) (fun _ => rfl)
    (PickJ bs #[.slice oa bs.length ca, .bool br, .bool off, .int .i64 ops] w)
    (fun _ _ _ => False)
    (OwnFrom.and (ownFrom_pure _ _) (OwnFrom.and (Own.from (boxed_own (w.heap.size + 1) 3 (fun (pre : List Nat) => optV (pickL bs (mods bs pre)))) _) (OwnFrom.and blk_own (ownFrom_below (Nat.le_refl _) (by omega)))))
    (fun _ _ _ _ _ hs _ _ => hs)
    ⟨fun _ h => (by cases h), b1, b0, m05⟩
    (fun x => { tmps := #[.agg #[.slice oa bs.length ca, .bool br, .bool off, .int .i64 ops], .int .i64 o, .pointer (some ⟨w.heap.size, 0, none⟩), undef, .int .i64 0, .pointer (some ⟨w.heap.size + 1, 0, none⟩), .int .i64 ((x % bs.length : Nat) : Int), .agg #[.slice oa bs.length ca, .bool br, .bool off, .int .i64 ops], .int .i64 o, .func (.func 34) #[] #[.pointer (some ⟨w.heap.size + 1 + 1, 0, none⟩), .pointer (some ⟨w.heap.size + 1 + 1 + 1, 0, none⟩), .pointer (some ⟨w.heap.size + 1 + 1 + 1 + 1, 0, none⟩)], .int .i64 ((x % bs.length : Nat) : Int), undef, undef, undef, undef, undef, undef, undef, undef, undef, undef, undef, undef, undef, undef, undef, undef, undef, undef, undef], defers := [] }) ?assign ?body ?done ?stop
  case assign =>
    intro l x X K hK
    gi_wp2
    simpa using hK
  case body =>
    rintro l pre x X ⟨hj, hv, hC, hB⟩ hlt
    have hx : x % bs.length < bs.length := Nat.mod_lt _ (by omega)
    have HP : Hid (pickL bs (mods bs (pre ++ [x])) = pickI bs (pickL bs (mods bs pre)) (x % bs.length)) := by show _ = _; rw [mods_snoc, pickL_snoc]
    have hbX := hb.mem hB
    have HBX := hide hbX
    obtain ⟨g, f, op, cp, rfl, _, _, _, x2, _, _⟩ := hbX.at hx
    rw [er_at hx] at x2
    have c0 := hC.cell (j := 0) rfl
    have hxs := hB.size
    have hn1 : (bs.length : Int) ≤ 1000 := by omega
    have FIN : Hid (∀ (q : Option Nat) (Y : World), Mem X Y → pickI bs (pickL bs (mods bs pre)) (x % bs.length) = q → (∀ j, q = some j → j < bs.length) → Boxed Y (w.heap.size + 1) 3 (optV q) → KeepsFrom w5.heap.size X Y ∧ KeepsIn (fun k => k < w5.heap.size ∧ k ≠ w.heap.size + 1) X Y ∧ PickJ bs #[.slice (some ⟨g, f, none⟩) bs.length ca, .bool br, .bool off, .int .i64 ops] w (pre ++ [x]) Y) := by
      intro q Y m hq hqb hY
      exact ⟨keepsFrom_mem m, KeepsIn.mem m, by rw [HP.out, hq]; exact hqb, by rw [HP.out, hq]; exact hY, hC.mem m, hB.trans (Below.mono m hxs)⟩
    have FIN2 : Hid (∀ (nq : Nat), pickI bs (pickL bs (mods bs pre)) (x % bs.length) = some (x % bs.length) → KeepsFrom w5.heap.size X ((X.drewN nq).setCell ⟨w.heap.size + 1, 0, none⟩ (.int .i64 ((x % bs.length : Nat) : Int))) ∧ KeepsIn (fun k => k < w5.heap.size ∧ k ≠ w.heap.size + 1) X ((X.drewN nq).setCell ⟨w.heap.size + 1, 0, none⟩ (.int .i64 ((x % bs.length : Nat) : Int))) ∧ PickJ bs #[.slice (some ⟨g, f, none⟩) bs.length ca, .bool br, .bool off, .int .i64 ops] w (pre ++ [x]) ((X.drewN nq).setCell ⟨w.heap.size + 1, 0, none⟩ (.int .i64 ((x % bs.length : Nat) : Int)))) := by
      intro nq hq
      have m : Mem X (X.drewN nq) := (Mem.refl X).drewN _
      have hv1 : Boxed (X.drewN nq) (w.heap.size + 1) 3 (optV (pickL bs (mods bs pre))) := (m.block _ hv.lt).trans hv
      refine ⟨(keepsFrom_mem m).trans ((KeepsOthers.setCell _ _ _).from _), (KeepsIn.mem m).trans (KeepsIn.setCell (by show ¬ (_ < _ ∧ _); simp) _), by rw [HP.out, hq]; intro j e; injection e with e; omega, by rw [HP.out, hq]; exact hv1.set _, (hC.mem m).other (a := ⟨w.heap.size + 1, 0, none⟩) (by show w.heap.size ≠ w.heap.size + 1; omega) _, (hB.trans (Below.mono m hxs)).setCell (p := ⟨w.heap.size + 1, 0, none⟩) (by show w.heap.size ≤ w.heap.size + 1; omega) _⟩
    clear HP
    generalize x % bs.length = y at *
    generalize pickL bs (mods bs pre) = p at *
    have hy0 : (0 : Int) ≤ (y : Int) := by omega
    have hy1 : (y : Int) < (bs.length : Int) := by omega
    cases p with
    | none =>
      have hc : X.cell? ⟨w.heap.size + 1, 0, none⟩ = some (.int .i64 (-1)) := hv.cell
      have hf := hv.frozen
      clear hb5 b1 b2 b3 b4 b0' b0 hbX hC hv hj FIN
      gi_wp2
      refine wpIn_quiet_round (F := Fence.wide) rfl (by kernel_rfl) (by kernel_rfl) (by kernel_rfl) ?_
      repeat (gi_big_quiet_step (fail))
      refine wpQuietIn_nil ?_
      rintro _ ⟨nq, rfl⟩
      gi_wp2
      exact FIN2.out nq rfl
    | some j =>
      have hjl := hj j rfl
      obtain ⟨g', f', op', cp', e', _, _, _, x2', _, _⟩ := HBX.out.at hjl
      injection e' with e'
      injection e' with e1 e2
      subst e1 e2
      rw [er_at hjl] at x2'
      have hc : X.cell? ⟨w.heap.size + 1, 0, none⟩ = some (.int .i64 (j : Int)) := hv.cell
      have hf := hv.frozen
      have hj0 : (0 : Int) ≤ (j : Int) := by omega
      have hj1 : (j : Int) < (bs.length : Int) := by omega
      have hdj : decide ((j : Int) < 0) = false := decide_eq_false (by omega)
      have hv1 : Hid (∀ nq, Boxed (X.drewN nq) (w.heap.size + 1) 3 (optV (some j))) := fun nq => (((Mem.refl X).drewN nq).block _ hv.lt).trans hv
      have HPY := hide (show erT bs y < erT bs j → pickI bs (some j) y = some y from fun h => if_pos h)
      have HPN := hide (show ¬ erT bs y < erT bs j → pickI bs (some j) y = some j from fun h => if_neg h)
      clear hb5 b1 b2 b3 b4 b0' b0 hbX hC hv hj HBX
      generalize erT bs y = ey at *
      generalize erT bs j = ej at *
      by_cases hlt2 : ey < ej
      · have HQ := hide (HPY.out hlt2)
        have hd : decide (ey < ej) = true := decide_eq_true hlt2
        clear HPY HPN FIN
        gi_wp2
        refine wpIn_quiet_round (F := Fence.wide) rfl (by kernel_rfl) (by kernel_rfl) (by kernel_rfl) ?_
        repeat (gi_big_quiet_step (fail))
        refine wpQuietIn_nil ?_
        rintro _ ⟨nq, rfl⟩
        gi_wp2
        exact FIN2.out nq HQ.out
      · have HQ := hide (HPN.out hlt2)
        have hd : decide (ey < ej) = false := decide_eq_false hlt2
        clear HPY HPN FIN2
        gi_wp2
        refine wpIn_quiet_round (F := Fence.wide) rfl (by kernel_rfl) (by kernel_rfl) (by kernel_rfl) ?_
        repeat (gi_big_quiet_step (fail))
        refine wpQuietIn_nil ?_
        rintro _ ⟨nq, rfl⟩
        gi_wp2
        exact FIN.out (some j) _ ((Mem.refl X).drewN _) HQ.out (fun i e => by injection e with e; omega) (hv1.out _)
  case done =>
    rintro D ys X hD rfl ⟨_, hv, _, hB⟩ hK
    rw [mods_ins, pickL_ins] at hv
    unfold optV at hv
    have hc := hv.cell
    gi_wp2
    refine ⟨by simp, .inl ⟨_, _, rfl, run_takeDeferred hK, ?_⟩⟩
    refine ⟨_, results_tmp rfl _ _ _, ?_, hB.trans (belowK_b (w := w) (Nat.le_refl _) X D _ _ (by omega) hK rfl rfl)⟩
    exact ret_int rfl
  case stop =>
    rintro D c pre X _ _ h _
    exact h.elim
end Go.Proofs.Ytlgofanenkbgoaa.States
