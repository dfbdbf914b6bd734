/-
  Layer 9, the program: a copy of slots; one slot written; the iterators' makers; the way.
-/
import Derived.Test.YtedopplldpcinaaIndexLaw
namespace Go.Proofs.Ytedopplldpcinaa.Index
open Go.RowKit Go.Shelf Go.Proofs.Ytedopplldpcinaa.Scan
attribute [local go_sem] Oper.semAt_some

theorem eqIn_nil (w : World) (n : Nat) (t e : TypeId) (a : Option Addr) (l c : Nat) (h : Try.prog.underlying t = some (.slice e)) : (Op.equalIn (n + 1) t (.slice a l c) (.slice none 0 0)).run Try.prog w = .ok a.isNone w := by
  cases a <;> simp [Op.equalIn, run_underlying h]
theorem eq_nil (w : World) (t e : TypeId) (a : Option Addr) (l c : Nat) (h : Try.prog.underlying t = some (.slice e)) : (Op.equal t (.slice a l c) (.slice none 0 0)).run Try.prog w = .ok a.isNone w := eqIn_nil w 9999 t e a l c h
theorem eql_nil (w : World) (t e : TypeId) (a : Option Addr) (l c : Nat) (h : Try.prog.underlying t = some (.slice e)) : (binOp .eql t (.slice a l c) (.slice none 0 0)).run Try.prog w = .ok (.bool a.isNone) w := by
  simp [binOp, eq_nil w t e a l c h]
theorem info_slot3 : (Try.prog.info? 102).map (·.size) = some 3 := by kernel_rfl
theorem results_cellS {fn : Func} {p : Tmp} (h : fn.results = #[.cell p 102]) (tmps : Array Value) (w : World) {b : Nat} {a0 a1 a2 : Value} (hp : tmps.getD p undef = .pointer (some ⟨b, 0, none⟩)) (hb : Blk w b 102 #[a0, a1, a2]) :
    (results fn tmps).run Try.prog w = .ok (.agg #[a0, a1, a2]) w :=
  results_cell_row h tmps w b 102 #[a0, a1, a2] (0, 0) _ hp hb Try.underlying102 rfl info_slot3
set_option maxHeartbeats 1000000 in
set_option maxRecDepth 100000 in
theorem codeUsed (q p : Int) (w : World) : Calls Try.prog 70 #[.int .i64 q, .int .i64 p] w fun e w' => e = .returned (.agg #[.int .i64 1, .int .i64 q, .int .i64 p]) ∧ Mem w w' := by
  go_enter Try.func70, Try.ntmps70
  go_wp2_with fail
  refine bodyPost_ret (results_cellS rfl _ _ rfl (Blk.new w _ _)) rfl ?_
  exact ⟨rfl, (Mem.refl w).alloc _⟩
set_option maxRecDepth 100000 in
/-- all of a slice's slots, onto an empty one of one's own -/
theorem run_append_slots0 {S : Nat → Prop} (w : World) (ty : TypeId) (ad : Addr) (n cap : Nat) (l : List SlotT) (hz : SlotsAt S w (.slice (some ad) n cap) l) (hn : n = l.length) (hl : l.length ≤ 1000) (base : Nat) (s : Value) (hown : w.ownsRow base 102 3 s 0 []) (hb : base ≤ w.heap.size) :
    ∃ v' w', (Builtin.append_ #[69, 69] ty #[s, .slice (some ad) n cap]).run Try.prog w = .ok v' w' ∧ w'.ownsRow base 102 3 v' l.length (sCells l) ∧ w.grownBy w' s.ownBlock := by
  obtain ⟨i0, hi, hz0, hz1, hz2⟩ := info_parts info_slot
  subst hn
  obtain ⟨v', w', h1, h2, h3, _, h5⟩ := run_append_own_at (P := Try.prog) w base 69 ty 102 i0 (.agg #[.int .i64 0, .int .i64 0, .int .i64 0]) 3 24 Try.underlying69 hi hz0 hz1 hz2 rfl (by decide) s 0 [] hown ad l.length cap (sCells l) (sCells_length l)
      (by
        intro j u hj
        have hjl : j < l.length * 3 := by have := (List.getElem?_eq_some_iff.1 hj).1; rwa [sCells_length] at this
        obtain ⟨b, off, e, _, hc⟩ := hz.at (by omega)
        injection e with e
        subst e
        have hadd : (⟨b, off, none⟩ : Addr).add j = ⟨b, off + j, none⟩ := by simp [Addr.add]
        have hi3 : j / 3 < l.length := by omega
        have hj3 : j % 3 < 3 := by omega
        have hg := sCells_get hi3 hj3
        rw [show j / 3 * 3 + j % 3 = j by omega] at hg
        obtain ⟨c0, c1, c2⟩ := hc (j / 3) hi3
        rw [hadd, ← hj, hg]
        rcases (show j % 3 = 0 ∨ j % 3 = 1 ∨ j % 3 = 2 by omega) with e3 | e3 | e3
        · rw [e3, show off + j = off + j / 3 * 3 by omega, c0]; rfl
        · rw [e3, show off + j = off + j / 3 * 3 + 1 by omega, c1]; rfl
        · rw [e3, show off + j = off + j / 3 * 3 + 2 by omega, c2]; rfl)
      (by
        intro u hu
        unfold sCells at hu
        obtain ⟨s, _, hs⟩ := List.mem_flatMap.1 hu
        simp [encS] at hs
        rcases hs with rfl | rfl | rfl <;> rfl) (by unfold maxLen; omega) (by omega) hb
  exact ⟨v', w', h1, by simpa using h2, h3⟩
/-- at the operation -/
theorem pushSlots0 {S : Nat → Prop} {ops : Array Oper} {rest : List Oper} {o : Oper} {a : Act} {Q : Exit → Act → World → Prop} {w : World} (hgd : o.guard = none) (s x : Operand)
    (ho : o.op = .call { callee := .builtin .append, args := #[s, x], argTypes := #[69, 69] })
    (base : Nat) (sv : Value) (hs : a.eval s = sv) (hown : w.ownsRow base 102 3 sv 0 []) (hb : base ≤ w.heap.size) (ad : Addr) (n cap : Nat) (l : List SlotT) (hx : a.eval x = .slice (some ad) n cap) (hz : SlotsAt S w (.slice (some ad) n cap) l) (hn : n = l.length) (hl : l.length ≤ 1000)
    (h : ∀ v' w', w'.ownsRow base 102 3 v' l.length (sCells l) → w.grownBy w' sv.ownBlock → wpList Try.prog ops Q rest (a.put o.dst v') w') :
    wpList Try.prog ops Q (o :: rest) a w := by
  refine wpList_plain hgd fun K hK => ?_
  obtain ⟨v', w', hr, h2, h3⟩ := run_append_slots0 w o.type ad n cap l hz hn hl base sv hown hb
  unfold Oper.wp execOp
  simp only [ho, resolve, invoke, builtin, Sem.run_bind, Sem.run_pure, Result.andThen_ok, List.map_toArray, List.map_cons, List.map_nil, hs, hx, hr]
  exact hK _ _ (h v' w' h2 h3)
set_option maxRecDepth 100000 in
theorem codeClone (S : Nat → Prop) (v : Value) (l : List SlotT) (w : World) (hz : SlotsAt S w v l) (hl : l.length ≤ 1000) :
    Calls Try.prog 94 #[v] w fun e w' => (∃ v', e = .returned v' ∧ w'.ownsRow w.heap.size 102 3 v' l.length (sCells l)) ∧ Mem w w' := by
  obtain ⟨oa, ca, rfl⟩ := hz.shape
  cases oa with
  | none =>
    have h0 : l = [] := by
      rcases hz.2 with ⟨h, _⟩ | ⟨b, off, cap', hv, _⟩
      · exact h
      · injection hv with ha; cases ha
    subst h0
    clear hz
    have hnil := fun w' => eql_nil w' 69 102 none 0 ca Try.underlying69
    go_enter Try.func94, Try.ntmps94
    go_wp2_with fail
    go_ret
    exact ⟨⟨_, rfl, World.ownsRow_nil _ _ _ _⟩, Mem.refl _⟩
  | some ad =>
    have hnil := fun w' => eql_nil w' 69 102 (some ad) l.length ca Try.underlying69
    go_enter Try.func94, Try.ntmps94
    have hE : (w.alloc (.cells #[] 102)).ownsRow w.heap.size 102 3 (.slice (some ⟨w.heap.size, 0, none⟩) 0 0) 0 [] := ⟨rfl, .inr ⟨w.heap.size, 0, #[], rfl, Nat.le_refl _, heap_alloc_new w _, Nat.le_refl _, by simp [maxLen], rfl, rfl⟩⟩
    have hm : Mem w (w.alloc (.cells #[] 102)) := (Mem.refl w).alloc _
    replace hz := hz.mem hm
    go_wp2_with (at_builtin; refine pushSlots0 rfl _ _ rfl w.heap.size _ rfl hE hm.size ad l.length ca l rfl hz rfl hl ?_; intro v' w' h1 h2)
    go_ret
    exact ⟨⟨_, rfl, h1⟩, Below.trans hm ((Below.refl _ _).grown h2 hm.size (fun k hk => (hE.lt k hk).1))⟩
set_option maxRecDepth 100000 in
set_option maxHeartbeats 1000000 in
theorem codeWith (S : Nat → Prop) (v : Value) (l : List SlotT) (i : Nat) (s : SlotT) (w : World) (hz : SlotsAt S w v l) (hl : l.length ≤ 1000) (hi : i < l.length) :
    Calls Try.prog 72 #[v, .int .i64 (i : Int), .agg #[.int .i64 s.1, .int .i64 s.2.1, .int .i64 s.2.2]] w fun e w' => (∃ v', e = .returned v' ∧ SlotsAt (fun x => w.heap.size ≤ x) w' v' (l.set i s)) ∧ Mem w w' := by
  obtain ⟨s0, s1, s2⟩ := s
  have hi' : (i : Int) < (l.length : Int) := by omega
  have hi0 : (0 : Int) ≤ (i : Int) := by omega
  have hm0 : Mem w (w.alloc (.cells #[.int .i64 s0, .int .i64 s1, .int .i64 s2] 102)) := (Mem.refl w).alloc _
  have hB := Blk.new w #[.int .i64 s0, .int .i64 s1, .int .i64 s2] 102
  simp only []
  go_enter Try.func72, Try.ntmps72
  go_wp2_with (go_at_call 94; refine (codeClone S v l _ (hz.mem hm0) hl).mono ?_; rintro e w2 ⟨⟨v2, rfl, o2⟩, m2⟩; obtain ⟨ob, cb, g, rfl, hR, hg⟩ := RowS.of_owns 0 o2 rfl; have hge := (hg.resolve_right (fun h => by have := h.1; subst this; simp at hi)).1; rw [World.size_alloc] at hge; obtain rfl := hR.addr (by omega); obtain ⟨c0, c1, c2⟩ := hR.cells hi; have f0 := hR.frozen (by omega) (i * 3); have f1 := hR.frozen (by omega) (i * 3 + 1); have f2 := hR.frozen (by omega) (i * 3 + 2); have hB2 := hB.mem m2; have b0 := hB2.cell (j := 0) rfl; have b1 := hB2.cell (j := 1) rfl; have b2 := hB2.cell (j := 2) rfl)
  have hR2 := hR.set hi s0 s1 s2
  have hmg : w.heap.size ≤ g := by omega
  have hm2 := ((hm0.trans m2).setCell (p := ⟨g, i * 3, none⟩) hmg (.int .i64 s0)).setCell (p := ⟨g, i * 3 + 1, none⟩) hmg (.int .i64 s1) |>.setCell (p := ⟨g, i * 3 + 2, none⟩) hmg (.int .i64 s2)
  have hs2 := hR2.slots (S := fun x => w.heap.size ≤ x) (by rw [List.length_set]; unfold maxLen; omega) hmg cb
  rw [List.length_set] at hs2
  go_ret
  exact ⟨⟨_, rfl, hs2⟩, hm2⟩
set_option maxRecDepth 100000 in
theorem codeWay (oa : Option Addr) (n ca : Nat) (q : Int) (w : World) : Calls Try.prog 69 #[.slice oa n ca, .int .i64 q] w fun e w' => e = .returned (.func (.func 93) #[] #[.pointer (some ⟨w.heap.size + 1, 0, none⟩), .pointer (some ⟨w.heap.size, 0, none⟩)]) ∧ w' = (w.alloc (.cells #[.slice oa n ca] 69)).alloc (.cells #[.int .i64 q] 3) := by
  go_enter Try.func69, Try.ntmps69
  go_wp2_with fail
  go_ret
  simp
set_option maxRecDepth 100000 in
theorem codeHaving (oa : Option Addr) (n ca : Nat) (q : Int) (w : World) : Calls Try.prog 50 #[.slice oa n ca, .int .i64 q] w fun e w' => e = .returned (.func (.func 68) #[] #[.pointer (some ⟨w.heap.size, 0, none⟩), .pointer (some ⟨w.heap.size + 1, 0, none⟩)]) ∧ w' = (w.alloc (.cells #[.slice oa n ca] 69)).alloc (.cells #[.int .i64 q] 3) := by
  go_enter Try.func50, Try.ntmps50
  go_wp2_with fail
  go_ret
  simp

/-! ### the way: all slots, one by one; what is told is the number of the step -/
/-- what is kept: all the blocks of which S holds -/
structure KeepsOn (S : Nat → Prop) (X Y : World) : Prop where
  size : X.heap.size ≤ Y.heap.size
  same : ∀ k, S k → k < X.heap.size → Y.heap[k]? = X.heap[k]?
theorem KeepsOn.refl (S : Nat → Prop) (X : World) : KeepsOn S X X := ⟨Nat.le_refl _, fun _ _ _ => rfl⟩
theorem KeepsOn.trans {S : Nat → Prop} {X Y Z : World} (h : KeepsOn S X Y) (k : KeepsOn S Y Z) : KeepsOn S X Z :=
  ⟨Nat.le_trans h.size k.size, fun i hi hx => (k.same i hi (Nat.lt_of_lt_of_le hx h.size)).trans (h.same i hi hx)⟩
theorem KeepsOn.mem {S : Nat → Prop} {X Y : World} (m : Mem X Y) : KeepsOn S X Y := ⟨m.size, fun k _ hk => m.block k hk⟩
theorem KeepsOn.cell {S : Nat → Prop} {X Y : World} (h : KeepsOn S X Y) {p : Addr} (hp : S p.block) {v : Value} (hc : X.cell? p = some v) : Y.cell? p = some v :=
  (World.cell?_of_block (h.same p.block hp (World.block_lt_of_cell? X p hc))).trans hc
theorem KeepsOn.slots {S S' : Nat → Prop} {X Y : World} (h : KeepsOn S X Y) (hS : ∀ k, S' k → S k) {v : Value} {l : List SlotT} (hz : SlotsAt S' X v l) : SlotsAt S' Y v l :=
  hz.kept fun g hg hl => ⟨hg, fun off => World.cell?_of_block (a := ⟨g, off, none⟩) (h.same g (hS g hg) hl)⟩
def encK (l : List SlotT) (q : Int) (k : Nat) : Array Value := #[.int .i64 (atN l.length q k), .agg #[.int .i64 (slot l (atN l.length q k)).1, .int .i64 (slot l (atN l.length q k)).2.1, .int .i64 (slot l (atN l.length q k)).2.2]]
def steps (l : List SlotT) (q : Int) : List Nat := if q < 0 then [] else List.range l.length
set_option maxRecDepth 100000 in
set_option maxHeartbeats 2000000 in
theorem way1 (n t Bl Bq : Nat) (hn : 1 ≤ n) (oa : Option Addr) (ca : Nat) (l : List SlotT) (q : Int) (S S' : Nat → Prop) (hS : ∀ k, S' k → S k) (hSl : S Bl) (hSq : S Bq) (hlen : l.length ≤ 1000) (w0 : World) (hl : w0.cell? ⟨Bl, 0, none⟩ = some (.slice oa l.length ca)) (hq : w0.cell? ⟨Bq, 0, none⟩ = some (.int .i64 q)) (hz : SlotsAt S' w0 (.slice oa l.length ca) l) (J Jx : List Nat → World → Prop)
    (hY : ∀ pre x W, J pre W → pre.length < l.length → YieldAt Fence.wide (n - 1) Try.prog t (encK l q x) W fun e W' =>
      (e = .returned (.bool true) ∧ J (pre ++ [x]) W' ∧ KeepsOn S W W') ∨ (e = .returned (.bool false) ∧ Jx (pre ++ [x]) W'))
    (W : World) (hW : KeepsOn S w0 W) (h0 : J [] W) :
    CallsIn Fence.wide n Try.prog 93 #[.func (.yield t) #[] #[], .pointer (some ⟨Bq, 0, none⟩), .pointer (some ⟨Bl, 0, none⟩)] W fun e W' => (∃ v, e = .returned v) ∧
      ((∃ ys, ys = steps l q ∧ J ys W') ∨ (∃ pre, (∃ k, k ≤ l.length ∧ 0 ≤ q ∧ pre = List.range k) ∧ Jx pre W')) := by
  have hl0 := hW.cell hSl hl
  have hq0 := hW.cell hSq hq
  refine callsIn_of_wp Try.func93 rfl trivial ?_ rfl
  simp only [Try.ntmps93, List.size_toArray, List.length_cons, List.length_nil, Nat.reduceAdd, Nat.reduceSub, Array.replicate_succ, Array.replicate_zero, List.push_toArray, List.append_toArray, List.nil_append, List.cons_append]
  by_cases h1 : q < 0
  · have HE : Hid (steps l q = []) := by show _ = _; unfold steps; rw [if_pos h1]
    have h1' : q ≤ -1 := by omega
    gi_wp2
    refine bodyPost_ret (results_none rfl _ _ _) rfl ?_
    exact ⟨⟨_, rfl⟩, .inl (by rw [HE.out]; exact ⟨_, rfl, h0⟩)⟩
  · have h1' : 0 ≤ q := by omega
    by_cases h2 : l.length = 0
    · have HE : Hid (steps l q = []) := by show _ = _; unfold steps; rw [if_neg h1, h2]; rfl
      have h2' : (l.length : Int) = 0 := by omega
      gi_wp2
      refine bodyPost_ret (results_none rfl _ _ _) rfl ?_
      exact ⟨⟨_, rfl⟩, .inl (by rw [HE.out]; exact h0)⟩
    · have HE : Hid (steps l q = List.range l.length) := by show _ = _; unfold steps; rw [if_neg h1]
      have h2' : (l.length : Int) ≠ 0 := by omega
      have h2p : (0 : Int) < (l.length : Int) := by omega
      obtain ⟨m, rfl⟩ := Int.eq_ofNat_of_zero_le h1'
      have hr : m % l.length < l.length := Nat.mod_lt _ (by omega)
      have hr0 : (0 : Int) ≤ (m : Int) % (l.length : Int) := by omega
      have hr1 : (m : Int) % (l.length : Int) < (l.length : Int) := by omega
      have HV : Hid (∀ i : Nat, ((m : Int) % (l.length : Int) + (i : Int)) % (l.length : Int) = ((atN l.length (m : Int) i : Nat) : Int)) := by
        intro i
        show _ = _
        unfold atN
        rw [Int.toNat_natCast, Int.natCast_emod, Int.natCast_add, Int.natCast_emod]
      have hn1 : (l.length : Int) ≤ 1000 := by omega
      have hd1 : decide ((m : Int) < 0) = false := by simp
      have hd2 : ((l.length : Int) == 0) = false := by simpa using h2
      clear h1
      gi_wp2
      gi_loopw [20] (fun i wr => ∃ k : Nat, k ≤ l.length ∧ i = .int .i64 k ∧ J (List.range k) wr ∧ KeepsOn S w0 wr) (fun i _ => l.length - (intOf i).toNat)
      case atStart => exact ⟨0, Nat.zero_le _, rfl, h0, hW⟩
      case round =>
        clear hl0 hq0
        obtain ⟨k, hk, rfl, hJk, hmr⟩ := hrel
        by_cases hlt : k < l.length
        · have hlt' : (k : Int) < (l.length : Int) := by omega
          have hk0 : (0 : Int) ≤ (k : Int) := by omega
          have hl1 := hmr.cell hSl hl
          obtain ⟨ab, ao, hoa, _, hc⟩ := (hmr.slots hS hz).at (by omega)
          subst hoa
          have hal : atN l.length (m : Int) k < l.length := atN_lt hlt
          obtain ⟨d0, d1, d2⟩ := hc _ hal
          have HK := HV.out k
          obtain ⟨fn, tmps, assign, body, hy, hR⟩ := hY (List.range k) k wr hJk (by simpa using hlt)
          unfold encK at hy
          clear hc
          generalize atN l.length (m : Int) k = A at *
          generalize slot l A = s at *
          have hal' : (A : Int) < (l.length : Int) := by omega
          have ha0 : (0 : Int) ≤ (A : Int) := by omega
          rw [← List.range_succ] at hR
          gi_wp2
          refine hR.mono ?_
          rintro e W3 (⟨rfl, hJ3, hk3⟩ | ⟨rfl, hJx3⟩)
          · have hm3 := hmr.trans hk3
            gi_wp2
            go_roundw
            case rel => exact ⟨k + 1, by omega, by go_num, hJ3, hm3⟩
            case measure => simp [intOf]; omega
          · gi_wp2
            refine bodyPost_ret (results_none rfl _ _ _) rfl ?_
            exact ⟨⟨_, rfl⟩, .inr ⟨_, ⟨k + 1, by omega, h1', rfl⟩, hJx3⟩⟩
        · have hke : k = l.length := by omega
          subst hke
          have hlt' : ¬ ((l.length : Int) < (l.length : Int)) := by omega
          gi_wp2
          go_end0
          exact ⟨⟨_, rfl⟩, .inl (by rw [HE.out]; exact hJk)⟩
theorem way_stops (n Bl Bq : Nat) (hn : 1 ≤ n) (oa : Option Addr) (ca : Nat) (l : List SlotT) (q : Int) (S S' : Nat → Prop) (hS : ∀ k, S' k → S k) (hSl : S Bl) (hSq : S Bq) (hlen : l.length ≤ 1000) (w0 : World) (hl : w0.cell? ⟨Bl, 0, none⟩ = some (.slice oa l.length ca)) (hq : w0.cell? ⟨Bq, 0, none⟩ = some (.int .i64 q)) (hz : SlotsAt S' w0 (.slice oa l.length ca) l) :
    SeqStopsK Fence.wide n Try.prog 93 #[.pointer (some ⟨Bq, 0, none⟩), .pointer (some ⟨Bl, 0, none⟩)] (encK l q) (KeepsOn S) (fun ys => ys = steps l q) (fun pre => ∃ k, k ≤ l.length ∧ 0 ≤ q ∧ pre = List.range k) l.length w0 := fun t J Jx W hW _ _ hY h0 =>
  way1 n t Bl Bq hn oa ca l q S S' hS hSl hSq hlen w0 hl hq hz J Jx hY W (KeepsOn.mem hW) h0
/-- what is asked of having -/
def HavingTells : Prop := ∀ (S₀ : Nat → Prop) (n₀ Bl Bq : Nat), (∀ k, k < n₀ → S₀ k) → S₀ Bq → ∀ (oa : Option Addr) (ca : Nat) (l : List SlotT) (q : Int), l.length ≤ 1000 → ∀ w0 : World, w0.cell? ⟨Bl, 0, none⟩ = some (.slice oa l.length ca) → w0.cell? ⟨Bq, 0, none⟩ = some (.int .i64 q) → SlotsAt (fun x => x < n₀) w0 (.slice oa l.length ca) l →
    Tells Try.prog S₀ 68 #[.pointer (some ⟨Bl, 0, none⟩), .pointer (some ⟨Bq, 0, none⟩)] (encK l q) (fun ys => ys.map (atN l.length q) = slotsT l q) (fun pre => pre.map (atN l.length q) <+: slotsT l q) l.length w0
end Go.Proofs.Ytedopplldpcinaa.Index
