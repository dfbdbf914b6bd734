/-
  Layer 9, the program: Drop.
-/
import Derived.Test.YtmkfinjhbhfaeaaIndexWay
import Derived.Test.YtmkfinjhbhfaeaaIndexSame
namespace Go.Proofs.Ytmkfinjhbhfaeaa.Index
open Go.RowKit Go.Shelf Go.Proofs.Ytmkfinjhbhfaeaa.Scan
attribute [local go_sem] Oper.semAt_some

theorem slots_own {β : Type} {B : Nat} {S : Nat → Prop} {v : Value} {l : List SlotT} : OwnFrom B (fun (_ : β) X => SlotsAt S X v l) := fun _ X Y row hs hg hr => by
  refine ⟨hs.1, ?_⟩
  rcases hs.2 with h | ⟨b, off, cap, hv, h0, hb, hc⟩
  · exact .inl h
  · have hbl := World.block_lt_of_cell? X _ (hc 0 h0).1
    have hne : some b ≠ row := by
      intro e
      obtain ⟨_, o, ho, hcell⟩ := hr b e.symm
      have h1 := (hc 0 h0).1
      simp only [World.cell?, ho] at h1
      cases o <;> simp_all [Obj.isCells]
    have hk : ∀ i, Y.cell? ⟨b, i, none⟩ = X.cell? ⟨b, i, none⟩ := fun i => World.cell?_of_block (a := ⟨b, i, none⟩) (hg.block b hbl hne)
    exact .inr ⟨b, off, cap, hv, h0, hb, fun i hi => ⟨(hk _).trans (hc i hi).1, (hk _).trans (hc i hi).2.1, (hk _).trans (hc i hi).2.2⟩⟩
theorem load_slice {w : World} {b : Nat} {v : Value} (h : Blk w b 22 #[v]) : (loadVar 22 ⟨b, 0, none⟩).run Try.prog w = .ok v w := by
  have c := h.cell (j := 0) rfl
  simp [go_sem, c]
theorem load_errno9 {w : World} {b : Nat} {v : Value} (h : Blk w b 28 #[v]) : (loadVar 28 ⟨b, 0, none⟩).run Try.prog w = .ok v w := by
  have c := h.cell (j := 0) rfl
  simp [go_sem, c]
theorem results_slice {fn : Func} {p : Tmp} (h : fn.results = #[.cell p 22]) (tmps : Array Value) (w : World) {b : Nat} {v : Value} (hp : tmps.getD p undef = .pointer (some ⟨b, 0, none⟩)) (hb : Blk w b 22 #[v]) : (results fn tmps).run Try.prog w = .ok v w := by
  have hp' : tmps[p]?.getD undef = .pointer (some ⟨b, 0, none⟩) := by simpa using hp
  simp [results, h, hp', asAddr, load_slice hb]
theorem results_slice_errno {fn : Func} {p r : Tmp} (h : fn.results = #[.cell p 22, .cell r 28]) (tmps : Array Value) (w : World) {b c : Nat} {v u : Value} (hp : tmps.getD p undef = .pointer (some ⟨b, 0, none⟩)) (hr : tmps.getD r undef = .pointer (some ⟨c, 0, none⟩)) (hb : Blk w b 22 #[v]) (hc : Blk w c 28 #[u]) :
    (results fn tmps).run Try.prog w = .ok (.tuple #[v, u]) w := by
  have hp' : tmps[p]?.getD undef = .pointer (some ⟨b, 0, none⟩) := by simpa using hp
  have hr' : tmps[r]?.getD undef = .pointer (some ⟨c, 0, none⟩) := by simpa using hr
  simp [results, h, hp', hr', asAddr, load_slice hb, load_errno9 hc]
theorem slots_of_owns {w : World} {base : Nat} {v : Value} {l : List SlotT} (h : w.ownsRow base 42 3 v l.length (sCells l)) (hl : l.length ≤ 1000) : SlotsAt (fun x => base ≤ x) w v l := by
  obtain ⟨oa, cap, g, rfl, hR, hg⟩ := RowS.of_owns base h rfl
  refine hR.slots (by unfold maxLen; omega) ?_ cap
  rcases hg with h | h
  · exact h.1
  · omega
theorem Blk.putObj {X : World} {b D : Nat} {t : TypeId} {cs : Array Value} (h : Blk X b t cs) (hne : b ≠ D) (o : Obj) : Blk (X.putObj D o) b t cs := (World.putObj_heap_other hne).trans h

/-! ### which slot is dropped -/
def hitK (l : List SlotT) (q p : Int) (k : Nat) : Prop := (slot l (atN l.length q k)).1 = 1 ∧ (slot l (atN l.length q k)).2.1 = q ∧ (slot l (atN l.length q k)).2.2 = p
theorem hit_none {l : List SlotT} {q p : Int} {ps : List Nat} {ss : List Nat} (hp : ps.map (atN l.length q) = ss) (hs : ∀ k ∈ ss, isQ l q k = true) (h : ∀ a ∈ ps, ¬ hitK l q p a) : ss.find? (fun k => decide ((slot l k).2.2 = p)) = none := by
  rw [List.find?_eq_none]
  intro k hk h2
  have h3 := isQ_iff.1 (hs k hk)
  rw [← hp] at hk
  obtain ⟨a, ha, rfl⟩ := List.mem_map.1 hk
  exact h a ha ⟨h3.1, h3.2, by simpa using h2⟩
theorem drop_no {l : List SlotT} {q p : Int} {ys : List Nat} (hy : ys.map (atN l.length q) = slotsT l q) (h : ∀ a ∈ ys, ¬ hitK l q p a) : dropT l q p = l := by
  unfold dropT dropK
  rw [hit_none hy (fun k hk => (slotsT_mem hk).1) h]
theorem drop_yes {l : List SlotT} {q p : Int} {ps : List Nat} {x : Nat} (hy : (ps ++ [x]).map (atN l.length q) <+: slotsT l q) (h : ∀ a ∈ ps, ¬ hitK l q p a) (hx : hitK l q p x) : dropT l q p = l.set (atN l.length q x) (2, 0, 0) := by
  obtain ⟨rest, hr⟩ := hy
  have hs : ∀ k ∈ ps.map (atN l.length q), isQ l q k = true := fun k hk => (slotsT_mem (by rw [← hr]; simp at hk ⊢; exact .inl hk)).1
  have e : dropK l q p = some (atN l.length q x) := by
    unfold dropK
    rw [← hr, List.map_append, List.append_assoc, List.find?_append, hit_none rfl hs h]
    simp [hx.2.2]
  unfold dropT
  rw [e]

/-- between two rounds -/
def DropI (l : List SlotT) (q p : Int) (w6 : World) (_ : Nat) (pre : List Nat) (X : World) : Prop := (∀ a ∈ pre, ¬ hitK l q p a) ∧ Below w6.heap.size w6 X
/-- where a round was the last one: that slot is dropped -/
def DropX (S : Nat → Prop) (l : List SlotT) (q p : Int) (w : World) (_ : Nat) (pre : List Nat) (X : World) : Prop :=
  (∃ ps x, pre = ps ++ [x] ∧ (∀ a ∈ ps, ¬ hitK l q p a) ∧ hitK l q p x ∧ ∃ v, Blk X (w.heap.size + 1 + 1 + 1) 22 #[v] ∧ SlotsAt (fun k => S k ∨ w.heap.size ≤ k) X v (l.set (atN l.length q x) (2, 0, 0))) ∧ Below w.heap.size w X
theorem dropX_own {S : Nat → Prop} {l : List SlotT} {q p : Int} {w : World} {b B : Nat} (hB : w.heap.size ≤ B) : OwnFrom B (DropX S l q p w b) := by
  rintro s X Y row ⟨⟨ps, x, h1, h2, h3, v, hv, hz⟩, hb⟩ hg hr
  exact ⟨⟨ps, x, h1, h2, h3, v, blk_own (β := Unit) () X Y row hv hg hr, slots_own (β := Unit) () X Y row hz hg hr⟩, ownFrom_below (β := Unit) (Nat.le_refl _) hB () X Y row hb hg hr⟩

set_option maxRecDepth 100000 in
set_option maxHeartbeats 8000000 in
theorem codeDrop_of (H : HavingTells) : DropSpec 12 := by
  intro S v l q p w hz hl
  obtain ⟨oa, ca, rfl⟩ := hz.shape
  refine (callsIn_wide (n := 6)).1 ?_
  have w20 : Fence.wide.fn 20 := trivial
  have w21 : Fence.wide.fn 21 := trivial
  have w22 : Fence.wide.fn 22 := trivial
  have w23 : Fence.wide.fn 23 := trivial
  refine callsIn_of_wp_marks Try.func12 rfl trivial ?_ rfl
  simp only [Try.ntmps12, List.size_toArray, List.length_cons, List.length_nil, Nat.reduceAdd, Nat.reduceSub, Array.replicate_succ, Array.replicate_zero, List.push_toArray, List.append_toArray, List.nil_append, List.cons_append]
  gi_wp2_with (gi_at_call 20; refine (callsIn_wide.2 (codeHaving _ _ _ _ _)).mono ?_; rintro e w' ⟨rfl, rfl⟩)
  obtain ⟨w1, hw1⟩ : ∃ w1, w.alloc (.cells #[.slice oa l.length ca] 22) = w1 := ⟨_, rfl⟩
  have s1 : w1.heap.size = w.heap.size + 1 := by rw [← hw1]; simp
  have m1 : Mem w w1 := by rw [← hw1]; exact (Mem.refl w).alloc _
  have b0 : Blk w1 w.heap.size 22 #[.slice oa l.length ca] := by rw [← hw1]; exact Blk.new _ _ _
  rw [hw1]
  clear hw1
  obtain ⟨w2, hw2⟩ : ∃ w2, w1.alloc (.cells #[.int .i64 q] 3) = w2 := ⟨_, rfl⟩
  have s2 : w2.heap.size = w.heap.size + 2 := by rw [← hw2]; simp [s1]
  have m2 : Mem w1 w2 := by rw [← hw2]; exact (Mem.refl w1).alloc _
  have b1 : Blk w2 (w.heap.size + 1) 3 #[.int .i64 q] := by rw [← hw2, ← s1]; exact Blk.new _ _ _
  rw [hw2]
  clear hw2
  obtain ⟨w3, hw3⟩ : ∃ w3, w2.alloc (.cells #[.int .i64 p] 3) = w3 := ⟨_, rfl⟩
  have s3 : w3.heap.size = w.heap.size + 3 := by rw [← hw3]; simp [s2]
  have m3 : Mem w2 w3 := by rw [← hw3]; exact (Mem.refl w2).alloc _
  have b2 : Blk w3 (w.heap.size + 2) 3 #[.int .i64 p] := by rw [← hw3, ← s2]; exact Blk.new _ _ _
  rw [hw3]
  clear hw3
  obtain ⟨w4, hw4⟩ : ∃ w4, w3.alloc (.cells #[.slice none 0 0] 22) = w4 := ⟨_, rfl⟩
  have s4 : w4.heap.size = w.heap.size + 4 := by rw [← hw4]; simp [s3]
  have m4 : Mem w3 w4 := by rw [← hw4]; exact (Mem.refl w3).alloc _
  have b3 : Blk w4 (w.heap.size + 3) 22 #[.slice none 0 0] := by rw [← hw4, ← s3]; exact Blk.new _ _ _
  rw [hw4]
  clear hw4
  obtain ⟨w5, hw5⟩ : ∃ w5, w4.alloc (.cells #[.slice oa l.length ca] 22) = w5 := ⟨_, rfl⟩
  have s5 : w5.heap.size = w.heap.size + 5 := by rw [← hw5]; simp [s4]
  have m5 : Mem w4 w5 := by rw [← hw5]; exact (Mem.refl w4).alloc _
  have b4 : Blk w5 (w.heap.size + 4) 22 #[.slice oa l.length ca] := by rw [← hw5, ← s4]; exact Blk.new _ _ _
  rw [hw5]
  clear hw5
  obtain ⟨w6, hw6⟩ : ∃ w6, w5.alloc (.cells #[.int .i64 q] 3) = w6 := ⟨_, rfl⟩
  have s6 : w6.heap.size = w.heap.size + 6 := by rw [← hw6]; simp [s5]
  have m6 : Mem w5 w6 := by rw [← hw6]; exact (Mem.refl w5).alloc _
  have b5 : Blk w6 (w.heap.size + 5) 3 #[.int .i64 q] := by rw [← hw6, ← s5]; exact Blk.new _ _ _
  rw [hw6]
  clear hw6
  replace b4 := b4.mem m6
  have m46 := m5.trans m6
  replace b3 : Blk w6 (w.heap.size + 1 + 1 + 1) 22 #[.slice none 0 0] := b3.mem m46
  have m36 := m4.trans m46
  replace b2 : Blk w6 (w.heap.size + 1 + 1) 3 #[.int .i64 p] := b2.mem m36
  have m26 := m3.trans m36
  replace b1 := b1.mem m26
  have m16 := m2.trans m26
  replace b0 := b0.mem m16
  have m06 := m1.trans m16
  have hz6 := hz.mem m06
  have hz6o := hz.of_ints.mem m06
  clear m1 m2 m3 m4 m5 m6 m46 m36 m26 m16 s1 s2 s3 s4 s5
  have HT := H (fun k => k < w.heap.size + 6 ∧ k ≠ w.heap.size + 1 + 1 + 1) w.heap.size (w.heap.size + 4) (w.heap.size + 5) (fun k hk => ⟨by omega, by omega⟩) ⟨by omega, by omega⟩ oa ca l q hl w6 (b4.cell (j := 0) rfl) (b5.cell (j := 0) rfl) hz6o
  clear b4 b5 hz6o
  have HNO := hide (fun ys hy h => drop_no (l := l) (q := q) (p := p) (ys := ys) hy h)
  have HYES := hide (fun ps x hy h hx => drop_yes (l := l) (q := q) (p := p) (ps := ps) (x := x) hy h hx)
  refine rangeTells (n := 6) (by omega) (m := w.heap.size + 6) s6 (S₀ := fun k => k < w.heap.size + 6 ∧ k ≠ w.heap.size + 1 + 1 + 1) (gf := 25) (lb := #[.pointer (some ⟨w.heap.size + 4, 0, none⟩), .pointer (some ⟨w.heap.size + 5, 0, none⟩)]) rfl (enters_of Try.func25 (by kernel_rfl) rfl)
    HT (fun k hk => hk.1) (fun _ => rfl) (DropI l q p w6) (DropX S l q p w) (fun b => OwnFrom.and (ownFrom_pure _ _) (ownFrom_below (Nat.le_refl _) (by omega))) (fun b => dropX_own (by omega)) (fun b hb => ⟨by simp, Below.refl _ _⟩)
    (fun x a' X => ∃ Bx, w.heap.size + 6 ≤ Bx ∧ Blk X Bx 42 #[.int .i64 (slot l (atN l.length q x)).1, .int .i64 (slot l (atN l.length q x)).2.1, .int .i64 (slot l (atN l.length q x)).2.2] ∧ a' = { tmps := #[.slice oa l.length ca, .int .i64 q, .int .i64 p, .pointer (some ⟨w.heap.size, 0, none⟩), .pointer (some ⟨w.heap.size + 1, 0, none⟩), .pointer (some ⟨w.heap.size + 1 + 1, 0, none⟩), .pointer (some ⟨w.heap.size + 1 + 1 + 1, 0, none⟩), .int .i64 (atN l.length q x), .pointer (some ⟨Bx, 0, none⟩), .slice oa l.length ca, .int .i64 q, .func (.func 25) #[] #[.pointer (some ⟨w.heap.size + 1 + 1 + 1 + 1, 0, none⟩), .pointer (some ⟨w.heap.size + 1 + 1 + 1 + 1 + 1, 0, none⟩)], .int .i64 (atN l.length q x), .agg #[.int .i64 (slot l (atN l.length q x)).1, .int .i64 (slot l (atN l.length q x)).2.1, .int .i64 (slot l (atN l.length q x)).2.2], undef, undef, undef, undef, undef, undef, undef, undef, undef, undef, undef], defers := [] })
    (fun x a' s X Y row hs hg hr => by
      obtain ⟨Bx, h1, h2, h3⟩ := hs
      exact ⟨Bx, h1, blk_own (β := Unit) () X Y row h2 hg hr, h3⟩)
    ?assign ?body ?done ?stop
  case assign =>
    rintro b pre x X K hb hbX hI hK
    unfold encK
    gi_wp2
    exact hK _ _ ((Mem.refl X).alloc _) ⟨X.heap.size, by omega, Blk.new X _ _, rfl⟩
  case body =>
    rintro b pre x a' X hb hbX ⟨hno, hB⟩ ⟨Bx, hBx, bX, rfl⟩ hlt
    have hA : atN l.length q x < l.length := Nat.mod_lt _ (by omega)
    have HH : Hid (hitK l q p x ↔ (slot l (atN l.length q x)).1 = 1 ∧ (slot l (atN l.length q x)).2.1 = q ∧ (slot l (atN l.length q x)).2.2 = p) := Iff.rfl
    have HX := hide (fun (v : Value) (Y : World) (hhit : hitK l q p x) (h1 : Blk Y (w.heap.size + 1 + 1 + 1) 22 #[v]) (h2 : SlotsAt (fun k => S k ∨ w.heap.size ≤ k) Y v (l.set (atN l.length q x) (2, 0, 0))) (h3 : Below w.heap.size w Y) => show DropX S l q p w b (pre ++ [x]) Y from ⟨⟨pre, x, rfl, hno, hhit, v, h1, h2⟩, h3⟩)
    have x0 := b0.mem hB
    have x1 := b1.mem hB
    have x2 := b2.mem hB
    have x3 := b3.mem hB
    have hzX := hz6.mem hB
    have mX := m06.trans hB
    have hXs := hB.size
    generalize atN l.length q x = A at *
    generalize slot l A = sl at *
    obtain ⟨st, pr, pl⟩ := sl
    simp only [] at bX HH
    have c0 := bX.cell (j := 0) rfl
    have c1 := bX.cell (j := 1) rfl
    have c2 := bX.cell (j := 2) rfl
    have d1 := x1.cell (j := 0) rfl
    have d2 := x2.cell (j := 0) rfl
    clear HT b0 b1 b2 b3 hz6 hz HNO HYES H
    by_cases h : st = 1 ∧ pr = q ∧ pl = p
    · have hhit := HH.out.2 h
      obtain ⟨rfl, rfl, rfl⟩ := h
      have heq : ∀ w', (Op.equalIn 10000 42 (.agg #[.int .i64 1, .int .i64 pr, .int .i64 pl]) (.agg #[.int .i64 1, .int .i64 pr, .int .i64 pl])).run Try.prog w' = .ok true w' := fun w' => by rw [eqSlotIn]; simp
      have FIN : Hid (∀ (w7 w8 : World) (v : Value), Mem X w7 → Mem w7 w8 → SlotsAt (fun k => w7.heap.size ≤ k) w8 v (l.set A (2, 0, 0)) → Leaves (fun k => k < w.heap.size + 6 ∧ k ≠ w.heap.size + 1 + 1 + 1) (w.heap.size + 6) b X (w8.setCell ⟨w.heap.size + 1 + 1 + 1, 0, none⟩ v) ∧ DropX S l pr pl w b (pre ++ [x]) (w8.setCell ⟨w.heap.size + 1 + 1 + 1, 0, none⟩ v)) := by
        intro w7 w8 v m7 m8 hs8
        have h7 := m7.size
        refine ⟨(Leaves.mem (m7.trans m8)).trans (Leaves.setCell (fun h => h.2 rfl) (by show w.heap.size + 1 + 1 + 1 < _; omega) _), HX.out v _ hhit ((x3.mem (m7.trans m8)).set 0 v) ?_ (((mX.trans m7).trans m8).setCell (p := ⟨w.heap.size + 1 + 1 + 1, 0, none⟩) (by show w.heap.size ≤ w.heap.size + 1 + 1 + 1; omega) v)⟩
        exact (hs8.setCell (p := ⟨w.heap.size + 1 + 1 + 1, 0, none⟩) (by show ¬ (w7.heap.size ≤ w.heap.size + 1 + 1 + 1); omega) v).mono fun g hg _ => .inr (by omega)
      clear HX HH hno hhit
      gi_wp2
      gi_region_with (gi_at_call 21; refine (CallsIn.inRound _ (callsIn_wide.2 (codeUsed _ _ _))).mono ?_; rintro e w7 ⟨rfl, m7⟩; replace m7 : Mem X w7 := Mem.trans ((Mem.refl X).drew) m7; have bX1 := bX.mem m7; have e0 := bX1.cell (j := 0) rfl; have e1 := bX1.cell (j := 1) rfl; have e2 := bX1.cell (j := 2) rfl; have el := (x0.mem m7).cell (j := 0) rfl)
      all_goals gi_wp2_with (gi_at_call 22; refine (CallsIn.inRound _ (callsIn_wide.2 (codeWith S _ l A (2, 0, 0) _ (hzX.mem m7) hl hA))).mono ?_; rintro e w8 ⟨⟨v8, rfl, h8⟩, m8⟩; obtain ⟨o8, c8, rfl⟩ := h8.shape; have x3' := (x3.mem m7).mem m8; have f0 := x3'.cell (j := 0) rfl; have f1 := x3'.frozen 0)
      all_goals exact FIN.out w7 w8 _ m7 m8 (by simpa only [List.length_set] using h8)
    · have hno2 : ∀ a ∈ pre ++ [x], ¬ hitK l q p a := by
        intro a ha
        rcases List.mem_append.1 ha with ha | ha
        · exact hno a ha
        · simp at ha; subst ha; exact fun h' => h (HH.out.1 h')
      have heq : ∀ w', (Op.equalIn 10000 42 (.agg #[.int .i64 st, .int .i64 pr, .int .i64 pl]) (.agg #[.int .i64 1, .int .i64 q, .int .i64 p])).run Try.prog w' = .ok false w' := fun w' => by rw [eqSlotIn, decide_eq_false h]
      have FIN := hide (fun (Y : World) (m7 : Mem X Y) => show Leaves (fun k => k < w.heap.size + 6 ∧ k ≠ w.heap.size + 1 + 1 + 1) (w.heap.size + 6) b X Y ∧ DropI l q p w6 b (pre ++ [x]) Y from ⟨Leaves.mem m7, hno2, Mem.trans hB m7⟩)
      clear HX HH hno hno2
      gi_wp2
      gi_region_with (gi_at_call 21; refine (CallsIn.inRound _ (callsIn_wide.2 (codeUsed _ _ _))).mono ?_; rintro e w7 ⟨rfl, m7⟩; replace m7 : Mem X w7 := Mem.trans ((Mem.refl X).drew) m7; have bX1 := bX.mem m7; have e0 := bX1.cell (j := 0) rfl; have e1 := bX1.cell (j := 1) rfl; have e2 := bX1.cell (j := 2) rfl)
      all_goals gi_wp2
      all_goals exact FIN.out _ m7
  case done =>
    rintro b ys X hb hS ⟨hno, hB⟩ hK
    have HE := hide (HNO.out ys hS hno)
    have x0 := b0.mem hB
    have x3 := b3.mem hB
    have d0 := x0.cell (j := 0) rfl
    have hzX := hz6.mem hB
    have mX := m06.trans hB
    have hXs := hB.size
    clear HT HNO HYES
    gi_wp2_with (gi_at_call 23; refine (callsIn_wide.2 (codeClone S _ l _ hzX hl)).mono ?_; rintro e w8 ⟨⟨v8, rfl, o8⟩, m8⟩; have hsl := slots_of_owns o8 hl; obtain ⟨o9, c9, rfl⟩ := hsl.shape; have x3' := x3.mem m8; have f0 := x3'.cell (j := 0) rfl; have f1 := x3'.frozen 0)
    have hK8 := (KeepsOthers.setCell w8 ⟨w.heap.size + 1 + 1 + 1, 0, none⟩ (.slice o9 l.length c9)).same _ _ ((m8.block _ (Array.getElem?_eq_some_iff.1 hK).1).trans hK) rfl
    replace hsl := hsl.setCell (p := ⟨w.heap.size + 1 + 1 + 1, 0, none⟩) (by show ¬ (X.heap.size ≤ w.heap.size + 1 + 1 + 1); omega) (.slice o9 l.length c9)
    have hmm := (mX.trans m8).setCell (p := ⟨w.heap.size + 1 + 1 + 1, 0, none⟩) (by show w.heap.size ≤ w.heap.size + 1 + 1 + 1; omega) (.slice o9 l.length c9)
    refine ⟨by simp, .inl ⟨_, _, rfl, run_takeDeferred hK8, ?_⟩⟩
    refine ⟨_, results_slice rfl _ _ rfl (Blk.putObj (x3'.set 0 (.slice o9 l.length c9)) (by omega) _), ⟨_, rfl, ?_⟩, Below.trans hmm (belowK_b (w := w) (Nat.le_refl _) _ (w.heap.size + 6) _ _ (by omega) hK8 rfl rfl)⟩
    rw [HE.out]
    exact (slots_own (β := Unit) (B := 0) () _ _ _ hsl (grownBy_putObj' _ _ (.deferred none)) (fun r e => by cases e; exact ⟨Nat.zero_le _, _, hK8, rfl⟩)).mono fun g hg _ => .inr (by omega)
  case stop =>
    rintro b pre X hb hS ⟨⟨ps, x, rfl, hno, hhit, v, hv, hzv⟩, hB⟩ hK
    have HE := hide (HYES.out ps x hS hno hhit)
    clear HT HNO HYES
    gi_wp2
    refine ⟨by simp, .inl ⟨_, _, rfl, run_takeDeferred hK, ?_⟩⟩
    refine ⟨_, results_slice rfl _ _ rfl (Blk.putObj hv (by omega) _), ⟨v, rfl, ?_⟩, ?_⟩
    · rw [HE.out]
      exact slots_own (β := Unit) (B := 0) () _ _ _ hzv (grownBy_putObj' _ _ (.deferred none)) (fun r e => by cases e; exact ⟨Nat.zero_le _, _, hK, rfl⟩)
    · exact hB.trans (belowK_b (w := w) (Nat.le_refl _) X (w.heap.size + 6) _ _ (by omega) hK rfl rfl)
end Go.Proofs.Ytmkfinjhbhfaeaa.Index
