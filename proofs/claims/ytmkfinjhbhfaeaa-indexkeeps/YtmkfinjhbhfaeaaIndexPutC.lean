/-
  Layer 9, the program: Put.
-/
import Derived.Test.YtmkfinjhbhfaeaaIndexDropC
namespace Go.Proofs.Ytmkfinjhbhfaeaa.Index
open Go.RowKit Go.Shelf Go.Proofs.Ytmkfinjhbhfaeaa.Scan
attribute [local go_sem] Oper.semAt_some

theorem KeepsOn.turned {S : Nat → Prop} {X : World} {k : Nat} (hk : ¬ S k) (o : Obj) : KeepsOn S X (X.putObj k o) :=
  ⟨by simp [World.putObj], fun i hi _ => World.putObj_heap_other (fun e => hk (e ▸ hi))⟩
theorem free_range {l : List SlotT} {q : Int} {k : Nat} (h : ∀ a ∈ List.range k, (slot l (atN l.length q a)).1 = 1) : freeN l q k = none := by
  induction k with
  | zero => rfl
  | succ k ih =>
    rw [List.range_succ] at h
    exact free_next (ih fun a ha => h a (by simp at ha ⊢; omega)) (h k (by simp))
theorem put_no {l : List SlotT} {q p : Int} {ys : List Nat} (h0 : 0 ≤ q) (hs : ys = steps l q) (h : ∀ a ∈ ys, (slot l (atN l.length q a)).1 = 1) : putT l q p = ([], 40) := by
  subst hs
  unfold steps at h
  rw [if_neg (by omega)] at h
  unfold putT
  rw [if_neg (by omega), free_range h]
theorem put_yes {l : List SlotT} {q p : Int} {ps : List Nat} {x k : Nat} (h0 : 0 ≤ q) (hs : ps ++ [x] = List.range k) (hk : k ≤ l.length) (h : ∀ a ∈ ps, (slot l (atN l.length q a)).1 = 1) (hx : (slot l (atN l.length q x)).1 ≠ 1) : putT l q p = (l.set (atN l.length q x) (1, q, p), 0) := by
  have e : k = x + 1 ∧ ps = List.range x := by
    cases k with
    | zero => simp at hs
    | succ k =>
      rw [List.range_succ] at hs
      obtain ⟨h1, h2⟩ := List.append_inj' hs rfl
      injection h2 with h2
      exact ⟨by omega, by rw [h1, h2]⟩
  obtain ⟨e1, rfl⟩ := e
  unfold putT
  rw [if_neg (by omega), free_here (free_range h) (by omega) hx]
/-- between two rounds -/
def PutI (l : List SlotT) (q : Int) (w7 : World) (pre : List Nat) (X : World) : Prop := (∀ a ∈ pre, (slot l (atN l.length q a)).1 = 1) ∧ Below w7.heap.size w7 X
/-- where a round was the last one: that slot is taken -/
def PutX (S : Nat → Prop) (l : List SlotT) (q p : Int) (w : World) (c : Code) (pre : List Nat) (X : World) : Prop :=
  (c = .ret ∧ ∃ ps x, pre = ps ++ [x] ∧ (∀ a ∈ ps, (slot l (atN l.length q a)).1 = 1) ∧ (slot l (atN l.length q x)).1 ≠ 1 ∧ Blk X (w.heap.size + 1 + 1 + 1 + 1) 28 #[.int .i64 0] ∧ ∃ v, Blk X (w.heap.size + 1 + 1 + 1) 22 #[v] ∧ SlotsAt (fun k => S k ∨ w.heap.size ≤ k) X v (l.set (atN l.length q x) (1, q, p))) ∧ Below w.heap.size w X
theorem putX_own {S : Nat → Prop} {l : List SlotT} {q p : Int} {w : World} {B : Nat} (hB : w.heap.size ≤ B) (c : Code) : OwnFrom B (PutX S l q p w c) := by
  rintro s X Y row ⟨⟨hc, ps, x, h1, h2, h3, he, v, hv, hz⟩, hb⟩ hg hr
  exact ⟨⟨hc, ps, x, h1, h2, h3, blk_own (β := Unit) () X Y row he hg hr, v, blk_own (β := Unit) () X Y row hv hg hr, slots_own (β := Unit) () X Y row hz hg hr⟩, ownFrom_below (β := Unit) (Nat.le_refl _) hB () X Y row hb hg hr⟩

set_option maxRecDepth 100000 in
set_option maxHeartbeats 8000000 in
theorem codePut : PutSpec 13 := by
  intro S v l q p w hz hl
  obtain ⟨oa, ca, rfl⟩ := hz.shape
  refine (callsIn_wide (n := 6)).1 ?_
  have w21 : Fence.wide.fn 21 := trivial
  have w22 : Fence.wide.fn 22 := trivial
  have w24 : Fence.wide.fn 24 := trivial
  refine callsIn_of_wp_marks Try.func13 rfl trivial ?_ rfl
  simp only [Try.ntmps13, List.size_toArray, List.length_cons, List.length_nil, Nat.reduceAdd, Nat.reduceSub, Array.replicate_succ, Array.replicate_zero, List.push_toArray, List.append_toArray, List.nil_append, List.cons_append]
  by_cases hq : q < 0
  · have HE := hide (put_neg (l := l) (p := p) hq)
    have hq' : q ≤ -1 := by omega
    clear hq
    have e3 := (Blk.new (((w.alloc (.cells #[.slice oa l.length ca] 22)).alloc (.cells #[.int .i64 q] 3)).alloc (.cells #[.int .i64 p] 3)) #[.slice none 0 0] 22).alloc (.cells #[.int .i64 1] 28)
    have e4 := Blk.new ((((w.alloc (.cells #[.slice oa l.length ca] 22)).alloc (.cells #[.int .i64 q] 3)).alloc (.cells #[.int .i64 p] 3)).alloc (.cells #[.slice none 0 0] 22)) #[.int .i64 1] 28
    simp only [World.size_alloc] at e3 e4
    gi_wp2
    refine ⟨_, results_slice_errno rfl _ _ rfl rfl e3 e4, ?_⟩
    exact ⟨⟨_, by rw [HE.out], by rw [HE.out]; exact SlotsAt.nil _ _ _ _⟩, ((((Mem.refl w).alloc _).alloc _).alloc _).alloc _ |>.alloc _⟩
  · have hq0 : 0 ≤ q := by omega
    gi_wp2_with (gi_at_call 24; refine (callsIn_wide.2 (codeWay _ _ _ _ _)).mono ?_; rintro e w' ⟨rfl, rfl⟩)
    obtain ⟨w1, hw1⟩ : ∃ w1, w.alloc (.cells #[.slice oa l.length ca] 22) = w1 := ⟨_, rfl⟩
    have s1 : w1.heap.size = w.heap.size + 1 := by rw [← hw1]; simp
    have m1 : Mem w w1 := by rw [← hw1]; exact (Mem.refl w).alloc _
    have b0 : Blk w1 w.heap.size 22 #[.slice oa l.length ca] := by rw [← hw1]; exact Blk.new _ _ _
    rw [hw1]
    clear hw1
    obtain ⟨w2, hw2⟩ : ∃ w2, w1.alloc (.cells #[.int .i64 q] 3) = w2 := ⟨_, rfl⟩
    have s2 : w2.heap.size = w.heap.size + 2 := by rw [← hw2]; simp [s1]
    have m2 : Mem w1 w2 := by rw [← hw2]; exact (Mem.refl w1).alloc _
    have b1 : Blk w2 (w.heap.size + 1) 3 #[.int .i64 q] := by rw [← hw2, ← s1]; exact Blk.new _ _ _
    rw [hw2]
    clear hw2
    obtain ⟨w3, hw3⟩ : ∃ w3, w2.alloc (.cells #[.int .i64 p] 3) = w3 := ⟨_, rfl⟩
    have s3 : w3.heap.size = w.heap.size + 3 := by rw [← hw3]; simp [s2]
    have m3 : Mem w2 w3 := by rw [← hw3]; exact (Mem.refl w2).alloc _
    have b2 : Blk w3 (w.heap.size + 2) 3 #[.int .i64 p] := by rw [← hw3, ← s2]; exact Blk.new _ _ _
    rw [hw3]
    clear hw3
    obtain ⟨w4, hw4⟩ : ∃ w4, w3.alloc (.cells #[.slice none 0 0] 22) = w4 := ⟨_, rfl⟩
    have s4 : w4.heap.size = w.heap.size + 4 := by rw [← hw4]; simp [s3]
    have m4 : Mem w3 w4 := by rw [← hw4]; exact (Mem.refl w3).alloc _
    have b3 : Blk w4 (w.heap.size + 3) 22 #[.slice none 0 0] := by rw [← hw4, ← s3]; exact Blk.new _ _ _
    rw [hw4]
    clear hw4
    obtain ⟨w5, hw5⟩ : ∃ w5, w4.alloc (.cells #[.int .i64 0] 28) = w5 := ⟨_, rfl⟩
    have s5 : w5.heap.size = w.heap.size + 5 := by rw [← hw5]; simp [s4]
    have m5 : Mem w4 w5 := by rw [← hw5]; exact (Mem.refl w4).alloc _
    have b4 : Blk w5 (w.heap.size + 4) 28 #[.int .i64 0] := by rw [← hw5, ← s4]; exact Blk.new _ _ _
    rw [hw5]
    clear hw5
    obtain ⟨w6, hw6⟩ : ∃ w6, w5.alloc (.cells #[.slice oa l.length ca] 22) = w6 := ⟨_, rfl⟩
    have s6 : w6.heap.size = w.heap.size + 6 := by rw [← hw6]; simp [s5]
    have m6 : Mem w5 w6 := by rw [← hw6]; exact (Mem.refl w5).alloc _
    have b5 : Blk w6 (w.heap.size + 5) 22 #[.slice oa l.length ca] := by rw [← hw6, ← s5]; exact Blk.new _ _ _
    rw [hw6]
    clear hw6
    obtain ⟨w7, hw7⟩ : ∃ w7, w6.alloc (.cells #[.int .i64 q] 3) = w7 := ⟨_, rfl⟩
    have s7 : w7.heap.size = w.heap.size + 7 := by rw [← hw7]; simp [s6]
    have m7 : Mem w6 w7 := by rw [← hw7]; exact (Mem.refl w6).alloc _
    have b6 : Blk w7 (w.heap.size + 6) 3 #[.int .i64 q] := by rw [← hw7, ← s6]; exact Blk.new _ _ _
    rw [hw7]
    clear hw7
    replace b5 := b5.mem m7
    have m57 := m6.trans m7
    replace b4 : Blk w7 (w.heap.size + 1 + 1 + 1 + 1) 28 #[.int .i64 0] := b4.mem m57
    have m47 := m5.trans m57
    replace b3 : Blk w7 (w.heap.size + 1 + 1 + 1) 22 #[.slice none 0 0] := b3.mem m47
    have m37 := m4.trans m47
    replace b2 : Blk w7 (w.heap.size + 1 + 1) 3 #[.int .i64 p] := b2.mem m37
    have m27 := m3.trans m37
    replace b1 := b1.mem m27
    have m17 := m2.trans m27
    replace b0 := b0.mem m17
    have m07 := m1.trans m17
    have hz7 := hz.mem m07
    have hz7o := hz7.of_ints
    clear m1 m2 m3 m4 m5 m6 m7 m57 m47 m37 m27 m17 s1 s2 s3 s4 s5 s6
    have HNO := hide (fun ys hy h => put_no (l := l) (q := q) (p := p) (ys := ys) hq0 hy h)
    have HYES := hide (fun ps x k hs hk h hx => put_yes (l := l) (q := q) (p := p) (ps := ps) (x := x) (k := k) hq0 hs hk h hx)
    refine wpIn_rangeFunc_ownH rfl (by decide) (gf := 26) (lb := #[.pointer (some ⟨w.heap.size + 6, 0, none⟩), .pointer (some ⟨w.heap.size + 5, 0, none⟩)]) rfl trivial (enters_of Try.func26 (by kernel_rfl) rfl)
      (way_stops 5 (w.heap.size + 5) (w.heap.size + 6) (by decide) oa ca l q (fun k => k < w7.heap.size) (fun k => k < w7.heap.size) (fun _ h => h) (by show _ < _; omega) (by show _ < _; omega) hl w7 (b5.cell (j := 0) rfl) (b6.cell (j := 0) rfl) hz7o)
      (fun h k => KeepsOn.trans h k) (fun X k o o' hk _ _ _ => KeepsOn.turned (by show ¬ _ < _; omega) o') (Below.refl _ _) (fun _ => rfl)
      (PutI l q w7) (PutX S l q p w) (OwnFrom.and (ownFrom_pure _ _) (ownFrom_below (Nat.le_refl _) (Nat.le_refl _))) (fun c => putX_own (by omega) c) ⟨by simp, Below.refl _ _⟩
      (fun x a' X => ∃ Bx, w.heap.size + 7 ≤ Bx ∧ Blk X Bx 42 #[.int .i64 (slot l (atN l.length q x)).1, .int .i64 (slot l (atN l.length q x)).2.1, .int .i64 (slot l (atN l.length q x)).2.2] ∧ a' = { tmps := #[.slice oa l.length ca, .int .i64 q, .int .i64 p, .pointer (some ⟨w.heap.size, 0, none⟩), .pointer (some ⟨w.heap.size + 1, 0, none⟩), .pointer (some ⟨w.heap.size + 1 + 1, 0, none⟩), .pointer (some ⟨w.heap.size + 1 + 1 + 1, 0, none⟩), .pointer (some ⟨w.heap.size + 1 + 1 + 1 + 1, 0, none⟩), .int .i64 (atN l.length q x), .pointer (some ⟨Bx, 0, none⟩), .int .i64 q, .bool false, .slice oa l.length ca, .int .i64 q, .func (.func 26) #[] #[.pointer (some ⟨w.heap.size + 1 + 1 + 1 + 1 + 1 + 1, 0, none⟩), .pointer (some ⟨w.heap.size + 1 + 1 + 1 + 1 + 1, 0, none⟩)], .int .i64 (atN l.length q x), .agg #[.int .i64 (slot l (atN l.length q x)).1, .int .i64 (slot l (atN l.length q x)).2.1, .int .i64 (slot l (atN l.length q x)).2.2], undef, undef, undef, undef, undef, undef, undef, undef, undef], defers := [] })
      (fun x a' s X Y row hs hg hr => by
        obtain ⟨Bx, h1, h2, h3⟩ := hs
        exact ⟨Bx, h1, blk_own (β := Unit) () X Y row h2 hg hr, h3⟩)
      ?assign ?body ?done ?stop
    case assign =>
      rintro t2 pre x X K ⟨hno, hB⟩ hK
      have hsz := hB.size
      unfold encK
      gi_wp2
      exact hK _ _ ((KeepsOthers.alloc _ _).from _) (KeepsOn.mem ((Mem.refl X).alloc _)) ⟨hno, Mem.trans hB ((Mem.refl X).alloc _)⟩ ⟨X.heap.size, by omega, Blk.new X _ _, rfl⟩
    case body =>
      rintro t2 pre x a' X hl2 ⟨r, hr⟩ ⟨hno, hB⟩ ⟨Bx, hBx, bX, rfl⟩ hlt
      have hA : atN l.length q x < l.length := Nat.mod_lt _ (by omega)
      have HX := hide (fun (v : Value) (Y : World) (hst : (slot l (atN l.length q x)).1 ≠ 1) (h0 : Blk Y (w.heap.size + 1 + 1 + 1 + 1) 28 #[.int .i64 0]) (h1 : Blk Y (w.heap.size + 1 + 1 + 1) 22 #[v]) (h2 : SlotsAt (fun k => S k ∨ w.heap.size ≤ k) Y v (l.set (atN l.length q x) (1, q, p))) (h3 : Below w.heap.size w Y) => show PutX S l q p w .ret (pre ++ [x]) Y from ⟨⟨rfl, pre, x, rfl, hno, hst, h0, v, h1, h2⟩, h3⟩)
      have HI : Hid ((slot l (atN l.length q x)).1 = 1 → ∀ a ∈ pre ++ [x], (slot l (atN l.length q a)).1 = 1) := by
        intro h a ha
        rcases List.mem_append.1 ha with ha | ha
        · exact hno a ha
        · simp at ha; subst ha; exact h
      have x0 := b0.mem hB
      have x1 := b1.mem hB
      have x2 := b2.mem hB
      have x3 := b3.mem hB
      have x4 := b4.mem hB
      have hzX := hz7.mem hB
      have mX := m07.trans hB
      have hXs := hB.size
      generalize atN l.length q x = A at *
      generalize slot l A = sl at *
      obtain ⟨st, pr, pl⟩ := sl
      simp only [] at bX HX HI
      have c0 := bX.cell (j := 0) rfl
      have c1 := bX.cell (j := 1) rfl
      have c2 := bX.cell (j := 2) rfl
      have d0 := x0.cell (j := 0) rfl
      have d1 := x1.cell (j := 0) rfl
      have d2 := x2.cell (j := 0) rfl
      clear b0 b1 b2 b3 b4 b5 b6 hz7 hz7o hz HNO HYES hno hr hl2
      have hy1 : 1 ≤ 6 - 1 - 1 := by decide
      by_cases h : st = 1
      · have hno2 := HI.out h
        subst h
        clear HX HI
        gi_wp2
        exact ⟨KeepsFrom.refl _ _, KeepsOn.refl _ _, hno2, hB⟩
      · have FIN : Hid (∀ (w8 w9 : World) (v : Value), Mem X w8 → Mem w8 w9 → SlotsAt (fun k => w8.heap.size ≤ k) w9 v (l.set A (1, q, p)) → KeepsFrom w7.heap.size X ((w9.setCell ⟨w.heap.size + 1 + 1 + 1, 0, none⟩ v).setCell ⟨w.heap.size + 1 + 1 + 1 + 1, 0, none⟩ (.int .i64 0)) ∧ PutX S l q p w .ret (pre ++ [x]) ((w9.setCell ⟨w.heap.size + 1 + 1 + 1, 0, none⟩ v).setCell ⟨w.heap.size + 1 + 1 + 1 + 1, 0, none⟩ (.int .i64 0))) := by
          intro w8 w9 v m8 m9 hs9
          have h8 := m8.size
          have k9 : KeepsFrom w7.heap.size X w9 := ⟨(m8.trans m9).size, fun k _ _ hk _ => ((m8.trans m9).block k (Array.getElem?_eq_some_iff.1 hk).1).trans hk⟩
          refine ⟨(k9.trans ((KeepsOthers.setCell _ _ _).from _)).trans ((KeepsOthers.setCell _ _ _).from _), HX.out v _ h ((((x4.mem (m8.trans m9)).other (a := ⟨w.heap.size + 1 + 1 + 1, 0, none⟩) (by show w.heap.size + 1 + 1 + 1 + 1 ≠ w.heap.size + 1 + 1 + 1; omega) v)).set 0 (.int .i64 0)) (((x3.mem (m8.trans m9)).set 0 v).other (a := ⟨w.heap.size + 1 + 1 + 1 + 1, 0, none⟩) (by show w.heap.size + 1 + 1 + 1 ≠ w.heap.size + 1 + 1 + 1 + 1; omega) (.int .i64 0)) ?_ ((((mX.trans m8).trans m9).setCell (p := ⟨w.heap.size + 1 + 1 + 1, 0, none⟩) (by show w.heap.size ≤ w.heap.size + 1 + 1 + 1; omega) v).setCell (p := ⟨w.heap.size + 1 + 1 + 1 + 1, 0, none⟩) (by show w.heap.size ≤ w.heap.size + 1 + 1 + 1 + 1; omega) (.int .i64 0))⟩
          exact ((hs9.setCell (p := ⟨w.heap.size + 1 + 1 + 1, 0, none⟩) (by show ¬ (w8.heap.size ≤ w.heap.size + 1 + 1 + 1); omega) v).setCell (p := ⟨w.heap.size + 1 + 1 + 1 + 1, 0, none⟩) (by show ¬ (w8.heap.size ≤ w.heap.size + 1 + 1 + 1 + 1); omega) (.int .i64 0)).mono fun g hg _ => .inr (by omega)
        clear HX HI
        gi_wp2
        gi_region_with (first
          | (gi_at_call 21; refine (CallsIn.inRound _ (callsIn_wide.2 (codeUsed _ _ _))).mono ?_; rintro e w8 ⟨rfl, m8⟩; replace m8 : Mem X w8 := Mem.trans ((Mem.refl X).drew) m8; have el := (x0.mem m8).cell (j := 0) rfl)
          | (gi_at_call 22; refine (CallsIn.inRound _ (callsIn_wide.2 (codeWith S _ l A (1, q, p) _ (hzX.mem m8) hl hA))).mono ?_; rintro e w9 ⟨⟨v9, rfl, h9⟩, m9⟩; obtain ⟨o9, c9, rfl⟩ := h9.shape; have y3 := (x3.mem m8).mem m9; have f0 := y3.cell (j := 0) rfl; have f1 := y3.frozen 0; have y4 := (x4.mem m8).mem m9; have f2 := y4.cell (j := 0) rfl; have f3 := y4.frozen 0))
        all_goals gi_wp2
        all_goals exact FIN.out w8 w9 _ m8 m9 (by simpa only [List.length_set] using h9)
    case done =>
      rintro D ys X hD hS ⟨hno, hB⟩ hK
      have HE := hide (HNO.out ys hS hno)
      have x3 := b3.mem hB
      have x4 := b4.mem hB
      have d3 := x3.cell (j := 0) rfl
      have d4 := x4.cell (j := 0) rfl
      have f3 := x3.frozen 0
      have f4 := x4.frozen 0
      have mX := m07.trans hB
      have hXs := hB.size
      have e3 := (x3.set 0 (.slice none 0 0)).other (a := ⟨w.heap.size + 1 + 1 + 1 + 1, 0, none⟩) (by show w.heap.size + 1 + 1 + 1 ≠ w.heap.size + 1 + 1 + 1 + 1; omega) (.int .i64 40)
      have e4 := (x4.other (a := ⟨w.heap.size + 1 + 1 + 1, 0, none⟩) (by show w.heap.size + 1 + 1 + 1 + 1 ≠ w.heap.size + 1 + 1 + 1; omega) (.slice none 0 0)).set 0 (.int .i64 40)
      have hmm := (mX.setCell (p := ⟨w.heap.size + 1 + 1 + 1, 0, none⟩) (by show w.heap.size ≤ w.heap.size + 1 + 1 + 1; omega) (.slice none 0 0)).setCell (p := ⟨w.heap.size + 1 + 1 + 1 + 1, 0, none⟩) (by show w.heap.size ≤ w.heap.size + 1 + 1 + 1 + 1; omega) (.int .i64 40)
      have hK2 := (KeepsOthers.setCell (X.setCell ⟨w.heap.size + 1 + 1 + 1, 0, none⟩ (.slice none 0 0)) ⟨w.heap.size + 1 + 1 + 1 + 1, 0, none⟩ (.int .i64 40)).same _ _ ((KeepsOthers.setCell X ⟨w.heap.size + 1 + 1 + 1, 0, none⟩ (.slice none 0 0)).same _ _ hK rfl) rfl
      clear HNO HYES
      gi_wp2
      refine ⟨by simp, .inl ⟨_, _, rfl, run_takeDeferred hK2, ?_⟩⟩
      refine ⟨_, results_slice_errno rfl _ _ rfl rfl (Blk.putObj e3 (by omega) _) (Blk.putObj e4 (by omega) _), ⟨_, by rw [HE.out], by rw [HE.out]; exact SlotsAt.nil _ _ _ _⟩, Below.trans hmm (belowK_b (w := w) (Nat.le_refl _) _ D _ _ (by omega) hK2 rfl rfl)⟩
    case stop =>
      rintro D c pre X hD ⟨k, hk, _, hS⟩ ⟨⟨rfl, ps, x, rfl, hno, hst, h4, v, h3, hzv⟩, hB⟩ hK
      have HE := hide (HYES.out ps x k hS hk hno hst)
      clear HNO HYES
      gi_wp2
      refine ⟨by simp, .inl ⟨_, _, rfl, run_takeDeferred hK, ?_⟩⟩
      refine ⟨_, results_slice_errno rfl _ _ rfl rfl (Blk.putObj h3 (by omega) _) (Blk.putObj h4 (by omega) _), ⟨v, by rw [HE.out], ?_⟩, Below.trans hB (belowK_b (w := w) (Nat.le_refl _) X D _ _ (by omega) hK rfl rfl)⟩
      rw [HE.out]
      exact slots_own (β := Unit) (B := 0) () _ _ _ hzv (grownBy_putObj' _ _ (.deferred none)) (fun r e => by cases e; exact ⟨Nat.zero_le _, _, hK, rfl⟩)
end Go.Proofs.Ytmkfinjhbhfaeaa.Index
