/-
  Layer 9, the program: the slots that have a fingerprint, up to the first Empty one: an iterator over the way.
-/
import Derived.Test.YtedopplldpcinaaGreatIndexWay
import Derived.Test.YtedopplldpcinaaGreatIndexSame
namespace Go.Proofs.YtedopplldpcinaaGreat.Index
open Go.RowKit Go.Shelf Go.Proofs.YtedopplldpcinaaGreat.Scan
attribute [local go_sem] Oper.semAt_some

/-! ### which steps are told -/
def stK (l : List SlotT) (q : Int) (k : Nat) : Int := (slot l (atN l.length q k)).1
def goodK (l : List SlotT) (q : Int) (k : Nat) : Bool := isQ l q (atN l.length q k)
def havs (l : List SlotT) (q : Int) (pre : List Nat) : List Nat := pre.filter (goodK l q)
theorem havs_snoc_yes {l : List SlotT} {q : Int} {pre : List Nat} {x : Nat} (h : goodK l q x = true) : havs l q (pre ++ [x]) = havs l q pre ++ [x] := by simp [havs, h]
theorem havs_snoc_no {l : List SlotT} {q : Int} {pre : List Nat} {x : Nat} (h : goodK l q x = false) : havs l q (pre ++ [x]) = havs l q pre := by simp [havs, h]
theorem havs_len (l : List SlotT) (q : Int) (pre : List Nat) : (havs l q pre).length ≤ pre.length := List.length_filter_le _ _
theorem range_goes {l : List SlotT} {q : Int} {k : Nat} (h : ∀ a ∈ List.range k, stK l q a ≠ 0) : goesN l q k = true := by
  induction k with
  | zero => rfl
  | succ k ih =>
    rw [List.range_succ] at h
    exact goes_yes (ih fun a ha => h a (by simp at ha ⊢; omega)) (h k (by simp))
theorem havs_range {l : List SlotT} {q : Int} {k : Nat} (h : goesN l q k = true) : (havs l q (List.range k)).map (atN l.length q) = slotsN l q k := by
  induction k with
  | zero => rfl
  | succ k ih =>
    have hk : goesN l q k = true := by rw [goesN, Bool.and_eq_true] at h; exact h.1
    have ih := ih hk
    rw [List.range_succ]
    cases hg : goodK l q k with
    | true =>
      rw [havs_snoc_yes hg, List.map_append, ih]
      obtain ⟨h1, h2⟩ := isQ_iff.1 hg
      rw [slotsN_yes hk h1 h2]
      rfl
    | false =>
      rw [havs_snoc_no hg, ih]
      rw [slotsN_no (fun h' => by have := isQ_iff.2 h'; unfold goodK at hg; rw [this] at hg; cases hg)]
theorem slotsN_prefix (l : List SlotT) (q : Int) {k m : Nat} (h : k ≤ m) : slotsN l q k <+: slotsN l q m := by
  induction m with
  | zero => have : k = 0 := by omega
            subst this; exact List.prefix_refl _
  | succ m ih =>
    by_cases e : k = m + 1
    · subst e; exact List.prefix_refl _
    · refine (ih (by omega)).trans ?_
      rw [slotsN]
      split
      · exact List.prefix_append _ _
      · exact List.prefix_refl _
theorem slotsT_pos {l : List SlotT} {q : Int} (h : 0 ≤ q) : slotsT l q = slotsN l q l.length := by unfold slotsT; rw [if_neg (by omega)]
theorem havs_all {l : List SlotT} {q : Int} {ys : List Nat} (hs : ys = steps l q) (h : ∀ a ∈ ys, stK l q a ≠ 0) : (havs l q ys).map (atN l.length q) = slotsT l q := by
  subst hs
  unfold steps at *
  by_cases h0 : q < 0
  · rw [if_pos h0]; unfold slotsT; rw [if_pos h0]; rfl
  · rw [if_neg h0] at h ⊢
    rw [havs_range (range_goes h), slotsT_pos (by omega)]
theorem range_split {pre : List Nat} {x k : Nat} (h : pre ++ [x] = List.range k) : k = x + 1 ∧ pre = List.range x := by
  cases k with
  | zero => simp at h
  | succ k =>
    rw [List.range_succ] at h
    obtain ⟨h1, h2⟩ := List.append_inj' h rfl
    injection h2 with h2
    exact ⟨by omega, by rw [h1, h2]⟩
theorem havs_empty {l : List SlotT} {q : Int} {pre : List Nat} {x k : Nat} (hs : pre ++ [x] = List.range k) (hk : k ≤ l.length) (h0 : 0 ≤ q) (h : ∀ a ∈ pre, stK l q a ≠ 0) (hx : stK l q x = 0) : (havs l q pre).map (atN l.length q) = slotsT l q := by
  obtain ⟨e1, rfl⟩ := range_split hs
  rw [havs_range (range_goes h), slotsT_pos h0, slotsN_stop hx l.length (by omega)]
theorem havs_stop {l : List SlotT} {q : Int} {pre : List Nat} {x k : Nat} (hs : pre ++ [x] = List.range k) (hk : k ≤ l.length) (h0 : 0 ≤ q) (h : ∀ a ∈ pre, stK l q a ≠ 0) (hx : goodK l q x = true) : (havs l q pre ++ [x]).map (atN l.length q) <+: slotsT l q := by
  obtain ⟨e1, rfl⟩ := range_split hs
  have hx' := isQ_iff.1 hx
  rw [← havs_snoc_yes hx, ← List.range_succ, havs_range (range_goes fun a ha => ?_), slotsT_pos h0]
  · exact slotsN_prefix l q (by omega)
  · rw [List.range_succ, List.mem_append] at ha
    rcases ha with ha | ha
    · exact h a ha
    · simp at ha
      subst ha
      unfold stK
      rw [hx'.1]
      decide

theorem KeepsOn.turn {S : Nat → Prop} {X : World} {k : Nat} (hk : ¬ S k) (o : Obj) : KeepsOn S X (X.putObj k o) :=
  ⟨by simp [World.putObj], fun i hi _ => World.putObj_heap_other (fun e => hk (e ▸ hi))⟩
theorem keepsOn_own {β : Type} {S : Nat → Prop} {B : Nat} (hS : ∀ k, S k → k < B) (w : World) : OwnFrom B (fun (_ : β) X => KeepsOn S w X) := fun _ X Y row hs hg hr =>
  ⟨Nat.le_trans hs.size hg.size, fun k hk hw => (hg.block k (Nat.lt_of_lt_of_le hw hs.size) (fun e => by have := (hr k e.symm).1; have := hS k hk; omega)).trans (hs.same k hk hw)⟩
/-- between two rounds -/
def HavI (l : List SlotT) (q : Int) (S : Nat → Prop) (w2 : World) (J : List Nat → World → Prop) (pre : List Nat) (X : World) : Prop := (J (havs l q pre) X ∧ ∀ a ∈ pre, stK l q a ≠ 0) ∧ KeepsOn S w2 X
/-- where a round was the last one: at an Empty slot; where the caller left -/
def HavX (l : List SlotT) (q : Int) (J Jx : List Nat → World → Prop) (c : Code) (pre : List Nat) (X : World) : Prop :=
  c = .ret ∧ ∃ ps x, pre = ps ++ [x] ∧ (∀ a ∈ ps, stK l q a ≠ 0) ∧ ((stK l q x = 0 ∧ J (havs l q ps) X) ∨ (goodK l q x = true ∧ Jx (havs l q ps ++ [x]) X))
theorem havI_own {l : List SlotT} {q : Int} {S : Nat → Prop} {w2 : World} {J : List Nat → World → Prop} {B : Nat} (hJ : OwnFrom B J) (hS : ∀ k, S k → k < B) : OwnFrom B (HavI l q S w2 J) := fun _ X Y row hs hg hr =>
  ⟨⟨hJ _ X Y row hs.1.1 hg hr, hs.1.2⟩, keepsOn_own (β := Unit) hS w2 () X Y row hs.2 hg hr⟩
theorem havX_own {l : List SlotT} {q : Int} {J Jx : List Nat → World → Prop} {B : Nat} (hJ : OwnFrom B J) (hJx : OwnFrom B Jx) (c : Code) : OwnFrom B (HavX l q J Jx c) := by
  rintro s X Y row ⟨hc, ps, x, h1, h2, h3⟩ hg hr
  exact ⟨hc, ps, x, h1, h2, h3.imp (fun h => ⟨h.1, hJ _ X Y row h.2 hg hr⟩) (fun h => ⟨h.1, hJx _ X Y row h.2 hg hr⟩)⟩

set_option maxRecDepth 100000 in
set_option maxHeartbeats 8000000 in
theorem having_tells (S₀ : Nat → Prop) (n₀ Bl Bq : Nat) (hS₀ : ∀ k, k < n₀ → S₀ k) (hSq : S₀ Bq) (oa : Option Addr) (ca : Nat) (l : List SlotT) (q : Int) (hlen : l.length ≤ 1000) (w0 : World) (hl : w0.cell? ⟨Bl, 0, none⟩ = some (.slice oa l.length ca)) (hq : w0.cell? ⟨Bq, 0, none⟩ = some (.int .i64 q)) (hz : SlotsAt (fun x => x < n₀) w0 (.slice oa l.length ca) l) :
    Tells Tryz.prog S₀ 83 #[.pointer (some ⟨Bl, 0, none⟩), .pointer (some ⟨Bq, 0, none⟩)] (encK l q) (fun ys => ys.map (atN l.length q) = slotsT l q) (fun pre => pre.map (atN l.length q) <+: slotsT l q) l.length w0 := by
  intro n t J Jx W hn1 hW ht hn₀ hJ hJx hY h0
  have hn1' : 1 ≤ n := by omega
  have w24 : Fence.wide.fn 84 := trivial
  have w21 : Fence.wide.fn 85 := trivial
  have hl0 : W.cell? ⟨Bl, 0, none⟩ = some (.slice oa l.length ca) := (hW.cell (p := ⟨Bl, 0, none⟩) (World.block_lt_of_cell? w0 _ hl)).trans hl
  have hq0 : W.cell? ⟨Bq, 0, none⟩ = some (.int .i64 q) := (hW.cell (p := ⟨Bq, 0, none⟩) (World.block_lt_of_cell? w0 _ hq)).trans hq
  have hz0 := hz.mem hW
  clear hl hq hz
  have hl1 : ∀ o, (W.alloc o).cell? ⟨Bl, 0, none⟩ = some (.slice oa l.length ca) := fun o => (Below.cell ((Mem.refl W).alloc o) (p := ⟨Bl, 0, none⟩) (World.block_lt_of_cell? W _ hl0)).trans hl0
  have hq1 : ∀ o, (W.alloc o).cell? ⟨Bq, 0, none⟩ = some (.int .i64 q) := fun o => (Below.cell ((Mem.refl W).alloc o) (p := ⟨Bq, 0, none⟩) (World.block_lt_of_cell? W _ hq0)).trans hq0
  refine callsIn_of_wp_marks Tryz.func83 rfl trivial ?_ rfl
  simp only [Tryz.ntmps83, List.size_toArray, List.length_cons, List.length_nil, Nat.reduceAdd, Nat.reduceSub, Array.replicate_succ, Array.replicate_zero, List.push_toArray, List.append_toArray, List.nil_append, List.cons_append]
  gi_wp2_with (gi_at_call 84; refine (callsIn_wide.2 (codeWay _ _ _ _ _)).mono ?_; rintro e w' ⟨rfl, rfl⟩)
  have m2 : Mem W (((W.alloc (.cells #[.func (.yield t) #[] #[]] 136)).alloc (.cells #[.slice oa l.length ca] 87)).alloc (.cells #[.int .i64 q] 3)) := (((Mem.refl W).alloc _).alloc _).alloc _
  have hs2 : (((W.alloc (.cells #[.func (.yield t) #[] #[]] 136)).alloc (.cells #[.slice oa l.length ca] 87)).alloc (.cells #[.int .i64 q] 3)).heap.size = W.heap.size + 3 := by simp
  have b3 := ((Blk.new W #[.func (.yield t) #[] #[]] 136).alloc (.cells #[.slice oa l.length ca] 87)).alloc (.cells #[.int .i64 q] 3)
  have bl := (Blk.new (W.alloc (.cells #[.func (.yield t) #[] #[]] 136)) #[.slice oa l.length ca] 87).alloc (.cells #[.int .i64 q] 3)
  have bq := Blk.new ((W.alloc (.cells #[.func (.yield t) #[] #[]] 136)).alloc (.cells #[.slice oa l.length ca] 87)) #[.int .i64 q] 3
  rw [World.size_alloc] at bl
  rw [World.size_alloc, World.size_alloc] at bq
  obtain ⟨w2, hw2⟩ : ∃ w2, ((W.alloc (.cells #[.func (.yield t) #[] #[]] 136)).alloc (.cells #[.slice oa l.length ca] 87)).alloc (.cells #[.int .i64 q] 3) = w2 := ⟨_, rfl⟩
  rw [hw2] at m2 hs2 b3 bl bq ⊢
  clear hw2 hl1 hq1 hl0
  have cq2 : w2.cell? ⟨Bq, 0, none⟩ = some (.int .i64 q) := (Below.cell m2 (p := ⟨Bq, 0, none⟩) (World.block_lt_of_cell? W _ hq0)).trans hq0
  have hz2 := hz0.mem m2
  have hj2 := ownFrom_mem (hJ w2.heap.size) (h0 w2.heap.size (by omega)) m2
  obtain ⟨S, hS⟩ : ∃ S : Nat → Prop, S = fun k => S₀ k ∨ (W.heap.size ≤ k ∧ k < W.heap.size + 3) := ⟨_, rfl⟩
  have hSlt : ∀ k, S k → k < w2.heap.size := by
    intro k hk
    rw [hS] at hk
    rcases hk with hk | hk
    · have := (hn₀ k hk).1; omega
    · omega
  have hSin : ∀ k, k < n₀ → S k := fun k hk => by rw [hS]; exact .inl (hS₀ k hk)
  have hSb : ∀ k, W.heap.size ≤ k → k < W.heap.size + 3 → S k := fun k h1 h2 => by rw [hS]; exact .inr ⟨h1, h2⟩
  have hSBq : S Bq := by rw [hS]; exact .inl hSq
  have hJb := ownFrom_le (hJ w2.heap.size) (B' := w2.heap.size) m2.size
  have hJxb := ownFrom_le (hJx w2.heap.size) (B' := w2.heap.size) m2.size
  have hYb := fun pre x X => hY w2.heap.size pre x X m2.size
  have hLS : ∀ {X Y : World}, Leaves S₀ W.heap.size w2.heap.size X Y → KeepsOn S X Y := fun h => ⟨h.size, fun k hk hx => by
    obtain ⟨o, ho⟩ : ∃ o, _ = some o := ⟨_, Array.getElem?_eq_getElem hx⟩
    rw [ho]
    refine h.same k o ?_ ho
    rw [hS] at hk
    rcases hk with hk | hk
    · exact .inl hk
    · exact .inr ⟨hk.1, .inl (by omega)⟩⟩
  have hWb : W.heap.size ≤ w2.heap.size := m2.size
  generalize hJJ : J w2.heap.size = J' at *
  generalize hJJx : Jx w2.heap.size = Jx' at *
  clear hY hz0 hq0 m2 h0 hS
  refine wpIn_rangeFunc_ownH rfl (by omega) (gf := 105) (lb := #[.pointer (some ⟨W.heap.size + 1 + 1, 0, none⟩), .pointer (some ⟨W.heap.size + 1, 0, none⟩)]) rfl trivial (enters_of Tryz.func105 (by kernel_rfl) rfl)
    (way_stops (n - 1) (W.heap.size + 1) (W.heap.size + 1 + 1) (by omega) oa ca l q S (fun x => x < n₀) hSin (hSb _ (by omega) (by omega)) (hSb _ (by omega) (by omega)) hlen w2 (bl.cell (j := 0) rfl) (bq.cell (j := 0) rfl) hz2)
    (fun h k => KeepsOn.trans h k) (fun X k o o' hk _ _ _ => KeepsOn.turn (fun h => by have := hSlt k h; omega) o') (Below.refl _ _) (fun _ => rfl)
    (HavI l q S w2 J') (HavX l q J' Jx') (havI_own hJb hSlt) (havX_own hJb hJxb) ⟨⟨hj2, by simp⟩, KeepsOn.refl _ _⟩
    (fun x a' X => ∃ Bx, w2.heap.size ≤ Bx ∧ Blk X Bx 116 #[.int .i64 (slot l (atN l.length q x)).1, .int .i64 (slot l (atN l.length q x)).2.1, .int .i64 (slot l (atN l.length q x)).2.2] ∧ a' = { tmps := #[.func (.yield t) #[] #[], .pointer (some ⟨Bl, 0, none⟩), .pointer (some ⟨Bq, 0, none⟩), .pointer (some ⟨W.heap.size, 0, none⟩), .int .i64 (atN l.length q x), .pointer (some ⟨Bx, 0, none⟩), .slice oa l.length ca, .int .i64 q, .func (.func 105) #[] #[.pointer (some ⟨W.heap.size + 1 + 1, 0, none⟩), .pointer (some ⟨W.heap.size + 1, 0, none⟩)], .int .i64 (atN l.length q x), .agg #[.int .i64 (slot l (atN l.length q x)).1, .int .i64 (slot l (atN l.length q x)).2.1, .int .i64 (slot l (atN l.length q x)).2.2], undef, undef, undef, undef, undef, undef, undef, undef, undef, undef, undef, undef, undef, undef, undef, undef], defers := [] })
    (fun x a' s X Y row hs hg hr => by
      obtain ⟨Bx, h1, h2, h3⟩ := hs
      exact ⟨Bx, h1, blk_own (β := Unit) () X Y row h2 hg hr, h3⟩)
    ?assign ?body ?done ?stop
  case assign =>
    rintro t2 pre x X K ⟨⟨hj, hgo⟩, hk⟩ hK
    have hsz := hk.size
    unfold encK
    gi_wp2
    exact hK _ _ ((KeepsOthers.alloc _ _).from _) (KeepsOn.mem ((Mem.refl X).alloc _)) ⟨⟨ownFrom_mem hJb hj ((Mem.refl X).alloc _), hgo⟩, hk.trans (KeepsOn.mem ((Mem.refl X).alloc _))⟩ ⟨X.heap.size, hsz, Blk.new X _ _, rfl⟩
  case body =>
    rintro t2 pre x a' X hl2 ⟨r, hr⟩ ⟨⟨hj, hgo⟩, hk⟩ ⟨Bx, hBx, bX, rfl⟩ hlt
    have hX2 := hk.size
    have cq := hk.cell hSBq cq2
    have cy := hk.cell (hSb W.heap.size (by omega) (by omega)) (b3.cell (j := 0) rfl)
    have HSt : Hid (stK l q x = (slot l (atN l.length q x)).1) := rfl
    have HGd : Hid (goodK l q x = true ↔ (slot l (atN l.length q x)).1 = 1 ∧ (slot l (atN l.length q x)).2.1 = q) := isQ_iff
    have HYt := hide (fun (X1 : World) (m : Mem X X1) => yield_wide (n - 1 - 1 - 1) (hYb (havs l q pre) x X1 (Nat.le_trans hX2 m.size) (ownFrom_mem hJb hj m) (Nat.lt_of_le_of_lt (havs_len l q pre) hlt)))
    have hy1 : 1 ≤ n - 1 - 1 := by omega
    clear hYb
    unfold encK at HYt
    generalize atN l.length q x = A at *
    generalize slot l A = sl at *
    obtain ⟨st, pr, pl⟩ := sl
    simp only [] at bX HYt HSt HGd
    have c0 := bX.cell (j := 0) rfl
    have c1 := bX.cell (j := 1) rfl
    have c2 := bX.cell (j := 2) rfl
    by_cases h1 : st = 0
    · subst h1
      gi_wp2
      exact ⟨KeepsFrom.refl _ _, rfl, pre, x, rfl, hgo, .inl ⟨HSt.out, hj⟩⟩
    · have hgo2 : ∀ a ∈ pre ++ [x], stK l q a ≠ 0 := by
        intro a ha
        rcases List.mem_append.1 ha with ha | ha
        · exact hgo a ha
        · simp at ha; subst ha; rw [HSt.out]; exact h1
      by_cases h2 : st = 1 ∧ pr = q
      · obtain ⟨rfl, rfl⟩ := h2
        have hg : goodK l pr x = true := HGd.out.2 ⟨rfl, rfl⟩
        have heq : ∀ w', (Op.equalIn 10000 116 (.agg #[.int .i64 1, .int .i64 pr, .int .i64 pl]) (.agg #[.int .i64 1, .int .i64 pr, .int .i64 pl])).run Tryz.prog w' = .ok true w' := fun w' => by rw [eqSlotIn]; simp
        have HYz : Hid (∀ X1 : World, Mem X X1 → YieldAt Fence.wide (n - 1 - 1 - 1) Tryz.prog t #[.int .i64 (A : Int), .agg #[.int .i64 1, .int .i64 pr, .int .i64 pl]] X1 fun e Y => ∃ bo : Bool, e = .returned (.bool bo) ∧
            (bo = true → KeepsFrom w2.heap.size X Y ∧ KeepsOn S X Y ∧ HavI l pr S w2 J' (pre ++ [x]) Y) ∧ (bo = false → KeepsFrom w2.heap.size X Y ∧ HavX l pr J' Jx' .ret (pre ++ [x]) Y)) := by
          intro X1 m1
          refine YieldAt.mono (HYt.out X1 m1) ?_
          rintro e Y ⟨h3, hL⟩
          have hK1 : KeepsFrom w2.heap.size X Y := ((Leaves.mem m1).trans hL).keeps hWb
          have hK2 : KeepsOn S X Y := (KeepsOn.mem m1).trans (hLS hL)
          rcases h3 with ⟨rfl, h3⟩ | ⟨rfl, h3⟩
          · refine ⟨true, rfl, fun _ => ⟨hK1, hK2, ⟨by rw [havs_snoc_yes hg]; exact h3, hgo2⟩, hk.trans hK2⟩, (fun h => by cases h)⟩
          · exact ⟨false, rfl, (fun h => by cases h), fun _ => ⟨hK1, rfl, pre, x, rfl, hgo, .inr ⟨hg, h3⟩⟩⟩
        clear HYt hgo2 hgo hk hj HSt HGd hJJ hJJx hJb hJxb hSlt hSin hSb hSBq hLS hj2 hz2 cq2 b3 bl bq hJ hJx hW ht hn₀ hS₀ hSq hr hl2 hs2 hX2
        gi_wp2
        gi_region_with (first
          | (gi_at_call 85; refine (CallsIn.inRound t2 (callsIn_wide.2 (codeUsed _ _ _))).mono ?_; rintro e w1 ⟨rfl, m1⟩; replace m1 : Mem X w1 := Mem.trans ((Mem.refl X).drew) m1; have bX1 := bX.mem m1; have e0 := bX1.cell (j := 0) rfl; have e1 := bX1.cell (j := 1) rfl; have e2 := bX1.cell (j := 2) rfl; have ey := (Below.cell m1 (p := ⟨W.heap.size, 0, none⟩) (World.block_lt_of_cell? X _ cy)).trans cy; obtain ⟨fn, tmps, assign, body, hy, hR⟩ := HYz.out w1 m1)
          | (refine RoundIn.mono (round_inner (l' := t2) hR) ?_; rintro e W3 ⟨bo, rfl, hbo1, hbo2⟩))
        all_goals cases bo
        all_goals gi_wp2
        all_goals first | exact hbo1 rfl | exact hbo1 trivial | exact hbo2 rfl | exact hbo2 trivial | exact hbo1 (by simp) | exact hbo2 (by simp)
      · have hg : goodK l q x = false := by
          cases h : goodK l q x with
          | false => rfl
          | true => exact absurd (HGd.out.1 h) h2
        have heq : ∀ w', (Op.equalIn 10000 116 (.agg #[.int .i64 st, .int .i64 pr, .int .i64 pl]) (.agg #[.int .i64 1, .int .i64 q, .int .i64 pl])).run Tryz.prog w' = .ok false w' := fun w' => by rw [eqSlotIn]; congr 1; simp; exact fun h3 h4 => absurd ⟨h3, h4⟩ h2
        have FIN := hide (fun (Y : World) (m : Mem X Y) => show KeepsFrom w2.heap.size X Y ∧ KeepsOn S X Y ∧ HavI l q S w2 J' (pre ++ [x]) Y from ⟨(Leaves.mem (S₀ := S₀) (m := W.heap.size) (b := w2.heap.size) m).keeps hWb, KeepsOn.mem m, ⟨by rw [havs_snoc_no hg]; exact ownFrom_mem hJb hj m, hgo2⟩, hk.trans (KeepsOn.mem m)⟩)
        clear HYt hgo2 hgo hk hj HSt HGd hJJ hJJx hJb hJxb hSlt hSin hSb hSBq hLS hj2 hz2 cq2 b3 bl bq hJ hJx hW ht hn₀ hS₀ hSq hr hl2 hs2 hX2
        gi_wp2
        gi_region_with (first
          | (gi_at_call 85; refine (CallsIn.inRound t2 (callsIn_wide.2 (codeUsed _ _ _))).mono ?_; rintro e w1 ⟨rfl, m1⟩; replace m1 : Mem X w1 := Mem.trans ((Mem.refl X).drew) m1; have bX1 := bX.mem m1; have e0 := bX1.cell (j := 0) rfl; have e1 := bX1.cell (j := 1) rfl; have e2 := bX1.cell (j := 2) rfl)
          | (with_reducible refine And.intro (fun _ (h : none = some _) => (by cases h)) ?_))
        all_goals gi_wp2
        all_goals exact FIN.out _ m1
  case done =>
    rintro D ys X hD rfl ⟨⟨hj, hgo⟩, hk⟩ hK
    have hall := havs_all rfl hgo
    gi_wp2
    refine ⟨by simp, .inl ⟨_, _, rfl, run_takeDeferred hK, ?_⟩⟩
    exact ⟨_, results_none rfl _ _ _, ⟨_, rfl⟩, w2.heap.size, hWb, .inl ⟨_, hall, by rw [hJJ]; exact hJb.putObj _ hj hD hK rfl⟩⟩
  case stop =>
    rintro D c pre X hD ⟨k, hk, h0, hpre⟩ ⟨rfl, ps, x, rfl, hgo, hx⟩ hK
    have hem := hide (fun hx => havs_empty (l := l) hpre hk h0 hgo hx)
    have hst := hide (fun hx => havs_stop (l := l) hpre hk h0 hgo hx)
    gi_wp2
    refine ⟨by simp, .inl ⟨_, _, rfl, run_takeDeferred hK, ?_⟩⟩
    refine ⟨_, results_none rfl _ _ _, ⟨_, rfl⟩, w2.heap.size, hWb, ?_⟩
    rcases hx with ⟨h1, h2⟩ | ⟨h1, h2⟩
    · exact .inl ⟨_, hem.out h1, by rw [hJJ]; exact hJb.putObj _ h2 hD hK rfl⟩
    · exact .inr ⟨_, hst.out h1, by rw [hJJx]; exact hJxb.putObj _ h2 hD hK rfl⟩
theorem having : HavingTells := fun S₀ n₀ Bl Bq h1 h2 oa ca l q hl w0 c1 c2 hz => having_tells S₀ n₀ Bl Bq h1 h2 oa ca l q hl w0 c1 c2 hz
end Go.Proofs.YtedopplldpcinaaGreat.Index
