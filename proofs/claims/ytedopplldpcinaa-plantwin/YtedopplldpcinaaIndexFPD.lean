/-
  IndexFind, IndexDropC, IndexPutC: in one text (merge.json).
-/
import Derived.Test.YtedopplldpcinaaIndexWay
import Derived.Maps.OwnIn
import Derived.Test.YtedopplldpcinaaIndexSame
/-
  Layer 9, the program: Find.
-/
namespace Go.Proofs.Ytedopplldpcinaa.Index
open Go.RowKit Go.Shelf Go.Proofs.Ytedopplldpcinaa.Scan
attribute [local go_sem] Oper.semAt_some

theorem info_int9 : (Try.prog.info? 3).map (fun i => (i.zero, i.size, i.bytes)) = some (some (.int .i64 0), 1, 8) := by kernel_rfl
theorem owns_lower {w : World} {base base' : Nat} {e : TypeId} {size : Nat} {v : Value} {n : Nat} {xs : List Value} (h : w.ownsRow base e size v n xs) (hb : base' ≤ base) : w.ownsRow base' e size v n xs := by
  refine ⟨h.1, ?_⟩
  rcases h.2 with h | ⟨g, cap, cur, h1, h2, h⟩
  · exact .inl h
  · exact .inr ⟨g, cap, cur, h1, Nat.le_trans hb h2, h⟩
def plK (l : List SlotT) (q : Int) (k : Nat) : Int := (slot l (atN l.length q k)).2.2
/-- between two rounds: the places so far, in a row that lies from b on -/
def FindI (l : List SlotT) (q : Int) (w : World) (b : Nat) (pre : List Nat) (X : World) : Prop :=
  (∃ v, Boxed X w.heap.size 28 v ∧ X.ownsRow b 3 1 v pre.length (pre.map fun k => Value.int .i64 (plK l q k)) ∧ (v = .slice none 0 0 ↔ pre = [])) ∧ Below w.heap.size w X
theorem findI_own (l : List SlotT) (q : Int) (w : World) (b : Nat) {B : Nat} (hB : w.heap.size ≤ B) : OwnFrom B (FindI l q w b) := by
  refine OwnFrom.and (Own.from ?_ B) (ownFrom_below (Nat.le_refl _) hB)
  exact holdsRow_own b w.heap.size 28 3 1 (fun pre : List Nat => pre.length) (fun pre => pre.map fun k => Value.int .i64 (plK l q k)) (fun pre v => v = .slice none 0 0 ↔ pre = [])

set_option maxRecDepth 100000 in
set_option maxHeartbeats 4000000 in
/-- what comes is a row of its own -/
theorem codeFindOwn_of (H : HavingTells) (S : Nat → Prop) (v : Value) (l : List SlotT) (q : Int) (w : World) (hz : SlotsAt S w v l) (hl : l.length ≤ 1000) :
    Calls Try.prog 23 #[v, .int .i64 q] w fun e w' => (∃ v, e = .returned v ∧ w'.ownsRow w.heap.size 3 1 v (findT l q).length (icells (findT l q))) ∧ Mem w w' := by
  obtain ⟨oa, ca, rfl⟩ := hz.shape
  obtain ⟨i0, hi, hz0, hz1, hz2⟩ := info_parts info_int9
  refine (callsIn_wide (n := 6)).1 ?_
  have w20 : Fence.wide.fn 50 := trivial
  refine callsIn_of_wp_marks Try.func23 rfl trivial ?_ rfl
  simp only [Try.ntmps23, List.size_toArray, List.length_cons, List.length_nil, Nat.reduceAdd, Nat.reduceSub, Array.replicate_succ, Array.replicate_zero, List.push_toArray, List.append_toArray, List.nil_append, List.cons_append]
  gi_wp2_with (gi_at_call 50; refine (callsIn_wide.2 (codeHaving _ _ _ _ _)).mono ?_; rintro e w' ⟨rfl, rfl⟩)
  have m3 : Mem w (((w.alloc (.cells #[.slice none 0 0] 28)).alloc (.cells #[.slice oa l.length ca] 69)).alloc (.cells #[.int .i64 q] 3)) := (((Mem.refl w).alloc _).alloc _).alloc _
  have hs3 : (((w.alloc (.cells #[.slice none 0 0] 28)).alloc (.cells #[.slice oa l.length ca] 69)).alloc (.cells #[.int .i64 q] 3)).heap.size = w.heap.size + 3 := by simp
  have bP := ((Boxed.new w 28 (.slice none 0 0)).alloc (.cells #[.slice oa l.length ca] 69)).alloc (.cells #[.int .i64 q] 3)
  have bl := (Blk.new (w.alloc (.cells #[.slice none 0 0] 28)) #[.slice oa l.length ca] 69).alloc (.cells #[.int .i64 q] 3)
  have bq := Blk.new ((w.alloc (.cells #[.slice none 0 0] 28)).alloc (.cells #[.slice oa l.length ca] 69)) #[.int .i64 q] 3
  rw [World.size_alloc] at bl
  rw [World.size_alloc, World.size_alloc] at bq
  obtain ⟨w3, hw3⟩ : ∃ w3, ((w.alloc (.cells #[.slice none 0 0] 28)).alloc (.cells #[.slice oa l.length ca] 69)).alloc (.cells #[.int .i64 q] 3) = w3 := ⟨_, rfl⟩
  rw [hw3] at m3 hs3 bP bl bq ⊢
  clear hw3
  have hz3 := hz.of_ints.mem m3
  have HT := H (fun k => k < w.heap.size + 3 ∧ k ≠ w.heap.size) w.heap.size (w.heap.size + 1) (w.heap.size + 1 + 1) (fun k hk => ⟨by omega, by omega⟩) ⟨by omega, by omega⟩ oa ca l q hl w3 (bl.cell (j := 0) rfl) (bq.cell (j := 0) rfl) hz3
  refine rangeTells (n := 6) (by omega) (m := w.heap.size + 3) hs3 (S₀ := fun k => k < w.heap.size + 3 ∧ k ≠ w.heap.size) (gf := 68) (lb := #[.pointer (some ⟨w.heap.size + 1, 0, none⟩), .pointer (some ⟨w.heap.size + 1 + 1, 0, none⟩)]) rfl (enters_of Try.func68 (by kernel_rfl) rfl)
    HT (fun k hk => hk.1) (fun _ => rfl) (FindI l q w) (fun _ _ _ => False) (fun b => findI_own l q w b (by omega)) (fun _ _ _ _ _ hs _ _ => hs) (fun b hb => ⟨⟨_, bP, World.ownsRow_nil _ _ _ _, by simp⟩, m3⟩)
    (fun x a' X => ∃ Bx, w.heap.size + 3 ≤ Bx ∧ Blk X Bx 102 #[.int .i64 (slot l (atN l.length q x)).1, .int .i64 (slot l (atN l.length q x)).2.1, .int .i64 (slot l (atN l.length q x)).2.2] ∧ a' = { tmps := #[.slice oa l.length ca, .int .i64 q, undef, undef, .slice none 0 0, .pointer (some ⟨w.heap.size, 0, none⟩), undef, .pointer (some ⟨Bx, 0, none⟩), .slice oa l.length ca, .int .i64 q, .func (.func 68) #[] #[.pointer (some ⟨w.heap.size + 1, 0, none⟩), .pointer (some ⟨w.heap.size + 1 + 1, 0, none⟩)], .int .i64 (atN l.length q x), .agg #[.int .i64 (slot l (atN l.length q x)).1, .int .i64 (slot l (atN l.length q x)).2.1, .int .i64 (slot l (atN l.length q x)).2.2], undef, undef, undef, undef, undef, undef], defers := [] })
    (fun x a' s X Y row hs hg hr => by
      obtain ⟨Bx, h1, h2, h3⟩ := hs
      exact ⟨Bx, h1, blk_own (β := Unit) () X Y row h2 hg hr, h3⟩)
    ?assign ?body ?done ?stop
  case assign =>
    rintro b pre x X K hb hbX hI hK
    unfold encK
    gi_wp2
    exact hK _ _ ((Mem.refl X).alloc _) ⟨X.heap.size, by omega, Blk.new X _ _, rfl⟩
  case body =>
    rintro b pre x a' X hb hbX ⟨⟨v, hv, hrow, hnil⟩, hB⟩ ⟨Bx, hBx, bX, rfl⟩ hlt
    have HP : Hid (plK l q x = (slot l (atN l.length q x)).2.2) := rfl
    generalize atN l.length q x = A at *
    generalize slot l A = sl at *
    obtain ⟨st, pr, pl⟩ := sl
    simp only [] at bX HP
    have c0 := bX.cell (j := 0) rfl
    have c1 := bX.cell (j := 1) rfl
    have c2 := bX.cell (j := 2) rfl
    have hc := hv.cell
    clear HT bP bl bq m3 hz3 hz
    gi_wp2_with (gi_at_builtin; refine wpListIn_append_own _ rfl _ _ 28 rfl b 3 i0 (.int .i64 0) 1 8 Try.underlying28 hi hz0 hz1 hz2 rfl (by decide) _ _ _ rfl (hrow.alloc _) ⟨X.heap.size, 0, none⟩ 1 1 [.int .i64 pl] rfl rfl (cell_one_new _ _ _) (by simp [Value.oneCell']) (by unfold maxLen; omega) (by omega) (by simp; omega) ?_; intro v' w1 hown' hgrow _; obtain ⟨g', cap', rfl⟩ := ownsRow_succ hown'; obtain ⟨hv1, hv2, hr2, hL, hb2⟩ := appended_leaves (S₀ := fun k => k < w.heap.size + 3 ∧ k ≠ w.heap.size) (m := w.heap.size + 3) (n₀ := w.heap.size) hv (by decide) hrow hbX (by omega) (Nat.le_refl _) (fun h => h.2 rfl) (by omega) (fun k hk => hk.1) hown' hgrow; have hc1 := hv1.cell; have hf1 := hv1.frozen)
    refine ⟨hL, ⟨_, hv2, ?_, by simp⟩, Below.trans hB hb2⟩
    rw [List.length_append, List.map_append]
    show World.ownsRow _ _ _ _ _ _ (_ ++ [Value.int .i64 (plK l q x)])
    rw [HP.out]
    exact hr2
  case done =>
    rintro b ys X hb hS ⟨⟨v, hv, hrow, hnil⟩, hB⟩ hK
    have hc := hv.cell
    have HF : Hid (ys.map (plK l q) = findT l q) := by
      show _ = _
      unfold findT
      rw [← hS, List.map_map]
      rfl
    have hrow2 : X.ownsRow b 3 1 v (findT l q).length (icells (findT l q)) := by
      rw [← HF.out, List.length_map]
      show World.ownsRow _ _ _ _ _ _ ((ys.map (plK l q)).map _)
      rw [List.map_map]
      exact hrow
    clear hrow hnil HT
    gi_wp2
    refine ⟨by simp, .inl ⟨_, _, rfl, run_takeDeferred hK, ?_⟩⟩
    exact ⟨_, results_tmp rfl _ _ _, ⟨v, rfl, owns_lower (ownsRow_putObj hrow2 (.deferred none) hK rfl) (by omega)⟩, hB.trans (belowK_b (w := w) (Nat.le_refl _) X (w.heap.size + 3) _ _ (by omega) hK rfl rfl)⟩
  case stop =>
    rintro b pre X _ _ h _
    exact h.elim
theorem codeFind_of (H : HavingTells) : FindSpec 23 := by
  intro S v l q w hz hl
  refine (codeFindOwn_of H S v l q w hz hl).mono ?_
  rintro e w' ⟨⟨v, rfl, h⟩, m⟩
  exact ⟨⟨v, rfl, IntsIn.of_owns h⟩, m⟩
end Go.Proofs.Ytedopplldpcinaa.Index
/-
  Layer 9, the program: Drop.
-/
namespace Go.Proofs.Ytedopplldpcinaa.Index
open Go.RowKit Go.Shelf Go.Proofs.Ytedopplldpcinaa.Scan
attribute [local go_sem] Oper.semAt_some

theorem slots_own {β : Type} {B : Nat} {S : Nat → Prop} {v : Value} {l : List SlotT} : OwnFrom B (fun (_ : β) X => SlotsAt S X v l) := fun _ X Y row hs hg hr => by
  refine ⟨hs.1, ?_⟩
  rcases hs.2 with h | ⟨b, off, cap, hv, h0, hb, hc⟩
  · exact .inl h
  · have hbl := World.block_lt_of_cell? X _ (hc 0 h0).1
    have hne : some b ≠ row := by
      intro e
      obtain ⟨_, o, ho, hcell⟩ := hr b e.symm
      have h1 := (hc 0 h0).1
      simp only [World.cell?, ho] at h1
      cases o <;> simp_all [Obj.isCells]
    have hk : ∀ i, Y.cell? ⟨b, i, none⟩ = X.cell? ⟨b, i, none⟩ := fun i => World.cell?_of_block (a := ⟨b, i, none⟩) (hg.block b hbl hne)
    exact .inr ⟨b, off, cap, hv, h0, hb, fun i hi => ⟨(hk _).trans (hc i hi).1, (hk _).trans (hc i hi).2.1, (hk _).trans (hc i hi).2.2⟩⟩
theorem load_slice {w : World} {b : Nat} {v : Value} (h : Blk w b 69 #[v]) : (loadVar 69 ⟨b, 0, none⟩).run Try.prog w = .ok v w := by
  have c := h.cell (j := 0) rfl
  simp [go_sem, c]
theorem load_errno9 {w : World} {b : Nat} {v : Value} (h : Blk w b 50 #[v]) : (loadVar 50 ⟨b, 0, none⟩).run Try.prog w = .ok v w := by
  have c := h.cell (j := 0) rfl
  simp [go_sem, c]
theorem results_slice {fn : Func} {p : Tmp} (h : fn.results = #[.cell p 69]) (tmps : Array Value) (w : World) {b : Nat} {v : Value} (hp : tmps.getD p undef = .pointer (some ⟨b, 0, none⟩)) (hb : Blk w b 69 #[v]) : (results fn tmps).run Try.prog w = .ok v w := by
  have hp' : tmps[p]?.getD undef = .pointer (some ⟨b, 0, none⟩) := by simpa using hp
  simp [results, h, hp', asAddr, load_slice hb]
theorem results_slice_errno {fn : Func} {p r : Tmp} (h : fn.results = #[.cell p 69, .cell r 50]) (tmps : Array Value) (w : World) {b c : Nat} {v u : Value} (hp : tmps.getD p undef = .pointer (some ⟨b, 0, none⟩)) (hr : tmps.getD r undef = .pointer (some ⟨c, 0, none⟩)) (hb : Blk w b 69 #[v]) (hc : Blk w c 50 #[u]) :
    (results fn tmps).run Try.prog w = .ok (.tuple #[v, u]) w := by
  have hp' : tmps[p]?.getD undef = .pointer (some ⟨b, 0, none⟩) := by simpa using hp
  have hr' : tmps[r]?.getD undef = .pointer (some ⟨c, 0, none⟩) := by simpa using hr
  simp [results, h, hp', hr', asAddr, load_slice hb, load_errno9 hc]
theorem slots_of_owns {w : World} {base : Nat} {v : Value} {l : List SlotT} (h : w.ownsRow base 102 3 v l.length (sCells l)) (hl : l.length ≤ 1000) : SlotsAt (fun x => base ≤ x) w v l := by
  obtain ⟨oa, cap, g, rfl, hR, hg⟩ := RowS.of_owns base h rfl
  refine hR.slots (by unfold maxLen; omega) ?_ cap
  rcases hg with h | h
  · exact h.1
  · omega
theorem Blk.putObj {X : World} {b D : Nat} {t : TypeId} {cs : Array Value} (h : Blk X b t cs) (hne : b ≠ D) (o : Obj) : Blk (X.putObj D o) b t cs := (World.putObj_heap_other hne).trans h

/-! ### which slot is dropped -/
def hitK (l : List SlotT) (q p : Int) (k : Nat) : Prop := (slot l (atN l.length q k)).1 = 1 ∧ (slot l (atN l.length q k)).2.1 = q ∧ (slot l (atN l.length q k)).2.2 = p
theorem hit_none {l : List SlotT} {q p : Int} {ps : List Nat} {ss : List Nat} (hp : ps.map (atN l.length q) = ss) (hs : ∀ k ∈ ss, isQ l q k = true) (h : ∀ a ∈ ps, ¬ hitK l q p a) : ss.find? (fun k => decide ((slot l k).2.2 = p)) = none := by
  rw [List.find?_eq_none]
  intro k hk h2
  have h3 := isQ_iff.1 (hs k hk)
  rw [← hp] at hk
  obtain ⟨a, ha, rfl⟩ := List.mem_map.1 hk
  exact h a ha ⟨h3.1, h3.2, by simpa using h2⟩
theorem drop_no {l : List SlotT} {q p : Int} {ys : List Nat} (hy : ys.map (atN l.length q) = slotsT l q) (h : ∀ a ∈ ys, ¬ hitK l q p a) : dropT l q p = l := by
  unfold dropT dropK
  rw [hit_none hy (fun k hk => (slotsT_mem hk).1) h]
theorem drop_yes {l : List SlotT} {q p : Int} {ps : List Nat} {x : Nat} (hy : (ps ++ [x]).map (atN l.length q) <+: slotsT l q) (h : ∀ a ∈ ps, ¬ hitK l q p a) (hx : hitK l q p x) : dropT l q p = l.set (atN l.length q x) (2, 0, 0) := by
  obtain ⟨rest, hr⟩ := hy
  have hs : ∀ k ∈ ps.map (atN l.length q), isQ l q k = true := fun k hk => (slotsT_mem (by rw [← hr]; simp at hk ⊢; exact .inl hk)).1
  have e : dropK l q p = some (atN l.length q x) := by
    unfold dropK
    rw [← hr, List.map_append, List.append_assoc, List.find?_append, hit_none rfl hs h]
    simp [hx.2.2]
  unfold dropT
  rw [e]

/-- between two rounds -/
def DropI (l : List SlotT) (q p : Int) (w6 : World) (_ : Nat) (pre : List Nat) (X : World) : Prop := (∀ a ∈ pre, ¬ hitK l q p a) ∧ Below w6.heap.size w6 X
/-- where a round was the last one: that slot is dropped -/
def DropX (S : Nat → Prop) (l : List SlotT) (q p : Int) (w : World) (_ : Nat) (pre : List Nat) (X : World) : Prop :=
  (∃ ps x, pre = ps ++ [x] ∧ (∀ a ∈ ps, ¬ hitK l q p a) ∧ hitK l q p x ∧ ∃ v, Blk X (w.heap.size + 1 + 1 + 1) 69 #[v] ∧ SlotsAt (fun k => S k ∨ w.heap.size ≤ k) X v (l.set (atN l.length q x) (2, 0, 0))) ∧ Below w.heap.size w X
theorem dropX_own {S : Nat → Prop} {l : List SlotT} {q p : Int} {w : World} {b B : Nat} (hB : w.heap.size ≤ B) : OwnFrom B (DropX S l q p w b) := by
  rintro s X Y row ⟨⟨ps, x, h1, h2, h3, v, hv, hz⟩, hb⟩ hg hr
  exact ⟨⟨ps, x, h1, h2, h3, v, blk_own (β := Unit) () X Y row hv hg hr, slots_own (β := Unit) () X Y row hz hg hr⟩, ownFrom_below (β := Unit) (Nat.le_refl _) hB () X Y row hb hg hr⟩

end Go.Proofs.Ytedopplldpcinaa.Index
/-
  Layer 9, the program: Put.
-/
namespace Go.Proofs.Ytedopplldpcinaa.Index
open Go.RowKit Go.Shelf Go.Proofs.Ytedopplldpcinaa.Scan
attribute [local go_sem] Oper.semAt_some

theorem KeepsOn.turned {S : Nat → Prop} {X : World} {k : Nat} (hk : ¬ S k) (o : Obj) : KeepsOn S X (X.putObj k o) :=
  ⟨by simp [World.putObj], fun i hi _ => World.putObj_heap_other (fun e => hk (e ▸ hi))⟩
theorem free_range {l : List SlotT} {q : Int} {k : Nat} (h : ∀ a ∈ List.range k, (slot l (atN l.length q a)).1 = 1) : freeN l q k = none := by
  induction k with
  | zero => rfl
  | succ k ih =>
    rw [List.range_succ] at h
    exact free_next (ih fun a ha => h a (by simp at ha ⊢; omega)) (h k (by simp))
theorem put_no {l : List SlotT} {q p : Int} {ys : List Nat} (h0 : 0 ≤ q) (hs : ys = steps l q) (h : ∀ a ∈ ys, (slot l (atN l.length q a)).1 = 1) : putT l q p = ([], 40) := by
  subst hs
  unfold steps at h
  rw [if_neg (by omega)] at h
  unfold putT
  rw [if_neg (by omega), free_range h]
theorem put_yes {l : List SlotT} {q p : Int} {ps : List Nat} {x k : Nat} (h0 : 0 ≤ q) (hs : ps ++ [x] = List.range k) (hk : k ≤ l.length) (h : ∀ a ∈ ps, (slot l (atN l.length q a)).1 = 1) (hx : (slot l (atN l.length q x)).1 ≠ 1) : putT l q p = (l.set (atN l.length q x) (1, q, p), 0) := by
  have e : k = x + 1 ∧ ps = List.range x := by
    cases k with
    | zero => simp at hs
    | succ k =>
      rw [List.range_succ] at hs
      obtain ⟨h1, h2⟩ := List.append_inj' hs rfl
      injection h2 with h2
      exact ⟨by omega, by rw [h1, h2]⟩
  obtain ⟨e1, rfl⟩ := e
  unfold putT
  rw [if_neg (by omega), free_here (free_range h) (by omega) hx]
/-- between two rounds -/
def PutI (l : List SlotT) (q : Int) (w7 : World) (pre : List Nat) (X : World) : Prop := (∀ a ∈ pre, (slot l (atN l.length q a)).1 = 1) ∧ Below w7.heap.size w7 X
/-- where a round was the last one: that slot is taken -/
def PutX (S : Nat → Prop) (l : List SlotT) (q p : Int) (w : World) (c : Code) (pre : List Nat) (X : World) : Prop :=
  (c = .ret ∧ ∃ ps x, pre = ps ++ [x] ∧ (∀ a ∈ ps, (slot l (atN l.length q a)).1 = 1) ∧ (slot l (atN l.length q x)).1 ≠ 1 ∧ Blk X (w.heap.size + 1 + 1 + 1 + 1) 50 #[.int .i64 0] ∧ ∃ v, Blk X (w.heap.size + 1 + 1 + 1) 69 #[v] ∧ SlotsAt (fun k => S k ∨ w.heap.size ≤ k) X v (l.set (atN l.length q x) (1, q, p))) ∧ Below w.heap.size w X
theorem putX_own {S : Nat → Prop} {l : List SlotT} {q p : Int} {w : World} {B : Nat} (hB : w.heap.size ≤ B) (c : Code) : OwnFrom B (PutX S l q p w c) := by
  rintro s X Y row ⟨⟨hc, ps, x, h1, h2, h3, he, v, hv, hz⟩, hb⟩ hg hr
  exact ⟨⟨hc, ps, x, h1, h2, h3, blk_own (β := Unit) () X Y row he hg hr, v, blk_own (β := Unit) () X Y row hv hg hr, slots_own (β := Unit) () X Y row hz hg hr⟩, ownFrom_below (β := Unit) (Nat.le_refl _) hB () X Y row hb hg hr⟩

set_option maxRecDepth 100000 in
set_option maxHeartbeats 8000000 in
theorem codePut : PutSpec 53 := by
  intro S v l q p w hz hl
  obtain ⟨oa, ca, rfl⟩ := hz.shape
  refine (callsIn_wide (n := 6)).1 ?_
  have w21 : Fence.wide.fn 70 := trivial
  have w22 : Fence.wide.fn 72 := trivial
  have w24 : Fence.wide.fn 69 := trivial
  refine callsIn_of_wp_marks Try.func53 rfl trivial ?_ rfl
  simp only [Try.ntmps53, List.size_toArray, List.length_cons, List.length_nil, Nat.reduceAdd, Nat.reduceSub, Array.replicate_succ, Array.replicate_zero, List.push_toArray, List.append_toArray, List.nil_append, List.cons_append]
  by_cases hq : q < 0
  · have HE := hide (put_neg (l := l) (p := p) hq)
    have hq' : q ≤ -1 := by omega
    clear hq
    have e3 := (Blk.new (((w.alloc (.cells #[.slice oa l.length ca] 69)).alloc (.cells #[.int .i64 q] 3)).alloc (.cells #[.int .i64 p] 3)) #[.slice none 0 0] 69).alloc (.cells #[.int .i64 1] 50)
    have e4 := Blk.new ((((w.alloc (.cells #[.slice oa l.length ca] 69)).alloc (.cells #[.int .i64 q] 3)).alloc (.cells #[.int .i64 p] 3)).alloc (.cells #[.slice none 0 0] 69)) #[.int .i64 1] 50
    simp only [World.size_alloc] at e3 e4
    gi_wp2
    refine ⟨_, results_slice_errno rfl _ _ rfl rfl e3 e4, ?_⟩
    exact ⟨⟨_, by rw [HE.out], by rw [HE.out]; exact SlotsAt.nil _ _ _ _⟩, ((((Mem.refl w).alloc _).alloc _).alloc _).alloc _ |>.alloc _⟩
  · have hq0 : 0 ≤ q := by omega
    gi_wp2_with (gi_at_call 69; refine (callsIn_wide.2 (codeWay _ _ _ _ _)).mono ?_; rintro e w' ⟨rfl, rfl⟩)
    obtain ⟨w1, hw1⟩ : ∃ w1, w.alloc (.cells #[.slice oa l.length ca] 69) = w1 := ⟨_, rfl⟩
    have s1 : w1.heap.size = w.heap.size + 1 := by rw [← hw1]; simp
    have m1 : Mem w w1 := by rw [← hw1]; exact (Mem.refl w).alloc _
    have b0 : Blk w1 w.heap.size 69 #[.slice oa l.length ca] := by rw [← hw1]; exact Blk.new _ _ _
    rw [hw1]
    clear hw1
    obtain ⟨w2, hw2⟩ : ∃ w2, w1.alloc (.cells #[.int .i64 q] 3) = w2 := ⟨_, rfl⟩
    have s2 : w2.heap.size = w.heap.size + 2 := by rw [← hw2]; simp [s1]
    have m2 : Mem w1 w2 := by rw [← hw2]; exact (Mem.refl w1).alloc _
    have b1 : Blk w2 (w.heap.size + 1) 3 #[.int .i64 q] := by rw [← hw2, ← s1]; exact Blk.new _ _ _
    rw [hw2]
    clear hw2
    obtain ⟨w3, hw3⟩ : ∃ w3, w2.alloc (.cells #[.int .i64 p] 3) = w3 := ⟨_, rfl⟩
    have s3 : w3.heap.size = w.heap.size + 3 := by rw [← hw3]; simp [s2]
    have m3 : Mem w2 w3 := by rw [← hw3]; exact (Mem.refl w2).alloc _
    have b2 : Blk w3 (w.heap.size + 2) 3 #[.int .i64 p] := by rw [← hw3, ← s2]; exact Blk.new _ _ _
    rw [hw3]
    clear hw3
    obtain ⟨w4, hw4⟩ : ∃ w4, w3.alloc (.cells #[.slice none 0 0] 69) = w4 := ⟨_, rfl⟩
    have s4 : w4.heap.size = w.heap.size + 4 := by rw [← hw4]; simp [s3]
    have m4 : Mem w3 w4 := by rw [← hw4]; exact (Mem.refl w3).alloc _
    have b3 : Blk w4 (w.heap.size + 3) 69 #[.slice none 0 0] := by rw [← hw4, ← s3]; exact Blk.new _ _ _
    rw [hw4]
    clear hw4
    obtain ⟨w5, hw5⟩ : ∃ w5, w4.alloc (.cells #[.int .i64 0] 50) = w5 := ⟨_, rfl⟩
    have s5 : w5.heap.size = w.heap.size + 5 := by rw [← hw5]; simp [s4]
    have m5 : Mem w4 w5 := by rw [← hw5]; exact (Mem.refl w4).alloc _
    have b4 : Blk w5 (w.heap.size + 4) 50 #[.int .i64 0] := by rw [← hw5, ← s4]; exact Blk.new _ _ _
    rw [hw5]
    clear hw5
    obtain ⟨w6, hw6⟩ : ∃ w6, w5.alloc (.cells #[.slice oa l.length ca] 69) = w6 := ⟨_, rfl⟩
    have s6 : w6.heap.size = w.heap.size + 6 := by rw [← hw6]; simp [s5]
    have m6 : Mem w5 w6 := by rw [← hw6]; exact (Mem.refl w5).alloc _
    have b5 : Blk w6 (w.heap.size + 5) 69 #[.slice oa l.length ca] := by rw [← hw6, ← s5]; exact Blk.new _ _ _
    rw [hw6]
    clear hw6
    obtain ⟨w7, hw7⟩ : ∃ w7, w6.alloc (.cells #[.int .i64 q] 3) = w7 := ⟨_, rfl⟩
    have s7 : w7.heap.size = w.heap.size + 7 := by rw [← hw7]; simp [s6]
    have m7 : Mem w6 w7 := by rw [← hw7]; exact (Mem.refl w6).alloc _
    have b6 : Blk w7 (w.heap.size + 6) 3 #[.int .i64 q] := by rw [← hw7, ← s6]; exact Blk.new _ _ _
    rw [hw7]
    clear hw7
    replace b5 := b5.mem m7
    have m57 := m6.trans m7
    replace b4 : Blk w7 (w.heap.size + 1 + 1 + 1 + 1) 50 #[.int .i64 0] := b4.mem m57
    have m47 := m5.trans m57
    replace b3 : Blk w7 (w.heap.size + 1 + 1 + 1) 69 #[.slice none 0 0] := b3.mem m47
    have m37 := m4.trans m47
    replace b2 : Blk w7 (w.heap.size + 1 + 1) 3 #[.int .i64 p] := b2.mem m37
    have m27 := m3.trans m37
    replace b1 := b1.mem m27
    have m17 := m2.trans m27
    replace b0 := b0.mem m17
    have m07 := m1.trans m17
    have hz7 := hz.mem m07
    have hz7o := hz7.of_ints
    clear m1 m2 m3 m4 m5 m6 m7 m57 m47 m37 m27 m17 s1 s2 s3 s4 s5 s6
    have HNO := hide (fun ys hy h => put_no (l := l) (q := q) (p := p) (ys := ys) hq0 hy h)
    have HYES := hide (fun ps x k hs hk h hx => put_yes (l := l) (q := q) (p := p) (ps := ps) (x := x) (k := k) hq0 hs hk h hx)
    refine wpIn_rangeFunc_ownH rfl (by decide) (gf := 93) (lb := #[.pointer (some ⟨w.heap.size + 6, 0, none⟩), .pointer (some ⟨w.heap.size + 5, 0, none⟩)]) rfl trivial (enters_of Try.func93 (by kernel_rfl) rfl)
      (way_stops 5 (w.heap.size + 5) (w.heap.size + 6) (by decide) oa ca l q (fun k => k < w7.heap.size) (fun k => k < w7.heap.size) (fun _ h => h) (by show _ < _; omega) (by show _ < _; omega) hl w7 (b5.cell (j := 0) rfl) (b6.cell (j := 0) rfl) hz7o)
      (fun h k => KeepsOn.trans h k) (fun X k o o' hk _ _ _ => KeepsOn.turned (by show ¬ _ < _; omega) o') (Below.refl _ _) (fun _ => rfl)
      (PutI l q w7) (PutX S l q p w) (OwnFrom.and (ownFrom_pure _ _) (ownFrom_below (Nat.le_refl _) (Nat.le_refl _))) (fun c => putX_own (by omega) c) ⟨by simp, Below.refl _ _⟩
      (fun x a' X => ∃ Bx, w.heap.size + 7 ≤ Bx ∧ Blk X Bx 102 #[.int .i64 (slot l (atN l.length q x)).1, .int .i64 (slot l (atN l.length q x)).2.1, .int .i64 (slot l (atN l.length q x)).2.2] ∧ a' = { tmps := #[.slice oa l.length ca, .int .i64 q, .int .i64 p, .pointer (some ⟨w.heap.size, 0, none⟩), .pointer (some ⟨w.heap.size + 1, 0, none⟩), .pointer (some ⟨w.heap.size + 1 + 1, 0, none⟩), .pointer (some ⟨w.heap.size + 1 + 1 + 1, 0, none⟩), .pointer (some ⟨w.heap.size + 1 + 1 + 1 + 1, 0, none⟩), .int .i64 (atN l.length q x), .pointer (some ⟨Bx, 0, none⟩), .int .i64 q, .bool false, .slice oa l.length ca, .int .i64 q, .func (.func 93) #[] #[.pointer (some ⟨w.heap.size + 1 + 1 + 1 + 1 + 1 + 1, 0, none⟩), .pointer (some ⟨w.heap.size + 1 + 1 + 1 + 1 + 1, 0, none⟩)], .int .i64 (atN l.length q x), .agg #[.int .i64 (slot l (atN l.length q x)).1, .int .i64 (slot l (atN l.length q x)).2.1, .int .i64 (slot l (atN l.length q x)).2.2], undef, undef, undef, undef, undef, undef, undef, undef, undef], defers := [] })
      (fun x a' s X Y row hs hg hr => by
        obtain ⟨Bx, h1, h2, h3⟩ := hs
        exact ⟨Bx, h1, blk_own (β := Unit) () X Y row h2 hg hr, h3⟩)
      ?assign ?body ?done ?stop
    case assign =>
      rintro t2 pre x X K ⟨hno, hB⟩ hK
      have hsz := hB.size
      unfold encK
      gi_wp2
      exact hK _ _ ((KeepsOthers.alloc _ _).from _) (KeepsOn.mem ((Mem.refl X).alloc _)) ⟨hno, Mem.trans hB ((Mem.refl X).alloc _)⟩ ⟨X.heap.size, by omega, Blk.new X _ _, rfl⟩
    case body =>
      rintro t2 pre x a' X hl2 ⟨r, hr⟩ ⟨hno, hB⟩ ⟨Bx, hBx, bX, rfl⟩ hlt
      have hA : atN l.length q x < l.length := Nat.mod_lt _ (by omega)
      have HX := hide (fun (v : Value) (Y : World) (hst : (slot l (atN l.length q x)).1 ≠ 1) (h0 : Blk Y (w.heap.size + 1 + 1 + 1 + 1) 50 #[.int .i64 0]) (h1 : Blk Y (w.heap.size + 1 + 1 + 1) 69 #[v]) (h2 : SlotsAt (fun k => S k ∨ w.heap.size ≤ k) Y v (l.set (atN l.length q x) (1, q, p))) (h3 : Below w.heap.size w Y) => show PutX S l q p w .ret (pre ++ [x]) Y from ⟨⟨rfl, pre, x, rfl, hno, hst, h0, v, h1, h2⟩, h3⟩)
      have HI : Hid ((slot l (atN l.length q x)).1 = 1 → ∀ a ∈ pre ++ [x], (slot l (atN l.length q a)).1 = 1) := by
        intro h a ha
        rcases List.mem_append.1 ha with ha | ha
        · exact hno a ha
        · simp at ha; subst ha; exact h
      have x0 := b0.mem hB
      have x1 := b1.mem hB
      have x2 := b2.mem hB
      have x3 := b3.mem hB
      have x4 := b4.mem hB
      have hzX := hz7.mem hB
      have mX := m07.trans hB
      have hXs := hB.size
      generalize atN l.length q x = A at *
      generalize slot l A = sl at *
      obtain ⟨st, pr, pl⟩ := sl
      simp only [] at bX HX HI
      have c0 := bX.cell (j := 0) rfl
      have c1 := bX.cell (j := 1) rfl
      have c2 := bX.cell (j := 2) rfl
      have d0 := x0.cell (j := 0) rfl
      have d1 := x1.cell (j := 0) rfl
      have d2 := x2.cell (j := 0) rfl
      clear b0 b1 b2 b3 b4 b5 b6 hz7 hz7o hz HNO HYES hno hr hl2
      have hy1 : 1 ≤ 6 - 1 - 1 := by decide
      by_cases h : st = 1
      · have hno2 := HI.out h
        subst h
        clear HX HI
        gi_wp2
        exact ⟨KeepsFrom.refl _ _, KeepsOn.refl _ _, hno2, hB⟩
      · have FIN : Hid (∀ (w8 w9 : World) (v : Value), Mem X w8 → Mem w8 w9 → SlotsAt (fun k => w8.heap.size ≤ k) w9 v (l.set A (1, q, p)) → KeepsFrom w7.heap.size X ((w9.setCell ⟨w.heap.size + 1 + 1 + 1, 0, none⟩ v).setCell ⟨w.heap.size + 1 + 1 + 1 + 1, 0, none⟩ (.int .i64 0)) ∧ PutX S l q p w .ret (pre ++ [x]) ((w9.setCell ⟨w.heap.size + 1 + 1 + 1, 0, none⟩ v).setCell ⟨w.heap.size + 1 + 1 + 1 + 1, 0, none⟩ (.int .i64 0))) := by
          intro w8 w9 v m8 m9 hs9
          have h8 := m8.size
          have k9 : KeepsFrom w7.heap.size X w9 := ⟨(m8.trans m9).size, fun k _ _ hk _ => ((m8.trans m9).block k (Array.getElem?_eq_some_iff.1 hk).1).trans hk⟩
          refine ⟨(k9.trans ((KeepsOthers.setCell _ _ _).from _)).trans ((KeepsOthers.setCell _ _ _).from _), HX.out v _ h ((((x4.mem (m8.trans m9)).other (a := ⟨w.heap.size + 1 + 1 + 1, 0, none⟩) (by show w.heap.size + 1 + 1 + 1 + 1 ≠ w.heap.size + 1 + 1 + 1; omega) v)).set 0 (.int .i64 0)) (((x3.mem (m8.trans m9)).set 0 v).other (a := ⟨w.heap.size + 1 + 1 + 1 + 1, 0, none⟩) (by show w.heap.size + 1 + 1 + 1 ≠ w.heap.size + 1 + 1 + 1 + 1; omega) (.int .i64 0)) ?_ ((((mX.trans m8).trans m9).setCell (p := ⟨w.heap.size + 1 + 1 + 1, 0, none⟩) (by show w.heap.size ≤ w.heap.size + 1 + 1 + 1; omega) v).setCell (p := ⟨w.heap.size + 1 + 1 + 1 + 1, 0, none⟩) (by show w.heap.size ≤ w.heap.size + 1 + 1 + 1 + 1; omega) (.int .i64 0))⟩
          exact ((hs9.setCell (p := ⟨w.heap.size + 1 + 1 + 1, 0, none⟩) (by show ¬ (w8.heap.size ≤ w.heap.size + 1 + 1 + 1); omega) v).setCell (p := ⟨w.heap.size + 1 + 1 + 1 + 1, 0, none⟩) (by show ¬ (w8.heap.size ≤ w.heap.size + 1 + 1 + 1 + 1); omega) (.int .i64 0)).mono fun g hg _ => .inr (by omega)
        clear HX HI
        gi_wp2
        gi_region_with (first
          | (gi_at_call 70; refine (CallsIn.inRound _ (callsIn_wide.2 (codeUsed _ _ _))).mono ?_; rintro e w8 ⟨rfl, m8⟩; replace m8 : Mem X w8 := Mem.trans ((Mem.refl X).drew) m8; have el := (x0.mem m8).cell (j := 0) rfl)
          | (gi_at_call 72; refine (CallsIn.inRound _ (callsIn_wide.2 (codeWith S _ l A (1, q, p) _ (hzX.mem m8) hl hA))).mono ?_; rintro e w9 ⟨⟨v9, rfl, h9⟩, m9⟩; obtain ⟨o9, c9, rfl⟩ := h9.shape; have y3 := (x3.mem m8).mem m9; have f0 := y3.cell (j := 0) rfl; have f1 := y3.frozen 0; have y4 := (x4.mem m8).mem m9; have f2 := y4.cell (j := 0) rfl; have f3 := y4.frozen 0))
        all_goals gi_wp2
        all_goals exact FIN.out w8 w9 _ m8 m9 (by simpa only [List.length_set] using h9)
    case done =>
      rintro D ys X hD hS ⟨hno, hB⟩ hK
      have HE := hide (HNO.out ys hS hno)
      have x3 := b3.mem hB
      have x4 := b4.mem hB
      have d3 := x3.cell (j := 0) rfl
      have d4 := x4.cell (j := 0) rfl
      have f3 := x3.frozen 0
      have f4 := x4.frozen 0
      have mX := m07.trans hB
      have hXs := hB.size
      have e3 := (x3.set 0 (.slice none 0 0)).other (a := ⟨w.heap.size + 1 + 1 + 1 + 1, 0, none⟩) (by show w.heap.size + 1 + 1 + 1 ≠ w.heap.size + 1 + 1 + 1 + 1; omega) (.int .i64 40)
      have e4 := (x4.other (a := ⟨w.heap.size + 1 + 1 + 1, 0, none⟩) (by show w.heap.size + 1 + 1 + 1 + 1 ≠ w.heap.size + 1 + 1 + 1; omega) (.slice none 0 0)).set 0 (.int .i64 40)
      have hmm := (mX.setCell (p := ⟨w.heap.size + 1 + 1 + 1, 0, none⟩) (by show w.heap.size ≤ w.heap.size + 1 + 1 + 1; omega) (.slice none 0 0)).setCell (p := ⟨w.heap.size + 1 + 1 + 1 + 1, 0, none⟩) (by show w.heap.size ≤ w.heap.size + 1 + 1 + 1 + 1; omega) (.int .i64 40)
      have hK2 := (KeepsOthers.setCell (X.setCell ⟨w.heap.size + 1 + 1 + 1, 0, none⟩ (.slice none 0 0)) ⟨w.heap.size + 1 + 1 + 1 + 1, 0, none⟩ (.int .i64 40)).same _ _ ((KeepsOthers.setCell X ⟨w.heap.size + 1 + 1 + 1, 0, none⟩ (.slice none 0 0)).same _ _ hK rfl) rfl
      clear HNO HYES
      gi_wp2
      refine ⟨by simp, .inl ⟨_, _, rfl, run_takeDeferred hK2, ?_⟩⟩
      refine ⟨_, results_slice_errno rfl _ _ rfl rfl (Blk.putObj e3 (by omega) _) (Blk.putObj e4 (by omega) _), ⟨_, by rw [HE.out], by rw [HE.out]; exact SlotsAt.nil _ _ _ _⟩, Below.trans hmm (belowK_b (w := w) (Nat.le_refl _) _ D _ _ (by omega) hK2 rfl rfl)⟩
    case stop =>
      rintro D c pre X hD ⟨k, hk, _, hS⟩ ⟨⟨rfl, ps, x, rfl, hno, hst, h4, v, h3, hzv⟩, hB⟩ hK
      have HE := hide (HYES.out ps x k hS hk hno hst)
      clear HNO HYES
      gi_wp2
      refine ⟨by simp, .inl ⟨_, _, rfl, run_takeDeferred hK, ?_⟩⟩
      refine ⟨_, results_slice_errno rfl _ _ rfl rfl (Blk.putObj h3 (by omega) _) (Blk.putObj h4 (by omega) _), ⟨v, by rw [HE.out], ?_⟩, Below.trans hB (belowK_b (w := w) (Nat.le_refl _) X D _ _ (by omega) hK rfl rfl)⟩
      rw [HE.out]
      exact slots_own (β := Unit) (B := 0) () _ _ _ hzv (grownBy_putObj' _ _ (.deferred none)) (fun r e => by cases e; exact ⟨Nat.zero_le _, _, hK, rfl⟩)
end Go.Proofs.Ytedopplldpcinaa.Index
