/-
  Layer 9, the program: Find.
-/
import Derived.Test.YtmkfinjhbhfaeaaIndexWay
import Derived.Maps.OwnIn
namespace Go.Proofs.Ytmkfinjhbhfaeaa.Index
open Go.RowKit Go.Shelf Go.Proofs.Ytmkfinjhbhfaeaa.Scan
attribute [local go_sem] Oper.semAt_some

theorem info_int9 : (Try.prog.info? 3).map (fun i => (i.zero, i.size, i.bytes)) = some (some (.int .i64 0), 1, 8) := by kernel_rfl
def plK (l : List SlotT) (q : Int) (k : Nat) : Int := (slot l (atN l.length q k)).2.2
/-- between two rounds: the places so far, in a row that lies from b on -/
def FindI (l : List SlotT) (q : Int) (w : World) (b : Nat) (pre : List Nat) (X : World) : Prop :=
  (∃ v, Boxed X w.heap.size 35 v ∧ X.ownsRow b 3 1 v pre.length (pre.map fun k => Value.int .i64 (plK l q k)) ∧ (v = .slice none 0 0 ↔ pre = [])) ∧ Below w.heap.size w X
theorem findI_own (l : List SlotT) (q : Int) (w : World) (b : Nat) {B : Nat} (hB : w.heap.size ≤ B) : OwnFrom B (FindI l q w b) := by
  refine OwnFrom.and (Own.from ?_ B) (ownFrom_below (Nat.le_refl _) hB)
  exact holdsRow_own b w.heap.size 35 3 1 (fun pre : List Nat => pre.length) (fun pre => pre.map fun k => Value.int .i64 (plK l q k)) (fun pre v => v = .slice none 0 0 ↔ pre = [])

set_option maxRecDepth 100000 in
set_option maxHeartbeats 4000000 in
theorem codeFind_of (H : HavingTells) : FindSpec 14 := by
  intro S v l q w hz hl
  obtain ⟨oa, ca, rfl⟩ := hz.shape
  obtain ⟨i0, hi, hz0, hz1, hz2⟩ := info_parts info_int9
  refine (callsIn_wide (n := 6)).1 ?_
  have w20 : Fence.wide.fn 20 := trivial
  refine callsIn_of_wp_marks Try.func14 rfl trivial ?_ rfl
  simp only [Try.ntmps14, List.size_toArray, List.length_cons, List.length_nil, Nat.reduceAdd, Nat.reduceSub, Array.replicate_succ, Array.replicate_zero, List.push_toArray, List.append_toArray, List.nil_append, List.cons_append]
  gi_wp2_with (gi_at_call 20; refine (callsIn_wide.2 (codeHaving _ _ _ _ _)).mono ?_; rintro e w' ⟨rfl, rfl⟩)
  have m3 : Mem w (((w.alloc (.cells #[.slice none 0 0] 35)).alloc (.cells #[.slice oa l.length ca] 22)).alloc (.cells #[.int .i64 q] 3)) := (((Mem.refl w).alloc _).alloc _).alloc _
  have hs3 : (((w.alloc (.cells #[.slice none 0 0] 35)).alloc (.cells #[.slice oa l.length ca] 22)).alloc (.cells #[.int .i64 q] 3)).heap.size = w.heap.size + 3 := by simp
  have bP := ((Boxed.new w 35 (.slice none 0 0)).alloc (.cells #[.slice oa l.length ca] 22)).alloc (.cells #[.int .i64 q] 3)
  have bl := (Blk.new (w.alloc (.cells #[.slice none 0 0] 35)) #[.slice oa l.length ca] 22).alloc (.cells #[.int .i64 q] 3)
  have bq := Blk.new ((w.alloc (.cells #[.slice none 0 0] 35)).alloc (.cells #[.slice oa l.length ca] 22)) #[.int .i64 q] 3
  rw [World.size_alloc] at bl
  rw [World.size_alloc, World.size_alloc] at bq
  obtain ⟨w3, hw3⟩ : ∃ w3, ((w.alloc (.cells #[.slice none 0 0] 35)).alloc (.cells #[.slice oa l.length ca] 22)).alloc (.cells #[.int .i64 q] 3) = w3 := ⟨_, rfl⟩
  rw [hw3] at m3 hs3 bP bl bq ⊢
  clear hw3
  have hz3 := hz.of_ints.mem m3
  have HT := H (fun k => k < w.heap.size + 3 ∧ k ≠ w.heap.size) w.heap.size (w.heap.size + 1) (w.heap.size + 1 + 1) (fun k hk => ⟨by omega, by omega⟩) ⟨by omega, by omega⟩ oa ca l q hl w3 (bl.cell (j := 0) rfl) (bq.cell (j := 0) rfl) hz3
  refine rangeTells (n := 6) (by omega) (m := w.heap.size + 3) hs3 (S₀ := fun k => k < w.heap.size + 3 ∧ k ≠ w.heap.size) (gf := 25) (lb := #[.pointer (some ⟨w.heap.size + 1, 0, none⟩), .pointer (some ⟨w.heap.size + 1 + 1, 0, none⟩)]) rfl (enters_of Try.func25 (by kernel_rfl) rfl)
    HT (fun k hk => hk.1) (fun _ => rfl) (FindI l q w) (fun _ _ _ => False) (fun b => findI_own l q w b (by omega)) (fun _ _ _ _ _ hs _ _ => hs) (fun b hb => ⟨⟨_, bP, World.ownsRow_nil _ _ _ _, by simp⟩, m3⟩)
    (fun x a' X => ∃ Bx, w.heap.size + 3 ≤ Bx ∧ Blk X Bx 42 #[.int .i64 (slot l (atN l.length q x)).1, .int .i64 (slot l (atN l.length q x)).2.1, .int .i64 (slot l (atN l.length q x)).2.2] ∧ a' = { tmps := #[.slice oa l.length ca, .int .i64 q, undef, undef, .slice none 0 0, .pointer (some ⟨w.heap.size, 0, none⟩), undef, .pointer (some ⟨Bx, 0, none⟩), .slice oa l.length ca, .int .i64 q, .func (.func 25) #[] #[.pointer (some ⟨w.heap.size + 1, 0, none⟩), .pointer (some ⟨w.heap.size + 1 + 1, 0, none⟩)], .int .i64 (atN l.length q x), .agg #[.int .i64 (slot l (atN l.length q x)).1, .int .i64 (slot l (atN l.length q x)).2.1, .int .i64 (slot l (atN l.length q x)).2.2], undef, undef, undef, undef, undef, undef], defers := [] })
    (fun x a' s X Y row hs hg hr => by
      obtain ⟨Bx, h1, h2, h3⟩ := hs
      exact ⟨Bx, h1, blk_own (β := Unit) () X Y row h2 hg hr, h3⟩)
    ?assign ?body ?done ?stop
  case assign =>
    rintro b pre x X K hb hbX hI hK
    unfold encK
    gi_wp2
    exact hK _ _ ((Mem.refl X).alloc _) ⟨X.heap.size, by omega, Blk.new X _ _, rfl⟩
  case body =>
    rintro b pre x a' X hb hbX ⟨⟨v, hv, hrow, hnil⟩, hB⟩ ⟨Bx, hBx, bX, rfl⟩ hlt
    have HP : Hid (plK l q x = (slot l (atN l.length q x)).2.2) := rfl
    generalize atN l.length q x = A at *
    generalize slot l A = sl at *
    obtain ⟨st, pr, pl⟩ := sl
    simp only [] at bX HP
    have c0 := bX.cell (j := 0) rfl
    have c1 := bX.cell (j := 1) rfl
    have c2 := bX.cell (j := 2) rfl
    have hc := hv.cell
    clear HT bP bl bq m3 hz3 hz
    gi_wp2_with (gi_at_builtin; refine wpListIn_append_own _ rfl _ _ 35 rfl b 3 i0 (.int .i64 0) 1 8 Try.underlying35 hi hz0 hz1 hz2 rfl (by decide) _ _ _ rfl (hrow.alloc _) ⟨X.heap.size, 0, none⟩ 1 1 [.int .i64 pl] rfl rfl (cell_one_new _ _ _) (by simp [Value.oneCell']) (by unfold maxLen; omega) (by omega) (by simp; omega) ?_; intro v' w1 hown' hgrow _; obtain ⟨g', cap', rfl⟩ := ownsRow_succ hown'; obtain ⟨hv1, hv2, hr2, hL, hb2⟩ := appended_leaves (S₀ := fun k => k < w.heap.size + 3 ∧ k ≠ w.heap.size) (m := w.heap.size + 3) (n₀ := w.heap.size) hv (by decide) hrow hbX (by omega) (Nat.le_refl _) (fun h => h.2 rfl) (by omega) (fun k hk => hk.1) hown' hgrow; have hc1 := hv1.cell; have hf1 := hv1.frozen)
    refine ⟨hL, ⟨_, hv2, ?_, by simp⟩, Below.trans hB hb2⟩
    rw [List.length_append, List.map_append]
    show World.ownsRow _ _ _ _ _ _ (_ ++ [Value.int .i64 (plK l q x)])
    rw [HP.out]
    exact hr2
  case done =>
    rintro b ys X hb hS ⟨⟨v, hv, hrow, hnil⟩, hB⟩ hK
    have hc := hv.cell
    have HF : Hid (ys.map (plK l q) = findT l q) := by
      show _ = _
      unfold findT
      rw [← hS, List.map_map]
      rfl
    have hrow2 : X.ownsRow b 3 1 v (findT l q).length (icells (findT l q)) := by
      rw [← HF.out, List.length_map]
      show World.ownsRow _ _ _ _ _ _ ((ys.map (plK l q)).map _)
      rw [List.map_map]
      exact hrow
    clear hrow hnil HT
    gi_wp2
    refine ⟨by simp, .inl ⟨_, _, rfl, run_takeDeferred hK, ?_⟩⟩
    have hin := (IntsIn.of_owns (ownsRow_putObj hrow2 (.deferred none) hK rfl)).mono (S' := fun x => w.heap.size ≤ x) fun g hg _ => by omega
    exact ⟨_, results_tmp rfl _ _ _, ⟨v, rfl, hin⟩, hB.trans (belowK_b (w := w) (Nat.le_refl _) X (w.heap.size + 3) _ _ (by omega) hK rfl rfl)⟩
  case stop =>
    rintro b pre X _ _ h _
    exact h.elim
end Go.Proofs.Ytmkfinjhbhfaeaa.Index
