/-
  Layer 6, the program: all that a chip's pages tell.
-/
import Derived.Test.YtcjhaapmehegkaaScanAllMath
import Derived.Test.YtcjhaapmehegkaaScanSort
import Derived.Maps.OwnIn
import Derived.Maps.AppendAt
namespace Go.Proofs.Ytcjhaapmehegkaa.Scan
open Go.RowKit Go.Shelf Go.Proofs.Ytcjhaapmehegkaa.Nand
attribute [local go_sem] Oper.semAt_some

set_option maxHeartbeats 1000000 in
set_option maxRecDepth 100000 in
theorem codePages (oa : Option Addr) (na ca : Nat) (br off : Bool) (ops : Int) (w : World) : Calls Try.prog 25 #[.agg #[.slice oa na ca, .bool br, .bool off, .int .i64 ops]] w fun e w' => e = .returned (.func (.func 39) #[] #[.pointer (some ⟨w.heap.size, 0, none⟩)]) ∧ w' = w.alloc (.cells #[.slice oa na ca, .bool br, .bool off, .int .i64 ops] 24) := by
  go_enter Try.func25, Try.ntmps25
  go_wp2_with fail
  go_ret
  exact ⟨rfl, rfl⟩
theorem pages_stops (n Bn n₀ : Nat) (hn : 1 ≤ n) (oa : Option Addr) (ca : Nat) (bs : List BlockT) (br off : Bool) (ops : Int) (w : World) (hC : Blk w Bn 24 #[.slice oa bs.length ca, .bool br, .bool off, .int .i64 ops]) (hb : BlocksAt (fun x => x < n₀) w (.slice oa bs.length ca) bs) (hn₀ : n₀ ≤ w.heap.size) :
    SeqStopsK Fence.wide n Try.prog 39 #[.pointer (some ⟨Bn, 0, none⟩)] (encY bs) (Below n₀) (fun ys => ys = yTo bs (min bs.length 32)) (fun _ => True) 512 w := fun l J Jx W hW hJ _ hY h0 =>
  pages1 n l Bn n₀ _ hn oa ca bs br off ops J Jx hJ hY W (hC.mem hW) (hb.mem hW) (Nat.le_trans hn₀ hW.size) h0

/-- between two rounds -/
def AllI (bs : List BlockT) (w : World) (pre : List (Nat × Nat)) (W : World) : Prop :=
  (∃ v xs, Boxed W (w.heap.size + 1) 36 v ∧ W.ownsRow w.heap.size 53 5 v (tellY bs pre).length (rowCells xs) ∧ FitsL (fun g => v.ownBlock ≠ some g ∧ w.heap.size + 1 < g) W xs (tellY bs pre)) ∧ Below w.heap.size w W
theorem allI_own (bs : List BlockT) (w : World) {B : Nat} (hB : w.heap.size ≤ B) : OwnFrom B (AllI bs w) := by
  rintro s X Y row ⟨⟨v, xs, hv, hr, hf⟩, hb⟩ hg hrow
  have hrow' : ∀ r, row = some r → ∃ o : Obj, X.heap[r]? = some o ∧ o.isCells = false := fun r e => (hrow r e).2
  refine ⟨⟨v, xs, hv.kept hg (fun e' => ?_), hr.kept hg ?_, hf.turned hg hrow'⟩, hb.grown hg hb.size (fun k e => Nat.le_trans hB (hrow k e).1)⟩
  · obtain ⟨o, ho, hc⟩ := hrow' _ e'.symm
    rw [show X.heap[w.heap.size + 1]? = _ from hv] at ho; cases ho; cases hc
  · rcases hr.2 with ⟨rfl, _⟩ | ⟨g, cap, cur, rfl, _, hgb, _⟩
    · exact .inl rfl
    · refine .inr fun e' => ?_
      obtain ⟨o, ho, hc⟩ := hrow' g (by simpa [Value.ownBlock] using e'.symm)
      rw [hgb] at ho; cases ho; cases hc
theorem cell_found (w : World) {B : Nat} (hB : B = w.heap.size) (z : RowT) : ∀ j u, (encF z)[j]? = some u → (w.alloc (.cells #[.int .i64 z.1, .int .i64 z.2.1, .int .i64 z.2.2.1, .slice z.2.2.2.1.1 z.2.2.2.1.2.1 z.2.2.2.1.2.2, .slice z.2.2.2.2.1 z.2.2.2.2.2.1 z.2.2.2.2.2.2] 53)).cell? ((⟨B, 0, none⟩ : Addr).add j) = some u := by
  intro j u hj
  subst hB
  rw [add_none, World.cell?_alloc_mark]
  simpa [encF] using hj
theorem encF_one (z : RowT) : ∀ u ∈ encF z, u.oneCell' = true := by
  intro u hu
  simp [encF] at hu
  rcases hu with rfl | rfl | rfl | rfl | rfl <;> rfl
theorem keeps_of_mem {B : Nat} {W W' : World} (m : Mem W W') : KeepsFrom B W W' :=
  ⟨m.size, fun k _ _ hk _ => (m.block k (Array.getElem?_eq_some_iff.1 hk).1).trans hk⟩
theorem allI_mem {bs : List BlockT} {w : World} {pre : List (Nat × Nat)} {W W' : World} (h : AllI bs w pre W) (m : Mem W W') : AllI bs w pre W' := by
  obtain ⟨⟨v, xs, hv, hr, hf⟩, hb⟩ := h
  exact ⟨⟨v, xs, (m.block _ hv.lt).trans hv, owns_below hr m, hf.mem m⟩, Below.trans hb (Below.mono m hb.size)⟩

set_option maxRecDepth 100000 in
set_option maxHeartbeats 8000000 in
theorem codeAll : AllSpec 15 := by
  intro S vb bs br off ops w hb hf hsz
  obtain ⟨i0, hi, hz0, hz1, hz2⟩ := info_parts info_found5
  refine (callsIn_wide (n := 5)).1 ?_
  obtain ⟨oa, ca, rfl⟩ := hb.shape
  have HSZ := hide (fun b p => pgAt_size hsz b p)
  have w25 : Fence.wide.fn 25 := trivial
  have w26 : Fence.wide.fn 26 := trivial
  have w27 : Fence.wide.fn 27 := trivial
  clear hsz
  refine callsIn_of_wp_marks Try.func15 rfl trivial ?_ rfl
  simp only [Try.ntmps15, List.size_toArray, List.length_cons, List.length_nil, Nat.reduceAdd, Nat.reduceSub, Array.replicate_succ, Array.replicate_zero, List.push_toArray, List.append_toArray, List.nil_append, List.cons_append]
  gi_wp2_with (gi_at_call 25; refine (callsIn_wide.2 (codePages _ _ _ _ _ _ _)).mono ?_; rintro e w' ⟨rfl, rfl⟩)
  have hsz : (((w.alloc (.cells #[.slice oa bs.length ca, .bool br, .bool off, .int .i64 ops] 24)).alloc (.cells #[.slice none 0 0] 36)).alloc (.cells #[.slice oa bs.length ca, .bool br, .bool off, .int .i64 ops] 24)).heap.size = w.heap.size + 3 := by simp
  have hM0 : Mem w (((w.alloc (.cells #[.slice oa bs.length ca, .bool br, .bool off, .int .i64 ops] 24)).alloc (.cells #[.slice none 0 0] 36)).alloc (.cells #[.slice oa bs.length ca, .bool br, .bool off, .int .i64 ops] 24)) := (((Mem.refl w).alloc _).alloc _).alloc _
  have bF : Boxed (((w.alloc (.cells #[.slice oa bs.length ca, .bool br, .bool off, .int .i64 ops] 24)).alloc (.cells #[.slice none 0 0] 36)).alloc (.cells #[.slice oa bs.length ca, .bool br, .bool off, .int .i64 ops] 24)) (w.heap.size + 1) 36 (.slice none 0 0) := by
    have h := (Boxed.new (w.alloc (.cells #[.slice oa bs.length ca, .bool br, .bool off, .int .i64 ops] 24)) 36 (.slice none 0 0)).alloc (.cells #[.slice oa bs.length ca, .bool br, .bool off, .int .i64 ops] 24)
    rwa [World.size_alloc] at h
  have hC2 : Blk (((w.alloc (.cells #[.slice oa bs.length ca, .bool br, .bool off, .int .i64 ops] 24)).alloc (.cells #[.slice none 0 0] 36)).alloc (.cells #[.slice oa bs.length ca, .bool br, .bool off, .int .i64 ops] 24)) (w.heap.size + 1 + 1) 24 #[.slice oa bs.length ca, .bool br, .bool off, .int .i64 ops] := by
    have h := Blk.new ((w.alloc (.cells #[.slice oa bs.length ca, .bool br, .bool off, .int .i64 ops] 24)).alloc (.cells #[.slice none 0 0] 36)) #[.slice oa bs.length ca, .bool br, .bool off, .int .i64 ops] 24
    rwa [World.size_alloc, World.size_alloc] at h
  obtain ⟨W0, hW0⟩ : ∃ W0, ((w.alloc (.cells #[.slice oa bs.length ca, .bool br, .bool off, .int .i64 ops] 24)).alloc (.cells #[.slice none 0 0] 36)).alloc (.cells #[.slice oa bs.length ca, .bool br, .bool off, .int .i64 ops] 24) = W0 := ⟨_, rfl⟩
  rw [hW0] at hsz hM0 bF hC2 ⊢
  clear hW0
  have hb0 := (hb.mono (S' := fun x => x < w.heap.size) fun g _ h => h).mem hM0
  have hI0 : AllI bs w [] W0 := ⟨⟨_, [], bF, World.ownsRow_nil _ _ _ _, FitsL.nil _ _⟩, hM0⟩
  refine wpIn_rangeFunc_ownH rfl (by decide) (gf := 39) (lb := #[.pointer (some ⟨w.heap.size + 1 + 1, 0, none⟩)]) rfl trivial (enters_of Try.func39 (by kernel_rfl) rfl)
    (pages_stops 4 (w.heap.size + 1 + 1) w.heap.size (by decide) oa ca bs br off ops W0 hC2 hb0 (by omega)) belowK_t (belowK_b (by omega)) (Below.refl _ _) (fun _ => rfl)
    (AllI bs w) (fun _ _ _ => False) (allI_own bs w (by omega)) (fun _ _ _ _ _ hs _ _ => hs) hI0
    (fun x a' W => ∃ Bx, w.heap.size + 1 < Bx ∧ Blk W Bx 27 #[.bool (pgAt bs x.1 x.2).1, .string (pgAt bs x.1 x.2).2.1, .string (pgAt bs x.1 x.2).2.2] ∧ a' = { tmps := #[chipV (.slice oa bs.length ca) br off ops, .pointer (some ⟨w.heap.size, 0, none⟩), .slice none 0 0, .pointer (some ⟨w.heap.size + 1, 0, none⟩), .int .i64 (place x.1 x.2), .pointer (some ⟨Bx, 0, none⟩), undef, undef, .agg #[.slice oa bs.length ca, .bool br, .bool off, .int .i64 ops], .func (.func 39) #[] #[.pointer (some ⟨w.heap.size + 1 + 1, 0, none⟩)], .int .i64 (place x.1 x.2), pageV (pgAt bs x.1 x.2), undef, undef, undef, undef, undef, undef, undef, undef, undef, undef, undef, undef, undef, undef, undef, undef], defers := [] })
    (fun x a' _ X Y row hs hg hr => by
      obtain ⟨Bx, h1, h2, h3⟩ := hs
      refine ⟨Bx, h1, (hg.block Bx h2.lt (fun e => ?_)).trans h2, h3⟩
      obtain ⟨_, o, ho, hc⟩ := hr Bx e.symm
      rw [show X.heap[Bx]? = _ from h2] at ho; cases ho; cases hc)
    ?assign ?body ?done ?stop
  case assign =>
    rintro l pre x W K hI hK
    have hs1 := hI.1
    obtain ⟨v, xs, hv, _⟩ := hs1
    have hlt := hv.lt
    unfold encY
    gi_wp2
    exact hK _ _ ((KeepsOthers.alloc _ _).from _) ((Below.refl _ W).alloc hI.2.size _) (allI_mem hI ((Mem.refl _).alloc _)) ⟨W.heap.size, hlt, Blk.new W _ _, rfl⟩
  case body =>
    rintro l pre x a' W hl ⟨r, hr⟩ hI ⟨Bx, hBx, bX, rfl⟩ hlt
    have hts := HSZ.out x.1 x.2
    have hcs := look_cases (pgAt bs x.1 x.2).1 (pgAt bs x.1 x.2).2.2.data.toList (pgAt bs x.1 x.2).2.1.data.toList
    have HSn := hide (tellY_snoc bs pre x)
    have HN := hide (fun h => tellQ_none (b := x.1) (p := x.2) (pg := pgAt bs x.1 x.2) h)
    have HSo := hide (fun (r : RecT) hr => tellQ_some (b := x.1) (p := x.2) (pg := pgAt bs x.1 x.2) (r := r) hr)
    have htl := tellY_length bs pre
    generalize pgAt bs x.1 x.2 = pg at *
    have c0 := bX.cell (j := 0) rfl
    have c1 := bX.cell (j := 1) rfl
    have c2 := bX.cell (j := 2) rfl
    obtain ⟨hIv, hB⟩ := hI
    obtain ⟨v, xs, hv, hrow, hfit⟩ := hIv
    have hlt1 := hv.lt
    generalize hq : Look.look pg.1 pg.2.2.data.toList pg.2.1.data.toList = q at *
    have HQ := hide hq
    clear hq
    rcases hcs with rfl | rfl | ⟨⟨kd, sq, ks, vs⟩, rfl⟩
    · have HE := hide (HN.out rfl)
      clear HN HSo
      gi_wp2_with (gi_at_call 26; refine (CallsIn.inRound l (callsIn_wide.2 (Look.lookLook pg.1 pg.2.1 pg.2.2 _ hts))).mono ?_; rintro e w1 ⟨hlk, m1⟩; rw [HQ.out] at hlk; obtain ⟨vk, vv, rfl, ik, iv, pk, pv⟩ := hlk; obtain ⟨ok, ck, rfl⟩ := ik.shape; obtain ⟨ov, cv, rfl⟩ := iv.shape; simp only [Tag.decR] at *)
      have mA : Mem W (w1.alloc (.cells #[.int .i64 0, .int .i64 0, .slice ok 0 ck, .slice ov 0 cv] 51)) := m1.alloc _
      have hI2 : AllI bs w pre _ := allI_mem ⟨⟨v, xs, hv, hrow, hfit⟩, hB⟩ mA
      exact ⟨keeps_of_mem mA, Below.mono mA hB.size, by unfold AllI at *; rw [HSn.out, HE.out, List.append_nil]; exact hI2⟩
    · have HE := hide (HN.out rfl)
      clear HN HSo
      gi_wp2_with (gi_at_call 26; refine (CallsIn.inRound l (callsIn_wide.2 (Look.lookLook pg.1 pg.2.1 pg.2.2 _ hts))).mono ?_; rintro e w1 ⟨hlk, m1⟩; rw [HQ.out] at hlk; obtain ⟨vk, vv, rfl, ik, iv, pk, pv⟩ := hlk; obtain ⟨ok, ck, rfl⟩ := ik.shape; obtain ⟨ov, cv, rfl⟩ := iv.shape; simp only [Tag.decR] at *)
      have mA : Mem W (w1.alloc (.cells #[.int .i64 0, .int .i64 0, .slice ok 0 ck, .slice ov 0 cv] 51)) := m1.alloc _
      have hI2 : AllI bs w pre _ := allI_mem ⟨⟨v, xs, hv, hrow, hfit⟩, hB⟩ mA
      exact ⟨keeps_of_mem mA, Below.mono mA hB.size, by unfold AllI at *; rw [HSn.out, HE.out, List.append_nil]; exact hI2⟩
    · have HE := hide (HSo.out (kd, sq, ks, vs) rfl)
      clear HN HSo
      gi_wp2_with (first
        | (gi_at_call 26; refine (CallsIn.inRound l (callsIn_wide.2 (Look.lookLook pg.1 pg.2.1 pg.2.2 _ hts))).mono ?_; rintro e w1 ⟨hlk, m1⟩; rw [HQ.out] at hlk; obtain ⟨vk, vv, rfl, ik, iv, pk, pv⟩ := hlk; obtain ⟨ok, ck, rfl⟩ := ik.shape; obtain ⟨ov, cv, rfl⟩ := iv.shape; simp only [Tag.decR] at *; have mA : Mem W (w1.alloc (.cells #[.int .i64 kd, .int .i64 sq, .slice ok ks.length ck, .slice ov vs.length cv] 51)) := m1.alloc _; have hv2 : Boxed (w1.alloc (.cells #[.int .i64 kd, .int .i64 sq, .slice ok ks.length ck, .slice ov vs.length cv] 51)) (w.heap.size + 1) 36 v := (mA.block _ hlt1).trans hv; have hrow2 := owns_below hrow mA; have cF := hv2.cell)
        | (gi_at_builtin; refine wpListIn_append_own_at _ rfl _ _ 36 rfl w.heap.size 53 i0 _ 5 72 Try.underlying36 hi hz0 hz1 hz2 rfl (by decide) v _ _ rfl (hrow2.alloc _) ⟨w1.heap.size + 1, 0, none⟩ 1 1 (encF (place x.1 x.2, kd, sq, (ok, ks.length, ck), (ov, vs.length, cv))) rfl rfl (cell_found _ (by simp) (place x.1 x.2, kd, sq, (ok, ks.length, ck), (ov, vs.length, cv))) (encF_one _) (by unfold maxLen; omega) (by omega) (by have := hB.size; have := m1.size; simp; omega) ?_; intro v' w3 hown' hgrow hnil hat; obtain ⟨g', cap', rfl⟩ := ownsRow_succ hown'; obtain ⟨hv3, hv4, hr4, hk4, hb4⟩ := hv2.appended (by decide) hrow2 (by have := hB.size; have := mA.size; omega) (by omega) hown' hgrow; have hc1 := hv3.cell; have hf1 := hv3.frozen))
      have hfit2 := hfit.mem mA
      have jk := (IntsIn.of_past ik pk).kept (S' := fun b => v.ownBlock ≠ some b ∧ w.heap.size + 1 < b) (w' := w1.alloc (.cells #[.int .i64 kd, .int .i64 sq, .slice ok ks.length ck, .slice ov vs.length cv] 51)) fun b hb1 hb2 => ⟨⟨fun e => by have := (hrow.lt b e).2; omega, by omega⟩, fun off => Below.cell ((Mem.refl w1).alloc _) (p := ⟨b, off, none⟩) hb2⟩
      have jv := (IntsIn.of_past iv pv).kept (S' := fun b => v.ownBlock ≠ some b ∧ w.heap.size + 1 < b) (w' := w1.alloc (.cells #[.int .i64 kd, .int .i64 sq, .slice ok ks.length ck, .slice ov vs.length cv] 51)) fun b hb1 hb2 => ⟨⟨fun e => by have := (hrow.lt b e).2; omega, by omega⟩, fun off => Below.cell ((Mem.refl w1).alloc _) (p := ⟨b, off, none⟩) hb2⟩
      have hfz : Fits (fun b => v.ownBlock ≠ some b ∧ w.heap.size + 1 < b) (w1.alloc (.cells #[.int .i64 kd, .int .i64 sq, .slice ok ks.length ck, .slice ov vs.length cv] 51)) (place x.1 x.2, kd, sq, (ok, ks.length, ck), (ov, vs.length, cv)) (place x.1 x.2, kd, sq, ks, vs) := ⟨rfl, rfl, rfl, jk, jv⟩
      have hfa := hfit2.snoc hfz
      have hfin := hfa.kept (S' := fun b => (Value.slice (some ⟨g', 0, none⟩) ((tellY bs pre).length + 1) cap').ownBlock ≠ some b ∧ w.heap.size + 1 < b) (w' := w3.setCell ⟨w.heap.size + 1, 0, none⟩ (.slice (some ⟨g', 0, none⟩) ((tellY bs pre).length + 1) cap')) fun b hb1 hb2 => by
        have hne : (Value.slice (some ⟨g', 0, none⟩) ((tellY bs pre).length + 1) cap').ownBlock ≠ some b := by
          rcases hat with h | h
          · rw [h]; exact hb1.1
          · rw [h]; intro e; injection e with e; simp at e hb2; omega
        refine ⟨⟨hne, hb1.2⟩, fun off => World.cell?_of_block (a := ⟨b, off, none⟩) ?_⟩
        rw [Below.heap_setCell _ _ _ b (by show b ≠ w.heap.size + 1; have := hb1.2; omega)]
        rw [hgrow.block b (by simp at hb2 ⊢; omega) (fun e => hb1.1 e.symm)]
        exact Below.heap_alloc _ _ b hb2
      refine ⟨(keeps_of_mem mA).trans (hk4.from _), Below.trans (Below.mono mA hB.size) hb4, ⟨_, xs ++ [(place x.1 x.2, kd, sq, (ok, ks.length, ck), (ov, vs.length, cv))], hv4, ?_, ?_⟩, Below.trans hB (Below.trans (Below.mono mA hB.size) hb4)⟩
      · rw [HSn.out, HE.out, List.length_append, rowCells_snoc]; exact hr4
      · rw [HSn.out, HE.out]; exact hfin
  case done =>
    rintro D ys W hD rfl ⟨⟨v, xs, hv, hrow, hfit⟩, hB⟩ hK
    rw [tellY_all] at hrow hfit
    have hl512 := tellC_len512 0 bs
    have hfit2 := hfit.mono (S' := fun g => v.ownBlock ≠ some g ∧ w.heap.size ≤ g) fun g hg _ => ⟨hg.1, by have := hg.2; omega⟩
    have hc := hv.cell
    have hnD : v.ownBlock ≠ some D := by
      intro e
      rcases hrow.2 with ⟨rfl, _⟩ | ⟨g, cap, cur, rfl, _, hgb, _⟩
      · simp [Value.ownBlock] at e
      · obtain rfl : g = D := by simpa [Value.ownBlock] using e
        rw [hgb] at hK; cases hK
    have hnB : v.ownBlock ≠ some (w.heap.size + 1) := (hv.not_row (by decide) hrow).symm
    have hDl := (Array.getElem?_eq_some_iff.1 hK).1
    have hBl := hv.lt
    have HS := hide (codeSort v _ w.heap.size xs (tellC 0 bs) W hrow rfl (by omega) hfit2 (tellC_apart 0 bs) hB.size)
    clear hfit hfit2 hrow
    gi_wp2_with (gi_at_call 27; refine (callsIn_wide.2 HS.out).mono ?_; rintro e w5 ⟨rfl, hF, hb5, hkeep⟩; have hv5 : Boxed w5 (w.heap.size + 1) 36 v := (hkeep _ hBl hnB).trans hv; have hc5 := hv5.cell; have hK5 := (hkeep D hDl hnD).trans hK)
    refine ⟨by simp, .inl ⟨_, _, rfl, run_takeDeferred hK5, ?_⟩⟩
    refine ⟨_, results_tmp rfl _ _ _, ⟨v, rfl, hF.turned (grownBy_putObj' _ D _) (fun r e => by cases e; exact ⟨_, hK5, rfl⟩)⟩, ?_⟩
    exact Below.trans (Below.trans hB hb5) (belowK_b (w := w) (Nat.le_refl _) w5 D _ _ (by omega) hK5 rfl rfl)
  case stop =>
    rintro D c pre W _ _ h _
    exact h.elim
end Go.Proofs.Ytcjhaapmehegkaa.Scan
