/-
  PlanStep, PlanMovesC: in one text (merge.json).
-/
import Derived.Test.YtedopplldpcinaaGreatPlanLow
import Derived.Test.YtedopplldpcinaaGreatPlanTwinC
/-
  Layer 12: one write more onto a row of writes, as a step of a region that draws.
-/
namespace Go.Proofs.YtedopplldpcinaaGreat.Plan
open Go.RowKit Go.Proofs.YtedopplldpcinaaGreat.Nand Go.Proofs.YtedopplldpcinaaGreat.Scan

/-- one more onto a row of writes, as a step of a region: what is written lies in a new block -/
theorem step_pushWrite_drew {ops : Array Oper} {o : Oper} {a : Act} {K : Act → World → Prop} {Q : Exit → Act → World → Prop} {E : Prop} {w : World} (hgd : o.guard = none) (s x : Operand)
    (ho : o.op = .call { callee := .builtin .append, args := #[s, x], argTypes := #[53, 53] })
    (base : Nat) (v : Value) (xs : List WRowT) (n : Nat) (hs : a.eval s = v) (hown : w.ownsRow base 56 5 v n (wrCells xs)) (hbase : base ≤ w.heap.size)
    (z : WRowT) (B : Nat) (hB : B = w.heap.size) (hx : a.eval x = .slice (some ⟨B, 0, none⟩) 1 1) (hlen : n ≤ 1000000)
    (h : ∀ v' w', w'.ownsRow base 56 5 v' (n + 1) (wrCells (xs ++ [z])) → Below base w w' → (∀ g, g < w.heap.size → some g ≠ v.ownBlock → w'.heap[g]? = w.heap[g]?) → (v'.ownBlock = v.ownBlock ∨ ∃ g, v'.ownBlock = some g ∧ w.heap.size ≤ g) → K (a.put o.dst v') w') :
    if Region.wanted o (yielded ops a.tmps) = true then Oper.wp Tryz.prog o a (w.alloc (.cells #[.string z.1, .int .i64 z.2.1, .int .i64 z.2.2.1, .slice z.2.2.2.1.1 z.2.2.2.1.2.1 z.2.2.2.1.2.2, .slice z.2.2.2.2.1 z.2.2.2.2.2.1 z.2.2.2.2.2.2] 56)).drew K Q else E := by
  obtain ⟨i0, hi, hz0, hz1, hz2⟩ := info_parts info_write5
  have hw : Region.wanted o (yielded ops a.tmps) = true := by simp [Region.wanted, hgd]
  rw [if_pos hw]
  subst hB
  have c1 : ∀ j u, (encW z)[j]? = some u → (w.alloc (.cells #[.string z.1, .int .i64 z.2.1, .int .i64 z.2.2.1, .slice z.2.2.2.1.1 z.2.2.2.1.2.1 z.2.2.2.1.2.2, .slice z.2.2.2.2.1 z.2.2.2.2.2.1 z.2.2.2.2.2.2] 56)).drew.cell? ((⟨w.heap.size, 0, none⟩ : Addr).add j) = some u := by
    intro j u hj
    rw [add_none]
    refine (World.cell?_alloc_mark w _ _ _ _).trans ?_
    simpa [encW] using hj
  have c2 : ∀ u ∈ encW z, u.oneCell' = true := by intro u hu; simp [encW] at hu; rcases hu with rfl | rfl | rfl | rfl | rfl <;> rfl
  have c5 : base ≤ (w.alloc (.cells #[.string z.1, .int .i64 z.2.1, .int .i64 z.2.2.1, .slice z.2.2.2.1.1 z.2.2.2.1.2.1 z.2.2.2.1.2.2, .slice z.2.2.2.2.1 z.2.2.2.2.2.1 z.2.2.2.2.2.2] 56)).drew.heap.size := by show base ≤ (w.heap.push _).size; simp; omega
  obtain ⟨v', w', hr, h1, h2, -, h4⟩ := run_append_own_at (P := Tryz.prog) (w.alloc (.cells #[.string z.1, .int .i64 z.2.1, .int .i64 z.2.2.1, .slice z.2.2.2.1.1 z.2.2.2.1.2.1 z.2.2.2.1.2.2, .slice z.2.2.2.2.1 z.2.2.2.2.2.1 z.2.2.2.2.2.2] 56)).drew base 53 o.type 56 i0 _ 5 80 Tryz.underlying53 hi hz0 hz1 hz2 rfl (by decide) v n (wrCells xs) (hown.alloc _).drew ⟨w.heap.size, 0, none⟩ 1 1 (encW z) rfl c1 c2 (by unfold maxLen; omega) (by omega) c5
  unfold Oper.wp execOp
  simp only [ho, resolve, invoke, builtin, Sem.run_bind, Sem.run_pure, Result.andThen_ok, List.map_toArray, List.map_cons, List.map_nil, hs, hx, hr]
  refine h v' w' (by rw [wrCells_snoc]; exact h1) ?_ (fun g hg hne => (h2.block g (by show g < (w.heap.push _).size; simp; omega) hne).trans (Below.heap_alloc w _ g hg)) ?_
  · exact ((Below.refl base w).alloc hbase _).drew.grown h2 (by show base ≤ (w.heap.push _).size; simp; omega) (fun k hk => (hown.lt k hk).1)
  · rcases h4 with h4 | h4
    · exact .inl h4
    · exact .inr ⟨_, h4, by show w.heap.size ≤ (w.heap.push _).size; simp⟩
end Go.Proofs.YtedopplldpcinaaGreat.Plan
/-
  Layer 12, the document: Moves.
-/
namespace Go.Proofs.YtedopplldpcinaaGreat.Plan
open Go.RowKit Go.Proofs.YtedopplldpcinaaGreat.Nand Go.Proofs.YtedopplldpcinaaGreat.Scan Go.Proofs.YtedopplldpcinaaGreat.Live Go.Proofs.YtedopplldpcinaaGreat.Replay

/-- writes on their way: a row that the call owns, and lists beside it -/
def HeldW (base : Nat) (w : World) (v : Value) (ws : List WriteT) : Prop :=
  ∃ xs, w.ownsRow base 56 5 v ws.length (wrCells xs) ∧ FitsWL (fun x => base ≤ x ∧ some x ≠ v.ownBlock) w xs ws
theorem HeldW.nil (base : Nat) (w : World) : HeldW base w (.slice none 0 0) [] := ⟨[], World.ownsRow_nil _ _ _ _, FitsWL.nil _ _⟩
theorem HeldW.mem {base : Nat} {w w' : World} {v : Value} {ws : List WriteT} (h : HeldW base w v ws) (m : Mem w w') : HeldW base w' v ws := by
  obtain ⟨xs, o, f⟩ := h
  exact ⟨xs, owns_below o m, f.mem m⟩
theorem HeldW.pushed {base : Nat} {w w' : World} {v v' : Value} {xs : List WRowT} {ws : List WriteT} {z : WRowT} {f : WriteT} (hf : FitsWL (fun x => base ≤ x ∧ some x ≠ v.ownBlock) w xs ws) (hz : FitsW (fun x => base ≤ x ∧ some x ≠ v.ownBlock) w z f)
    (h1 : w'.ownsRow base 56 5 v' (ws.length + 1) (wrCells (xs ++ [z]))) (hk : ∀ g, g < w.heap.size → some g ≠ v.ownBlock → w'.heap[g]? = w.heap[g]?) (hv : v'.ownBlock = v.ownBlock ∨ ∃ g, v'.ownBlock = some g ∧ w.heap.size ≤ g) : HeldW base w' v' (ws ++ [f]) := by
  refine ⟨xs ++ [z], by rw [List.length_append]; exact h1, (hf.snoc hz).kept fun g hg hl => ⟨⟨hg.1, ?_⟩, fun off => World.cell?_of_block (a := ⟨g, off, none⟩) (hk g hl hg.2)⟩⟩
  rcases hv with e | ⟨g', e, hg'⟩
  · rw [e]; exact hg.2
  · rw [e]; intro e2; injection e2 with e2; omega
/-- a list in blocks that are new -/
theorem IntsIn.fresh {base : Nat} {w w' : World} {v x : Value} {ws : List WriteT} {l : List Int} (h : HeldW base w v ws) (hx : IntsIn (fun g => w.heap.size ≤ g) w' x l) (hb : base ≤ w.heap.size) : IntsIn (fun g => base ≤ g ∧ some g ≠ v.ownBlock) w' x l := by
  obtain ⟨xs, o, -⟩ := h
  refine hx.mono fun g hg _ => ⟨Nat.le_trans hb hg, fun e => ?_⟩
  have := (o.lt g e.symm).2
  omega
theorem partsL_len (l : List Int) (h : l.length ≤ 1000) : (partsL l).length ≤ 125 := by
  unfold partsL
  rw [partsN_len]
  unfold partN
  omega
theorem pageMoves_len (bs : List BlockT) (t : TableT) (b : Int) (p : Nat) (h1 : t.1.length ≤ 1000) (h2 : t.2.length ≤ 1000) : (pageMoves bs t b p).length ≤ 250 := by
  unfold pageMoves
  have a1 := partsL_len _ (Nat.le_trans (which_len t.1 (place b p)) h1)
  have a2 := partsL_len _ (Nat.le_trans (apartL_len t _ b) (Nat.le_trans (which_len t.2 (place b p)) h2))
  rw [List.length_append, List.length_map, List.length_map]
  omega
theorem movesN_len (bs : List BlockT) (t : TableT) (b : Int) (k : Nat) (h1 : t.1.length ≤ 1000) (h2 : t.2.length ≤ 1000) : (movesN bs t b k).length ≤ 250 * k := by
  induction k with
  | zero => simp [movesN]
  | succ k ih =>
    rw [movesN_succ, List.length_append]
    have := pageMoves_len bs t b k h1 h2
    omega

/-- what lies elsewhere than a row is as it was; the row is where it was, or in a new block -/
def KeptX (w : World) (v : Value) (w' : World) (v' : Value) : Prop :=
  (∀ g, g < w.heap.size → some g ≠ v.ownBlock → w'.heap[g]? = w.heap[g]?) ∧ (v'.ownBlock = v.ownBlock ∨ ∃ g, v'.ownBlock = some g ∧ w.heap.size ≤ g) ∧ w.heap.size ≤ w'.heap.size
theorem KeptX.refl (w : World) (v : Value) : KeptX w v w v := ⟨fun _ _ _ => rfl, .inl rfl, Nat.le_refl _⟩
theorem KeptX.trans {w w' w2 : World} {v v' v2 : Value} (h : KeptX w v w' v') (h' : KeptX w' v' w2 v2) : KeptX w v w2 v2 := by
  obtain ⟨a1, a2, a3⟩ := h
  obtain ⟨b1, b2, b3⟩ := h'
  refine ⟨fun g hg hne => (b1 g (by omega) ?_).trans (a1 g hg hne), ?_, by omega⟩
  · rcases a2 with e | ⟨g', e, hg'⟩
    · rw [e]; exact hne
    · rw [e]; intro e2; injection e2 with e2; omega
  · rcases b2 with e | ⟨g', e, hg'⟩
    · rcases a2 with e2 | ⟨g2, e2, hg2⟩
      · exact .inl (e.trans e2)
      · exact .inr ⟨g2, e.trans e2, hg2⟩
    · exact .inr ⟨g', e, by omega⟩
theorem KeptX.ne {w w' : World} {v v' : Value} (h : KeptX w v w' v') {g : Nat} (hg : g < w.heap.size) (hne : some g ≠ v.ownBlock) : some g ≠ v'.ownBlock := by
  rcases h.2.1 with e | ⟨g', e, hg'⟩
  · rw [e]; exact hne
  · rw [e]; intro e2; injection e2 with e2; omega
theorem KeptX.of_mem {w w' : World} (m : Mem w w') (v : Value) : KeptX w v w' v := ⟨fun g hg _ => Below.block m g hg, .inl rfl, m.size⟩
theorem KeptX.cell {w w' : World} {v v' : Value} (h : KeptX w v w' v') {g : Nat} (hg : g < w.heap.size) (hne : some g ≠ v.ownBlock) (off : Nat) : w'.cell? ⟨g, off, none⟩ = w.cell? ⟨g, off, none⟩ :=
  World.cell?_of_block (a := ⟨g, off, none⟩) (h.1 g hg hne)
set_option maxHeartbeats 16000000 in
set_option maxRecDepth 100000 in
theorem refMoves : MovesSpec 19 := by
  intro S vb bs br off ops t om ob cm cb b w hb h1 h2 hl1 hl2 hwf
  obtain ⟨oa, ca, rfl⟩ := hb.shape
  have hm0 : Mem w ((w.alloc (.cells #[.slice oa bs.length ca, .bool br, .bool off, .int .i64 ops] 24)).alloc (.cells #[.slice om t.1.length cm, .slice ob t.2.length cb] 27)) := ((Mem.refl w).alloc _).alloc _
  have hC := (Blk.new w #[.slice oa bs.length ca, .bool br, .bool off, .int .i64 ops] 24).alloc (.cells #[.slice om t.1.length cm, .slice ob t.2.length cb] 27)
  have hT := Blk.new (w.alloc (.cells #[.slice oa bs.length ca, .bool br, .bool off, .int .i64 ops] 24)) #[.slice om t.1.length cm, .slice ob t.2.length cb] 27
  rw [World.size_alloc] at hT
  have hb' := hide (hb.mem hm0)
  have h1' := hide (h1.mem hm0)
  have h2' := hide (h2.mem hm0)
  have HWF := hide hwf
  have HL := hide (fun k => movesN_len bs t b k hl1 hl2)
  have HS := hide (fun k => movesN_succ bs t b k)
  simp only [chipV]
  clear hb h1 h2 hwf
  go_enter Tryz.func19, Tryz.ntmps19
  go_wp2_with fail
  obtain ⟨w1, hw1⟩ : ∃ w1, (w.alloc (.cells #[.slice oa bs.length ca, .bool br, .bool off, .int .i64 ops] 24)).alloc (.cells #[.slice om t.1.length cm, .slice ob t.2.length cb] 27) = w1 := ⟨_, rfl⟩
  rw [hw1] at hm0 hC hT hb' h1' h2' ⊢
  clear hw1
  go_loopw [7, 8] (fun a i wr => ∃ k : Nat, k ≤ 16 ∧ i = .int .i64 k ∧ (0 < k → 0 ≤ b ∧ b < 32) ∧ HeldW w1.heap.size wr a (movesN bs t b k) ∧ Mem w1 wr) (fun _ i _ => 16 - (intOf i).toNat)
  case atStart => exact ⟨0, Nat.zero_le _, rfl, fun h => absurd h (by omega), HeldW.nil _ _, Mem.refl _⟩
  case round =>
    obtain ⟨k, hk, rfl, hbk, hheld, hmr⟩ := hrel
    have hle := HL.out k
    by_cases hlt : k < 16
    · have hlt' : (k : Int) < 16 := by omega
      have HLT := hide hlt
      have hk0 : (0 : Int) ≤ (k : Int) := by omega
      have HP := hide (refPlace b k wr)
      have hC0 := (hC.mem hmr).cell (j := 0) rfl
      have hC1 := (hC.mem hmr).cell (j := 1) rfl
      have hC2 := (hC.mem hmr).cell (j := 2) rfl
      have hC3 := (hC.mem hmr).cell (j := 3) rfl
      by_cases hb32 : 0 ≤ b ∧ b < 32
      · have hp0 : 0 ≤ place b k := by rw [place_in hb32 hlt]; omega
        have hpw := (place_wf b k)
        unfold wfZ at hpw
        have hd : decide (place b k < 0) = false := decide_eq_false (by omega)
        have HM : Hid (pageMoves bs t b k = (partsL (which t.1 (place b k))).map (dataW (pageC bs (place b k)).1.2.1) ++ (partsL (apartL t (which t.2 (place b k)) b)).map (changeW t)) := rfl
        have HN := hide (HS.out k)
        generalize place b k = q at *
        generalize movesN bs t b k = ws at *
        generalize pageMoves bs t b k = pm at *
        have HG := hide (fun (w' : World) (m : Mem wr w') => refPage _ _ bs br off ops q w' ((hb'.out.mem hmr).mem m) hpw.2)
        generalize pageC bs q = pc at *
        obtain ⟨⟨pw, pd, pt⟩, pb⟩ := pc
        simp only [] at HM
        go_wp2_with (go_at_call 46; with_reducible refine HP.out.mono ?_; rintro e u0 ⟨rfl, hu0⟩; have hu1 := hu0.symm; subst hu1)
        go_at_call 47
        with_reducible refine (HG.out _ (Mem.refl wr)).mono ?_
        rintro e u1 ⟨rfl, n1⟩
        have N1 := hide n1
        clear hC0 hC1 hC2 hC3 HP HG n1
        have mY : Mem wr (u1.alloc (.cells #[.bool pw, .string pd, .string pt] 33)) := Mem.alloc N1.out _
        have hY := Blk.new u1 #[.bool pw, .string pd, .string pt] 33
        have y0 := ((hT.mem hmr).mem mY).cell (j := 0) rfl
        have y1 := ((hT.mem hmr).mem mY).cell (j := 1) rfl
        have hD1 := mY.size
        have HO := hide (refOwners t om ob cm cb q _ ((h1'.out.mem hmr).mem mY).ints hl1)
        have HPL := hide (fun oo cc u io co => refParts (fun x => wr.heap.size ≤ x) oo cc (which t.1 q) u io co (Nat.le_trans (which_len t.1 q) hl1))
        have HX1 := hide (partsL_len _ (Nat.le_trans (which_len t.1 q) hl1))
        go_wp2_with (go_at_call 49; with_reducible refine HO.out.mono ?_; rintro e u2 ⟨⟨vo, rfl, io, co⟩, n2⟩; obtain ⟨oo, cc, rfl⟩ := io.ints.shape)
        have HPL1 := HPL.out oo cc u2 (io.mono (fun g hg _ => Nat.le_trans hD1 hg)) (co _ _ _ rfl)
        go_at_call 48
        refine HPL1.mono ?_
        rintro e u3 ⟨⟨vp, rfl, ip⟩, n3⟩
        obtain ⟨op, cp, rfl⟩ := ip.shape
        have m3 : Mem (u1.alloc (.cells #[.bool pw, .string pd, .string pt] 33)) u3 := Mem.trans n2 n3
        have hY3 := hY.mem m3
        have hm3 : Mem wr u3 := mY.trans m3
        have ip3 := ip.mono (S' := fun x => wr.heap.size ≤ x) (fun g hg _ => by rcases hg with h | h; exact h; exact Nat.le_trans (Nat.le_trans hD1 n2.size) h)
        have hD : wr.heap.size ≤ u1.heap.size := N1.out.size
        generalize u1.heap.size = D at *
        clear HPL1 HPL HO io co n2 n3 ip mY hY y0 y1 hD1 m3 N1
        generalize hL1 : partsL (which t.1 q) = L1 at *
        have hheld3 := hheld.mem hm3
        go_wp2_with fail
        obtain ⟨v3, hv3⟩ : ∃ x, x = u7 := ⟨_, rfl⟩
        subst hv3
        obtain ⟨wo, hwo⟩ : ∃ x, x = wr := ⟨_, rfl⟩
        subst hwo
        go_loopw [7, 13] (fun a i wi => ∃ j : Nat, j ≤ L1.length ∧ i = .int .i64 j ∧ HeldW w1.heap.size wi a (ws ++ (L1.take j).map (dataW pd)) ∧ KeptX u3 v3 wi a ∧ Mem w1 wi) (fun _ i _ => L1.length - (intOf i).toNat)
        case atStart => exact ⟨0, Nat.zero_le _, rfl, by simpa using hheld3, KeptX.refl _ _, hmr.trans hm3⟩
        case round =>
          obtain ⟨j, hj, rfl, hh, hkx, hmi⟩ := hrel
          by_cases hjl : j < L1.length
          · have hjl' : (j : Int) < (L1.length : Int) := by omega
            have hj0 : (0 : Int) ≤ (j : Int) := by omega
            have HJ := hide hjl
            have hne : ∀ x, wo.heap.size ≤ x → some x ≠ v3.ownBlock := fun x hx e => by
              obtain ⟨xs, o, -⟩ := hheld
              have := (o.lt x e.symm).2
              omega
            obtain ⟨g, off, ok, ck, rfl, hg, gc, gi⟩ := ip3.at hjl
            have hgl := World.block_lt_of_cell? u3 _ gc
            have c0 : wr.cell? ⟨D, 1, none⟩ = some (.string pd) := by
              have d0 := hY3.cell (j := 1) rfl
              exact (hkx.cell (World.block_lt_of_cell? u3 _ d0) (hne D hD) 1).trans d0
            have c1 := (hkx.cell hgl (hne g hg) (off + j)).trans gc
            have hks : L1.take (j + 1) = L1.take j ++ [L1[j]] := List.take_succ_eq_append_getElem hjl
            have hHE : ws ++ (L1.take (j + 1)).map (dataW pd) = (ws ++ (L1.take j).map (dataW pd)) ++ [dataW pd L1[j]] := by rw [hks, List.map_append, List.append_assoc]; rfl
            replace hHE := hide hHE
            have hlen : (ws ++ (L1.take j).map (dataW pd)).length ≤ 10000 := by
              have := HX1.out
              rw [List.length_append, List.length_map, List.length_take]
              omega
            generalize L1[j] = ks at *
            clear hks
            have gi2 := gi.kept (S' := fun x => w1.heap.size ≤ x ∧ some x ≠ u7.ownBlock) (w' := wr) (fun x hx hl => ⟨⟨Nat.le_trans hmr.size hx, hkx.ne hl (hne x hx)⟩, fun o => hkx.cell hl (hne x hx) o⟩)
            have KX : Hid (∀ w', Mem wr w' → w'.cell? ⟨D, 1, none⟩ = some (.string pd) ∧ w'.cell? ⟨g, off + j, none⟩ = some (.slice ok ks.length ck)) := fun w' m => ⟨(Below.cell m (p := ⟨D, 1, none⟩) (World.block_lt_of_cell? wr _ c0)).trans c0, (Below.cell m (p := ⟨g, off + j, none⟩) (World.block_lt_of_cell? wr _ c1)).trans c1⟩
            go_wp2_with fail
            refine wp_region_held_drew (S := (fun w' => w'.cell? ⟨D, 1, none⟩ = some (.string pd) ∧ w'.cell? ⟨g, off + j, none⟩ = some (.slice ok ks.length ck))) (by kernel_rfl) (KX.out _ (Mem.drew (Mem.refl _))) (fun hHeld => ?_)
            refine takeH_at (i := 0) (d := 43) (v := ?_) rfl (by kernel_rfl) (by kernel_rfl) (by kernel_rfl) (fun _ _ _ h => h) rfl (Or.inl ⟨by rfl, ?hy⟩) (by assumption) ?_
            case hy => (intro w hSw; (try dsimp only at hSw); (go_simp <;> with_reducible rfl))
            simp only [List.setIfInBounds_toArray, List.set_cons_zero, List.set_cons_succ]
            refine takeH_at (i := 1) (d := 44) (v := ?_) rfl (by kernel_rfl) (by kernel_rfl) (by kernel_rfl) (fun _ _ _ h => h) rfl (Or.inl ⟨by rfl, ?hy⟩) (by assumption) ?_
            case hy => (intro w hSw; (try dsimp only at hSw); (go_simp <;> with_reducible rfl))
            simp only [List.setIfInBounds_toArray, List.set_cons_zero, List.set_cons_succ]
            refine takeH_at (i := 2) (d := 45) (v := ?_) rfl (by kernel_rfl) (by kernel_rfl) (by kernel_rfl) (fun _ _ _ h => h) rfl (Or.inl ⟨by rfl, ?hy⟩) (by assumption) ?_
            case hy => (intro w hSw; (try dsimp only at hSw); (go_simp <;> with_reducible rfl))
            simp only [List.setIfInBounds_toArray, List.set_cons_zero, List.set_cons_succ]
            refine takeH_at (i := 3) (d := 46) (v := ?_) rfl (by kernel_rfl) (by kernel_rfl) (by kernel_rfl) (fun _ _ _ h => h) rfl (Or.inl ⟨by rfl, ?hy⟩) (by assumption) ?_
            case hy => (intro w hSw; (try dsimp only at hSw); (go_simp <;> with_reducible rfl))
            simp only [List.setIfInBounds_toArray, List.set_cons_zero, List.set_cons_succ]
            refine takeH_at (i := 4) (d := 47) (v := ?_) rfl (by kernel_rfl) (by kernel_rfl) (by kernel_rfl) (fun _ _ _ h => h) rfl (Or.inl ⟨by rfl, ?hy⟩) (by assumption) ?_
            case hy => (intro w hSw; (try dsimp only at hSw); (go_simp <;> with_reducible rfl))
            simp only [List.setIfInBounds_toArray, List.set_cons_zero, List.set_cons_succ]
            refine takeH_at (i := 5) (d := 48) (v := ?_) rfl (by kernel_rfl) (by kernel_rfl) (by kernel_rfl) (fun _ _ _ h => h) rfl (Or.inl ⟨by rfl, ?hy⟩) (by assumption) ?_
            case hy => (intro w hSw; (try dsimp only at hSw); (go_simp <;> with_reducible rfl))
            simp only [List.setIfInBounds_toArray, List.set_cons_zero, List.set_cons_succ]
            refine takeH_at (i := 6) (d := 49) (v := ?_) rfl (by kernel_rfl) (by kernel_rfl) (by kernel_rfl) (fun _ _ _ h => h) rfl (Or.inl ⟨by rfl, ?hy⟩) (by assumption) ?_
            case hy => (intro w hSw; (try dsimp only at hSw); (go_simp <;> with_reducible rfl))
            simp only [List.setIfInBounds_toArray, List.set_cons_zero, List.set_cons_succ]
            refine takeH_at (i := 7) (d := 50) (v := ?_) rfl (by kernel_rfl) (by kernel_rfl) (by kernel_rfl) (fun _ _ _ h => h) rfl (Or.inl ⟨by rfl, ?hy⟩) (by assumption) ?_
            case hy => (intro w hSw; (try dsimp only at hSw); (go_simp <;> with_reducible rfl))
            simp only [List.setIfInBounds_toArray, List.set_cons_zero, List.set_cons_succ]
            refine takeH_at (i := 8) (d := 51) (v := ?_) rfl (by kernel_rfl) (by kernel_rfl) (by kernel_rfl) (fun _ _ _ h => h) rfl (Or.inl ⟨by rfl, ?hy⟩) (by assumption) ?_
            case hy => (intro w hSw; (try dsimp only at hSw); (go_simp <;> with_reducible rfl))
            simp only [List.setIfInBounds_toArray, List.set_cons_zero, List.set_cons_succ]
            refine wpAnyH_ready (rs := [9]) (by kernel_rfl) (by simp) ?_
            refine AllReadyH.cons rfl (fun K hK => ?_) AllReadyH.nil
            go_simp
            refine hK.out _ _ (KX.out _ (Mem.drew (Mem.alloc (Mem.refl _) _))) (fun hHeld2 => ?_)
            clear hK K hHeld
            try simp only [Act.put, List.setIfInBounds_toArray, List.set_cons_zero, List.set_cons_succ]
            obtain ⟨xs, ho, hf⟩ := hh
            have hlD := World.block_lt_of_cell? wr _ c0
            have hlg := World.block_lt_of_cell? wr _ c1
            have hnD := hkx.ne (World.block_lt_of_cell? u3 _ (hY3.cell (j := 1) rfl)) (hne D hD)
            have hng := hkx.ne hgl (hne g hg)
            refine wpAnyH_ready (rs := [10]) (by kernel_rfl) (by simp) ?_
            refine AllReadyH.cons rfl (fun K hK => ?_) AllReadyH.nil
            refine step_pushWrite_drew (by rfl) _ _ (by rfl) w1.heap.size u7 xs _ (by rfl) ho hmi.size (pd, 1, 0, (ok, ks.length, ck), (none, 0, 0)) wr.heap.size rfl (by rfl) (by omega) ?_
            intro v' w' g1 g2 g3 g4
            refine hK.out _ _ ⟨(World.cell?_of_block (a := ⟨D, 1, none⟩) (g3 D hlD hnD)).trans c0, (World.cell?_of_block (a := ⟨g, off + j, none⟩) (g3 g hlg hng)).trans c1⟩ (fun hHeld3 => ?_)
            clear hK K hHeld2
            simp only [Act.put, List.setIfInBounds_toArray]
            have hh2 := HeldW.pushed hf (f := dataW pd ks) ⟨rfl, rfl, rfl, gi2, ⟨by simp [maxLen, dataW], .inl ⟨rfl, _, _, rfl⟩⟩⟩ g1 g3 g4
            have hkx2 : KeptX u3 v3 w' v' := hkx.trans ⟨g3, g4, g2.size⟩
            have hmi2 : Mem w1 w' := Below.trans hmi g2
            refine wpAnyH_ready (rs := [11]) (by kernel_rfl) (by simp) ?_
            refine AllReadyH.cons rfl (fun K hK => ?_) AllReadyH.nil
            go_simp
            refine hK.out _ _ hHeld3 (fun hHeld4 => ?_)
            clear hK K hHeld3
            try simp only [Act.put, List.setIfInBounds_toArray, List.set_cons_zero, List.set_cons_succ]
            refine wpAnyH_done (by kernel_rfl) ?_ _
            clear KX g1 g2 g3 g4 ho hf gi2
            have hjl := HJ.out
            have hx1 := HX1.out
            go_wp2_with fail
            go_roundw
            case rel => exact ⟨j + 1, by omega, by go_num, by rw [hHE.out]; exact hh2, hkx2, hmi2⟩
            case measure => simp [intOf]; omega
          · have hje : j = L1.length := by omega
            subst hje
            have hjl' : ¬ ((L1.length : Int) < (L1.length : Int)) := by omega
            rw [List.take_length] at hh
            go_wp2_with fail
            obtain ⟨wq, hwq⟩ : ∃ x, x = wr := ⟨_, rfl⟩
            subst hwq
            have hTr := hT.mem hmi
            have HKT : Hid (∀ w', Mem wq w' → w'.cell? ⟨w.heap.size + 1, 0, none⟩ = some (.slice om t.1.length cm) ∧ w'.cell? ⟨w.heap.size + 1, 1, none⟩ = some (.slice ob t.2.length cb)) := fun w' m => ⟨(hTr.mem m).cell (j := 0) rfl, (hTr.mem m).cell (j := 1) rfl⟩
            have M0 := hide (Mem.drew (Mem.refl wq))
            have HSY := hide (fun (w' : World) (m : Mem wq w') => refSays t om ob cm cb q w' ((h2'.out.mem hmi).mem m).ints hl2)
            have hcS := Nat.le_trans (which_len t.2 q) hl2
            have hS0 : ∀ z ∈ which t.2 q, 0 ≤ z := fun z hz => by obtain ⟨i, _, e, _⟩ := which_mem.1 hz; omega
            have HAP := hide (fun (oo : Option Addr) (cc : Nat) (w' : World) (m : Mem wq w') (hz : Ints .i64 w' (.slice oo (which t.2 q).length cc) (which t.2 q)) => refApart t om ob cm cb t.2.length oo cc (which t.2 q) b w' ((h1'.out.mem hmi).mem m).ints hz hS0 hcS HWF.out)
            have hcA := Nat.le_trans (apartL_len t (which t.2 q) b) hcS
            have HPT := hide (fun (oo : Option Addr) (cc : Nat) (w' : World) io co => refParts (fun x => wq.heap.size ≤ x) oo cc (apartL t (which t.2 q) b) w' io co hcA)
            have HX2 := hide (partsL_len _ hcA)
            have HX3 := hide (fun ks (h : ks ∈ partsL (apartL t (which t.2 q) b)) => partsL_mem h)
            obtain ⟨y0, y1⟩ := HKT.out _ (Mem.refl wq)
            clear ip3 hL1 hTr
            go_region_held3 (fun w' => w'.cell? ⟨w.heap.size + 1, 0, none⟩ = some (.slice om t.1.length cm) ∧ w'.cell? ⟨w.heap.size + 1, 1, none⟩ = some (.slice ob t.2.length cb))
              (first | with_reducible exact (HKT.out _ M0.out) | with_reducible exact (HKT.out _ M1.out) | with_reducible exact (HKT.out _ M2.out) | with_reducible exact (HKT.out _ M3.out))
              (first
                | (go_at_call 51; with_reducible refine (HSY.out _ M0.out).mono ?_; rintro e u4 ⟨⟨vs, rfl, is, cs⟩, n4⟩; have M1 := hide (Mem.trans M0.out n4); obtain ⟨os, cs', rfl⟩ := is.ints.shape)
                | (go_at_call 50; with_reducible refine (HAP.out os cs' _ M1.out is.ints).mono ?_; rintro e u5 ⟨⟨va, rfl, ia, ca5⟩, n5⟩; have M2 := hide (Mem.trans M1.out n5); obtain ⟨oa5, cc5, rfl⟩ := ia.ints.shape)
                | (go_at_call 48; refine (HPT.out oa5 cc5 u5 (ia.mono (fun g hg _ => Nat.le_trans M1.out.size hg)) (ca5 _ _ _ rfl)).mono ?_; rintro e u6 ⟨⟨vt, rfl, it⟩, n6⟩; have M3 := hide (Mem.trans M2.out n6); obtain ⟨ot, ct, rfl⟩ := it.shape))
            have hh6 := hh.mem M3.out
            have hm6 : Mem w1 u6 := Mem.trans hmi M3.out
            have it3 := it.mono (S' := fun x => wq.heap.size ≤ x) (fun g hg _ => by rcases hg with h | h; exact h; exact Nat.le_trans M2.out.size h)
            have hT6 := hT.mem hm6
            have hAge := fun z (hz : z ∈ apartL t (which t.2 q) b) => hS0 z (List.mem_filter.1 hz).1
            have HX4 := hide (fun ks (h : ks ∈ partsL (apartL t (which t.2 q) b)) => fun z hz => hAge z ((HX3.out ks h).2.2 z hz))
            clear HSY HAP HPT hAge hS0 HKT y0 y1 hkx is ia it cs ca5 n4 n5 n6 M0 M1 M2
            generalize partsL (apartL t (which t.2 q) b) = L2 at *
            have hw2 : (ws ++ L1.map (dataW pd)).length ≤ 5000 := by
              have := HX1.out
              rw [List.length_append, List.length_map]
              omega
            have HMS : Hid (ws ++ L1.map (dataW pd) ++ L2.map (changeW t) = ws ++ pm) := hide (by rw [HM.out, List.append_assoc])
            clear HX1 HM hle
            generalize ws ++ L1.map (dataW pd) = ws2 at *
            go_wp2_with fail
            obtain ⟨v4, hv4⟩ : ∃ x, x = u7 := ⟨_, rfl⟩
            subst hv4
            go_loopw [7, 15] (fun a i wi => ∃ j : Nat, j ≤ L2.length ∧ i = .int .i64 j ∧ HeldW w1.heap.size wi a (ws2 ++ (L2.take j).map (changeW t)) ∧ KeptX u6 v4 wi a ∧ Mem w1 wi) (fun _ i _ => L2.length - (intOf i).toNat)
            case atStart => exact ⟨0, Nat.zero_le _, rfl, by simpa using hh6, KeptX.refl _ _, hm6⟩
            case round =>
              obtain ⟨j, hj, rfl, hhj, hkx, hmj⟩ := hrel
              have hx2 := HX2.out
              by_cases hjl : j < L2.length
              · have hjl' : (j : Int) < (L2.length : Int) := by omega
                have hj0 : (0 : Int) ≤ (j : Int) := by omega
                have HJ := hide hjl
                have hne : ∀ x, wq.heap.size ≤ x → some x ≠ v4.ownBlock := fun x hx e => by
                  obtain ⟨xs, o, -⟩ := hh
                  have := (o.lt x e.symm).2
                  omega
                obtain ⟨g, off, ok, ck, rfl, hg, gc, gi⟩ := it3.at hjl
                have hgl := World.block_lt_of_cell? u6 _ gc
                have c1 := (hkx.cell hgl (hne g hg) (off + j)).trans gc
                have hks : L2.take (j + 1) = L2.take j ++ [L2[j]] := List.take_succ_eq_append_getElem hjl
                have hHE : ws2 ++ (L2.take (j + 1)).map (changeW t) = (ws2 ++ (L2.take j).map (changeW t)) ++ [changeW t L2[j]] := by rw [hks, List.map_append, List.append_assoc]; rfl
                replace hHE := hide hHE
                have hlen : (ws2 ++ (L2.take j).map (changeW t)).length ≤ 10000 := by
                  rw [List.length_append, List.length_map, List.length_take]
                  omega
                have hkm : L2[j] ∈ L2 := List.getElem_mem hjl
                obtain ⟨hk1, hk2, -⟩ := HX3.out _ hkm
                have hk3 := HX4.out _ hkm
                generalize L2[j] = ks at *
                clear hks hkm
                have gi2 := gi.kept (S' := fun x => w1.heap.size ≤ x ∧ some x ≠ u7.ownBlock) (w' := wr) (fun x hx hl => ⟨⟨Nat.le_trans hmi.size hx, hkx.ne hl (hne x hx)⟩, fun o => hkx.cell hl (hne x hx) o⟩)
                obtain ⟨zb, zo, rfl, hzc⟩ := gi2.ints.at hk1
                have hTj := hT.mem hmj
                obtain ⟨wj, hwj⟩ : ∃ x, x = wr := ⟨_, rfl⟩
                subst hwj
                go_wp2_with fail
                obtain ⟨v5, hv5⟩ : ∃ x, x = u7 := ⟨_, rfl⟩
                subst hv5
                go_loopw [16, 17] (fun v x wx => ∃ m : Nat, m ≤ ks.length ∧ x = .int .i64 m ∧ wx.ownsRow wj.heap.size 3 1 v m (icells ((ks.take m).map (hasT t))) ∧ Mem wj wx) (fun _ x _ => ks.length - (intOf x).toNat)
                case atStart => exact ⟨0, Nat.zero_le _, rfl, World.ownsRow_nil _ _ _ _, Mem.refl _⟩
                case round =>
                  obtain ⟨m, hm, rfl, hown, hmx⟩ := hrel
                  have c1x : wr.cell? ⟨g, off + j, none⟩ = some (.slice (some ⟨zb, zo, none⟩) ks.length ck) := (Below.cell hmx (p := ⟨g, off + j, none⟩) (World.block_lt_of_cell? wj _ c1)).trans c1
                  by_cases hml : m < ks.length
                  · have hml' : (m : Int) < (ks.length : Int) := by omega
                    have hm0' : (0 : Int) ≤ (m : Int) := by omega
                    have HM2 := hide hml
                    have d0 := hzc m hml
                    have hsn : ks.getD m 0 = ks[m] := by rw [List.getD_eq_getElem?_getD, List.getElem?_eq_getElem hml]; rfl
                    have hs0 := hk3 (ks.getD m 0) (by rw [hsn]; exact List.getElem_mem hml)
                    have htk : (ks.take (m + 1)).map (hasT t) = (ks.take m).map (hasT t) ++ [hasT t (ks.getD m 0)] := by rw [List.take_succ_eq_append_getElem hml, List.map_append, hsn]; rfl
                    replace htk := hide htk
                    generalize ks.getD m 0 = z at *
                    clear hsn
                    obtain ⟨zn, rfl⟩ := Int.eq_ofNat_of_zero_le hs0
                    have hTx := hTj.mem hmx
                    have c2x : wr.cell? ⟨zb, zo + m, none⟩ = some (.int .i64 (zn : Int)) := (Below.cell hmx (p := ⟨zb, zo + m, none⟩) (World.block_lt_of_cell? wj _ d0)).trans d0
                    have KX : Hid (∀ w', Mem wj w' → w'.cell? ⟨w.heap.size + 1, 0, none⟩ = some (.slice om t.1.length cm) ∧ w'.cell? ⟨w.heap.size + 1, 1, none⟩ = some (.slice ob t.2.length cb) ∧ w'.cell? ⟨g, off + j, none⟩ = some (.slice (some ⟨zb, zo, none⟩) ks.length ck) ∧ w'.cell? ⟨zb, zo + m, none⟩ = some (.int .i64 (zn : Int))) := fun w' mm => ⟨(hTj.mem mm).cell (j := 0) rfl, (hTj.mem mm).cell (j := 1) rfl, (Below.cell mm (p := ⟨g, off + j, none⟩) (World.block_lt_of_cell? wj _ c1)).trans c1, (Below.cell mm (p := ⟨zb, zo + m, none⟩) (World.block_lt_of_cell? wj _ d0)).trans d0⟩
                    have HH := hide (fun (w' : World) (mm : Mem wr w') => refHasN t om ob cm cb t.2.length zn w' ((h1'.out.mem hmj).mem (hmx.trans mm)).ints)
                    have N0 := hide (Mem.drew (Mem.refl wr))
                    go_wp2_with fail
                    refine wp_region_held_drew (S := (fun w' => w'.cell? ⟨w.heap.size + 1, 0, none⟩ = some (.slice om t.1.length cm) ∧ w'.cell? ⟨w.heap.size + 1, 1, none⟩ = some (.slice ob t.2.length cb) ∧ w'.cell? ⟨g, off + j, none⟩ = some (.slice (some ⟨zb, zo, none⟩) ks.length ck) ∧ w'.cell? ⟨zb, zo + m, none⟩ = some (.int .i64 (zn : Int)))) (by kernel_rfl) (KX.out _ (Mem.trans hmx N0.out)) (fun hHeld => ?_)
                    refine takeH_at (i := 0) (d := 76) (v := ?_) rfl (by kernel_rfl) (by kernel_rfl) (by kernel_rfl) (fun _ _ _ h => h) rfl (Or.inl ⟨by rfl, ?hy⟩) (by assumption) ?_
                    case hy => (intro w hSw; (try dsimp only at hSw); (go_simp <;> with_reducible rfl))
                    simp only [List.setIfInBounds_toArray, List.set_cons_zero, List.set_cons_succ]
                    refine takeH_at (i := 1) (d := 77) (v := ?_) rfl (by kernel_rfl) (by kernel_rfl) (by kernel_rfl) (fun _ _ _ h => h) rfl (Or.inl ⟨by rfl, ?hy⟩) (by assumption) ?_
                    case hy => (intro w hSw; (try dsimp only at hSw); (go_simp <;> with_reducible rfl))
                    simp only [List.setIfInBounds_toArray, List.set_cons_zero, List.set_cons_succ]
                    refine takeH_at (i := 2) (d := 78) (v := ?_) rfl (by kernel_rfl) (by kernel_rfl) (by kernel_rfl) (fun _ _ _ h => h) rfl (Or.inl ⟨by rfl, ?hy⟩) (by assumption) ?_
                    case hy => (intro w hSw; (try dsimp only at hSw); (go_simp <;> with_reducible rfl))
                    simp only [List.setIfInBounds_toArray, List.set_cons_zero, List.set_cons_succ]
                    refine takeH_at (i := 3) (d := 79) (v := ?_) rfl (by kernel_rfl) (by kernel_rfl) (by kernel_rfl) (fun _ _ _ h => h) rfl (Or.inl ⟨by rfl, ?hy⟩) (by assumption) ?_
                    case hy => (intro w hSw; (try dsimp only at hSw); (go_simp <;> with_reducible rfl))
                    simp only [List.setIfInBounds_toArray, List.set_cons_zero, List.set_cons_succ]
                    refine takeH_at (i := 4) (d := 80) (v := ?_) rfl (by kernel_rfl) (by kernel_rfl) (by kernel_rfl) (fun _ _ _ h => h) rfl (Or.inl ⟨by rfl, ?hy⟩) (by assumption) ?_
                    case hy => (intro w hSw; (try dsimp only at hSw); (go_simp <;> with_reducible rfl))
                    simp only [List.setIfInBounds_toArray, List.set_cons_zero, List.set_cons_succ]
                    refine takeH_at (i := 5) (d := 81) (v := ?_) rfl (by kernel_rfl) (by kernel_rfl) (by kernel_rfl) (fun _ _ _ h => h) rfl (Or.inl ⟨by rfl, ?hy⟩) (by assumption) ?_
                    case hy => (intro w hSw; (try dsimp only at hSw); (go_simp <;> with_reducible rfl))
                    simp only [List.setIfInBounds_toArray, List.set_cons_zero, List.set_cons_succ]
                    refine takeH_at (i := 6) (d := 82) (v := ?_) rfl (by kernel_rfl) (by kernel_rfl) (by kernel_rfl) (fun _ _ _ h => h) rfl (Or.inl ⟨by rfl, ?hy⟩) (by assumption) ?_
                    case hy => (intro w hSw; (try dsimp only at hSw); (go_simp <;> with_reducible rfl))
                    simp only [List.setIfInBounds_toArray, List.set_cons_zero, List.set_cons_succ]
                    refine takeH_at (i := 7) (d := 83) (v := ?_) rfl (by kernel_rfl) (by kernel_rfl) (by kernel_rfl) (fun _ _ _ h => h) rfl (Or.inl ⟨by rfl, ?hy⟩) (by assumption) ?_
                    case hy => (intro w hSw; (try dsimp only at hSw); (go_simp <;> with_reducible rfl))
                    simp only [List.setIfInBounds_toArray, List.set_cons_zero, List.set_cons_succ]
                    refine takeH_at (i := 8) (d := 84) (v := ?_) rfl (by kernel_rfl) (by kernel_rfl) (by kernel_rfl) (fun _ _ _ h => h) rfl (Or.inl ⟨by rfl, ?hy⟩) (by assumption) ?_
                    case hy => (intro w hSw; (try dsimp only at hSw); (go_simp <;> with_reducible rfl))
                    simp only [List.setIfInBounds_toArray, List.set_cons_zero, List.set_cons_succ]
                    refine wpAnyH_ready (rs := [9]) (by kernel_rfl) (by simp) ?_
                    refine AllReadyH.cons rfl (fun K hK => ?_) AllReadyH.nil
                    go_simp
                    go_at_call 52
                    with_reducible refine (HH.out _ N0.out).mono ?_
                    rintro e u7' ⟨rfl, n7⟩
                    have N1 := hide (Mem.trans N0.out n7)
                    go_wp2_with fail
                    refine hK.out _ _ (KX.out _ (Mem.trans hmx N1.out)) (fun hHeld2 => ?_)
                    clear hK K hHeld
                    refine wpAnyH_ready (rs := [10]) (by kernel_rfl) (by simp) ?_
                    refine AllReadyH.cons rfl (fun K hK => ?_) AllReadyH.nil
                    go_simp
                    have mA : Mem wj (u7'.alloc (.cells #[.int .i64 (hasT t (zn : Int))] 3)) := Mem.alloc (Mem.trans hmx N1.out) _
                    refine hK.out _ _ (KX.out _ mA) (fun hHeld3 => ?_)
                    clear hK K hHeld2
                    refine wpAnyH_ready (rs := [11]) (by kernel_rfl) (by simp) ?_
                    refine AllReadyH.cons rfl (fun K hK => ?_) AllReadyH.nil
                    refine step_pushI (by rfl) _ _ (by rfl) wj.heap.size u16 ((ks.take m).map (hasT t)) m (by rfl) ((owns_below hown N1.out).alloc _) mA.size u7'.heap.size (hasT t (zn : Int)) (World.cell?_alloc_mark _ _ _ _ _) (by rfl) (by omega) ?_
                    intro v' w' g1 g2
                    have mB : Mem wj w' := Below.trans mA g2
                    refine hK.out _ _ (KX.out _ mB) (fun hHeld4 => ?_)
                    clear hK K hHeld3
                    simp only [Act.put, List.setIfInBounds_toArray]
                    refine wpAnyH_ready (rs := [12]) (by kernel_rfl) (by simp) ?_
                    refine AllReadyH.cons rfl (fun K hK => ?_) AllReadyH.nil
                    go_simp
                    refine hK.out _ _ hHeld4 (fun hHeld5 => ?_)
                    clear hK K hHeld4
                    refine wpAnyH_done (by kernel_rfl) ?_ _
                    clear KX g2
                    have hml := HM2.out
                    go_wp2_with fail
                    go_roundw
                    case rel => exact ⟨m + 1, by omega, by go_num, by rw [htk.out]; exact g1, mB⟩
                    case measure => simp [intOf]; omega
                  · have hme : m = ks.length := by omega
                    subst hme
                    have hml' : ¬ ((ks.length : Int) < (ks.length : Int)) := by omega
                    rw [List.take_length] at hown
                    have hv := IntsIn.of_owns hown
                    obtain ⟨ov, cv, hsh⟩ := hv.ints.shape
                    rw [List.length_map] at hsh
                    subst hsh
                    obtain ⟨xs, ho, hf⟩ := hhj.mem hmx
                    have hv2 := hv.mono (S' := fun x => w1.heap.size ≤ x ∧ some x ≠ v5.ownBlock) (fun x hx _ => ⟨Nat.le_trans hmj.size hx, fun e => by obtain ⟨_, o2, _⟩ := hhj; have := (o2.lt x e.symm).2; omega⟩)
                    have gi3 := gi2.mem hmx
                    have hmx1 : Mem w1 wr := Mem.trans hmj hmx
                    go_wp2_with (at_builtin; refine pushWrite rfl _ _ rfl w1.heap.size v5 xs _ rfl ho hmx1.size (⟨#[]⟩, 2, 0, (some ⟨zb, zo, none⟩, ks.length, ck), (ov, ks.length, cv)) wr.heap.size rfl rfl (by omega) ?_; intro v' w' g1 g2 g3 g4)
                    have hh2 := HeldW.pushed hf (f := changeW t ks) ⟨rfl, rfl, rfl, gi3, hv2⟩ g1 g3 g4
                    have hkx2 : KeptX u6 v4 w' v' := (hkx.trans (KeptX.of_mem hmx v5)).trans ⟨g3, g4, g2.size⟩
                    have hmi2 : Mem w1 w' := Below.trans hmx1 g2
                    have hjl := HJ.out
                    go_roundw
                    case rel => exact ⟨j + 1, by omega, by go_num, by rw [hHE.out]; exact hh2, hkx2, hmi2⟩
                    case measure => simp [intOf]; omega
              · have hje : j = L2.length := by omega
                subst hje
                have hjl' : ¬ ((L2.length : Int) < (L2.length : Int)) := by omega
                rw [List.take_length, HMS.out, ← HN.out] at hhj
                have hlt := HLT.out
                go_wp2_with fail
                go_roundw
                case rel => exact ⟨k + 1, by omega, by go_num, fun _ => hb32, hhj, hmj⟩
                case measure => simp [intOf]; omega
      · have hpn : place b k < 0 := by unfold place; rw [if_pos (by omega)]; omega
        have hd : decide (place b k < 0) = true := decide_eq_true hpn
        have HE : Hid (movesT bs t b = []) := hide (by unfold movesT; rw [if_neg hb32])
        generalize place b k = q at *
        go_wp2_with (go_at_call 46; with_reducible refine HP.out.mono ?_; rintro e u0 ⟨rfl, hu0⟩; have hu1 := hu0.symm; subst hu1)
        (try go_ret)
        exact ⟨⟨_, rfl, by rw [HE.out]; exact WritesAt.nil _ _ _ _⟩, hm0.trans hmr⟩
    · have hke : k = 16 := by omega
      subst hke
      have hlt' : ¬ ((16 : Int) < 16) := by omega
      have HE : Hid (movesT bs t b = movesN bs t b 16) := hide (by unfold movesT; rw [if_pos (hbk (by omega))])
      go_wp2_with fail
      go_ret
      obtain ⟨xs, ho, hf⟩ := hheld
      exact ⟨⟨_, rfl, by rw [HE.out]; exact WritesAt.of_owns ho rfl hf (fun g hg _ => .inr (Nat.le_trans hm0.size hg.1)) (fun g hg => .inr (Nat.le_trans hm0.size (ho.lt g hg).1))⟩, hm0.trans hmr⟩
end Go.Proofs.YtedopplldpcinaaGreat.Plan
