/-
  Layer 7, by the document: what a page tells, put into a table.
-/
import Derived.Test.YtegamnaahipedaaReplayTold
import Derived.Deep.DeepCutAuto
namespace Go.Proofs.Ytegamnaahipedaa.Replay
open Go.RowKit Go.Proofs.Ytegamnaahipedaa.Scan

/-- what is asked of whoever applies a page to a table -/
def ApplySpec (F : Nat) : Prop := ∀ (t : TableT) (om ob : Option Addr) (cm cb : Nat) (p k s : Int) (ok ov : Option Addr) (ck cv : Nat) (ks vs : List Int) (w : World),
  Ints .i64 w (.slice om t.1.length cm) t.1 → Ints .i64 w (.slice ob t.2.length cb) t.2 → t.1.length ≤ 1000 → t.2.length ≤ 1000 → Ints .i64 w (.slice ok ks.length ck) ks → Ints .i64 w (.slice ov vs.length cv) vs →
  Calls Try.prog F #[.agg #[.slice om t.1.length cm, .slice ob t.2.length cb], .agg #[.int .i64 p, .int .i64 k, .int .i64 s, .slice ok ks.length ck, .slice ov vs.length cv]] w fun e w' => (∃ v, e = .returned v ∧ TabV (fun x => w.heap.size ≤ x) w' v (applyT t (p, k, s, ks, vs))) ∧ Mem w w'

/-- what Apply has in memory: f, the result, the table that is written into, its rows -/
def AppMem (w wr : World) (f : FoundT) (ok ov : Option Addr) (ck cv : Nat) (B gm gb : Nat) (om ob : Option Addr) (cm cb : Nat) (t : TableT) : Prop :=
  Blk wr (w.heap.size + 1) 65 #[.int .i64 f.1, .int .i64 f.2.1, .int .i64 f.2.2.1, .slice ok f.2.2.2.1.length ck, .slice ov f.2.2.2.2.length cv] ∧ Blk wr (w.heap.size + 2) 27 #[.slice none 0 0, .slice none 0 0] ∧
  Blk wr B 27 #[.slice om t.1.length cm, .slice ob t.2.length cb] ∧ RowAt wr gm om t.1 ∧ RowAt wr gb ob t.2 ∧ (w.heap.size + 3 ≤ gm ∧ w.heap.size + 3 ≤ gb ∧ w.heap.size + 3 ≤ B ∧ gm ≠ gb ∧ gm ≠ B ∧ gb ≠ B) ∧ Mem w wr
theorem AppMem.mem {w wr wr' : World} {f : FoundT} {ok ov : Option Addr} {ck cv B gm gb : Nat} {om ob : Option Addr} {cm cb : Nat} {t : TableT} (h : AppMem w wr f ok ov ck cv B gm gb om ob cm cb t) (m : Mem wr wr') : AppMem w wr' f ok ov ck cv B gm gb om ob cm cb t := by
  obtain ⟨h1, h2, h3, h4, h5, h6, h7⟩ := h
  exact ⟨h1.mem m, h2.mem m, h3.mem m, h4.mem m, h5.mem m, h6, h7.trans m⟩
theorem AppMem.put {w wr : World} {f : FoundT} {ok ov : Option Addr} {ck cv B gm gb : Nat} {om ob : Option Addr} {cm cb : Nat} {t : TableT} (h : AppMem w wr f ok ov ck cv B gm gb om ob cm cb t) (k : Nat) (x y : Int) :
    AppMem w ((wr.setCell ⟨gm, k, none⟩ (.int .i64 x)).setCell ⟨gb, k, none⟩ (.int .i64 y)) f ok ov ck cv B gm gb om ob cm cb (t.1.set k x, t.2.set k y) := by
  obtain ⟨h1, h2, h3, h4, h5, ⟨h6, h7, h8, h9, h10, h11⟩, h12⟩ := h
  refine ⟨?_, ?_, ?_, ?_, ?_, ⟨h6, h7, h8, h9, h10, h11⟩, ?_⟩
  · exact (h1.other (a := ⟨gm, k, none⟩) (by show w.heap.size + 1 ≠ gm; omega) _).other (a := ⟨gb, k, none⟩) (by show w.heap.size + 1 ≠ gb; omega) _
  · exact (h2.other (a := ⟨gm, k, none⟩) (by show w.heap.size + 2 ≠ gm; omega) _).other (a := ⟨gb, k, none⟩) (by show w.heap.size + 2 ≠ gb; omega) _
  · have := (h3.other (a := ⟨gm, k, none⟩) (by show B ≠ gm; omega) (.int .i64 x)).other (a := ⟨gb, k, none⟩) (by show B ≠ gb; omega) (.int .i64 y)
    simpa using this
  · exact (h4.set k x).other (p := ⟨gb, k, none⟩) (by show gm ≠ gb; omega) _
  · exact RowAt.set (h5.other (p := ⟨gm, k, none⟩) (by show gb ≠ gm; omega) _) k y
  · exact (h12.setCell (p := ⟨gm, k, none⟩) (by show w.heap.size ≤ gm; omega) _).setCell (p := ⟨gb, k, none⟩) (by show w.heap.size ≤ gb; omega) _
/-- how it begins -/
theorem AppMem.start {w wx : World} {f : FoundT} {ok ov : Option Addr} {ck cv B n1 n2 : Nat} {v1 v2 : Value} {t : TableT}
    (h1 : Blk wx (w.heap.size + 1) 65 #[.int .i64 f.1, .int .i64 f.2.1, .int .i64 f.2.2.1, .slice ok f.2.2.2.1.length ck, .slice ov f.2.2.2.2.length cv]) (h2 : Blk wx (w.heap.size + 2) 27 #[.slice none 0 0, .slice none 0 0]) (h3 : Blk wx B 27 #[v1, v2])
    (o1 : wx.ownsRow (w.heap.size + 3) 3 1 v1 n1 (icells t.1)) (o2 : wx.ownsRow (w.heap.size + 3) 3 1 v2 n2 (icells t.2)) (hne : v1.ownBlock = none ∨ v1.ownBlock ≠ v2.ownBlock) (hB : w.heap.size + 3 ≤ B) (hB1 : ∀ k, v1.ownBlock = some k → k ≠ B) (hB2 : ∀ k, v2.ownBlock = some k → k ≠ B) (hm : Mem w wx) :
    ∃ gm gb om ob cm cb, AppMem w wx f ok ov ck cv B gm gb om ob cm cb t := by
  have hn1 : t.1.length = n1 := by simpa [icells] using o1.1
  have hn2 : t.2.length = n2 := by simpa [icells] using o2.1
  subst hn1
  subst hn2
  have hlt := h3.lt
  obtain ⟨om, cm, gm, ob, cb, gb, rfl, rfl, r1, r2, c1, c2, c3, c4, c5⟩ := Two.rows (B := B) ⟨o1, o2, hne⟩ hlt hB1 hB2 (by omega)
  exact ⟨gm, gb, om, ob, cm, cb, h1, h2, h3, r1, r2, ⟨c1, c2, hB, c3, c4, c5⟩, hm⟩
theorem _root_.Go.Proofs.Ytegamnaahipedaa.Mem.size {a b : World} (h : Mem a b) : a.heap.size ≤ b.heap.size := Below.size h
theorem owns_put2 {w : World} {base : Nat} {e : TypeId} {size : Nat} {v : Value} {n : Nat} {xs : List Value} (h : w.ownsRow base e size v n xs) {b : Nat} (hb : ∀ k, v.ownBlock = some k → k ≠ b) (x0 x1 : Value) : ((w.setCell ⟨b, 0, none⟩ x0).setCell ⟨b, 1, none⟩ x1).ownsRow base e size v n xs := by
  obtain ⟨h1, h2⟩ := h
  refine ⟨h1, ?_⟩
  rcases h2 with h2 | ⟨g, cap, cur, rfl, hg, hh, r⟩
  · exact .inl h2
  · have hne : g ≠ b := hb g rfl
    refine .inr ⟨g, cap, cur, rfl, hg, ?_, r⟩
    rw [Below.heap_setCell _ _ _ g (by exact hne), Below.heap_setCell _ _ _ g (by exact hne)]
    exact hh
theorem rows_apart {w : World} {base : Nat} {e : TypeId} {size : Nat} {v v2 : Value} {n : Nat} {xs : List Value} (h : w.ownsRow base e size v n xs) (l : Lies w (.slice none 0 0) v2) : v.ownBlock = none ∨ v.ownBlock ≠ v2.ownBlock := by
  cases hv : v.ownBlock with
  | none => exact .inl rfl
  | some g =>
    refine .inr fun e => ?_
    have hlt := (h.lt g hv).2
    rcases l with l | ⟨g', l, hge⟩
    · rw [l] at e; cases e
    · rw [l] at e
      injection e with e
      omega
theorem lies_le {w : World} {v : Value} (l : Lies w (.slice none 0 0) v) (k : Nat) (hk : v.ownBlock = some k) : w.heap.size ≤ k := by
  rcases l with l | ⟨g, l, hge⟩
  · rw [l] at hk; cases hk
  · rw [l] at hk
    injection hk with hk
    omega
theorem new_lt (w : World) (o : Obj) : w.heap.size < (w.alloc o).heap.size := by simp
theorem lies_new {w : World} {o : Obj} {v : Value} (l : Lies (w.alloc o) (.slice none 0 0) v) (k : Nat) (hk : v.ownBlock = some k) : w.heap.size < k := Nat.lt_of_lt_of_le (new_lt w o) (lies_le l k hk)
theorem grown_none {w w' : World} (h : w.grownBy w' none) : Mem w w' := ⟨h.os, h.tape, h.output, h.size, fun k hk => h.block k hk (by simp)⟩
/-- what comes out -/
theorem AppMem.out {w wr : World} {f : FoundT} {ok ov : Option Addr} {ck cv B gm gb : Nat} {om ob : Option Addr} {cm cb : Nat} {t : TableT} (h : AppMem w wr f ok ov ck cv B gm gb om ob cm cb t) (h1 : t.1.length ≤ 1000) (h2 : t.2.length ≤ 1000) :
    TabV (fun x => w.heap.size ≤ x) ((wr.setCell ⟨w.heap.size + 2, 0, none⟩ (.slice om t.1.length cm)).setCell ⟨w.heap.size + 2, 1, none⟩ (.slice ob t.2.length cb)) (.agg #[.slice om t.1.length cm, .slice ob t.2.length cb]) t := by
  obtain ⟨_, _, _, h4, h5, ⟨h6, h7, _⟩, _⟩ := h
  have i1 := IntsIn.row (S := fun x => w.heap.size + 3 ≤ x) h4 (by unfold maxLen; omega) h6 cm
  have i2 := IntsIn.row (S := fun x => w.heap.size + 3 ≤ x) h5 (by unfold maxLen; omega) h7 cb
  have t0 : TabV (fun x => w.heap.size + 3 ≤ x) wr (.agg #[.slice om t.1.length cm, .slice ob t.2.length cb]) t := ⟨om, cm, ob, cb, rfl, i1, i2⟩
  exact (t0.put2 (b := w.heap.size + 2) (by omega) _ _).mono fun g hg _ => by omega

/-- the cells that a round reads -/
theorem hold {w' : World} {F B n m n' m' : Nat} {p k s : Int} {ok ov om ob : Option Addr} {ck cv cm cb nk nv : Nat} (h : Blk w' F 65 #[.int .i64 p, .int .i64 k, .int .i64 s, .slice ok nk ck, .slice ov nv cv]) (h' : Blk w' B 27 #[.slice om n' cm, .slice ob m' cb]) (hn : n' = n) (hm : m' = m) :
    w'.cell? ⟨F, 0, none⟩ = some (.int .i64 p) ∧ w'.cell? ⟨F, 1, none⟩ = some (.int .i64 k) ∧ w'.cell? ⟨F, 4, none⟩ = some (.slice ov nv cv) ∧ w'.cell? ⟨B, 0, none⟩ = some (.slice om n cm) ∧ w'.cell? ⟨B, 1, none⟩ = some (.slice ob m cb) := by
  subst hn
  subst hm
  exact ⟨h.cell (j := 0) rfl, h.cell (j := 1) rfl, h.cell (j := 4) rfl, h'.cell (j := 0) rfl, h'.cell (j := 1) rfl⟩
set_option maxHeartbeats 4000000 in
set_option maxRecDepth 100000 in
theorem refApply : ApplySpec 29 := by
  intro t om ob cm cb p k s ok ov ck cv ks vs w ht1 ht2 hl1 hl2 hks hvs
  have hb0 : Blk (((w.alloc (.cells #[.slice om t.1.length cm, .slice ob t.2.length cb] 27)).alloc (.cells #[.int .i64 p, .int .i64 k, .int .i64 s, .slice ok ks.length ck, .slice ov vs.length cv] 65)).alloc (.cells #[.slice none 0 0, .slice none 0 0] 27)) w.heap.size 27 #[.slice om t.1.length cm, .slice ob t.2.length cb] := ((Blk.new w _ _).alloc _).alloc _
  have hb1 : Blk (((w.alloc (.cells #[.slice om t.1.length cm, .slice ob t.2.length cb] 27)).alloc (.cells #[.int .i64 p, .int .i64 k, .int .i64 s, .slice ok ks.length ck, .slice ov vs.length cv] 65)).alloc (.cells #[.slice none 0 0, .slice none 0 0] 27)) (w.heap.size + 1) 65 #[.int .i64 p, .int .i64 k, .int .i64 s, .slice ok ks.length ck, .slice ov vs.length cv] := by
    have := (Blk.new (w.alloc (.cells #[.slice om t.1.length cm, .slice ob t.2.length cb] 27)) #[.int .i64 p, .int .i64 k, .int .i64 s, .slice ok ks.length ck, .slice ov vs.length cv] 65).alloc (.cells #[.slice none 0 0, .slice none 0 0] 27)
    simpa using this
  have hb2 : Blk (((w.alloc (.cells #[.slice om t.1.length cm, .slice ob t.2.length cb] 27)).alloc (.cells #[.int .i64 p, .int .i64 k, .int .i64 s, .slice ok ks.length ck, .slice ov vs.length cv] 65)).alloc (.cells #[.slice none 0 0, .slice none 0 0] 27)) (w.heap.size + 2) 27 #[.slice none 0 0, .slice none 0 0] := by
    have := Blk.new ((w.alloc (.cells #[.slice om t.1.length cm, .slice ob t.2.length cb] 27)).alloc (.cells #[.int .i64 p, .int .i64 k, .int .i64 s, .slice ok ks.length ck, .slice ov vs.length cv] 65)) #[.slice none 0 0, .slice none 0 0] 27
    simpa using this
  have hm : Mem w (((w.alloc (.cells #[.slice om t.1.length cm, .slice ob t.2.length cb] 27)).alloc (.cells #[.int .i64 p, .int .i64 k, .int .i64 s, .slice ok ks.length ck, .slice ov vs.length cv] 65)).alloc (.cells #[.slice none 0 0, .slice none 0 0] 27)) := (((Mem.refl w).alloc _).alloc _).alloc _
  have hsz : (((w.alloc (.cells #[.slice om t.1.length cm, .slice ob t.2.length cb] 27)).alloc (.cells #[.int .i64 p, .int .i64 k, .int .i64 s, .slice ok ks.length ck, .slice ov vs.length cv] 65)).alloc (.cells #[.slice none 0 0, .slice none 0 0] 27)).heap.size = w.heap.size + 3 := by simp
  replace ht1 := ht1.mem hm
  replace ht2 := ht2.mem hm
  go_enter Try.func29, Try.ntmps29
  go_wp2_with fail
  generalize ((w.alloc (.cells #[.slice om t.1.length cm, .slice ob t.2.length cb] 27)).alloc (.cells #[.int .i64 p, .int .i64 k, .int .i64 s, .slice ok ks.length ck, .slice ov vs.length cv] 65)).alloc (.cells #[.slice none 0 0, .slice none 0 0] 27) = W at *
  go_cut [5] (fun a wx => ∃ B gm gb om' ob' cm' cb', a = .pointer (some ⟨B, 0, none⟩) ∧ AppMem w wx (p, k, s, ks, vs) ok ov ck cv B gm gb om' ob' cm' cb' t ∧ Mem W wx)
  case first =>
    have HSZ := hide hsz
    clear hsz
    have x0 := hb0.cell (j := 0) rfl
    have x1 := hb0.cell (j := 1) rfl
    have HK : Hid (∀ w', Mem W w' → w'.cell? ⟨w.heap.size, 0, none⟩ = some (.slice om t.1.length cm) ∧ w'.cell? ⟨w.heap.size, 1, none⟩ = some (.slice ob t.2.length cb)) := fun w' h => ⟨(hb0.mem h).cell (j := 0) rfl, (hb0.mem h).cell (j := 1) rfl⟩
    have H1 := hide (fun (w' : World) (h : Mem W w') => ht1.mem h)
    have H2 := hide (fun (w' : World) (h : Mem W w') => ht2.mem h)
    have N0 := hide (Mem.drew (Mem.refl W))
    have N0a := hide (Mem.drew (Mem.alloc (Mem.refl W) (.cells #[.slice none 0 0, .slice none 0 0] 27)))
    go_region_held3 (fun w' => w'.cell? ⟨w.heap.size, 0, none⟩ = some (.slice om t.1.length cm) ∧ w'.cell? ⟨w.heap.size, 1, none⟩ = some (.slice ob t.2.length cb))
      (first | with_reducible exact HK.out _ N0.out | with_reducible exact HK.out _ N0a.out | with_reducible exact HK.out _ N1.out | with_reducible exact HK.out _ N2.out | with_reducible exact HK.out _ (Mem.alloc N0.out _) | with_reducible exact HK.out _ (Mem.alloc N1.out _) | with_reducible exact HK.out _ (Mem.alloc N2.out _) | exact HK.out _ (Mem2.put N2.out (Nat.le_refl _) _ _) | exact HK.out _ (Mem2.put N2.out N1.out.size _ _) | go_keep)
      (first
        | ((refine step_pushAll rfl _ _ rfl (w.heap.size + 3) _ rfl (World.ownsRow_nil _ _ _ _) _ t.1 rfl (H1.out _ (N0.out)) hl1 (Nat.le_trans (Nat.le_of_eq HSZ.out.symm) (Mem.size (N0.out))) ?_; intro v1 w1 o1 g1 l1; obtain ⟨om1, cm1, rfl⟩ := owns_shape o1; have N1 := hide (Mem.trans (N0.out) (grown_none g1))))
        | ((refine step_pushAll rfl _ _ rfl (w.heap.size + 3) _ rfl (World.ownsRow_nil _ _ _ _) _ t.1 rfl (H1.out _ (N0a.out)) hl1 (Nat.le_trans (Nat.le_of_eq HSZ.out.symm) (Mem.size (N0a.out))) ?_; intro v1 w1 o1 g1 l1; obtain ⟨om1, cm1, rfl⟩ := owns_shape o1; have N1 := hide (Mem.trans (N0a.out) (grown_none g1)); have bA := Blk.mem (Blk.drew (Blk.new W #[.slice none 0 0, .slice none 0 0] 27)) (grown_none g1)))
        | ((refine step_pushAll rfl _ _ rfl (w.heap.size + 3) _ rfl (World.ownsRow_nil _ _ _ _) _ t.2 rfl (H2.out _ (N1.out)) hl2 (Nat.le_trans (Nat.le_of_eq HSZ.out.symm) (Mem.size (N1.out))) ?_; intro v2 w2 o2 g2 l2; obtain ⟨om2, cm2, rfl⟩ := owns_shape o2; have N2 := hide (Mem.trans (N1.out) (grown_none g2)); have bB := Blk.mem bA (grown_none g2); have q0 := bB.cell (j := 0) rfl; have q1 := bB.cell (j := 1) rfl; have q2 := bB.frozen 0; have q3 := bB.frozen 1))
        | ((refine step_pushAll rfl _ _ rfl (w.heap.size + 3) _ rfl (World.ownsRow_nil _ _ _ _) _ t.2 rfl (H2.out _ (N1.out)) hl2 (Nat.le_trans (Nat.le_of_eq HSZ.out.symm) (Mem.size (N1.out))) ?_; intro v2 w2 o2 g2 l2; obtain ⟨om2, cm2, rfl⟩ := owns_shape o2; have N2 := hide (Mem.trans (N1.out) (grown_none g2))))
        | ((refine step_pushAll rfl _ _ rfl (w.heap.size + 3) _ rfl (World.ownsRow_nil _ _ _ _) _ t.2 rfl (H2.out _ (Mem.alloc N1.out _)) hl2 (Nat.le_trans (Nat.le_of_eq HSZ.out.symm) (Mem.size (Mem.alloc N1.out _))) ?_; intro v2 w2 o2 g2 l2; obtain ⟨om2, cm2, rfl⟩ := owns_shape o2; have N2 := hide (Mem.trans (Mem.alloc N1.out _) (grown_none g2)); have bB := Blk.mem (Blk.new w1 #[.slice none 0 0, .slice none 0 0] 27) (grown_none g2); have q0 := bB.cell (j := 0) rfl; have q1 := bB.cell (j := 1) rfl; have q2 := bB.frozen 0; have q3 := bB.frozen 1)))
    · have m3 := N2.out.alloc (.cells #[.slice om1 t.1.length cm1, .slice om2 t.2.length cm2] 27)
      have mo := (grown_none g2).alloc (.cells #[.slice om1 t.1.length cm1, .slice om2 t.2.length cm2] 27)
      have hne := rows_apart o1 l2
      have hst := AppMem.start (f := (p, k, s, ks, vs)) (t := t) (hb1.mem m3) (hb2.mem m3) (Blk.new w2 #[.slice om1 t.1.length cm1, .slice om2 t.2.length cm2] 27) (owns_below o1 mo) (owns_below o2 ((Mem.refl w2).alloc _)) hne (Nat.le_trans (Nat.le_of_eq HSZ.out.symm) N2.out.size) (fun k hk => Nat.ne_of_lt (Nat.lt_of_lt_of_le (o1.lt k hk).2 (grown_none g2).size)) (fun k hk => Nat.ne_of_lt (o2.lt k hk).2) (hm.trans m3)
      (try go_wp2_with fail)
      go_meet
      obtain ⟨gm, gb, om', ob', cm', cb', hA⟩ := hst
      exact ⟨_, gm, gb, om', ob', cm', cb', rfl, hA, m3⟩
    · have m3 := Mem2.put N2.out (b := w1.heap.size) N1.out.size (.slice om1 t.1.length cm1) (.slice om2 t.2.length cm2)
      have hst := AppMem.start (f := (p, k, s, ks, vs)) (t := t) (hb1.mem m3) (hb2.mem m3) (Blk2.put bB (.slice om1 t.1.length cm1) (.slice om2 t.2.length cm2)) (owns_put2 (owns_below o1 (Mem.trans ((Mem.refl w1).alloc _) (grown_none g2))) (fun k hk => Nat.ne_of_lt (o1.lt k hk).2) _ _) (owns_put2 o2 (fun k hk => Nat.ne_of_gt (lies_new (w := w1) (o := .cells #[.slice none 0 0, .slice none 0 0] 27) l2 k hk)) _ _) (rows_apart (o1.alloc _) l2) (Nat.le_trans (Nat.le_of_eq HSZ.out.symm) N1.out.size) (fun k hk => Nat.ne_of_lt (o1.lt k hk).2) (fun k hk => Nat.ne_of_gt (lies_new (w := w1) (o := .cells #[.slice none 0 0, .slice none 0 0] 27) l2 k hk)) (hm.trans m3)
      (try go_wp2_with fail)
      go_meet
      obtain ⟨gm, gb, om', ob', cm', cb', hA⟩ := hst
      exact ⟨_, gm, gb, om', ob', cm', cb', rfl, hA, m3⟩
    · have m3 := Mem2.put N2.out (b := W.heap.size) (Nat.le_refl _) (.slice om1 t.1.length cm1) (.slice om2 t.2.length cm2)
      have hst := AppMem.start (f := (p, k, s, ks, vs)) (t := t) (hb1.mem m3) (hb2.mem m3) (Blk2.put bB (.slice om1 t.1.length cm1) (.slice om2 t.2.length cm2)) (owns_put2 (owns_below o1 (grown_none g2)) (fun k hk => Nat.ne_of_gt (lies_new l1 k hk)) _ _) (owns_put2 o2 (fun k hk => Nat.ne_of_gt (Nat.lt_of_lt_of_le (Nat.lt_of_lt_of_le (new_lt W _) (grown_none g1).size) (lies_le l2 k hk))) _ _) (rows_apart o1 l2) (Nat.le_of_eq HSZ.out.symm) (fun k hk => Nat.ne_of_gt (lies_new l1 k hk)) (fun k hk => Nat.ne_of_gt (Nat.lt_of_lt_of_le (Nat.lt_of_lt_of_le (new_lt W _) (grown_none g1).size) (lies_le l2 k hk))) (hm.trans m3)
      (try go_wp2_with fail)
      go_meet
      obtain ⟨gm, gb, om', ob', cm', cb', hA⟩ := hst
      exact ⟨_, gm, gb, om', ob', cm', cb', rfl, hA, m3⟩
  case rest =>
    obtain ⟨B, gm, gb, om', ob', cm', cb', rfl, hA, mW⟩ := hcut
    clear hb0 hb1 hb2 hm ht1 ht2 mW
    go_wp2_with fail
    go_loopw [6] (fun a wr => ∃ i : Nat, i ≤ ks.length ∧ a = .int .i64 i ∧ AppMem w wr (p, k, s, ks, vs) ok ov ck cv B gm gb om' ob' cm' cb' (applyN (p, k, s, ks, vs) t i)) (fun a _ => ks.length - (intOf a).toNat)
    case atStart => exact ⟨0, Nat.zero_le _, rfl, hA⟩
    case round =>
      clear hA
      obtain ⟨i, hi, rfl, hA⟩ := hrel
      have hu := applyN_len (p, k, s, ks, vs) t i
      have hu2 := applyN_len (p, k, s, ks, vs) t (i + 1)
      have hkl := hks.1
      unfold maxLen at hkl
      have f0 := hA.1.cell (j := 0) rfl
      have f1 := hA.1.cell (j := 1) rfl
      have f3 := hA.1.cell (j := 3) rfl
      have f4 := hA.1.cell (j := 4) rfl
      have b0 := hA.2.2.1.cell (j := 0) rfl
      have b1 := hA.2.2.1.cell (j := 1) rfl
      simp only [List.getElem_toArray, List.getElem_cons_zero, List.getElem_cons_succ, hu.1, hu.2] at f0 f1 f3 f4 b0 b1
      by_cases hlt : i < ks.length
      · have hlt' : (i : Int) < (ks.length : Int) := by omega
        have hi0 : (0 : Int) ≤ (i : Int) := by omega
        obtain ⟨kb, ko, rfl, hc⟩ := (hks.mem hA.2.2.2.2.2.2).at (by omega)
        have c0 := hc i hlt
        clear hc
        have HX := hide (rfl : ks.getD i 0 = ks.getD i 0)
        have HO : Hid (isSec (applyN (p, k, s, ks, vs) t i) (ks.getD i 0) = false → applyN (p, k, s, ks, vs) t (i + 1) = applyN (p, k, s, ks, vs) t i) := fun h => stepT_out h
        have HNone : Hid (toldT (p, k, s, ks, vs) i = none → applyN (p, k, s, ks, vs) t (i + 1) = applyN (p, k, s, ks, vs) t i) := fun h => stepT_none _ h
        generalize hx : ks.getD i 0 = x at c0 HO
        by_cases hin : isSec (applyN (p, k, s, ks, vs) t i) x = true
        · clear HO
          rw [isSec_iff, hu.1, hu.2] at hin
          obtain ⟨hx0, hx1, hx2⟩ := hin
          obtain ⟨j, rfl⟩ : ∃ j : Nat, x = (j : Int) := ⟨x.toNat, by omega⟩
          replace HX := hide hx
          clear hx
          have ho1 := hA.2.2.2.1.addr (by omega)
          have ho2 := hA.2.2.2.2.1.addr (by omega)
          subst ho1
          subst ho2
          have hfg1 : w.heap.size + 1 ≠ gm := by have := hA.2.2.2.2.2.1; omega
          have HS0 := hide (hold (w' := wr.drew) hA.1 hA.2.2.1 hu.1 hu.2)
          have hvc := hvs.mem hA.2.2.2.2.2.2
          by_cases h1 : k = 1
          · subst h1
            have hA2 := hA.put j p p
            have HN : Hid (applyN ((p, 1, s, ks, vs) : FoundT) t (i + 1) = ((applyN ((p, 1, s, ks, vs) : FoundT) t i).1.set j p, (applyN ((p, 1, s, ks, vs) : FoundT) t i).2.set j p)) := by
              show stepT ((p, 1, s, ks, vs) : FoundT) _ i = _
              rw [stepT_in (v := p) toldT_data (by show isSec _ (ks.getD i 0) = true; rw [HX.out, isSec_iff]; omega)]
              show (_, _) = _
              rw [show (((p, 1, s, ks, vs) : FoundT) : FoundT).2.2.2.1.getD i 0 = (j : Int) from HX.out]
              rfl
            rw [← HN.out] at hA2
            have r0 := hA.2.2.2.1.cell (k := j) (by omega)
            have r1 := hA.2.2.2.1.frozen (by omega) j
            have r2 := hA.2.2.2.2.1.cell (k := j) (by omega)
            have r3 := hA.2.2.2.2.1.frozen (by omega) j
            obtain ⟨_, _, _, hg1, hg2, hg3⟩ := hA.2.2.2.2.2.1
            have hR2 := hA.2.2.2.2.1.other (p := ⟨gm, j, none⟩) (Ne.symm hg1) (.int .i64 p)
            have r4 := hR2.cell (k := j) (by omega)
            have r5 := hR2.frozen (by omega) j
            have HS1 := hide (hold (w' := (wr.setCell ⟨gm, j, none⟩ (.int .i64 p)).drew) (hA.1.other (a := ⟨gm, j, none⟩) hfg1 (.int .i64 p)) (hA.2.2.1.other (a := ⟨gm, j, none⟩) (Ne.symm hg2) (.int .i64 p)) hu.1 hu.2)
            have HS2 := hide (hold hA2.1.drew hA2.2.2.1.drew hu2.1 hu2.2)
            have HA2 := hide (hA2.mem (Mem.drew (Mem.refl _)))
            clear hA hA2 hR2 hvc
            go_wp2_with fail
            go_region_held3 (fun w' => w'.cell? ⟨w.heap.size + 1, 0, none⟩ = some (.int .i64 p) ∧ w'.cell? ⟨w.heap.size + 1, 1, none⟩ = some (.int .i64 1) ∧ w'.cell? ⟨w.heap.size + 1, 4, none⟩ = some (.slice ov vs.length cv) ∧ w'.cell? ⟨B, 0, none⟩ = some (.slice (some ⟨gm, 0, none⟩) t.1.length cm') ∧ w'.cell? ⟨B, 1, none⟩ = some (.slice (some ⟨gb, 0, none⟩) t.2.length cb'))
              (first | with_reducible exact HS0.out | with_reducible exact HS1.out | with_reducible exact HS2.out)
              (fail)
            go_wp2_with fail
            go_roundw
            case rel => exact ⟨i + 1, by omega, by go_num, HA2.out⟩
            case measure => simp [intOf]; omega
          by_cases h2 : k = 2
          · subst h2
            by_cases h3 : i < vs.length
            · have h3' : (i : Int) < (vs.length : Int) := by omega
              obtain ⟨vb, vo, rfl, hvc'⟩ := hvs.at (by omega)
              have hv0 := hvc' i h3
              have HV := hide (toldT_change (p := p) (s := s) (ks := ks) h3)
              clear hvc'
              generalize vs.getD i 0 = y at hv0 HV
              have HV0 : Hid (∀ w', Mem w w' → w'.cell? ⟨vb, vo + i, none⟩ = some (.int .i64 y)) := fun w' h => (Below.cell h (p := ⟨vb, vo + i, none⟩) (World.block_lt_of_cell? w _ hv0)).trans hv0
              have v0 := HV0.out wr hA.2.2.2.2.2.2
              replace HS0 := hide (And.intro (HV0.out wr.drew (hA.2.2.2.2.2.2.drew)) HS0.out)
              have hA2 := hA.put j y p
              have HN : Hid (applyN ((p, 2, s, ks, vs) : FoundT) t (i + 1) = ((applyN ((p, 2, s, ks, vs) : FoundT) t i).1.set j y, (applyN ((p, 2, s, ks, vs) : FoundT) t i).2.set j p)) := by
                show stepT ((p, 2, s, ks, vs) : FoundT) _ i = _
                rw [stepT_in (v := y) HV.out (by show isSec _ (ks.getD i 0) = true; rw [HX.out, isSec_iff]; omega)]
                show (_, _) = _
                rw [show (((p, 2, s, ks, vs) : FoundT) : FoundT).2.2.2.1.getD i 0 = (j : Int) from HX.out]
                rfl
              rw [← HN.out] at hA2
              have r0 := hA.2.2.2.1.cell (k := j) (by omega)
              have r1 := hA.2.2.2.1.frozen (by omega) j
              have r2 := hA.2.2.2.2.1.cell (k := j) (by omega)
              have r3 := hA.2.2.2.2.1.frozen (by omega) j
              obtain ⟨hgm, _, _, hg1, hg2, hg3⟩ := hA.2.2.2.2.2.1
              have hR2 := hA.2.2.2.2.1.other (p := ⟨gm, j, none⟩) (Ne.symm hg1) (.int .i64 y)
              have r4 := hR2.cell (k := j) (by omega)
              have r5 := hR2.frozen (by omega) j
              have HS1 := hide (And.intro (HV0.out (wr.setCell ⟨gm, j, none⟩ (.int .i64 y)).drew ((hA.2.2.2.2.2.2.setCell (p := ⟨gm, j, none⟩) (by show w.heap.size ≤ gm; omega) (.int .i64 y)).drew)) (hold (w' := (wr.setCell ⟨gm, j, none⟩ (.int .i64 y)).drew) (hA.1.other (a := ⟨gm, j, none⟩) hfg1 (.int .i64 y)) (hA.2.2.1.other (a := ⟨gm, j, none⟩) (Ne.symm hg2) (.int .i64 y)) hu.1 hu.2))
              have HS2 := hide (And.intro (HV0.out _ (hA2.2.2.2.2.2.2.drew)) (hold hA2.1.drew hA2.2.2.1.drew hu2.1 hu2.2))
              have HA2 := hide (hA2.mem (Mem.drew (Mem.refl _)))
              clear hA hA2 hR2 hvc
              go_wp2_with fail
              go_region_held3 (fun w' => w'.cell? ⟨vb, vo + i, none⟩ = some (.int .i64 y) ∧ w'.cell? ⟨w.heap.size + 1, 0, none⟩ = some (.int .i64 p) ∧ w'.cell? ⟨w.heap.size + 1, 1, none⟩ = some (.int .i64 2) ∧ w'.cell? ⟨w.heap.size + 1, 4, none⟩ = some (.slice (some ⟨vb, vo, none⟩) vs.length cv) ∧ w'.cell? ⟨B, 0, none⟩ = some (.slice (some ⟨gm, 0, none⟩) t.1.length cm') ∧ w'.cell? ⟨B, 1, none⟩ = some (.slice (some ⟨gb, 0, none⟩) t.2.length cb'))
                (first | with_reducible exact HS0.out | with_reducible exact HS1.out | with_reducible exact HS2.out)
                (fail)
              go_wp2_with fail
              go_roundw
              case rel => exact ⟨i + 1, by omega, by go_num, HA2.out⟩
              case measure => simp [intOf]; omega
            · have h3' : ¬ ((i : Int) < (vs.length : Int)) := by omega
              have hA2 : AppMem w wr (p, 2, s, ks, vs) (some ⟨kb, ko, none⟩) ov ck cv B gm gb (some ⟨gm, 0, none⟩) (some ⟨gb, 0, none⟩) cm' cb' (applyN (p, 2, s, ks, vs) t (i + 1)) := by rw [HNone.out (toldT_short h3)]; exact hA
              clear hA hu hu2 HNone
              go_wp2_with fail
              go_roundw
              case rel => exact ⟨i + 1, by omega, by go_num, hA2⟩
              case measure => simp [intOf]; omega
          · have hA2 : AppMem w wr (p, k, s, ks, vs) (some ⟨kb, ko, none⟩) ov ck cv B gm gb (some ⟨gm, 0, none⟩) (some ⟨gb, 0, none⟩) cm' cb' (applyN (p, k, s, ks, vs) t (i + 1)) := by rw [HNone.out (toldT_else h1 h2)]; exact hA
            clear hA hu hu2 HNone
            go_wp2_with fail
            go_roundw
            case rel => exact ⟨i + 1, by omega, by go_num, hA2⟩
            case measure => simp [intOf]; omega
        · have HE := hide (HO.out (by simpa using hin))
          have hin' : ¬ (0 ≤ x ∧ x < (t.1.length : Int) ∧ x < (t.2.length : Int)) := by
            rw [isSec_iff, hu.1, hu.2] at hin
            exact hin
          clear HO HNone HX hx hin
          have hA2 : AppMem w wr (p, k, s, ks, vs) (some ⟨kb, ko, none⟩) ov ck cv B gm gb om' ob' cm' cb' (applyN (p, k, s, ks, vs) t (i + 1)) := by rw [HE.out]; exact hA
          clear HE hu hu2 hA
          by_cases h1 : 0 ≤ x
          · by_cases h2 : x < (t.1.length : Int)
            · have h3 : ¬ x < (t.2.length : Int) := fun h => hin' ⟨h1, h2, h⟩
              go_wp2_with fail
              go_roundw
              case rel => exact ⟨i + 1, by omega, by go_num, hA2⟩
              case measure => simp [intOf]; omega
            · go_wp2_with fail
              go_roundw
              case rel => exact ⟨i + 1, by omega, by go_num, hA2⟩
              case measure => simp [intOf]; omega
          · go_wp2_with fail
            go_roundw
            case rel => exact ⟨i + 1, by omega, by go_num, hA2⟩
            case measure => simp [intOf]; omega
      · have hie : i = ks.length := by omega
        subst hie
        have hlt' : ¬ ((ks.length : Int) < (ks.length : Int)) := by omega
        have e0 := hA.2.1.cell (j := 0) rfl
        have e1 := hA.2.1.cell (j := 1) rfl
        have e2 := hA.2.1.frozen 0
        have e3 := hA.2.1.frozen 1
        have hT := hA.out (by omega) (by omega)
        rw [hu.1, hu.2] at hT
        have hZ := Blk2.put hA.2.1 (.slice om' t.1.length cm') (.slice ob' t.2.length cb')
        have hmZ := Mem2.put hA.2.2.2.2.2.2 (b := w.heap.size + 2) (by omega) (.slice om' t.1.length cm') (.slice ob' t.2.length cb')
        clear hA hu hu2
        go_wp2_with fail
        exact bodyPost_ret (ret_tab rfl _ _ rfl hZ) rfl ⟨⟨_, rfl, hT⟩, hmZ⟩
end Go.Proofs.Ytegamnaahipedaa.Replay
