/-
  ReplayTold, ReplayRefApply, ReplayRefFold: in one text (merge.json).
-/
import Derived.Test.YtedopplldpcinaaReplayNews
import Derived.Deep.DeepCutAuto
import Derived.Test.YtedopplldpcinaaScanLow
/-
  Layer 7: what a page tells of a key, and whether there is such a sector.
-/
namespace Go.Proofs.Ytedopplldpcinaa.Replay
open Go.RowKit Go.Proofs.Ytedopplldpcinaa.Scan

theorem toldT_data {p s : Int} {ks vs : List Int} {i : Nat} : toldT (p, 1, s, ks, vs) i = some p := rfl
theorem toldT_change {p s : Int} {ks vs : List Int} {i : Nat} (h : i < vs.length) : toldT (p, 2, s, ks, vs) i = some (vs.getD i 0) := by
  show vs[i]? = _
  simp [h]
theorem toldT_short {p s : Int} {ks vs : List Int} {i : Nat} (h : ¬ i < vs.length) : toldT (p, 2, s, ks, vs) i = none := by
  show vs[i]? = _
  simp; omega
theorem toldT_else {p k s : Int} {ks vs : List Int} {i : Nat} (h1 : k ≠ 1) (h2 : k ≠ 2) : toldT (p, k, s, ks, vs) i = none := by
  unfold toldT
  rw [if_neg h1, if_neg h2]
end Go.Proofs.Ytedopplldpcinaa.Replay
/-
  Layer 7, by the document: what a page tells, put into a table.
-/
namespace Go.Proofs.Ytedopplldpcinaa.Replay
open Go.RowKit Go.Proofs.Ytedopplldpcinaa.Scan

/-- what is asked of whoever applies a page to a table -/
def ApplySpec (F : Nat) : Prop := ∀ (t : TableT) (om ob : Option Addr) (cm cb : Nat) (p k s : Int) (ok ov : Option Addr) (ck cv : Nat) (ks vs : List Int) (w : World),
  Ints .i64 w (.slice om t.1.length cm) t.1 → Ints .i64 w (.slice ob t.2.length cb) t.2 → t.1.length ≤ 1000 → t.2.length ≤ 1000 → Ints .i64 w (.slice ok ks.length ck) ks → Ints .i64 w (.slice ov vs.length cv) vs →
  Calls Try.prog F #[.agg #[.slice om t.1.length cm, .slice ob t.2.length cb], .agg #[.int .i64 p, .int .i64 k, .int .i64 s, .slice ok ks.length ck, .slice ov vs.length cv]] w fun e w' => (∃ v, e = .returned v ∧ TabV (fun x => w.heap.size ≤ x) w' v (applyT t (p, k, s, ks, vs))) ∧ Mem w w'

/-- what Apply has in memory: f, the result, the table that is written into, its rows -/
def AppMem (w wr : World) (f : FoundT) (ok ov : Option Addr) (ck cv : Nat) (B gm gb : Nat) (om ob : Option Addr) (cm cb : Nat) (t : TableT) : Prop :=
  Blk wr (w.heap.size + 1) 67 #[.int .i64 f.1, .int .i64 f.2.1, .int .i64 f.2.2.1, .slice ok f.2.2.2.1.length ck, .slice ov f.2.2.2.2.length cv] ∧ Blk wr (w.heap.size + 2) 30 #[.slice none 0 0, .slice none 0 0] ∧
  Blk wr B 30 #[.slice om t.1.length cm, .slice ob t.2.length cb] ∧ RowAt wr gm om t.1 ∧ RowAt wr gb ob t.2 ∧ (w.heap.size + 3 ≤ gm ∧ w.heap.size + 3 ≤ gb ∧ w.heap.size + 3 ≤ B ∧ gm ≠ gb ∧ gm ≠ B ∧ gb ≠ B) ∧ Mem w wr
theorem AppMem.mem {w wr wr' : World} {f : FoundT} {ok ov : Option Addr} {ck cv B gm gb : Nat} {om ob : Option Addr} {cm cb : Nat} {t : TableT} (h : AppMem w wr f ok ov ck cv B gm gb om ob cm cb t) (m : Mem wr wr') : AppMem w wr' f ok ov ck cv B gm gb om ob cm cb t := by
  obtain ⟨h1, h2, h3, h4, h5, h6, h7⟩ := h
  exact ⟨h1.mem m, h2.mem m, h3.mem m, h4.mem m, h5.mem m, h6, h7.trans m⟩
theorem AppMem.put {w wr : World} {f : FoundT} {ok ov : Option Addr} {ck cv B gm gb : Nat} {om ob : Option Addr} {cm cb : Nat} {t : TableT} (h : AppMem w wr f ok ov ck cv B gm gb om ob cm cb t) (k : Nat) (x y : Int) :
    AppMem w ((wr.setCell ⟨gm, k, none⟩ (.int .i64 x)).setCell ⟨gb, k, none⟩ (.int .i64 y)) f ok ov ck cv B gm gb om ob cm cb (t.1.set k x, t.2.set k y) := by
  obtain ⟨h1, h2, h3, h4, h5, ⟨h6, h7, h8, h9, h10, h11⟩, h12⟩ := h
  refine ⟨?_, ?_, ?_, ?_, ?_, ⟨h6, h7, h8, h9, h10, h11⟩, ?_⟩
  · exact (h1.other (a := ⟨gm, k, none⟩) (by show w.heap.size + 1 ≠ gm; omega) _).other (a := ⟨gb, k, none⟩) (by show w.heap.size + 1 ≠ gb; omega) _
  · exact (h2.other (a := ⟨gm, k, none⟩) (by show w.heap.size + 2 ≠ gm; omega) _).other (a := ⟨gb, k, none⟩) (by show w.heap.size + 2 ≠ gb; omega) _
  · have := (h3.other (a := ⟨gm, k, none⟩) (by show B ≠ gm; omega) (.int .i64 x)).other (a := ⟨gb, k, none⟩) (by show B ≠ gb; omega) (.int .i64 y)
    simpa using this
  · exact (h4.set k x).other (p := ⟨gb, k, none⟩) (by show gm ≠ gb; omega) _
  · exact RowAt.set (h5.other (p := ⟨gm, k, none⟩) (by show gb ≠ gm; omega) _) k y
  · exact (h12.setCell (p := ⟨gm, k, none⟩) (by show w.heap.size ≤ gm; omega) _).setCell (p := ⟨gb, k, none⟩) (by show w.heap.size ≤ gb; omega) _
/-- how it begins -/
theorem AppMem.start {w wx : World} {f : FoundT} {ok ov : Option Addr} {ck cv B n1 n2 : Nat} {v1 v2 : Value} {t : TableT}
    (h1 : Blk wx (w.heap.size + 1) 67 #[.int .i64 f.1, .int .i64 f.2.1, .int .i64 f.2.2.1, .slice ok f.2.2.2.1.length ck, .slice ov f.2.2.2.2.length cv]) (h2 : Blk wx (w.heap.size + 2) 30 #[.slice none 0 0, .slice none 0 0]) (h3 : Blk wx B 30 #[v1, v2])
    (o1 : wx.ownsRow (w.heap.size + 3) 3 1 v1 n1 (icells t.1)) (o2 : wx.ownsRow (w.heap.size + 3) 3 1 v2 n2 (icells t.2)) (hne : v1.ownBlock = none ∨ v1.ownBlock ≠ v2.ownBlock) (hB : w.heap.size + 3 ≤ B) (hB1 : ∀ k, v1.ownBlock = some k → k ≠ B) (hB2 : ∀ k, v2.ownBlock = some k → k ≠ B) (hm : Mem w wx) :
    ∃ gm gb om ob cm cb, AppMem w wx f ok ov ck cv B gm gb om ob cm cb t := by
  have hn1 : t.1.length = n1 := by simpa [icells] using o1.1
  have hn2 : t.2.length = n2 := by simpa [icells] using o2.1
  subst hn1
  subst hn2
  have hlt := h3.lt
  obtain ⟨om, cm, gm, ob, cb, gb, rfl, rfl, r1, r2, c1, c2, c3, c4, c5⟩ := Two.rows (B := B) ⟨o1, o2, hne⟩ hlt hB1 hB2 (by omega)
  exact ⟨gm, gb, om, ob, cm, cb, h1, h2, h3, r1, r2, ⟨c1, c2, hB, c3, c4, c5⟩, hm⟩
theorem _root_.Go.Proofs.Ytedopplldpcinaa.Mem.size {a b : World} (h : Mem a b) : a.heap.size ≤ b.heap.size := Below.size h
theorem owns_put2 {w : World} {base : Nat} {e : TypeId} {size : Nat} {v : Value} {n : Nat} {xs : List Value} (h : w.ownsRow base e size v n xs) {b : Nat} (hb : ∀ k, v.ownBlock = some k → k ≠ b) (x0 x1 : Value) : ((w.setCell ⟨b, 0, none⟩ x0).setCell ⟨b, 1, none⟩ x1).ownsRow base e size v n xs := by
  obtain ⟨h1, h2⟩ := h
  refine ⟨h1, ?_⟩
  rcases h2 with h2 | ⟨g, cap, cur, rfl, hg, hh, r⟩
  · exact .inl h2
  · have hne : g ≠ b := hb g rfl
    refine .inr ⟨g, cap, cur, rfl, hg, ?_, r⟩
    rw [Below.heap_setCell _ _ _ g (by exact hne), Below.heap_setCell _ _ _ g (by exact hne)]
    exact hh
theorem rows_apart {w : World} {base : Nat} {e : TypeId} {size : Nat} {v v2 : Value} {n : Nat} {xs : List Value} (h : w.ownsRow base e size v n xs) (l : Lies w (.slice none 0 0) v2) : v.ownBlock = none ∨ v.ownBlock ≠ v2.ownBlock := by
  cases hv : v.ownBlock with
  | none => exact .inl rfl
  | some g =>
    refine .inr fun e => ?_
    have hlt := (h.lt g hv).2
    rcases l with l | ⟨g', l, hge⟩
    · rw [l] at e; cases e
    · rw [l] at e
      injection e with e
      omega
theorem lies_le {w : World} {v : Value} (l : Lies w (.slice none 0 0) v) (k : Nat) (hk : v.ownBlock = some k) : w.heap.size ≤ k := by
  rcases l with l | ⟨g, l, hge⟩
  · rw [l] at hk; cases hk
  · rw [l] at hk
    injection hk with hk
    omega
theorem new_lt (w : World) (o : Obj) : w.heap.size < (w.alloc o).heap.size := by simp
theorem lies_new {w : World} {o : Obj} {v : Value} (l : Lies (w.alloc o) (.slice none 0 0) v) (k : Nat) (hk : v.ownBlock = some k) : w.heap.size < k := Nat.lt_of_lt_of_le (new_lt w o) (lies_le l k hk)
theorem grown_none {w w' : World} (h : w.grownBy w' none) : Mem w w' := ⟨h.os, h.tape, h.output, h.size, fun k hk => h.block k hk (by simp)⟩
/-- what comes out -/
theorem AppMem.out {w wr : World} {f : FoundT} {ok ov : Option Addr} {ck cv B gm gb : Nat} {om ob : Option Addr} {cm cb : Nat} {t : TableT} (h : AppMem w wr f ok ov ck cv B gm gb om ob cm cb t) (h1 : t.1.length ≤ 1000) (h2 : t.2.length ≤ 1000) :
    TabV (fun x => w.heap.size ≤ x) ((wr.setCell ⟨w.heap.size + 2, 0, none⟩ (.slice om t.1.length cm)).setCell ⟨w.heap.size + 2, 1, none⟩ (.slice ob t.2.length cb)) (.agg #[.slice om t.1.length cm, .slice ob t.2.length cb]) t := by
  obtain ⟨_, _, _, h4, h5, ⟨h6, h7, _⟩, _⟩ := h
  have i1 := IntsIn.row (S := fun x => w.heap.size + 3 ≤ x) h4 (by unfold maxLen; omega) h6 cm
  have i2 := IntsIn.row (S := fun x => w.heap.size + 3 ≤ x) h5 (by unfold maxLen; omega) h7 cb
  have t0 : TabV (fun x => w.heap.size + 3 ≤ x) wr (.agg #[.slice om t.1.length cm, .slice ob t.2.length cb]) t := ⟨om, cm, ob, cb, rfl, i1, i2⟩
  exact (t0.put2 (b := w.heap.size + 2) (by omega) _ _).mono fun g hg _ => by omega

/-- the cells that a round reads -/
theorem hold {w' : World} {F B n m n' m' : Nat} {p k s : Int} {ok ov om ob : Option Addr} {ck cv cm cb nk nv : Nat} (h : Blk w' F 67 #[.int .i64 p, .int .i64 k, .int .i64 s, .slice ok nk ck, .slice ov nv cv]) (h' : Blk w' B 30 #[.slice om n' cm, .slice ob m' cb]) (hn : n' = n) (hm : m' = m) :
    w'.cell? ⟨F, 0, none⟩ = some (.int .i64 p) ∧ w'.cell? ⟨F, 1, none⟩ = some (.int .i64 k) ∧ w'.cell? ⟨F, 4, none⟩ = some (.slice ov nv cv) ∧ w'.cell? ⟨B, 0, none⟩ = some (.slice om n cm) ∧ w'.cell? ⟨B, 1, none⟩ = some (.slice ob m cb) := by
  subst hn
  subst hm
  exact ⟨h.cell (j := 0) rfl, h.cell (j := 1) rfl, h.cell (j := 4) rfl, h'.cell (j := 0) rfl, h'.cell (j := 1) rfl⟩
set_option maxHeartbeats 4000000 in
set_option maxRecDepth 100000 in
theorem refApply : ApplySpec 22 := by
  intro t om ob cm cb p k s ok ov ck cv ks vs w ht1 ht2 hl1 hl2 hks hvs
  have hb0 : Blk (((w.alloc (.cells #[.slice om t.1.length cm, .slice ob t.2.length cb] 30)).alloc (.cells #[.int .i64 p, .int .i64 k, .int .i64 s, .slice ok ks.length ck, .slice ov vs.length cv] 67)).alloc (.cells #[.slice none 0 0, .slice none 0 0] 30)) w.heap.size 30 #[.slice om t.1.length cm, .slice ob t.2.length cb] := ((Blk.new w _ _).alloc _).alloc _
  have hb1 : Blk (((w.alloc (.cells #[.slice om t.1.length cm, .slice ob t.2.length cb] 30)).alloc (.cells #[.int .i64 p, .int .i64 k, .int .i64 s, .slice ok ks.length ck, .slice ov vs.length cv] 67)).alloc (.cells #[.slice none 0 0, .slice none 0 0] 30)) (w.heap.size + 1) 67 #[.int .i64 p, .int .i64 k, .int .i64 s, .slice ok ks.length ck, .slice ov vs.length cv] := by
    have := (Blk.new (w.alloc (.cells #[.slice om t.1.length cm, .slice ob t.2.length cb] 30)) #[.int .i64 p, .int .i64 k, .int .i64 s, .slice ok ks.length ck, .slice ov vs.length cv] 67).alloc (.cells #[.slice none 0 0, .slice none 0 0] 30)
    simpa using this
  have hb2 : Blk (((w.alloc (.cells #[.slice om t.1.length cm, .slice ob t.2.length cb] 30)).alloc (.cells #[.int .i64 p, .int .i64 k, .int .i64 s, .slice ok ks.length ck, .slice ov vs.length cv] 67)).alloc (.cells #[.slice none 0 0, .slice none 0 0] 30)) (w.heap.size + 2) 30 #[.slice none 0 0, .slice none 0 0] := by
    have := Blk.new ((w.alloc (.cells #[.slice om t.1.length cm, .slice ob t.2.length cb] 30)).alloc (.cells #[.int .i64 p, .int .i64 k, .int .i64 s, .slice ok ks.length ck, .slice ov vs.length cv] 67)) #[.slice none 0 0, .slice none 0 0] 30
    simpa using this
  have hm : Mem w (((w.alloc (.cells #[.slice om t.1.length cm, .slice ob t.2.length cb] 30)).alloc (.cells #[.int .i64 p, .int .i64 k, .int .i64 s, .slice ok ks.length ck, .slice ov vs.length cv] 67)).alloc (.cells #[.slice none 0 0, .slice none 0 0] 30)) := (((Mem.refl w).alloc _).alloc _).alloc _
  have hsz : (((w.alloc (.cells #[.slice om t.1.length cm, .slice ob t.2.length cb] 30)).alloc (.cells #[.int .i64 p, .int .i64 k, .int .i64 s, .slice ok ks.length ck, .slice ov vs.length cv] 67)).alloc (.cells #[.slice none 0 0, .slice none 0 0] 30)).heap.size = w.heap.size + 3 := by simp
  replace ht1 := ht1.mem hm
  replace ht2 := ht2.mem hm
  go_enter Try.func22, Try.ntmps22
  go_wp2_with fail
  generalize ((w.alloc (.cells #[.slice om t.1.length cm, .slice ob t.2.length cb] 30)).alloc (.cells #[.int .i64 p, .int .i64 k, .int .i64 s, .slice ok ks.length ck, .slice ov vs.length cv] 67)).alloc (.cells #[.slice none 0 0, .slice none 0 0] 30) = W at *
  go_cut [5] (fun a wx => ∃ B gm gb om' ob' cm' cb', a = .pointer (some ⟨B, 0, none⟩) ∧ AppMem w wx (p, k, s, ks, vs) ok ov ck cv B gm gb om' ob' cm' cb' t ∧ Mem W wx)
  case first =>
    have HSZ := hide hsz
    clear hsz
    have x0 := hb0.cell (j := 0) rfl
    have x1 := hb0.cell (j := 1) rfl
    have HK : Hid (∀ w', Mem W w' → w'.cell? ⟨w.heap.size, 0, none⟩ = some (.slice om t.1.length cm) ∧ w'.cell? ⟨w.heap.size, 1, none⟩ = some (.slice ob t.2.length cb)) := fun w' h => ⟨(hb0.mem h).cell (j := 0) rfl, (hb0.mem h).cell (j := 1) rfl⟩
    have H1 := hide (fun (w' : World) (h : Mem W w') => ht1.mem h)
    have H2 := hide (fun (w' : World) (h : Mem W w') => ht2.mem h)
    have N0 := hide (Mem.drew (Mem.refl W))
    have N0a := hide (Mem.drew (Mem.alloc (Mem.refl W) (.cells #[.slice none 0 0, .slice none 0 0] 30)))
    go_region_held3 (fun w' => w'.cell? ⟨w.heap.size, 0, none⟩ = some (.slice om t.1.length cm) ∧ w'.cell? ⟨w.heap.size, 1, none⟩ = some (.slice ob t.2.length cb))
      (first | with_reducible exact HK.out _ N0.out | with_reducible exact HK.out _ N0a.out | with_reducible exact HK.out _ N1.out | with_reducible exact HK.out _ N2.out | with_reducible exact HK.out _ (Mem.alloc N0.out _) | with_reducible exact HK.out _ (Mem.alloc N1.out _) | with_reducible exact HK.out _ (Mem.alloc N2.out _) | exact HK.out _ (Mem2.put N2.out (Nat.le_refl _) _ _) | exact HK.out _ (Mem2.put N2.out N1.out.size _ _) | go_keep)
      (first
        | ((refine step_pushAll rfl _ _ rfl (w.heap.size + 3) _ rfl (World.ownsRow_nil _ _ _ _) _ t.1 rfl (H1.out _ (N0.out)) hl1 (Nat.le_trans (Nat.le_of_eq HSZ.out.symm) (Mem.size (N0.out))) ?_; intro v1 w1 o1 g1 l1; obtain ⟨om1, cm1, rfl⟩ := owns_shape o1; have N1 := hide (Mem.trans (N0.out) (grown_none g1))))
        | ((refine step_pushAll rfl _ _ rfl (w.heap.size + 3) _ rfl (World.ownsRow_nil _ _ _ _) _ t.1 rfl (H1.out _ (N0a.out)) hl1 (Nat.le_trans (Nat.le_of_eq HSZ.out.symm) (Mem.size (N0a.out))) ?_; intro v1 w1 o1 g1 l1; obtain ⟨om1, cm1, rfl⟩ := owns_shape o1; have N1 := hide (Mem.trans (N0a.out) (grown_none g1)); have bA := Blk.mem (Blk.drew (Blk.new W #[.slice none 0 0, .slice none 0 0] 30)) (grown_none g1)))
        | ((refine step_pushAll rfl _ _ rfl (w.heap.size + 3) _ rfl (World.ownsRow_nil _ _ _ _) _ t.2 rfl (H2.out _ (N1.out)) hl2 (Nat.le_trans (Nat.le_of_eq HSZ.out.symm) (Mem.size (N1.out))) ?_; intro v2 w2 o2 g2 l2; obtain ⟨om2, cm2, rfl⟩ := owns_shape o2; have N2 := hide (Mem.trans (N1.out) (grown_none g2)); have bB := Blk.mem bA (grown_none g2); have q0 := bB.cell (j := 0) rfl; have q1 := bB.cell (j := 1) rfl; have q2 := bB.frozen 0; have q3 := bB.frozen 1))
        | ((refine step_pushAll rfl _ _ rfl (w.heap.size + 3) _ rfl (World.ownsRow_nil _ _ _ _) _ t.2 rfl (H2.out _ (N1.out)) hl2 (Nat.le_trans (Nat.le_of_eq HSZ.out.symm) (Mem.size (N1.out))) ?_; intro v2 w2 o2 g2 l2; obtain ⟨om2, cm2, rfl⟩ := owns_shape o2; have N2 := hide (Mem.trans (N1.out) (grown_none g2))))
        | ((refine step_pushAll rfl _ _ rfl (w.heap.size + 3) _ rfl (World.ownsRow_nil _ _ _ _) _ t.2 rfl (H2.out _ (Mem.alloc N1.out _)) hl2 (Nat.le_trans (Nat.le_of_eq HSZ.out.symm) (Mem.size (Mem.alloc N1.out _))) ?_; intro v2 w2 o2 g2 l2; obtain ⟨om2, cm2, rfl⟩ := owns_shape o2; have N2 := hide (Mem.trans (Mem.alloc N1.out _) (grown_none g2)); have bB := Blk.mem (Blk.new w1 #[.slice none 0 0, .slice none 0 0] 30) (grown_none g2); have q0 := bB.cell (j := 0) rfl; have q1 := bB.cell (j := 1) rfl; have q2 := bB.frozen 0; have q3 := bB.frozen 1)))
    · have m3 := N2.out.alloc (.cells #[.slice om1 t.1.length cm1, .slice om2 t.2.length cm2] 30)
      have mo := (grown_none g2).alloc (.cells #[.slice om1 t.1.length cm1, .slice om2 t.2.length cm2] 30)
      have hne := rows_apart o1 l2
      have hst := AppMem.start (f := (p, k, s, ks, vs)) (t := t) (hb1.mem m3) (hb2.mem m3) (Blk.new w2 #[.slice om1 t.1.length cm1, .slice om2 t.2.length cm2] 30) (owns_below o1 mo) (owns_below o2 ((Mem.refl w2).alloc _)) hne (Nat.le_trans (Nat.le_of_eq HSZ.out.symm) N2.out.size) (fun k hk => Nat.ne_of_lt (Nat.lt_of_lt_of_le (o1.lt k hk).2 (grown_none g2).size)) (fun k hk => Nat.ne_of_lt (o2.lt k hk).2) (hm.trans m3)
      (try go_wp2_with fail)
      go_meet
      obtain ⟨gm, gb, om', ob', cm', cb', hA⟩ := hst
      exact ⟨_, gm, gb, om', ob', cm', cb', rfl, hA, m3⟩
    · have m3 := Mem2.put N2.out (b := w1.heap.size) N1.out.size (.slice om1 t.1.length cm1) (.slice om2 t.2.length cm2)
      have hst := AppMem.start (f := (p, k, s, ks, vs)) (t := t) (hb1.mem m3) (hb2.mem m3) (Blk2.put bB (.slice om1 t.1.length cm1) (.slice om2 t.2.length cm2)) (owns_put2 (owns_below o1 (Mem.trans ((Mem.refl w1).alloc _) (grown_none g2))) (fun k hk => Nat.ne_of_lt (o1.lt k hk).2) _ _) (owns_put2 o2 (fun k hk => Nat.ne_of_gt (lies_new (w := w1) (o := .cells #[.slice none 0 0, .slice none 0 0] 30) l2 k hk)) _ _) (rows_apart (o1.alloc _) l2) (Nat.le_trans (Nat.le_of_eq HSZ.out.symm) N1.out.size) (fun k hk => Nat.ne_of_lt (o1.lt k hk).2) (fun k hk => Nat.ne_of_gt (lies_new (w := w1) (o := .cells #[.slice none 0 0, .slice none 0 0] 30) l2 k hk)) (hm.trans m3)
      (try go_wp2_with fail)
      go_meet
      obtain ⟨gm, gb, om', ob', cm', cb', hA⟩ := hst
      exact ⟨_, gm, gb, om', ob', cm', cb', rfl, hA, m3⟩
    · have m3 := Mem2.put N2.out (b := W.heap.size) (Nat.le_refl _) (.slice om1 t.1.length cm1) (.slice om2 t.2.length cm2)
      have hst := AppMem.start (f := (p, k, s, ks, vs)) (t := t) (hb1.mem m3) (hb2.mem m3) (Blk2.put bB (.slice om1 t.1.length cm1) (.slice om2 t.2.length cm2)) (owns_put2 (owns_below o1 (grown_none g2)) (fun k hk => Nat.ne_of_gt (lies_new l1 k hk)) _ _) (owns_put2 o2 (fun k hk => Nat.ne_of_gt (Nat.lt_of_lt_of_le (Nat.lt_of_lt_of_le (new_lt W _) (grown_none g1).size) (lies_le l2 k hk))) _ _) (rows_apart o1 l2) (Nat.le_of_eq HSZ.out.symm) (fun k hk => Nat.ne_of_gt (lies_new l1 k hk)) (fun k hk => Nat.ne_of_gt (Nat.lt_of_lt_of_le (Nat.lt_of_lt_of_le (new_lt W _) (grown_none g1).size) (lies_le l2 k hk))) (hm.trans m3)
      (try go_wp2_with fail)
      go_meet
      obtain ⟨gm, gb, om', ob', cm', cb', hA⟩ := hst
      exact ⟨_, gm, gb, om', ob', cm', cb', rfl, hA, m3⟩
  case rest =>
    obtain ⟨B, gm, gb, om', ob', cm', cb', rfl, hA, mW⟩ := hcut
    clear hb0 hb1 hb2 hm ht1 ht2 mW
    go_wp2_with fail
    go_loopw [6] (fun a wr => ∃ i : Nat, i ≤ ks.length ∧ a = .int .i64 i ∧ AppMem w wr (p, k, s, ks, vs) ok ov ck cv B gm gb om' ob' cm' cb' (applyN (p, k, s, ks, vs) t i)) (fun a _ => ks.length - (intOf a).toNat)
    case atStart => exact ⟨0, Nat.zero_le _, rfl, hA⟩
    case round =>
      clear hA
      obtain ⟨i, hi, rfl, hA⟩ := hrel
      have hu := applyN_len (p, k, s, ks, vs) t i
      have hu2 := applyN_len (p, k, s, ks, vs) t (i + 1)
      have hkl := hks.1
      unfold maxLen at hkl
      have f0 := hA.1.cell (j := 0) rfl
      have f1 := hA.1.cell (j := 1) rfl
      have f3 := hA.1.cell (j := 3) rfl
      have f4 := hA.1.cell (j := 4) rfl
      have b0 := hA.2.2.1.cell (j := 0) rfl
      have b1 := hA.2.2.1.cell (j := 1) rfl
      simp only [List.getElem_toArray, List.getElem_cons_zero, List.getElem_cons_succ, hu.1, hu.2] at f0 f1 f3 f4 b0 b1
      by_cases hlt : i < ks.length
      · have hlt' : (i : Int) < (ks.length : Int) := by omega
        have hi0 : (0 : Int) ≤ (i : Int) := by omega
        obtain ⟨kb, ko, rfl, hc⟩ := (hks.mem hA.2.2.2.2.2.2).at (by omega)
        have c0 := hc i hlt
        clear hc
        have HX := hide (rfl : ks.getD i 0 = ks.getD i 0)
        have HO : Hid (isSec (applyN (p, k, s, ks, vs) t i) (ks.getD i 0) = false → applyN (p, k, s, ks, vs) t (i + 1) = applyN (p, k, s, ks, vs) t i) := fun h => stepT_out h
        have HNone : Hid (toldT (p, k, s, ks, vs) i = none → applyN (p, k, s, ks, vs) t (i + 1) = applyN (p, k, s, ks, vs) t i) := fun h => stepT_none _ h
        generalize hx : ks.getD i 0 = x at c0 HO
        by_cases hin : isSec (applyN (p, k, s, ks, vs) t i) x = true
        · clear HO
          rw [isSec_iff, hu.1, hu.2] at hin
          obtain ⟨hx0, hx1, hx2⟩ := hin
          obtain ⟨j, rfl⟩ : ∃ j : Nat, x = (j : Int) := ⟨x.toNat, by omega⟩
          replace HX := hide hx
          clear hx
          have ho1 := hA.2.2.2.1.addr (by omega)
          have ho2 := hA.2.2.2.2.1.addr (by omega)
          subst ho1
          subst ho2
          have hfg1 : w.heap.size + 1 ≠ gm := by have := hA.2.2.2.2.2.1; omega
          have HS0 := hide (hold (w' := wr.drew) hA.1 hA.2.2.1 hu.1 hu.2)
          have hvc := hvs.mem hA.2.2.2.2.2.2
          by_cases h1 : k = 1
          · subst h1
            have hA2 := hA.put j p p
            have HN : Hid (applyN ((p, 1, s, ks, vs) : FoundT) t (i + 1) = ((applyN ((p, 1, s, ks, vs) : FoundT) t i).1.set j p, (applyN ((p, 1, s, ks, vs) : FoundT) t i).2.set j p)) := by
              show stepT ((p, 1, s, ks, vs) : FoundT) _ i = _
              rw [stepT_in (v := p) toldT_data (by show isSec _ (ks.getD i 0) = true; rw [HX.out, isSec_iff]; omega)]
              show (_, _) = _
              rw [show (((p, 1, s, ks, vs) : FoundT) : FoundT).2.2.2.1.getD i 0 = (j : Int) from HX.out]
              rfl
            rw [← HN.out] at hA2
            have r0 := hA.2.2.2.1.cell (k := j) (by omega)
            have r1 := hA.2.2.2.1.frozen (by omega) j
            have r2 := hA.2.2.2.2.1.cell (k := j) (by omega)
            have r3 := hA.2.2.2.2.1.frozen (by omega) j
            obtain ⟨_, _, _, hg1, hg2, hg3⟩ := hA.2.2.2.2.2.1
            have hR2 := hA.2.2.2.2.1.other (p := ⟨gm, j, none⟩) (Ne.symm hg1) (.int .i64 p)
            have r4 := hR2.cell (k := j) (by omega)
            have r5 := hR2.frozen (by omega) j
            have HS1 := hide (hold (w' := (wr.setCell ⟨gm, j, none⟩ (.int .i64 p)).drew) (hA.1.other (a := ⟨gm, j, none⟩) hfg1 (.int .i64 p)) (hA.2.2.1.other (a := ⟨gm, j, none⟩) (Ne.symm hg2) (.int .i64 p)) hu.1 hu.2)
            have HS2 := hide (hold hA2.1.drew hA2.2.2.1.drew hu2.1 hu2.2)
            have HA2 := hide (hA2.mem (Mem.drew (Mem.refl _)))
            clear hA hA2 hR2 hvc
            go_wp2_with fail
            go_region_held3 (fun w' => w'.cell? ⟨w.heap.size + 1, 0, none⟩ = some (.int .i64 p) ∧ w'.cell? ⟨w.heap.size + 1, 1, none⟩ = some (.int .i64 1) ∧ w'.cell? ⟨w.heap.size + 1, 4, none⟩ = some (.slice ov vs.length cv) ∧ w'.cell? ⟨B, 0, none⟩ = some (.slice (some ⟨gm, 0, none⟩) t.1.length cm') ∧ w'.cell? ⟨B, 1, none⟩ = some (.slice (some ⟨gb, 0, none⟩) t.2.length cb'))
              (first | with_reducible exact HS0.out | with_reducible exact HS1.out | with_reducible exact HS2.out)
              (fail)
            go_wp2_with fail
            go_roundw
            case rel => exact ⟨i + 1, by omega, by go_num, HA2.out⟩
            case measure => simp [intOf]; omega
          by_cases h2 : k = 2
          · subst h2
            by_cases h3 : i < vs.length
            · have h3' : (i : Int) < (vs.length : Int) := by omega
              obtain ⟨vb, vo, rfl, hvc'⟩ := hvs.at (by omega)
              have hv0 := hvc' i h3
              have HV := hide (toldT_change (p := p) (s := s) (ks := ks) h3)
              clear hvc'
              generalize vs.getD i 0 = y at hv0 HV
              have HV0 : Hid (∀ w', Mem w w' → w'.cell? ⟨vb, vo + i, none⟩ = some (.int .i64 y)) := fun w' h => (Below.cell h (p := ⟨vb, vo + i, none⟩) (World.block_lt_of_cell? w _ hv0)).trans hv0
              have v0 := HV0.out wr hA.2.2.2.2.2.2
              replace HS0 := hide (And.intro (HV0.out wr.drew (hA.2.2.2.2.2.2.drew)) HS0.out)
              have hA2 := hA.put j y p
              have HN : Hid (applyN ((p, 2, s, ks, vs) : FoundT) t (i + 1) = ((applyN ((p, 2, s, ks, vs) : FoundT) t i).1.set j y, (applyN ((p, 2, s, ks, vs) : FoundT) t i).2.set j p)) := by
                show stepT ((p, 2, s, ks, vs) : FoundT) _ i = _
                rw [stepT_in (v := y) HV.out (by show isSec _ (ks.getD i 0) = true; rw [HX.out, isSec_iff]; omega)]
                show (_, _) = _
                rw [show (((p, 2, s, ks, vs) : FoundT) : FoundT).2.2.2.1.getD i 0 = (j : Int) from HX.out]
                rfl
              rw [← HN.out] at hA2
              have r0 := hA.2.2.2.1.cell (k := j) (by omega)
              have r1 := hA.2.2.2.1.frozen (by omega) j
              have r2 := hA.2.2.2.2.1.cell (k := j) (by omega)
              have r3 := hA.2.2.2.2.1.frozen (by omega) j
              obtain ⟨hgm, _, _, hg1, hg2, hg3⟩ := hA.2.2.2.2.2.1
              have hR2 := hA.2.2.2.2.1.other (p := ⟨gm, j, none⟩) (Ne.symm hg1) (.int .i64 y)
              have r4 := hR2.cell (k := j) (by omega)
              have r5 := hR2.frozen (by omega) j
              have HS1 := hide (And.intro (HV0.out (wr.setCell ⟨gm, j, none⟩ (.int .i64 y)).drew ((hA.2.2.2.2.2.2.setCell (p := ⟨gm, j, none⟩) (by show w.heap.size ≤ gm; omega) (.int .i64 y)).drew)) (hold (w' := (wr.setCell ⟨gm, j, none⟩ (.int .i64 y)).drew) (hA.1.other (a := ⟨gm, j, none⟩) hfg1 (.int .i64 y)) (hA.2.2.1.other (a := ⟨gm, j, none⟩) (Ne.symm hg2) (.int .i64 y)) hu.1 hu.2))
              have HS2 := hide (And.intro (HV0.out _ (hA2.2.2.2.2.2.2.drew)) (hold hA2.1.drew hA2.2.2.1.drew hu2.1 hu2.2))
              have HA2 := hide (hA2.mem (Mem.drew (Mem.refl _)))
              clear hA hA2 hR2 hvc
              go_wp2_with fail
              go_region_held3 (fun w' => w'.cell? ⟨vb, vo + i, none⟩ = some (.int .i64 y) ∧ w'.cell? ⟨w.heap.size + 1, 0, none⟩ = some (.int .i64 p) ∧ w'.cell? ⟨w.heap.size + 1, 1, none⟩ = some (.int .i64 2) ∧ w'.cell? ⟨w.heap.size + 1, 4, none⟩ = some (.slice (some ⟨vb, vo, none⟩) vs.length cv) ∧ w'.cell? ⟨B, 0, none⟩ = some (.slice (some ⟨gm, 0, none⟩) t.1.length cm') ∧ w'.cell? ⟨B, 1, none⟩ = some (.slice (some ⟨gb, 0, none⟩) t.2.length cb'))
                (first | with_reducible exact HS0.out | with_reducible exact HS1.out | with_reducible exact HS2.out)
                (fail)
              go_wp2_with fail
              go_roundw
              case rel => exact ⟨i + 1, by omega, by go_num, HA2.out⟩
              case measure => simp [intOf]; omega
            · have h3' : ¬ ((i : Int) < (vs.length : Int)) := by omega
              have hA2 : AppMem w wr (p, 2, s, ks, vs) (some ⟨kb, ko, none⟩) ov ck cv B gm gb (some ⟨gm, 0, none⟩) (some ⟨gb, 0, none⟩) cm' cb' (applyN (p, 2, s, ks, vs) t (i + 1)) := by rw [HNone.out (toldT_short h3)]; exact hA
              clear hA hu hu2 HNone
              go_wp2_with fail
              go_roundw
              case rel => exact ⟨i + 1, by omega, by go_num, hA2⟩
              case measure => simp [intOf]; omega
          · have hA2 : AppMem w wr (p, k, s, ks, vs) (some ⟨kb, ko, none⟩) ov ck cv B gm gb (some ⟨gm, 0, none⟩) (some ⟨gb, 0, none⟩) cm' cb' (applyN (p, k, s, ks, vs) t (i + 1)) := by rw [HNone.out (toldT_else h1 h2)]; exact hA
            clear hA hu hu2 HNone
            go_wp2_with fail
            go_roundw
            case rel => exact ⟨i + 1, by omega, by go_num, hA2⟩
            case measure => simp [intOf]; omega
        · have HE := hide (HO.out (by simpa using hin))
          have hin' : ¬ (0 ≤ x ∧ x < (t.1.length : Int) ∧ x < (t.2.length : Int)) := by
            rw [isSec_iff, hu.1, hu.2] at hin
            exact hin
          clear HO HNone HX hx hin
          have hA2 : AppMem w wr (p, k, s, ks, vs) (some ⟨kb, ko, none⟩) ov ck cv B gm gb om' ob' cm' cb' (applyN (p, k, s, ks, vs) t (i + 1)) := by rw [HE.out]; exact hA
          clear HE hu hu2 hA
          by_cases h1 : 0 ≤ x
          · by_cases h2 : x < (t.1.length : Int)
            · have h3 : ¬ x < (t.2.length : Int) := fun h => hin' ⟨h1, h2, h⟩
              go_wp2_with fail
              go_roundw
              case rel => exact ⟨i + 1, by omega, by go_num, hA2⟩
              case measure => simp [intOf]; omega
            · go_wp2_with fail
              go_roundw
              case rel => exact ⟨i + 1, by omega, by go_num, hA2⟩
              case measure => simp [intOf]; omega
          · go_wp2_with fail
            go_roundw
            case rel => exact ⟨i + 1, by omega, by go_num, hA2⟩
            case measure => simp [intOf]; omega
      · have hie : i = ks.length := by omega
        subst hie
        have hlt' : ¬ ((ks.length : Int) < (ks.length : Int)) := by omega
        have e0 := hA.2.1.cell (j := 0) rfl
        have e1 := hA.2.1.cell (j := 1) rfl
        have e2 := hA.2.1.frozen 0
        have e3 := hA.2.1.frozen 1
        have hT := hA.out (by omega) (by omega)
        rw [hu.1, hu.2] at hT
        have hZ := Blk2.put hA.2.1 (.slice om' t.1.length cm') (.slice ob' t.2.length cb')
        have hmZ := Mem2.put hA.2.2.2.2.2.2 (b := w.heap.size + 2) (by omega) (.slice om' t.1.length cm') (.slice ob' t.2.length cb')
        clear hA hu hu2
        go_wp2_with fail
        exact bodyPost_ret (ret_tab rfl _ _ rfl hZ) rfl ⟨⟨_, rfl, hT⟩, hmZ⟩
end Go.Proofs.Ytedopplldpcinaa.Replay
/-
  Layer 7, the document: all that a chip's pages tell, put into a table; the Seq of the next page.
-/
namespace Go.Proofs.Ytedopplldpcinaa.Replay
open Go.RowKit Go.Proofs.Ytedopplldpcinaa.Scan Go.Proofs.Ytedopplldpcinaa.Nand

/-- the Seq behind f's, or n, if that is more -/
def nextT (n : Int) (f : FoundT) : Int := max n (wrap64 (f.2.2.1 + 1))
def seqT (fs : List FoundT) (n : Int) : Int := fs.foldl nextT n
theorem seqT_take (fs : List FoundT) (n : Int) {k : Nat} (h : k < fs.length) : seqT (fs.take (k + 1)) n = nextT (seqT (fs.take k) n) fs[k] := by
  unfold seqT
  rw [List.take_succ_eq_append_getElem h, List.foldl_append]
  rfl
/-- what is asked of whoever replays a chip -/
def ReplaySpec (F : Nat) : Prop := ∀ (S : Nat → Prop) (vb : Value) (bs : List BlockT) (br off : Bool) (ops n : Int) (w : World), BlocksAt S w vb bs → Few bs → (∀ b ∈ bs, ∀ p ∈ b.1, p.2.2.size ≤ maxLen) →
  Calls Try.prog F #[chipV vb br off ops, .int .i64 n] w fun e w' => (∃ v, e = .returned (.tuple #[v, .int .i64 (seqT (allC bs) 0)]) ∧ TabV (fun x => w.heap.size ≤ x) w' v (foldT (allC bs) (newT n))) ∧ Mem w w'

/-- a variable, at block B, that has the table t -/
def TabAt (S : Nat → Prop) (w : World) (B : Nat) (t : TableT) : Prop :=
  ∃ om cm ob cb, Blk w B 30 #[.slice om t.1.length cm, .slice ob t.2.length cb] ∧ IntsIn S w (.slice om t.1.length cm) t.1 ∧ IntsIn S w (.slice ob t.2.length cb) t.2
theorem TabAt.of {S : Nat → Prop} {w : World} {B : Nat} {t : TableT} {om ob : Option Addr} {cm cb : Nat} (hB : Blk w B 30 #[.slice om t.1.length cm, .slice ob t.2.length cb]) (h : TabV S w (.agg #[.slice om t.1.length cm, .slice ob t.2.length cb]) t) : TabAt S w B t := by
  obtain ⟨om', cm', ob', cb', e, h1, h2⟩ := h
  simp only [Value.agg.injEq, Array.mk.injEq, List.cons.injEq, Value.slice.injEq, true_and, and_true] at e
  obtain ⟨⟨rfl, rfl⟩, rfl, rfl⟩ := e
  exact ⟨om, cm, ob, cb, hB, h1, h2⟩
theorem TabAt.mem {S : Nat → Prop} {w w' : World} {B : Nat} {t : TableT} (h : TabAt S w B t) (m : Mem w w') : TabAt S w' B t := by
  obtain ⟨om, cm, ob, cb, h0, h1, h2⟩ := h
  exact ⟨om, cm, ob, cb, h0.mem m, h1.mem m, h2.mem m⟩
theorem TabAt.val {S : Nat → Prop} {w : World} {B : Nat} {t : TableT} (_ : TabAt S w B t) {om ob : Option Addr} {cm cb : Nat} (_ : Blk w B 30 #[.slice om t.1.length cm, .slice ob t.2.length cb]) (h1 : IntsIn S w (.slice om t.1.length cm) t.1) (h2 : IntsIn S w (.slice ob t.2.length cb) t.2) : TabV S w (.agg #[.slice om t.1.length cm, .slice ob t.2.length cb]) t := ⟨om, cm, ob, cb, rfl, h1, h2⟩
theorem TabAt.store {S : Nat → Prop} {w : World} {B : Nat} {t : TableT} {a0 a1 : Value} {om ob : Option Addr} {cm cb : Nat} (hB : Blk w B 30 #[a0, a1]) (h : TabV S w (.agg #[.slice om t.1.length cm, .slice ob t.2.length cb]) t) (hS : ¬ S B) :
    TabAt S ((w.setCell ⟨B, 0, none⟩ (.slice om t.1.length cm)).setCell ⟨B, 1, none⟩ (.slice ob t.2.length cb)) B t := TabAt.of (Blk2.put hB _ _) (h.put2 hS _ _)
set_option maxHeartbeats 2000000 in
set_option maxRecDepth 100000 in
theorem refReplay : ReplaySpec 7 := by
  intro S vb bs br off ops n w hb hf hsz
  obtain ⟨oa, ca, rfl⟩ := hb.shape
  have hm : Mem w ((w.alloc (.cells #[.slice oa bs.length ca, .bool br, .bool off, .int .i64 ops] 26)).alloc (.cells #[.slice none 0 0, .slice none 0 0] 30)) := ((Mem.refl w).alloc _).alloc _
  have hC : Blk ((w.alloc (.cells #[.slice oa bs.length ca, .bool br, .bool off, .int .i64 ops] 26)).alloc (.cells #[.slice none 0 0, .slice none 0 0] 30)) w.heap.size 26 #[.slice oa bs.length ca, .bool br, .bool off, .int .i64 ops] := (Blk.new w _ _).alloc _
  have hR : Blk ((w.alloc (.cells #[.slice oa bs.length ca, .bool br, .bool off, .int .i64 ops] 26)).alloc (.cells #[.slice none 0 0, .slice none 0 0] 30)) (w.heap.size + 1) 30 #[.slice none 0 0, .slice none 0 0] := by
    have := Blk.new (w.alloc (.cells #[.slice oa bs.length ca, .bool br, .bool off, .int .i64 ops] 26)) #[.slice none 0 0, .slice none 0 0] 30
    simpa using this
  have hs0 : w.heap.size + 2 ≤ ((w.alloc (.cells #[.slice oa bs.length ca, .bool br, .bool off, .int .i64 ops] 26)).alloc (.cells #[.slice none 0 0, .slice none 0 0] 30)).heap.size := by simp
  replace hb := hb.mem hm
  have HF := hide hf
  have HSZ := hide hsz
  have hn := newT_len n
  have hn2 := cutN_le n
  have hl1 : (newT n).1.length ≤ 1000 := by omega
  have hl2 : (newT n).2.length ≤ 1000 := by omega
  clear hf hsz hn hn2
  simp only [chipV]
  go_enter Try.func7, Try.ntmps7
  go_wp2_with fail
  generalize (w.alloc (.cells #[.slice oa bs.length ca, .bool br, .bool off, .int .i64 ops] 26)).alloc (.cells #[.slice none 0 0, .slice none 0 0] 30) = W at *
  refine (refNew7 n _).mono ?_
  rintro e w1 ⟨⟨v1, rfl, ht⟩, m1⟩
  obtain ⟨om, cm, ob, cb, e2, i1, i2⟩ := id ht
  have hs1 := Nat.le_trans hs0 (Mem.size m1)
  replace ht := ht.mono (S' := fun x => w.heap.size + 2 ≤ x ∧ x ≠ w1.heap.size) fun g hg hl => by omega
  generalize hG2 : newT n = t at *
  replace hG2 := hide hG2
  subst e2
  have ma := (Mem.refl w1).alloc (.cells #[.slice om t.1.length cm, .slice ob t.2.length cb] 30)
  have hA := TabAt.of (Blk.new w1 #[.slice om t.1.length cm, .slice ob t.2.length cb] 30) (ht.mem ma)
  have hC1 := hC.mem (m1.trans ma)
  have hR1 := hR.mem (m1.trans ma)
  have hb1 := hb.mem (m1.trans ma)
  have hm1 := hm.trans (m1.trans ma)
  have c0 := hC1.cell (j := 0) rfl
  have c1 := hC1.cell (j := 1) rfl
  have c2 := hC1.cell (j := 2) rfl
  have c3 := hC1.cell (j := 3) rfl
  clear i1 i2 ht hb hC hR hm
  go_wp2_with fail
  generalize hW1 : w1.alloc (.cells #[.slice om t.1.length cm, .slice ob t.2.length cb] 30) = W1 at *
  have hBW : w1.heap.size < W1.heap.size := by rw [← hW1]; exact new_lt w1 _
  have hBw : w.heap.size ≤ w1.heap.size := by omega
  have hB1 : w.heap.size + 1 ≠ w1.heap.size := by omega
  generalize w1.heap.size = B at *
  clear hW1 ma m1
  refine (refAll _ _ bs br off ops _ hb1 HF.out HSZ.out).mono ?_
  rintro e w2 ⟨⟨v2, rfl, hfd⟩, m2⟩
  obtain ⟨o2, c2', rfl⟩ := hfd.shape
  generalize hG1 : allC bs = fs at *
  replace hG1 := hide hG1
  have hA2 := hA.mem m2
  have hR2 := hR1.mem m2
  have hm2 := hm1.trans m2
  have hsz2 := Nat.lt_of_lt_of_le hBW (Mem.size m2)
  have hfl := hfd.1
  unfold maxLen at hfl
  clear hA hR1 hm1 hC1 hb1 c0 c1 c2 c3
  go_wp2_with fail
  go_loopw [8, 9] (fun a c wr => ∃ i : Nat, i ≤ fs.length ∧ c = .int .i64 i ∧ a = .int .i64 (seqT (fs.take i) 0) ∧ TabAt (fun x => w.heap.size + 2 ≤ x ∧ x ≠ B) wr B (foldT (fs.take i) t) ∧ FoundsAt (fun x => W1.heap.size ≤ x) wr (.slice o2 fs.length c2') fs ∧ Blk wr (w.heap.size + 1) 30 #[.slice none 0 0, .slice none 0 0] ∧ Mem w wr ∧ B < wr.heap.size) (fun _ c _ => fs.length - (intOf c).toNat)
  case atStart => exact ⟨0, Nat.zero_le _, rfl, rfl, hA2, hfd, hR2, hm2, hsz2⟩
  case round =>
    clear hA2 hfd hR2 hm2 hsz2 m2
    obtain ⟨i, hi, rfl, rfl, hA, hfd, hR, hmr, hsz⟩ := hrel
    have hu := foldT_len (fs.take i) t
    by_cases hlt : i < fs.length
    · have hlt' : (i : Int) < (fs.length : Int) := by omega
      have hi0 : (0 : Int) ≤ (i : Int) := by omega
      obtain ⟨g, o, ok, ck, ov, cv, rfl, hSg, x0, x1, x2, x3, x4, i3, i4⟩ := hfd.at hlt
      have HT := hide (foldT_take fs t hlt)
      have HQ := hide (seqT_take fs 0 hlt)
      obtain ⟨om', cm', ob', cb', hB, j1, j2⟩ := id hA
      have b0 := hB.cell (j := 0) rfl
      have b1 := hB.cell (j := 1) rfl
      generalize foldT (fs.take i) t = u at *
      have hl3 : u.1.length ≤ 1000 := by omega
      have hl4 : u.2.length ≤ 1000 := by omega
      have HI1 := hide j1.ints
      have HI2 := hide j2.ints
      have HI3 := hide i3.ints
      have HI4 := hide i4.ints
      have md := Mem.drew (Mem.refl wr)
      clear hA hu j1 j2 i3 i4
      go_wp2_with fail
      go_region_with (go_at_call 22; refine (refApply u om' ob' cm' cb' fs[i].1 fs[i].2.1 fs[i].2.2.1 ok ov ck cv fs[i].2.2.2.1 fs[i].2.2.2.2 _ (Ints.mem HI1.out md) (Ints.mem HI2.out md) hl3 hl4 (Ints.mem HI3.out md) (Ints.mem HI4.out md)).mono ?_; rintro e w3 ⟨⟨v3, rfl, hV⟩, m3⟩; obtain ⟨om3, cm3, ob3, cb3, rfl, _, _⟩ := id hV; have hB3 := hB.mem (md.trans m3); have b3 := hB3.cell (j := 0) rfl; have b4 := hB3.cell (j := 1) rfl; have f3 := hB3.frozen 0; have f4 := hB3.frozen 1)
      all_goals (
        have hm3 := Mem.trans md m3
        replace hV := hV.mono (S' := fun x => w.heap.size + 2 ≤ x ∧ x ≠ B) fun g hg _ => by
          have : wr.heap.size ≤ g := hg
          exact ⟨by omega, by omega⟩
        generalize hG : applyT u (fs[i].1, fs[i].2.1, fs[i].2.2.1, fs[i].2.2.2.1, fs[i].2.2.2.2) = u' at *
        replace hG := HT
        have hA4 := TabAt.store hB3 hV (fun h => h.2 rfl)
        have hfd4 := ((hfd.mem hm3).setCell (p := ⟨B, 0, none⟩) (by show ¬ W1.heap.size ≤ B; omega) (.slice om3 u'.1.length cm3)).setCell (p := ⟨B, 1, none⟩) (by show ¬ W1.heap.size ≤ B; omega) (.slice ob3 u'.2.length cb3)
        have hne : g ≠ B := by
          have : W1.heap.size ≤ g := hSg
          omega
        have hR4 := Blk2.far (hR.mem hm3) (b' := B) (by omega) (.slice om3 u'.1.length cm3) (.slice ob3 u'.2.length cb3)
        have hm4 := Mem2.put (hmr.trans hm3) (b := B) hBw (.slice om3 u'.1.length cm3) (.slice ob3 u'.2.length cb3)
        have hs4 : B < ((w3.setCell ⟨B, 0, none⟩ (.slice om3 u'.1.length cm3)).setCell ⟨B, 1, none⟩ (.slice ob3 u'.2.length cb3)).heap.size := by rw [size_setCell, size_setCell]; exact Nat.lt_of_lt_of_le hsz (Mem.size hm3)
        have y2 : ((w3.setCell ⟨B, 0, none⟩ (.slice om3 u'.1.length cm3)).setCell ⟨B, 1, none⟩ (.slice ob3 u'.2.length cb3)).cell? ⟨g, o + i * 5 + 2, none⟩ = some (.int .i64 fs[i].2.2.1) := by
          rw [World.cell?_of_block (w := w3.setCell ⟨B, 0, none⟩ (.slice om3 u'.1.length cm3)) (a := ⟨g, o + i * 5 + 2, none⟩) (Below.heap_setCell _ _ _ g hne), World.cell?_of_block (w := w3) (a := ⟨g, o + i * 5 + 2, none⟩) (Below.heap_setCell _ _ _ g hne), Below.cell hm3 (p := ⟨g, o + i * 5 + 2, none⟩) (World.block_lt_of_cell? wr _ x2)]
          exact x2
        clear HT hV hB3 hR hfd hm3 m3 b0 b1 b3 b4 f3 f4 x0 x1 x2 x3 x4 hB hmr md
        generalize (w3.setCell ⟨B, 0, none⟩ (.slice om3 u'.1.length cm3)).setCell ⟨B, 1, none⟩ (.slice ob3 u'.2.length cb3) = W5 at *
        go_wp2_with fail
        go_roundw
        case rel => exact ⟨i + 1, by omega, by go_num, int_eq (by first | exact HQ.out.symm | (refine Eq.trans ?_ HQ.out.symm; unfold nextT; rw [Int.max_def]; split <;> split <;> omega)), by rw [hG.out]; exact hA4, hfd4, hR4, hm4, hs4⟩
        case measure => simp [intOf]; omega)
    · have hie : i = fs.length := by omega
      subst hie
      have hlt' : ¬ ((fs.length : Int) < (fs.length : Int)) := by omega
      have HQ : Hid (seqT (fs.take fs.length) 0 = seqT fs 0) := by unfold Hid; rw [List.take_length]
      rw [List.take_length] at hA
      obtain ⟨om', cm', ob', cb', hB, j1, j2⟩ := id hA
      have hV := hA.val hB j1 j2
      have hZ := Blk2.put hR (.slice om' (foldT fs t).1.length cm') (.slice ob' (foldT fs t).2.length cb')
      have hmZ := Mem2.put hmr (b := w.heap.size + 1) (by omega) (.slice om' (foldT fs t).1.length cm') (.slice ob' (foldT fs t).2.length cb')
      have hT := (hV.put2 (b := w.heap.size + 1) (by omega) (.slice om' (foldT fs t).1.length cm') (.slice ob' (foldT fs t).2.length cb')).mono (S' := fun x => w.heap.size ≤ x) fun g hg _ => by omega
      have b0 := hB.cell (j := 0) rfl
      have b1 := hB.cell (j := 1) rfl
      have e0 := hR.cell (j := 0) rfl
      have e1 := hR.cell (j := 1) rfl
      have e2 := hR.frozen 0
      have e3 := hR.frozen 1
      clear hA hB hV j1 j2 hu hR hfd
      generalize hG : foldT fs t = u at *
      replace hG := hide hG
      go_wp2_with fail
      exact bodyPost_ret (ret_tabN rfl _ _ rfl hZ) rfl ⟨⟨_, by rw [hG1.out]; rfl, by rw [hG1.out, hG2.out, hG.out]; exact hT⟩, hmZ⟩
end Go.Proofs.Ytedopplldpcinaa.Replay
