/-
  Layer 7, the document: all that a chip's pages tell, put into a table; the Seq of the next page.
-/
import Derived.Test.YtegamnaahipedaaReplayRefApply
import Derived.Test.YtegamnaahipedaaScanLow
namespace Go.Proofs.Ytegamnaahipedaa.Replay
open Go.RowKit Go.Proofs.Ytegamnaahipedaa.Scan Go.Proofs.Ytegamnaahipedaa.Nand

/-- the Seq behind f's, or n, if that is more -/
def nextT (n : Int) (f : FoundT) : Int := max n (wrap64 (f.2.2.1 + 1))
def seqT (fs : List FoundT) (n : Int) : Int := fs.foldl nextT n
theorem seqT_take (fs : List FoundT) (n : Int) {k : Nat} (h : k < fs.length) : seqT (fs.take (k + 1)) n = nextT (seqT (fs.take k) n) fs[k] := by
  unfold seqT
  rw [List.take_succ_eq_append_getElem h, List.foldl_append]
  rfl
/-- what is asked of whoever replays a chip -/
def ReplaySpec (F : Nat) : Prop := ∀ (S : Nat → Prop) (vb : Value) (bs : List BlockT) (br off : Bool) (ops n : Int) (w : World), BlocksAt S w vb bs → Few bs → (∀ b ∈ bs, ∀ p ∈ b.1, p.2.2.size ≤ maxLen) →
  Calls Try.prog F #[chipV vb br off ops, .int .i64 n] w fun e w' => (∃ v, e = .returned (.tuple #[v, .int .i64 (seqT (allC bs) 0)]) ∧ TabV (fun x => w.heap.size ≤ x) w' v (foldT (allC bs) (newT n))) ∧ Mem w w'

/-- a variable, at block B, that has the table t -/
def TabAt (S : Nat → Prop) (w : World) (B : Nat) (t : TableT) : Prop :=
  ∃ om cm ob cb, Blk w B 27 #[.slice om t.1.length cm, .slice ob t.2.length cb] ∧ IntsIn S w (.slice om t.1.length cm) t.1 ∧ IntsIn S w (.slice ob t.2.length cb) t.2
theorem TabAt.of {S : Nat → Prop} {w : World} {B : Nat} {t : TableT} {om ob : Option Addr} {cm cb : Nat} (hB : Blk w B 27 #[.slice om t.1.length cm, .slice ob t.2.length cb]) (h : TabV S w (.agg #[.slice om t.1.length cm, .slice ob t.2.length cb]) t) : TabAt S w B t := by
  obtain ⟨om', cm', ob', cb', e, h1, h2⟩ := h
  simp only [Value.agg.injEq, Array.mk.injEq, List.cons.injEq, Value.slice.injEq, true_and, and_true] at e
  obtain ⟨⟨rfl, rfl⟩, rfl, rfl⟩ := e
  exact ⟨om, cm, ob, cb, hB, h1, h2⟩
theorem TabAt.mem {S : Nat → Prop} {w w' : World} {B : Nat} {t : TableT} (h : TabAt S w B t) (m : Mem w w') : TabAt S w' B t := by
  obtain ⟨om, cm, ob, cb, h0, h1, h2⟩ := h
  exact ⟨om, cm, ob, cb, h0.mem m, h1.mem m, h2.mem m⟩
theorem TabAt.val {S : Nat → Prop} {w : World} {B : Nat} {t : TableT} (_ : TabAt S w B t) {om ob : Option Addr} {cm cb : Nat} (_ : Blk w B 27 #[.slice om t.1.length cm, .slice ob t.2.length cb]) (h1 : IntsIn S w (.slice om t.1.length cm) t.1) (h2 : IntsIn S w (.slice ob t.2.length cb) t.2) : TabV S w (.agg #[.slice om t.1.length cm, .slice ob t.2.length cb]) t := ⟨om, cm, ob, cb, rfl, h1, h2⟩
theorem TabAt.store {S : Nat → Prop} {w : World} {B : Nat} {t : TableT} {a0 a1 : Value} {om ob : Option Addr} {cm cb : Nat} (hB : Blk w B 27 #[a0, a1]) (h : TabV S w (.agg #[.slice om t.1.length cm, .slice ob t.2.length cb]) t) (hS : ¬ S B) :
    TabAt S ((w.setCell ⟨B, 0, none⟩ (.slice om t.1.length cm)).setCell ⟨B, 1, none⟩ (.slice ob t.2.length cb)) B t := TabAt.of (Blk2.put hB _ _) (h.put2 hS _ _)
set_option maxHeartbeats 2000000 in
set_option maxRecDepth 100000 in
theorem refReplay : ReplaySpec 13 := by
  intro S vb bs br off ops n w hb hf hsz
  obtain ⟨oa, ca, rfl⟩ := hb.shape
  have hm : Mem w ((w.alloc (.cells #[.slice oa bs.length ca, .bool br, .bool off, .int .i64 ops] 24)).alloc (.cells #[.slice none 0 0, .slice none 0 0] 27)) := ((Mem.refl w).alloc _).alloc _
  have hC : Blk ((w.alloc (.cells #[.slice oa bs.length ca, .bool br, .bool off, .int .i64 ops] 24)).alloc (.cells #[.slice none 0 0, .slice none 0 0] 27)) w.heap.size 24 #[.slice oa bs.length ca, .bool br, .bool off, .int .i64 ops] := (Blk.new w _ _).alloc _
  have hR : Blk ((w.alloc (.cells #[.slice oa bs.length ca, .bool br, .bool off, .int .i64 ops] 24)).alloc (.cells #[.slice none 0 0, .slice none 0 0] 27)) (w.heap.size + 1) 27 #[.slice none 0 0, .slice none 0 0] := by
    have := Blk.new (w.alloc (.cells #[.slice oa bs.length ca, .bool br, .bool off, .int .i64 ops] 24)) #[.slice none 0 0, .slice none 0 0] 27
    simpa using this
  have hs0 : w.heap.size + 2 ≤ ((w.alloc (.cells #[.slice oa bs.length ca, .bool br, .bool off, .int .i64 ops] 24)).alloc (.cells #[.slice none 0 0, .slice none 0 0] 27)).heap.size := by simp
  replace hb := hb.mem hm
  have HF := hide hf
  have HSZ := hide hsz
  have hn := newT_len n
  have hn2 := cutN_le n
  have hl1 : (newT n).1.length ≤ 1000 := by omega
  have hl2 : (newT n).2.length ≤ 1000 := by omega
  clear hf hsz hn hn2
  simp only [chipV]
  go_enter Try.func13, Try.ntmps13
  go_wp2_with fail
  generalize (w.alloc (.cells #[.slice oa bs.length ca, .bool br, .bool off, .int .i64 ops] 24)).alloc (.cells #[.slice none 0 0, .slice none 0 0] 27) = W at *
  refine (refNew7 n _).mono ?_
  rintro e w1 ⟨⟨v1, rfl, ht⟩, m1⟩
  obtain ⟨om, cm, ob, cb, e2, i1, i2⟩ := id ht
  have hs1 := Nat.le_trans hs0 (Mem.size m1)
  replace ht := ht.mono (S' := fun x => w.heap.size + 2 ≤ x ∧ x ≠ w1.heap.size) fun g hg hl => by omega
  generalize hG2 : newT n = t at *
  replace hG2 := hide hG2
  subst e2
  have ma := (Mem.refl w1).alloc (.cells #[.slice om t.1.length cm, .slice ob t.2.length cb] 27)
  have hA := TabAt.of (Blk.new w1 #[.slice om t.1.length cm, .slice ob t.2.length cb] 27) (ht.mem ma)
  have hC1 := hC.mem (m1.trans ma)
  have hR1 := hR.mem (m1.trans ma)
  have hb1 := hb.mem (m1.trans ma)
  have hm1 := hm.trans (m1.trans ma)
  have c0 := hC1.cell (j := 0) rfl
  have c1 := hC1.cell (j := 1) rfl
  have c2 := hC1.cell (j := 2) rfl
  have c3 := hC1.cell (j := 3) rfl
  clear i1 i2 ht hb hC hR hm
  go_wp2_with fail
  generalize hW1 : w1.alloc (.cells #[.slice om t.1.length cm, .slice ob t.2.length cb] 27) = W1 at *
  have hBW : w1.heap.size < W1.heap.size := by rw [← hW1]; exact new_lt w1 _
  have hBw : w.heap.size ≤ w1.heap.size := by omega
  have hB1 : w.heap.size + 1 ≠ w1.heap.size := by omega
  generalize w1.heap.size = B at *
  clear hW1 ma m1
  refine (refAll _ _ bs br off ops _ hb1 HF.out HSZ.out).mono ?_
  rintro e w2 ⟨⟨v2, rfl, hfd⟩, m2⟩
  obtain ⟨o2, c2', rfl⟩ := hfd.shape
  generalize hG1 : allC bs = fs at *
  replace hG1 := hide hG1
  have hA2 := hA.mem m2
  have hR2 := hR1.mem m2
  have hm2 := hm1.trans m2
  have hsz2 := Nat.lt_of_lt_of_le hBW (Mem.size m2)
  have hfl := hfd.1
  unfold maxLen at hfl
  clear hA hR1 hm1 hC1 hb1 c0 c1 c2 c3
  go_wp2_with fail
  go_loopw [8, 9] (fun a c wr => ∃ i : Nat, i ≤ fs.length ∧ c = .int .i64 i ∧ a = .int .i64 (seqT (fs.take i) 0) ∧ TabAt (fun x => w.heap.size + 2 ≤ x ∧ x ≠ B) wr B (foldT (fs.take i) t) ∧ FoundsAt (fun x => W1.heap.size ≤ x) wr (.slice o2 fs.length c2') fs ∧ Blk wr (w.heap.size + 1) 27 #[.slice none 0 0, .slice none 0 0] ∧ Mem w wr ∧ B < wr.heap.size) (fun _ c _ => fs.length - (intOf c).toNat)
  case atStart => exact ⟨0, Nat.zero_le _, rfl, rfl, hA2, hfd, hR2, hm2, hsz2⟩
  case round =>
    clear hA2 hfd hR2 hm2 hsz2 m2
    obtain ⟨i, hi, rfl, rfl, hA, hfd, hR, hmr, hsz⟩ := hrel
    have hu := foldT_len (fs.take i) t
    by_cases hlt : i < fs.length
    · have hlt' : (i : Int) < (fs.length : Int) := by omega
      have hi0 : (0 : Int) ≤ (i : Int) := by omega
      obtain ⟨g, o, ok, ck, ov, cv, rfl, hSg, x0, x1, x2, x3, x4, i3, i4⟩ := hfd.at hlt
      have HT := hide (foldT_take fs t hlt)
      have HQ := hide (seqT_take fs 0 hlt)
      obtain ⟨om', cm', ob', cb', hB, j1, j2⟩ := id hA
      have b0 := hB.cell (j := 0) rfl
      have b1 := hB.cell (j := 1) rfl
      generalize foldT (fs.take i) t = u at *
      have hl3 : u.1.length ≤ 1000 := by omega
      have hl4 : u.2.length ≤ 1000 := by omega
      have HI1 := hide j1.ints
      have HI2 := hide j2.ints
      have HI3 := hide i3.ints
      have HI4 := hide i4.ints
      have md := Mem.drew (Mem.refl wr)
      clear hA hu j1 j2 i3 i4
      go_wp2_with fail
      go_region_with (go_at_call 29; refine (refApply u om' ob' cm' cb' fs[i].1 fs[i].2.1 fs[i].2.2.1 ok ov ck cv fs[i].2.2.2.1 fs[i].2.2.2.2 _ (Ints.mem HI1.out md) (Ints.mem HI2.out md) hl3 hl4 (Ints.mem HI3.out md) (Ints.mem HI4.out md)).mono ?_; rintro e w3 ⟨⟨v3, rfl, hV⟩, m3⟩; obtain ⟨om3, cm3, ob3, cb3, rfl, _, _⟩ := id hV; have hB3 := hB.mem (md.trans m3); have b3 := hB3.cell (j := 0) rfl; have b4 := hB3.cell (j := 1) rfl; have f3 := hB3.frozen 0; have f4 := hB3.frozen 1)
      all_goals (
        have hm3 := Mem.trans md m3
        replace hV := hV.mono (S' := fun x => w.heap.size + 2 ≤ x ∧ x ≠ B) fun g hg _ => by
          have : wr.heap.size ≤ g := hg
          exact ⟨by omega, by omega⟩
        generalize hG : applyT u (fs[i].1, fs[i].2.1, fs[i].2.2.1, fs[i].2.2.2.1, fs[i].2.2.2.2) = u' at *
        replace hG := HT
        have hA4 := TabAt.store hB3 hV (fun h => h.2 rfl)
        have hfd4 := ((hfd.mem hm3).setCell (p := ⟨B, 0, none⟩) (by show ¬ W1.heap.size ≤ B; omega) (.slice om3 u'.1.length cm3)).setCell (p := ⟨B, 1, none⟩) (by show ¬ W1.heap.size ≤ B; omega) (.slice ob3 u'.2.length cb3)
        have hne : g ≠ B := by
          have : W1.heap.size ≤ g := hSg
          omega
        have hR4 := Blk2.far (hR.mem hm3) (b' := B) (by omega) (.slice om3 u'.1.length cm3) (.slice ob3 u'.2.length cb3)
        have hm4 := Mem2.put (hmr.trans hm3) (b := B) hBw (.slice om3 u'.1.length cm3) (.slice ob3 u'.2.length cb3)
        have hs4 : B < ((w3.setCell ⟨B, 0, none⟩ (.slice om3 u'.1.length cm3)).setCell ⟨B, 1, none⟩ (.slice ob3 u'.2.length cb3)).heap.size := by rw [size_setCell, size_setCell]; exact Nat.lt_of_lt_of_le hsz (Mem.size hm3)
        have y2 : ((w3.setCell ⟨B, 0, none⟩ (.slice om3 u'.1.length cm3)).setCell ⟨B, 1, none⟩ (.slice ob3 u'.2.length cb3)).cell? ⟨g, o + i * 5 + 2, none⟩ = some (.int .i64 fs[i].2.2.1) := by
          rw [World.cell?_of_block (w := w3.setCell ⟨B, 0, none⟩ (.slice om3 u'.1.length cm3)) (a := ⟨g, o + i * 5 + 2, none⟩) (Below.heap_setCell _ _ _ g hne), World.cell?_of_block (w := w3) (a := ⟨g, o + i * 5 + 2, none⟩) (Below.heap_setCell _ _ _ g hne), Below.cell hm3 (p := ⟨g, o + i * 5 + 2, none⟩) (World.block_lt_of_cell? wr _ x2)]
          exact x2
        clear HT hV hB3 hR hfd hm3 m3 b0 b1 b3 b4 f3 f4 x0 x1 x2 x3 x4 hB hmr md
        generalize (w3.setCell ⟨B, 0, none⟩ (.slice om3 u'.1.length cm3)).setCell ⟨B, 1, none⟩ (.slice ob3 u'.2.length cb3) = W5 at *
        go_wp2_with fail
        go_roundw
        case rel => exact ⟨i + 1, by omega, by go_num, int_eq (by first | exact HQ.out.symm | (refine Eq.trans ?_ HQ.out.symm; unfold nextT; rw [Int.max_def]; split <;> split <;> omega)), by rw [hG.out]; exact hA4, hfd4, hR4, hm4, hs4⟩
        case measure => simp [intOf]; omega)
    · have hie : i = fs.length := by omega
      subst hie
      have hlt' : ¬ ((fs.length : Int) < (fs.length : Int)) := by omega
      have HQ : Hid (seqT (fs.take fs.length) 0 = seqT fs 0) := by unfold Hid; rw [List.take_length]
      rw [List.take_length] at hA
      obtain ⟨om', cm', ob', cb', hB, j1, j2⟩ := id hA
      have hV := hA.val hB j1 j2
      have hZ := Blk2.put hR (.slice om' (foldT fs t).1.length cm') (.slice ob' (foldT fs t).2.length cb')
      have hmZ := Mem2.put hmr (b := w.heap.size + 1) (by omega) (.slice om' (foldT fs t).1.length cm') (.slice ob' (foldT fs t).2.length cb')
      have hT := (hV.put2 (b := w.heap.size + 1) (by omega) (.slice om' (foldT fs t).1.length cm') (.slice ob' (foldT fs t).2.length cb')).mono (S' := fun x => w.heap.size ≤ x) fun g hg _ => by omega
      have b0 := hB.cell (j := 0) rfl
      have b1 := hB.cell (j := 1) rfl
      have e0 := hR.cell (j := 0) rfl
      have e1 := hR.cell (j := 1) rfl
      have e2 := hR.frozen 0
      have e3 := hR.frozen 1
      clear hA hB hV j1 j2 hu hR hfd
      generalize hG : foldT fs t = u at *
      replace hG := hide hG
      go_wp2_with fail
      exact bodyPost_ret (ret_tabN rfl _ _ rfl hZ) rfl ⟨⟨_, by rw [hG1.out]; rfl, by rw [hG1.out, hG2.out, hG.out]; exact hT⟩, hmZ⟩
end Go.Proofs.Ytegamnaahipedaa.Replay
