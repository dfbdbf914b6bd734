/-
  Layer 7: all that a chip's pages tell, put into a table; the Seq of the next page.
-/
import Derived.Test.YtbibkheiagglbaaReplayApply
import Derived.Test.YtbibkheiagglbaaScanLate
namespace Go.Proofs.Ytbibkheiagglbaa.Replay
open Go.RowKit Go.Proofs.Ytbibkheiagglbaa.Scan Go.Proofs.Ytbibkheiagglbaa.Nand

/-- the Seq behind f's, or n, if that is more -/
def nextT (n : Int) (f : FoundT) : Int := max n (wrap64 (f.2.2.1 + 1))
def seqT (fs : List FoundT) (n : Int) : Int := fs.foldl nextT n
theorem seqT_take (fs : List FoundT) (n : Int) {k : Nat} (h : k < fs.length) : seqT (fs.take (k + 1)) n = nextT (seqT (fs.take k) n) fs[k] := by
  unfold seqT
  rw [List.take_succ_eq_append_getElem h, List.foldl_append]
  rfl
/-- what is asked of whoever replays a chip -/
def ReplaySpec (F : Nat) : Prop := ∀ (S : Nat → Prop) (vb : Value) (bs : List BlockT) (br off : Bool) (ops n : Int) (w : World), BlocksAt S w vb bs → Few bs → (∀ b ∈ bs, ∀ p ∈ b.1, p.2.2.size ≤ maxLen) →
  Calls Try.prog F #[chipV vb br off ops, .int .i64 n] w fun e w' => (∃ v, e = .returned (.tuple #[v, .int .i64 (seqT (allC bs) 0)]) ∧ TabV (fun x => w.heap.size ≤ x) w' v (foldT (allC bs) (newT n))) ∧ Mem w w'

set_option maxHeartbeats 1000000 in
set_option maxRecDepth 100000 in
theorem codeNextSeq (n p k s : Int) (ok ov : Option Addr) (nk ck nv cv : Nat) (w : World) :
    Calls Try.prog 36 #[.int .i64 n, .agg #[.int .i64 p, .int .i64 k, .int .i64 s, .slice ok nk ck, .slice ov nv cv]] w fun e w' => e = .returned (.int .i64 (max n (wrap64 (s + 1)))) ∧ Mem w w' := by
  have hm : Mem w (w.alloc (.cells #[.int .i64 p, .int .i64 k, .int .i64 s, .slice ok nk ck, .slice ov nv cv] 32)) := (Mem.refl w).alloc _
  go_enter Try.func36, Try.ntmps36
  go_wp2_with fail
  go_ret
  exact ⟨ret_int rfl, hm⟩


/-- a variable, at block B, that has the table t -/
def TabAt (S : Nat → Prop) (w : World) (B : Nat) (t : TableT) : Prop :=
  ∃ om cm ob cb, Blk w B 26 #[.slice om t.1.length cm, .slice ob t.2.length cb] ∧ IntsIn S w (.slice om t.1.length cm) t.1 ∧ IntsIn S w (.slice ob t.2.length cb) t.2
theorem TabAt.of {S : Nat → Prop} {w : World} {B : Nat} {t : TableT} {om ob : Option Addr} {cm cb : Nat} (hB : Blk w B 26 #[.slice om t.1.length cm, .slice ob t.2.length cb]) (h : TabV S w (.agg #[.slice om t.1.length cm, .slice ob t.2.length cb]) t) : TabAt S w B t := by
  obtain ⟨om', cm', ob', cb', e, h1, h2⟩ := h
  simp only [Value.agg.injEq, Array.mk.injEq, List.cons.injEq, Value.slice.injEq, true_and, and_true] at e
  obtain ⟨⟨rfl, rfl⟩, rfl, rfl⟩ := e
  exact ⟨om, cm, ob, cb, hB, h1, h2⟩
theorem TabAt.mem {S : Nat → Prop} {w w' : World} {B : Nat} {t : TableT} (h : TabAt S w B t) (m : Mem w w') : TabAt S w' B t := by
  obtain ⟨om, cm, ob, cb, h0, h1, h2⟩ := h
  exact ⟨om, cm, ob, cb, h0.mem m, h1.mem m, h2.mem m⟩
theorem TabAt.val {S : Nat → Prop} {w : World} {B : Nat} {t : TableT} (_ : TabAt S w B t) {om ob : Option Addr} {cm cb : Nat} (_ : Blk w B 26 #[.slice om t.1.length cm, .slice ob t.2.length cb]) (h1 : IntsIn S w (.slice om t.1.length cm) t.1) (h2 : IntsIn S w (.slice ob t.2.length cb) t.2) : TabV S w (.agg #[.slice om t.1.length cm, .slice ob t.2.length cb]) t := ⟨om, cm, ob, cb, rfl, h1, h2⟩
theorem TabAt.store {S : Nat → Prop} {w : World} {B : Nat} {t : TableT} {a0 a1 : Value} {om ob : Option Addr} {cm cb : Nat} (hB : Blk w B 26 #[a0, a1]) (h : TabV S w (.agg #[.slice om t.1.length cm, .slice ob t.2.length cb]) t) (hS : ¬ S B) :
    TabAt S ((w.setCell ⟨B, 0, none⟩ (.slice om t.1.length cm)).setCell ⟨B, 1, none⟩ (.slice ob t.2.length cb)) B t := TabAt.of (Blk2.put hB _ _) (h.put2 hS _ _)
set_option maxHeartbeats 2000000 in
set_option maxRecDepth 100000 in
theorem codeFoldN (S : Nat → Prop) (oa : Option Addr) (ca : Nat) (fs : List FoundT) (n : Int) (w : World) (hf : FoundsAt S w (.slice oa fs.length ca) fs) :
    Calls Try.prog 35 #[.slice oa fs.length ca, .int .i64 n, .func (.func 36) #[] #[]] w fun e w' => e = .returned (.int .i64 (seqT fs n)) ∧ Mem w w' := by
  have hfl := hf.1
  unfold maxLen at hfl
  go_enter Try.func35, Try.ntmps35
  go_wp2_with fail
  go_loopw [1, 11] (fun a c wr => ∃ i : Nat, i ≤ fs.length ∧ c = .int .i64 i ∧ a = .int .i64 (seqT (fs.take i) n) ∧ Mem w wr) (fun _ c _ => fs.length - (intOf c).toNat)
  case atStart => exact ⟨0, Nat.zero_le _, rfl, rfl, Mem.refl _⟩
  case round =>
    obtain ⟨i, hi, rfl, rfl, hmr⟩ := hrel
    by_cases hlt : i < fs.length
    · have hlt' : (i : Int) < (fs.length : Int) := by omega
      have hi0 : (0 : Int) ≤ (i : Int) := by omega
      obtain ⟨g, o, ok, ck, ov, cv, rfl, _, x0, x1, x2, x3, x4, _, _⟩ := (hf.mem hmr).at hlt
      have HT := hide (seqT_take fs n hlt)
      have hm2 := hmr.alloc (.cells #[.int .i64 fs[i].1, .int .i64 fs[i].2.1, .int .i64 fs[i].2.2.1, .slice ok fs[i].2.2.2.1.length ck, .slice ov fs[i].2.2.2.2.length cv] 32)
      go_wp2_with fail
      refine (codeNextSeq _ fs[i].1 fs[i].2.1 fs[i].2.2.1 ok ov _ ck _ cv _).mono ?_
      rintro e w1 ⟨rfl, m1⟩
      have hm3 := hm2.trans m1
      go_wp2_with fail
      go_roundw
      case rel => exact ⟨i + 1, by omega, by go_num, int_eq HT.out.symm, hm3⟩
      case measure => simp [intOf]; omega
    · have hie : i = fs.length := by omega
      subst hie
      have hlt' : ¬ ((fs.length : Int) < (fs.length : Int)) := by omega
      go_wp2_with fail
      go_ret
      exact ⟨ret_int rfl, hmr⟩

set_option maxHeartbeats 2000000 in
set_option maxRecDepth 100000 in
theorem codeFoldT (S S0 : Nat → Prop) (oa : Option Addr) (ca : Nat) (fs : List FoundT) (v0 : Value) (t : TableT) (w : World) (hf : FoundsAt S w (.slice oa fs.length ca) fs) (ht : TabV S0 w v0 t) (hl1 : t.1.length ≤ 1000) (hl2 : t.2.length ≤ 1000) :
    Calls Try.prog 34 #[.slice oa fs.length ca, v0, .func (.func 15) #[] #[]] w fun e w' => (∃ v, e = .returned v ∧ TabV (fun x => S0 x ∨ w.heap.size ≤ x) w' v (foldT fs t)) ∧ Mem w w' := by
  have hfl := hf.1
  unfold maxLen at hfl
  obtain ⟨om, cm, ob, cb, rfl, _, _⟩ := id ht
  have hm : Mem w ((w.alloc (.cells #[.slice om t.1.length cm, .slice ob t.2.length cb] 26)).alloc (.cells #[.slice none 0 0, .slice none 0 0] 26)) := ((Mem.refl w).alloc _).alloc _
  have hB : Blk ((w.alloc (.cells #[.slice om t.1.length cm, .slice ob t.2.length cb] 26)).alloc (.cells #[.slice none 0 0, .slice none 0 0] 26)) w.heap.size 26 #[.slice om t.1.length cm, .slice ob t.2.length cb] := (Blk.new w _ _).alloc _
  have hR : Blk ((w.alloc (.cells #[.slice om t.1.length cm, .slice ob t.2.length cb] 26)).alloc (.cells #[.slice none 0 0, .slice none 0 0] 26)) (w.heap.size + 1) 26 #[.slice none 0 0, .slice none 0 0] := by
    have := Blk.new (w.alloc (.cells #[.slice om t.1.length cm, .slice ob t.2.length cb] 26)) #[.slice none 0 0, .slice none 0 0] 26
    simpa using this
  have ht' := (ht.mono (S' := fun x => (S0 x ∨ w.heap.size ≤ x) ∧ x ≠ w.heap.size ∧ x ≠ w.heap.size + 1) fun g hg hl => ⟨.inl hg, by omega, by omega⟩).mem hm
  have hA := TabAt.of hB ht'
  have hsz : w.heap.size + 2 ≤ ((w.alloc (.cells #[.slice om t.1.length cm, .slice ob t.2.length cb] 26)).alloc (.cells #[.slice none 0 0, .slice none 0 0] 26)).heap.size := by simp
  go_enter Try.func34, Try.ntmps34
  go_wp2_with fail
  generalize (w.alloc (.cells #[.slice om t.1.length cm, .slice ob t.2.length cb] 26)).alloc (.cells #[.slice none 0 0, .slice none 0 0] 26) = W at *
  go_loopw [11] (fun c wr => ∃ i : Nat, i ≤ fs.length ∧ c = .int .i64 i ∧ TabAt (fun x => (S0 x ∨ w.heap.size ≤ x) ∧ x ≠ w.heap.size ∧ x ≠ w.heap.size + 1) wr w.heap.size (foldT (fs.take i) t) ∧ Blk wr (w.heap.size + 1) 26 #[.slice none 0 0, .slice none 0 0] ∧ Mem w wr ∧ w.heap.size + 2 ≤ wr.heap.size) (fun c _ => fs.length - (intOf c).toNat)
  case atStart => exact ⟨0, Nat.zero_le _, rfl, hA, hR, hm, hsz⟩
  case round =>
    clear hB ht' hR hm hsz hA
    obtain ⟨i, hi, rfl, hA, hR, hmr, hsz⟩ := hrel
    have hu := foldT_len (fs.take i) t
    by_cases hlt : i < fs.length
    · have hlt' : (i : Int) < (fs.length : Int) := by omega
      have hi0 : (0 : Int) ≤ (i : Int) := by omega
      obtain ⟨g, o, ok, ck, ov, cv, rfl, _, x0, x1, x2, x3, x4, i3, i4⟩ := (hf.mem hmr).at hlt
      have HT := hide (foldT_take fs t hlt)
      have ma := (Mem.refl wr).alloc (.cells #[.int .i64 fs[i].1, .int .i64 fs[i].2.1, .int .i64 fs[i].2.2.1, .slice ok fs[i].2.2.2.1.length ck, .slice ov fs[i].2.2.2.2.length cv] 32)
      have i3a := i3.ints.mem ma
      have i4a := i4.ints.mem ma
      have hRa := hR.mem ma
      have hma := hmr.trans ma
      have hsa : w.heap.size + 2 ≤ (wr.alloc (.cells #[.int .i64 fs[i].1, .int .i64 fs[i].2.1, .int .i64 fs[i].2.2.1, .slice ok fs[i].2.2.2.1.length ck, .slice ov fs[i].2.2.2.2.length cv] 32)).heap.size := Nat.le_trans hsz (Mem.size ma)
      obtain ⟨om', cm', ob', cb', hBa, j1, j2⟩ := hA.mem ma
      have b0 := hBa.cell (j := 0) rfl
      have b1 := hBa.cell (j := 1) rfl
      generalize foldT (fs.take i) t = u at *
      have hl3 : u.1.length ≤ 1000 := by omega
      have hl4 : u.2.length ≤ 1000 := by omega
      clear hA hR i3 i4 hmr hu
      go_wp2_with fail
      generalize wr.alloc (.cells #[.int .i64 fs[i].1, .int .i64 fs[i].2.1, .int .i64 fs[i].2.2.1, .slice ok fs[i].2.2.2.1.length ck, .slice ov fs[i].2.2.2.2.length cv] 32) = W1 at *
      clear x0 x1 x2 x3 x4 hsz ma
      refine (codeApply u om' ob' cm' cb' fs[i].1 fs[i].2.1 fs[i].2.2.1 ok ov ck cv fs[i].2.2.2.1 fs[i].2.2.2.2 W1 j1.ints j2.ints hl3 hl4 i3a i4a).mono ?_
      rintro e w1 ⟨⟨v1, rfl, hV⟩, m1⟩
      have hB1 := hBa.mem m1
      have hR1 := hRa.mem m1
      have hm1 := hma.trans m1
      have hs1 := Nat.le_trans hsa (Mem.size m1)
      replace hV := hV.mono (S' := fun x => (S0 x ∨ w.heap.size ≤ x) ∧ x ≠ w.heap.size ∧ x ≠ w.heap.size + 1) fun g hg _ => ⟨.inr (by omega), by omega, by omega⟩
      rw [show applyT u (fs[i].1, fs[i].2.1, fs[i].2.2.1, fs[i].2.2.2.1, fs[i].2.2.2.2) = foldT (fs.take (i + 1)) t from HT.out.symm] at hV
      obtain ⟨om3, cm3, ob3, cb3, rfl, _, _⟩ := id hV
      have hA3 := TabAt.store hB1 hV (fun h => h.2.1 rfl)
      have hR3 := Blk2.far hR1 (b' := w.heap.size) (by omega) (.slice om3 (foldT (fs.take (i + 1)) t).1.length cm3) (.slice ob3 (foldT (fs.take (i + 1)) t).2.length cb3)
      have hm3 := Mem2.put hm1 (b := w.heap.size) (Nat.le_refl _) (.slice om3 (foldT (fs.take (i + 1)) t).1.length cm3) (.slice ob3 (foldT (fs.take (i + 1)) t).2.length cb3)
      have hs3 : w.heap.size + 2 ≤ ((w1.setCell ⟨w.heap.size, 0, none⟩ (.slice om3 (foldT (fs.take (i + 1)) t).1.length cm3)).setCell ⟨w.heap.size, 1, none⟩ (.slice ob3 (foldT (fs.take (i + 1)) t).2.length cb3)).heap.size := by rw [size_setCell, size_setCell]; exact hs1
      have b0 := hB1.cell (j := 0) rfl
      have b1 := hB1.cell (j := 1) rfl
      have f0 := hB1.frozen 0
      have f1 := hB1.frozen 1
      clear HT hV hB1 hR1
      generalize hG : foldT (fs.take (i + 1)) t = u' at *
      replace hG := hide hG
      go_wp2_with fail
      go_roundw
      case rel => exact ⟨i + 1, by omega, by go_num, by rw [hG.out]; exact hA3, hR3, hm3, hs3⟩
      case measure => simp [intOf]; omega
    · have hie : i = fs.length := by omega
      subst hie
      have hlt' : ¬ ((fs.length : Int) < (fs.length : Int)) := by omega
      rw [List.take_length] at hA
      obtain ⟨om', cm', ob', cb', hB, j1, j2⟩ := id hA
      have hV := hA.val hB j1 j2
      have hZ := Blk2.put hR (.slice om' (foldT fs t).1.length cm') (.slice ob' (foldT fs t).2.length cb')
      have hmZ := Mem2.put hmr (b := w.heap.size + 1) (by omega) (.slice om' (foldT fs t).1.length cm') (.slice ob' (foldT fs t).2.length cb')
      have hT := (hV.put2 (b := w.heap.size + 1) (fun h => h.2.2 rfl) (.slice om' (foldT fs t).1.length cm') (.slice ob' (foldT fs t).2.length cb')).mono (S' := fun x => S0 x ∨ w.heap.size ≤ x) fun g hg _ => hg.1
      have b0 := hB.cell (j := 0) rfl
      have b1 := hB.cell (j := 1) rfl
      have e0 := hR.cell (j := 0) rfl
      have e1 := hR.cell (j := 1) rfl
      have e2 := hR.frozen 0
      have e3 := hR.frozen 1
      clear hA hB hV j1 j2 hu hR
      generalize hG : foldT fs t = u at *
      replace hG := hide hG
      go_wp2_with fail
      exact bodyPost_ret (ret_tab rfl _ _ rfl hZ) rfl ⟨⟨_, rfl, by rw [hG.out]; exact hT⟩, hmZ⟩

set_option maxHeartbeats 2000000 in
set_option maxRecDepth 100000 in
theorem codeReplay : ReplaySpec 19 := by
  intro S vb bs br off ops n w hb hf hsz
  obtain ⟨oa, ca, rfl⟩ := hb.shape
  have hm : Mem w ((w.alloc (.cells #[.slice oa bs.length ca, .bool br, .bool off, .int .i64 ops] 42)).alloc (.cells #[.slice none 0 0, .slice none 0 0] 26)) := ((Mem.refl w).alloc _).alloc _
  have hR : Blk ((w.alloc (.cells #[.slice oa bs.length ca, .bool br, .bool off, .int .i64 ops] 42)).alloc (.cells #[.slice none 0 0, .slice none 0 0] 26)) (w.heap.size + 1) 26 #[.slice none 0 0, .slice none 0 0] := by
    have := Blk.new (w.alloc (.cells #[.slice oa bs.length ca, .bool br, .bool off, .int .i64 ops] 42)) #[.slice none 0 0, .slice none 0 0] 26
    simpa using this
  have hs0 : w.heap.size + 2 ≤ ((w.alloc (.cells #[.slice oa bs.length ca, .bool br, .bool off, .int .i64 ops] 42)).alloc (.cells #[.slice none 0 0, .slice none 0 0] 26)).heap.size := by simp
  replace hb := hb.mem hm
  have HF := hide hf
  have HSZ := hide hsz
  have hn := newT_len n
  have hn2 := cutN_le n
  have hl1 : (newT n).1.length ≤ 1000 := by omega
  have hl2 : (newT n).2.length ≤ 1000 := by omega
  clear hf hsz hn hn2
  simp only [chipV]
  go_enter Try.func19, Try.ntmps19
  go_wp2_with fail
  generalize (w.alloc (.cells #[.slice oa bs.length ca, .bool br, .bool off, .int .i64 ops] 42)).alloc (.cells #[.slice none 0 0, .slice none 0 0] 26) = W at *
  refine (codeAll _ _ bs br off ops _ hb HF.out HSZ.out).mono ?_
  rintro e w1 ⟨⟨v1, rfl, hfd⟩, m1⟩
  obtain ⟨o1, c1, rfl⟩ := hfd.shape
  generalize hG1 : allC bs = fs at *
  replace hG1 := hide hG1
  go_wp2_with fail
  refine (codeNew n _).mono ?_
  rintro e w2 ⟨⟨v2, rfl, ht⟩, m2⟩
  obtain ⟨om, cm, ob, cb, e2, i1, i2⟩ := id ht
  have hs1 := Nat.le_trans hs0 (Mem.size m1)
  replace ht := ht.mono (S' := fun x => w.heap.size + 2 ≤ x) fun g hg _ => by omega
  generalize hG2 : newT n = t at *
  replace hG2 := hide hG2
  subst e2
  go_wp2_with fail
  refine (codeFoldT _ _ o1 c1 fs _ t w2 (hfd.mem m2) ht hl1 hl2).mono ?_
  rintro e w3 ⟨⟨v3, rfl, hT⟩, m3⟩
  have hs2 := Nat.le_trans hs1 (Mem.size m2)
  replace hT := hT.mono (S' := fun x => w.heap.size + 2 ≤ x) fun g hg _ => by rcases hg with h | h <;> omega
  generalize hG : foldT fs t = u at *
  replace hG := hide hG
  obtain ⟨om3, cm3, ob3, cb3, rfl, j1, j2⟩ := id hT
  go_wp2_with fail
  refine (codeFoldN _ o1 c1 fs 0 w3 (hfd.mem (m2.trans m3))).mono ?_
  rintro e w4 ⟨rfl, m4⟩
  have hR4 := hR.mem (m1.trans (m2.trans (m3.trans m4)))
  have hm4 := hm.trans (m1.trans (m2.trans (m3.trans m4)))
  have e0 := hR4.cell (j := 0) rfl
  have e1 := hR4.cell (j := 1) rfl
  have e2 := hR4.frozen 0
  have e3 := hR4.frozen 1
  have hZ := Blk2.put hR4 (.slice om3 u.1.length cm3) (.slice ob3 u.2.length cb3)
  have hmZ := Mem2.put hm4 (b := w.heap.size + 1) (by omega) (.slice om3 u.1.length cm3) (.slice ob3 u.2.length cb3)
  have hTZ := ((hT.mem m4).put2 (b := w.heap.size + 1) (by omega) (.slice om3 u.1.length cm3) (.slice ob3 u.2.length cb3)).mono (S' := fun x => w.heap.size ≤ x) fun g hg _ => by omega
  clear hT j1 j2 ht i1 i2 hfd
  go_wp2_with fail
  exact bodyPost_ret (ret_tabN rfl _ _ rfl hZ) rfl ⟨⟨_, by rw [hG1.out]; rfl, by rw [hG1.out, hG2.out, hG.out]; exact hTZ⟩, hmZ⟩
set_option maxHeartbeats 2000000 in
set_option maxRecDepth 100000 in
theorem refReplay : ReplaySpec 20 := by
  intro S vb bs br off ops n w hb hf hsz
  obtain ⟨oa, ca, rfl⟩ := hb.shape
  have hm : Mem w ((w.alloc (.cells #[.slice oa bs.length ca, .bool br, .bool off, .int .i64 ops] 42)).alloc (.cells #[.slice none 0 0, .slice none 0 0] 26)) := ((Mem.refl w).alloc _).alloc _
  have hC : Blk ((w.alloc (.cells #[.slice oa bs.length ca, .bool br, .bool off, .int .i64 ops] 42)).alloc (.cells #[.slice none 0 0, .slice none 0 0] 26)) w.heap.size 42 #[.slice oa bs.length ca, .bool br, .bool off, .int .i64 ops] := (Blk.new w _ _).alloc _
  have hR : Blk ((w.alloc (.cells #[.slice oa bs.length ca, .bool br, .bool off, .int .i64 ops] 42)).alloc (.cells #[.slice none 0 0, .slice none 0 0] 26)) (w.heap.size + 1) 26 #[.slice none 0 0, .slice none 0 0] := by
    have := Blk.new (w.alloc (.cells #[.slice oa bs.length ca, .bool br, .bool off, .int .i64 ops] 42)) #[.slice none 0 0, .slice none 0 0] 26
    simpa using this
  have hs0 : w.heap.size + 2 ≤ ((w.alloc (.cells #[.slice oa bs.length ca, .bool br, .bool off, .int .i64 ops] 42)).alloc (.cells #[.slice none 0 0, .slice none 0 0] 26)).heap.size := by simp
  replace hb := hb.mem hm
  have HF := hide hf
  have HSZ := hide hsz
  have hn := newT_len n
  have hn2 := cutN_le n
  have hl1 : (newT n).1.length ≤ 1000 := by omega
  have hl2 : (newT n).2.length ≤ 1000 := by omega
  clear hf hsz hn hn2
  simp only [chipV]
  go_enter Try.func20, Try.ntmps20
  go_wp2_with fail
  generalize (w.alloc (.cells #[.slice oa bs.length ca, .bool br, .bool off, .int .i64 ops] 42)).alloc (.cells #[.slice none 0 0, .slice none 0 0] 26) = W at *
  refine (refNew7 n _).mono ?_
  rintro e w1 ⟨⟨v1, rfl, ht⟩, m1⟩
  obtain ⟨om, cm, ob, cb, e2, i1, i2⟩ := id ht
  have hs1 := Nat.le_trans hs0 (Mem.size m1)
  replace ht := ht.mono (S' := fun x => w.heap.size + 2 ≤ x ∧ x ≠ w1.heap.size) fun g hg hl => by omega
  generalize hG2 : newT n = t at *
  replace hG2 := hide hG2
  subst e2
  have ma := (Mem.refl w1).alloc (.cells #[.slice om t.1.length cm, .slice ob t.2.length cb] 26)
  have hA := TabAt.of (Blk.new w1 #[.slice om t.1.length cm, .slice ob t.2.length cb] 26) (ht.mem ma)
  have hC1 := hC.mem (m1.trans ma)
  have hR1 := hR.mem (m1.trans ma)
  have hb1 := hb.mem (m1.trans ma)
  have hm1 := hm.trans (m1.trans ma)
  have c0 := hC1.cell (j := 0) rfl
  have c1 := hC1.cell (j := 1) rfl
  have c2 := hC1.cell (j := 2) rfl
  have c3 := hC1.cell (j := 3) rfl
  clear i1 i2 ht hb hC hR hm
  go_wp2_with fail
  generalize hW1 : w1.alloc (.cells #[.slice om t.1.length cm, .slice ob t.2.length cb] 26) = W1 at *
  have hBW : w1.heap.size < W1.heap.size := by rw [← hW1]; exact new_lt w1 _
  have hBw : w.heap.size ≤ w1.heap.size := by omega
  have hB1 : w.heap.size + 1 ≠ w1.heap.size := by omega
  generalize w1.heap.size = B at *
  clear hW1 ma m1
  refine (refAll _ _ bs br off ops _ hb1 HF.out HSZ.out).mono ?_
  rintro e w2 ⟨⟨v2, rfl, hfd⟩, m2⟩
  obtain ⟨o2, c2', rfl⟩ := hfd.shape
  generalize hG1 : allC bs = fs at *
  replace hG1 := hide hG1
  have hA2 := hA.mem m2
  have hR2 := hR1.mem m2
  have hm2 := hm1.trans m2
  have hsz2 := Nat.lt_of_lt_of_le hBW (Mem.size m2)
  have hfl := hfd.1
  unfold maxLen at hfl
  clear hA hR1 hm1 hC1 hb1 c0 c1 c2 c3
  go_wp2_with fail
  go_loopw [8, 9] (fun a c wr => ∃ i : Nat, i ≤ fs.length ∧ c = .int .i64 i ∧ a = .int .i64 (seqT (fs.take i) 0) ∧ TabAt (fun x => w.heap.size + 2 ≤ x ∧ x ≠ B) wr B (foldT (fs.take i) t) ∧ FoundsAt (fun x => W1.heap.size ≤ x) wr (.slice o2 fs.length c2') fs ∧ Blk wr (w.heap.size + 1) 26 #[.slice none 0 0, .slice none 0 0] ∧ Mem w wr ∧ B < wr.heap.size) (fun _ c _ => fs.length - (intOf c).toNat)
  case atStart => exact ⟨0, Nat.zero_le _, rfl, rfl, hA2, hfd, hR2, hm2, hsz2⟩
  case round =>
    clear hA2 hfd hR2 hm2 hsz2 m2
    obtain ⟨i, hi, rfl, rfl, hA, hfd, hR, hmr, hsz⟩ := hrel
    have hu := foldT_len (fs.take i) t
    by_cases hlt : i < fs.length
    · have hlt' : (i : Int) < (fs.length : Int) := by omega
      have hi0 : (0 : Int) ≤ (i : Int) := by omega
      obtain ⟨g, o, ok, ck, ov, cv, rfl, hSg, x0, x1, x2, x3, x4, i3, i4⟩ := hfd.at hlt
      have HT := hide (foldT_take fs t hlt)
      have HQ := hide (seqT_take fs 0 hlt)
      obtain ⟨om', cm', ob', cb', hB, j1, j2⟩ := id hA
      have b0 := hB.cell (j := 0) rfl
      have b1 := hB.cell (j := 1) rfl
      generalize foldT (fs.take i) t = u at *
      have hl3 : u.1.length ≤ 1000 := by omega
      have hl4 : u.2.length ≤ 1000 := by omega
      have HI1 := hide j1.ints
      have HI2 := hide j2.ints
      have HI3 := hide i3.ints
      have HI4 := hide i4.ints
      have md := Mem.drew (Mem.refl wr)
      clear hA hu j1 j2 i3 i4
      go_wp2_with fail
      go_region_with (go_at_call 16; refine (refApply u om' ob' cm' cb' fs[i].1 fs[i].2.1 fs[i].2.2.1 ok ov ck cv fs[i].2.2.2.1 fs[i].2.2.2.2 _ (Ints.mem HI1.out md) (Ints.mem HI2.out md) hl3 hl4 (Ints.mem HI3.out md) (Ints.mem HI4.out md)).mono ?_; rintro e w3 ⟨⟨v3, rfl, hV⟩, m3⟩; obtain ⟨om3, cm3, ob3, cb3, rfl, _, _⟩ := id hV; have hB3 := hB.mem (md.trans m3); have b3 := hB3.cell (j := 0) rfl; have b4 := hB3.cell (j := 1) rfl; have f3 := hB3.frozen 0; have f4 := hB3.frozen 1)
      all_goals (
        have hm3 := Mem.trans md m3
        replace hV := hV.mono (S' := fun x => w.heap.size + 2 ≤ x ∧ x ≠ B) fun g hg _ => by
          have : wr.heap.size ≤ g := hg
          exact ⟨by omega, by omega⟩
        generalize hG : applyT u (fs[i].1, fs[i].2.1, fs[i].2.2.1, fs[i].2.2.2.1, fs[i].2.2.2.2) = u' at *
        replace hG := HT
        have hA4 := TabAt.store hB3 hV (fun h => h.2 rfl)
        have hfd4 := ((hfd.mem hm3).setCell (p := ⟨B, 0, none⟩) (by show ¬ W1.heap.size ≤ B; omega) (.slice om3 u'.1.length cm3)).setCell (p := ⟨B, 1, none⟩) (by show ¬ W1.heap.size ≤ B; omega) (.slice ob3 u'.2.length cb3)
        have hne : g ≠ B := by
          have : W1.heap.size ≤ g := hSg
          omega
        have hR4 := Blk2.far (hR.mem hm3) (b' := B) (by omega) (.slice om3 u'.1.length cm3) (.slice ob3 u'.2.length cb3)
        have hm4 := Mem2.put (hmr.trans hm3) (b := B) hBw (.slice om3 u'.1.length cm3) (.slice ob3 u'.2.length cb3)
        have hs4 : B < ((w3.setCell ⟨B, 0, none⟩ (.slice om3 u'.1.length cm3)).setCell ⟨B, 1, none⟩ (.slice ob3 u'.2.length cb3)).heap.size := by rw [size_setCell, size_setCell]; exact Nat.lt_of_lt_of_le hsz (Mem.size hm3)
        have y2 : ((w3.setCell ⟨B, 0, none⟩ (.slice om3 u'.1.length cm3)).setCell ⟨B, 1, none⟩ (.slice ob3 u'.2.length cb3)).cell? ⟨g, o + i * 5 + 2, none⟩ = some (.int .i64 fs[i].2.2.1) := by
          rw [World.cell?_of_block (w := w3.setCell ⟨B, 0, none⟩ (.slice om3 u'.1.length cm3)) (a := ⟨g, o + i * 5 + 2, none⟩) (Below.heap_setCell _ _ _ g hne), World.cell?_of_block (w := w3) (a := ⟨g, o + i * 5 + 2, none⟩) (Below.heap_setCell _ _ _ g hne), Below.cell hm3 (p := ⟨g, o + i * 5 + 2, none⟩) (World.block_lt_of_cell? wr _ x2)]
          exact x2
        clear HT hV hB3 hR hfd hm3 m3 b0 b1 b3 b4 f3 f4 x0 x1 x2 x3 x4 hB hmr md
        generalize (w3.setCell ⟨B, 0, none⟩ (.slice om3 u'.1.length cm3)).setCell ⟨B, 1, none⟩ (.slice ob3 u'.2.length cb3) = W5 at *
        go_wp2_with fail
        go_roundw
        case rel => exact ⟨i + 1, by omega, by go_num, int_eq HQ.out.symm, by rw [hG.out]; exact hA4, hfd4, hR4, hm4, hs4⟩
        case measure => simp [intOf]; omega)
    · have hie : i = fs.length := by omega
      subst hie
      have hlt' : ¬ ((fs.length : Int) < (fs.length : Int)) := by omega
      have HQ : Hid (seqT (fs.take fs.length) 0 = seqT fs 0) := by unfold Hid; rw [List.take_length]
      rw [List.take_length] at hA
      obtain ⟨om', cm', ob', cb', hB, j1, j2⟩ := id hA
      have hV := hA.val hB j1 j2
      have hZ := Blk2.put hR (.slice om' (foldT fs t).1.length cm') (.slice ob' (foldT fs t).2.length cb')
      have hmZ := Mem2.put hmr (b := w.heap.size + 1) (by omega) (.slice om' (foldT fs t).1.length cm') (.slice ob' (foldT fs t).2.length cb')
      have hT := (hV.put2 (b := w.heap.size + 1) (by omega) (.slice om' (foldT fs t).1.length cm') (.slice ob' (foldT fs t).2.length cb')).mono (S' := fun x => w.heap.size ≤ x) fun g hg _ => by omega
      have b0 := hB.cell (j := 0) rfl
      have b1 := hB.cell (j := 1) rfl
      have e0 := hR.cell (j := 0) rfl
      have e1 := hR.cell (j := 1) rfl
      have e2 := hR.frozen 0
      have e3 := hR.frozen 1
      clear hA hB hV j1 j2 hu hR hfd
      generalize hG : foldT fs t = u at *
      replace hG := hide hG
      go_wp2_with fail
      exact bodyPost_ret (ret_tabN rfl _ _ rfl hZ) rfl ⟨⟨_, by rw [hG1.out]; rfl, by rw [hG1.out, hG2.out, hG.out]; exact hT⟩, hmZ⟩
end Go.Proofs.Ytbibkheiagglbaa.Replay
