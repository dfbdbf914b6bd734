/-
  Layer 8, the document: Owners, Says, Live, Count.
-/
import Derived.Test.YtegamnaahipedaaLiveCode
namespace Go.Proofs.Ytegamnaahipedaa.Live
open Go.RowKit Go.Proofs.Ytegamnaahipedaa.Replay Go.Proofs.Ytegamnaahipedaa.Scan

set_option maxHeartbeats 2000000 in
set_option maxRecDepth 100000 in
theorem refWhich (oa : Option Addr) (ca : Nat) (zs : List Int) (p : Int) (w : World) (hz : Ints .i64 w (.slice oa zs.length ca) zs) (hl : zs.length ≤ 1000) :
    Calls Try.prog 60 #[.slice oa zs.length ca, .int .i64 p] w fun e w' => (∃ v, e = .returned v ∧ IntsIn (fun x => w.heap.size ≤ x) w' v (which zs p) ∧ CapOk v) ∧ Mem w w' := by
  by_cases h0 : 0 ≤ p
  · go_enter Try.func60, Try.ntmps60
    go_wp2
    go_loopw [5, 6] (fun v i wr => ∃ k : Nat, k ≤ zs.length ∧ i = .int .i64 k ∧ wr.ownsRow w.heap.size 3 1 v (whichN zs p k).length (icells (whichN zs p k)) ∧ Mem w wr) (fun _ i _ => zs.length - (intOf i).toNat)
    case atStart => exact ⟨0, Nat.zero_le _, rfl, World.ownsRow_nil _ _ _ _, Mem.refl _⟩
    case round =>
      obtain ⟨k, hk, rfl, hown, hmr⟩ := hrel
      by_cases hlt : k < zs.length
      · have hlt' : (k : Int) < (zs.length : Int) := by omega
        have hk0 : (0 : Int) ≤ (k : Int) := by omega
        obtain ⟨ab, ao, rfl, hc⟩ := (hz.mem hmr).at (by omega)
        have d0 := hc k hlt
        have HYes := hide (fun (h1 : 0 ≤ p) (h2 : zs.getD k 0 = p) => whichN_yes (l := zs) h1 h2)
        have HNo := hide (fun h => whichN_no (l := zs) (p := p) (k := k) h)
        have hln := whichN_len zs p k
        clear hc
        generalize zs.getD k 0 = x at *
        by_cases h2 : x = p
        · have HE := hide (HYes.out h0 h2)
          subst h2
          have hmw := Mem8.size hmr
          go_wp2_with (at_builtin; refine pushI rfl _ _ rfl w.heap.size _ (whichN zs x k) _ rfl hown hmw k rfl (by omega) ?_; intro v2 w2 o2 b2)
          have m2 : Mem w w2 := Below.trans hmr b2
          have HL : Hid ((whichN zs x k).length + 1 = (whichN zs x (k + 1)).length) := by show _ = _; rw [HE.out]; simp
          rw [HL.out, ← HE.out] at o2
          go_roundw
          case rel => exact ⟨k + 1, by omega, by go_num, o2, m2⟩
          case measure => simp [intOf]; omega
        · have HE := hide (HNo.out (fun h => h2 h.2))
          rw [← HE.out] at hown
          go_wp2
          go_roundw
          case rel => exact ⟨k + 1, by omega, by go_num, hown, hmr⟩
          case measure => simp [intOf]; omega
      · have hke : k = zs.length := by omega
        subst hke
        have hlt' : ¬ ((zs.length : Int) < (zs.length : Int)) := by omega
        go_wp2
        go_ret
        exact ⟨⟨_, rfl, IntsIn.of_owns hown, CapOk.owns hown⟩, hmr⟩
  · have h0' : p ≤ -1 := by omega
    have HE : Hid (which zs p = []) := whichN_neg (by omega) _
    have hI : IntsIn (fun x => w.heap.size ≤ x) w (.slice none 0 0) (which zs p) := by rw [HE.out]; exact ⟨by simp, .inl ⟨rfl, none, 0, rfl⟩⟩
    by_cases hlt : 0 < zs.length
    · have hlt' : (0 : Int) < (zs.length : Int) := by omega
      go_enter Try.func60, Try.ntmps60
      go_wp2
      refine wp_loop_rounds 1 ?_
      rw [rounds_succ]
      go_wp2
      go_ret
      exact ⟨⟨_, rfl, hI, CapOk.nil _ _⟩, Mem.refl _⟩
    · have hlt' : (zs.length : Int) ≤ 0 := by omega
      go_enter Try.func60, Try.ntmps60
      go_wp2
      refine wp_loop_rounds 1 ?_
      rw [rounds_succ]
      go_wp2
      go_ret
      exact ⟨⟨_, rfl, hI, CapOk.nil _ _⟩, Mem.refl _⟩

set_option maxHeartbeats 1000000 in
set_option maxRecDepth 100000 in
theorem refOwners (t : TableT) (om ob : Option Addr) (cm cb : Nat) (p : Int) (w : World) (h1 : Ints .i64 w (.slice om t.1.length cm) t.1) (hl : t.1.length ≤ 1000) :
    Calls Try.prog 49 #[.agg #[.slice om t.1.length cm, .slice ob t.2.length cb], .int .i64 p] w fun e w' => (∃ v, e = .returned v ∧ IntsIn (fun x => w.heap.size ≤ x) w' v (which t.1 p) ∧ CapOk v) ∧ Mem w w' := by
  have hY := Blk.new w #[.slice om t.1.length cm, .slice ob t.2.length cb] 27
  have ma : Mem w (w.alloc (.cells #[.slice om t.1.length cm, .slice ob t.2.length cb] 27)) := (Mem.refl w).alloc _
  have hs := Mem8.size ma
  replace h1 := h1.mem ma
  go_enter Try.func49, Try.ntmps49
  go_wp2_with fail
  generalize hW : w.alloc (.cells #[.slice om t.1.length cm, .slice ob t.2.length cb] 27) = W at *
  clear hW
  refine (refWhich om cm t.1 p W h1 hl).mono ?_
  rintro e w1 ⟨⟨v, rfl, h2, hcv⟩, m2⟩
  go_wp2_with fail
  go_ret
  exact ⟨⟨v, rfl, h2.mono fun g hg _ => Nat.le_trans hs hg, hcv⟩, ma.trans m2⟩

set_option maxHeartbeats 1000000 in
set_option maxRecDepth 100000 in
theorem refSays (t : TableT) (om ob : Option Addr) (cm cb : Nat) (p : Int) (w : World) (h1 : Ints .i64 w (.slice ob t.2.length cb) t.2) (hl : t.2.length ≤ 1000) :
    Calls Try.prog 50 #[.agg #[.slice om t.1.length cm, .slice ob t.2.length cb], .int .i64 p] w fun e w' => (∃ v, e = .returned v ∧ IntsIn (fun x => w.heap.size ≤ x) w' v (which t.2 p) ∧ CapOk v) ∧ Mem w w' := by
  have hY := Blk.new w #[.slice om t.1.length cm, .slice ob t.2.length cb] 27
  have ma : Mem w (w.alloc (.cells #[.slice om t.1.length cm, .slice ob t.2.length cb] 27)) := (Mem.refl w).alloc _
  have hs := Mem8.size ma
  replace h1 := h1.mem ma
  go_enter Try.func50, Try.ntmps50
  go_wp2_with fail
  generalize hW : w.alloc (.cells #[.slice om t.1.length cm, .slice ob t.2.length cb] 27) = W at *
  clear hW
  refine (refWhich ob cb t.2 p W h1 hl).mono ?_
  rintro e w1 ⟨⟨v, rfl, h2, hcv⟩, m2⟩
  go_wp2_with fail
  go_ret
  exact ⟨⟨v, rfl, h2.mono fun g hg _ => Nat.le_trans hs hg, hcv⟩, ma.trans m2⟩

set_option maxHeartbeats 2000000 in
set_option maxRecDepth 100000 in
theorem refLive (t : TableT) (om ob : Option Addr) (cm cb : Nat) (p : Int) (w : World) (h1 : Ints .i64 w (.slice om t.1.length cm) t.1) (h2 : Ints .i64 w (.slice ob t.2.length cb) t.2) (hl1 : t.1.length ≤ 1000) (hl2 : t.2.length ≤ 1000) :
    Calls Try.prog 33 #[.agg #[.slice om t.1.length cm, .slice ob t.2.length cb], .int .i64 p] w fun e w' => e = .returned (.bool (liveT t p)) ∧ Mem w w' := by
  have ha : Mem w (w.alloc (.cells #[.slice om t.1.length cm, .slice ob t.2.length cb] 27)) := (Mem.refl w).alloc _
  have hY := Blk.new w #[.slice om t.1.length cm, .slice ob t.2.length cb] 27
  have HT := hide (live_which t p)
  have x0 := hY.cell (j := 0) rfl
  have x1 := hY.cell (j := 1) rfl
  go_enter Try.func33, Try.ntmps33
  go_wp2_with fail
  refine (refOwners t om ob cm cb p _ (h1.mem ha) hl1).mono ?_
  rintro e w1 ⟨⟨v, rfl, i1, -⟩, m1⟩
  obtain ⟨o1, c1, rfl⟩ := i1.ints.shape
  have hY1 := hY.mem m1
  have y0 := hY1.cell (j := 0) rfl
  have y1 := hY1.cell (j := 1) rfl
  clear x0 x1
  generalize (which t.1 p).length = n1 at *
  have m1' := ha.trans m1
  by_cases hn : 0 < n1
  · have hn' : (0 : Int) < (n1 : Int) := by omega
    have HE : Hid (liveT t p = true) := by show _ = _; rw [HT.out, decide_eq_true hn]; rfl
    clear i1
    go_wp2_with fail
    go_ret
    exact ⟨ret_b HE.out.symm, m1'⟩
  · have hn' : (n1 : Int) ≤ 0 := by omega
    have HE : Hid (liveT t p = decide (0 < (which t.2 p).length)) := by show _ = _; rw [HT.out, decide_eq_false hn]; rfl
    clear i1
    go_wp2_with fail
    refine (refSays t om ob cm cb p _ (h2.mem m1') hl2).mono ?_
    rintro e w2 ⟨⟨v, rfl, i2, -⟩, m2⟩
    obtain ⟨o2, c2, rfl⟩ := i2.ints.shape
    generalize (which t.2 p).length = n2 at *
    have m2' := m1'.trans m2
    clear i2
    by_cases hn2 : 0 < n2
    · have hn2' : (0 : Int) < (n2 : Int) := by omega
      have HF : Hid (liveT t p = true) := by show _ = _; rw [HE.out, decide_eq_true hn2]
      go_wp2_with fail
      go_ret
      exact ⟨ret_b HF.out.symm, m2'⟩
    · have hn2' : (n2 : Int) ≤ 0 := by omega
      have HF : Hid (liveT t p = false) := by show _ = _; rw [HE.out, decide_eq_false hn2]
      go_wp2_with fail
      go_ret
      exact ⟨ret_b HF.out.symm, m2'⟩
set_option maxHeartbeats 2000000 in
set_option maxRecDepth 100000 in
theorem refCount (t : TableT) (om ob : Option Addr) (cm cb : Nat) (b : Int) (w : World) (h1 : Ints .i64 w (.slice om t.1.length cm) t.1) (h2 : Ints .i64 w (.slice ob t.2.length cb) t.2) (hl1 : t.1.length ≤ 1000) (hl2 : t.2.length ≤ 1000) :
    Calls Try.prog 16 #[.agg #[.slice om t.1.length cm, .slice ob t.2.length cb], .int .i64 b] w fun e w' => e = .returned (.int .i64 (countT t b)) ∧ Mem w w' := by
  have ha : Mem w (w.alloc (.cells #[.slice om t.1.length cm, .slice ob t.2.length cb] 27)) := (Mem.refl w).alloc _
  have hY := Blk.new w #[.slice om t.1.length cm, .slice ob t.2.length cb] 27
  by_cases hb : 0 ≤ b ∧ b < 32
  · obtain ⟨hb0, hb1⟩ := hb
    go_enter Try.func16, Try.ntmps16
    go_wp2_with fail
    generalize hW : w.alloc (.cells #[.slice om t.1.length cm, .slice ob t.2.length cb] 27) = W at *
    clear hW
    go_loopw [5, 6] (fun c i wr => ∃ k : Nat, k ≤ 16 ∧ i = .int .i64 k ∧ c = .int .i64 (countN t b k) ∧ Mem W wr) (fun _ i _ => 16 - (intOf i).toNat)
    case atStart => exact ⟨0, by omega, rfl, rfl, Mem.refl _⟩
    case round =>
      obtain ⟨k, hk, rfl, rfl, hmr⟩ := hrel
      by_cases hlt : k < 16
      · have hlt' : (k : Int) < 16 := by omega
        have hk0 : (0 : Int) ≤ (k : Int) := by omega
        have hc := countN_le t b k
        have hYr := hY.mem hmr
        have x0 := hYr.cell (j := 0) rfl
        have x1 := hYr.cell (j := 1) rfl
        have HY := hide (fun h => countN_yes (t := t) (b := b) (k := k) h)
        have HN := hide (fun h => countN_no (t := t) (b := b) (k := k) h)
        rw [place_in ⟨hb0, hb1⟩ hlt] at HY HN
        clear hYr
        go_wp2_with fail
        refine (refLive t om ob cm cb _ wr (h1.mem (ha.trans hmr)) (h2.mem (ha.trans hmr)) hl1 hl2).mono ?_
        rintro e w1 ⟨rfl, m1⟩
        have m1' := hmr.trans m1
        cases hv : liveT t (b * 16 + k) with
        | true =>
          have HE := hide (HY.out hv)
          clear hv
          go_wp2_with fail
          go_roundw
          case rel => exact ⟨k + 1, by omega, by go_num, by rw [HE.out]; go_num, m1'⟩
          case measure => simp [intOf]; omega
        | false =>
          have HE := hide (HN.out hv)
          clear hv
          go_wp2_with fail
          go_roundw
          case rel => exact ⟨k + 1, by omega, by go_num, by rw [HE.out], m1'⟩
          case measure => simp [intOf]; omega
      · have hke : k = 16 := by omega
        subst hke
        go_wp2_with fail
        go_ret
        exact ⟨rfl, ha.trans hmr⟩
  · have HE : Hid (countT t b = 0) := countN_out (by omega) 16
    rw [HE.out]
    by_cases hb0 : 0 ≤ b
    · have hb1 : 32 ≤ b := by omega
      clear hb
      go_enter Try.func16, Try.ntmps16
      go_wp2_with fail
      refine wp_loop_rounds 1 ?_
      rw [rounds_succ]
      go_wp2_with fail
      go_ret
      exact ⟨rfl, ha⟩
    · have hb1 : b ≤ -1 := by omega
      clear hb
      go_enter Try.func16, Try.ntmps16
      go_wp2_with fail
      refine wp_loop_rounds 1 ?_
      rw [rounds_succ]
      go_wp2_with fail
      go_ret
      exact ⟨rfl, ha⟩
end Go.Proofs.Ytegamnaahipedaa.Live
