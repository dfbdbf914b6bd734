/-
  Layer 5: New, by the document.
-/
import Derived.Test.YtcjhaapmehegkaaNandAwake
import Derived.Test.YtcjhaapmehegkaaChipMakes
import Derived.Deep.RegionLaw
namespace Go.Proofs.Ytcjhaapmehegkaa.Nand
open Go.RowKit

def newBlocks (N M : Nat) (bad : List Int) : List BlockT := (List.range N).map fun (i : Nat) => (List.replicate M zeroPage, (0 : Int), (0 : Int), decide ((i : Int) ∈ bad))
theorem newBlocks_length (N M : Nat) (bad : List Int) : (newBlocks N M bad).length = N := by simp [newBlocks]
theorem newBlocks_get (N M : Nat) (bad : List Int) {i : Nat} (h : i < N) : (newBlocks N M bad)[i]? = some (List.replicate M zeroPage, 0, 0, decide ((i : Int) ∈ bad)) := by simp [newBlocks, h]
theorem newBlocks_set (N M : Nat) (l : List Int) {j : Nat} (h : j < N) : (newBlocks N M l).set j (List.replicate M zeroPage, 0, 0, true) = newBlocks N M (l ++ [(j : Int)]) := by
  apply List.ext_getElem?
  intro i
  rw [List.getElem?_set]
  by_cases hi : i < N
  · rw [newBlocks_get N M (l ++ [(j : Int)]) hi]
    by_cases e : j = i
    · subst e
      rw [if_pos rfl, if_pos (by rw [newBlocks_length]; exact h), decide_eq_true (show (j : Int) ∈ l ++ [(j : Int)] by simp)]
    · rw [if_neg e, newBlocks_get N M l hi]
      have hm : ((i : Int) ∈ l ++ [(j : Int)]) ↔ ((i : Int) ∈ l) := by
        rw [List.mem_append, List.mem_singleton]
        exact ⟨fun h => h.elim id (fun h => absurd (by omega) e), .inl⟩
      rw [decide_eq_decide.2 hm]
  · have e : ¬ j = i := by omega
    rw [if_neg e, List.getElem?_eq_none (by rw [newBlocks_length]; omega), List.getElem?_eq_none (by rw [newBlocks_length]; omega)]
theorem newC_yes {N M : Nat} {bad : List Int} (h1 : 1 ≤ N) (h2 : N ≤ 32) (h3 : 1 ≤ M) (h4 : M ≤ 16) (hb : ∀ b ∈ bad, 0 ≤ b ∧ b < (N : Int)) : newC N M bad = ((newBlocks N M bad, false, false, 0), 0) := by
  unfold newC
  rw [if_pos ⟨by omega, by omega, by omega, by omega, hb⟩]
  rfl
theorem newC_no {n m : Int} {bad : List Int} (h : ¬ (1 ≤ n ∧ n ≤ 32 ∧ 1 ≤ m ∧ m ≤ 16 ∧ ∀ b ∈ bad, 0 ≤ b ∧ b < n)) : newC n m bad = (([], false, false, 0), 1) := by
  unfold newC; rw [if_neg h]
theorem OwningV.setCell {vs : List Value} {R : Nat → Nat → Prop} {bs : List BlockT} {base hi : Nat} {w : World} {l : Value} {k : Nat} (h : OwningV vs R bs base hi w l k) {p : Addr} (hp : p.block < base) (x : Value) : OwningV vs R bs base hi (w.setCell p x) l k := by
  obtain ⟨h1, h2, h2', h3, h4, h5, h6, h7⟩ := h
  exact ⟨h1, by rw [size_setCell]; exact h2, h2', ownsRow_setCell_below h3 hp x, fun i a b => (h4 i a b).setCell (fun hx => by have := (h5 i _ hx).2.1; omega) x, fun i y hy => by
    obtain ⟨a, b, c, d, e⟩ := h5 i y hy
    exact ⟨a, b, c, d.setCell _ _, e⟩, h6, h7⟩

set_option maxHeartbeats 4000000 in
set_option maxRecDepth 100000 in
theorem refNew : NewSpec 23 := by
  intro n m vl bad w hl hlen
  obtain ⟨ob, cb, rfl⟩ := hl.shape
  have hR0 := Blk.new w #[.slice none 0 0, .bool false, .bool false, .int .i64 0] 24
  have hm0 : Mem w (w.alloc (.cells #[.slice none 0 0, .bool false, .bool false, .int .i64 0] 24)) := (Mem.refl w).alloc _
  by_cases hg : 1 ≤ n ∧ n ≤ 32 ∧ 1 ≤ m ∧ m ≤ 16
  case neg =>
    have HN : Hid (newC n m bad = (([], false, false, 0), 1)) := newC_no (fun h => hg ⟨h.1, h.2.1, h.2.2.1, h.2.2.2.1⟩)
    have hc : n < 1 ∨ (1 ≤ n ∧ 32 < n) ∨ (1 ≤ n ∧ n ≤ 32 ∧ m < 1) ∨ (1 ≤ n ∧ n ≤ 32 ∧ 1 ≤ m ∧ 16 < m) := by omega
    clear hg
    rcases hc with h | ⟨h, h'⟩ | ⟨h, h', h''⟩ | ⟨h, h', h'', h'''⟩
    all_goals (
      go_enter Try.func23, Try.ntmps23
      go_wp2_with fail
      refine bodyPost_ret (ret_chip rfl _ _ rfl hR0) rfl ⟨?_, hm0⟩
      rw [HN.out]
      exact ⟨_, rfl, by simp [maxLen], .inl ⟨rfl, _, _, rfl⟩⟩)
  obtain ⟨h1, h2, h3, h4⟩ := hg
  obtain ⟨N, rfl⟩ := Int.eq_ofNat_of_zero_le (show 0 ≤ n by omega)
  obtain ⟨M, rfl⟩ := Int.eq_ofNat_of_zero_le (show 0 ≤ m by omega)
  have hmk := run_makePages M (by omega)
  have hR : Blk ((w.alloc (.cells #[.slice none 0 0, .bool false, .bool false, .int .i64 0] 24)).alloc (.cells #[.slice none 0 0, .bool false, .bool false, .int .i64 0] 24)) w.heap.size 24 #[.slice none 0 0, .bool false, .bool false, .int .i64 0] := hR0.alloc _
  have hC := blk_second w (.cells #[.slice none 0 0, .bool false, .bool false, .int .i64 0] 24) #[.slice none 0 0, .bool false, .bool false, .int .i64 0] 24
  have hm : Mem w ((w.alloc (.cells #[.slice none 0 0, .bool false, .bool false, .int .i64 0] 24)).alloc (.cells #[.slice none 0 0, .bool false, .bool false, .int .i64 0] 24)) := hm0.alloc _
  have HL := hide hl
  have hbl := hl.1
  unfold maxLen at hbl
  clear hl
  go_enter Try.func23, Try.ntmps23
  go_wp2_with fail
  generalize hW : ((w.alloc (.cells #[.slice none 0 0, .bool false, .bool false, .int .i64 0] 24)).alloc (.cells #[.slice none 0 0, .bool false, .bool false, .int .i64 0] 24)) = W at *
  clear hW hR0 hm0
  have hbase : w.heap.size + 1 < W.heap.size := hC.lt
  go_loopw [9] (fun a wr => ∃ (k : Nat) (l : Value), k ≤ N ∧ a = .int .i64 k ∧ Owning (newBlocks N M []) W.heap.size wr.heap.size wr l k ∧ Blk wr (w.heap.size + 1) 24 #[l, .bool false, .bool false, .int .i64 0] ∧ Blk wr w.heap.size 24 #[.slice none 0 0, .bool false, .bool false, .int .i64 0] ∧ Mem w wr) (fun a _ => N - (intOf a).toNat)
  case atStart => exact ⟨0, _, Nat.zero_le _, rfl, Owning.start _ W, hC, hR, hm⟩
  case round =>
    obtain ⟨k, l, hk, rfl, hO, hC1, hR1, hm1⟩ := hrel
    have c0 := hC1.cell (j := 0) rfl
    have fc := hC1.frozen 0
    by_cases hlt : k < N
    · have hlt' : (k : Int) < (N : Int) := by omega
      obtain ⟨vs, R, hV⟩ := hO
      have mP : Mem wr (wr.alloc (.cells (madeCells zpage (M * 3)) 27)) := (Mem.refl wr).alloc _
      have hV2 := hV.mem mP
      have hle := Nat.le_trans hV2.2.2.1 hV2.2.1
      have hvl : vs.length = ((newBlocks N M []).take k).length := by rw [hV2.1, List.length_take, newBlocks_length]; omega
      have hk1 : k ≤ 1000 := by omega
      obtain ⟨ol, cl, hsh⟩ := ownsShape hV2.2.2.2.1
      subst hsh
      have KS : Hid (∀ W', Below W.heap.size wr W' → W'.cell? ⟨w.heap.size + 1, 0, none⟩ = some (.slice ol k cl) ∧ W'.frozen? ⟨w.heap.size + 1, 0, none⟩ = false) := fun W' h => ⟨by rw [Below.cell h (p := ⟨w.heap.size + 1, 0, none⟩) hbase]; exact c0, by rw [Below.frozen h (p := ⟨w.heap.size + 1, 0, none⟩) hbase]; exact fc⟩
      have a1 := (KS.out (wr.alloc (.cells (madeCells zpage (M * 3)) 27)) ((Below.refl _ wr).alloc (Nat.le_trans hV.2.2.1 hV.2.1) _)).1
      have a2 := (KS.out ((wr.alloc (.cells (madeCells zpage (M * 3)) 27)).alloc (.cells #[.slice (some ⟨wr.heap.size, 0, none⟩) M M, .int .i64 0, .int .i64 0, .bool false] 34)) (((Below.refl _ wr).alloc (Nat.le_trans hV.2.2.1 hV.2.1) _).alloc hle _)).1
      have hk2 : k < (newBlocks N M []).length := by rw [newBlocks_length]; exact hlt
      have HG : Hid ((newBlocks N M [])[k] = (List.replicate M zeroPage, 0, 0, false)) := by
        have h := newBlocks_get N M [] hlt
        rw [List.getElem?_eq_getElem hk2] at h
        injection h with h
      have HP3 : Hid (PagesAt (fun x => (Value.slice (some ⟨wr.heap.size, 0, none⟩) M M).ownBlock = some x) (wr.alloc (.cells (madeCells zpage (M * 3)) 27)) (.slice (some ⟨wr.heap.size, 0, none⟩) M M) (newBlocks N M [])[k].1) := by
        rw [HG.out]
        exact (made_pagesAt wr M (by omega)).mono fun x hx _ => by rw [hx]; rfl
      have HP2 : Hid (∀ x, (Value.slice (some ⟨wr.heap.size, 0, none⟩) M M).ownBlock = some x → wr.heap.size ≤ x ∧ x < (wr.alloc (.cells (madeCells zpage (M * 3)) 27)).heap.size ∧ Soft (wr.alloc (.cells (madeCells zpage (M * 3)) 27)) x) := fun x hx => by
        have e : wr.heap.size = x := by simpa [Value.ownBlock] using hx
        subst e
        exact ⟨Nat.le_refl _, by simp, Soft.of_owns (made_owns wr M (by omega) 0 (Nat.zero_le _)) rfl⟩
      go_wp2_with fail
      go_region_law ((refine step_pushBlock_drew (by rfl) _ _ (by rfl) W.heap.size _ vs ((newBlocks N M []).take k) hvl k (by rfl) hV2.2.2.2.1 hle (some ⟨wr.heap.size, 0, none⟩) M M (List.replicate M zeroPage, 0, 0, false) (wr.heap.size + 1) (by simp) (by rfl) hk1 ?_; intro l' w' g1 g2 g3; obtain ⟨ol', cl', hsh'⟩ := ownsShape g1; subst hsh'; have q1 := (KS.out _ (Below.trans ((Below.refl _ wr).alloc (Nat.le_trans hV.2.2.1 hV.2.1) _) ((Below.refl W.heap.size _).grown g2 hle (fun x hx => (hV2.2.2.2.1.lt x hx).1)))).1; have q2 := (KS.out _ (Below.trans ((Below.refl _ wr).alloc (Nat.le_trans hV.2.2.1 hV.2.1) _) ((Below.refl W.heap.size _).grown g2 hle (fun x hx => (hV2.2.2.2.1.lt x hx).1)))).2))
      all_goals (
        rw [← HG.out] at g1
        have hO' := hV2.push hk2 HP3.out HP2.out g1 g2 (W := wr.heap.size + 1) (by simp) (by simpa using g3)
        obtain ⟨vs', R', hV'⟩ := hO'
        have mB : Below W.heap.size wr w' := Below.trans ((Below.refl _ wr).alloc (Nat.le_trans hV.2.2.1 hV.2.1) _) ((Below.refl W.heap.size _).grown g2 hle (fun x hx => (hV2.2.2.2.1.lt x hx).1))
        have hC' : Blk (w'.setCell ⟨w.heap.size + 1, 0, none⟩ (.slice ol' (k + 1) cl')) (w.heap.size + 1) 24 #[.slice ol' (k + 1) cl', .bool false, .bool false, .int .i64 0] := (hC1.below mB hbase).set 0 _
        have hR' := (hR1.below mB (by omega)).other (a := ⟨w.heap.size + 1, 0, none⟩) (by show w.heap.size ≠ w.heap.size + 1; omega) (.slice ol' (k + 1) cl')
        have hm' : Mem w (w'.setCell ⟨w.heap.size + 1, 0, none⟩ (.slice ol' (k + 1) cl')) := Mem.setCell (Below.trans hm1 (Below.mono mB (by omega))) (p := ⟨w.heap.size + 1, 0, none⟩) (by show w.heap.size ≤ w.heap.size + 1; omega) _
        have hOn : Owning (newBlocks N M []) W.heap.size (w'.setCell ⟨w.heap.size + 1, 0, none⟩ (.slice ol' (k + 1) cl')).heap.size (w'.setCell ⟨w.heap.size + 1, 0, none⟩ (.slice ol' (k + 1) cl')) (.slice ol' (k + 1) cl') (k + 1) := ⟨vs', R', by rw [size_setCell]; exact hV'.setCell (p := ⟨w.heap.size + 1, 0, none⟩) hbase _⟩
        clear g1 g2 g3 hV' hV2 hV q1 q2 a1 a2 c0 fc hC1 hR1 hm1 HP3 HP2 HG KS mB mP
        go_wp2_with fail
        go_roundw
        case rel => exact ⟨k + 1, _, by omega, by go_num, hOn, hC', hR', hm'⟩
        case measure => simp [intOf]; omega)
    · have hke : k = N := by omega
      subst hke
      have hOB : OwnB W.heap.size wr l (newBlocks k M []) := Owning.whole (hi := wr.heap.size) (by rw [newBlocks_length]; exact hO)
      obtain ⟨g, cap, R, hl1, hcap, h1o⟩ := hOB.one (i := 0) (by rw [newBlocks_length]; omega)
      rw [newBlocks_length] at hl1 hcap
      have HCap := hide hcap
      clear hcap
      subst hl1
      clear hO hOB
      clear hC hR hm
      have hlt' : ¬ ((k : Int) < (k : Int)) := by omega
      go_wp2_with fail
      clear hlt' c0 fc
      go_loopw [10] (fun a wq => ∃ q : Nat, q ≤ bad.length ∧ a = .int .i64 q ∧ (∀ b ∈ bad.take q, 0 ≤ b ∧ b < (k : Int)) ∧ Own1 W.heap.size wq g R (newBlocks k M (bad.take q)) ∧ Blk wq (w.heap.size + 1) 24 #[.slice (some ⟨g, 0, none⟩) k cap, .bool false, .bool false, .int .i64 0] ∧ Blk wq w.heap.size 24 #[.slice none 0 0, .bool false, .bool false, .int .i64 0] ∧ Mem w wq) (fun a _ => bad.length - (intOf a).toNat)
      case atStart => exact ⟨0, Nat.zero_le _, rfl, fun b hb => by simp at hb, h1o, hC1, hR1, hm1⟩
      case round =>
        clear h1o hC1 hR1 hm1
        obtain ⟨q, hq, rfl, hall, h1q, hCq, hRq, hmq⟩ := hrel
        have HA := hide hall
        clear hall
        have hgb : W.heap.size ≤ g := h1q.1
        have c0 := hCq.cell (j := 0) rfl
        have z0 := hRq.cell (j := 0) rfl
        have z1 := hRq.cell (j := 1) rfl
        have z2 := hRq.cell (j := 2) rfl
        have z3 := hRq.cell (j := 3) rfl
        have y0 := hRq.frozen 0
        have y1 := hRq.frozen 1
        have y2 := hRq.frozen 2
        have y3 := hRq.frozen 3
        by_cases hlq : q < bad.length
        · have hlq' : (q : Int) < (bad.length : Int) := by omega
          have hq0 : (0 : Int) ≤ (q : Int) := by omega
          obtain ⟨bb, bo, hob, hcell⟩ := (HL.out.mem hmq).at (by omega)
          subst hob
          have x0 := hcell q hlq
          have HT : Hid (bad.take (q + 1) = bad.take q ++ [bad.getD q 0]) := by
            show _ = _; rw [List.take_succ_eq_append_getElem hlq]; simp [hlq]
          have HM : Hid (bad.getD q 0 ∈ bad) := by show _ ∈ _; simp [hlq]
          clear hcell
          generalize bad.getD q 0 = x at *
          by_cases hx0 : x < 0
          · have HN : Hid (newC (k : Int) (M : Int) bad = (([], false, false, 0), 1)) := newC_no (fun h => by have := (h.2.2.2.2 x HM.out).1; omega)
            go_wp2_with fail
            refine bodyPost_ret (ret_chip rfl _ _ rfl (hRq.put4 _ _ _ _)) rfl ⟨?_, hmq.put4 (Nat.le_refl _) _ _ _ _⟩
            rw [HN.out]
            exact ⟨_, rfl, by simp [maxLen], .inl ⟨rfl, _, _, rfl⟩⟩
          have hx0' : 0 ≤ x := by omega
          by_cases hxk : (k : Int) ≤ x
          · have HN : Hid (newC (k : Int) (M : Int) bad = (([], false, false, 0), 1)) := newC_no (fun h => by have := (h.2.2.2.2 x HM.out).2; omega)
            go_wp2_with fail
            refine bodyPost_ret (ret_chip rfl _ _ rfl (hRq.put4 _ _ _ _)) rfl ⟨?_, hmq.put4 (Nat.le_refl _) _ _ _ _⟩
            rw [HN.out]
            exact ⟨_, rfl, by simp [maxLen], .inl ⟨rfl, _, _, rfl⟩⟩
          have hxk' : x < (k : Int) := by omega
          obtain ⟨j, rfl⟩ := Int.eq_ofNat_of_zero_le hx0'
          have hjk : j < k := by omega
          have hget := newBlocks_get k M (bad.take q) hjk
          obtain ⟨op, cp, v0, v1, v2, v3, _, fz⟩ := h1q.at hget
          have fz3 := fz (j * 4 + 3)
          have h1n := (h1q.bad hget true).drew
          rw [newBlocks_set k M _ hjk, ← HT.out] at h1n
          have hCn := (hCq.other (a := ⟨g, j * 4 + 3, none⟩) (by show w.heap.size + 1 ≠ g; omega) (.bool true)).drew
          have hRn := (hRq.other (a := ⟨g, j * 4 + 3, none⟩) (by show w.heap.size ≠ g; omega) (.bool true)).drew
          have hmn := (hmq.setCell (p := ⟨g, j * 4 + 3, none⟩) (by show w.heap.size ≤ g; omega) (.bool true)).drew
          have HAn : Hid (∀ b ∈ bad.take (q + 1), 0 ≤ b ∧ b < (k : Int)) := by
            intro b hb
            rw [HT.out, List.mem_append, List.mem_singleton] at hb
            rcases hb with hb | rfl
            · exact HA.out b hb
            · exact ⟨hx0', hxk'⟩
          have hgl := h1q.2.1.1
          clear hget h1q hCq hRq hmq HT HM
          go_wp2_with fail
          go_region
          go_wp2_with fail
          go_roundw
          case rel => exact ⟨q + 1, by omega, by go_num, HAn.out, h1n, hCn, hRn, hmn⟩
          case measure => simp [intOf]; omega
        · have hqe : q = bad.length := by omega
          subst hqe
          rw [List.take_length] at h1q
          have hlq' : ¬ ((bad.length : Int) < (bad.length : Int)) := by omega
          have HN : Hid (newC (k : Int) (M : Int) bad = ((newBlocks k M bad, false, false, 0), 0)) := newC_yes (by omega) (by omega) (by omega) (by omega) (by have := HA.out; rw [List.take_length] at this; exact this)
          have c1 := hCq.cell (j := 1) rfl
          have c2 := hCq.cell (j := 2) rfl
          have c3 := hCq.cell (j := 3) rfl
          go_wp2_with fail
          refine bodyPost_ret (ret_chip rfl _ _ rfl (hRq.put4 _ _ _ _)) rfl ⟨?_, hmq.put4 (Nat.le_refl _) _ _ _ _⟩
          rw [HN.out]
          refine ⟨.slice (some ⟨g, 0, none⟩) k cap, rfl, ?_⟩
          have hw := (OwnB.put4 (h1q.whole k cap (by rw [newBlocks_length]) HCap.out) (b := w.heap.size) (by omega) (.slice (some ⟨g, 0, none⟩) k cap) (.bool false) (.bool false) (.int .i64 0)).base (b' := w.heap.size) (by omega)
          exact hw.blocks (by rw [newBlocks_length]; unfold maxLen; omega)
end Go.Proofs.Ytcjhaapmehegkaa.Nand
