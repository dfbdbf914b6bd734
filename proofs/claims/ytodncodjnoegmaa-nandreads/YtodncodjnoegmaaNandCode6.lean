/-
  Layer 5: the program's New.
-/
import Derived.Test.YtodncodjnoegmaaNandCode2
import Derived.Test.YtodncodjnoegmaaNandNews
namespace Go.Proofs.Ytodncodjnoegmaa.Nand
open Go.RowKit

/-- the first k blocks have their pages -/
def midB (N M k : Nat) : List BlockT := (List.range N).map fun (i : Nat) => (if i < k then List.replicate M zeroPage else [], (0 : Int), (0 : Int), false)
theorem midB_length (N M k : Nat) : (midB N M k).length = N := by simp [midB]
theorem midB_get (N M k : Nat) {i : Nat} (h : i < N) : (midB N M k)[i]? = some (if i < k then List.replicate M zeroPage else [], 0, 0, false) := by simp [midB, h]
theorem midB_set (N M : Nat) {k : Nat} (h : k < N) : (midB N M k).set k (List.replicate M zeroPage, 0, 0, false) = midB N M (k + 1) := by
  apply List.ext_getElem?
  intro i
  rw [List.getElem?_set]
  by_cases hi : i < N
  · rw [midB_get N M (k + 1) hi]
    by_cases e : k = i
    · subst e
      rw [if_pos rfl, if_pos (by rw [midB_length]; exact h), if_pos (by omega)]
    · rw [if_neg e, midB_get N M k hi]
      by_cases h2 : i < k
      · rw [if_pos h2, if_pos (by omega)]
      · rw [if_neg h2, if_neg (by omega)]
  · have e : ¬ k = i := by omega
    rw [if_neg e, List.getElem?_eq_none (by rw [midB_length]; omega), List.getElem?_eq_none (by rw [midB_length]; omega)]
theorem midB_all (N M : Nat) : midB N M N = newBlocks N M [] := by
  apply List.ext_getElem?
  intro i
  by_cases hi : i < N
  · rw [midB_get N M N hi, newBlocks_get N M [] hi, if_pos hi]; simp
  · rw [List.getElem?_eq_none (by rw [midB_length]; omega), List.getElem?_eq_none (by rw [newBlocks_length]; omega)]
theorem made_rows (w : World) (N M : Nat) (R : Nat → Nat → Prop) (hR : ∀ j, ¬ R j w.heap.size) : RowsAt (w.alloc (.cells (madeCells zblock (N * 4)) 39)) w.heap.size R (midB N M 0) := by
  have hB := Blk.new w (madeCells zblock (N * 4)) 39
  refine ⟨hB.lt, fun off => hB.frozen off, fun j x hx e => hR j (e ▸ hx), fun i hi => ?_⟩
  have hi' : i < N := by rwa [midB_length] at hi
  have hg := midB_get N M 0 hi'
  rw [if_neg (by omega)] at hg
  obtain ⟨_, e⟩ := List.getElem?_eq_some_iff.1 hg
  rw [e]
  have c : ∀ k, k < 4 → (madeCells zblock (N * 4))[i * 4 + k]? = some (zblock[k]!) := fun k hk => by
    rw [made_get _ _ _ (by omega)]
    have : (i * 4 + k) % zblock.size = k := by show (i * 4 + k) % 4 = k; omega
    rw [this]
  exact ⟨none, 0, hB.cell (c 0 (by omega)), hB.cell (c 1 (by omega)), hB.cell (c 2 (by omega)), hB.cell (c 3 (by omega)), by simp [maxLen], .inl ⟨rfl, _, _, rfl⟩⟩

set_option maxHeartbeats 4000000 in
set_option maxRecDepth 100000 in
theorem newSpec_nand : NewSpec 12 := by
  intro n m vl bad w hl hlen
  obtain ⟨ob, cb, rfl⟩ := hl.shape
  have hR0 := Blk.new w #[.slice none 0 0, .bool false, .bool false, .int .i64 0] 27
  have hm0 : Mem w (w.alloc (.cells #[.slice none 0 0, .bool false, .bool false, .int .i64 0] 27)) := (Mem.refl w).alloc _
  by_cases hg : 1 ≤ n ∧ n ≤ 32 ∧ 1 ≤ m ∧ m ≤ 16
  case neg =>
    have HN : Hid (newC n m bad = (([], false, false, 0), 1)) := newC_no (fun h => hg ⟨h.1, h.2.1, h.2.2.1, h.2.2.2.1⟩)
    have hc : n < 1 ∨ (1 ≤ n ∧ 32 < n) ∨ (1 ≤ n ∧ n ≤ 32 ∧ m < 1) ∨ (1 ≤ n ∧ n ≤ 32 ∧ 1 ≤ m ∧ 16 < m) := by omega
    clear hg
    rcases hc with h | ⟨h, h'⟩ | ⟨h, h', h''⟩ | ⟨h, h', h'', h'''⟩
    all_goals (
      go_enter Try.func12, Try.ntmps12
      go_wp2_with fail
      refine bodyPost_ret (ret_chip rfl _ _ rfl hR0) rfl ⟨?_, hm0⟩
      rw [HN.out]
      exact ⟨_, rfl, by simp [maxLen], .inl ⟨rfl, _, _, rfl⟩⟩)
  obtain ⟨h1, h2, h3, h4⟩ := hg
  obtain ⟨N, rfl⟩ := Int.eq_ofNat_of_zero_le (show 0 ≤ n by omega)
  obtain ⟨M, rfl⟩ := Int.eq_ofNat_of_zero_le (show 0 ≤ m by omega)
  have hmb := run_makeBlocks N (by omega)
  have hmp := run_makePages M (by omega)
  go_enter Try.func12, Try.ntmps12
  go_wp2_with fail
  have hWs : (((w.alloc (.cells #[.slice none 0 0, .bool false, .bool false, .int .i64 0] 27)).alloc (.cells (madeCells zblock (N * 4)) 39)).alloc (.cells #[.slice (some ⟨w.heap.size + 1, 0, none⟩) N N, .bool false, .bool false, .int .i64 0] 27)).heap.size = w.heap.size + 1 + 1 + 1 := by simp
  have hm : Mem w (((w.alloc (.cells #[.slice none 0 0, .bool false, .bool false, .int .i64 0] 27)).alloc (.cells (madeCells zblock (N * 4)) 39)).alloc (.cells #[.slice (some ⟨w.heap.size + 1, 0, none⟩) N N, .bool false, .bool false, .int .i64 0] 27)) := ((hm0).alloc _).alloc _
  have hR : Blk (((w.alloc (.cells #[.slice none 0 0, .bool false, .bool false, .int .i64 0] 27)).alloc (.cells (madeCells zblock (N * 4)) 39)).alloc (.cells #[.slice (some ⟨w.heap.size + 1, 0, none⟩) N N, .bool false, .bool false, .int .i64 0] 27)) w.heap.size 27 #[.slice none 0 0, .bool false, .bool false, .int .i64 0] := (hR0.alloc _).alloc _
  have hC : Blk (((w.alloc (.cells #[.slice none 0 0, .bool false, .bool false, .int .i64 0] 27)).alloc (.cells (madeCells zblock (N * 4)) 39)).alloc (.cells #[.slice (some ⟨w.heap.size + 1, 0, none⟩) N N, .bool false, .bool false, .int .i64 0] 27)) (w.heap.size + 1 + 1) 27 #[.slice (some ⟨w.heap.size + 1, 0, none⟩) N N, .bool false, .bool false, .int .i64 0] := by
    have := Blk.new ((w.alloc (.cells #[.slice none 0 0, .bool false, .bool false, .int .i64 0] 27)).alloc (.cells (madeCells zblock (N * 4)) 39)) #[.slice (some ⟨w.heap.size + 1, 0, none⟩) N N, .bool false, .bool false, .int .i64 0] 27
    rwa [alloc_size, alloc_size] at this
  have hr : RowsAt (((w.alloc (.cells #[.slice none 0 0, .bool false, .bool false, .int .i64 0] 27)).alloc (.cells (madeCells zblock (N * 4)) 39)).alloc (.cells #[.slice (some ⟨w.heap.size + 1, 0, none⟩) N N, .bool false, .bool false, .int .i64 0] 27)) (w.heap.size + 1) (fun _ y => w.heap.size + 1 + 1 + 1 ≤ y) (midB N M 0) := by
    have := made_rows (w.alloc (.cells #[.slice none 0 0, .bool false, .bool false, .int .i64 0] 27)) N M (fun _ y => w.heap.size + 1 + 1 + 1 ≤ y) (by intro _ h; rw [alloc_size] at h; omega)
    rw [alloc_size] at this
    exact this.mem ((Mem.refl _).alloc _)
  have hWs2 : w.heap.size + 1 + 1 + 1 ≤ (((w.alloc (.cells #[.slice none 0 0, .bool false, .bool false, .int .i64 0] 27)).alloc (.cells (madeCells zblock (N * 4)) 39)).alloc (.cells #[.slice (some ⟨w.heap.size + 1, 0, none⟩) N N, .bool false, .bool false, .int .i64 0] 27)).heap.size := by omega
  clear hWs hmb hR0 hm0
  generalize ((w.alloc (.cells #[.slice none 0 0, .bool false, .bool false, .int .i64 0] 27)).alloc (.cells (madeCells zblock (N * 4)) 39)).alloc (.cells #[.slice (some ⟨w.heap.size + 1, 0, none⟩) N N, .bool false, .bool false, .int .i64 0] 27) = W at *
  have HL := hide hl
  clear hl
  go_loopw [33] (fun a wr => ∃ k : Nat, k ≤ N ∧ a = .int .i64 k ∧ RowsAt wr (w.heap.size + 1) (fun _ y => w.heap.size + 1 + 1 + 1 ≤ y) (midB N M k) ∧ Blk wr (w.heap.size + 1 + 1) 27 #[.slice (some ⟨w.heap.size + 1, 0, none⟩) N N, .bool false, .bool false, .int .i64 0] ∧ Blk wr w.heap.size 27 #[.slice none 0 0, .bool false, .bool false, .int .i64 0] ∧ Mem w wr ∧ w.heap.size + 1 + 1 + 1 ≤ wr.heap.size) (fun a _ => N - (intOf a).toNat)
  case atStart => exact ⟨0, Nat.zero_le _, rfl, hr, hC, hR, hm, hWs2⟩
  case round =>
    clear hr hC hR hm hWs2
    obtain ⟨k, hk, rfl, hr, hC, hR, hm, hWs⟩ := hrel
    by_cases hlt : k < N
    · have hlt' : (k : Int) < (N : Int) := by omega
      have hk0 : (0 : Int) ≤ (k : Int) := by omega
      have hmA : Mem wr (wr.alloc (.cells (madeCells zpage (M * 3)) 34)) := (Mem.refl wr).alloc _
      have hget := midB_get N M k hlt
      rw [if_neg (by omega)] at hget
      have hrA := hr.mem hmA
      have hCA := hC.mem hmA
      have c0 := hC.cell (j := 0) rfl
      have d0 := hCA.cell (j := 0) rfl
      obtain ⟨_, _, u0, _, _, _, _, fz⟩ := hrA.at hget
      have v0 := fz (k * 4)
      have hrB := hrA.pages (R' := fun _ y => w.heap.size + 1 + 1 + 1 ≤ y) hget (op := some ⟨wr.heap.size, 0, none⟩) (n := M) (cp := M) (by simp) ((made_pagesAt wr M (by omega)).mono fun y hy _ => by rw [hy]; exact hWs) (fun j y _ hy => hy) (fun j h => by omega)
      rw [midB_set N M hlt] at hrB
      replace hrB := hrB.mem (Mem.refl _).drew
      have hCB := (hCA.other (a := ⟨w.heap.size + 1, k * 4, none⟩) (by show w.heap.size + 1 + 1 ≠ w.heap.size + 1; omega) (.slice (some ⟨wr.heap.size, 0, none⟩) M M)).drew
      have hRB := ((hR.mem hmA).other (a := ⟨w.heap.size + 1, k * 4, none⟩) (by show w.heap.size ≠ w.heap.size + 1; omega) (.slice (some ⟨wr.heap.size, 0, none⟩) M M)).drew
      have hmB := ((hm.trans hmA).setCell (p := ⟨w.heap.size + 1, k * 4, none⟩) (by show w.heap.size ≤ w.heap.size + 1; omega) (.slice (some ⟨wr.heap.size, 0, none⟩) M M)).drew
      have HS : Hid (w.heap.size + 1 + 1 + 1 ≤ ((wr.alloc (.cells (madeCells zpage (M * 3)) 34)).setCell ⟨w.heap.size + 1, k * 4, none⟩ (.slice (some ⟨wr.heap.size, 0, none⟩) M M)).drew.heap.size) := by show _ ≤ ((wr.alloc _).setCell _ _).heap.size; rw [size_setCell, alloc_size]; omega
      clear hr hC hR hm hrA hCA fz hget hWs
      go_wp2_with fail
      go_region
      go_wp2_with fail
      go_roundw
      case rel => exact ⟨k + 1, by omega, by go_num, hrB, hCB, hRB, hmB, HS.out⟩
      case measure => simp [intOf]; omega
    · have hke : k = N := by omega
      subst hke
      rw [midB_all] at hr
      have hlt' : ¬ ((k : Int) < (k : Int)) := by omega
      clear hk hlt
      go_wp2_with fail
      clear hlt'
      go_loopw [46] (fun a wq => ∃ q : Nat, q ≤ bad.length ∧ a = .int .i64 q ∧ (∀ b ∈ bad.take q, 0 ≤ b ∧ b < (k : Int)) ∧ RowsAt wq (w.heap.size + 1) (fun _ y => w.heap.size + 1 + 1 + 1 ≤ y) (newBlocks k M (bad.take q)) ∧ Blk wq (w.heap.size + 1 + 1) 27 #[.slice (some ⟨w.heap.size + 1, 0, none⟩) k k, .bool false, .bool false, .int .i64 0] ∧ Blk wq w.heap.size 27 #[.slice none 0 0, .bool false, .bool false, .int .i64 0] ∧ Mem w wq) (fun a _ => bad.length - (intOf a).toNat)
      case atStart => exact ⟨0, Nat.zero_le _, rfl, fun b hb => by simp at hb, hr, hC, hR, hm⟩
      case round =>
        clear hr hC hR hm hWs
        obtain ⟨q, hq, rfl, hall, hr, hC, hR, hm⟩ := hrel
        have HA := hide hall
        clear hall
        by_cases hlq : q < bad.length
        · have hlq' : (q : Int) < (bad.length : Int) := by omega
          have hq0 : (0 : Int) ≤ (q : Int) := by omega
          obtain ⟨bb, bo, hob, hcell⟩ := (HL.out.mem hm).at (by omega)
          subst hob
          have x0 := hcell q hlq
          have HT : Hid (bad.take (q + 1) = bad.take q ++ [bad.getD q 0]) := by
            show _ = _; rw [List.take_succ_eq_append_getElem hlq]; simp [hlq]
          have HM : Hid (bad.getD q 0 ∈ bad) := by show _ ∈ _; simp [hlq]
          clear hcell
          generalize bad.getD q 0 = x at *
          have hbq := hr.blocks (S := fun y => w.heap.size ≤ y) (by show w.heap.size ≤ w.heap.size + 1; omega) (fun _ y hy => by show w.heap.size ≤ y; omega) (by rw [newBlocks_length]; unfold maxLen; omega) k
          rw [newBlocks_length] at hbq
          have c0 := hC.cell (j := 0) rfl
          have c1 := hC.cell (j := 1) rfl
          have c2 := hC.cell (j := 2) rfl
          have c3 := hC.cell (j := 3) rfl
          go_wp2_with fail
          refine (nandHasBlock _ _ _ false false 0 x _ hbq).mono ?_
          rintro e wq2 ⟨rfl, m1⟩
          replace hr := hr.mem m1
          replace hC := hC.mem m1
          have hRq := hR.mem m1
          replace hm := hm.trans m1
          clear hR m1 c0 c1 c2 c3 hbq x0
          cases hh : hasB (newBlocks k M (bad.take q)) x with
          | false =>
            unfold hasB at hh
            rw [newBlocks_length] at hh
            have HN : Hid (newC (k : Int) (M : Int) bad = (([], false, false, 0), 1)) := newC_no (fun h => by have h2 := h.2.2.2.2 x HM.out; rw [decide_eq_true h2.1, decide_eq_true h2.2] at hh; cases hh)
            clear hh
            have z0 := hRq.cell (j := 0) rfl
            have z1 := hRq.cell (j := 1) rfl
            have z2 := hRq.cell (j := 2) rfl
            have z3 := hRq.cell (j := 3) rfl
            have y0 := hRq.frozen 0
            have y1 := hRq.frozen 1
            have y2 := hRq.frozen 2
            have y3 := hRq.frozen 3
            go_wp2_with fail
            refine bodyPost_ret (ret_chip rfl _ _ rfl (hRq.put4 _ _ _ _)) rfl ⟨?_, hm.put4 (Nat.le_refl _) _ _ _ _⟩
            rw [HN.out]
            exact ⟨_, rfl, by simp [maxLen], .inl ⟨rfl, _, _, rfl⟩⟩
          | true =>
          unfold hasB at hh
          rw [newBlocks_length] at hh
          simp only [Bool.and_eq_true, decide_eq_true_eq] at hh
          obtain ⟨hx0, hxk⟩ := hh
          obtain ⟨j, rfl⟩ := Int.eq_ofNat_of_zero_le hx0
          have hjk : j < k := by omega
          have hget := newBlocks_get k M (bad.take q) hjk
          obtain ⟨op, cp, v0, v1, v2, v3, _, fz⟩ := hr.at hget
          have fz3 := fz (j * 4 + 3)
          have hrn := hr.bad hget true
          rw [newBlocks_set k M _ hjk, ← HT.out] at hrn
          have hCn := hC.other (a := ⟨w.heap.size + 1, j * 4 + 3, none⟩) (by show w.heap.size + 1 + 1 ≠ w.heap.size + 1; omega) (.bool true)
          have hRn := hRq.other (a := ⟨w.heap.size + 1, j * 4 + 3, none⟩) (by show w.heap.size ≠ w.heap.size + 1; omega) (.bool true)
          have hmn := hm.setCell (p := ⟨w.heap.size + 1, j * 4 + 3, none⟩) (by show w.heap.size ≤ w.heap.size + 1; omega) (.bool true)
          have HAn : Hid (∀ b ∈ bad.take (q + 1), 0 ≤ b ∧ b < (k : Int)) := by
            intro b hb
            rw [HT.out, List.mem_append, List.mem_singleton] at hb
            rcases hb with hb | rfl
            · exact HA.out b hb
            · exact ⟨hx0, hxk⟩
          have c0 := hC.cell (j := 0) rfl
          clear hget hr hC hRq hm HT HM fz
          go_wp2_with fail
          go_roundw
          case rel => exact ⟨q + 1, by omega, by go_num, HAn.out, hrn, hCn, hRn, hmn⟩
          case measure => simp [intOf]; omega
        · have hqe : q = bad.length := by omega
          subst hqe
          rw [List.take_length] at hr
          have hlq' : ¬ ((bad.length : Int) < (bad.length : Int)) := by omega
          have HN : Hid (newC (k : Int) (M : Int) bad = ((newBlocks k M bad, false, false, 0), 0)) := newC_yes (by omega) (by omega) (by omega) (by omega) (by have := HA.out; rw [List.take_length] at this; exact this)
          have hRq := hR
          have c0 := hC.cell (j := 0) rfl
          have c1 := hC.cell (j := 1) rfl
          have c2 := hC.cell (j := 2) rfl
          have c3 := hC.cell (j := 3) rfl
          have z0 := hRq.cell (j := 0) rfl
          have z1 := hRq.cell (j := 1) rfl
          have z2 := hRq.cell (j := 2) rfl
          have z3 := hRq.cell (j := 3) rfl
          have y0 := hRq.frozen 0
          have y1 := hRq.frozen 1
          have y2 := hRq.frozen 2
          have y3 := hRq.frozen 3
          go_wp2_with fail
          refine bodyPost_ret (ret_chip rfl _ _ rfl (hRq.put4 _ _ _ _)) rfl ⟨?_, hm.put4 (Nat.le_refl _) _ _ _ _⟩
          rw [HN.out]
          refine ⟨.slice (some ⟨w.heap.size + 1, 0, none⟩) k k, rfl, ?_⟩
          have hfb := (hr.blocks (S := fun y => w.heap.size + 1 ≤ y) (Nat.le_refl _) (fun _ y hy => by show w.heap.size + 1 ≤ y; omega) (by rw [newBlocks_length]; unfold maxLen; omega) k).put4 (b := w.heap.size) (fun h => by omega) (.slice (some ⟨w.heap.size + 1, 0, none⟩) k k) (.bool false) (.bool false) (.int .i64 0)
          rw [newBlocks_length] at hfb
          exact hfb.mono fun y hy _ => by show w.heap.size ≤ y; omega
end Go.Proofs.Ytodncodjnoegmaa.Nand
