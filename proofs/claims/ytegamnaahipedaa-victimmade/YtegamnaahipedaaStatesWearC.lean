/-
  Layer 10, the program: Wear: the Erases of the blocks that are not Bad, the least and the greatest of them.
-/
import Derived.Maps.AppendAt
import Derived.Test.YtegamnaahipedaaStatesIs
namespace Go.Proofs.Ytegamnaahipedaa.States
open Go.RowKit Go.Proofs.Ytegamnaahipedaa.Nand

/-- of the first k blocks the Erases of those that are not Bad -/
def ersN (bs : List BlockT) : Nat → List Int
  | 0 => []
  | k + 1 => if (blkT bs k).2.2.2 = true then ersN bs k else ersN bs k ++ [erT bs k]
theorem ers_bad {bs : List BlockT} {k : Nat} (h : (blkT bs k).2.2.2 = true) : ersN bs (k + 1) = ersN bs k := by rw [ersN, if_pos h]
theorem ers_not {bs : List BlockT} {k : Nat} (h : (blkT bs k).2.2.2 = false) : ersN bs (k + 1) = ersN bs k ++ [erT bs k] := by rw [ersN, if_neg (by rw [h]; decide)]
theorem ers_le (bs : List BlockT) (k : Nat) : (ersN bs k).length ≤ k := by
  induction k with
  | zero => simp [ersN]
  | succ k ih =>
    unfold ersN
    split
    · omega
    · rw [List.length_append]; simp; omega
/-- the least of the first k + 1 -/
def minL (l : List Int) : Nat → Int
  | 0 => l.getD 0 0
  | k + 1 => min (minL l k) (l.getD (k + 1) 0)
def maxL (l : List Int) : Nat → Int
  | 0 => l.getD 0 0
  | k + 1 => max (maxL l k) (l.getD (k + 1) 0)
theorem getD_app (l : List Int) (x : Int) {k : Nat} (h : k < l.length) : (l ++ [x]).getD k 0 = l.getD k 0 := by
  rw [List.getD_eq_getElem?_getD, List.getD_eq_getElem?_getD, List.getElem?_append_left h]
theorem minL_app (l : List Int) (x : Int) {k : Nat} (h : k < l.length) : minL (l ++ [x]) k = minL l k := by
  induction k with
  | zero => simp only [minL]; rw [getD_app _ _ h]
  | succ k ih => simp only [minL]; rw [ih (by omega), getD_app _ _ h]
theorem maxL_app (l : List Int) (x : Int) {k : Nat} (h : k < l.length) : maxL (l ++ [x]) k = maxL l k := by
  induction k with
  | zero => simp only [maxL]; rw [getD_app _ _ h]
  | succ k ih => simp only [maxL]; rw [ih (by omega), getD_app _ _ h]
theorem minL_snoc (l : List Int) (x : Int) (h : 0 < l.length) : minL (l ++ [x]) l.length = min (minL l (l.length - 1)) x := by
  obtain ⟨n, hn⟩ : ∃ n, l.length = n + 1 := ⟨l.length - 1, by omega⟩
  have e : (l ++ [x]).getD (n + 1) 0 = x := by rw [List.getD_eq_getElem?_getD, List.getElem?_append_right (by omega), hn]; simp
  rw [hn]
  simp only [minL, Nat.add_sub_cancel]
  rw [e, minL_app l x (by omega)]
theorem maxL_snoc (l : List Int) (x : Int) (h : 0 < l.length) : maxL (l ++ [x]) l.length = max (maxL l (l.length - 1)) x := by
  obtain ⟨n, hn⟩ : ∃ n, l.length = n + 1 := ⟨l.length - 1, by omega⟩
  have e : (l ++ [x]).getD (n + 1) 0 = x := by rw [List.getD_eq_getElem?_getD, List.getElem?_append_right (by omega), hn]; simp
  rw [hn]
  simp only [maxL, Nat.add_sub_cancel]
  rw [e, maxL_app l x (by omega)]
theorem wear_ers (bs : List BlockT) (k : Nat) : wearN bs k = if ersN bs k = [] then none else some (minL (ersN bs k) ((ersN bs k).length - 1), maxL (ersN bs k) ((ersN bs k).length - 1)) := by
  induction k with
  | zero => rfl
  | succ k ih =>
    cases hb : (blkT bs k).2.2.2 with
    | true => rw [wear_bad hb, ers_bad hb, ih]
    | false =>
      rw [ers_not hb, if_neg (by simp), List.length_append, List.length_singleton, Nat.add_sub_cancel]
      by_cases he : ersN bs k = []
      · rw [if_pos he] at ih
        rw [wear_first hb ih, he]
        rfl
      · rw [if_neg he] at ih
        have hl : 0 < (ersN bs k).length := List.length_pos_iff.2 he
        rw [wear_next hb ih, minL_snoc _ _ hl, maxL_snoc _ _ hl]
        have e1 : ∀ a x : Int, (if x < a then x else a) = min a x := by intro a x; omega
        have e2 : ∀ a x : Int, (if a < x then x else a) = max a x := by intro a x; omega
        rw [e1, e2]

set_option maxRecDepth 100000 in
set_option maxHeartbeats 1000000 in
theorem codeMin (v : Value) (l : List Int) (w : World) (hl : l.length ≤ 1000) (h0 : 0 < l.length) (hv : Ints .i64 w v l) :
    Calls Try.prog 51 #[v] w fun e w' => e = .returned (.int .i64 (minL l (l.length - 1))) ∧ w' = w := by
  obtain ⟨oa, ca, rfl⟩ := hv.shape
  have h0' : (1 : Int) ≤ (l.length : Int) := by omega
  have h0n : (0 : Int) < (l.length : Int) := by omega
  obtain ⟨b, o, rfl, hc⟩ := hv.at h0
  have d0 := hc 0 h0
  have HC := hide hc
  have HS : Hid (∀ k, minL l (k + 1) = min (minL l k) (l.getD (k + 1) 0)) := fun _ => rfl
  have H0 : Hid (minL l 0 = l.getD 0 0) := rfl
  clear hc hv
  simp only [Nat.add_zero] at d0
  generalize hx0 : l.getD 0 0 = x0 at *
  clear hx0
  go_enter Try.func51, Try.ntmps51
  go_wp2_with fail
  go_loop [3, 4] (fun m i => ∃ k : Nat, k < l.length ∧ m = .int .i64 (minL l k) ∧ i = .int .i64 ((k + 1 : Nat) : Int)) (fun _ i => l.length - (intOf i).toNat)
  case atStart => exact ⟨0, h0, by rw [H0.out], rfl⟩
  case round =>
    obtain ⟨k, hk, rfl, rfl⟩ := hrel
    by_cases hlt : k + 1 < l.length
    · have hlt' : ((k + 1 : Nat) : Int) < (l.length : Int) := by omega
      have hk0 : (0 : Int) ≤ ((k + 1 : Nat) : Int) := by omega
      have d1 := HC.out (k + 1) hlt
      have HE := hide (HS.out k)
      generalize l.getD (k + 1) 0 = x1 at *
      generalize minL l k = m0 at *
      go_wp2_with fail
      exact ⟨⟨k + 1, hlt, by rw [HE.out]; exact int_eq (by omega), by go_num⟩, by simp [intOf]; omega⟩
    · have hke : k = l.length - 1 := by omega
      have hlt' : ¬ (((k + 1 : Nat) : Int) < (l.length : Int)) := by omega
      have HE : Hid (minL l k = minL l (l.length - 1)) := by show _ = _; rw [hke]
      clear hke
      go_wp2_with fail
      go_ret
      exact ⟨ret_int HE.out, rfl⟩
set_option maxRecDepth 100000 in
set_option maxHeartbeats 1000000 in
theorem codeMax (v : Value) (l : List Int) (w : World) (hl : l.length ≤ 1000) (h0 : 0 < l.length) (hv : Ints .i64 w v l) :
    Calls Try.prog 52 #[v] w fun e w' => e = .returned (.int .i64 (maxL l (l.length - 1))) ∧ w' = w := by
  obtain ⟨oa, ca, rfl⟩ := hv.shape
  have h0' : (1 : Int) ≤ (l.length : Int) := by omega
  have h0n : (0 : Int) < (l.length : Int) := by omega
  obtain ⟨b, o, rfl, hc⟩ := hv.at h0
  have d0 := hc 0 h0
  have HC := hide hc
  have HS : Hid (∀ k, maxL l (k + 1) = max (maxL l k) (l.getD (k + 1) 0)) := fun _ => rfl
  have H0 : Hid (maxL l 0 = l.getD 0 0) := rfl
  clear hc hv
  simp only [Nat.add_zero] at d0
  generalize hx0 : l.getD 0 0 = x0 at *
  clear hx0
  go_enter Try.func52, Try.ntmps52
  go_wp2_with fail
  go_loop [3, 4] (fun m i => ∃ k : Nat, k < l.length ∧ m = .int .i64 (maxL l k) ∧ i = .int .i64 ((k + 1 : Nat) : Int)) (fun _ i => l.length - (intOf i).toNat)
  case atStart => exact ⟨0, h0, by rw [H0.out], rfl⟩
  case round =>
    obtain ⟨k, hk, rfl, rfl⟩ := hrel
    by_cases hlt : k + 1 < l.length
    · have hlt' : ((k + 1 : Nat) : Int) < (l.length : Int) := by omega
      have hk0 : (0 : Int) ≤ ((k + 1 : Nat) : Int) := by omega
      have d1 := HC.out (k + 1) hlt
      have HE := hide (HS.out k)
      generalize l.getD (k + 1) 0 = x1 at *
      generalize maxL l k = m0 at *
      go_wp2_with fail
      exact ⟨⟨k + 1, hlt, by rw [HE.out]; exact int_eq (by omega), by go_num⟩, by simp [intOf]; omega⟩
    · have hke : k = l.length - 1 := by omega
      have hlt' : ¬ (((k + 1 : Nat) : Int) < (l.length : Int)) := by omega
      have HE : Hid (maxL l k = maxL l (l.length - 1)) := by show _ = _; rw [hke]
      clear hke
      go_wp2_with fail
      go_ret
      exact ⟨ret_int HE.out, rfl⟩
theorem erT_at {bs : List BlockT} {k : Nat} (h : k < bs.length) : bs[k] = blkT bs k := by unfold blkT; rw [List.getD_eq_getElem?_getD, List.getElem?_eq_getElem h]; rfl
set_option maxRecDepth 100000 in
set_option maxHeartbeats 4000000 in
theorem codeWear : WearSpec 34 := by
  intro S vb bs br off ops w hb hl
  obtain ⟨oa, ca, rfl⟩ := hb.shape
  have hm0 : Mem w (w.alloc (.cells #[.slice oa bs.length ca, .bool br, .bool off, .int .i64 ops] 24)) := (Mem.refl w).alloc _
  have hC := Blk.new w #[.slice oa bs.length ca, .bool br, .bool off, .int .i64 ops] 24
  have c0 := hC.cell (j := 0) rfl
  have HB := hide hb
  have HW := hide (wear_ers bs bs.length)
  simp only [chipV]
  clear hb
  go_enter Try.func34, Try.ntmps34
  go_wp2_with fail
  go_loopw [4, 10] (fun v i wr => ∃ k : Nat, k ≤ bs.length ∧ i = .int .i64 k ∧ wr.ownsRow w.heap.size 3 1 v (ersN bs k).length (icells (ersN bs k)) ∧ Mem w wr) (fun _ i _ => bs.length - (intOf i).toNat)
  case atStart => exact ⟨0, Nat.zero_le _, rfl, World.ownsRow_nil _ _ _ _, hm0⟩
  case round =>
    obtain ⟨k, hk, rfl, hown, hmr⟩ := hrel
    clear c0 hC
    by_cases hlt : k < bs.length
    · have hlt' : (k : Int) < (bs.length : Int) := by omega
      have hk0 : (0 : Int) ≤ (k : Int) := by omega
      have hle := ers_le bs k
      obtain ⟨g, f, op, cp, rfl, _, x0, x1, x2, x3, _⟩ := (HB.out.mem hmr).at hlt
      rw [erT_at hlt] at x0 x1 x2 x3
      have HBad := hide (ers_bad (bs := bs) (k := k))
      have HNot := hide (ers_not (bs := bs) (k := k))
      unfold erT at HNot
      generalize blkT bs k = bk at *
      obtain ⟨ps, nx, er, bd⟩ := bk
      simp only [] at x0 x1 x2 x3 HBad HNot
      have hm1 : Mem wr (wr.alloc (.cells #[.slice op ps.length cp, .int .i64 nx, .int .i64 er, .bool bd] 31)) := (Mem.refl wr).alloc _
      have hX := Blk.new wr #[.slice op ps.length cp, .int .i64 nx, .int .i64 er, .bool bd] 31
      have d2 := hX.cell (j := 2) rfl
      have d3 := hX.cell (j := 3) rfl
      have hown1 := hown.alloc (.cells #[.slice op ps.length cp, .int .i64 nx, .int .i64 er, .bool bd] 31)
      have hmw : Mem w (wr.alloc (.cells #[.slice op ps.length cp, .int .i64 nx, .int .i64 er, .bool bd] 31)) := hmr.alloc _
      have hsz := hmw.size
      cases bd with
      | true =>
        have HE := hide (HBad.out rfl)
        clear HBad HNot
        go_wp2_with fail
        go_roundw
        case rel => exact ⟨k + 1, by omega, by go_num, by rw [HE.out]; exact hown1, hmw⟩
        case measure => simp [intOf]; omega
      | false =>
        have HE := hide (HNot.out rfl)
        clear HBad HNot
        go_wp2_with (at_builtin; refine pushI rfl _ _ rfl w.heap.size _ (ersN bs k) _ rfl hown1 hsz er (by rw [World.size_alloc]; rfl) (by omega) ?_; intro v2 w2 o2 b2)
        go_roundw
        case rel => exact ⟨k + 1, by omega, by go_num, by rw [HE.out, List.length_append]; exact o2, Below.trans hmw b2⟩
        case measure => simp [intOf]; omega
    · have hke : k = bs.length := by omega
      subst hke
      have hlt' : ¬ ((bs.length : Int) < (bs.length : Int)) := by omega
      have hle := ers_le bs bs.length
      have hin := Ints.of_owns hown
      have HI := hide hin
      obtain ⟨ov, cv, rfl⟩ := hin.shape
      clear hin hown
      by_cases h0 : ersN bs bs.length = []
      · have HE : Hid (wearT bs = (0, 0)) := by show _ = _; unfold wearT; rw [HW.out, if_pos h0]; rfl
        have hz : ((ersN bs bs.length).length : Int) = 0 := by rw [h0]; rfl
        clear h0 HI
        go_wp2_with fail
        go_ret2
        exact ⟨by rw [HE.out]; rfl, hmr⟩
      · have HE : Hid (wearT bs = (minL (ersN bs bs.length) ((ersN bs bs.length).length - 1), maxL (ersN bs bs.length) ((ersN bs bs.length).length - 1))) := by show _ = _; unfold wearT; rw [HW.out, if_neg h0]; rfl
        have hp : 0 < (ersN bs bs.length).length := List.length_pos_iff.2 h0
        have hz : ¬ ((ersN bs bs.length).length : Int) = 0 := by omega
        clear h0
        go_wp2_with (first
          | (go_at_call 51; refine (codeMin _ (ersN bs bs.length) _ (by omega) hp HI.out).mono ?_; rintro e w1 ⟨rfl, rfl⟩)
          | (go_at_call 52; refine (codeMax _ (ersN bs bs.length) _ (by omega) hp HI.out).mono ?_; rintro e w1 ⟨rfl, rfl⟩))
        go_ret2
        exact ⟨by rw [HE.out]; rfl, hmr⟩
end Go.Proofs.Ytegamnaahipedaa.States
