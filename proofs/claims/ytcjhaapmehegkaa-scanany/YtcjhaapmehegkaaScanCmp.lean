/-
  Layer 6, the program: which of two stands ahead.
-/
import Derived.Test.YtcjhaapmehegkaaShelf
import Derived.Test.YtcjhaapmehegkaaScanCode1
import Derived.Shelf.SlSortCmp.QuietGrown
namespace Go.Proofs.Ytcjhaapmehegkaa.Scan
open Go.RowKit Go.Proofs.Ytcjhaapmehegkaa.Nand Go.Sort Go.Shelf

def cmpOr (x y : Int) : Int := if x = 0 then y else x
def cmpF (x y : RowT) : Int := cmpOr (Lib.compareInt x.2.2.1 y.2.2.1) (Lib.compareInt x.1 y.1)

set_option maxHeartbeats 1000000 in
set_option maxRecDepth 100000 in
theorem codeOr (x y : Int) (g c : Nat) (w : World) (h0 : w.cell? ⟨g, 0, none⟩ = some (.int .i64 x)) (h1 : w.cell? ⟨g, 1, none⟩ = some (.int .i64 y)) :
    Calls Try.prog 44 #[.slice (some ⟨g, 0, none⟩) 2 c] w fun e w' => e = .returned (.int .i64 (cmpOr x y)) ∧ w' = w := by
  by_cases hx : x = 0
  · subst hx
    have HV : Hid (cmpOr 0 y = y) := by show _ = _; unfold cmpOr; rw [if_pos rfl]
    by_cases hy : y = 0
    · subst hy
      go_enter Try.func44, Try.ntmps44
      go_wp2_with fail
      refine wp_loop_rounds 4 ?_
      rw [rounds_succ]; go_wp2_with fail
      rw [rounds_succ]; go_wp2_with fail
      rw [rounds_succ]; go_wp2_with fail
      go_ret
      exact ⟨ret_int HV.out.symm, rfl⟩
    · have hy2 : (y != 0) = true := by simp [hy]
      go_enter Try.func44, Try.ntmps44
      go_wp2_with fail
      refine wp_loop_rounds 4 ?_
      rw [rounds_succ]; go_wp2_with fail
      rw [rounds_succ]; go_wp2_with fail
      go_ret
      exact ⟨ret_int HV.out.symm, rfl⟩
  · have HV : Hid (cmpOr x y = x) := by show _ = _; unfold cmpOr; rw [if_neg hx]
    have hx2 : (x != 0) = true := by simp [hx]
    go_enter Try.func44, Try.ntmps44
    go_wp2_with fail
    refine wp_loop_rounds 4 ?_
    rw [rounds_succ]; go_wp2_with fail
    go_ret
    exact ⟨ret_int HV.out.symm, rfl⟩

theorem cell_third (w : World) (o1 o2 : Obj) (cs : Array Value) (t : TypeId) {j : Nat} {v : Value} (h : cs[j]? = some v) : (((w.alloc o1).alloc o2).alloc (.cells cs t)).drew.cell? ⟨w.heap.size + 1 + 1, j, none⟩ = some v := by
  have hb := Blk.new ((w.alloc o1).alloc o2) cs t
  rw [show ((w.alloc o1).alloc o2).heap.size = w.heap.size + 1 + 1 by simp] at hb
  exact hb.drew.cell h
theorem grow_third (w : World) (o1 o2 o3 : Obj) : (((w.alloc o1).alloc o2).alloc o3).drew = grow (w.drewN 1) (#[o1] ++ #[o2] ++ #[o3]) := by
  rw [alloc_eq_grow, alloc_eq_grow, alloc_eq_grow, grow_grow, grow_grow]
  rfl
set_option maxHeartbeats 2000000 in
set_option maxRecDepth 100000 in
theorem codeEarlier (x y : RowT) (W : World) : Calls Try.prog 28 #[.agg (encF x).toArray, .agg (encF y).toArray] W fun e w' => e = .returned (.int .i64 (cmpF x y)) ∧ ∃ q os', w' = grow (W.drewN q) os' := by
  have hcon := fun a b W' => AnyG.cmp_Compare_int Try.cmpI a b W'
  change ∀ a b W', Calls Try.prog 45 _ _ _ at hcon
  obtain ⟨p, k, s, ⟨oa, na, ca⟩, ⟨ob, nb, cb⟩⟩ := x
  obtain ⟨p', k', s', ⟨oc, nc, cc⟩, ⟨od, nd, cd⟩⟩ := y
  have HV : Hid (cmpF (p, k, s, (oa, na, ca), (ob, nb, cb)) (p', k', s', (oc, nc, cc), (od, nd, cd)) = cmpOr (Lib.compareInt s s') (Lib.compareInt p p')) := rfl
  show Calls Try.prog 28 #[.agg #[.int .i64 p, .int .i64 k, .int .i64 s, .slice oa na ca, .slice ob nb cb], .agg #[.int .i64 p', .int .i64 k', .int .i64 s', .slice oc nc cc, .slice od nd cd]] W _
  have c1 := hcon s s'
  have c2 := hcon p p'
  clear hcon
  generalize Lib.compareInt s s' = r1 at *
  generalize Lib.compareInt p p' = r2 at *
  go_enter Try.func28, Try.ntmps28
  go_wp2_with fail
  go_region_held3 (fun w' => w'.cell? ⟨W.heap.size, 0, none⟩ = some (.int .i64 p) ∧ w'.cell? ⟨W.heap.size, 2, none⟩ = some (.int .i64 s) ∧ w'.cell? ⟨W.heap.size + 1, 0, none⟩ = some (.int .i64 p') ∧ w'.cell? ⟨W.heap.size + 1, 2, none⟩ = some (.int .i64 s'))
    (go_keep)
    (first
      | (go_at_call 45; refine (c1 _).mono ?_; clear c1; rintro e w' ⟨rfl, rfl⟩)
      | (go_at_call 45; refine (c2 _).mono ?_; rintro e w' ⟨rfl, rfl⟩)
      | (go_at_call 44; refine (codeOr r1 r2 _ _ _ (cell_third W _ _ _ _ rfl) (cell_third W _ _ _ _ rfl)).mono ?_; rintro e w' ⟨rfl, rfl⟩))
  go_wp2_with fail
  go_ret
  exact ⟨ret_int HV.out.symm, 1, _, grow_third W _ _ _⟩

theorem codeCmps (blk off size : Nat) (w : World) : CmpLays Try.prog 28 #[] encF 5 cmpF blk off size w :=
  fun _ _ _ _ x y => codeEarlier x y _

/-! ### The order -/
theorem cmpF_lt (x y : RowT) : ltOf cmpF x y = (decide (x.2.2.1 < y.2.2.1) || (decide (x.2.2.1 = y.2.2.1) && decide (x.1 < y.1))) := by
  unfold ltOf cmpF cmpOr Lib.compareInt
  by_cases h1 : x.2.2.1 < y.2.2.1
  · simp [h1]
  · by_cases h2 : y.2.2.1 < x.2.2.1
    · have h3 : ¬ x.2.2.1 = y.2.2.1 := by omega
      simp [h1, h2, h3]
    · have h3 : x.2.2.1 = y.2.2.1 := by omega
      by_cases h4 : x.1 < y.1
      · simp [h3, h4]
      · by_cases h5 : y.1 < x.1 <;> simp [h3, h4, h5]
theorem cmpF_swo : SWO (ltOf cmpF) :=
  ⟨fun x => by rw [cmpF_lt]; simp, fun x y z h1 h2 => by rw [cmpF_lt] at *; simp at *; omega, fun x y z h1 h2 => by rw [cmpF_lt] at *; simp at *; omega⟩
end Go.Proofs.Ytcjhaapmehegkaa.Scan
