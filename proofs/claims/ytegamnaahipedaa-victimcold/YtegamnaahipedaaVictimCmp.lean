/-
  Layer 11, the program: which of two blocks is to be erased rather.
-/
import Derived.Test.YtegamnaahipedaaMemLow
import Derived.Deep.RegionHeld3
namespace Go.Proofs.Ytegamnaahipedaa.Victim
open Go.RowKit

def cmpZ (x y : Int) : Int := if x < y then -1 else if y < x then 1 else 0
def or3 (x y z : Int) : Int := if x = 0 then (if y = 0 then z else y) else x
theorem codeNaN (x : Int) (w : World) : Calls Try.prog 59 #[.int .i64 x] w fun e w' => e = .returned (.bool false) ∧ w' = w := by
  have hx : (x != x) = false := by simp
  go_enter Try.func59, Try.ntmps59
  go_wp2_with fail
  go_ret
  exact ⟨rfl, rfl⟩
set_option maxRecDepth 100000 in
theorem codeCompare (x y : Int) (w : World) : Calls Try.prog 48 #[.int .i64 x, .int .i64 y] w fun e w' => e = .returned (.int .i64 (cmpZ x y)) ∧ w' = w := by
  have hnx := codeNaN x w
  have hny := codeNaN y w
  by_cases h1 : x < y
  · have HV : Hid (cmpZ x y = -1) := by show _ = _; unfold cmpZ; rw [if_pos h1]
    have hd : decide (x < y) = true := decide_eq_true h1
    go_enter Try.func48, Try.ntmps48
    go_wp2_with fail
    refine hnx.mono ?_
    rintro e w' ⟨rfl, rfl⟩
    go_wp2_with fail
    refine hny.mono ?_
    rintro e w'' ⟨rfl, rfl⟩
    go_wp2_with fail
    go_ret
    exact ⟨ret_int HV.out.symm, rfl⟩
  · have hd : decide (x < y) = false := decide_eq_false h1
    by_cases h2 : y < x
    · have HV : Hid (cmpZ x y = 1) := by show _ = _; unfold cmpZ; rw [if_neg h1, if_pos h2]
      have hd2 : decide (y < x) = true := decide_eq_true h2
      go_enter Try.func48, Try.ntmps48
      go_wp2_with fail
      refine hnx.mono ?_
      rintro e w' ⟨rfl, rfl⟩
      go_wp2_with fail
      refine hny.mono ?_
      rintro e w'' ⟨rfl, rfl⟩
      go_wp2_with fail
      go_ret
      exact ⟨ret_int HV.out.symm, rfl⟩
    · have HV : Hid (cmpZ x y = 0) := by show _ = _; unfold cmpZ; rw [if_neg h1, if_neg h2]
      have hd2 : decide (y < x) = false := decide_eq_false h2
      go_enter Try.func48, Try.ntmps48
      go_wp2_with fail
      refine hnx.mono ?_
      rintro e w' ⟨rfl, rfl⟩
      go_wp2_with fail
      refine hny.mono ?_
      rintro e w'' ⟨rfl, rfl⟩
      go_wp2_with fail
      go_ret
      exact ⟨ret_int HV.out.symm, rfl⟩
set_option maxHeartbeats 1000000 in
set_option maxRecDepth 100000 in
theorem codeOr3 (x y z : Int) (g c : Nat) (w : World) (h0 : w.cell? ⟨g, 0, none⟩ = some (.int .i64 x)) (h1 : w.cell? ⟨g, 1, none⟩ = some (.int .i64 y)) (h2 : w.cell? ⟨g, 2, none⟩ = some (.int .i64 z)) :
    Calls Try.prog 47 #[.slice (some ⟨g, 0, none⟩) 3 c] w fun e w' => e = .returned (.int .i64 (or3 x y z)) ∧ w' = w := by
  by_cases hx : x = 0
  · subst hx
    by_cases hy : y = 0
    · subst hy
      have HV : Hid (or3 0 0 z = z) := by show _ = _; unfold or3; rw [if_pos rfl, if_pos rfl]
      by_cases hz : z = 0
      · subst hz
        go_enter Try.func47, Try.ntmps47
        go_wp2_with fail
        refine wp_loop_rounds 5 ?_
        rw [rounds_succ]; go_wp2_with fail
        rw [rounds_succ]; go_wp2_with fail
        rw [rounds_succ]; go_wp2_with fail
        rw [rounds_succ]; go_wp2_with fail
        go_ret
        exact ⟨ret_int HV.out.symm, rfl⟩
      · have hz2 : (z != 0) = true := by simp [hz]
        go_enter Try.func47, Try.ntmps47
        go_wp2_with fail
        refine wp_loop_rounds 5 ?_
        rw [rounds_succ]; go_wp2_with fail
        rw [rounds_succ]; go_wp2_with fail
        rw [rounds_succ]; go_wp2_with fail
        go_ret
        exact ⟨ret_int HV.out.symm, rfl⟩
    · have HV : Hid (or3 0 y z = y) := by show _ = _; unfold or3; rw [if_pos rfl, if_neg hy]
      have hy2 : (y != 0) = true := by simp [hy]
      go_enter Try.func47, Try.ntmps47
      go_wp2_with fail
      refine wp_loop_rounds 5 ?_
      rw [rounds_succ]; go_wp2_with fail
      rw [rounds_succ]; go_wp2_with fail
      go_ret
      exact ⟨ret_int HV.out.symm, rfl⟩
  · have HV : Hid (or3 x y z = x) := by show _ = _; unfold or3; rw [if_neg hx]
    have hx2 : (x != 0) = true := by simp [hx]
    go_enter Try.func47, Try.ntmps47
    go_wp2_with fail
    refine wp_loop_rounds 5 ?_
    rw [rounds_succ]; go_wp2_with fail
    go_ret
    exact ⟨ret_int HV.out.symm, rfl⟩

theorem cell_third (w : World) (o1 o2 : Obj) (cs : Array Value) (t : TypeId) {j : Nat} {v : Value} (h : cs[j]? = some v) : (((w.alloc o1).alloc o2).alloc (.cells cs t)).drew.cell? ⟨w.heap.size + 1 + 1, j, none⟩ = some v := by
  have hb := Blk.new ((w.alloc o1).alloc o2) cs t
  rw [show ((w.alloc o1).alloc o2).heap.size = w.heap.size + 1 + 1 by simp] at hb
  exact hb.drew.cell h
def rankV (a b c : Int) : Value := .agg #[.int .i64 a, .int .i64 b, .int .i64 c]
def cmpR (a b c a' b' c' : Int) : Int := or3 (cmpZ a a') (cmpZ b b') (cmpZ c c')
set_option maxHeartbeats 2000000 in
set_option maxRecDepth 100000 in
theorem codeRank (a b c a' b' c' : Int) (W : World) : Calls Try.prog 32 #[rankV a b c, rankV a' b' c'] W fun e w' => e = .returned (.int .i64 (cmpR a b c a' b' c')) ∧ Mem W w' := by
  have HV : Hid (cmpR a b c a' b' c' = or3 (cmpZ a a') (cmpZ b b') (cmpZ c c')) := rfl
  have c1 := codeCompare a a'
  have c2 := codeCompare b b'
  have c3 := codeCompare c c'
  generalize cmpZ a a' = r1 at *
  generalize cmpZ b b' = r2 at *
  generalize cmpZ c c' = r3 at *
  unfold rankV
  go_enter Try.func32, Try.ntmps32
  go_wp2_with fail
  go_region_held3 (fun w' => w'.cell? ⟨W.heap.size, 0, none⟩ = some (.int .i64 a) ∧ w'.cell? ⟨W.heap.size, 1, none⟩ = some (.int .i64 b) ∧ w'.cell? ⟨W.heap.size, 2, none⟩ = some (.int .i64 c) ∧ w'.cell? ⟨W.heap.size + 1, 0, none⟩ = some (.int .i64 a') ∧ w'.cell? ⟨W.heap.size + 1, 1, none⟩ = some (.int .i64 b') ∧ w'.cell? ⟨W.heap.size + 1, 2, none⟩ = some (.int .i64 c'))
    (go_keep)
    (first
      | (go_at_call 48; refine (c1 _).mono ?_; clear c1; rintro e w' ⟨rfl, rfl⟩)
      | (go_at_call 48; refine (c2 _).mono ?_; clear c2; rintro e w' ⟨rfl, rfl⟩)
      | (go_at_call 48; refine (c3 _).mono ?_; rintro e w' ⟨rfl, rfl⟩)
      | (go_at_call 47; refine (codeOr3 r1 r2 r3 _ _ _ (cell_third W _ _ _ _ rfl) (cell_third W _ _ _ _ rfl) (cell_third W _ _ _ _ rfl)).mono ?_; rintro e w' ⟨rfl, rfl⟩))
  go_wp2_with fail
  go_ret
  exact ⟨ret_int HV.out.symm, ((((Mem.refl W).alloc _).alloc _).alloc _).drew⟩
theorem cmpR_neg {a b c a' b' c' : Int} : (cmpR a b c a' b' c' < 0) = (a < a' ∨ (a = a' ∧ (b < b' ∨ (b = b' ∧ c < c')))) := by
  unfold cmpR or3 cmpZ
  refine propext ?_
  by_cases h1 : a < a' <;> by_cases h2 : a' < a <;> by_cases h3 : b < b' <;> by_cases h4 : b' < b <;> by_cases h5 : c < c' <;> by_cases h6 : c' < c <;> simp [h1, h2, h3, h4, h5, h6] <;> omega
end Go.Proofs.Ytegamnaahipedaa.Victim
