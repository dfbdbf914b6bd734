/-
  Layer 6, by the document: places, what stands ahead, and one more at its place.
-/
import Derived.Test.YtcjhaapmehegkaaFounds
import Derived.Deep.RegionHeld3
import Derived.Deep.QuietTactic
import Derived.BigQuiet
namespace Go.Proofs.Ytcjhaapmehegkaa.Scan
open Go.RowKit Go.Proofs.Ytcjhaapmehegkaa.Nand

set_option maxHeartbeats 1000000 in
set_option maxRecDepth 100000 in
theorem refPlace (b p : Int) (w : World) : Calls Try.prog 13 #[.int .i64 b, .int .i64 p] w fun e w' => e = .returned (.int .i64 (place b p)) ∧ w' = w := by
  by_cases hg : 0 ≤ b ∧ b < 32 ∧ 0 ≤ p ∧ p < 16
  case neg =>
    have HV : Hid (place b p = -1) := by show _ = _; unfold place; rw [if_pos (by omega)]
    have hc : b < 0 ∨ (0 ≤ b ∧ 32 ≤ b) ∨ (0 ≤ b ∧ b < 32 ∧ p < 0) ∨ (0 ≤ b ∧ b < 32 ∧ 0 ≤ p ∧ 16 ≤ p) := by omega
    clear hg
    rcases hc with h | ⟨h, h'⟩ | ⟨h, h', h''⟩ | ⟨h, h', h'', h'''⟩
    all_goals (
      go_enter Try.func13, Try.ntmps13
      go_wp2_with fail
      go_ret
      exact ⟨ret_int HV.out.symm, rfl⟩)
  obtain ⟨h, h', h'', h'''⟩ := hg
  have HV : Hid (place b p = b * 16 + p) := by show _ = _; unfold place; rw [if_neg (by omega)]
  go_enter Try.func13, Try.ntmps13
  go_wp2_with fail
  go_ret
  exact ⟨ret_int HV.out.symm, rfl⟩

set_option maxHeartbeats 1000000 in
set_option maxRecDepth 100000 in
theorem codePlace (b p : Int) (w : World) : Calls Try.prog 12 #[.int .i64 b, .int .i64 p] w fun e w' => e = .returned (.int .i64 (place b p)) ∧ w' = w := by
  by_cases hg : 0 ≤ b ∧ b < 32 ∧ 0 ≤ p ∧ p < 16
  case neg =>
    have HV : Hid (place b p = -1) := by show _ = _; unfold place; rw [if_pos (by omega)]
    have hc : b < 0 ∨ (0 ≤ b ∧ 32 ≤ b) ∨ (0 ≤ b ∧ b < 32 ∧ p < 0) ∨ (0 ≤ b ∧ b < 32 ∧ 0 ≤ p ∧ 16 ≤ p) := by omega
    clear hg
    rcases hc with h | ⟨h, h'⟩ | ⟨h, h', h''⟩ | ⟨h, h', h'', h'''⟩
    all_goals (
      go_enter Try.func12, Try.ntmps12
      go_wp2_with fail
      go_ret
      exact ⟨ret_int HV.out.symm, rfl⟩)
  obtain ⟨h, h', h'', h'''⟩ := hg
  have HV : Hid (place b p = b * 16 + p) := by show _ = _; unfold place; rw [if_neg (by omega)]
  go_enter Try.func12, Try.ntmps12
  go_wp2_with fail
  go_ret
  exact ⟨ret_int HV.out.symm, rfl⟩

def aheadI (p s p' s' : Int) : Bool := decide (s < s') || (decide (s = s') && decide (p < p'))
set_option maxHeartbeats 1000000 in
set_option maxRecDepth 100000 in
theorem refAhead (p k s p' k' s' : Int) (oa ob oc od : Option Addr) (na nb nc nd ca cb cc cd : Nat) (w : World) :
    Calls Try.prog 46 #[.agg #[.int .i64 p, .int .i64 k, .int .i64 s, .slice oa na ca, .slice ob nb cb], .agg #[.int .i64 p', .int .i64 k', .int .i64 s', .slice oc nc cc, .slice od nd cd]] w fun e w' => e = .returned (.bool (aheadI p s p' s')) ∧ Mem w w' := by
  have hm : Mem w ((w.alloc (.cells #[.int .i64 p, .int .i64 k, .int .i64 s, .slice oa na ca, .slice ob nb cb] 53)).alloc (.cells #[.int .i64 p', .int .i64 k', .int .i64 s', .slice oc nc cc, .slice od nd cd] 53)) := ((Mem.refl w).alloc _).alloc _
  by_cases h1 : s < s'
  · have HV : Hid (aheadI p s p' s' = true) := by show _ = _; unfold aheadI; rw [decide_eq_true h1]; rfl
    go_enter Try.func46, Try.ntmps46
    go_wp2_with fail
    go_ret
    exact ⟨ret_b HV.out.symm, hm⟩
  have h1' : s' ≤ s := by omega
  by_cases h2 : s = s'
  case neg =>
    have g2 : (s == s') = false := by rw [beq_eq_false_iff_ne]; exact h2
    have HV : Hid (aheadI p s p' s' = false) := by show _ = _; unfold aheadI; rw [decide_eq_false h1, decide_eq_false h2]; rfl
    clear h1 h2
    go_enter Try.func46, Try.ntmps46
    go_wp2_with fail
    go_ret
    exact ⟨ret_b (by rw [HV.out]; exact decide_eq_false (by omega)), hm⟩
  subst h2
  have HV : Hid (aheadI p s p' s = decide (p < p')) := by show _ = _; unfold aheadI; rw [decide_eq_false h1]; simp
  clear h1
  go_enter Try.func46, Try.ntmps46
  go_wp2_with fail
  go_ret
  exact ⟨ret_b HV.out.symm, hm⟩

/-! ### One more, at its place -/
theorem putF_none {f : FoundT} {l : List FoundT} (h : ∀ x ∈ l, aheadF f x = false) : putF f l = l ++ [f] := by
  induction l with
  | nil => rfl
  | cons x xs ih =>
    unfold putF
    rw [h x (by simp), if_neg (by decide), ih (fun y hy => h y (by simp [hy]))]
    rfl
theorem putF_hit {f y : FoundT} {l : List FoundT} (h : ∀ x ∈ l, aheadF f x = false) (hy : aheadF f y = true) : putF f (l ++ [y]) = l ++ [f] ++ [y] := by
  induction l with
  | nil => rw [List.nil_append]; simp [putF, hy]
  | cons x xs ih =>
    rw [List.cons_append]
    unfold putF
    rw [h x (by simp), if_neg (by decide), ih (fun y hy => h y (by simp [hy]))]
    rfl
theorem putF_past {f : FoundT} {l : List FoundT} (h : ∃ x ∈ l, aheadF f x = true) (m : List FoundT) : putF f (l ++ m) = putF f l ++ m := by
  induction l with
  | nil => obtain ⟨x, hx, _⟩ := h; cases hx
  | cons x xs ih =>
    rw [List.cons_append]
    unfold putF
    by_cases e : aheadF f x = true
    · rw [if_pos e, if_pos e]; rfl
    · rw [if_neg e, if_neg e, ih, List.cons_append]
      obtain ⟨y, hy, hy'⟩ := h
      rcases List.mem_cons.1 hy with rfl | hy
      · exact absurd hy' e
      · exact ⟨y, hy, hy'⟩
/-- how far put has come: with i looked at, and done or not -/
def putD (f : FoundT) (fs : List FoundT) (d : Bool) (i : Nat) : List FoundT := if d = true then putF f (fs.take i) else fs.take i
def PutOk (f : FoundT) (fs : List FoundT) (d : Bool) (i : Nat) : Prop := if d = true then ∃ x ∈ fs.take i, aheadF f x = true else ∀ x ∈ fs.take i, aheadF f x = false
theorem putD_length (f : FoundT) (fs : List FoundT) (d : Bool) {i : Nat} (hi : i ≤ fs.length) : (putD f fs d i).length ≤ i + 1 := by
  unfold putD
  split
  · rw [(putF_perm f _).length_eq, List.length_cons, List.length_take]; omega
  · rw [List.length_take]; omega
end Go.Proofs.Ytcjhaapmehegkaa.Scan
