/-
  Layer 7: what a page tells of a key, and whether there is such a sector.
-/
import Derived.Test.YtbibkheiagglbaaReplayNews
namespace Go.Proofs.Ytbibkheiagglbaa.Replay
open Go.RowKit Go.Proofs.Ytbibkheiagglbaa.Scan

theorem toldT_data {p s : Int} {ks vs : List Int} {i : Nat} : toldT (p, 1, s, ks, vs) i = some p := rfl
theorem toldT_change {p s : Int} {ks vs : List Int} {i : Nat} (h : i < vs.length) : toldT (p, 2, s, ks, vs) i = some (vs.getD i 0) := by
  show vs[i]? = _
  simp [h]
theorem toldT_short {p s : Int} {ks vs : List Int} {i : Nat} (h : ¬ i < vs.length) : toldT (p, 2, s, ks, vs) i = none := by
  show vs[i]? = _
  simp; omega
theorem toldT_else {p k s : Int} {ks vs : List Int} {i : Nat} (h1 : k ≠ 1) (h2 : k ≠ 2) : toldT (p, k, s, ks, vs) i = none := by
  unfold toldT
  rw [if_neg h1, if_neg h2]
set_option maxHeartbeats 1000000 in
set_option maxRecDepth 100000 in
theorem codeTold (p k s : Int) (ok ov : Option Addr) (ck cv : Nat) (ks vs : List Int) (i : Nat) (w : World) (hv : Ints .i64 w (.slice ov vs.length cv) vs) :
    Calls Try.prog 28 #[.agg #[.int .i64 p, .int .i64 k, .int .i64 s, .slice ok ks.length ck, .slice ov vs.length cv], .int .i64 i] w fun e w' => e = .returned (.tuple #[.int .i64 ((toldT (p, k, s, ks, vs) i).getD 0), .bool (toldT (p, k, s, ks, vs) i).isSome]) ∧ Mem w w' := by
  have hm : Mem w (w.alloc (.cells #[.int .i64 p, .int .i64 k, .int .i64 s, .slice ok ks.length ck, .slice ov vs.length cv] 32)) := (Mem.refl w).alloc _
  replace hv := hv.mem hm
  by_cases h1 : k = 1
  · subst h1
    go_enter Try.func28, Try.ntmps28
    go_wp2_with fail
    go_ret2
    exact ⟨rfl, hm⟩
  by_cases h2 : k = 2
  · subst h2
    by_cases h3 : i < vs.length
    · have h3' : (i : Int) < (vs.length : Int) := by omega
      have hi0 : (0 : Int) ≤ (i : Int) := by omega
      obtain ⟨b, off, rfl, hc⟩ := hv.at (by omega)
      have c0 := hc i h3
      have HT := hide (toldT_change (p := p) (s := s) (ks := ks) h3)
      clear hc
      generalize vs.getD i 0 = x at *
      go_enter Try.func28, Try.ntmps28
      go_wp2_with fail
      go_ret2
      exact ⟨by rw [HT.out]; rfl, hm⟩
    · have h3' : ¬ ((i : Int) < (vs.length : Int)) := by omega
      have HT := hide (toldT_short (p := p) (s := s) (ks := ks) h3)
      go_enter Try.func28, Try.ntmps28
      go_wp2_with fail
      go_ret2
      exact ⟨by rw [HT.out]; rfl, hm⟩
  · have HT := hide (toldT_else (p := p) (s := s) (ks := ks) (vs := vs) (i := i) h1 h2)
    go_enter Try.func28, Try.ntmps28
    go_wp2_with fail
    go_ret2
    exact ⟨by rw [HT.out]; rfl, hm⟩
set_option maxHeartbeats 1000000 in
set_option maxRecDepth 100000 in
theorem codeIsSector (om ob : Option Addr) (cm cb : Nat) (t : TableT) (k : Int) (w : World) :
    Calls Try.prog 29 #[.agg #[.slice om t.1.length cm, .slice ob t.2.length cb], .int .i64 k] w fun e w' => e = .returned (.bool (isSec t k)) ∧ Mem w w' := by
  have hm : Mem w (w.alloc (.cells #[.slice om t.1.length cm, .slice ob t.2.length cb] 26)) := (Mem.refl w).alloc _
  have HS : Hid (isSec t k = (decide (0 ≤ k) && decide (k < t.1.length) && decide (k < t.2.length))) := rfl
  generalize isSec t k = b at *
  by_cases a1 : 0 ≤ k
  · by_cases a2 : k < (t.1.length : Int)
    · by_cases a3 : k < (t.2.length : Int)
      · go_enter Try.func29, Try.ntmps29
        go_wp2_with fail
        go_ret
        exact ⟨ret_b (by rw [HS.out, Bool.eq_iff_iff]; simp; omega), hm⟩
      · go_enter Try.func29, Try.ntmps29
        go_wp2_with fail
        go_ret
        exact ⟨ret_b (by rw [HS.out, Bool.eq_iff_iff]; simp; omega), hm⟩
    · go_enter Try.func29, Try.ntmps29
      go_wp2_with fail
      go_ret
      exact ⟨ret_b (by rw [HS.out, Bool.eq_iff_iff]; simp; omega), hm⟩
  · go_enter Try.func29, Try.ntmps29
    go_wp2_with fail
    go_ret
    exact ⟨ret_b (by rw [HS.out, Bool.eq_iff_iff]; simp; omega), hm⟩
end Go.Proofs.Ytbibkheiagglbaa.Replay
