/-
  Layer 6, the program: the blocks and the pages that have places.
-/
import Derived.Test.YtcjhaapmehegkaaScanRefAll
namespace Go.Proofs.Ytcjhaapmehegkaa.Scan
open Go.RowKit Go.Proofs.Ytcjhaapmehegkaa.Nand

theorem BlocksAt.take {S : Nat → Prop} {w : World} {oa : Option Addr} {n cap : Nat} {bs : List BlockT} (h : BlocksAt S w (.slice oa n cap) bs) (k : Nat) : BlocksAt S w (.slice oa (min n k) cap) (bs.take k) := by
  have hc := BlocksAt.cap h
  have hn : n = bs.length := by
    obtain ⟨o', c', e⟩ := h.shape
    injection e with _ e _
  subst hn
  have hl : (bs.take k).length = min bs.length k := by rw [List.length_take]; omega
  refine ⟨by rw [hl]; have := h.1; omega, ?_⟩
  by_cases h0 : min bs.length k = 0
  · exact .inl ⟨List.length_eq_zero_iff.1 (by omega), oa, cap, by rw [h0]⟩
  · rcases h.2 with ⟨rfl, _⟩ | ⟨g, off, cap', hv, _, hs, hcs⟩
    · simp at h0
    · injection hv with ha _ hcc
      subst ha; subst hcc
      refine .inr ⟨g, off, cap, by rw [hl], ⟨by omega, by omega⟩, hs, fun i hi => ?_⟩
      have hi' : i < bs.length := by omega
      have e : (bs.take k)[i] = bs[i] := by simp
      rw [e]
      exact hcs i hi'
theorem PagesAt.take {S : Nat → Prop} {w : World} {oa : Option Addr} {n cap : Nat} {ps : List PageT} (h : PagesAt S w (.slice oa n cap) ps) (k : Nat) : PagesAt S w (.slice oa (min n k) cap) (ps.take k) := by
  have hc := PagesAt.cap h
  have hn : n = ps.length := by
    obtain ⟨o', c', e⟩ := h.shape
    injection e with _ e _
  subst hn
  have hl : (ps.take k).length = min ps.length k := by rw [List.length_take]; omega
  refine ⟨by rw [hl]; have := h.1; omega, ?_⟩
  by_cases h0 : min ps.length k = 0
  · exact .inl ⟨List.length_eq_zero_iff.1 (by omega), oa, cap, by rw [h0]⟩
  · rcases h.2 with ⟨rfl, _⟩ | ⟨g, off, cap', hv, _, hs, hcs⟩
    · simp at h0
    · injection hv with ha _ hcc
      subst ha; subst hcc
      refine .inr ⟨g, off, cap, by rw [hl], ⟨by omega, by omega⟩, hs, fun i hi => ?_⟩
      have hi' : i < ps.length := by omega
      have e : (ps.take k)[i] = ps[i] := by simp
      rw [e]
      exact hcs i hi'

set_option maxHeartbeats 1000000 in
set_option maxRecDepth 100000 in
theorem placedBlocks (S : Nat → Prop) (vb : Value) (bs : List BlockT) (br off : Bool) (ops : Int) (w : World) (hb : BlocksAt S w vb bs) :
    Calls Try.prog 24 #[chipV vb br off ops] w fun e w' => (∃ v', e = .returned v' ∧ BlocksAt S w' v' (bs.take 32)) ∧ Mem w w' := by
  obtain ⟨oa, ca, rfl⟩ := hb.shape
  have hm : Mem w (w.alloc (.cells #[.slice oa bs.length ca, .bool br, .bool off, .int .i64 ops] 24)) := (Mem.refl w).alloc _
  have hb' := BlocksAt.take (hb.mem hm) 32
  have hc := BlocksAt.cap hb
  have hl := hb.1
  unfold maxLen at hl
  by_cases h : bs.length ≤ 32
  · have hx : min (bs.length : Int) 32 = (bs.length : Int) := by omega
    rw [show min bs.length 32 = bs.length by omega] at hb'
    go_enter Try.func24, Try.ntmps24
    go_wp2_with fail
    go_ret
    exact ⟨⟨_, rfl, hb'⟩, hm⟩
  · have h' : (32 : Int) < (bs.length : Int) := by omega
    rw [show min bs.length 32 = 32 by omega] at hb'
    go_enter Try.func24, Try.ntmps24
    go_wp2_with fail
    go_ret
    exact ⟨⟨_, rfl, hb'⟩, hm⟩

set_option maxHeartbeats 1000000 in
set_option maxRecDepth 100000 in
theorem placedPages (S : Nat → Prop) (vp : Value) (ps : List PageT) (nx er : Int) (bd : Bool) (w : World) (hb : PagesAt S w vp ps) :
    Calls Try.prog 40 #[.agg #[vp, .int .i64 nx, .int .i64 er, .bool bd]] w fun e w' => (∃ v', e = .returned v' ∧ PagesAt S w' v' (ps.take 16)) ∧ Mem w w' := by
  obtain ⟨oa, ca, rfl⟩ := hb.shape
  have hm : Mem w (w.alloc (.cells #[.slice oa ps.length ca, .int .i64 nx, .int .i64 er, .bool bd] 34)) := (Mem.refl w).alloc _
  have hb' := PagesAt.take (hb.mem hm) 16
  have hc := PagesAt.cap hb
  have hl := hb.1
  unfold maxLen at hl
  by_cases h : ps.length ≤ 16
  · have hx : min (ps.length : Int) 16 = (ps.length : Int) := by omega
    rw [show min ps.length 16 = ps.length by omega] at hb'
    go_enter Try.func40, Try.ntmps40
    go_wp2_with fail
    go_ret
    exact ⟨⟨_, rfl, hb'⟩, hm⟩
  · have h' : (16 : Int) < (ps.length : Int) := by omega
    rw [show min ps.length 16 = 16 by omega] at hb'
    go_enter Try.func40, Try.ntmps40
    go_wp2_with fail
    go_ret
    exact ⟨⟨_, rfl, hb'⟩, hm⟩
end Go.Proofs.Ytcjhaapmehegkaa.Scan
