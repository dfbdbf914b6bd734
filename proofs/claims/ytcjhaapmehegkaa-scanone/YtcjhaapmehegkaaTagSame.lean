/-
  Layer 3: records that are the same; what the statements ask of a record.
-/
import Derived.Test.YtcjhaapmehegkaaTagDecode
namespace Go.Proofs.Ytcjhaapmehegkaa.Tag
open Go.RowKit Go.Proofs.Ytcjhaapmehegkaa.Pack Go.Proofs.Ytcjhaapmehegkaa.Crc

def recEq (k s : Int) (ks vs : List Int) (k' s' : Int) (ks' vs' : List Int) : Bool := decide (k = k') && decide (s = s') && decide (ks = ks') && decide (vs = vs')

set_option maxHeartbeats 1000000 in
set_option maxRecDepth 100000 in
theorem recSame (k s k' s' : Int) (vk vv vk' vv' : Value) (ks vs ks' vs' : List Int) (w : World) (hk : Ints .i64 w vk ks) (hv : Ints .i64 w vv vs) (hk' : Ints .i64 w vk' ks') (hv' : Ints .i64 w vv' vs') :
    Calls Try.prog 21 #[.agg #[.int .i64 k, .int .i64 s, vk, vv], .agg #[.int .i64 k', .int .i64 s', vk', vv']] w fun e w' => e = .returned (.bool (recEq k s ks vs k' s' ks' vs')) ∧ Mem w w' := by
  obtain ⟨oa, ca, rfl⟩ := hk.shape
  obtain ⟨ob, cb, rfl⟩ := hv.shape
  obtain ⟨oc, cc, rfl⟩ := hk'.shape
  obtain ⟨od, cd, rfl⟩ := hv'.shape
  have hm : Mem w ((w.alloc (.cells #[.int .i64 k, .int .i64 s, .slice oa ks.length ca, .slice ob vs.length cb] 51)).alloc (.cells #[.int .i64 k', .int .i64 s', .slice oc ks'.length cc, .slice od vs'.length cd] 51)) := ((Mem.refl w).alloc _).alloc _
  by_cases h1 : k = k'
  case neg =>
    have g1 : (k == k') = false := by rw [beq_eq_false_iff_ne]; exact h1
    have HV : Hid (recEq k s ks vs k' s' ks' vs' = false) := by show _ = _; unfold recEq; rw [decide_eq_false h1]; rfl
    clear h1
    go_enter Try.func21, Try.ntmps21
    go_wp2_with fail
    go_ret
    exact ⟨ret_b HV.out.symm, hm⟩
  subst h1
  by_cases h2 : s = s'
  case neg =>
    have g2 : (s == s') = false := by rw [beq_eq_false_iff_ne]; exact h2
    have HV : Hid (recEq k s ks vs k s' ks' vs' = false) := by show _ = _; unfold recEq; rw [decide_eq_false h2, Bool.and_false]; rfl
    clear h2
    go_enter Try.func21, Try.ntmps21
    go_wp2_with fail
    go_ret
    exact ⟨ret_b HV.out.symm, hm⟩
  subst h2
  have hR : recEq k s ks vs k s ks' vs' = (decide (ks = ks') && decide (vs = vs')) := by unfold recEq; rw [decide_eq_true rfl, decide_eq_true rfl]; rfl
  have HR := hide hR
  clear hR
  by_cases h3 : ks = ks'
  case neg =>
    have HD : Hid (decide (ks = ks') = false) := decide_eq_false h3
    clear h3
    go_enter Try.func21, Try.ntmps21
    go_wp2_with fail
    refine (refSame _ _ ks ks' _ (hk.mem hm) (hk'.mem hm)).mono ?_
    rintro e w1 ⟨rfl, n, rfl⟩
    rw [HD.out]
    go_wp2_with fail
    go_ret
    exact ⟨ret_b (by rw [HR.out, HD.out]; rfl), hm.drewN n⟩
  have HD : Hid (decide (ks = ks') = true) := decide_eq_true h3
  clear h3
  go_enter Try.func21, Try.ntmps21
  go_wp2_with fail
  refine (refSame _ _ ks ks' _ (hk.mem hm) (hk'.mem hm)).mono ?_
  rintro e w1 ⟨rfl, n, rfl⟩
  rw [HD.out]
  go_wp2_with fail
  refine (refSame _ _ vs vs' _ (hv.mem (hm.drewN n)) (hv'.mem (hm.drewN n))).mono ?_
  rintro e w1 ⟨rfl, n2, rfl⟩
  go_wp2_with fail
  go_ret
  exact ⟨ret_b (by rw [HR.out, HD.out]; rfl), hm.drewN _⟩

/-! ### What any right program answers -/
def exTag : List UInt8 := [2, 1, 5, 1, 3, 0, 223, 158, 50, 33]
theorem ex_enc : enc 1 5 [3] [] [97, 98] = some exTag := by decide +kernel
theorem ex_back : decode exTag [97, 98] = some (1, 5, [3], []) := decode_enc ex_enc
theorem ex_data : decode exTag [97, 99] = none := decode_data (p := [97]) (q := []) (x := 98) (y := 99) ex_enc (by decide)
theorem ex_none : enc 0 0 [] [] [] = none := enc_no (by decide)
theorem ex_right : right 1 5 [3] [] = true := by decide

end Go.Proofs.Ytcjhaapmehegkaa.Tag
