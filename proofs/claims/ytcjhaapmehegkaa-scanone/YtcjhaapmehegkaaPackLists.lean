/-
  Contracts of pack.Unpack, pack.Pack, of the document's answers for them, and of the laws' own helpers.
-/
import Derived.Test.YtcjhaapmehegkaaPackTakes
import Derived.Test.YtcjhaapmehegkaaInts
namespace Go.Proofs.Ytcjhaapmehegkaa.Pack
open Go.RowKit

/-- numbers as Go's -/
def ints (l : List Nat) : List Int := l.map fun n : Nat => (n : Int)
theorem ints_snoc (l : List Nat) (n : Nat) : ints (l ++ [n]) = ints l ++ [(n : Int)] := by simp [ints]
theorem ints_length (l : List Nat) : (ints l).length = l.length := by simp [ints]
/-- what Unpack answers -/
def unpackOk (base : Nat) (o : Option (List Nat × List UInt8)) (e : Ending) (w' : World) : Prop := match o with
  | none => e = .returned (.tuple #[.slice none 0 0, .string ⟨#[]⟩, .int .i64 20])
  | some (l, r) => ∃ v, e = .returned (.tuple #[v, .string ⟨r.toArray⟩, .int .i64 0]) ∧ w'.ownsRow base 3 1 v l.length (icells (ints l))
theorem size_mk (l : List UInt8) : (ByteArray.mk l.toArray).size = l.length := by simp [ByteArray.size]
theorem round_in {k c : Nat} {r0 q : List UInt8} {l : List Nat} (h : takes k r0 = some (l, q)) (hk : k < c) (hn : take q = none) : takes c r0 = none := takes_stop h hn hk

set_option maxHeartbeats 1000000 in
set_option maxRecDepth 100000 in
theorem packUnpack (s : ByteArray) (w : World) (hs : s.size ≤ maxLen) :
    Calls Try.prog 82 #[.string s] w fun e w' => unpackOk w.heap.size (unpack s.data.toList) e w' ∧ Mem w w' := by
  cases ht : take s.data.toList with
  | none =>
    have HF := hide (unpack_none ht)
    have HT := hide ht
    clear ht
    go_enter Try.func82, Try.ntmps82
    go_wp2_with fail
    refine (packTake s _ hs).mono ?_
    rintro e w1 ⟨rfl, n1, rfl⟩
    rw [HT.out]
    simp only [takeV]
    go_wp2_with fail
    go_ret3
    refine ⟨?_, (Mem.refl _).drewN _⟩
    rw [HF.out]; exact rfl
  | some p =>
    obtain ⟨c, r0⟩ := p
    have HF := hide (unpack_at ht)
    have hc := (take_some ht).2
    have hr0 := take_len ht
    have hr1 : r0.length ≤ maxLen := by simp at hr0; omega
    have HT := hide ht
    unfold maxN at hc
    clear ht
    go_enter Try.func82, Try.ntmps82
    go_wp2_with fail
    refine (packTake s _ hs).mono ?_
    rintro e w1 ⟨rfl, n1, rfl⟩
    rw [HT.out]
    simp only [takeV]
    go_wp2_with fail
    go_loopw [6, 7, 8, 19] (fun rest ok v i wr => ∃ (k : Nat) (l : List Nat) (q : List UInt8), k ≤ c ∧ i = .int .i64 k ∧ rest = .string ⟨q.toArray⟩ ∧ ok = .bool true ∧ takes k r0 = some (l, q) ∧ wr.ownsRow w.heap.size 3 1 v k (icells (ints l)) ∧ Mem w wr) (fun _ _ _ i _ => c - (intOf i).toNat)
    case atStart => exact ⟨0, [], r0, Nat.zero_le _, rfl, rfl, rfl, rfl, World.ownsRow_nil _ _ _ _, (Mem.refl _).drewN _⟩
    case round =>
      obtain ⟨k, l, q, hk, rfl, rfl, rfl, hq, hown, hm⟩ := hrel
      have hql := takes_len hq
      have hqs : (ByteArray.mk q.toArray).size ≤ maxLen := by rw [size_mk]; omega
      have HQ := hide hq
      clear hq
      by_cases hlt : k < c
      · cases hn : take q with
        | none =>
          have HN := hide hn
          have HR := hide (round_in HQ.out hlt hn)
          clear hn
          go_wp2_with fail
          refine (packTake _ _ hqs).mono ?_
          rintro e w2 ⟨rfl, n2, rfl⟩
          rw [show take (ByteArray.mk q.toArray).data.toList = none from HN.out]
          simp only [takeV]
          go_wp2_with fail
          go_ret3
          refine ⟨?_, hm.drewN _⟩
          rw [HF.out, HR.out]; exact rfl
        | some y =>
          obtain ⟨n, z⟩ := y
          have HN := hide hn
          have HR := hide (takes_snoc HQ.out hn)
          clear hn
          go_wp2_with fail
          refine (packTake _ _ hqs).mono ?_
          rintro e w2 ⟨rfl, n2, rfl⟩
          rw [show take (ByteArray.mk q.toArray).data.toList = some (n, z) from HN.out]
          simp only [takeV]
          have hm2 := hm.drewN n2
          have hown2 := owns_below hown ((Mem.refl wr).drewN n2)
          generalize wr.drewN n2 = w2 at *
          go_wp2_with (first | (at_builtin; refine pushI rfl _ _ rfl w.heap.size _ (ints l) k rfl hown2 hm2.size (n : Int) rfl (by omega) ?_) | fail)
          intro v' w' h1 h2
          rw [← ints_snoc] at h1
          clear hown hown2
          go_wp2_with fail
          go_roundw
          case rel => exact ⟨k + 1, _, z, by omega, by go_num, rfl, rfl, HR.out, h1, Below.trans hm2 h2⟩
          case measure => simp [intOf]; omega
      · have hke : k = c := by omega
        subst hke
        have hlk := (takes_some HQ.out).2.1
        go_wp2_with fail
        go_ret3
        refine ⟨?_, hm⟩
        rw [HF.out, HQ.out]
        exact ⟨_, rfl, by rw [hlk]; exact hown⟩

set_option maxHeartbeats 1000000 in
set_option maxRecDepth 100000 in
theorem refUnpack (s : ByteArray) (w : World) (hs : s.size ≤ maxLen) :
    Calls Try.prog 36 #[.string s] w fun e w' => unpackOk w.heap.size (unpack s.data.toList) e w' ∧ Mem w w' := by
  cases ht : take s.data.toList with
  | none =>
    have HF := hide (unpack_none ht)
    have HT := hide ht
    clear ht
    go_enter Try.func36, Try.ntmps36
    go_wp2_with fail
    refine (refTake s _ hs).mono ?_
    rintro e w1 ⟨rfl, n1, rfl⟩
    rw [HT.out]
    simp only [takeV]
    go_wp2_with fail
    go_ret3
    refine ⟨?_, (Mem.refl _).drewN _⟩
    rw [HF.out]; exact rfl
  | some p =>
    obtain ⟨c, r0⟩ := p
    have HF := hide (unpack_at ht)
    have hc := (take_some ht).2
    have hr0 := take_len ht
    have hr1 : r0.length ≤ maxLen := by simp at hr0; omega
    have hr2 := hr1
    unfold maxLen at hr2
    have HT := hide ht
    unfold maxN at hc
    clear ht
    by_cases hover : r0.length < c
    · have HR : Hid (takes c r0 = none) := by
        show takes c r0 = none
        cases h : takes c r0 with
        | none => rfl
        | some y => have := takes_len (l := y.1) (z := y.2) h; omega
      have hover' : (r0.length : Int) < (c : Int) := by omega
      go_enter Try.func36, Try.ntmps36
      go_wp2_with fail
      refine (refTake s _ hs).mono ?_
      rintro e w1 ⟨rfl, n1, rfl⟩
      rw [HT.out]
      simp only [takeV]
      go_wp2_with fail
      go_ret3
      refine ⟨?_, (Mem.refl _).drewN _⟩
      rw [HF.out, HR.out]; exact rfl
    have hover' : ¬ (r0.length : Int) < (c : Int) := by omega
    go_enter Try.func36, Try.ntmps36
    go_wp2_with fail
    refine (refTake s _ hs).mono ?_
    rintro e w1 ⟨rfl, n1, rfl⟩
    rw [HT.out]
    simp only [takeV]
    go_wp2_with fail
    go_loopw [6, 8, 9] (fun rest v i wr => ∃ (k : Nat) (l : List Nat) (q : List UInt8), k ≤ c ∧ i = .int .i64 k ∧ rest = .string ⟨q.toArray⟩ ∧ takes k r0 = some (l, q) ∧ wr.ownsRow w.heap.size 3 1 v k (icells (ints l)) ∧ Mem w wr) (fun _ _ i _ => c - (intOf i).toNat)
    case atStart => exact ⟨0, [], r0, Nat.zero_le _, rfl, rfl, rfl, World.ownsRow_nil _ _ _ _, (Mem.refl _).drewN _⟩
    case round =>
      obtain ⟨k, l, q, hk, rfl, rfl, hq, hown, hm⟩ := hrel
      have hql := takes_len hq
      have hqs : (ByteArray.mk q.toArray).size ≤ maxLen := by rw [size_mk]; omega
      have HQ := hide hq
      clear hq
      by_cases hlt : k < c
      · cases hn : take q with
        | none =>
          have HN := hide hn
          have HR := hide (round_in HQ.out hlt hn)
          clear hn
          go_wp2_with fail
          refine (refTake _ _ hqs).mono ?_
          rintro e w2 ⟨rfl, n2, rfl⟩
          rw [show take (ByteArray.mk q.toArray).data.toList = none from HN.out]
          simp only [takeV]
          go_wp2_with fail
          go_ret3
          refine ⟨?_, hm.drewN _⟩
          rw [HF.out, HR.out]; exact rfl
        | some y =>
          obtain ⟨n, z⟩ := y
          have HN := hide hn
          have HR := hide (takes_snoc HQ.out hn)
          clear hn
          go_wp2_with fail
          refine (refTake _ _ hqs).mono ?_
          rintro e w2 ⟨rfl, n2, rfl⟩
          rw [show take (ByteArray.mk q.toArray).data.toList = some (n, z) from HN.out]
          simp only [takeV]
          have hm2 := hm.drewN n2
          have hown2 := owns_below hown ((Mem.refl wr).drewN n2)
          generalize wr.drewN n2 = w2 at *
          go_wp2_with (first | (at_builtin; refine pushI rfl _ _ rfl w.heap.size _ (ints l) k rfl hown2 hm2.size (n : Int) rfl (by omega) ?_) | fail)
          intro v' w' h1 h2
          rw [← ints_snoc] at h1
          clear hown hown2
          go_wp2_with fail
          go_roundw
          case rel => exact ⟨k + 1, _, z, by omega, by go_num, rfl, HR.out, h1, Below.trans hm2 h2⟩
          case measure => simp [intOf]; omega
      · have hke : k = c := by omega
        subst hke
        have hlk := (takes_some HQ.out).2.1
        go_wp2_with fail
        go_ret3
        refine ⟨?_, hm⟩
        rw [HF.out, HQ.out]
        exact ⟨_, rfl, by rw [hlk]; exact hown⟩

/-- two lists that are the same ahead of k -/
theorem same_end {a b : List Int} (hl : a.length = b.length) (h : ∀ j, j < a.length → a.getD j 0 = b.getD j 0) : a = b := by
  apply List.ext_getElem hl
  intro i h1 h2
  have := h i h1
  simpa [h1, h2] using this

set_option maxHeartbeats 1000000 in
set_option maxRecDepth 100000 in
theorem refSame (va vb : Value) (za zb : List Int) (w : World) (ha : Ints .i64 w va za) (hb : Ints .i64 w vb zb) :
    Calls Try.prog 38 #[va, vb] w fun e w' => e = .returned (.bool (decide (za = zb))) ∧ ∃ n, w' = w.drewN n := by
  obtain ⟨oa, ca, rfl⟩ := ha.shape
  obtain ⟨ob, cb, rfl⟩ := hb.shape
  have hla := ha.1
  have hlb := hb.1
  unfold maxLen at hla hlb
  by_cases hl : za.length = zb.length
  · have hl' : ((za.length : Int) != (zb.length : Int)) = false := by rw [bne_eq_false_iff_eq]; omega
    by_cases h0 : 0 < za.length
    · obtain ⟨ba, fa, rfl, hca⟩ := ha.at h0
      obtain ⟨bb, fb, rfl, hcb⟩ := hb.at (by omega)
      have HL := hide hl
      clear hl
      go_enter Try.func38, Try.ntmps38
      go_wp2
      go_loopw [5] (fun i wr => ∃ k : Nat, k ≤ za.length ∧ i = .int .i64 k ∧ (∀ j, j < k → za.getD j 0 = zb.getD j 0) ∧ ∃ n, wr = w.drewN n) (fun i _ => za.length - (intOf i).toNat)
      case atStart => exact ⟨0, Nat.zero_le _, rfl, by omega, 0, rfl⟩
      case round =>
        obtain ⟨k, hk, rfl, hpre, n, rfl⟩ := hrel
        have HP := hide hpre
        clear hpre
        by_cases hlt : k < za.length
        · have hltb : k < zb.length := by rw [← HL.out]; exact hlt
          have c1 := hca k hlt
          have c2 := hcb k hltb
          have hltb' : (k : Int) < (zb.length : Int) := by omega
          have hlt' : (k : Int) < (za.length : Int) := by omega
          clear hca hcb
          obtain ⟨x, hx⟩ : ∃ x, x = za.getD k 0 := ⟨_, rfl⟩
          obtain ⟨y, hy⟩ : ∃ y, y = zb.getD k 0 := ⟨_, rfl⟩
          rw [← hx] at c1
          rw [← hy] at c2
          have HX := hide hx
          have HY := hide hy
          clear hx hy
          by_cases he : x = y
          · have hne : (x != y) = false := by rw [bne_eq_false_iff_eq]; exact he
            have HE := hide he
            clear he
            go_wp2
            go_quiet (fail)
            go_wp2
            go_roundw
            case rel =>
              refine ⟨k + 1, by omega, by go_num, ?_, _, rfl⟩
              intro j hj
              by_cases hjk : j < k
              · exact HP.out j hjk
              · have : j = k := by omega
                subst this
                rw [← HX.out, ← HY.out, HE.out]
            case measure => simp [intOf]; omega
          · have hne : (x != y) = true := by rw [bne_iff_ne]; exact he
            go_wp2
            go_quiet (fail)
            go_wp2
            go_ret
            have : decide (za = zb) = false := by
              rw [decide_eq_false_iff_not]
              intro h
              exact he (by rw [HX.out, HY.out, h])
            exact ⟨ret_b this.symm, _, World.drewN_drewN _ _ _⟩
        · have hke : k = za.length := by omega
          subst hke
          go_wp2
          go_ret
          have : decide (za = zb) = true := by
            rw [decide_eq_true_iff]
            exact same_end HL.out HP.out
          exact ⟨ret_b this.symm, _, rfl⟩
    · have ea : za = [] := List.length_eq_zero_iff.1 (by omega)
      have eb : zb = [] := List.length_eq_zero_iff.1 (by omega)
      subst ea
      subst eb
      go_enter Try.func38, Try.ntmps38
      go_wp2
      refine wp_loop_rounds 1 ?_
      rw [rounds_succ]
      go_wp2
      go_ret
      exact ⟨rfl, 0, rfl⟩
  · have hl' : ((za.length : Int) != (zb.length : Int)) = true := by rw [bne_iff_ne]; omega
    have HD : Hid (decide (za = zb) = false) := by
      show decide (za = zb) = false
      rw [decide_eq_false_iff_not]; intro h; exact hl (by rw [h])
    go_enter Try.func38, Try.ntmps38
    go_wp2
    go_ret
    exact ⟨ret_b HD.out.symm, 0, rfl⟩
end Go.Proofs.Ytcjhaapmehegkaa.Pack
