/-
  The walks of PackPut, PackTake and PackPack.
-/
import Derived.Test.YthhfebkmhddpkaaPackAwake
namespace Go.Proofs.Ythhfebkmhddpkaa.Pack
open Go.RowKit
set_option linter.unusedVariables false

set_option maxHeartbeats 400000 in
theorem packPut_walk (a0 : Int) (w0 : (Lit.int .i64 a0).wf = true) (w : World) :
    Calls Try.prog 3 #[.int .i64 a0] w fun e w' => e = .returned (.bool true) ∧ Mem w w' := by
  go_enter Try.func3, Try.ntmps3
  go_wp2_with fail
  refine (awake _).mono ?_
  rintro e w1 ⟨rfl, hg⟩
  go_wp2_with fail
  refine (packPut _ _).mono ?_
  rintro e w2 ⟨rfl, hg2⟩
  go_wp2_with fail
  refine (refPut _ _).mono ?_
  rintro e w3 ⟨rfl, hg3⟩
  go_wp2_with fail
  go_ret
  exact ⟨rfl, (hg.trans hg2).trans hg3⟩

/-- the answers of Take, taken apart -/
theorem takeV_cases (o : Option (Nat × List UInt8)) : ∃ (n : Int) (r : ByteArray) (b : Bool), takeV o = .tuple #[.int .i64 n, .string r, .bool b] := by
  cases o with
  | none => exact ⟨0, ⟨#[]⟩, false, rfl⟩
  | some p => exact ⟨p.1, ⟨p.2.toArray⟩, true, rfl⟩
theorem unpackOk_cases {base : Nat} {o : Option (List Nat × List UInt8)} {e : Ending} {w' : World} (h : unpackOk base o e w') :
    ∃ (v : Value) (l : List Nat), e = .returned (.tuple #[v, .string ⟨((o.map (·.2)).getD []).toArray⟩, .int .i64 (if o.isSome then 0 else 20)]) ∧ l = (o.map (·.1)).getD [] ∧ Ints .i64 w' v (ints l) := by
  cases o with
  | none => exact ⟨_, [], h, rfl, Ints.nil _ _ _ _⟩
  | some p =>
    obtain ⟨l, r⟩ := p
    obtain ⟨v, he, ho⟩ := h
    exact ⟨v, l, he, rfl, Ints.of_owns ho⟩

set_option maxHeartbeats 1000000 in
theorem packTake_walk (a0 : ByteArray) (w0 : a0.size ≤ maxLen) (w : World) :
    Calls Try.prog 4 #[.string a0] w fun e w' => e = .returned (.bool true) ∧ Mem w w' := by
  have hs := w0
  unfold maxLen at w0
  by_cases h : 300 < a0.size
  · have h' : (300 : Int) < (a0.size : Int) := by omega
    go_enter Try.func4, Try.ntmps4
    go_wp2_with fail
    refine (awake _).mono ?_
    rintro e w1 ⟨rfl, hg⟩
    go_wp2_with fail
    go_ret
    exact ⟨rfl, hg⟩
  · have h' : ¬ (300 : Int) < (a0.size : Int) := by omega
    obtain ⟨n, r, b, ht⟩ := takeV_cases (take a0.data.toList)
    have HT := hide ht
    clear ht
    go_enter Try.func4, Try.ntmps4
    go_wp2_with fail
    refine (packTake a0 _ hs).mono ?_
    rintro e w1 ⟨rfl, n1, rfl⟩
    rw [HT.out]
    have g1 : Mem w (w.drewN n1) := (Mem.refl w).drewN n1
    generalize w.drewN n1 = w1 at *
    go_wp2_with fail
    refine (refTake a0 _ hs).mono ?_
    rintro e w2 ⟨rfl, n2, rfl⟩
    rw [HT.out]
    have g2 := g1.drewN n2
    generalize w1.drewN n2 = w2 at *
    go_wp2_with fail
    refine (packUnpack a0 _ hs).mono ?_
    rintro e w3 ⟨hu, hm3⟩
    have g3 := g2.trans hm3
    obtain ⟨v, l, rfl, hl, hi⟩ := unpackOk_cases hu
    clear hu hm3
    generalize hR : (ByteArray.mk (Option.getD (Option.map (fun x : List Nat × List UInt8 => x.2) (unpack a0.data.toList)) []).toArray) = R
    generalize hE : (if (unpack a0.data.toList).isSome = true then (0 : Int) else 20) = E
    have HR := hide hR
    have HE := hide hE
    have HL := hide hl
    clear hR hE hl
    go_wp2_with fail
    refine (refUnpack a0 _ hs).mono ?_
    rintro e w4 ⟨hu, hm4⟩
    have g4 := g3.trans hm4
    have hi4 := hi.mem hm4
    clear hi
    obtain ⟨v2, l2, rfl, hl2, hi2⟩ := unpackOk_cases hu
    clear hu hm4
    have hll : l2 = l := by rw [hl2, HL.out]
    subst hll
    rw [HR.out, HE.out]
    clear HL
    go_wp2_with fail
    refine (awake _).mono ?_
    rintro e w5 ⟨rfl, hm5⟩
    have g5 := g4.trans hm5
    have hi5 := hi4.mem hm5
    have hi6 := hi2.mem hm5
    clear hi4 hi2 hm5
    go_wp2_with fail
    refine (refSame v v2 _ _ _ hi5 hi6).mono ?_
    rintro e w6 ⟨rfl, n6, rfl⟩
    have hd : decide (ints l2 = ints l2) = true := decide_eq_true rfl
    go_wp2_with fail
    go_ret
    exact ⟨rfl, g5.drewN _⟩
end Go.Proofs.Ythhfebkmhddpkaa.Pack
