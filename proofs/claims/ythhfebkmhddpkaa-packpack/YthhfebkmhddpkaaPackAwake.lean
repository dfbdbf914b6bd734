/-
  What any right program answers: 'awake' of the statements of layer 2 is true.
-/
import Derived.Test.YthhfebkmhddpkaaPackPacks
namespace Go.Proofs.Ythhfebkmhddpkaa.Pack
open Go.RowKit

theorem awake1 : packV [1, 300] = .tuple #[.string ⟨#[2, 1, 172, 2]⟩, .int .i64 0] := by
  rw [packV_yes (by intro z hz; simp at hz; omega), pack_ex]
theorem awake2 : packV [-1] = .tuple #[.string ⟨#[]⟩, .int .i64 1] := packV_no (k := 0) (by decide) (by decide)
theorem awake3 : takeV (take [172, 2, 120]) = .tuple #[.int .i64 300, .string ⟨#[120]⟩, .bool true] := by rw [take_ex]; rfl

set_option maxHeartbeats 400000 in
theorem awake (w : World) :
    Calls Try.prog 12 #[] w fun e w' => e = .returned (.bool true) ∧ Mem w w' := by
  go_enter Try.func12, Try.ntmps12
  go_wp2_with fail
  refine (packPack _ [1, 300] _ (Ints.lit .i64 w [1, 300] 3 (by decide)) (by decide)).mono ?_
  rintro e w1 ⟨rfl, hm1⟩
  rw [awake1]
  have g1 : Mem w w1 := ((Mem.refl w).alloc _).trans hm1
  clear hm1
  go_wp2_with fail
  refine (packPack _ [-1] _ (Ints.lit .i64 w1 [-1] 3 (by decide)) (by decide)).mono ?_
  rintro e w2 ⟨rfl, hm2⟩
  rw [awake2]
  have g2 : Mem w w2 := (g1.alloc _).trans hm2
  clear hm2
  go_wp2_with fail
  refine (packTake _ _ (by decide)).mono ?_
  rintro e w3 ⟨rfl, n3, rfl⟩
  rw [show take _ = _ from take_ex]
  simp only [takeV]
  go_wp2_with fail
  refine (packPut _ _).mono ?_
  rintro e w4 ⟨rfl, hm4⟩
  rw [putI_no (by omega)]
  go_wp2_with fail
  go_ret
  exact ⟨rfl, (g2.drewN _).trans hm4⟩
end Go.Proofs.Ythhfebkmhddpkaa.Pack
