/-
  Layer 5: what any right program answers.
-/
import Derived.Test.YtcjhaapmehegkaaNandLawSame
namespace Go.Proofs.Ytcjhaapmehegkaa.Nand
open Go.RowKit

def newC (n m : Int) (bad : List Int) : ChipT × Int :=
  if 1 ≤ n ∧ n ≤ 32 ∧ 1 ≤ m ∧ m ≤ 16 ∧ ∀ b ∈ bad, 0 ≤ b ∧ b < n then (((List.range n.toNat).map fun (i : Nat) => (List.replicate m.toNat zeroPage, (0 : Int), (0 : Int), decide ((i : Int) ∈ bad)), false, false, 0), 0)
  else (([], false, false, 0), 1)
def NewSpec (F : Nat) : Prop := ∀ (n m : Int) (vl : Value) (bad : List Int) (w : World), Ints .i64 w vl bad → bad.length ≤ 1000 →
  Calls Try.prog F #[.int .i64 n, .int .i64 m, vl] w fun e w' => (∃ v', e = .returned (.tuple #[chipV v' (newC n m bad).1.2.1 (newC n m bad).1.2.2.1 (newC n m bad).1.2.2.2, .int .i64 (newC n m bad).2]) ∧ BlocksAt (fun x => w.heap.size ≤ x) w' v' (newC n m bad).1.1) ∧ Mem w w'

def z4 : List PageT := [zeroPage, zeroPage, zeroPage, zeroPage]
def aw1 : List BlockT := [(z4, 0, 0, false), (z4, 0, 0, true)]
def aw2 : List BlockT := [([(true, ⟨#[120]⟩, ⟨#[121]⟩), zeroPage, zeroPage, zeroPage], 1, 0, false), (z4, 0, 0, true)]
def aw3 : List BlockT := [(z4, 0, 1, false), (z4, 0, 0, true)]
theorem aw_new : newC 2 4 [1] = ((aw1, false, false, 0), 0) := by kernel_rfl
theorem aw_none : newC 0 1 [] = (([], false, false, 0), 1) := by kernel_rfl
theorem aw_prog : program (aw1, false, false, 0) 0 0 (false, ⟨#[120]⟩, ⟨#[121]⟩) (0, ⟨#[]⟩, ⟨#[]⟩, 0) = ((aw2, false, false, 1), 0) := by kernel_rfl
theorem aw_read : readC aw2 false 0 0 = ((true, ⟨#[120]⟩, ⟨#[121]⟩), 0) := by kernel_rfl
theorem aw_bad : program (aw1, false, false, 0) 1 0 (false, ⟨#[]⟩, ⟨#[]⟩) (0, ⟨#[]⟩, ⟨#[]⟩, 0) = ((aw1, true, false, 0), 1) := by kernel_rfl
theorem aw_erase : erase (aw2, false, false, 1) 0 (0, ⟨#[]⟩, ⟨#[]⟩, 0) = ((aw3, false, false, 2), 0) := by kernel_rfl
theorem aw_few1 : Few aw1 := ⟨by decide, by intro b hb; simp [aw1, z4] at hb; rcases hb with rfl | rfl <;> decide⟩
theorem aw_few2 : Few aw2 := ⟨by decide, by intro b hb; simp [aw2, z4] at hb; rcases hb with rfl | rfl <;> decide⟩
end Go.Proofs.Ytcjhaapmehegkaa.Nand
