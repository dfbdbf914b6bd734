/-
  Layer 5: what any right program answers.
-/
import Derived.Test.YtodncodjnoegmaaNandLawSame
namespace Go.Proofs.Ytodncodjnoegmaa.Nand
open Go.RowKit

def newC (n m : Int) (bad : List Int) : ChipT × Int :=
  if 1 ≤ n ∧ n ≤ 32 ∧ 1 ≤ m ∧ m ≤ 16 ∧ ∀ b ∈ bad, 0 ≤ b ∧ b < n then (((List.range n.toNat).map fun (i : Nat) => (List.replicate m.toNat zeroPage, (0 : Int), (0 : Int), decide ((i : Int) ∈ bad)), false, false, 0), 0)
  else (([], false, false, 0), 1)
def NewSpec (F : Nat) : Prop := ∀ (n m : Int) (vl : Value) (bad : List Int) (w : World), Ints .i64 w vl bad → bad.length ≤ 1000 →
  Calls Try.prog F #[.int .i64 n, .int .i64 m, vl] w fun e w' => (∃ v', e = .returned (.tuple #[chipV v' (newC n m bad).1.2.1 (newC n m bad).1.2.2.1 (newC n m bad).1.2.2.2, .int .i64 (newC n m bad).2]) ∧ BlocksAt (fun x => w.heap.size ≤ x) w' v' (newC n m bad).1.1) ∧ Mem w w'

def z4 : List PageT := [zeroPage, zeroPage, zeroPage, zeroPage]
def aw1 : List BlockT := [(z4, 0, 0, false), (z4, 0, 0, true)]
def aw2 : List BlockT := [([(true, ⟨#[120]⟩, ⟨#[121]⟩), zeroPage, zeroPage, zeroPage], 1, 0, false), (z4, 0, 0, true)]
def aw3 : List BlockT := [(z4, 0, 1, false), (z4, 0, 0, true)]
theorem aw_new : newC 2 4 [1] = ((aw1, false, false, 0), 0) := by kernel_rfl
theorem aw_none : newC 0 1 [] = (([], false, false, 0), 1) := by kernel_rfl
theorem aw_prog : program (aw1, false, false, 0) 0 0 (false, ⟨#[120]⟩, ⟨#[121]⟩) (0, ⟨#[]⟩, ⟨#[]⟩, 0) = ((aw2, false, false, 1), 0) := by kernel_rfl
theorem aw_read : readC aw2 false 0 0 = ((true, ⟨#[120]⟩, ⟨#[121]⟩), 0) := by kernel_rfl
theorem aw_bad : program (aw1, false, false, 0) 1 0 (false, ⟨#[]⟩, ⟨#[]⟩) (0, ⟨#[]⟩, ⟨#[]⟩, 0) = ((aw1, true, false, 0), 1) := by kernel_rfl
theorem aw_erase : erase (aw2, false, false, 1) 0 (0, ⟨#[]⟩, ⟨#[]⟩, 0) = ((aw3, false, false, 2), 0) := by kernel_rfl
theorem aw_few1 : Few aw1 := ⟨by decide, by intro b hb; simp [aw1, z4] at hb; rcases hb with rfl | rfl <;> decide⟩
theorem aw_few2 : Few aw2 := ⟨by decide, by intro b hb; simp [aw2, z4] at hb; rcases hb with rfl | rfl <;> decide⟩
set_option maxHeartbeats 2000000 in
set_option maxRecDepth 100000 in
theorem awake (hNew : NewSpec 12) (hRead : ReadSpec 21) (hProg : ProgSpec 18) (hErase : EraseSpec 19) (w : World) :
    Calls Try.prog 11 #[] w fun e w' => e = .returned (.bool true) ∧ Mem w w' := by
  have hl := Ints.lit .i64 w [1] 3 (by decide)
  have hm : Mem w (w.alloc (.cells #[.int .i64 1] 3)) := (Mem.refl w).alloc _
  go_enter Try.func11, Try.ntmps11
  go_wp2_with fail
  refine (hNew 2 4 _ [1] _ hl (by decide)).mono ?_
  rintro e w1 ⟨hr, m1⟩
  rw [aw_new] at hr
  obtain ⟨v1, rfl, hb1⟩ := hr
  obtain ⟨o1, c1, rfl⟩ := hb1.shape
  replace hb1 : BlocksAt _ w1 (.slice o1 2 c1) aw1 := hb1
  rw [show aw1.length = 2 from rfl]
  simp only [chipV]
  have ha : Mem w1 (w1.alloc (.cells #[.slice o1 2 c1, .bool false, .bool false, .int .i64 0] 27)) := (Mem.refl w1).alloc _
  have hX1 := Blk.new w1 #[.slice o1 2 c1, .bool false, .bool false, .int .i64 0] 27
  have n1 := m1.trans ha
  replace hb1 := hb1.mem ha
  replace hm := hm.trans n1
  clear m1 ha n1
  clear hl
  go_wp2_with fail
  generalize hg1 : w1.alloc (.cells #[.slice o1 2 c1, .bool false, .bool false, .int .i64 0] 27) = W1 at *
  generalize w1.heap.size = B1 at *
  clear hg1
  refine (hProg _ _ aw1 false false 0 0 0 (false, ⟨#[120]⟩, ⟨#[121]⟩) (0, ⟨#[]⟩, ⟨#[]⟩, 0) _ hb1 aw_few1).mono ?_
  rintro e w2 ⟨hr, m1⟩
  rw [aw_prog] at hr
  obtain ⟨v2, rfl, hb2⟩ := hr
  obtain ⟨o2, c2, rfl⟩ := hb2.shape
  replace hb2 : BlocksAt _ w2 (.slice o2 2 c2) aw2 := hb2
  rw [show aw2.length = 2 from rfl]
  simp only [chipV]
  have ha : Mem w2 (w2.alloc (.cells #[.slice o2 2 c2, .bool false, .bool false, .int .i64 1] 27)) := (Mem.refl w2).alloc _
  have hX2 := Blk.new w2 #[.slice o2 2 c2, .bool false, .bool false, .int .i64 1] 27
  have n1 := m1.trans ha
  replace hb2 := hb2.mem ha
  replace hb1 := hb1.mem n1
  replace hX1 := hX1.mem n1
  replace hm := hm.trans n1
  clear m1 ha n1
  go_wp2_with fail
  generalize hg2 : w2.alloc (.cells #[.slice o2 2 c2, .bool false, .bool false, .int .i64 1] 27) = W2 at *
  generalize w2.heap.size = B2 at *
  clear hg2
  refine (hRead _ _ aw2 false false 1 0 0 _ hb2).mono ?_
  rintro e w3 ⟨rfl, m1⟩
  rw [aw_read]
  simp only [pageV]
  have ha : Mem w3 (w3.alloc (.cells #[.bool true, .string ⟨#[120]⟩, .string ⟨#[121]⟩] 34)) := (Mem.refl w3).alloc _
  have hX3 := Blk.new w3 #[.bool true, .string ⟨#[120]⟩, .string ⟨#[121]⟩] 34
  have n1 := m1.trans ha
  replace hb1 := hb1.mem n1
  replace hX1 := hX1.mem n1
  replace hb2 := hb2.mem n1
  replace hX2 := hX2.mem n1
  replace hm := hm.trans n1
  clear m1 ha n1
  have a0 := hX1.cell (j := 0) rfl
  have a1 := hX1.cell (j := 1) rfl
  have a2 := hX1.cell (j := 2) rfl
  have a3 := hX1.cell (j := 3) rfl
  go_wp2_with fail
  clear a0 a1 a2 a3
  generalize hg3 : w3.alloc (.cells #[.bool true, .string ⟨#[120]⟩, .string ⟨#[121]⟩] 34) = W3 at *
  generalize w3.heap.size = B3 at *
  clear hg3
  refine (hProg _ _ aw1 false false 0 1 0 (false, ⟨#[]⟩, ⟨#[]⟩) (0, ⟨#[]⟩, ⟨#[]⟩, 0) _ hb1 aw_few1).mono ?_
  rintro e w4 ⟨hr, m1⟩
  rw [aw_bad] at hr
  obtain ⟨v4, rfl, hb4⟩ := hr
  obtain ⟨o4, c4, rfl⟩ := hb4.shape
  replace hb4 : BlocksAt _ w4 (.slice o4 2 c4) aw1 := hb4
  rw [show aw1.length = 2 from rfl]
  simp only [chipV]
  have ha : Mem w4 (w4.alloc (.cells #[.slice o4 2 c4, .bool true, .bool false, .int .i64 0] 27)) := (Mem.refl w4).alloc _
  have hX4 := Blk.new w4 #[.slice o4 2 c4, .bool true, .bool false, .int .i64 0] 27
  have n1 := m1.trans ha
  replace hb4 := hb4.mem ha
  replace hb1 := hb1.mem n1
  replace hX1 := hX1.mem n1
  replace hb2 := hb2.mem n1
  replace hX2 := hX2.mem n1
  replace hX3 := hX3.mem n1
  replace hm := hm.trans n1
  clear m1 ha n1
  have a0 := hX2.cell (j := 0) rfl
  have a1 := hX2.cell (j := 1) rfl
  have a2 := hX2.cell (j := 2) rfl
  have a3 := hX2.cell (j := 3) rfl
  go_wp2_with fail
  clear a0 a1 a2 a3
  generalize hg4 : w4.alloc (.cells #[.slice o4 2 c4, .bool true, .bool false, .int .i64 0] 27) = W4 at *
  generalize w4.heap.size = B4 at *
  clear hg4
  refine (hErase _ _ aw2 false false 1 0 (0, ⟨#[]⟩, ⟨#[]⟩, 0) _ hb2 aw_few2).mono ?_
  rintro e w5 ⟨hr, m1⟩
  rw [aw_erase] at hr
  obtain ⟨v5, rfl, hb5⟩ := hr
  obtain ⟨o5, c5, rfl⟩ := hb5.shape
  replace hb5 : BlocksAt _ w5 (.slice o5 2 c5) aw3 := hb5
  rw [show aw3.length = 2 from rfl]
  simp only [chipV]
  have ha : Mem w5 (w5.alloc (.cells #[.slice o5 2 c5, .bool false, .bool false, .int .i64 2] 27)) := (Mem.refl w5).alloc _
  have hX5 := Blk.new w5 #[.slice o5 2 c5, .bool false, .bool false, .int .i64 2] 27
  have n1 := m1.trans ha
  replace hb5 := hb5.mem ha
  replace hb1 := hb1.mem n1
  replace hX1 := hX1.mem n1
  replace hb2 := hb2.mem n1
  replace hX2 := hX2.mem n1
  replace hX3 := hX3.mem n1
  replace hb4 := hb4.mem n1
  replace hX4 := hX4.mem n1
  replace hm := hm.trans n1
  clear m1 ha n1
  go_wp2_with fail
  generalize hg5 : w5.alloc (.cells #[.slice o5 2 c5, .bool false, .bool false, .int .i64 2] 27) = W5 at *
  generalize w5.heap.size = B5 at *
  clear hg5
  refine (hNew 0 1 _ [] _ (Ints.nil _ _ _ _) (by decide)).mono ?_
  rintro e w6 ⟨hr, m1⟩
  rw [aw_none] at hr
  obtain ⟨v6, rfl, hb6⟩ := hr
  obtain ⟨o6, c6, rfl⟩ := hb6.shape
  replace hb6 : BlocksAt _ w6 (.slice o6 0 c6) ([] : List BlockT) := hb6
  rw [show ([] : List BlockT).length = 0 from rfl]
  simp only [chipV]
  have ha : Mem w6 (w6.alloc (.cells #[.slice o6 0 c6, .bool false, .bool false, .int .i64 0] 27)) := (Mem.refl w6).alloc _
  have hX6 := Blk.new w6 #[.slice o6 0 c6, .bool false, .bool false, .int .i64 0] 27
  have n1 := m1.trans ha
  replace hb6 := hb6.mem ha
  replace hb1 := hb1.mem n1
  replace hX1 := hX1.mem n1
  replace hb2 := hb2.mem n1
  replace hX2 := hX2.mem n1
  replace hX3 := hX3.mem n1
  replace hb4 := hb4.mem n1
  replace hX4 := hX4.mem n1
  replace hb5 := hb5.mem n1
  replace hX5 := hX5.mem n1
  replace hm := hm.trans n1
  clear m1 ha n1
  obtain ⟨g, og, op, cp, rfl, _, _, _, er, _, _⟩ := hb5.at (i := 0) (by decide)
  have er' : (w6.alloc (.cells #[.slice o6 0 c6, .bool false, .bool false, .int .i64 0] 27)).cell? ⟨g, og + 2, none⟩ = some (.int .i64 1) := by simpa [aw3] using er
  have a0 := hX3.cell (j := 0) rfl
  have a1 := hX3.cell (j := 1) rfl
  have a2 := hX3.cell (j := 2) rfl
  have b0 := hX4.cell (j := 0) rfl
  have b1 := hX4.cell (j := 1) rfl
  have b2 := hX4.cell (j := 2) rfl
  have b3 := hX4.cell (j := 3) rfl
  have d0 := hX5.cell (j := 0) rfl
  have d1 := hX5.cell (j := 1) rfl
  have d2 := hX5.cell (j := 2) rfl
  have d3 := hX5.cell (j := 3) rfl
  go_wp2_with fail
  go_ret
  exact ⟨rfl, hm⟩
end Go.Proofs.Ytodncodjnoegmaa.Nand
