/-
  Layer 10: the mathematics of the statements: an erase makes a Closed block Free.
-/
import Derived.Test.YtegamnaahipedaaStatesMath
import Derived.Test.YtegamnaahipedaaStatesMadeMath
namespace Go.Proofs.Ytegamnaahipedaa.States
open Go.RowKit Go.Proofs.Ytegamnaahipedaa.Nand

abbrev fate0 : FateT := (0, ⟨#[]⟩, ⟨#[]⟩, 0)
theorem blk_set {bs : List BlockT} {k : Nat} (hk : k < bs.length) (x : BlockT) (j : Nat) : blkT (bs.set k x) j = if j = k then x else blkT bs j := by
  unfold blkT
  by_cases e : j = k
  · subst e
    rw [if_pos rfl, List.getD_eq_getElem?_getD, List.getElem?_set_self hk]
    rfl
  · rw [if_neg e, List.getD_eq_getElem?_getD, List.getElem?_set_ne (Ne.symm e), ← List.getD_eq_getElem?_getD]
theorem wipe_none (ps : List PageT) : anyW (wipe ps.length ps) = false := by
  unfold wipe anyW
  rw [List.drop_length, List.append_nil, List.any_eq_false]
  intro p hp
  rw [List.eq_of_mem_replicate hp]
  decide
theorem ok_of {bs : List BlockT} {k : Nat} (hk : k < bs.length) (hb : (blkT bs k).2.2.2 = false) : okErase bs (k : Int) fate0 = true := by
  unfold okErase
  rw [Int.toNat_natCast]
  have : (bs.getD k default).2.2.2 = false := hb
  rw [this]
  simp [hk]
theorem erase_is {bs : List BlockT} {br : Bool} {ops : Int} {k : Nat} (hk : k < bs.length) (hb : (blkT bs k).2.2.2 = false) :
    erase (bs, br, false, ops) (k : Int) fate0 = ((bs.set k (wipe (blkT bs k).1.length (blkT bs k).1, 0, wrap64 ((blkT bs k).2.2.1 + 1), false), br, false, wrap64 (ops + 1)), 0) := by
  unfold erase
  rw [if_neg (by simp), if_pos (ok_of hk hb), if_neg (by decide), if_pos rfl, Int.toNat_natCast]
theorem closed_good {bs : List BlockT} {o : Int} {k : Nat} (hk : k < bs.length) (h : stateT bs o k = 2) : (blkT bs k).2.2.2 = false := by
  rw [state_in hk] at h
  unfold stateB at h
  cases hb : (blkT bs k).2.2.2 with
  | false => rfl
  | true => rw [if_pos hb] at h; cases h
theorem erase_closed {bs : List BlockT} {br : Bool} {ops : Int} {k : Nat} (hk : k < bs.length) (h : stateT bs (-1) k = 2) :
    (erase (bs, br, false, ops) (k : Int) fate0).2 = 0 ∧ stateT (erase (bs, br, false, ops) (k : Int) fate0).1.1 (-1) k = 0 := by
  have hb := closed_good hk h
  rw [erase_is hk hb]
  refine ⟨rfl, ?_⟩
  show stateT (bs.set k _) (-1) k = 0
  rw [state_in (by rw [List.length_set]; exact hk), blk_set hk, if_pos rfl]
  unfold stateB
  rw [if_neg (by simp), if_neg (by omega), wipe_none, if_neg (by decide), if_pos rfl]
/-- how many there are in the first k of the four states -/
def sumM (bs : List BlockT) (o : Int) : Nat → Nat
  | 0 => 0
  | k + 1 => sumM bs o k + manyT bs o k
theorem sum_four (bs : List BlockT) (o : Int) : sumM bs o 4 = bs.length := by
  have h := many_all bs o bs.length
  simp only [sumM, manyT]
  simp only [Nat.zero_add] at *
  exact h
theorem sum_le (bs : List BlockT) (o : Int) (k : Nat) : sumM bs o k ≤ k * bs.length := by
  induction k with
  | zero => simp [sumM]
  | succ k ih =>
    have := many_le bs o k bs.length
    rw [sumM, Nat.succ_mul]
    unfold manyT
    omega
/-! ### numbers -/
theorem wrap_in {z : Int} (h0 : -9223372036854775808 ≤ z) (h1 : z < 9223372036854775808) : IntKind.i64.wrap z = z := by
  simp only [IntKind.wrap, IntKind.signed, IntKind.bits]
  simp
  omega
theorem mod_val {x m : Int} (h0 : 0 ≤ x) (h1 : x ≤ 255) : (IntKind.i64.wrap x).tmod m = x % m := by
  rw [wrap_in (by omega) (by omega), Int.tmod_eq_emod_of_nonneg h0]

/-! ### wear -/
theorem wear_rel {bs ds : List BlockT} (h1 : ∀ j, (blkT ds j).2.2.2 = (blkT bs j).2.2.2) (h2 : ∀ j, erT bs j ≤ erT ds j ∧ erT ds j ≤ erT bs j + 1) (k : Nat) :
    (wearN bs k = none ∧ wearN ds k = none) ∨ ∃ a b x y, wearN bs k = some (a, b) ∧ wearN ds k = some (x, y) ∧ a ≤ b ∧ a ≤ x ∧ x ≤ a + 1 ∧ b ≤ y ∧ y ≤ b + 1 ∧ x ≤ y := by
  induction k with
  | zero => exact .inl ⟨rfl, rfl⟩
  | succ k ih =>
    have h2 := h2 k
    cases hb : (blkT bs k).2.2.2 with
    | true => rw [wear_bad hb, wear_bad ((h1 k).trans hb)]; exact ih
    | false =>
      have hd := (h1 k).trans hb
      rcases ih with ⟨e1, e2⟩ | ⟨a, b, x, y, e1, e2, h⟩
      · rw [wear_first hb e1, wear_first hd e2]
        exact .inr ⟨_, _, _, _, rfl, rfl, by omega, by omega, by omega, by omega, by omega, by omega⟩
      · rw [wear_next hb e1, wear_next hd e2]
        refine .inr ⟨_, _, _, _, rfl, rfl, ?_, ?_, ?_, ?_, ?_, ?_⟩
        all_goals (repeat split)
        all_goals omega
/-- behind an erase -/
theorem wear_erase {bs : List BlockT} {br : Bool} {ops : Int} {k n : Nat} (hk : k < bs.length) (hw : Worn n bs) (hn : n ≤ 900) :
    ((erase (bs, br, false, ops) (k : Int) fate0).2 ≠ 0 ∧ wearT (erase (bs, br, false, ops) (k : Int) fate0).1.1 = wearT bs) ∨
    ((erase (bs, br, false, ops) (k : Int) fate0).2 = 0 ∧ ∃ x y, wearT (erase (bs, br, false, ops) (k : Int) fate0).1.1 = (x, y) ∧ (wearT bs).1 ≤ (wearT bs).2 ∧ (wearT bs).1 ≤ x ∧ x ≤ (wearT bs).1 + 1 ∧ (wearT bs).2 ≤ y ∧ y ≤ (wearT bs).2 + 1 ∧ x ≤ y ∧ 0 ≤ (wearT bs).1 ∧ (wearT bs).2 ≤ 1000) := by
  have hbnd : ∀ j, (wearN bs j = none) ∨ ∃ a b, wearN bs j = some (a, b) ∧ 0 ≤ a ∧ a ≤ 900 ∧ 0 ≤ b ∧ b ≤ 900 := by
    intro j
    induction j with
    | zero => exact .inl rfl
    | succ j ih =>
      have hg := hw.get j
      have he : erT bs j = (bs.getD j default).2.2.1 := rfl
      cases hb : (blkT bs j).2.2.2 with
      | true => rw [wear_bad hb]; exact ih
      | false =>
        rcases ih with e1 | ⟨a, b, e1, h⟩
        · rw [wear_first hb e1]
          exact .inr ⟨_, _, rfl, by omega, by omega, by omega, by omega⟩
        · rw [wear_next hb e1]
          refine .inr ⟨_, _, rfl, ?_, ?_, ?_, ?_⟩
          all_goals (split)
          all_goals omega
  cases hb : (blkT bs k).2.2.2 with
  | true =>
    refine .inl ?_
    have hno : okErase bs (k : Int) fate0 = false := by
      unfold okErase
      rw [Int.toNat_natCast]
      have : (bs.getD k default).2.2.2 = true := hb
      rw [this]
      simp
    unfold erase
    rw [if_neg (by simp), if_neg (by rw [hno]; decide)]
    exact ⟨(by decide : (1 : Int) ≠ 0), rfl⟩
  | false =>
    refine .inr ?_
    rw [erase_is hk hb]
    refine ⟨rfl, ?_⟩
    have hg := hw.get k
    have hx : wrap64 ((blkT bs k).2.2.1 + 1) = (blkT bs k).2.2.1 + 1 := wrap_small (by have : (blkT bs k).2.2.1 = (bs.getD k default).2.2.1 := rfl; omega) (by have : (blkT bs k).2.2.1 = (bs.getD k default).2.2.1 := rfl; omega)
    rw [hx]
    show ∃ x y, wearT (bs.set k _) = (x, y) ∧ _
    unfold wearT
    rw [List.length_set]
    have h := wear_rel (bs := bs) (ds := bs.set k (wipe (blkT bs k).1.length (blkT bs k).1, 0, (blkT bs k).2.2.1 + 1, false)) (fun j => by
      rw [blk_set hk]
      split
      · rename_i e; subst e; rw [hb]
      · rfl) (fun j => by
      unfold erT
      rw [blk_set hk]
      split
      · rename_i e; subst e; show _ ∧ _; simp only []; omega
      · omega) bs.length
    rcases h with ⟨e1, e2⟩ | ⟨a, b, x, y, e1, e2, h⟩
    · rw [e1, e2]
      exact ⟨0, 0, rfl, by decide, by decide, by decide, by decide, by decide, by decide, by decide, by decide⟩
    · rcases hbnd bs.length with e | ⟨a', b', e, hh⟩
      · rw [e] at e1; cases e1
      · rw [e] at e1
        injection e1 with e1
        injection e1 with e3 e4
        subst e3; subst e4
        rw [e, e2]
        exact ⟨x, y, rfl, h.1, h.2.1, h.2.2.1, h.2.2.2.1, h.2.2.2.2.1, h.2.2.2.2.2, by show 0 ≤ _; simp only [Option.getD_some]; omega, by simp only [Option.getD_some]; omega⟩
/-! ### K5: whoever picks again picks another one -/
theorem state_free {bs : List BlockT} {o : Int} {k : Nat} (hk : k < bs.length) (h : stateT bs o k = 0) : (blkT bs k).2.2.2 = false ∧ (blkT bs k).2.1 = 0 := by
  rw [state_in hk] at h
  unfold stateB at h
  split at h
  · cases h
  · rename_i h1
    split at h
    · cases h
    · split at h
      · cases h
      · split at h
        · rename_i h2; exact ⟨by simpa using h1, h2⟩
        · cases h
theorem prog_is {bs : List BlockT} {br : Bool} {ops : Int} {k : Nat} (hk : k < bs.length) (hf : stateT bs (-1) k = 0) (hp : 0 < (blkT bs k).1.length) :
    Nand.program (bs, br, false, ops) (k : Int) 0 zeroPage fate0 = ((bs.set k ((blkT bs k).1.set 0 (true, zeroPage.2.1, zeroPage.2.2), 1, (blkT bs k).2.2.1, false), br, false, wrap64 (ops + 1)), 0) := by
  obtain ⟨h1, h2⟩ := state_free hk hf
  have hok : okProg bs (k : Int) 0 fate0 = true := by
    unfold okProg thereB
    rw [Int.toNat_natCast]
    have e1 : (bs.getD k default).2.2.2 = false := h1
    have e2 : (bs.getD k default).2.1 = 0 := h2
    have e3 : 0 < (bs.getD k default).1.length := hp
    rw [e1, e2]
    simp [hk]
    first | exact e3 | (have := e3; simp_all) | omega
  unfold Nand.program
  rw [if_neg (by simp), if_pos hok, if_pos rfl, if_pos rfl, Int.toNat_natCast]
  rfl
theorem twin {bs : List BlockT} {br : Bool} {ops : Int} {j : Nat} (hj : pickN bs (-1) bs.length = some j) (hp : 0 < (blkT bs j).1.length) :
    (Nand.program (bs, br, false, ops) (j : Int) 0 zeroPage fate0).1.2.2.1 = false ∧ (Nand.program (bs, br, false, ops) (j : Int) 0 zeroPage fate0).1.1.length = bs.length ∧
    ∀ k, pickN (Nand.program (bs, br, false, ops) (j : Int) 0 zeroPage fate0).1.1 (-1) bs.length = some k → k < bs.length ∧ k ≠ j ∧ erT bs j ≤ erT bs k := by
  have hjl := pick_lt hj
  obtain ⟨hs, hmin⟩ := pick_is hj
  rw [prog_is hjl hs hp]
  refine ⟨rfl, List.length_set, fun k hk => ?_⟩
  have hk' : pickN (bs.set j ((blkT bs j).1.set 0 (true, zeroPage.2.1, zeroPage.2.2), 1, (blkT bs j).2.2.1, false)) (-1) bs.length = some k := hk
  have hkl := pick_lt hk'
  obtain ⟨hks, _⟩ := pick_is hk'
  rw [state_in (by rw [List.length_set]; exact hkl), blk_set hjl] at hks
  have hne : k ≠ j := by
    intro e
    subst e
    rw [if_pos rfl] at hks
    unfold stateB at hks
    rw [if_neg (by simp), if_neg (by omega)] at hks
    have hw : anyW ((blkT bs k).1.set 0 (true, zeroPage.2.1, zeroPage.2.2)) = true := by
      unfold anyW
      rw [List.any_eq_true]
      exact ⟨(true, zeroPage.2.1, zeroPage.2.2), List.mem_of_getElem? (i := 0) (by rw [List.getElem?_set_self hp]), rfl⟩
    rw [if_pos hw] at hks
    cases hks
  rw [if_neg hne, ← state_in hkl] at hks
  exact ⟨hkl, hne, (hmin k hkl hks).1⟩
theorem many_none {bs : List BlockT} (h : pickN bs (-1) bs.length = none) : manyT bs (-1) 0 = 0 := many_zero.2 (pick_no.1 h)
end Go.Proofs.Ytegamnaahipedaa.States
