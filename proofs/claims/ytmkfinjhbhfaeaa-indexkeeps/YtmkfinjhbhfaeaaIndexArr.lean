/-
  Layer 9: arrays of numbers: three that are compared; counts that are kept.
-/
import Derived.Test.YtmkfinjhbhfaeaaIndexSame
import Derived.ChangeKeysEq
namespace Go.Proofs.Ytmkfinjhbhfaeaa.Index
open Go.RowKit

set_option maxRecDepth 40000 in
theorem eqArr (x0 x1 x2 y0 y1 y2 : Int) (w : World) : (Op.equalIn 10000 33 (.agg #[.int .i64 x0, .int .i64 x1, .int .i64 x2]) (.agg #[.int .i64 y0, .int .i64 y1, .int .i64 y2])).run Try.prog w = .ok (decide (x0 = y0 ∧ x1 = y1 ∧ x2 = y2)) w := by
  have u3 := Try.underlying3
  have a3 := Try.isAgg3
  have hA : Try.prog.underlying 33 = some (.array 3 3) := by kernel_rfl
  obtain ⟨i, hi⟩ := info_of_underlying u3
  have hc : Try.prog.cellsOf 3 = 1 := by kernel_rfl
  rw [show (10000 : Nat) = 9999 + 1 from rfl, run_equalIn_array w 9999 _ _ hA hi, hc, show List.range 3 = [0, 1, 2] from rfl]
  simp only [Op.eqItems, Sem.run_bind]
  go_simp
  by_cases h1 : x0 = y0 <;> by_cases h2 : x1 = y1 <;> by_cases h3 : x2 = y2 <;> simp [h1, h2, h3]

/-- n numbers in block B, number j being f j -/
def ArrAt (w : World) (B : Nat) (t : TypeId) (n : Nat) (f : Nat → Int) : Prop := ∃ cs, Blk w B t cs ∧ ∀ j, j < n → cs[j]? = some (.int .i64 (f j))
theorem ArrAt.mem {w w' : World} {B : Nat} {t : TypeId} {n : Nat} {f : Nat → Int} (h : ArrAt w B t n f) (m : Mem w w') : ArrAt w' B t n f := by
  obtain ⟨cs, h1, h2⟩ := h
  exact ⟨cs, h1.mem m, h2⟩
theorem ArrAt.lt {w : World} {B : Nat} {t : TypeId} {n : Nat} {f : Nat → Int} (h : ArrAt w B t n f) : B < w.heap.size := by
  obtain ⟨cs, h1, h2⟩ := h
  exact h1.lt
theorem ArrAt.other {w : World} {B : Nat} {t : TypeId} {n : Nat} {f : Nat → Int} (h : ArrAt w B t n f) {p : Addr} (hp : B ≠ p.block) (x : Value) : ArrAt (w.setCell p x) B t n f := by
  obtain ⟨cs, h1, h2⟩ := h
  exact ⟨cs, h1.other hp x, h2⟩
theorem ArrAt.cell {w : World} {B : Nat} {t : TypeId} {n : Nat} {f : Nat → Int} (h : ArrAt w B t n f) {j : Nat} (hj : j < n) : w.cell? ⟨B, j, none⟩ = some (.int .i64 (f j)) := by
  obtain ⟨cs, h1, h2⟩ := h
  exact h1.cell (h2 j hj)
theorem ArrAt.frozen {w : World} {B : Nat} {t : TypeId} {n : Nat} {f : Nat → Int} (h : ArrAt w B t n f) (j : Nat) : w.frozen? ⟨B, j, none⟩ = false := by
  obtain ⟨cs, h1, h2⟩ := h
  exact h1.frozen j
theorem ArrAt.congr {w : World} {B : Nat} {t : TypeId} {n : Nat} {f g : Nat → Int} (h : ArrAt w B t n f) (e : ∀ j, j < n → f j = g j) : ArrAt w B t n g := by
  obtain ⟨cs, h1, h2⟩ := h
  exact ⟨cs, h1, fun j hj => by rw [h2 j hj, e j hj]⟩
theorem ArrAt.set {w : World} {B : Nat} {t : TypeId} {n : Nat} {f g : Nat → Int} (h : ArrAt w B t n f) {k : Nat} (hk : k < n) {x : Int} (e0 : g k = x) (e : ∀ j, j < n → j ≠ k → g j = f j) : ArrAt (w.setCell ⟨B, k, none⟩ (.int .i64 x)) B t n g := by
  obtain ⟨cs, h1, h2⟩ := h
  refine ⟨_, h1.set k _, fun j hj => ?_⟩
  have hs : k < cs.size := by
    have := h2 k hk
    exact (Array.getElem?_eq_some_iff.1 this).1
  by_cases hjk : j = k
  · subst hjk
    rw [Array.getElem?_setIfInBounds_self_of_lt hs, e0]
  · rw [Array.getElem?_setIfInBounds_ne (Ne.symm hjk), h2 j hj, e j hj hjk]

/-- how often each is held: number a * 3 + b: of fingerprint a and place b -/
def haveF (l : List SlotT) (j : Nat) : Int := (cntS l ((j / 3 : Nat) : Int) ((j % 3 : Nat) : Int) : Nat)
theorem haveF_at (l : List SlotT) (a b : Nat) (hb : b < 3) : haveF l (a * 3 + b) = (cntS l (a : Int) (b : Int) : Nat) := by
  unfold haveF
  rw [show (a * 3 + b) / 3 = a by omega, show (a * 3 + b) % 3 = b by omega]
theorem haveF_other {l l' : List SlotT} {a b : Nat} (h : ∀ q' p' : Int, (q', p') ≠ ((a : Int), (b : Int)) → cntS l' q' p' = cntS l q' p') {j : Nat} (hj : j ≠ a * 3 + b) : haveF l' j = haveF l j := by
  unfold haveF
  rw [h]
  intro e
  injection e with e1 e2
  omega
theorem haveF_empty (n j : Nat) : haveF (emptyT n) j = 0 := by unfold haveF; rw [empty_cntS]; rfl
/-- how often each stands among the first k -/
def countF (f : List Int) (k j : Nat) : Int := (((f.take k).filter fun x => decide (x = (j : Int))).length : Nat)
theorem countF_zero (f : List Int) (j : Nat) : countF f 0 j = 0 := by simp [countF]
theorem countF_all {l : List SlotT} (h : Reach l) (a b : Nat) : countF (findT l (a : Int)) (findT l (a : Int)).length b = haveF l (a * 3 + b) ∨ 3 ≤ b := by
  by_cases hb : b < 3
  · left
    rw [haveF_at l a b hb]
    unfold countF
    rw [List.take_length, find_count h (by omega)]
  · right; omega
theorem countF_step {f : List Int} {k : Nat} (hk : k < f.length) (j : Nat) : countF f (k + 1) j = countF f k j + (if f.getD k 0 = (j : Int) then 1 else 0) := by
  have e : f[k] = f.getD k 0 := by simp [hk]
  unfold countF
  rw [List.take_succ_eq_append_getElem hk, List.filter_append, List.length_append, e]
  generalize f.getD k 0 = x
  by_cases hx : x = (j : Int)
  · rw [if_pos hx]; simp [hx]
  · rw [if_neg hx]; simp [hx]
/-- places are 0, 1, 2 -/
def Places (l : List SlotT) : Prop := ∀ q x : Int, ¬ (0 ≤ x ∧ x ≤ 2) → cntS l q x = 0
theorem places_find {l : List SlotT} (hp : Places l) (hr : Reach l) {q : Int} (h0 : 0 ≤ q) {k : Nat} (hk : k < (findT l q).length) : ∃ b : Nat, (findT l q).getD k 0 = (b : Int) ∧ b < 3 := by
  have e : (findT l q)[k] = (findT l q).getD k 0 := by simp [hk]
  have hm : (findT l q).getD k 0 ∈ findT l q := e ▸ List.getElem_mem hk
  have hc := (find_has hr h0).2 hm
  generalize (findT l q).getD k 0 = x at *
  have : 0 ≤ x ∧ x ≤ 2 := by
    refine Classical.byContradiction fun hn => ?_
    have := hp q x hn
    omega
  obtain ⟨b, rfl⟩ := Int.eq_ofNat_of_zero_le this.1
  exact ⟨b, rfl, by omega⟩
theorem places_other {l l' : List SlotT} (hp : Places l) {a b : Nat} (hb : b < 3) (h : ∀ q' p' : Int, (q', p') ≠ ((a : Int), (b : Int)) → cntS l' q' p' = cntS l q' p') : Places l' := by
  intro q x hx
  rw [h q x (fun e => by injection e with e1 e2; omega)]
  exact hp q x hx
theorem places_empty (n : Nat) : Places (emptyT n) := fun q x _ => empty_cntS n q x
end Go.Proofs.Ytmkfinjhbhfaeaa.Index
