/-
  Layer 8: the mathematics of the laws: how many places are wanted; who says what a sector has.
-/
import Derived.Test.YtedopplldpcinaaRepLivMath
import Derived.Test.YtedopplldpcinaaReplayLaws
namespace Go.Proofs.Ytedopplldpcinaa.Live
open Go.Proofs.Ytedopplldpcinaa.Scan Go.Proofs.Ytedopplldpcinaa.Replay Go.Proofs.Ytedopplldpcinaa.Nand

/-! ### small tables -/
def smallZ (z : Int) : Prop := -1 ≤ z ∧ z < 512
def SmallT (t : TableT) : Prop := (∀ z ∈ t.1, smallZ z) ∧ (∀ z ∈ t.2, smallZ z)
theorem SmallT.wf {t : TableT} (h : SmallT t) : WfT t := by
  refine ⟨fun z hz => ?_, fun z hz => ?_⟩
  · have := h.1 z hz; unfold smallZ at this; unfold wfZ; omega
  · have := h.2 z hz; unfold smallZ at this; unfold wfZ; omega
theorem set_small {l : List Int} (h : ∀ z ∈ l, smallZ z) (k : Nat) {v : Int} (hv : smallZ v) : ∀ z ∈ l.set k v, smallZ z := by
  intro z hz
  rcases List.mem_or_eq_of_mem_set hz with h' | rfl
  · exact h z h'
  · exact hv
theorem newT_small (n : Int) : SmallT (newT n) := by
  refine ⟨?_, ?_⟩ <;> intro z hz <;> rw [newT] at hz <;> rw [(List.mem_replicate.1 hz).2] <;> unfold smallZ <;> omega
def SmallF (f : FoundT) : Prop := smallZ f.1 ∧ ∀ z ∈ f.2.2.2.2, smallZ z
theorem stepT_small {f : FoundT} {t : TableT} (hf : SmallF f) (h : SmallT t) (i : Nat) : SmallT (Replay.stepT f t i) := by
  unfold Replay.stepT
  split
  · exact h
  · rename_i v hv
    have hv' : smallZ v := by
      unfold toldT at hv
      split at hv
      · injection hv with e; rw [← e]; exact hf.1
      · split at hv
        · exact hf.2 v (List.mem_of_getElem? hv)
        · cases hv
    unfold putT
    split
    · exact ⟨set_small h.1 _ hv', set_small h.2 _ hf.1⟩
    · exact h
theorem applyN_small {f : FoundT} {t : TableT} (hf : SmallF f) (h : SmallT t) (n : Nat) : SmallT (applyN f t n) := by
  induction n with
  | zero => exact h
  | succ n ih => exact stepT_small hf ih n
theorem fold_small {fs : List FoundT} (hf : ∀ f ∈ fs, SmallF f) {t : TableT} (h : SmallT t) : SmallT (foldT fs t) := by
  unfold foldT
  induction fs generalizing t with
  | nil => exact h
  | cons f fs ih =>
    rw [List.foldl_cons]
    exact ih (fun g hg => hf g (List.mem_cons_of_mem _ hg)) (applyN_small (hf f (List.mem_cons_self ..)) h _)
theorem places_small {l : List Int} (h : Tag.places l = true) : ∀ z ∈ l, smallZ z := by
  induction l with
  | nil => intro z hz; cases hz
  | cons x xs ih =>
    simp only [Tag.places, Tag.place, Bool.and_eq_true, decide_eq_true_eq] at h
    intro z hz
    rcases List.mem_cons.1 hz with rfl | hz
    · exact h.1
    · exact ih h.2 z hz
theorem allC_place {bs : List BlockT} {f : FoundT} (h : f ∈ allC bs) : 0 ≤ f.1 ∧ f.1 < 512 := by
  obtain ⟨c, q, hc, _, _, hq, he⟩ := tellC_mem ((allF_perm _).mem_iff.1 h)
  rw [he]
  unfold Scan.place
  rw [if_neg (by omega)]
  omega
theorem allC_smallF {bs : List BlockT} {f : FoundT} (h : f ∈ allC bs) : SmallF f := by
  have hp := allC_place h
  have hr := allC_right h
  refine ⟨⟨by omega, by omega⟩, ?_⟩
  unfold Tag.right Tag.valsOk at hr
  simp only [Bool.and_eq_true] at hr
  have h3 := hr.2
  split at h3
  · rw [decide_eq_true_eq, List.length_eq_zero_iff] at h3
    rw [h3]
    intro z hz
    cases hz
  · split at h3
    · rw [Bool.and_eq_true] at h3
      exact places_small h3.2
    · cases h3
theorem chip_small (bs : List BlockT) (n : Int) : SmallT (foldT (allC bs) (newT n)) := fold_small (fun _ hf => allC_smallF hf) (newT_small n)
theorem allC_keys {bs : List BlockT} {f : FoundT} (h : f ∈ allC bs) : ∀ k ∈ f.2.2.2.1, 0 ≤ k ∧ k < 64 := by
  have hr := allC_right h
  unfold Tag.right Tag.keysOk at hr
  simp only [Bool.and_eq_true] at hr
  exact Tag.rise_mem hr.1.2.2 (by omega)

/-! ### how many -/
def cnt (P : Nat → Bool) : Nat → Nat
  | 0 => 0
  | k + 1 => if P k = true then cnt P k + 1 else cnt P k
theorem cnt_yes {P : Nat → Bool} {k : Nat} (h : P k = true) : cnt P (k + 1) = cnt P k + 1 := by rw [cnt, if_pos h]
theorem cnt_no {P : Nat → Bool} {k : Nat} (h : P k = false) : cnt P (k + 1) = cnt P k := by rw [cnt, if_neg (by rw [h]; decide)]
theorem cnt_or (P Q : Nat → Bool) (m : Nat) : cnt (fun p => P p || Q p) m ≤ cnt P m + cnt Q m := by
  induction m with
  | zero => simp [cnt]
  | succ m ih =>
    unfold cnt
    cases hp : P m <;> cases hq : Q m <;> simp <;> omega
theorem cnt_zero {P : Nat → Bool} {m : Nat} (h : ∀ p, p < m → P p = false) : cnt P m = 0 := by
  induction m with
  | zero => rfl
  | succ m ih => rw [cnt_no (h m (by omega))]; exact ih fun p hp => h p (by omega)
theorem cnt_one (z : Int) (m : Nat) : cnt (fun p => decide ((p : Int) = z)) m ≤ 1 := by
  induction m with
  | zero => simp [cnt]
  | succ m ih =>
    by_cases h : (m : Int) = z
    · rw [cnt_yes (by simpa using h), cnt_zero]
      · omega
      · intro p hp
        simp only [decide_eq_false_iff_not]
        omega
    · rw [cnt_no (by simpa using h)]
      exact ih
theorem cnt_mono {P Q : Nat → Bool} {m : Nat} (h : ∀ p, P p = true → Q p = true) : cnt P m ≤ cnt Q m := by
  induction m with
  | zero => simp [cnt]
  | succ m ih =>
    unfold cnt
    cases hp : P m
    · cases hq : Q m <;> simp <;> omega
    · rw [h m hp]
      simp
      exact ih
theorem cnt_has (l : List Int) (m : Nat) : cnt (fun p => hasL l p) m ≤ l.length := by
  induction l with
  | nil => rw [cnt_zero]; · simp
           · intro p _; rfl
  | cons z l ih =>
    have h1 := cnt_or (fun p => decide ((p : Int) = z)) (fun p => hasL l p) m
    have h2 := cnt_one z m
    have h3 : cnt (fun p => hasL (z :: l) p) m ≤ cnt (fun p => decide ((p : Int) = z) || hasL l p) m := cnt_mono fun p hp => by
      rw [hasL_iff] at hp
      rcases List.mem_cons.1 hp with h | h
      · simp [h]
      · rw [Bool.or_eq_true]; exact .inr (hasL_iff.2 h)
    simp only [List.length_cons]
    omega
/-- of the first m places -/
def liveN (t : TableT) (m : Nat) : Nat := cnt (fun p => liveT t p) m
theorem liveN_le (t : TableT) (m : Nat) : liveN t m ≤ t.1.length + t.2.length := by
  have h1 := cnt_or (fun p => hasL t.1 p) (fun p => hasL t.2 p) m
  have h2 := cnt_has t.1 m
  have h3 := cnt_has t.2 m
  have h4 : liveN t m ≤ cnt (fun p => hasL t.1 p || hasL t.2 p) m := cnt_mono fun p hp => by
    unfold liveT at hp
    rw [Bool.and_eq_true] at hp
    exact hp.2
  omega
/-- of the first b blocks -/
def allN (t : TableT) : Nat → Nat
  | 0 => 0
  | b + 1 => allN t b + countT t b
theorem live_block (t : TableT) (b : Nat) (hb : b < 32) (k : Nat) (hk : k ≤ 16) : liveN t (b * 16 + k) = liveN t (b * 16) + countN t b k := by
  induction k with
  | zero => simp [countN]
  | succ k ih =>
    have ih := ih (by omega)
    have hp : Scan.place (b : Int) (k : Int) = ((b * 16 + k : Nat) : Int) := by rw [place_in (by omega) (by omega)]; omega
    cases h : liveT t ((b * 16 + k : Nat) : Int) with
    | true =>
      rw [show b * 16 + (k + 1) = (b * 16 + k) + 1 by omega]
      unfold liveN at *
      rw [cnt_yes h, countN_yes (by rw [hp]; exact h)]
      omega
    | false =>
      rw [show b * 16 + (k + 1) = (b * 16 + k) + 1 by omega]
      unfold liveN at *
      rw [cnt_no h, countN_no (by rw [hp]; exact h)]
      omega
theorem allN_live (t : TableT) (b : Nat) (hb : b ≤ 32) : allN t b = liveN t (b * 16) := by
  induction b with
  | zero => rfl
  | succ b ih =>
    rw [allN, ih (by omega), show (b + 1) * 16 = b * 16 + 16 by omega, live_block t b (by omega) 16 (by omega)]
    rfl
theorem allN_le (t : TableT) (b : Nat) : allN t b ≤ b * 16 := by
  induction b with
  | zero => simp [allN]
  | succ b ih =>
    have := countN_le t b 16
    rw [allN]
    unfold countT
    omega
theorem liveN_le_m (t : TableT) (m : Nat) : liveN t m ≤ m := by
  unfold liveN
  induction m with
  | zero => simp [cnt]
  | succ m ih =>
    unfold cnt
    split <;> omega

/-! ### who is the last to tell of a sector -/
def tells (f : FoundT) (s : Int) : Bool := f.2.2.2.1.any fun k => decide (k = s)
theorem fold_untold {fs : List FoundT} {t : TableT} {s : Nat} (h : toldB fs s = false) (h1 : s < t.1.length) (h2 : s < t.2.length) : (foldT fs t).2.getD s 0 = t.2.getD s 0 := by
  induction fs generalizing t with
  | nil => rfl
  | cons f fs ih =>
    have h' : tells f s = false ∧ toldB fs s = false := by
      unfold toldB at h
      rw [List.any_cons, Bool.or_eq_false_iff] at h
      exact h
    have hl := applyT_len t f
    show (foldT fs (applyT t f)).2.getD s 0 = _
    rw [ih h'.2 (by omega) (by omega)]
    have hg := applyN_get f t f.2.2.2.1.length s h1 h2
    rcases ho : lastOf f s f.2.2.2.1.length with _ | v
    · rw [ho] at hg
      exact congrArg Prod.snd hg
    · obtain ⟨i, hi, he⟩ := lastOf_some ho
      have : tells f s = true := any_key.2 ⟨i, hi, he⟩
      rw [h'.1] at this
      cases this
theorem fold_last {fs : List FoundT} {n : Int} {s i : Nat} (hs : s < cutN n) (hi : i < fs.length) (ht : Tells fs[i]) (hk : tells fs[i] s = true) (hno : toldB (fs.drop (i + 1)) s = false) : (foldT fs (newT n)).2.getD s 0 = fs[i].1 := by
  have hn := newT_len n
  have hl := foldT_len (fs.take (i + 1)) (newT n)
  have e : foldT fs (newT n) = foldT (fs.drop (i + 1)) (foldT (fs.take (i + 1)) (newT n)) := by
    unfold foldT
    rw [← List.foldl_append, List.take_append_drop]
  rw [e, fold_untold hno (by omega) (by omega), foldT_take fs _ hi]
  have hl2 := foldT_len (fs.take i) (newT n)
  have hg := applyN_get fs[i] (foldT (fs.take i) (newT n)) fs[i].2.2.2.1.length s (by omega) (by omega)
  obtain ⟨j, hj, he⟩ := any_key.1 hk
  obtain ⟨v, hv⟩ := lastOf_tells ht (Nat.le_refl _) hj he
  rw [hv] at hg
  exact congrArg Prod.snd hg
theorem last_told {fs : List FoundT} {s : Int} (h : toldB fs s = true) : ∃ m, ∃ hm : m < fs.length, tells fs[m] s = true ∧ toldB (fs.drop (m + 1)) s = false := by
  induction fs with
  | nil => cases h
  | cons f fs ih =>
    cases h2 : toldB fs s with
    | true =>
      obtain ⟨m, hm, h3, h4⟩ := ih h2
      exact ⟨m + 1, by simpa using hm, by simpa using h3, by simpa using h4⟩
    | false =>
      refine ⟨0, by simp, ?_, by simpa using h2⟩
      unfold toldB at h h2
      rw [List.any_cons, h2, Bool.or_false] at h
      exact h
/-- is there a key of f's that no page of l tells of? -/
def lastB (f : FoundT) (l : List FoundT) : Bool := f.2.2.2.1.any fun k => !toldB l k
theorem allC_apart (bs : List BlockT) : Apart (allC bs) := (tellC_apart 0 bs).perm (allF_perm _)
theorem apart_at {fs : List FoundT} (h : Apart fs) {i m : Nat} (hi : i < fs.length) (hm : m < fs.length) (he : fs[i].1 = fs[m].1) : i = m := by
  unfold Apart List.Nodup at h
  rw [List.pairwise_iff_getElem] at h
  rcases Nat.lt_trichotomy i m with h1 | h1 | h1
  · have := h i m (by simpa using hi) (by simpa using hm) h1
    simp at this
    exact absurd he this
  · exact h1
  · have := h m i (by simpa using hm) (by simpa using hi) h1
    simp at this
    exact absurd he.symm this
theorem chip_len (bs : List BlockT) : (foldT (allC bs) (newT 64)).1.length = 64 ∧ (foldT (allC bs) (newT 64)).2.length = 64 := by
  have h1 := foldT_len (allC bs) (newT 64)
  have h2 := newT_len 64
  have h3 : cutN 64 = 64 := by decide
  omega
theorem data_live (bs : List BlockT) {i : Nat} (hi : i < (allC bs).length) (h : lastB (allC bs)[i] ((allC bs).drop (i + 1)) = true) : liveT (foldT (allC bs) (newT 64)) (allC bs)[i].1 = true := by
  have hf := List.getElem_mem hi
  have hp := allC_place hf
  unfold lastB at h
  obtain ⟨k, hk, hno⟩ := List.any_eq_true.1 h
  have hb := allC_keys hf k hk
  obtain ⟨s, rfl⟩ : ∃ s : Nat, k = (s : Int) := ⟨k.toNat, by omega⟩
  have hl := fold_last (n := 64) (s := s) (i := i) (by have : cutN 64 = 64 := by decide
                                                       omega) hi (allC_tells _ hf) (by unfold tells; exact List.any_eq_true.2 ⟨_, hk, by simp⟩) (by simpa using hno)
  have hlen := chip_len bs
  rw [liveT_iff]
  exact ⟨hp.1, .inr (mem_getD.2 ⟨s, by omega, hl⟩)⟩
theorem data_none (bs : List BlockT) {i : Nat} (hi : i < (allC bs).length) (h : lastB (allC bs)[i] ((allC bs).drop (i + 1)) = false) : which (foldT (allC bs) (newT 64)).2 (allC bs)[i].1 = [] := by
  have hlen := chip_len bs
  have hc : cutN 64 = 64 := by decide
  have hp := allC_place (List.getElem_mem hi)
  rcases hw : which (foldT (allC bs) (newT 64)).2 (allC bs)[i].1 with _ | ⟨x, xs⟩
  · rfl
  · have hx : x ∈ which (foldT (allC bs) (newT 64)).2 (allC bs)[i].1 := by rw [hw]; exact List.mem_cons_self ..
    obtain ⟨s, hs, rfl, h0, he⟩ := which_mem.1 hx
    cases ht : toldB (allC bs) s with
    | false =>
      have := ((fold_says (allC bs) 64 (s := s) (by omega) allC_tells).2 ht).2
      rw [he] at this
      omega
    | true =>
      obtain ⟨m, hm, h3, h4⟩ := last_told ht
      have hl := fold_last (n := 64) (s := s) (i := m) (by omega) hm (allC_tells _ (List.getElem_mem hm)) h3 h4
      rw [he] at hl
      have e := apart_at (allC_apart bs) hi hm hl
      subst e
      unfold lastB at h
      unfold tells at h3
      obtain ⟨k, hk, hks⟩ := List.any_eq_true.1 h3
      have hks : k = (s : Int) := by simpa using hks
      subst hks
      have := List.any_eq_false.1 h _ hk
      rw [h4] at this
      simp at this
end Go.Proofs.Ytedopplldpcinaa.Live
