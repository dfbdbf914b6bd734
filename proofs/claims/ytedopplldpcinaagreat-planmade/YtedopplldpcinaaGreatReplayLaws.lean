/-
  ReplayLawMath, ReplayTells: in one text (merge.json).
-/
import Derived.Test.YtedopplldpcinaaGreatRepLivMath
import Derived.Test.YtedopplldpcinaaGreatScanLow
import Derived.Test.YtedopplldpcinaaGreatMathLow
/-
  Layer 7: what is told last of a sector.
-/
namespace Go.Proofs.YtedopplldpcinaaGreat.Replay
open Go.Proofs.YtedopplldpcinaaGreat.Scan

/-- f tells of each of its keys -/
def Tells (f : FoundT) : Prop := f.2.1 = 1 ∨ (f.2.1 = 2 ∧ f.2.2.2.2.length = f.2.2.2.1.length)
def valOf (f : FoundT) (i : Nat) : Int := if f.2.1 = 2 then f.2.2.2.2.getD i 0 else f.1
theorem Tells.told {f : FoundT} (h : Tells f) {i : Nat} (hi : i < f.2.2.2.1.length) : toldT f i = some (valOf f i) := by
  unfold toldT valOf
  rcases h with h | ⟨h, hl⟩
  · rw [if_pos h, if_neg (by omega)]
  · rw [if_neg (by omega), if_pos h, if_pos h]
    simp [show i < f.2.2.2.2.length by omega]
theorem tells_right {k s : Int} {ks vs : List Int} (h : Tag.right k s ks vs = true) (p : Int) : Tells (p, k, s, ks, vs) := by
  simp only [Tag.right, Tag.valsOk, Bool.and_eq_true] at h
  have h2 := h.2
  by_cases h1 : k = 1
  · exact .inl h1
  · rw [if_neg h1] at h2
    by_cases h3 : k = 2
    · rw [if_pos h3] at h2
      simp only [Bool.and_eq_true, decide_eq_true_eq] at h2
      exact .inr ⟨h3, h2.1⟩
    · rw [if_neg h3] at h2; simp at h2
theorem stepT_ne {f : FoundT} {t : TableT} {i s : Nat} (hk : f.2.2.2.1.getD i 0 ≠ (s : Int)) : (stepT f t i).1.getD s 0 = t.1.getD s 0 ∧ (stepT f t i).2.getD s 0 = t.2.getD s 0 := by
  unfold stepT
  split
  · exact ⟨rfl, rfl⟩
  · unfold putT
    split
    · rename_i hs
      rw [isSec_iff] at hs
      generalize f.2.2.2.1.getD i 0 = x at *
      have : x.toNat ≠ s := by omega
      simp [this]
    · exact ⟨rfl, rfl⟩
theorem stepT_told {f : FoundT} {t : TableT} {i s : Nat} {v : Int} (hk : f.2.2.2.1.getD i 0 = (s : Int)) (hv : toldT f i = some v) (h1 : s < t.1.length) (h2 : s < t.2.length) : (stepT f t i).1.getD s 0 = v ∧ (stepT f t i).2.getD s 0 = f.1 := by
  rw [stepT_in hv (by rw [isSec_iff, hk]; omega), hk]
  simp [h1, h2]
theorem newT_get {n : Int} {s : Nat} (h : s < cutN n) : (newT n).1.getD s 0 = -1 ∧ (newT n).2.getD s 0 = -1 := by
  simp [newT, h]
/-- what f tells last of s, of its first n keys -/
def lastOf (f : FoundT) (s : Nat) : Nat → Option Int
  | 0 => none
  | n + 1 => if f.2.2.2.1.getD n 0 = (s : Int) ∧ (toldT f n).isSome = true then toldT f n else lastOf f s n
theorem applyN_get (f : FoundT) (t : TableT) (n s : Nat) (h1 : s < t.1.length) (h2 : s < t.2.length) :
    ((applyN f t n).1.getD s 0, (applyN f t n).2.getD s 0) = match lastOf f s n with | some v => (v, f.1) | none => (t.1.getD s 0, t.2.getD s 0) := by
  induction n with
  | zero => rfl
  | succ n ih =>
    obtain ⟨l1, l2⟩ := applyN_len f t n
    unfold lastOf applyN
    by_cases hk : f.2.2.2.1.getD n 0 = (s : Int)
    · rcases ho : toldT f n with _ | v
      · rw [if_neg (by simp), stepT_none _ ho]
        exact ih
      · rw [if_pos ⟨hk, by simp⟩]
        obtain ⟨a, b⟩ := stepT_told hk ho (t := applyN f t n) (by omega) (by omega)
        rw [a, b]
    · rw [if_neg (fun h => hk h.1)]
      obtain ⟨a, b⟩ := stepT_ne (t := applyN f t n) hk
      rw [a, b]
      exact ih
theorem lastOf_some {f : FoundT} {s n : Nat} {v : Int} (h : lastOf f s n = some v) : ∃ i, i < n ∧ f.2.2.2.1.getD i 0 = (s : Int) := by
  induction n with
  | zero => cases h
  | succ n ih =>
    unfold lastOf at h
    split at h
    · rename_i hc
      exact ⟨n, by omega, hc.1⟩
    · obtain ⟨i, hi, he⟩ := ih h
      exact ⟨i, by omega, he⟩
theorem lastOf_tells {f : FoundT} (h : Tells f) {s n i : Nat} (hn : n ≤ f.2.2.2.1.length) (hi : i < n) (hk : f.2.2.2.1.getD i 0 = (s : Int)) : ∃ v, lastOf f s n = some v := by
  induction n with
  | zero => omega
  | succ n ih =>
    unfold lastOf
    by_cases hc : f.2.2.2.1.getD n 0 = (s : Int) ∧ (toldT f n).isSome = true
    · rw [if_pos hc]
      exact ⟨_, h.told (by omega)⟩
    · rw [if_neg hc]
      by_cases e : i = n
      · subst e
        exact absurd ⟨hk, by rw [h.told (by omega)]; rfl⟩ hc
      · exact ih (by omega) (by omega)
theorem tab_ext {t u : TableT} {n : Nat} (ht : t.1.length = n ∧ t.2.length = n) (hu : u.1.length = n ∧ u.2.length = n) (h : ∀ s, s < n → (t.1.getD s 0, t.2.getD s 0) = (u.1.getD s 0, u.2.getD s 0)) : t = u := by
  refine Prod.ext (List.ext_getElem (by omega) fun i h1 h2 => ?_) (List.ext_getElem (by omega) fun i h1 h2 => ?_)
  · have := congrArg Prod.fst (h i (by omega))
    simpa [h1, h2] using this
  · have := congrArg Prod.snd (h i (by omega))
    simpa [h1, h2] using this
/-- two that tell of unlike sectors -/
theorem apply_order {t : TableT} {n : Nat} (ht : t.1.length = n ∧ t.2.length = n) {f g : FoundT} (ha : ∀ i j, i < f.2.2.2.1.length → j < g.2.2.2.1.length → f.2.2.2.1.getD i 0 ≠ g.2.2.2.1.getD j 0) : applyT (applyT t f) g = applyT (applyT t g) f := by
  have e1 := applyT_len t f
  have e2 := applyT_len t g
  have e3 := applyT_len (applyT t f) g
  have e4 := applyT_len (applyT t g) f
  refine tab_ext (n := n) ⟨by omega, by omega⟩ ⟨by omega, by omega⟩ fun s hs => ?_
  have a1 := applyN_get g (applyT t f) g.2.2.2.1.length s (by omega) (by omega)
  have a2 := applyN_get f t f.2.2.2.1.length s (by omega) (by omega)
  have a3 := applyN_get f (applyT t g) f.2.2.2.1.length s (by omega) (by omega)
  have a4 := applyN_get g t g.2.2.2.1.length s (by omega) (by omega)
  refine a1.trans (Eq.trans ?_ a3.symm)
  rcases hg : lastOf g s g.2.2.2.1.length with _ | v
  · rw [hg] at a4
    simp only []
    refine a2.trans ?_
    rcases hf : lastOf f s f.2.2.2.1.length with _ | v
    · exact a4.symm
    · rfl
  · rcases hf : lastOf f s f.2.2.2.1.length with _ | v'
    · rw [hg] at a4
      exact a4.symm
    · obtain ⟨i, hi, hi'⟩ := lastOf_some hf
      obtain ⟨j, hj, hj'⟩ := lastOf_some hg
      exact absurd (hi'.trans hj'.symm) (ha i j hi hj)
/-- one that is told twice -/
theorem apply_twice {t : TableT} {n : Nat} (ht : t.1.length = n ∧ t.2.length = n) (g : FoundT) : applyT (applyT t g) g = applyT t g := by
  have e2 := applyT_len t g
  have e4 := applyT_len (applyT t g) g
  refine tab_ext (n := n) ⟨by omega, by omega⟩ ⟨by omega, by omega⟩ fun s hs => ?_
  have a3 := applyN_get g (applyT t g) g.2.2.2.1.length s (by omega) (by omega)
  have a4 := applyN_get g t g.2.2.2.1.length s (by omega) (by omega)
  refine a3.trans ?_
  rcases hg : lastOf g s g.2.2.2.1.length with _ | v
  · rfl
  · rw [hg] at a4
    exact a4.symm
/-- whether a page tells of s, and whether one that does is at b -/
def toldB (fs : List FoundT) (s : Int) : Bool := fs.any fun f => f.2.2.2.1.any fun k => decide (k = s)
def saysB (fs : List FoundT) (s b : Int) : Bool := fs.any fun f => decide (f.1 = b) && f.2.2.2.1.any fun k => decide (k = s)
theorem toldB_snoc (fs : List FoundT) (f : FoundT) (s : Int) : toldB (fs ++ [f]) s = (toldB fs s || f.2.2.2.1.any fun k => decide (k = s)) := by simp [toldB]
theorem saysB_snoc (fs : List FoundT) (f : FoundT) (s b : Int) : saysB (fs ++ [f]) s b = (saysB fs s b || (decide (f.1 = b) && f.2.2.2.1.any fun k => decide (k = s))) := by simp [saysB]
theorem applyT_def (t : TableT) (f : FoundT) : applyT t f = applyN f t f.2.2.2.1.length := rfl
theorem fold_nil (t : TableT) : foldT [] t = t := rfl
theorem fold_snoc (fs : List FoundT) (f : FoundT) (t : TableT) : foldT (fs ++ [f]) t = applyT (foldT fs t) f := by
  unfold foldT; rw [List.foldl_append]; rfl
theorem any_key {l : List Int} {s : Int} : (l.any fun k => decide (k = s)) = true ↔ ∃ i, i < l.length ∧ l.getD i 0 = s := by
  rw [List.any_eq_true]
  constructor
  · rintro ⟨x, hx, he⟩
    obtain ⟨i, hi, rfl⟩ := List.getElem_of_mem hx
    exact ⟨i, hi, by simpa [hi] using he⟩
  · rintro ⟨i, hi, he⟩
    refine ⟨l[i], List.getElem_mem hi, ?_⟩
    simpa [hi] using he
/-- who says what a sector has tells of it; of no other anything is said -/
theorem fold_says (fs : List FoundT) (n : Int) {s : Nat} (hs : s < cutN n) (hT : ∀ f ∈ fs, Tells f) :
    toldB fs s = saysB fs s ((foldT fs (newT n)).2.getD s 0) ∧ (toldB fs s = false → (foldT fs (newT n)).1.getD s 0 = -1 ∧ (foldT fs (newT n)).2.getD s 0 = -1) := by
  have key : ∀ k, k ≤ fs.length → toldB (fs.take k) s = saysB (fs.take k) s ((foldT (fs.take k) (newT n)).2.getD s 0) ∧ (toldB (fs.take k) s = false → (foldT (fs.take k) (newT n)).1.getD s 0 = -1 ∧ (foldT (fs.take k) (newT n)).2.getD s 0 = -1) := by
    intro k
    induction k with
    | zero => intro _; exact ⟨by simp [toldB, saysB], fun _ => newT_get hs⟩
    | succ k ih =>
      intro hk
      obtain ⟨ih1, ih2⟩ := ih (by omega)
      have hlt : k < fs.length := by omega
      have hTk := hT _ (List.getElem_mem hlt)
      rw [List.take_succ_eq_append_getElem hlt, toldB_snoc, saysB_snoc, fold_snoc]
      generalize fs[k] = f at *
      generalize fs.take k = l at *
      have hl := foldT_len l (newT n)
      have hn := newT_len n
      have hg := applyN_get f (foldT l (newT n)) f.2.2.2.1.length s (by omega) (by omega)
      rcases ho : lastOf f s f.2.2.2.1.length with _ | v
      · rw [ho] at hg
        have g1 := congrArg Prod.fst hg
        have g2 := congrArg Prod.snd hg
        simp only [] at g1 g2
        have hno : (f.2.2.2.1.any fun k => decide (k = (s : Int))) = false := by
          rw [Bool.eq_false_iff]
          intro h
          obtain ⟨i, hi, he⟩ := any_key.1 h
          obtain ⟨v, hv⟩ := lastOf_tells hTk (Nat.le_refl _) hi he
          rw [ho] at hv; cases hv
        unfold applyT
        rw [g1, g2, hno]
        simp only [Bool.or_false, Bool.and_false]
        exact ⟨ih1, ih2⟩
      · rw [ho] at hg
        have g2 := congrArg Prod.snd hg
        simp only [] at g2
        obtain ⟨i, hi, he⟩ := lastOf_some ho
        have hyes : (f.2.2.2.1.any fun k => decide (k = (s : Int))) = true := any_key.2 ⟨i, hi, he⟩
        unfold applyT
        rw [g2, hyes]
        simp
  have := key fs.length (Nat.le_refl _)
  rwa [List.take_length] at this
/-- no key of the one is a key of the other -/
def apartB (l m : List Int) : Bool := l.all fun x => m.all fun y => decide (x ≠ y)
theorem getD_mem7 {l : List Int} {i : Nat} (h : i < l.length) : l.getD i 0 ∈ l := by
  simp [h]
theorem apartB_ne {l m : List Int} (h : apartB l m = true) {i j : Nat} (hi : i < l.length) (hj : j < m.length) : l.getD i 0 ≠ m.getD j 0 := by
  unfold apartB at h
  rw [List.all_eq_true] at h
  have := h _ (getD_mem7 hi)
  rw [List.all_eq_true] at this
  simpa using this _ (getD_mem7 hj)
theorem all_take (l : List Int) (P : Int → Bool) {q : Nat} (h : q < l.length) : (l.take (q + 1)).all P = ((l.take q).all P && P (l.getD q 0)) := by
  rw [List.take_succ_eq_append_getElem h, List.all_append]
  simp [h]
theorem apartB_take (l m : List Int) {k : Nat} (h : k < l.length) : apartB (l.take (k + 1)) m = (apartB (l.take k) m && m.all fun y => decide (l.getD k 0 ≠ y)) := by
  unfold apartB
  exact all_take l (fun x => m.all fun y => decide (x ≠ y)) h
theorem any_take (l : List Int) (P : Int → Bool) {q : Nat} (h : q < l.length) : (l.take (q + 1)).any P = ((l.take q).any P || P (l.getD q 0)) := by
  rw [List.take_succ_eq_append_getElem h, List.any_append]
  simp [h]
end Go.Proofs.YtedopplldpcinaaGreat.Replay
/-
  Layer 7: what a chip's pages tell, they tell of each of their keys.
-/
namespace Go.Proofs.YtedopplldpcinaaGreat.Replay
open Go.RowKit Go.Proofs.YtedopplldpcinaaGreat.Scan Go.Proofs.YtedopplldpcinaaGreat.Nand

theorem tellP_right {b p : Nat} {pg : PageT} {f : FoundT} (h : f ∈ tellP b p pg) : Tag.right f.2.1 f.2.2.1 f.2.2.2.1 f.2.2.2.2 = true := by
  unfold tellP at h
  split at h
  · rcases ho : (Look.look pg.1 pg.2.2.data.toList pg.2.1.data.toList).2 with _ | r
    · rw [ho] at h; cases h
    · rw [ho] at h
      have hf : f = (place b p, r) := by simpa using h
      subst hf
      unfold Look.look at ho
      cases hw : pg.1 with
      | false => rw [hw] at ho; cases ho
      | true =>
        rw [hw] at ho
        rcases hd : Tag.decode pg.2.2.data.toList pg.2.1.data.toList with _ | q
        · rw [hd] at ho; cases ho
        · rw [hd] at ho
          have hq : q = r := by simpa using ho
          subst hq
          obtain ⟨k, s, ks, vs⟩ := q
          have he := Tag.decode_some hd
          unfold Tag.enc at he
          split at he
          · rename_i hc; exact hc.1
          · cases he
  · cases h
theorem tellB_right {b p : Nat} {ps : List PageT} {f : FoundT} (h : f ∈ tellB b p ps) : Tag.right f.2.1 f.2.2.1 f.2.2.2.1 f.2.2.2.2 = true := by
  induction ps generalizing p with
  | nil => simp [tellB] at h
  | cons x xs ih =>
    rw [tellB, List.mem_append] at h
    rcases h with h | h
    · exact tellP_right h
    · exact ih h
theorem tellC_right {b : Nat} {bs : List BlockT} {f : FoundT} (h : f ∈ tellC b bs) : Tag.right f.2.1 f.2.2.1 f.2.2.2.1 f.2.2.2.2 = true := by
  induction bs generalizing b with
  | nil => simp [tellC] at h
  | cons x xs ih =>
    rw [tellC, List.mem_append] at h
    rcases h with h | h
    · exact tellB_right h
    · exact ih h
theorem allC_right {bs : List BlockT} {f : FoundT} (h : f ∈ allC bs) : Tag.right f.2.1 f.2.2.1 f.2.2.2.1 f.2.2.2.2 = true :=
  tellC_right ((allF_perm _).mem_iff.1 h)
theorem allC_tells {bs : List BlockT} : ∀ f ∈ allC bs, Tells f := fun f h => by
  obtain ⟨p, k, s, ks, vs⟩ := f
  exact tells_right (allC_right h) p
theorem toldB_take {fs : List FoundT} {i : Nat} (h : i < fs.length) (s : Int) : toldB (fs.take (i + 1)) s = (toldB (fs.take i) s || fs[i].2.2.2.1.any fun k => decide (k = s)) := by
  rw [List.take_succ_eq_append_getElem h, toldB_snoc]
theorem saysB_take {fs : List FoundT} {i : Nat} (h : i < fs.length) (s b : Int) : saysB (fs.take (i + 1)) s b = (saysB (fs.take i) s b || (decide (fs[i].1 = b) && fs[i].2.2.2.1.any fun k => decide (k = s))) := by
  rw [List.take_succ_eq_append_getElem h, saysB_snoc]
end Go.Proofs.YtedopplldpcinaaGreat.Replay
