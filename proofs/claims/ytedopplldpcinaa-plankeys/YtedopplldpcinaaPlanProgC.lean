/-
  PlanIdxMath, PlanSorts, PlanPrints, PlanTwinP: in one text (merge.json).
-/
import Derived.Lib.SlKeysI
import Derived.Test.YtedopplldpcinaaIndexMath
import Derived.Test.YtedopplldpcinaaLiveAll
import Derived.Test.YtedopplldpcinaaPlanMaths
import Derived.Test.YtedopplldpcinaaLowWalks
import Derived.Shelf.SlIterI.Nil
import Derived.Shelf.SortM.Plain
import Derived.Shelf.SortM.SortNone
import Derived.Sort.OwnSortedInts
import Derived.Test.YtedopplldpcinaaKeys9
import Derived.Maps.OwnSet
import Derived.Maps.AppendAt
import Derived.WalkKit
import Derived.Test.YtedopplldpcinaaPlanProgA
import Derived.Test.YtedopplldpcinaaIndexFPD
import Derived.Test.YtedopplldpcinaaPlanTwinC
import Derived.Test.YtedopplldpcinaaIndexHaving
/-
  Layer 12: the mathematics of the index of places: what is in it, and which place is found first.
-/
namespace Go.Proofs.Ytedopplldpcinaa.Plan
open Go.RowKit Go.Maps Go.Proofs.Ytedopplldpcinaa.Nand Go.Proofs.Ytedopplldpcinaa.Scan Go.Proofs.Ytedopplldpcinaa.Live Go.Proofs.Ytedopplldpcinaa.Replay Go.Proofs.Ytedopplldpcinaa.Index

/-! ### keys that are whole numbers -/
def isI : Lit → Bool
  | .int .i64 _ => true
  | _ => false
theorem isI_spec {k : Lit} (h : isI k = true) : ∃ a, k = .int .i64 a := by
  unfold isI at h
  split at h
  · exact ⟨_, rfl⟩
  · cases h
def AllI {H : Type} (D : DataW H) : Prop := ∃ es, D = .map es ∧ es.any (fun p => !isI p.1) = false
theorem allI_empty {H : Type} : AllI (.map [] : DataW H) := ⟨[], rfl, rfl⟩
theorem AllI.put {H : Type} {D : DataW H} (h : AllI D) (a : Int) (d : DataW H) : AllI (D.put (.int .i64 a) d) := by
  obtain ⟨es, rfl, h⟩ := h
  refine ⟨_, rfl, ?_⟩
  rw [any_insert, Bool.or_eq_false_iff]
  refine ⟨rfl, ?_⟩
  rw [List.any_eq_false] at h ⊢
  intro p hp
  exact h p (List.mem_filter.1 hp).1
theorem intKeys_has {H : Type} {D : DataW H} (h : AllI D) (z : Int) : z ∈ intKeys D ↔ has D (.int .i64 z) = true := by
  obtain ⟨es, rfl, h⟩ := h
  show z ∈ es.map (fun p => Go.intOf p.1) ↔ es.any (fun p => p.1.sameKey (.int .i64 z)) = true
  rw [List.mem_map, List.any_eq_true]
  rw [List.any_eq_false] at h
  constructor
  · rintro ⟨p, hp, hz⟩
    obtain ⟨a, ha⟩ := isI_spec (by simpa using h p hp)
    refine ⟨p, hp, ?_⟩
    rw [ha] at hz ⊢
    obtain rfl : a = z := hz
    exact WideAt.sameKey_self trivial
  · rintro ⟨p, hp, hz⟩
    refine ⟨p, hp, ?_⟩
    have := WideAt.sameKey_eq hz
    rw [this]
    rfl
theorem intKeys_size {H : Type} {D : DataW H} (h : AllI D) : (intKeys D).length = size D := by
  obtain ⟨es, rfl, _⟩ := h
  show (es.map _).length = es.length
  rw [List.length_map]

/-! ### the places that the map holds -/
def hadN (bs : List BlockT) (l : List Int) (k : Nat) : List Lit := ((l.take k).filter fun z => (pageC bs z).2).map (Lit.int .i64)
theorem hadN_yes {bs : List BlockT} {l : List Int} {k : Nat} (h : k < l.length) (h0 : (pageC bs (l.getD k 0)).2 = true) : hadN bs l (k + 1) = hadN bs l k ++ [.int .i64 (l.getD k 0)] := by
  have e : l[k] = l.getD k 0 := by simp [h]
  unfold hadN
  rw [List.take_succ_eq_append_getElem h, List.filter_append, List.map_append, e, List.filter_cons_of_pos (by simpa using h0)]
  rfl
theorem hadN_no {bs : List BlockT} {l : List Int} {k : Nat} (h : k < l.length) (h0 : (pageC bs (l.getD k 0)).2 = false) : hadN bs l (k + 1) = hadN bs l k := by
  have e : l[k] = l.getD k 0 := by simp [h]
  unfold hadN
  rw [List.take_succ_eq_append_getElem h, List.filter_append, List.map_append, e, List.filter_cons_of_neg (by simpa using h0)]
  simp
theorem hadN_key {bs : List BlockT} {l : List Int} {k : Nat} : ∀ x ∈ hadN bs l k, WideAt.IsKeyLit x := by
  intro x hx
  unfold hadN at hx
  obtain ⟨_, _, rfl⟩ := List.mem_map.1 hx
  trivial
theorem hadN_len (bs : List BlockT) (l : List Int) (k : Nat) : (hadN bs l k).length ≤ k := by
  unfold hadN
  rw [List.length_map]
  exact Nat.le_trans (List.length_filter_le _ _) (by rw [List.length_take]; omega)
theorem setT_all (acc : List Lit) (h : ∀ x ∈ acc, isI x = true) : AllI (setT acc) := by
  unfold setT setOf
  suffices H : ∀ (acc : List Lit) (D : DataW Unit), AllI D → (∀ x ∈ acc, isI x = true) → AllI (acc.foldl (fun m x => m.put x (.agg [])) D) from H acc _ allI_empty h
  intro acc
  induction acc with
  | nil => intro D hD _; exact hD
  | cons x acc ih =>
    intro D hD hx
    obtain ⟨a, rfl⟩ := isI_spec (hx x (List.mem_cons_self ..))
    exact ih _ (hD.put a _) fun y hy => hx y (List.mem_cons_of_mem _ hy)
theorem hadN_isI {bs : List BlockT} {l : List Int} {k : Nat} : ∀ x ∈ hadN bs l k, isI x = true := by
  intro x hx
  unfold hadN at hx
  obtain ⟨_, _, rfl⟩ := List.mem_map.1 hx
  rfl
theorem had_mem (bs : List BlockT) (l : List Int) (z : Int) : z ∈ intKeys (setT (hadN bs l l.length)) ↔ z ∈ l ∧ (pageC bs z).2 = true := by
  rw [intKeys_has (setT_all _ hadN_isI)]
  unfold setT
  rw [has_setOf _ _ _ hadN_key, List.any_eq_true]
  unfold hadN
  rw [List.take_length]
  constructor
  · rintro ⟨x, hx, hs⟩
    obtain ⟨a, ha, rfl⟩ := List.mem_map.1 hx
    have := WideAt.sameKey_eq hs
    injection this with _ e
    subst e
    exact ⟨(List.mem_filter.1 ha).1, by simpa using (List.mem_filter.1 ha).2⟩
  · rintro ⟨h1, h2⟩
    exact ⟨.int .i64 z, List.mem_map.2 ⟨z, List.mem_filter.2 ⟨h1, by simpa using h2⟩, rfl⟩, WideAt.sameKey_self trivial⟩
theorem had_size (bs : List BlockT) (l : List Int) (k : Nat) : size (setT (hadN bs l k)) ≤ k := by
  unfold setT
  rw [size_setOf _ _ hadN_key]
  refine Nat.le_trans ?_ (hadN_len bs l k)
  suffices H : ∀ (xs acc : List Lit), (xs.foldl addKey acc).length ≤ acc.length + xs.length by simpa using H (hadN bs l k) []
  intro xs
  induction xs with
  | nil => intro acc; simp
  | cons x xs ih =>
    intro acc
    rw [List.foldl_cons]
    refine Nat.le_trans (ih _) ?_
    have : (addKey acc x).length ≤ acc.length + 1 := by
      unfold addKey
      split <;> simp
    simp
    omega

/-! ### the index -/
def printT (d : ByteArray) : Int := ((Crc.sum d.data.toList % 16 : Nat) : Int)
theorem printT_nn (d : ByteArray) : 0 ≤ printT d := Int.natCast_nonneg _
def prT (bs : List BlockT) (p : Int) : Int := printT (pageC bs p).1.2.1
/-- k of the places have been put -/
def PutInv (bs : List BlockT) (ss : List Int) (k : Nat) (sl : List SlotT) : Prop :=
  sl.length = ss.length ∧ Index.Reach sl ∧ usedN sl = k ∧ ∀ q p, 0 < cntS sl q p ↔ ∃ j, j < k ∧ ss.getD j 0 = p ∧ prT bs p = q
theorem PutInv.start (bs : List BlockT) (ss : List Int) : PutInv bs ss 0 (emptyT ss.length) := by
  refine ⟨empty_len _, empty_reach _, empty_used _, fun q p => ?_⟩
  rw [empty_cntS]
  constructor
  · intro h; omega
  · rintro ⟨j, hj, _⟩; omega
theorem PutInv.step {bs : List BlockT} {ss : List Int} {k : Nat} {sl : List SlotT} (h : PutInv bs ss k sl) (hk : k < ss.length) : PutInv bs ss (k + 1) (putT sl (prT bs (ss.getD k 0)) (ss.getD k 0)).1 := by
  obtain ⟨h1, h2, h3, h4⟩ := h
  obtain ⟨l', e, g1, g2, g3, g4, g5⟩ := put_does h2 (q := prT bs (ss.getD k 0)) (p := ss.getD k 0) (printT_nn _) (by omega)
  rw [e]
  refine ⟨by rw [g1, h1], g2, by rw [g3, h3], fun q p => ?_⟩
  show 0 < cntS l' q p ↔ _
  by_cases hqp : (q, p) = (prT bs (ss.getD k 0), ss.getD k 0)
  · injection hqp with hq hp
    subst hq hp
    rw [g4]
    exact ⟨fun _ => ⟨k, by omega, rfl, rfl⟩, fun _ => by omega⟩
  · rw [g5 q p hqp, h4]
    constructor
    · rintro ⟨j, hj, hh⟩; exact ⟨j, by omega, hh⟩
    · rintro ⟨j, hj, h5, h6⟩
      by_cases hjk : j = k
      · subst hjk
        exact absurd (by rw [← h6, ← h5]) hqp
      · exact ⟨j, by omega, h5, h6⟩
/-- an index of the places of a list that have pages -/
def IdxOf (bs : List BlockT) (l : List Int) (sl : List SlotT) : Prop := sl.length ≤ 1000 ∧ ∀ q p, 0 ≤ q → (p ∈ findT sl q ↔ p ∈ l ∧ (pageC bs p).2 = true ∧ prT bs p = q)
theorem PutInv.done {bs : List BlockT} {l ss : List Int} {sl : List SlotT} (h : PutInv bs ss ss.length sl) (hl : ss.length ≤ 1000) (hm : ∀ z, z ∈ ss ↔ z ∈ l ∧ (pageC bs z).2 = true) : IdxOf bs l sl := by
  obtain ⟨h1, h2, h3, h4⟩ := h
  refine ⟨by omega, fun q p hq => ?_⟩
  rw [← find_has h2 hq, h4]
  constructor
  · rintro ⟨j, hj, h5, h6⟩
    have : p ∈ ss := by rw [← h5, List.getD_eq_getElem?_getD, List.getElem?_eq_getElem hj]; exact List.getElem_mem hj
    exact ⟨((hm p).1 this).1, ((hm p).1 this).2, h6⟩
  · rintro ⟨h5, h6, h7⟩
    obtain ⟨j, hj, e⟩ := List.getElem_of_mem ((hm p).2 ⟨h5, h6⟩)
    exact ⟨j, hj, by rw [List.getD_eq_getElem?_getD, List.getElem?_eq_getElem hj]; exact e, h7⟩

/-! ### the twin -/
def sortZ (l : List Int) : List Int := l.mergeSort fun x y => decide (x ≤ y)
theorem sortZ_len (l : List Int) : (sortZ l).length = l.length := List.length_mergeSort ..
theorem sortZ_mem {l : List Int} {z : Int} : z ∈ sortZ l ↔ z ∈ l := List.mem_mergeSort
theorem sortZ_le (l : List Int) : (sortZ l).Pairwise (· ≤ ·) := by
  have := List.pairwise_mergeSort (le := fun x y : Int => decide (x ≤ y)) (by intro a b c h1 h2; simp only [decide_eq_true_eq] at *; omega) (by intro a b; simp only [Bool.or_eq_true, decide_eq_true_eq]; omega) l
  exact this.imp fun h => by simpa using h
theorem twinN_least (bs : List BlockT) (t : TableT) (d : ByteArray) (k : Nat) : ∀ i, i < k → okT bs t d (t.1.getD i 0) → 0 ≤ twinN bs t d k ∧ twinN bs t d k ≤ t.1.getD i 0 := by
  induction k with
  | zero => intro i hi; omega
  | succ k ih =>
    intro i hi hok
    cases hb : twinB bs t d (twinN bs t d k) (t.1.getD k 0) with
    | true =>
      have h := of_decide_eq_true (show decide _ = true from hb)
      rw [twin_yes hb]
      refine ⟨page_pos h.1, ?_⟩
      by_cases e : i = k
      · subst e; exact Int.le_refl _
      · have := ih i (by omega) hok
        rcases h.2.2.2 with h' | h' <;> omega
    | false =>
      have h := of_decide_eq_false (show decide _ = false from hb)
      rw [twin_no hb]
      by_cases e : i = k
      · subst e
        have h8 : ¬ (twinN bs t d i < 0 ∨ t.1.getD i 0 < twinN bs t d i) := fun h' => h ⟨hok.1, hok.2.1, hok.2.2, h'⟩
        omega
      · exact ih i (by omega) hok
theorem twin_here {bs : List BlockT} {t : TableT} {d : ByteArray} {xs : List Int} (hs : xs.Pairwise (· ≤ ·)) (hx : ∀ p, p ∈ xs ↔ p ∈ t.1 ∧ (pageC bs p).2 = true ∧ prT bs p = printT d) {j : Nat} (hj : j < xs.length) (hno : ∀ i, i < j → ¬ ((pageC bs (xs.getD i 0)).1.2.1 = d ∧ (which t.1 (xs.getD i 0)).length < 8))
    (hok : (pageC bs (xs.getD j 0)).1.2.1 = d ∧ (which t.1 (xs.getD j 0)).length < 8) : twinT bs t d = xs.getD j 0 := by
  have gj : xs.getD j 0 = xs[j] := by rw [List.getD_eq_getElem?_getD, List.getElem?_eq_getElem hj]; rfl
  have hm := (hx (xs.getD j 0)).1 (by rw [gj]; exact List.getElem_mem hj)
  obtain ⟨i, hi, ei⟩ := List.getElem_of_mem hm.1
  have gi : t.1.getD i 0 = xs.getD j 0 := by rw [List.getD_eq_getElem?_getD, List.getElem?_eq_getElem hi]; exact ei
  have hle := twinN_least bs t d t.1.length i hi (by rw [gi]; exact ⟨hm.2.1, hok.1, hok.2⟩)
  rw [gi] at hle
  rcases twinN_is bs t d t.1.length with ⟨h1, _⟩ | ⟨h1, ⟨i', h2, h3⟩, h4⟩
  · omega
  · have hin : twinN bs t d t.1.length ∈ xs := (hx _).2 ⟨by rw [← h3, List.getD_eq_getElem?_getD, List.getElem?_eq_getElem h2]; exact List.getElem_mem h2, h4.1, by unfold prT; rw [h4.2.1]⟩
    obtain ⟨m, hm', em⟩ := List.getElem_of_mem hin
    have gm : xs.getD m 0 = twinN bs t d t.1.length := by rw [List.getD_eq_getElem?_getD, List.getElem?_eq_getElem hm']; exact em
    have hmj : j ≤ m := by
      apply Decidable.byContradiction
      intro hn
      exact hno m (by omega) (by rw [gm]; exact ⟨h4.2.1, h4.2.2⟩)
    have hge : xs.getD j 0 ≤ xs.getD m 0 := by
      rcases Nat.lt_or_eq_of_le hmj with h | h
      · rw [gj, gm, ← em]
        exact List.pairwise_iff_getElem.1 hs j m hj hm' h
      · subst h; exact Int.le_refl _
    show twinN bs t d t.1.length = _
    omega
theorem twin_nowhere {bs : List BlockT} {t : TableT} {d : ByteArray} {xs : List Int} (hx : ∀ p, p ∈ xs ↔ p ∈ t.1 ∧ (pageC bs p).2 = true ∧ prT bs p = printT d) (hno : ∀ i, i < xs.length → ¬ ((pageC bs (xs.getD i 0)).1.2.1 = d ∧ (which t.1 (xs.getD i 0)).length < 8)) : twinT bs t d = -1 := by
  rcases twinN_is bs t d t.1.length with ⟨h1, _⟩ | ⟨h1, ⟨i', h2, h3⟩, h4⟩
  · exact h1
  · have hin : twinN bs t d t.1.length ∈ xs := (hx _).2 ⟨by rw [← h3, List.getD_eq_getElem?_getD, List.getElem?_eq_getElem h2]; exact List.getElem_mem h2, h4.1, by unfold prT; rw [h4.2.1]⟩
    obtain ⟨m, hm', em⟩ := List.getElem_of_mem hin
    have gm : xs.getD m 0 = twinN bs t d t.1.length := by rw [List.getD_eq_getElem?_getD, List.getElem?_eq_getElem hm']; exact em
    exact absurd (by rw [gm]; exact ⟨h4.2.1, h4.2.2⟩) (hno m hm')
end Go.Proofs.Ytedopplldpcinaa.Plan
/-
  Layer 12, the program: whole numbers sorted; the keys of a map, sorted.
-/
namespace Go.Proofs.Ytedopplldpcinaa.Plan
open Go.RowKit Go.Maps Go.Sort Go.Shelf Go.Proofs.Ytedopplldpcinaa.Nand Go.Proofs.Ytedopplldpcinaa.Scan Go.Proofs.Ytedopplldpcinaa.Live Go.Proofs.Ytedopplldpcinaa.Replay Go.Proofs.Ytedopplldpcinaa.Index

/-- slices.Sort over a row of one's own -/
theorem codeSort (base : Nat) (v : Value) (l : List Int) (w : World) (h : w.ownsRow base 3 1 v l.length (icells l)) (hb : base ≤ w.heap.size) (hl : l.length ≤ 100000) :
    Calls Try.prog 26 #[v] w fun e w' => e = .returned (.tuple #[]) ∧ w'.ownsRow base 3 1 v (sortZ l).length (icells (sortZ l)) ∧ Below base w w' := by
  rcases id h.2 with ⟨rfl, h0⟩ | ⟨g, cap, cur, rfl, hbg, hh, hlc, hcm, hcs, ht⟩
  · obtain rfl : l = [] := List.length_eq_zero_iff.1 h0
    refine (AnyM.slices_Sort_int_none Try.sortA none 0 w).mono ?_
    rintro e w' ⟨rfl, rfl⟩
    exact ⟨rfl, by simpa [sortZ] using h, Below.refl _ _⟩
  · have hH : Holds (Value.int .i64) w g 0 l.toArray := holds_of_blockI hh (by simpa [icells] using ht)
    have hgl : g < w.heap.size := (Array.getElem?_eq_some_iff.1 hh).1
    refine (AnyM.slices_Sort_int Try.sortA g 0 cap l w hH hgl (by omega)).mono ?_
    rintro e w' ⟨rfl, n, os, rfl⟩
    refine ⟨rfl, ?_, (Below.refl base w).grown (grownBy_sortedI _) hb (fun j hj => by cases hj; exact hbg)⟩
    rw [sortZ_len]
    exact ownsRow_sortedI (ss := l) (ts := sortZ l) (sortZ_len l) hbg hh hlc hcm hcs

/-- slices.Sort's two contracts, at the fence that asks nothing -/
theorem sortsA12 (m : Nat) : AnyZI.SortsIn Try.prog Try.sortedA_ren Fence.wide m :=
  ⟨fun blk off cap ss W hH hblk hsz => callsIn_wide.2 (AnyM.slices_Sort_int Try.sortA blk off cap ss W hH hblk hsz),
   fun p cap W => callsIn_wide.2 (AnyM.slices_Sort_int_none Try.sortA p cap W)⟩
theorem codeKeys (mb : Option Nat) (w : World) : Calls Try.prog 52 #[.map mb] w fun e w' => e = .returned (.func (.func 71) #[] #[.pointer (some ⟨w.heap.size, 0, none⟩)]) ∧ w' = w.alloc (.cells #[.map mb] 103) :=
  callsIn_wide.1 (AnyZI.keys_in Try.keysA Fence.wide 5 trivial rfl mb w)
set_option maxHeartbeats 1000000 in
/-- slices.Sorted of a map's keys -/
theorem codeSorted {H : Type} (b nn : Nat) (D0 : DataW H) (R : Value → Option (DataW H × List MemPlace)) (w : World) (hown : w.ownsMap Try.prog 3 R b nn D0) (hmax : Maps.size D0 ≤ 100000) :
    Calls Try.prog 51 #[.func (.func 71) #[] #[.pointer (some ⟨w.heap.size, 0, none⟩)]] (w.alloc (.cells #[.map (some b)] 103)) fun e w' => ∃ (v : Value) (ss : List Int), e = .returned v ∧ ss.Perm (intKeys D0) ∧
      w'.ownsRow w.heap.size 3 1 v (sortZ ss).length (icells (sortZ ss)) ∧ Below w.heap.size w w' := by
  have hbl := hown.lt
  have hseq : SeqGives Fence.wide 2 Try.prog 71 #[.pointer (some ⟨w.heap.size, 0, none⟩)] encZ (fun ss => ss.Perm (intKeys D0)) (Maps.size D0) (w.alloc (.cells #[.map (some b)] 103)) :=
    AnyZI.keys_gives (ρ := Try.keysA_ren) { Try.keysA with } Fence.wide _ trivial rfl (by omega) w.heap.size b nn D0 _ (by simp) (by simp) (by
      obtain ⟨es, clock, hb, Ft, hs, hD⟩ := hown
      exact ⟨es, clock, (Below.heap_alloc _ _ b hbl).trans hb, Ft, hs, hD⟩)
  have cS := AnyZI.sorted_in Try.sortedA Fence.wide 5 trivial trivial trivial trivial rfl (by omega) (sortsA12 _) (enters_of Try.func26 (by kernel_rfl) rfl) 71 #[.pointer (some ⟨w.heap.size, 0, none⟩)] trivial (enters_of Try.func71 (by kernel_rfl) rfl) _ _ (by unfold maxLen; omega) (by omega) _ hseq
  change CallsIn _ _ Try.prog 51 _ _ _ at cS
  refine (callsIn_wide.1 cS).mono ?_
  rintro e w' ⟨v, ss, rfl, hS, hrow, -, hb⟩
  refine ⟨v, ss, rfl, hS, ?_, ((Below.refl _ w).alloc (Nat.le_refl _) _).trans (hb.mono (by simp))⟩
  rw [sortZ_len]
  have h2 := ownsRow_base_a (base' := w.heap.size) hrow (by rw [World.size_alloc]; exact Nat.le_succ _)
  exact h2
end Go.Proofs.Ytedopplldpcinaa.Plan
/-
  Layer 12, the program: the index of the places that have pages, by their fingerprints.
-/
namespace Go.Proofs.Ytedopplldpcinaa.Plan
open Go.RowKit Go.Maps Go.Proofs.Ytedopplldpcinaa.Nand Go.Proofs.Ytedopplldpcinaa.Scan Go.Proofs.Ytedopplldpcinaa.Live Go.Proofs.Ytedopplldpcinaa.Replay Go.Proofs.Ytedopplldpcinaa.Index

theorem map_mem {H : Type} {P : Program} {k : TypeId} {R : Value → Option (DataW H × List MemPlace)} {b n : Nat} {D : DataW H} {w w' : World} (h : w.ownsMap P k R b n D) (m : Mem w w') : w'.ownsMap P k R b n D := by
  obtain ⟨es, clock, hb, h⟩ := h
  exact ⟨es, clock, (Below.block m b (Array.getElem?_eq_some_iff.1 hb).1).trans hb, h⟩
theorem map_below {H : Type} {P : Program} {k : TypeId} {R : Value → Option (DataW H × List MemPlace)} {b n : Nat} {D : DataW H} {B : Nat} {w w' : World} (h : w.ownsMap P k R b n D) (m : Below B w w') (hb : b < B) : w'.ownsMap P k R b n D := by
  obtain ⟨es, clock, hh, h⟩ := h
  exact ⟨es, clock, (Below.block m b hb).trans hh, h⟩
theorem data_size {bs : List BlockT} (h : DataS bs) (p : Int) : (pageC bs p).1.2.1.size ≤ maxLen := by
  unfold pageC
  split
  · have hP : ∀ (ps : List PageT), (∀ x ∈ ps, x.2.1.size ≤ maxLen) → ∀ i, (ps.getD i zeroPage).2.1.size ≤ maxLen := by
      intro ps hps i
      by_cases hi : i < ps.length
      · rw [List.getD_eq_getElem?_getD, List.getElem?_eq_getElem hi]
        exact hps _ (List.getElem_mem hi)
      · rw [List.getD_eq_getElem?_getD, List.getElem?_eq_none (by omega)]
        exact Nat.zero_le _
    refine hP _ ?_ _
    by_cases hi : p.toNat / 16 < bs.length
    · rw [List.getD_eq_getElem?_getD, List.getElem?_eq_getElem hi]
      exact h _ (List.getElem_mem hi)
    · rw [List.getD_eq_getElem?_getD, List.getElem?_eq_none (by omega)]
      intro x hx
      have : x ∈ ([] : List PageT) := hx
      cases this
  · exact Nat.zero_le _
set_option maxHeartbeats 8000000 in
set_option maxRecDepth 100000 in
theorem codePrints (S : Nat → Prop) (oa : Option Addr) (ca : Nat) (bs : List BlockT) (br off : Bool) (ops : Int) (t : TableT) (om ob : Option Addr) (cm lb cb : Nat) (w : World) (hb : BlocksAt S w (.slice oa bs.length ca) bs) (h1 : Ints .i64 w (.slice om t.1.length cm) t.1) (hl1 : t.1.length ≤ 1000) (hwf : WfT t) (hds : DataS bs) :
    Calls Try.prog 24 #[.agg #[.slice oa bs.length ca, .bool br, .bool off, .int .i64 ops], .agg #[.slice om t.1.length cm, .slice ob lb cb]] w fun e w' => (∃ v sl, e = .returned v ∧ SlotsAt (fun x => w.heap.size ≤ x) w' v sl ∧ IdxOf bs t.1 sl) ∧ Mem w w' := by
  have hmm := @run_makeMap Try.prog
  have hm0 : Mem w ((w.alloc (.cells #[.slice oa bs.length ca, .bool br, .bool off, .int .i64 ops] 26)).alloc (.cells #[.slice om t.1.length cm, .slice ob lb cb] 30)) := ((Mem.refl w).alloc _).alloc _
  have hC := (Blk.new w #[.slice oa bs.length ca, .bool br, .bool off, .int .i64 ops] 26).alloc (.cells #[.slice om t.1.length cm, .slice ob lb cb] 30)
  have hT := Blk.new (w.alloc (.cells #[.slice oa bs.length ca, .bool br, .bool off, .int .i64 ops] 26)) #[.slice om t.1.length cm, .slice ob lb cb] 30
  rw [World.size_alloc] at hT
  have hM := World.ownsMap_made ((w.alloc (.cells #[.slice oa bs.length ca, .bool br, .bool off, .int .i64 ops] 26)).alloc (.cells #[.slice om t.1.length cm, .slice ob lb cb] 30)) Try.prog 3 (unitElem (H := Unit))
  have t0 := (hT.alloc (.map #[] 0)).cell (j := 0) rfl
  have HB := hide hb
  have H1 := hide h1
  have HWF := hide hwf
  have HDS := hide hds
  clear hb h1 hwf hds
  go_enter Try.func24, Try.ntmps24
  go_wp2_with fail
  obtain ⟨w2, hw2⟩ : ∃ w2, ((w.alloc (.cells #[.slice oa bs.length ca, .bool br, .bool off, .int .i64 ops] 26)).alloc (.cells #[.slice om t.1.length cm, .slice ob lb cb] 30)) = w2 := ⟨_, rfl⟩
  rw [hw2] at hm0 hC hT hM ⊢
  have hsz2 : w2.heap.size = w.heap.size + 1 + 1 := by rw [← hw2]; simp
  clear hw2 t0
  rw [hsz2] at hM
  have m2 : Mem w2 (w2.alloc (.map #[] 0)) := (Mem.refl w2).alloc _
  have hs2 := mem_le hm0
  go_loopw [19] (fun i wr => ∃ k : Nat, k ≤ t.1.length ∧ i = .int .i64 k ∧ wr.ownsMap Try.prog 3 (unitElem (H := Unit)) (w.heap.size + 1 + 1) k (setT (hadN bs t.1 k)) ∧ Mem w2 wr) (fun i _ => t.1.length - (intOf i).toNat)
  case atStart => exact ⟨0, Nat.zero_le _, rfl, hM, m2⟩
  case round =>
    clear hM m2
    obtain ⟨k, hk, rfl, hMk, hmr⟩ := hrel
    by_cases hlt : k < t.1.length
    · have hlt' : (k : Int) < (t.1.length : Int) := by omega
      have hk0 : (0 : Int) ≤ (k : Int) := by omega
      obtain ⟨zb, zo, rfl, hzc⟩ := (H1.out.mem (hm0.trans hmr)).at (by omega)
      have d0 := hzc k hlt
      clear hzc
      have hCr := hC.mem hmr
      have c0 := hCr.cell (j := 0) rfl
      have c1 := hCr.cell (j := 1) rfl
      have c2 := hCr.cell (j := 2) rfl
      have c3 := hCr.cell (j := 3) rfl
      have HYes := hide (fun h => hadN_yes (bs := bs) (l := t.1) hlt h)
      have HNo := hide (fun h => hadN_no (bs := bs) (l := t.1) hlt h)
      have hzw : wfZ (t.1.getD k 0) := HWF.out.1 _ (by rw [List.getD_eq_getElem?_getD, List.getElem?_eq_getElem hlt]; exact List.getElem_mem hlt)
      generalize t.1.getD k 0 = z at *
      have hzw2 := hzw
      unfold wfZ at hzw2
      have HG := hide (codePage _ _ bs br off ops z wr (HB.out.mem (hm0.trans hmr)) hzw2.2)
      have hkey : keyOf Try.prog 3 (.int .i64 z) = some (.int .i64 z) := keyOf_int_mk Try.underlying3 (wfZ_lit hzw)
      generalize pageC bs z = pc at *
      obtain ⟨⟨pw, pd, pt⟩, pb⟩ := pc
      simp only [] at HYes HNo
      clear hzw hzw2
      cases pb with
      | true =>
        have HE := hide (HYes.out rfl)
        go_wp2_with fail
        refine HG.out.mono ?_
        rintro e w3 ⟨rfl, m3⟩
        have m4 : Mem wr (w3.alloc (.cells #[.bool pw, .string pd, .string pt] 36)) := Mem.alloc m3 _
        have hM4 := map_mem hMk m4
        go_wp2_with (at_mapUpdate; refine wpList_mapUpdate_own _ rfl _ _ _ 103 rfl 3 104 law_int Try.underlying103 (unitElem (H := Unit)) (w.heap.size + 1 + 1) k _ rfl hM4 (by unfold maxLen; omega) _ _ _ rfl rfl hkey _ [] unitElem_mk ?_; intro w1 hown1 hgrow1)
        have m1 : Mem w2 w1 := Below.grown (hmr.trans m4) hgrow1 (mem_le (hmr.trans m4)) (fun k hk => by cases hk; omega)
        go_roundw
        case rel => exact ⟨k + 1, by omega, by go_num, by rw [HE.out, setT_snoc]; exact hown1, m1⟩
        case measure => simp [intOf]; omega
      | false =>
        have HE := hide (HNo.out rfl)
        go_wp2_with fail
        refine HG.out.mono ?_
        rintro e w3 ⟨rfl, m3⟩
        have m4 : Mem wr (w3.alloc (.cells #[.bool pw, .string pd, .string pt] 36)) := Mem.alloc m3 _
        have hM4 := map_mem hMk m4
        go_wp2_with fail
        go_roundw
        case rel => exact ⟨k + 1, by omega, by go_num, by rw [HE.out]; exact hM4.mono (by omega), hmr.trans m4⟩
        case measure => simp [intOf]; omega
    · have hke : k = t.1.length := by omega
      subst hke
      have hlt' : ¬ ((t.1.length : Int) < (t.1.length : Int)) := by omega
      have hsz := had_size bs t.1 t.1.length
      have hmem := fun z => had_mem bs t.1 z
      have hsk := intKeys_size (setT_all _ (hadN_isI (bs := bs) (l := t.1) (k := t.1.length)))
      generalize setT (hadN bs t.1 t.1.length) = D at *
      obtain ⟨nD, hnD⟩ : ∃ nD, Maps.size D = nD := ⟨_, rfl⟩
      rw [hnD] at hsz hsk
      have hmk := run_makeSlots nD (by omega)
      go_wp2_with (at_len; refine wpList_len_own _ rfl _ 103 rfl 3 104 Try.underlying103 (unitElem (H := Unit)) (w.heap.size + 1 + 1) _ D rfl hMk ?_; rw [hnD])
      clear hmk hmm
      have mS : Mem wr (wr.alloc (.cells (madeCells #[.int .i64 0, .int .i64 0, .int .i64 0] (nD * 3)) 102)) := (Mem.refl wr).alloc _
      have hMs := map_mem hMk mS
      have hwr : w.heap.size ≤ wr.heap.size := mem_le (hm0.trans hmr)
      have hSl : SlotsAt (fun x => w.heap.size ≤ x) (wr.alloc (.cells (madeCells #[.int .i64 0, .int .i64 0, .int .i64 0] (nD * 3)) 102)) (.slice (some ⟨wr.heap.size, 0, none⟩) nD nD) (emptyT nD) := by
        have := (made_slots wr nD).slots (S := fun x => w.heap.size ≤ x) (by rw [empty_len]; unfold maxLen; omega) hwr nD
        rwa [empty_len] at this
      have hmS := (hm0.trans hmr).trans mS
      have hCS := (hC.mem hmr).mem mS
      generalize hws : (wr.alloc (.cells (madeCells #[.int .i64 0, .int .i64 0, .int .i64 0] (nD * 3)) 102)) = ws at *
      clear hws mS hMk hmr
      generalize wr.heap.size = gS at *
      refine (codeKeys (some (w.heap.size + 1 + 1)) ws).mono ?_
      rintro e wk ⟨rfl, rfl⟩
      have HST := hide (codeSorted (w.heap.size + 1 + 1) _ D (unitElem (H := Unit)) ws hMs (by omega))
      clear hMs
      go_wp2_with fail
      refine HST.out.mono ?_
      rintro e w5 ⟨v5, ss, rfl, hperm, hown, hb5⟩
      have m5 : Mem ws w5 := hb5
      have hSl5 := hSl.mem m5
      have hm5 := hmS.trans m5
      have hC5 := hCS.mem m5
      have hxl : (sortZ ss).length = nD := by rw [sortZ_len, hperm.length_eq, hsk]
      have HX := hide (fun z => (sortZ_mem (l := ss) (z := z)).trans ((hperm.mem_iff).trans (hmem z)))
      have hin := IntsIn.of_owns hown
      have HP0 := hide (PutInv.start bs (sortZ ss))
      rw [hxl] at HP0
      clear HST hperm hown hb5 hmem hsk hSl hCS hmS m5
      generalize sortZ ss = xs at *
      subst hxl
      obtain ⟨o5, c5, rfl⟩ := hin.ints.shape
      have HIN := hide hin.ints
      clear hin
      go_wp2_with fail
      go_loopw [10, 41] (fun a i wr => ∃ (k : Nat) (sl : List SlotT), k ≤ xs.length ∧ i = .int .i64 k ∧ Hid (PutInv bs xs k sl) ∧ SlotsAt (fun x => w.heap.size ≤ x) wr a sl ∧ Mem w5 wr) (fun _ i _ => xs.length - (intOf i).toNat)
      case atStart => exact ⟨0, _, Nat.zero_le _, rfl, HP0, hSl5, Mem.refl _⟩
      case round =>
        clear HP0 hSl5
        obtain ⟨k, sl, hk, rfl, HP, hSk, hmr⟩ := hrel
        by_cases hlt : k < xs.length
        · have hlt' : (k : Int) < (xs.length : Int) := by omega
          have hk0 : (0 : Int) ≤ (k : Int) := by omega
          have hslen : sl.length ≤ 1000 := by rw [HP.out.1]; omega
          obtain ⟨zb, zo, rfl, hzc⟩ := (HIN.out.mem hmr).at (by omega)
          have d0 := hzc k hlt
          clear hzc
          have hCr := hC5.mem hmr
          have c0 := hCr.cell (j := 0) rfl
          have c1 := hCr.cell (j := 1) rfl
          have c2 := hCr.cell (j := 2) rfl
          have c3 := hCr.cell (j := 3) rfl
          have HPS := hide (HP.out.step hlt)
          have hzt := ((HX.out (xs.getD k 0)).1 (by rw [List.getD_eq_getElem?_getD, List.getElem?_eq_getElem hlt]; exact List.getElem_mem hlt)).1
          have hzw : wfZ (xs.getD k 0) := HWF.out.1 _ hzt
          clear hzt
          generalize xs.getD k 0 = z at *
          unfold wfZ at hzw
          have HG := hide (codePage _ _ bs br off ops z wr (HB.out.mem (hm5.trans hmr)) hzw.2)
          have HDZ := hide (data_size HDS.out z)
          unfold prT at HPS
          generalize pageC bs z = pc at *
          obtain ⟨⟨pw, pd, pt⟩, pb⟩ := pc
          simp only [] at HPS HDZ
          clear hzw
          go_wp2_with fail
          refine HG.out.mono ?_
          rintro e w6 ⟨rfl, m6⟩
          have m7 : Mem wr (w6.alloc (.cells #[.bool pw, .string pd, .string pt] 36)) := Mem.alloc m6 _
          have hY := Blk.new w6 #[.bool pw, .string pd, .string pt] 36
          have y1 := hY.cell (j := 1) rfl
          have HPT := hide (Crc.crcPrint pd (w6.alloc (.cells #[.bool pw, .string pd, .string pt] 36)) HDZ.out)
          obtain ⟨oz, cz, rfl⟩ := hSk.shape
          have HPU := hide (codePut _ _ sl (printT pd) z _ (hSk.mem m7) hslen)
          have hPe : Hid (printT pd = ((Crc.sum pd.data.toList % 16 : Nat) : Int)) := rfl
          go_wp2_with fail
          refine HPT.out.mono ?_
          rintro e w7 ⟨rfl, rfl⟩
          rw [← hPe.out]
          go_wp2_with fail
          refine HPU.out.mono ?_
          rintro e w8 ⟨⟨v8, rfl, hS8⟩, m8⟩
          have hm8 := (hmr.trans m7).trans m8
          have hw7 := mem_le (hm5.trans (hmr.trans m7))
          have hS9 := hS8.mono (S' := fun x => w.heap.size ≤ x) fun g hg _ => by rcases hg with h | h; exact h; exact Nat.le_trans hw7 h
          clear y1 hY HPT HPU hSk HG
          go_wp2_with fail
          go_roundw
          case rel => exact ⟨k + 1, _, by omega, by go_num, HPS, hS9, hm8⟩
          case measure => simp [intOf]; omega
        · have hke : k = xs.length := by omega
          subst hke
          have hlt' : ¬ ((xs.length : Int) < (xs.length : Int)) := by omega
          have HD := hide (HP.out.done (by omega) HX.out)
          go_wp2_with fail
          go_ret
          exact ⟨⟨_, rfl, sl, hSk, HD.out⟩, hm5.trans hmr⟩
end Go.Proofs.Ytedopplldpcinaa.Plan
/-
  Layer 12, the program: Twin.
-/
namespace Go.Proofs.Ytedopplldpcinaa.Plan
open Go.RowKit Go.Maps Go.Proofs.Ytedopplldpcinaa.Nand Go.Proofs.Ytedopplldpcinaa.Scan Go.Proofs.Ytedopplldpcinaa.Live Go.Proofs.Ytedopplldpcinaa.Replay Go.Proofs.Ytedopplldpcinaa.Index

theorem find_few (l : List SlotT) (q : Int) : (findT l q).length ≤ l.length := by
  have H : ∀ k, (slotsN l q k).length ≤ k := by
    intro k
    induction k with
    | zero => simp [slotsN]
    | succ k ih =>
      unfold slotsN
      split
      · rw [List.length_append, List.length_singleton]; omega
      · omega
  unfold findT slotsT
  rw [List.length_map]
  split
  · simp
  · exact H l.length
def okF (bs : List BlockT) (t : TableT) (d : ByteArray) (p : Int) : Prop := (pageC bs p).1.2.1 = d ∧ (which t.1 p).length < 8
set_option maxHeartbeats 8000000 in
set_option maxRecDepth 100000 in
theorem codeTwin : TwinSpec 8 := by
  intro S vb bs br off ops t om ob cm cb d w hb h1 h2 hl1 hl2 hwf hds hdd
  obtain ⟨oa, ca, rfl⟩ := hb.shape
  have hm0 : Mem w ((w.alloc (.cells #[.slice oa bs.length ca, .bool br, .bool off, .int .i64 ops] 26)).alloc (.cells #[.slice om t.1.length cm, .slice ob t.2.length cb] 30)) := ((Mem.refl w).alloc _).alloc _
  have hC := (Blk.new w #[.slice oa bs.length ca, .bool br, .bool off, .int .i64 ops] 26).alloc (.cells #[.slice om t.1.length cm, .slice ob t.2.length cb] 30)
  have hT := Blk.new (w.alloc (.cells #[.slice oa bs.length ca, .bool br, .bool off, .int .i64 ops] 26)) #[.slice om t.1.length cm, .slice ob t.2.length cb] 30
  rw [World.size_alloc] at hT
  have HB := hide hb
  have H1 := hide h1
  have HWF := hide hwf
  simp only [chipV]
  have c0 := hC.cell (j := 0) rfl
  have c1 := hC.cell (j := 1) rfl
  have c2 := hC.cell (j := 2) rfl
  have c3 := hC.cell (j := 3) rfl
  have t0 := hT.cell (j := 0) rfl
  have t1 := hT.cell (j := 1) rfl
  clear hb h1 hwf
  go_enter Try.func8, Try.ntmps8
  go_wp2_with fail
  obtain ⟨w2, hw2⟩ : ∃ w2, ((w.alloc (.cells #[.slice oa bs.length ca, .bool br, .bool off, .int .i64 ops] 26)).alloc (.cells #[.slice om t.1.length cm, .slice ob t.2.length cb] 30)) = w2 := ⟨_, rfl⟩
  rw [hw2] at hm0 hC hT ⊢
  clear hw2 c0 c1 c2 c3 t0 t1
  refine (codePrints S oa ca bs br off ops t om ob cm t.2.length cb w2 (HB.out.mem hm0) (H1.out.mem hm0) hl1 HWF.out hds).mono ?_
  rintro e w3 ⟨⟨v3, sl, rfl, hS3, hIx⟩, m3⟩
  have HIX := hide hIx.2
  have hslen := hIx.1
  obtain ⟨oz, cz, rfl⟩ := hS3.shape
  have HPT := hide (Crc.crcPrint d w3 hdd)
  have hPe : Hid (printT d = ((Crc.sum d.data.toList % 16 : Nat) : Int)) := rfl
  have HFI := hide (codeFindOwn_of having_tells _ _ sl (printT d) w3 hS3 hslen)
  clear hIx hds
  go_wp2_with fail
  refine HPT.out.mono ?_
  rintro e w4 ⟨rfl, rfl⟩
  rw [← hPe.out]
  go_wp2_with fail
  refine HFI.out.mono ?_
  rintro e w5 ⟨⟨v5, rfl, hown⟩, m5⟩
  have hfl := find_few sl (printT d)
  have hin5 := Ints.of_owns hown
  obtain ⟨o5, c5, rfl⟩ := hin5.shape
  have HSO := hide (codeSort w4.heap.size _ (findT sl (printT d)) w5 hown (mem_le m5) (by omega))
  have HX : Hid (∀ p, p ∈ sortZ (findT sl (printT d)) ↔ p ∈ t.1 ∧ (pageC bs p).2 = true ∧ prT bs p = printT d) := fun p => sortZ_mem.trans (HIX.out _ _ (printT_nn d))
  have HSL := hide (sortZ_le (findT sl (printT d)))
  have hln := sortZ_len (findT sl (printT d))
  have hm5 := (hm0.trans m3).trans m5
  clear HFI HPT hPe HIX hS3 hin5 hown
  go_wp2_with fail
  refine HSO.out.mono ?_
  rintro e w6 ⟨rfl, hown, b6⟩
  have hm6 : Mem w2 w6 := Below.trans m3 (Below.trans (Below.mono (show Below w4.heap.size w4 w5 from m5) (mem_le m3)) (Below.mono b6 (mem_le m3)))
  have hC6 := hC.mem hm6
  have hT6 := hT.mem hm6
  have hmw6 := hm0.trans hm6
  have hin := Ints.of_owns hown
  have hxl : (sortZ (findT sl (printT d))).length ≤ 1000 := by omega
  generalize findT sl (printT d) = l at *
  rw [← hln] at hin ⊢
  generalize sortZ l = xs at *
  have HIN := hide hin
  clear HSO hown b6 hm5 m3 m5 hin hln hfl hC hT hm6
  go_wp2_with fail
  go_loopw [22] (fun i wr => ∃ k : Nat, k ≤ xs.length ∧ i = .int .i64 k ∧ Hid (∀ i, i < k → ¬ okF bs t d (xs.getD i 0)) ∧ Mem w6 wr) (fun i _ => xs.length - (intOf i).toNat)
  case atStart => exact ⟨0, Nat.zero_le _, rfl, fun i hi => absurd hi (Nat.not_lt_zero _), Mem.refl _⟩
  case round =>
    obtain ⟨k, hk, rfl, HNO, hmr⟩ := hrel
    by_cases hlt : k < xs.length
    · have hlt' : (k : Int) < (xs.length : Int) := by omega
      have hk0 : (0 : Int) ≤ (k : Int) := by omega
      obtain ⟨zb, zo, rfl, hzc⟩ := (HIN.out.mem hmr).at (by omega)
      have d0 := hzc k hlt
      clear hzc
      have hCr := hC6.mem hmr
      have c0 := hCr.cell (j := 0) rfl
      have c1 := hCr.cell (j := 1) rfl
      have c2 := hCr.cell (j := 2) rfl
      have c3 := hCr.cell (j := 3) rfl
      have HIT := hide (fun h => twin_here HSL.out HX.out hlt HNO.out h)
      have HNX : Hid (¬ okF bs t d (xs.getD k 0) → ∀ i, i < k + 1 → ¬ okF bs t d (xs.getD i 0)) := by
        intro hn i hi
        by_cases e : i = k
        · subst e; exact hn
        · exact HNO.out i (by omega)
      have hzw : wfZ (xs.getD k 0) := HWF.out.1 _ ((HX.out (xs.getD k 0)).1 (by rw [List.getD_eq_getElem?_getD, List.getElem?_eq_getElem hlt]; exact List.getElem_mem hlt)).1
      generalize xs.getD k 0 = z at *
      unfold wfZ at hzw
      have HG := hide (codePage _ _ bs br off ops z wr (HB.out.mem (hmw6.trans hmr)) hzw.2)
      unfold okF at HNX
      generalize pageC bs z = pc at *
      obtain ⟨⟨pw, pd, pt⟩, pb⟩ := pc
      simp only [] at HIT HNX
      clear hzw
      go_wp2_with fail
      refine HG.out.mono ?_
      rintro e w7 ⟨rfl, m7⟩
      have m8 : Mem wr (w7.alloc (.cells #[.bool pw, .string pd, .string pt] 36)) := Mem.alloc m7 _
      have hY := Blk.new w7 #[.bool pw, .string pd, .string pt] 36
      have y1 := hY.cell (j := 1) rfl
      have hTr := hT6.mem (hmr.trans m8)
      have t0 := hTr.cell (j := 0) rfl
      have t1 := hTr.cell (j := 1) rfl
      have HO := hide (codeOwners t om ob cm cb z _ (H1.out.mem ((hmw6.trans hmr).trans m8)) hl1)
      by_cases hpd : pd = d
      · subst hpd
        go_wp2_with fail
        refine HO.out.mono ?_
        rintro e w9 ⟨⟨vw, rfl, io⟩, m9⟩
        obtain ⟨ow, cw, rfl⟩ := io.ints.shape
        have hwl := which_len t.1 z
        by_cases h8 : (which t.1 z).length < 8
        · have h8' : ((which t.1 z).length : Int) < 8 := by omega
          have HE := hide (HIT.out ⟨trivial, h8⟩)
          go_wp2_with fail
          (try go_ret)
          exact ⟨by rw [HE.out]; rfl, ((hmw6.trans hmr).trans m8).trans m9⟩
        · have h8' : ¬ (((which t.1 z).length : Int) < 8) := by omega
          have HE := hide (HNX.out (fun h => h8 h.2))
          go_wp2_with fail
          go_roundw
          case rel => exact ⟨k + 1, by omega, by go_num, HE, (hmr.trans m8).trans m9⟩
          case measure => simp [intOf]; omega
      · have HE := hide (HNX.out (fun h => hpd h.1))
        have hpl : (pd.toList == d.toList) = false := by rw [beq_eq_false_iff_ne]; intro e; exact hpd (text_inj e)
        have hpn : ¬ pd.toList = d.toList := fun e => hpd (text_inj e)
        go_wp2_with fail
        go_roundw
        case rel => exact ⟨k + 1, by omega, by go_num, HE, hmr.trans m8⟩
        case measure => simp [intOf]; omega
    · have hke : k = xs.length := by omega
      subst hke
      have hlt' : ¬ ((xs.length : Int) < (xs.length : Int)) := by omega
      have HE := hide (twin_nowhere HX.out HNO.out)
      go_wp2_with fail
      go_ret
      exact ⟨by rw [HE.out]; rfl, hmw6.trans hmr⟩
end Go.Proofs.Ytedopplldpcinaa.Plan
