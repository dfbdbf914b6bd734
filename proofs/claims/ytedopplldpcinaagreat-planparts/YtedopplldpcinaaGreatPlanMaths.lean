/-
  PlanTwinMath, PlanKeysMath, PlanKeysRight, PlanCounts: in one text (merge.json).
-/
import Derived.Test.YtedopplldpcinaaGreatPlanLow
import Derived.Test.YtedopplldpcinaaGreatMathLow
/-
  Layer 12: what a twin is.
-/
namespace Go.Proofs.YtedopplldpcinaaGreat.Plan
open Go.Proofs.YtedopplldpcinaaGreat.Nand Go.Proofs.YtedopplldpcinaaGreat.Scan Go.Proofs.YtedopplldpcinaaGreat.Live Go.Proofs.YtedopplldpcinaaGreat.Replay

def okT (bs : List BlockT) (t : TableT) (d : ByteArray) (m : Int) : Prop := (pageC bs m).2 = true ∧ (pageC bs m).1.2.1 = d ∧ (which t.1 m).length < 8
theorem page_pos {bs : List BlockT} {m : Int} (h : (pageC bs m).2 = true) : 0 ≤ m := by
  apply Decidable.byContradiction
  intro hn
  rw [pageC_neg (by omega)] at h
  cases h
theorem page_le {bs : List BlockT} {m : Int} (h : (pageC bs m).2 = true) : m ≤ 1000 := by
  unfold pageC at h
  split at h
  · rename_i hc; omega
  · cases h
theorem twinN_is (bs : List BlockT) (t : TableT) (d : ByteArray) (k : Nat) :
    (twinN bs t d k = -1 ∧ ∀ i, i < k → ¬ okT bs t d (t.1.getD i 0)) ∨ (0 ≤ twinN bs t d k ∧ (∃ i, i < k ∧ t.1.getD i 0 = twinN bs t d k) ∧ okT bs t d (twinN bs t d k)) := by
  induction k with
  | zero => exact .inl ⟨rfl, fun i hi => by omega⟩
  | succ k ih =>
    cases hb : twinB bs t d (twinN bs t d k) (t.1.getD k 0) with
    | true =>
      have h := of_decide_eq_true (show decide _ = true from hb)
      rw [twin_yes hb]
      exact .inr ⟨page_pos h.1, ⟨k, by omega, rfl⟩, h.1, h.2.1, h.2.2.1⟩
    | false =>
      have h := of_decide_eq_false (show decide _ = false from hb)
      rw [twin_no hb]
      rcases ih with ⟨h1, h2⟩ | ⟨h1, ⟨i, h2, h3⟩, h4⟩
      · refine .inl ⟨h1, fun i hi hok => ?_⟩
        by_cases e : i = k
        · subst e; exact h ⟨hok.1, hok.2.1, hok.2.2, .inl (by omega)⟩
        · exact h2 i (by omega) hok
      · exact .inr ⟨h1, ⟨i, by omega, h3⟩, h4⟩
theorem twin_none {bs : List BlockT} {t : TableT} {d : ByteArray} (h : twinT bs t d < 0) (i : Nat) (hi : i < t.1.length) : ¬ ((pageC bs (t.1.getD i 0)).2 = true ∧ (pageC bs (t.1.getD i 0)).1.2.1 = d ∧ (which t.1 (t.1.getD i 0)).length < 8) := by
  rcases twinN_is bs t d t.1.length with ⟨_, h2⟩ | ⟨h1, _, _⟩
  · exact h2 i hi
  · exact absurd h (by unfold twinT; omega)
theorem twin_some {bs : List BlockT} {t : TableT} {d : ByteArray} (h : ¬ twinT bs t d < 0) : (pageC bs (twinT bs t d)).2 = true ∧ (pageC bs (twinT bs t d)).1.2.1 = d ∧ 0 < (which t.1 (twinT bs t d)).length ∧ (which t.1 (twinT bs t d)).length < 8 := by
  rcases twinN_is bs t d t.1.length with ⟨h1, _⟩ | ⟨h1, ⟨i, h2, h3⟩, h4⟩
  · exact absurd (show twinT bs t d < 0 by unfold twinT; omega) h
  · refine ⟨h4.1, h4.2.1, ?_, h4.2.2⟩
    rw [which_pos]
    refine ⟨h1, hasL_iff.2 ?_⟩
    show twinN bs t d t.1.length ∈ t.1
    rw [← h3, List.getD_eq_getElem?_getD, List.getElem?_eq_getElem h2]
    exact List.getElem_mem h2
end Go.Proofs.YtedopplldpcinaaGreat.Plan
/-
  Layer 12: in which records, and how often, a sector stands.
-/
namespace Go.Proofs.YtedopplldpcinaaGreat.Plan
open Go.Proofs.YtedopplldpcinaaGreat.Nand Go.Proofs.YtedopplldpcinaaGreat.Scan Go.Proofs.YtedopplldpcinaaGreat.Live Go.Proofs.YtedopplldpcinaaGreat.Replay

def keysL (ws : List WriteT) : List Int := ws.flatMap fun w => w.2.2.2.1
def inB (b z : Int) : Bool := decide (0 ≤ z ∧ z / 16 = b)
theorem keysL_append (a b : List WriteT) : keysL (a ++ b) = keysL a ++ keysL b := by simp [keysL]
theorem keysL_data (d : ByteArray) (ls : List (List Int)) : keysL (ls.map (dataW d)) = ls.flatten := by
  induction ls with
  | nil => rfl
  | cons l ls ih => simp only [keysL, List.map_cons, List.flatMap_cons, List.flatten_cons] at ih ⊢; rw [ih]; rfl
theorem keysL_change (t : TableT) (ls : List (List Int)) : keysL (ls.map (changeW t)) = ls.flatten := by
  induction ls with
  | nil => rfl
  | cons l ls ih => simp only [keysL, List.map_cons, List.flatMap_cons, List.flatten_cons] at ih ⊢; rw [ih]; rfl
theorem keysL_page (bs : List BlockT) (t : TableT) (b : Int) (p : Nat) : keysL (pageMoves bs t b p) = which t.1 (place b p) ++ apartL t (which t.2 (place b p)) b := by
  unfold pageMoves
  rw [keysL_append, keysL_data, keysL_change, partsL_flat, partsL_flat]
theorem count_which (l : List Int) (m : Int) (i k : Nat) : (whichN l m k).count (i : Int) = if i < k ∧ 0 ≤ m ∧ l.getD i 0 = m then 1 else 0 := by
  induction k with
  | zero => simp [whichN]
  | succ k ih =>
    by_cases h : 0 ≤ m ∧ l.getD k 0 = m
    · rw [whichN_yes h.1 h.2, List.count_append, ih]
      by_cases e : i = k
      · subst e
        rw [if_neg (by omega), if_pos ⟨by omega, h⟩]
        simp
      · have hc : List.count (i : Int) [(k : Int)] = 0 := by
          rw [List.count_eq_zero]
          intro hm
          rw [List.mem_singleton] at hm
          omega
        rw [hc, Nat.add_zero]
        by_cases h2 : i < k ∧ 0 ≤ m ∧ l.getD i 0 = m
        · rw [if_pos h2, if_pos ⟨by omega, h2.2⟩]
        · rw [if_neg h2, if_neg (fun h3 => h2 ⟨by omega, h3.2⟩)]
    · rw [whichN_no h, ih]
      by_cases h2 : i < k ∧ 0 ≤ m ∧ l.getD i 0 = m
      · rw [if_pos h2, if_pos ⟨by omega, h2.2⟩]
      · rw [if_neg h2, if_neg (fun h3 => h2 ⟨by
          have : i ≠ k := fun e => by subst e; exact h h3.2
          omega, h3.2⟩)]
theorem place_in {b : Int} (h0 : 0 ≤ b) (h1 : b < 32) {p : Nat} (hp : p < 16) : place b p = 16 * b + p := by
  unfold place
  rw [if_neg (by omega)]
  omega
/-- of the first k pages: how often the sector i stands in the records of pages -/
theorem count_moves {bs : List BlockT} {t : TableT} {b : Int} (h0 : 0 ≤ b) (h1 : b < 32) (i : Nat) (hi : i < t.1.length) (hl : t.2.length = t.1.length) (k : Nat) (hk : k ≤ 16) :
    (keysL (movesN bs t b k)).count (i : Int) =
      (if inB b (t.1.getD i 0) = true ∧ t.1.getD i 0 < 16 * b + k then 1 else 0) + (if inB b (t.1.getD i 0) = false ∧ inB b (t.2.getD i 0) = true ∧ t.2.getD i 0 < 16 * b + k then 1 else 0) := by
  have hT : hasT t (i : Int) = t.1.getD i 0 := by unfold hasT; rw [if_pos (by omega), Int.toNat_natCast]
  induction k with
  | zero =>
    have e1 : ¬ (inB b (t.1.getD i 0) = true ∧ t.1.getD i 0 < 16 * b + (0 : Nat)) := by
      rintro ⟨h, h2⟩; have := of_decide_eq_true (show decide _ = true from h); omega
    have e2 : ¬ (inB b (t.1.getD i 0) = false ∧ inB b (t.2.getD i 0) = true ∧ t.2.getD i 0 < 16 * b + (0 : Nat)) := by
      rintro ⟨_, h, h2⟩; have := of_decide_eq_true (show decide _ = true from h); omega
    rw [if_neg e1, if_neg e2]
    simp [movesN, keysL]
  | succ k ih =>
    rw [movesN_succ, keysL_append, List.count_append, ih (by omega), keysL_page, List.count_append, place_in h0 h1 (by omega)]
    have ca : (which t.1 (16 * b + (k : Int))).count (i : Int) = if t.1.getD i 0 = 16 * b + k then 1 else 0 := by
      unfold which
      rw [count_which]
      by_cases h : t.1.getD i 0 = 16 * b + k
      · rw [if_pos h, if_pos ⟨hi, by omega, h⟩]
      · rw [if_neg h, if_neg (fun h3 => h h3.2.2)]
    have cb : (apartL t (which t.2 (16 * b + (k : Int))) b).count (i : Int) = if inB b (t.1.getD i 0) = false ∧ t.2.getD i 0 = 16 * b + k then 1 else 0 := by
      unfold apartL
      by_cases ha : apartB t b (i : Int) = true
      · rw [List.count_filter ha]
        have hin : inB b (t.1.getD i 0) = false := by
          have := of_decide_eq_true (show decide _ = true from ha)
          rw [hT] at this
          exact decide_eq_false (by omega)
        unfold which
        rw [count_which]
        by_cases h : t.2.getD i 0 = 16 * b + k
        · rw [if_pos ⟨by omega, by omega, h⟩, if_pos ⟨hin, h⟩]
        · rw [if_neg (fun h3 => h h3.2.2), if_neg (fun h3 => h h3.2)]
      · have hin : inB b (t.1.getD i 0) = true := by
          have hq : ¬ (hasT t (i : Int) < 0 ∨ hasT t (i : Int) / 16 ≠ b) := fun hh => ha (decide_eq_true hh)
          rw [hT] at hq
          exact decide_eq_true (by omega)
        have hc : List.count (i : Int) ((which t.2 (16 * b + (k : Int))).filter (apartB t b)) = 0 := by
          rw [List.count_eq_zero]
          intro hm
          exact ha (List.mem_filter.1 hm).2
        rw [hc, if_neg (by rw [hin]; rintro ⟨h, _⟩; cases h)]
    rw [ca, cb]
    cases hA : inB b (t.1.getD i 0) with
    | true =>
      have hA' := of_decide_eq_true (show decide _ = true from hA)
      simp only [true_and, Bool.true_eq_false, false_and, if_false, Nat.add_zero]
      by_cases e1 : t.1.getD i 0 < 16 * b + (k : Int)
      · rw [if_pos e1, if_neg (by omega), if_pos (by omega)]
      · by_cases e2 : t.1.getD i 0 = 16 * b + (k : Int)
        · rw [if_neg e1, if_pos e2, if_pos (by omega)]
        · rw [if_neg e1, if_neg e2, if_neg (by omega)]
    | false =>
      have hA' := of_decide_eq_false (show decide _ = false from hA)
      simp only [Bool.false_eq_true, false_and, if_false, true_and, Nat.zero_add]
      have e3 : ¬ (t.1.getD i 0 = 16 * b + (k : Int)) := by omega
      rw [if_neg e3, Nat.zero_add]
      cases hB : inB b (t.2.getD i 0) with
      | true =>
        have hB' := of_decide_eq_true (show decide _ = true from hB)
        simp only [true_and]
        by_cases e1 : t.2.getD i 0 < 16 * b + (k : Int)
        · rw [if_pos e1, if_neg (by omega), if_pos (by omega)]
        · by_cases e2 : t.2.getD i 0 = 16 * b + (k : Int)
          · rw [if_neg e1, if_pos e2, if_pos (by omega)]
          · rw [if_neg e1, if_neg e2, if_neg (by omega)]
      | false =>
        have hB' := of_decide_eq_false (show decide _ = false from hB)
        simp only [Bool.false_eq_true, false_and, if_false, Nat.zero_add]
        rw [if_neg (by omega)]
/-- in just one record, if a place of it is the block's -/
theorem count_all {bs : List BlockT} {t : TableT} {b : Int} (h0 : 0 ≤ b) (h1 : b < 32) (i : Nat) (hi : i < t.1.length) (hl : t.2.length = t.1.length) :
    (keysL (movesT bs t b)).count (i : Int) = if inB b (t.1.getD i 0) = true ∨ inB b (t.2.getD i 0) = true then 1 else 0 := by
  unfold movesT
  rw [if_pos ⟨h0, h1⟩, count_moves h0 h1 i hi hl 16 (by omega)]
  cases hA : inB b (t.1.getD i 0) with
  | true =>
    have hA' := of_decide_eq_true (show decide _ = true from hA)
    rw [if_pos ⟨rfl, by omega⟩, if_neg (by rintro ⟨h, _⟩; cases h), if_pos (.inl rfl)]
  | false =>
    cases hB : inB b (t.2.getD i 0) with
    | true =>
      have hB' := of_decide_eq_true (show decide _ = true from hB)
      rw [if_neg (by rintro ⟨h, _⟩; cases h), if_pos ⟨rfl, rfl, by omega⟩, if_pos (.inr rfl)]
    | false =>
      rw [if_neg (by rintro ⟨h, _⟩; cases h), if_neg (by rintro ⟨_, h, _⟩; cases h), if_neg (by rintro (h | h) <;> cases h)]
end Go.Proofs.YtedopplldpcinaaGreat.Plan
/-
  Layer 12: the records of what is to be written are right.
-/
namespace Go.Proofs.YtedopplldpcinaaGreat.Plan
open Go.Proofs.YtedopplldpcinaaGreat.Nand Go.Proofs.YtedopplldpcinaaGreat.Scan Go.Proofs.YtedopplldpcinaaGreat.Live Go.Proofs.YtedopplldpcinaaGreat.Replay

theorem rise_of {last : Int} {l : List Int} (hp : l.Pairwise (· < ·)) (h : ∀ z ∈ l, last < z ∧ z < 64) : Tag.rise last l = true := by
  induction l generalizing last with
  | nil => rfl
  | cons a r ih =>
    rw [List.pairwise_cons] at hp
    have h1 := h a (List.mem_cons_self ..)
    simp only [Tag.rise, Bool.and_eq_true, decide_eq_true_eq]
    exact ⟨⟨h1.1, h1.2⟩, ih hp.2 fun z hz => ⟨hp.1 z hz, (h z (List.mem_cons_of_mem _ hz)).2⟩⟩
theorem places_of {l : List Int} (h : ∀ z ∈ l, -1 ≤ z ∧ z < 512) : Tag.places l = true := by
  induction l with
  | nil => rfl
  | cons a r ih =>
    have h1 := h a (List.mem_cons_self ..)
    simp only [Tag.places, Tag.place, Bool.and_eq_true, decide_eq_true_eq]
    exact ⟨⟨h1.1, h1.2⟩, ih fun z hz => h z (List.mem_cons_of_mem _ hz)⟩
/-- a part of a list that rises, from 0 to below 64, is right as keys -/
theorem keys_ok {l ks : List Int} (hp : l.Pairwise (· < ·)) (h : ∀ z ∈ l, 0 ≤ z ∧ z < 64) (hk : ks ∈ partsL l) : Tag.keysOk ks = true := by
  obtain ⟨h1, h8, hm⟩ := partsL_mem hk
  have hks : ks.Pairwise (· < ·) := by
    unfold partsL partsN at hk
    obtain ⟨i, _, rfl⟩ := List.mem_map.1 hk
    unfold chunk
    exact (hp.sublist (List.drop_sublist _ _)).sublist (List.take_sublist _ _)
  unfold Tag.keysOk
  rw [rise_of hks fun z hz => ⟨by have := (h z (hm z hz)).1; omega, (h z (hm z hz)).2⟩]
  simp only [Bool.and_true, Bool.and_eq_true, decide_eq_true_eq]
  omega
theorem which_in {l : List Int} {m z : Int} (h : z ∈ which l m) : 0 ≤ z ∧ z < (l.length : Int) := by
  obtain ⟨i, hi, rfl, _⟩ := which_mem.1 h
  omega
theorem hasT_in {t : TableT} {s : Int} (ht : ∀ z ∈ t.1, -1 ≤ z ∧ z < 512) (h0 : 0 ≤ s) : -1 ≤ hasT t s ∧ hasT t s < 512 := by
  unfold hasT
  split
  · rename_i h
    have hi : s.toNat < t.1.length := by omega
    rw [List.getD_eq_getElem?_getD, List.getElem?_eq_getElem hi]
    exact ht _ (List.getElem_mem hi)
  · omega
theorem moves_ok {bs : List BlockT} {t : TableT} {b : Int} (h1 : t.1.length ≤ 64) (h2 : t.2.length ≤ t.1.length) (ht : ∀ z ∈ t.1, -1 ≤ z ∧ z < 512) :
    ∀ w ∈ movesT bs t b, Tag.right w.2.1 w.2.2.1 w.2.2.2.1 w.2.2.2.2 = true ∧ w.2.2.2.1.length ≤ 8 ∧ ∀ z ∈ w.2.2.2.1, 0 ≤ z ∧ z < (t.1.length : Int) := by
  intro w hw
  unfold movesT at hw
  split at hw
  · unfold movesN at hw
    obtain ⟨p, _, hp⟩ := List.mem_flatMap.1 hw
    unfold pageMoves at hp
    rcases List.mem_append.1 hp with hp | hp
    · obtain ⟨ks, hk, rfl⟩ := List.mem_map.1 hp
      have hin : ∀ z ∈ which t.1 (place b p), 0 ≤ z ∧ z < (t.1.length : Int) := fun z hz => which_in hz
      have hko := keys_ok (whichN_rise t.1 (place b p) t.1.length) (fun z hz => ⟨(hin z hz).1, by have := (hin z hz).2; omega⟩) hk
      obtain ⟨_, h8, hm⟩ := partsL_mem hk
      refine ⟨?_, h8, fun z hz => hin z (hm z hz)⟩
      show Tag.right 1 0 ks [] = true
      unfold Tag.right
      rw [hko]
      simp [Tag.seqOk, Tag.valsOk]
    · obtain ⟨ks, hk, rfl⟩ := List.mem_map.1 hp
      have hin : ∀ z ∈ apartL t (which t.2 (place b p)) b, 0 ≤ z ∧ z < (t.1.length : Int) := fun z hz => by
        have := which_in (List.mem_filter.1 hz).1
        omega
      have hko := keys_ok ((whichN_rise t.2 (place b p) t.2.length).filter _) (fun z hz => ⟨(hin z hz).1, by have := (hin z hz).2; omega⟩) hk
      obtain ⟨_, h8, hm⟩ := partsL_mem hk
      refine ⟨?_, h8, fun z hz => hin z (hm z hz)⟩
      show Tag.right 2 0 ks (ks.map (hasT t)) = true
      unfold Tag.right
      rw [hko]
      have hpl : Tag.places (ks.map (hasT t)) = true := places_of fun z hz => by
        obtain ⟨s, hs, rfl⟩ := List.mem_map.1 hz
        exact hasT_in ht (hin s (hm s hs)).1
      unfold Tag.valsOk
      rw [if_neg (by decide), if_pos rfl, hpl]
      simp [Tag.seqOk]
  · cases hw
theorem moves_len {bs : List BlockT} {t : TableT} {b : Int} (h1 : t.1.length ≤ 64) (h2 : t.2.length ≤ t.1.length) : (movesT bs t b).length ≤ 16 * (9 + 9) := by
  unfold movesT
  split
  · have : ∀ k, (movesN bs t b k).length ≤ k * 18 := by
      intro k
      induction k with
      | zero => simp [movesN]
      | succ k ih =>
        rw [movesN_succ, List.length_append]
        have hp : (pageMoves bs t b k).length ≤ 18 := by
          unfold pageMoves partsL
          rw [List.length_append, List.length_map, List.length_map, partsN_len, partsN_len]
          have a1 := which_len t.1 (place b k)
          have a2 := which_len t.2 (place b k)
          have a3 := apartL_len t (which t.2 (place b k)) b
          unfold partN
          omega
        omega
    exact this 16
  · simp
end Go.Proofs.YtedopplldpcinaaGreat.Plan
/-
  Layer 12, the statements' own: counts of keys.
-/
namespace Go.Proofs.YtedopplldpcinaaGreat.Plan
open Go.Proofs.YtedopplldpcinaaGreat.Nand Go.Proofs.YtedopplldpcinaaGreat.Scan Go.Proofs.YtedopplldpcinaaGreat.Live Go.Proofs.YtedopplldpcinaaGreat.Replay

def incOne (cs : List Int) (x : Int) : List Int := cs.set x.toNat (cs.getD x.toNat 0 + 1)
def incK (n : Nat) (l : List Int) : List Int := l.foldl incOne (List.replicate n 0)
theorem foldl_inc_len (l : List Int) (cs : List Int) : (l.foldl incOne cs).length = cs.length := by
  induction l generalizing cs with
  | nil => rfl
  | cons x l ih => rw [List.foldl_cons, ih]; simp [incOne]
theorem incK_len (n : Nat) (l : List Int) : (incK n l).length = n := by unfold incK; rw [foldl_inc_len]; simp
theorem incK_snoc (n : Nat) (l : List Int) (s : Nat) : (incK n l).set s ((incK n l).getD s 0 + 1) = incK n (l ++ [(s : Int)]) := by
  unfold incK
  rw [List.foldl_append]
  show _ = incOne _ (s : Int)
  unfold incOne
  rw [Int.toNat_natCast]
theorem incK_count (n : Nat) (l : List Int) (h : ∀ z ∈ l, 0 ≤ z) (s : Nat) (hs : s < n) : (incK n l).getD s 0 = ((l.count (s : Int) : Nat) : Int) := by
  have key : ∀ (l : List Int) (cs : List Int), (∀ z ∈ l, 0 ≤ z) → s < cs.length → (l.foldl incOne cs).getD s 0 = cs.getD s 0 + ((l.count (s : Int) : Nat) : Int) := by
    intro l
    induction l with
    | nil => intro cs _ _; simp
    | cons x l ih =>
      intro cs hz hcs
      rw [List.foldl_cons, ih _ (fun z hz' => hz z (List.mem_cons_of_mem _ hz')) (by simp [incOne]; exact hcs), List.count_cons]
      have hx := hz x (List.mem_cons_self ..)
      by_cases e : x = (s : Int)
      · subst e
        unfold incOne
        rw [Int.toNat_natCast, List.getD_eq_getElem?_getD, List.getElem?_set_self hcs]
        simp
        omega
      · have hne : x.toNat ≠ s := by omega
        unfold incOne
        rw [List.getD_eq_getElem?_getD, List.getElem?_set_ne hne, ← List.getD_eq_getElem?_getD]
        have hb : (x == (s : Int)) = false := by simpa using e
        rw [hb]
        simp
  unfold incK
  rw [key l _ h (by simpa using hs)]
  simp [hs]
theorem keysL_take {ws : List WriteT} {i : Nat} (h : i < ws.length) : keysL (ws.take (i + 1)) = keysL (ws.take i) ++ ws[i].2.2.2.1 := by
  rw [List.take_succ_eq_append_getElem h, keysL_append]
  congr 1
  simp [keysL]
theorem pre_count {ws : List WriteT} {k : Nat} (h : k < ws.length) (i : Nat) (s : Int) : (keysL (ws.take k) ++ ws[k].2.2.2.1.take i).count s ≤ (keysL ws).count s := by
  have e : keysL ws = keysL (ws.take k) ++ (ws[k].2.2.2.1 ++ keysL (ws.drop (k + 1))) := by
    rw [← List.append_assoc, ← keysL_take h, ← keysL_append, List.take_append_drop]
  rw [e, List.count_append, List.count_append, List.count_append]
  have := (List.take_sublist i ws[k].2.2.2.1).count_le s
  omega
theorem inB_yes {b z : Int} (h0 : 0 ≤ z) (h : z / 16 = b) : inB b z = true := decide_eq_true ⟨h0, h⟩
theorem inB_no {b z : Int} (h : ¬ (0 ≤ z ∧ z / 16 = b)) : inB b z = false := decide_eq_false h
end Go.Proofs.YtedopplldpcinaaGreat.Plan
