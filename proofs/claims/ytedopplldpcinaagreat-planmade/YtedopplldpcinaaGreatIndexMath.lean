/-
  Layer 9: the mathematics of slots: what is put, found and dropped; as often as it was put, so often it is found.
-/
namespace Go.Proofs.YtedopplldpcinaaGreat.Index

/-- state, fingerprint, place -/
abbrev SlotT := Int × Int × Int
def slot (l : List SlotT) (k : Nat) : SlotT := l.getD k (0, 0, 0)
/-- the i-th slot that one comes to -/
def atN (n : Nat) (q : Int) (i : Nat) : Nat := (q.toNat % n + i) % n
/-- the first of the first k that is not Used -/
def freeN (l : List SlotT) (q : Int) : Nat → Option Nat
  | 0 => none
  | k + 1 => match freeN l q k with
    | some x => some x
    | none => if (slot l (atN l.length q k)).1 = 1 then none else some (atN l.length q k)
def putT (l : List SlotT) (q p : Int) : List SlotT × Int :=
  if q < 0 then ([], 1) else match freeN l q l.length with
    | some k => (l.set k (1, q, p), 0)
    | none => ([], 40)
/-- are the first k not Empty? -/
def goesN (l : List SlotT) (q : Int) : Nat → Bool
  | 0 => true
  | k + 1 => goesN l q k && decide ((slot l (atN l.length q k)).1 ≠ 0)
def isQ (l : List SlotT) (q : Int) (k : Nat) : Bool := decide ((slot l k).1 = 1) && decide ((slot l k).2.1 = q)
def slotsN (l : List SlotT) (q : Int) : Nat → List Nat
  | 0 => []
  | k + 1 => if (goesN l q (k + 1) && isQ l q (atN l.length q k)) = true then slotsN l q k ++ [atN l.length q k] else slotsN l q k
def slotsT (l : List SlotT) (q : Int) : List Nat := if q < 0 then [] else slotsN l q l.length
def findT (l : List SlotT) (q : Int) : List Int := (slotsT l q).map fun k => (slot l k).2.2
def dropK (l : List SlotT) (q p : Int) : Option Nat := (slotsT l q).find? fun k => decide ((slot l k).2.2 = p)
def dropT (l : List SlotT) (q p : Int) : List SlotT := match dropK l q p with
  | some k => l.set k (2, 0, 0)
  | none => l

/-! ### where one comes to -/
theorem atN_val {n : Nat} {q : Int} {i : Nat} (hi : i < n) : atN n q i = if q.toNat % n + i < n then q.toNat % n + i else q.toNat % n + i - n := by
  have hr : q.toNat % n < n := Nat.mod_lt _ (by omega)
  unfold atN
  split
  · rename_i h; exact Nat.mod_eq_of_lt h
  · rename_i h
    rw [Nat.mod_eq_sub_mod (by omega)]
    exact Nat.mod_eq_of_lt (by omega)
theorem atN_lt {n : Nat} {q : Int} {i : Nat} (hi : i < n) : atN n q i < n := Nat.mod_lt _ (by omega)
theorem atN_inj {n : Nat} {q : Int} {i j : Nat} (hi : i < n) (hj : j < n) (h : atN n q i = atN n q j) : i = j := by
  have hr : q.toNat % n < n := Nat.mod_lt _ (by omega)
  rw [atN_val hi, atN_val hj] at h
  split at h <;> split at h <;> omega
theorem slot_set {l : List SlotT} {k : Nat} (hk : k < l.length) (x : SlotT) (j : Nat) : slot (l.set k x) j = if j = k then x else slot l j := by
  unfold slot
  by_cases e : j = k
  · subst e
    rw [if_pos rfl, List.getD_eq_getElem?_getD, List.getElem?_set_self hk]
    rfl
  · rw [if_neg e, List.getD_eq_getElem?_getD, List.getElem?_set_ne (Ne.symm e), ← List.getD_eq_getElem?_getD]

/-! ### counting -/
def cntI (P : Nat → Bool) : Nat → Nat
  | 0 => 0
  | k + 1 => if P k = true then cntI P k + 1 else cntI P k
theorem cntI_yes {P : Nat → Bool} {k : Nat} (h : P k = true) : cntI P (k + 1) = cntI P k + 1 := by rw [cntI, if_pos h]
theorem cntI_no {P : Nat → Bool} {k : Nat} (h : P k = false) : cntI P (k + 1) = cntI P k := by rw [cntI, if_neg (by rw [h]; decide)]
theorem cntI_eq {P Q : Nat → Bool} {n : Nat} (h : ∀ k, k < n → P k = Q k) : cntI P n = cntI Q n := by
  induction n with
  | zero => rfl
  | succ n ih =>
    have ih := ih fun k hk => h k (by omega)
    have hn := h n (by omega)
    unfold cntI
    rw [hn, ih]
theorem cntI_le (P : Nat → Bool) (n : Nat) : cntI P n ≤ n := by
  induction n with
  | zero => simp [cntI]
  | succ n ih =>
    unfold cntI
    split <;> omega
theorem cntI_one {P Q : Nat → Bool} {n k : Nat} (hk : k < n) (hp : P k = false) (hq : Q k = true) (h : ∀ j, j < n → j ≠ k → Q j = P j) : cntI Q n = cntI P n + 1 := by
  induction n with
  | zero => omega
  | succ n ih =>
    by_cases e : k = n
    · subst e
      rw [cntI_yes hq, cntI_no hp, cntI_eq fun j hj => h j (by omega) (by omega)]
    · have ih := ih (by omega) fun j hj hne => h j (by omega) hne
      have hn := h n (by omega) (fun e' => e e'.symm)
      unfold cntI
      rw [hn, ih]
      split <;> omega
theorem cntI_pos {P : Nat → Bool} {n : Nat} : 0 < cntI P n ↔ ∃ k, k < n ∧ P k = true := by
  induction n with
  | zero => simp [cntI]
  | succ n ih =>
    cases h : P n with
    | true =>
      rw [cntI_yes h]
      exact ⟨fun _ => ⟨n, by omega, h⟩, fun _ => by omega⟩
    | false =>
      rw [cntI_no h, ih]
      constructor
      · rintro ⟨k, hk, hp⟩; exact ⟨k, by omega, hp⟩
      · rintro ⟨k, hk, hp⟩
        have : k ≠ n := fun e => by subst e; rw [h] at hp; cases hp
        exact ⟨k, by omega, hp⟩
theorem cntI_full {P : Nat → Bool} {n : Nat} : cntI P n = n ↔ ∀ k, k < n → P k = true := by
  induction n with
  | zero => simp [cntI]
  | succ n ih =>
    have hle := cntI_le P n
    cases h : P n with
    | true =>
      rw [cntI_yes h]
      constructor
      · intro e k hk
        by_cases e' : k = n
        · rw [e']; exact h
        · exact ih.1 (by omega) k (by omega)
      · intro hk
        rw [ih.2 fun k h' => hk k (by omega)]
    | false =>
      rw [cntI_no h]
      constructor
      · intro e; omega
      · intro hk
        have := hk n (by omega)
        rw [h] at this
        cases this
theorem cntI_add (P : Nat → Bool) (a b : Nat) : cntI P (a + b) = cntI P a + cntI (fun i => P (a + i)) b := by
  induction b with
  | zero => simp [cntI]
  | succ b ih =>
    rw [← Nat.add_assoc]
    cases h : P (a + b) with
    | true => rw [cntI_yes h, cntI_yes (P := fun i => P (a + i)) h, ih]; omega
    | false => rw [cntI_no h, cntI_no (P := fun i => P (a + i)) h, ih]
theorem cntI_turn (P : Nat → Bool) (n : Nat) (q : Int) : cntI (fun i => P (atN n q i)) n = cntI P n := by
  by_cases h0 : n = 0
  · subst h0; rfl
  have hr : q.toNat % n < n := Nat.mod_lt _ (by omega)
  obtain ⟨r, hrr⟩ : ∃ r, q.toNat % n = r := ⟨_, rfl⟩
  rw [hrr] at hr
  obtain ⟨m, hm⟩ : ∃ m, n = r + m := ⟨n - r, by omega⟩
  have e1 : cntI P n = cntI P r + cntI (fun i => P (r + i)) m := by rw [hm]; exact cntI_add P r m
  have e2 : cntI (fun i => P (atN n q i)) n = cntI (fun i => P (atN n q i)) m + cntI (fun i => P (atN n q (m + i))) r := by
    conv => lhs; rw [show n = m + r by omega]
    rw [show (fun i => P (atN (m + r) q i)) = fun i => P (atN n q i) by rw [show m + r = n by omega]]
    exact cntI_add _ m r
  rw [e1, e2]
  have e3 : cntI (fun i => P (atN n q i)) m = cntI (fun i => P (r + i)) m := cntI_eq fun i hi => by
    rw [atN_val (by omega), hrr, if_pos (by omega)]
  have e4 : cntI (fun i => P (atN n q (m + i))) r = cntI P r := cntI_eq fun i hi => by
    rw [atN_val (by omega), hrr, if_neg (by omega)]
    congr 1
    omega
  omega

/-! ### what is there -/
def isS (l : List SlotT) (q p : Int) (k : Nat) : Bool := isQ l q k && decide ((slot l k).2.2 = p)
def isU (l : List SlotT) (k : Nat) : Bool := decide ((slot l k).1 = 1)
/-- how often that place stands with that fingerprint -/
def cntS (l : List SlotT) (q p : Int) : Nat := cntI (isS l q p) l.length
/-- how many slots have that fingerprint -/
def cntQ (l : List SlotT) (q : Int) : Nat := cntI (isQ l q) l.length
/-- how many are Used -/
def usedN (l : List SlotT) : Nat := cntI (isU l) l.length
/-- none of them stands behind an Empty one -/
def Reach (l : List SlotT) : Prop := ∀ (q : Int) (i : Nat), i < l.length → isQ l q (atN l.length q i) = true → ∀ j, j < i → (slot l (atN l.length q j)).1 ≠ 0
theorem isQ_iff {l : List SlotT} {q : Int} {k : Nat} : isQ l q k = true ↔ (slot l k).1 = 1 ∧ (slot l k).2.1 = q := by unfold isQ; simp
theorem isS_iff {l : List SlotT} {q p : Int} {k : Nat} : isS l q p k = true ↔ (slot l k).1 = 1 ∧ (slot l k).2.1 = q ∧ (slot l k).2.2 = p := by
  unfold isS
  rw [Bool.and_eq_true, isQ_iff]
  simp [and_assoc]
theorem goesN_iff {l : List SlotT} {q : Int} {k : Nat} : goesN l q k = true ↔ ∀ j, j < k → (slot l (atN l.length q j)).1 ≠ 0 := by
  induction k with
  | zero => simp [goesN]
  | succ k ih =>
    rw [goesN, Bool.and_eq_true, ih, decide_eq_true_eq]
    constructor
    · rintro ⟨h1, h2⟩ j hj
      by_cases e : j = k
      · rw [e]; exact h2
      · exact h1 j (by omega)
    · intro h
      exact ⟨fun j hj => h j (by omega), h k (by omega)⟩
theorem reach_step {l : List SlotT} (h : Reach l) {q : Int} {k : Nat} (hk : k < l.length) : (goesN l q (k + 1) && isQ l q (atN l.length q k)) = isQ l q (atN l.length q k) := by
  cases hq : isQ l q (atN l.length q k) with
  | false => simp
  | true =>
    rw [Bool.and_true, goesN_iff]
    intro j hj
    by_cases e : j = k
    · rw [e, (isQ_iff.1 hq).1]; decide
    · exact h q k hk hq j (by omega)
theorem slotsN_mem {l : List SlotT} {q : Int} {k x : Nat} (h : x ∈ slotsN l q k) (hk : k ≤ l.length) : isQ l q x = true ∧ x < l.length := by
  induction k with
  | zero => simp [slotsN] at h
  | succ k ih =>
    unfold slotsN at h
    split at h
    · rename_i hc
      rw [Bool.and_eq_true] at hc
      rcases List.mem_append.1 h with h | h
      · exact ih h (by omega)
      · rw [List.mem_singleton.1 h]
        exact ⟨hc.2, atN_lt (by omega)⟩
    · exact ih h (by omega)
theorem slotsT_mem {l : List SlotT} {q : Int} {x : Nat} (h : x ∈ slotsT l q) : isQ l q x = true ∧ x < l.length := by
  unfold slotsT at h
  split at h
  · simp at h
  · exact slotsN_mem h (Nat.le_refl _)
theorem slotsN_count {l : List SlotT} (h : Reach l) (q : Int) (P : Nat → Bool) {k : Nat} (hk : k ≤ l.length) : ((slotsN l q k).filter P).length = cntI (fun i => isQ l q (atN l.length q i) && P (atN l.length q i)) k := by
  induction k with
  | zero => rfl
  | succ k ih =>
    have ih := ih (by omega)
    unfold slotsN
    rw [reach_step h (by omega)]
    cases hq : isQ l q (atN l.length q k) with
    | false => rw [cntI_no (by simp [hq])]; simpa using ih
    | true =>
      rw [if_pos rfl, List.filter_append, List.length_append, ih]
      cases hp : P (atN l.length q k) with
      | true => rw [cntI_yes (by simp [hq, hp])]; simp [hp]
      | false => rw [cntI_no (by simp [hq, hp])]; simp [hp]
theorem slotsT_count {l : List SlotT} (h : Reach l) {q : Int} (h0 : 0 ≤ q) (P : Nat → Bool) : ((slotsT l q).filter P).length = cntI (fun k => isQ l q k && P k) l.length := by
  unfold slotsT
  rw [if_neg (by omega), slotsN_count h q P (Nat.le_refl _)]
  exact cntI_turn (fun k => isQ l q k && P k) l.length q
theorem find_len {l : List SlotT} (h : Reach l) {q : Int} (h0 : 0 ≤ q) : (findT l q).length = cntQ l q := by
  have := slotsT_count h h0 (fun _ => true)
  rw [List.filter_eq_self.2 (by simp)] at this
  unfold findT
  rw [List.length_map, this]
  exact cntI_eq fun k _ => by simp
theorem find_count {l : List SlotT} (h : Reach l) {q : Int} (h0 : 0 ≤ q) (p : Int) : ((findT l q).filter fun x => decide (x = p)).length = cntS l q p := by
  unfold findT
  rw [List.filter_map, List.length_map]
  exact slotsT_count h h0 _
theorem find_mem {l : List SlotT} {q x : Int} (hx : x ∈ findT l q) : ∃ k, k < l.length ∧ isS l q x k = true := by
  unfold findT at hx
  obtain ⟨k, hk, rfl⟩ := List.mem_map.1 hx
  obtain ⟨h1, h2⟩ := slotsT_mem hk
  exact ⟨k, h2, by unfold isS; rw [h1]; simp⟩
theorem find_has {l : List SlotT} (h : Reach l) {q : Int} (h0 : 0 ≤ q) {p : Int} : (0 < cntS l q p) ↔ p ∈ findT l q := by
  rw [← find_count h h0, List.length_pos_iff_exists_mem]
  constructor
  · rintro ⟨x, hx⟩
    obtain ⟨h1, h2⟩ := List.mem_filter.1 hx
    have : x = p := by simpa using h2
    subst this
    exact h1
  · intro hp
    exact ⟨p, List.mem_filter.2 ⟨hp, by simp⟩⟩

/-! ### Put -/
theorem freeN_some {l : List SlotT} {q : Int} {n k : Nat} (h : freeN l q n = some k) : ∃ i, i < n ∧ k = atN l.length q i ∧ (slot l k).1 ≠ 1 ∧ ∀ j, j < i → (slot l (atN l.length q j)).1 = 1 := by
  induction n with
  | zero => cases h
  | succ n ih =>
    unfold freeN at h
    rcases hf : freeN l q n with _ | x
    · rw [hf] at h
      simp only [] at h
      split at h
      · cases h
      · rename_i hn
        injection h with h
        subst h
        refine ⟨n, by omega, rfl, hn, ?_⟩
        clear ih hn
        intro j hj
        induction n with
        | zero => omega
        | succ n ihn =>
          unfold freeN at hf
          rcases hg : freeN l q n with _ | y
          · rw [hg] at hf
            simp only [] at hf
            split at hf
            · rename_i hu
              by_cases e : j = n
              · rw [e]; exact hu
              · exact ihn hg (by omega)
            · cases hf
          · rw [hg] at hf; cases hf
    · rw [hf] at h
      injection h with h
      subst h
      obtain ⟨i, h1, h2⟩ := ih hf
      exact ⟨i, by omega, h2⟩
theorem freeN_none {l : List SlotT} {q : Int} {n : Nat} : freeN l q n = none ↔ ∀ j, j < n → (slot l (atN l.length q j)).1 = 1 := by
  induction n with
  | zero => simp [freeN]
  | succ n ih =>
    unfold freeN
    rcases hf : freeN l q n with _ | x
    · simp only []
      have ih := ih.1 hf
      constructor
      · intro h j hj
        split at h
        · rename_i hu
          by_cases e : j = n
          · rw [e]; exact hu
          · exact ih j (by omega)
        · cases h
      · intro h
        rw [if_pos (h n (by omega))]
    · simp only []
      constructor
      · intro h; cases h
      · intro h
        have := ih.2 fun j hj => h j (by omega)
        rw [hf] at this
        cases this
theorem free_used {l : List SlotT} {q : Int} : freeN l q l.length = none ↔ usedN l = l.length := by
  rw [freeN_none]
  unfold usedN
  rw [← cntI_turn (isU l) l.length q, cntI_full]
  unfold isU
  simp
theorem put_neg {l : List SlotT} {q p : Int} (h : q < 0) : putT l q p = ([], 1) := by unfold putT; rw [if_pos h]
theorem put_full {l : List SlotT} {q p : Int} (h0 : 0 ≤ q) (h : usedN l = l.length) : putT l q p = ([], 40) := by
  unfold putT
  rw [if_neg (by omega), free_used.2 h]
theorem put_ok {l : List SlotT} {q p : Int} (h0 : 0 ≤ q) (h : usedN l < l.length) : ∃ k i, putT l q p = (l.set k (1, q, p), 0) ∧ k < l.length ∧ i < l.length ∧ k = atN l.length q i ∧ (slot l k).1 ≠ 1 ∧ ∀ j, j < i → (slot l (atN l.length q j)).1 = 1 := by
  rcases hf : freeN l q l.length with _ | k
  · have := free_used.1 hf; omega
  · obtain ⟨i, h1, h2, h3, h4⟩ := freeN_some hf
    refine ⟨k, i, ?_, by rw [h2]; exact atN_lt h1, h1, h2, h3, h4⟩
    unfold putT
    rw [if_neg (by omega), hf]
/-- what a Put that is done has done -/
theorem put_does {l : List SlotT} (hr : Reach l) {q p : Int} (h0 : 0 ≤ q) (h : usedN l < l.length) :
    ∃ l', putT l q p = (l', 0) ∧ l'.length = l.length ∧ Reach l' ∧ usedN l' = usedN l + 1 ∧ cntS l' q p = cntS l q p + 1 ∧ (∀ q' p', (q', p') ≠ (q, p) → cntS l' q' p' = cntS l q' p') := by
  obtain ⟨k, i, hp, hk, hi, hki, hn, hu⟩ := put_ok (p := p) h0 h
  have hs := slot_set hk (1, q, p)
  have hlen : (l.set k (1, q, p)).length = l.length := List.length_set
  refine ⟨_, hp, hlen, ?_, ?_, ?_, ?_⟩
  · intro q' i' hi' hq' j hj
    rw [hlen] at hi' hq' ⊢
    rw [isQ_iff] at hq'
    rw [hs] at hq' ⊢
    by_cases e : atN l.length q' i' = k
    · rw [if_pos e] at hq'
      obtain ⟨_, rfl⟩ := hq'
      have : i' = i := atN_inj hi' hi (by rw [e, hki])
      subst this
      split
      · exact (by decide : (1 : Int) ≠ 0)
      · rw [hu j hj]; decide
    · rw [if_neg e] at hq'
      split
      · exact (by decide : (1 : Int) ≠ 0)
      · exact hr q' i' hi' (isQ_iff.2 hq') j hj
  · unfold usedN
    rw [hlen]
    refine cntI_one hk ?_ ?_ fun j _ hne => ?_
    · unfold isU; simpa using hn
    · unfold isU; rw [hs, if_pos rfl]; rfl
    · unfold isU; rw [hs, if_neg hne]
  · unfold cntS
    rw [hlen]
    refine cntI_one hk ?_ ?_ fun j _ hne => ?_
    · rw [Bool.eq_false_iff]; intro h'; exact hn (isS_iff.1 h').1
    · rw [isS_iff, hs, if_pos rfl]; exact ⟨rfl, rfl, rfl⟩
    · unfold isS isQ; rw [hs, if_neg hne]
  · intro q' p' hne
    unfold cntS
    rw [hlen]
    refine cntI_eq fun j _ => ?_
    by_cases e : j = k
    · subst e
      have h1 : isS l q' p' j = false := by rw [Bool.eq_false_iff]; intro h'; exact hn (isS_iff.1 h').1
      rw [h1, Bool.eq_false_iff]
      intro h'
      have h2 := isS_iff.1 h'
      rw [hs, if_pos rfl] at h2
      exact hne (Prod.ext h2.2.1.symm h2.2.2.symm)
    · unfold isS isQ; rw [hs, if_neg e]

/-! ### Drop -/
theorem drop_none {l : List SlotT} (hr : Reach l) {q p : Int} (h0 : 0 ≤ q) (h : cntS l q p = 0) : dropT l q p = l := by
  unfold dropT
  rcases hd : dropK l q p with _ | k
  · rfl
  · have hk := List.mem_of_find?_eq_some hd
    have hp := List.find?_some hd
    have : 0 < cntS l q p := (find_has hr h0).2 (by
      unfold findT
      exact List.mem_map.2 ⟨k, hk, by simpa using hp⟩)
    omega
theorem drop_some {l : List SlotT} (hr : Reach l) {q p : Int} (h0 : 0 ≤ q) (h : 0 < cntS l q p) : ∃ k, dropT l q p = l.set k (2, 0, 0) ∧ k < l.length ∧ isS l q p k = true := by
  unfold dropT
  rcases hd : dropK l q p with _ | k
  · have hm := (find_has hr h0).1 h
    unfold findT at hm
    obtain ⟨k, hk, hp⟩ := List.mem_map.1 hm
    have := List.find?_eq_none.1 hd k hk
    simp [hp] at this
  · have hk := List.mem_of_find?_eq_some hd
    have hp := List.find?_some hd
    obtain ⟨h1, h2⟩ := slotsT_mem hk
    exact ⟨k, rfl, h2, by unfold isS; rw [h1]; simpa using hp⟩
/-- what a Drop that finds one has done -/
theorem drop_does {l : List SlotT} (hr : Reach l) {q p : Int} (h0 : 0 ≤ q) (h : 0 < cntS l q p) :
    ∃ l', dropT l q p = l' ∧ l'.length = l.length ∧ Reach l' ∧ usedN l = usedN l' + 1 ∧ cntS l q p = cntS l' q p + 1 ∧ (∀ q' p', (q', p') ≠ (q, p) → cntS l' q' p' = cntS l q' p') ∧ cntQ l q = cntQ l' q + 1 ∧ (∀ q', q' ≠ q → cntQ l' q' = cntQ l q') := by
  obtain ⟨k, hp, hk, hS⟩ := drop_some hr h0 h
  have hs := slot_set hk (2, 0, 0)
  have hlen : (l.set k ((2, 0, 0) : SlotT)).length = l.length := List.length_set
  obtain ⟨s1, s2, s3⟩ := isS_iff.1 hS
  have hno : ∀ q', isQ (l.set k (2, 0, 0)) q' k = false := fun q' => by
    rw [Bool.eq_false_iff]
    intro h'
    have := (isQ_iff.1 h').1
    rw [hs, if_pos rfl] at this
    exact absurd this (by decide)
  refine ⟨_, hp, hlen, ?_, ?_, ?_, ?_, ?_, ?_⟩
  · intro q' i' hi' hq' j hj
    rw [hlen] at hi' hq' ⊢
    rw [isQ_iff] at hq'
    rw [hs] at hq' ⊢
    by_cases e : atN l.length q' i' = k
    · rw [if_pos e] at hq'
      exact absurd hq'.1 (by decide)
    · rw [if_neg e] at hq'
      split
      · decide
      · exact hr q' i' hi' (isQ_iff.2 hq') j hj
  · unfold usedN
    rw [hlen]
    refine cntI_one hk ?_ ?_ fun j _ hne => ?_
    · unfold isU; rw [hs, if_pos rfl]; rfl
    · unfold isU; simpa using s1
    · unfold isU; rw [hs, if_neg hne]
  · unfold cntS
    rw [hlen]
    refine cntI_one hk ?_ hS fun j _ hne => ?_
    · unfold isS; rw [hno]; rfl
    · unfold isS isQ; rw [hs, if_neg hne]
  · intro q' p' hne
    unfold cntS
    rw [hlen]
    refine cntI_eq fun j _ => ?_
    by_cases e : j = k
    · subst e
      unfold isS
      rw [hno, Bool.false_and]
      symm
      rw [Bool.eq_false_iff]
      intro h'
      have h2 := isS_iff.1 (show isS l q' p' j = true from h')
      exact hne (by rw [← h2.2.1, ← h2.2.2, s2, s3])
    · unfold isS isQ; rw [hs, if_neg e]
  · unfold cntQ
    rw [hlen]
    refine cntI_one hk (hno q) (isQ_iff.2 ⟨s1, s2⟩) fun j _ hne => ?_
    unfold isQ; rw [hs, if_neg hne]
  · intro q' hne
    unfold cntQ
    rw [hlen]
    refine cntI_eq fun j _ => ?_
    by_cases e : j = k
    · subst e
      rw [hno]
      symm
      rw [Bool.eq_false_iff]
      intro h'
      exact hne (by rw [← (isQ_iff.1 h').2, s2])
    · unfold isQ; rw [hs, if_neg e]
/-- no slot is Used -/
def emptyT (n : Nat) : List SlotT := List.replicate n (0, 0, 0)
theorem slot_empty (n k : Nat) : slot (emptyT n) k = (0, 0, 0) := by
  unfold slot emptyT
  rw [List.getD_eq_getElem?_getD, List.getElem?_replicate]
  split <;> rfl
theorem empty_len (n : Nat) : (emptyT n).length = n := List.length_replicate
theorem empty_isQ (n : Nat) (q : Int) (k : Nat) : isQ (emptyT n) q k = false := by
  rw [Bool.eq_false_iff]
  intro h
  have := (isQ_iff.1 h).1
  rw [slot_empty] at this
  exact absurd this (by decide)
theorem empty_reach (n : Nat) : Reach (emptyT n) := fun q i _ hq => by rw [empty_isQ] at hq; cases hq
theorem cntI_none {P : Nat → Bool} {n : Nat} (h : ∀ k, k < n → P k = false) : cntI P n = 0 := by
  induction n with
  | zero => rfl
  | succ n ih => rw [cntI_no (h n (by omega))]; exact ih fun k hk => h k (by omega)
theorem empty_used (n : Nat) : usedN (emptyT n) = 0 := cntI_none fun k _ => by unfold isU; rw [slot_empty]; rfl
theorem empty_cntS (n : Nat) (q p : Int) : cntS (emptyT n) q p = 0 := cntI_none fun k _ => by unfold isS; rw [empty_isQ]; rfl
end Go.Proofs.YtedopplldpcinaaGreat.Index
