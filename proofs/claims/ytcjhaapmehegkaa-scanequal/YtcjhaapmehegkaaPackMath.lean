/-
  The plain mathematics of layer 2 (no program here): numbers to the base 128 as bytes; what is put is taken, and what is taken was put.
-/
import Derived.Laws.BitsAllLaws
namespace Go.Proofs.Ytcjhaapmehegkaa.Pack

def maxN : Nat := 1099511627776
/-- the digits of n, the lowest one first -/
def putF : Nat → Nat → List UInt8
  | 0, n => [n.toUInt8]
  | f + 1, n => if n < 128 then [n.toUInt8] else (n % 128 + 128).toUInt8 :: putF f (n / 128)
def put (n : Nat) : List UInt8 := putF n n
theorem putF_lo {f n : Nat} (h : n < 128) : putF f n = [n.toUInt8] := by
  cases f with
  | zero => rfl
  | succ f => unfold putF; rw [if_pos h]
theorem putF_fuel (f : Nat) : ∀ g n, n ≤ f → n ≤ g → putF f n = putF g n := by
  induction f with
  | zero => intro g n hf hg; rw [putF_lo (by omega), putF_lo (by omega)]
  | succ f ih =>
    intro g n hf hg
    by_cases h : n < 128
    · rw [putF_lo h, putF_lo h]
    · obtain ⟨g, rfl⟩ : ∃ d, g = d + 1 := ⟨g - 1, by omega⟩
      unfold putF
      rw [if_neg h, if_neg h, ih g (n / 128) (by omega) (by omega)]
theorem put_lo {n : Nat} (h : n < 128) : put n = [n.toUInt8] := putF_lo h
theorem put_hi {n : Nat} (h : ¬ n < 128) : put n = (n % 128 + 128).toUInt8 :: put (n / 128) := by
  obtain ⟨f, hf⟩ : ∃ f, n = f + 1 := ⟨n - 1, by omega⟩
  have e : put n = putF (f + 1) n := by unfold put; rw [← hf]
  rw [e]
  show (if n < 128 then _ else (n % 128 + 128).toUInt8 :: putF f (n / 128)) = _
  rw [if_neg h, putF_fuel f (n / 128) (n / 128) (by omega) (Nat.le_refl _)]
  rfl
theorem u8_nat (n : Nat) (h : n < 256) : (n.toUInt8).toNat = n := by rw [Nat.toUInt8_eq, UInt8.toNat_ofNat']; omega
theorem u8_back (b : UInt8) : (b.toNat).toUInt8 = b := by rw [Nat.toUInt8_eq]; exact UInt8.ofNat_toNat
theorem put_pos (n : Nat) : 1 ≤ (put n).length := by
  by_cases h : n < 128
  · rw [put_lo h]; simp
  · rw [put_hi h]; simp
theorem put_ne (n : Nat) : put n ≠ [] := by intro h; have := put_pos n; rw [h] at this; simp at this
theorem put_len (n : Nat) (d : Nat) (h : n < 128 ^ (d + 1)) : (put n).length ≤ d + 1 := by
  induction d generalizing n with
  | zero => rw [put_lo (by simpa using h)]; simp
  | succ d ih =>
    by_cases hn : n < 128
    · rw [put_lo hn]; simp
    · rw [put_hi hn]
      have := ih (n / 128) (by rw [Nat.pow_succ] at h; exact Nat.div_lt_of_lt_mul (by rw [Nat.mul_comm]; exact h))
      simp; omega
theorem put_six {n : Nat} (h : n ≤ maxN) : (put n).length ≤ 6 := put_len n 5 (by unfold maxN at h; omega)

/-- the bytes of any number of Go's: none, if it is not from 0 to maxN -/
def putI (z : Int) : List UInt8 := if 0 ≤ z ∧ z ≤ 1099511627776 then put z.toNat else []
theorem putI_nat {n : Nat} (h : n ≤ maxN) : putI (n : Int) = put n := by unfold maxN at h; unfold putI; rw [if_pos (by omega)]; rfl
theorem putI_yes {z : Int} (h0 : 0 ≤ z) (h1 : z ≤ 1099511627776) : putI z = put z.toNat := by unfold putI; rw [if_pos ⟨h0, h1⟩]
theorem putI_no {z : Int} (h : z < 0 ∨ 1099511627776 < z) : putI z = [] := by unfold putI; rw [if_neg (by omega)]
theorem putI_six (z : Int) : (putI z).length ≤ 6 := by
  unfold putI; split
  · exact put_six (by unfold maxN; omega)
  · simp

/-- what a text begins with: i digits were read, which make s; the next one's weight is u -/
def tk : Nat → Nat → Nat → List UInt8 → Option (Nat × List UInt8)
  | _, _, _, [] => none
  | i, s, u, b :: l =>
    if 6 ≤ i then none
    else if 128 ≤ b.toNat then tk (i + 1) (s + b.toNat % 128 * u) (u * 128) l
    else if (0 < b.toNat ∨ i = 0) ∧ s + b.toNat * u ≤ maxN then some (s + b.toNat * u, l) else none
def take (l : List UInt8) : Option (Nat × List UInt8) := tk 0 0 1 l

theorem pow_six {i : Nat} (h : 6 ≤ i) : 4398046511104 ≤ 128 ^ i := by
  have := Nat.pow_le_pow_right (n := 128) (by omega) h
  simpa using this
theorem mul_ge {a b c : Nat} (h : 0 < a) (hc : c ≤ b) : c ≤ a * b := Nat.le_trans hc (Nat.le_mul_of_pos_left b h)

theorem tk_put (n i s : Nat) (rest : List UInt8) (hn : 0 < n ∨ i = 0) (hs : s + n * 128 ^ i ≤ maxN) :
    tk i s (128 ^ i) (put n ++ rest) = some (s + n * 128 ^ i, rest) := by
  induction n using Nat.strongRecOn generalizing i s with
  | ind n ih =>
    have hi : ¬ 6 ≤ i := by
      intro h6
      rcases hn with hn | hn
      · have := mul_ge hn (pow_six h6); unfold maxN at hs; omega
      · omega
    by_cases h : n < 128
    · rw [put_lo h]
      show tk i s (128 ^ i) (n.toUInt8 :: rest) = _
      unfold tk
      rw [if_neg hi, u8_nat n (by omega), if_neg (by omega), if_pos ⟨hn, hs⟩]
    · rw [put_hi h]
      show tk i s (128 ^ i) ((n % 128 + 128).toUInt8 :: (put (n / 128) ++ rest)) = _
      unfold tk
      have e1 : (n % 128 + 128) % 128 = n % 128 := by omega
      rw [if_neg hi, u8_nat _ (by omega), if_pos (by omega), e1, ← Nat.pow_succ]
      have e2 : n % 128 * 128 ^ i + n / 128 * 128 ^ (i + 1) = n * 128 ^ i := by
        have : n / 128 * 128 ^ (i + 1) = n / 128 * 128 * 128 ^ i := by rw [Nat.pow_succ, Nat.mul_comm (128 ^ i) 128, Nat.mul_assoc]
        rw [this, ← Nat.add_mul]
        congr 1; omega
      have e3 : s + n % 128 * 128 ^ i + n / 128 * 128 ^ (i + 1) = s + n * 128 ^ i := by omega
      rw [ih (n / 128) (by omega) (i + 1) _ (.inl (by omega)) (by omega), e3]
theorem take_put {n : Nat} (h : n ≤ maxN) (rest : List UInt8) : take (put n ++ rest) = some (n, rest) := by
  have := tk_put n 0 0 rest (.inr rfl) (by simpa using h)
  simpa [take] using this

theorem tk_some (l : List UInt8) (i s n : Nat) (rest : List UInt8) (h : tk i s (128 ^ i) l = some (n, rest)) :
    ∃ m, l = put m ++ rest ∧ n = s + m * 128 ^ i ∧ (0 < m ∨ i = 0) ∧ n ≤ maxN := by
  induction l generalizing i s with
  | nil => simp [tk] at h
  | cons b l ih =>
    have hb := b.toNat_lt
    unfold tk at h
    by_cases h6 : 6 ≤ i
    · rw [if_pos h6] at h; cases h
    · rw [if_neg h6] at h
      by_cases h128 : 128 ≤ b.toNat
      · rw [if_pos h128, ← Nat.pow_succ] at h
        obtain ⟨m, hl, hn, hm, hmax⟩ := ih _ _ h
        refine ⟨b.toNat % 128 + 128 * m, ?_, ?_, .inl (by omega), hmax⟩
        · rw [put_hi (by omega), hl]
          show b :: (put m ++ rest) = _ :: (put _ ++ rest)
          have e1 : (b.toNat % 128 + 128 * m) % 128 + 128 = b.toNat := by omega
          have e2 : (b.toNat % 128 + 128 * m) / 128 = m := by omega
          rw [e1, e2, u8_back]
        · rw [hn, Nat.pow_succ, Nat.add_mul, Nat.add_assoc]
          congr 2
          rw [Nat.mul_comm (128 ^ i) 128, ← Nat.mul_assoc, Nat.mul_comm m 128]
      · rw [if_neg h128] at h
        by_cases hc : (0 < b.toNat ∨ i = 0) ∧ s + b.toNat * 128 ^ i ≤ maxN
        · rw [if_pos hc] at h
          cases h
          refine ⟨b.toNat, ?_, rfl, hc.1, hc.2⟩
          rw [put_lo (by omega), u8_back]; rfl
        · rw [if_neg hc] at h; cases h
theorem take_some {l : List UInt8} {n : Nat} {rest : List UInt8} (h : take l = some (n, rest)) : l = put n ++ rest ∧ n ≤ maxN := by
  obtain ⟨m, h1, h2, _, h4⟩ := tk_some l 0 0 n rest (by simpa [take] using h)
  have : n = m := by simpa using h2
  subst this
  exact ⟨h1, h4⟩
theorem take_len {l : List UInt8} {n : Nat} {rest : List UInt8} (h : take l = some (n, rest)) : rest.length + 1 ≤ l.length := by
  rw [(take_some h).1, List.length_append]
  have := put_pos n; omega
theorem take_nil : take [] = none := rfl

/-- put loses nothing, and no put begins another one -/
theorem put_inj {a b : Nat} {s t : List UInt8} (ha : a ≤ maxN) (hb : b ≤ maxN) (h : put a ++ s = put b ++ t) : a = b ∧ s = t := by
  have h1 := take_put ha s
  rw [h, take_put hb t] at h1
  cases h1; exact ⟨rfl, rfl⟩
theorem take_cut {n : Nat} (h : n ≤ maxN) : take ((put n).take ((put n).length - 1)) = none := by
  cases hc : take ((put n).take ((put n).length - 1)) with
  | none => rfl
  | some p =>
    obtain ⟨m, r⟩ := p
    obtain ⟨h1, h2⟩ := take_some hc
    have e : put n = put m ++ (r ++ (put n).drop ((put n).length - 1)) := by
      rw [← List.append_assoc, ← h1, List.take_append_drop]
    have h3 := put_inj (s := []) h h2 (by rw [List.append_nil]; exact e)
    have hl := put_pos n
    have h4 := congrArg List.length h3.2
    simp at h4
    omega

/-- c numbers, one behind the other -/
def takes : Nat → List UInt8 → Option (List Nat × List UInt8)
  | 0, r => some ([], r)
  | c + 1, r => match take r with
    | none => none
    | some (n, q) => match takes c q with
      | none => none
      | some (l, z) => some (n :: l, z)
def unpack (s : List UInt8) : Option (List Nat × List UInt8) := match take s with
  | none => none
  | some (c, r) => takes c r
theorem unpack_none {s : List UInt8} (h : take s = none) : unpack s = none := by unfold unpack; rw [h]
theorem unpack_at {s r : List UInt8} {c : Nat} (h : take s = some (c, r)) : unpack s = takes c r := by unfold unpack; rw [h]
theorem takes_succ_none {c : Nat} {r : List UInt8} (h : take r = none) : takes (c + 1) r = none := by simp [takes, h]
theorem takes_succ_some {c n : Nat} {r q : List UInt8} (h : take r = some (n, q)) : takes (c + 1) r = (takes c q).map fun x => (n :: x.1, x.2) := by
  simp only [takes, h]; cases takes c q <;> rfl

/-- one round more -/
theorem takes_snoc {k n : Nat} {r q z : List UInt8} {l : List Nat} (h : takes k r = some (l, q)) (h2 : take q = some (n, z)) : takes (k + 1) r = some (l ++ [n], z) := by
  induction k generalizing r l with
  | zero =>
    simp only [takes, Option.some.injEq, Prod.mk.injEq] at h
    obtain ⟨rfl, rfl⟩ := h
    rw [takes_succ_some h2]; rfl
  | succ k ih =>
    cases ht : take r with
    | none => rw [takes_succ_none ht] at h; cases h
    | some p =>
      obtain ⟨m, s⟩ := p
      rw [takes_succ_some ht] at h ⊢
      cases hk : takes k s with
      | none => rw [hk] at h; cases h
      | some y =>
        obtain ⟨l', q'⟩ := y
        rw [hk] at h
        simp only [Option.map_some, Option.some.injEq, Prod.mk.injEq] at h
        obtain ⟨rfl, rfl⟩ := h
        rw [ih hk]; rfl
/-- a round that fails: so do all that are longer -/
theorem takes_stop {k c : Nat} {r q : List UInt8} {l : List Nat} (h : takes k r = some (l, q)) (h2 : take q = none) (hc : k < c) : takes c r = none := by
  induction k generalizing r l c with
  | zero =>
    simp only [takes, Option.some.injEq, Prod.mk.injEq] at h
    obtain ⟨_, rfl⟩ := h
    obtain ⟨c, rfl⟩ : ∃ d, c = d + 1 := ⟨c - 1, by omega⟩
    exact takes_succ_none h2
  | succ k ih =>
    obtain ⟨c, rfl⟩ : ∃ d, c = d + 1 := ⟨c - 1, by omega⟩
    cases ht : take r with
    | none => exact takes_succ_none ht
    | some p =>
      obtain ⟨m, s⟩ := p
      rw [takes_succ_some ht] at h ⊢
      cases hk : takes k s with
      | none => rw [hk] at h; cases h
      | some y =>
        obtain ⟨l', q'⟩ := y
        rw [hk] at h
        simp only [Option.map_some, Option.some.injEq, Prod.mk.injEq] at h
        obtain ⟨_, rfl⟩ := h
        rw [ih hk (by omega)]; rfl
/-- the bytes of numbers one behind the other -/
def puts (l : List Nat) : List UInt8 := l.flatMap put
def pack (l : List Nat) : List UInt8 := put l.length ++ puts l
theorem puts_nil : puts [] = [] := rfl
theorem puts_cons (n : Nat) (l : List Nat) : puts (n :: l) = put n ++ puts l := by simp [puts]
theorem puts_snoc (l : List Nat) (n : Nat) : puts (l ++ [n]) = puts l ++ put n := by simp [puts]
theorem takes_puts (l : List Nat) (h : ∀ n ∈ l, n ≤ maxN) (rest : List UInt8) : takes l.length (puts l ++ rest) = some (l, rest) := by
  induction l with
  | nil => rfl
  | cons n l ih =>
    show takes (l.length + 1) _ = _
    rw [puts_cons, List.append_assoc, takes_succ_some (take_put (h n (by simp)) _), ih (fun m hm => h m (by simp [hm]))]
    rfl
theorem takes_some {c : Nat} {r z : List UInt8} {l : List Nat} (h : takes c r = some (l, z)) : r = puts l ++ z ∧ l.length = c ∧ ∀ n ∈ l, n ≤ maxN := by
  induction c generalizing r l with
  | zero =>
    simp only [takes, Option.some.injEq, Prod.mk.injEq] at h
    obtain ⟨rfl, rfl⟩ := h
    exact ⟨rfl, rfl, by simp⟩
  | succ c ih =>
    cases ht : take r with
    | none => rw [takes_succ_none ht] at h; cases h
    | some p =>
      obtain ⟨m, s⟩ := p
      rw [takes_succ_some ht] at h
      cases hk : takes c s with
      | none => rw [hk] at h; cases h
      | some y =>
        obtain ⟨l', q'⟩ := y
        rw [hk] at h
        simp only [Option.map_some, Option.some.injEq, Prod.mk.injEq] at h
        obtain ⟨rfl, rfl⟩ := h
        obtain ⟨h1, h2, h3⟩ := ih hk
        obtain ⟨h4, h5⟩ := take_some ht
        refine ⟨by rw [puts_cons, List.append_assoc, ← h1, ← h4], by simp [h2], ?_⟩
        intro n hn
        rcases List.mem_cons.1 hn with rfl | hn
        · exact h5
        · exact h3 n hn
theorem puts_len (l : List Nat) : l.length ≤ (puts l).length := by
  induction l with
  | nil => simp [puts]
  | cons n l ih => rw [puts_cons, List.length_append, List.length_cons]; have := put_pos n; omega
theorem takes_len {c : Nat} {r z : List UInt8} {l : List Nat} (h : takes c r = some (l, z)) : c + z.length ≤ r.length := by
  obtain ⟨h1, h2, _⟩ := takes_some h
  rw [h1, List.length_append]
  have := puts_len l; omega
theorem unpack_pack (l : List Nat) (hl : l.length ≤ maxN) (h : ∀ n ∈ l, n ≤ maxN) (rest : List UInt8) : unpack (pack l ++ rest) = some (l, rest) := by
  unfold pack
  rw [List.append_assoc, unpack_at (take_put hl _), takes_puts l h]
theorem unpack_some {s rest : List UInt8} {l : List Nat} (h : unpack s = some (l, rest)) : s = pack l ++ rest ∧ l.length ≤ maxN ∧ ∀ n ∈ l, n ≤ maxN := by
  cases ht : take s with
  | none => rw [unpack_none ht] at h; cases h
  | some p =>
    obtain ⟨c, r⟩ := p
    rw [unpack_at ht] at h
    obtain ⟨h1, h2, h3⟩ := takes_some h
    obtain ⟨h4, h5⟩ := take_some ht
    refine ⟨?_, by omega, h3⟩
    unfold pack
    rw [h2, List.append_assoc, ← h1, ← h4]
theorem pack_pos (l : List Nat) : 1 ≤ (pack l).length := by
  unfold pack; rw [List.length_append]; have := put_pos l.length; omega
theorem unpack_cut (l : List Nat) (hl : l.length ≤ maxN) (h : ∀ n ∈ l, n ≤ maxN) : unpack ((pack l).take ((pack l).length - 1)) = none := by
  cases hc : unpack ((pack l).take ((pack l).length - 1)) with
  | none => rfl
  | some p =>
    obtain ⟨m, r⟩ := p
    obtain ⟨h1, h2, h3⟩ := unpack_some hc
    have e : pack l = pack m ++ (r ++ (pack l).drop ((pack l).length - 1)) := by
      rw [← List.append_assoc, ← h1, List.take_append_drop]
    have h4 := unpack_pack l hl h []
    rw [List.append_nil, e, unpack_pack m h2 h3] at h4
    have h5 := pack_pos l
    simp only [Option.some.injEq, Prod.mk.injEq] at h4
    have h6 := congrArg List.length h4.2
    simp only [List.length_append, List.length_drop, List.length_nil] at h6
    omega

/-- the bytes of Go's numbers, or none, if one has none -/
def ok (z : Int) : Prop := 0 ≤ z ∧ z ≤ 1099511627776
def putsI (l : List Int) : List UInt8 := l.flatMap putI
theorem putsI_snoc (l : List Int) (z : Int) : putsI (l ++ [z]) = putsI l ++ putI z := by simp [putsI]
theorem putsI_len (l : List Int) : (putsI l).length ≤ 6 * l.length := by
  induction l with
  | nil => simp [putsI]
  | cons z l ih =>
    have e : putsI (z :: l) = putI z ++ putsI l := by simp [putsI]
    rw [e, List.length_append, List.length_cons]; have := putI_six z; omega
def packI (l : List Int) : List UInt8 := put l.length ++ putsI l
theorem putsI_nat (l : List Nat) (h : ∀ n ∈ l, n ≤ maxN) : putsI (l.map fun n : Nat => (n : Int)) = puts l := by
  induction l with
  | nil => rfl
  | cons n l ih =>
    have e : putsI ((n :: l).map fun n : Nat => (n : Int)) = putI n ++ putsI (l.map fun n : Nat => (n : Int)) := by simp [putsI]
    rw [e, puts_cons, putI_nat (h n (by simp)), ih (fun m hm => h m (by simp [hm]))]
theorem packI_nat (l : List Nat) (h : ∀ n ∈ l, n ≤ maxN) : packI (l.map fun n : Nat => (n : Int)) = pack l := by
  unfold packI pack; rw [putsI_nat l h]; simp
theorem packI_len (l : List Int) (h : l.length ≤ maxN) : (packI l).length ≤ 6 * l.length + 6 := by
  unfold packI; rw [List.length_append]
  have := putsI_len l
  have := put_six h
  omega

/-! the examples -/
theorem put_1 : put 1 = [1] := by rw [put_lo (by decide)]; rfl
theorem put_2 : put 2 = [2] := by rw [put_lo (by decide)]; rfl
theorem put_300 : put 300 = [172, 2] := by rw [put_hi (by decide), put_lo (by decide)]; rfl
theorem pack_ex : packI [1, 300] = [2, 1, 172, 2] := by
  show put 2 ++ putsI [1, 300] = _
  have e : putsI [1, 300] = putI 1 ++ putI 300 := by simp [putsI]
  rw [e, putI_yes (by decide) (by decide), putI_yes (by decide) (by decide)]
  show put 2 ++ (put 1 ++ put 300) = _
  rw [put_1, put_2, put_300]; rfl
theorem take_ex : take [172, 2, 120] = some (300, [120]) := by decide +kernel
end Go.Proofs.Ytcjhaapmehegkaa.Pack
