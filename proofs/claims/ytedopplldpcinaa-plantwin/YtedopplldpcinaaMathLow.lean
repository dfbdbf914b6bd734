/-
  CrcMath, PackMath, TagMath, TagMadeMath: in one text (merge.json).
-/
import Derived.Laws.BitsAllLaws
/-
  The plain mathematics of CRC-32 (no program here): the step by one bit is linear and loses nothing; what follows of sums.
-/
namespace Go.Proofs.Ytedopplldpcinaa.Crc

/-- one bit more -/
def bit (c : Nat) : Nat := if c % 2 = 1 then c / 2 ^^^ 3988292384 else c / 2
/-- k bits more -/
def bitTo : Nat → Nat → Nat
  | 0, c => c
  | k + 1, c => bit (bitTo k c)
/-- one byte more -/
def byteStep (c b : Nat) : Nat := bitTo 8 (c ^^^ b)
/-- the state behind a text, from the state c on -/
def raw (c : Nat) : List UInt8 → Nat
  | [] => c
  | b :: l => raw (byteStep c b.toNat) l
def sum (l : List UInt8) : Nat := raw 4294967295 l ^^^ 4294967295
/-- the four bytes of a number, the lowest one first -/
def four (n : Nat) : List UInt8 := [(n % 256).toUInt8, (n / 256 % 256).toUInt8, (n / 65536 % 256).toUInt8, (n / 16777216 % 256).toUInt8]

theorem xor_lt32 {a b : Nat} (ha : a < 4294967296) (hb : b < 4294967296) : a ^^^ b < 4294967296 := by
  have := Nat.xor_lt_two_pow (n := 32) (x := a) (y := b) (by omega) (by omega); omega
theorem xor_lt8 {a b : Nat} (ha : a < 256) (hb : b < 256) : a ^^^ b < 256 := by
  have := Nat.xor_lt_two_pow (n := 8) (x := a) (y := b) (by omega) (by omega); omega
theorem bit_lt {c : Nat} (h : c < 4294967296) : bit c < 4294967296 := by
  unfold bit; split
  · exact xor_lt32 (by omega) (by omega)
  · omega
theorem bitTo_lt {c : Nat} (k : Nat) (h : c < 4294967296) : bitTo k c < 4294967296 := by
  induction k with
  | zero => exact h
  | succ k ih => exact bit_lt ih
theorem byteStep_lt {c b : Nat} (h : c < 4294967296) (hb : b < 256) : byteStep c b < 4294967296 := bitTo_lt 8 (xor_lt32 h (by omega))
theorem raw_lt {c : Nat} (l : List UInt8) (h : c < 4294967296) : raw c l < 4294967296 := by
  induction l generalizing c with
  | nil => exact h
  | cons b l ih => exact ih (byteStep_lt h b.toNat_lt)
theorem sum_lt (l : List UInt8) : sum l < 4294967296 := xor_lt32 (raw_lt l (by omega)) (by omega)
theorem raw_append (c : Nat) (l m : List UInt8) : raw c (l ++ m) = raw (raw c l) m := by
  induction l generalizing c with
  | nil => rfl
  | cons b l ih => exact ih _

/-! the step is linear -/
theorem xor_mod2 (a b : Nat) : (a ^^^ b) % 2 = (a % 2 + b % 2) % 2 := by
  have h := Nat.xor_mod_two_pow (a := a) (b := b) (n := 1)
  rw [show 2 ^ 1 = 2 from rfl] at h
  rw [h]
  rcases Nat.mod_two_eq_zero_or_one a with ha | ha <;> rcases Nat.mod_two_eq_zero_or_one b with hb | hb <;> rw [ha, hb] <;> rfl
theorem xor_zero {a b : Nat} (h : a ^^^ b = 0) : a = b := by
  apply Nat.eq_of_testBit_eq; intro i
  have h1 : (a ^^^ b).testBit i = false := by rw [h]; exact Nat.zero_testBit i
  rw [Nat.testBit_xor] at h1
  cases ha : a.testBit i <;> cases hb : b.testBit i <;> simp [ha, hb] at h1 <;> rfl
theorem xor_div2 (a b : Nat) : (a ^^^ b) / 2 = a / 2 ^^^ b / 2 := by
  apply Nat.eq_of_testBit_eq; intro i
  rw [Nat.testBit_xor, ← Nat.testBit_succ, ← Nat.testBit_succ, ← Nat.testBit_succ, Nat.testBit_xor]
theorem xor_swap (a b p : Nat) : (a ^^^ p) ^^^ (b ^^^ p) = a ^^^ b := by
  apply Nat.eq_of_testBit_eq; intro i; simp only [Nat.testBit_xor]
  cases a.testBit i <;> cases b.testBit i <;> cases p.testBit i <;> rfl
theorem xor_r (a b p : Nat) : (a ^^^ b) ^^^ p = a ^^^ (b ^^^ p) := Nat.xor_assoc a b p
theorem xor_l (a b p : Nat) : (a ^^^ b) ^^^ p = (a ^^^ p) ^^^ b := by
  rw [Nat.xor_assoc, Nat.xor_comm b p, ← Nat.xor_assoc]
theorem bit_xor (a b : Nat) : bit (a ^^^ b) = bit a ^^^ bit b := by
  unfold bit
  rw [xor_mod2, xor_div2]
  by_cases ha : a % 2 = 1 <;> by_cases hb : b % 2 = 1
  · rw [if_neg (by omega), if_pos ha, if_pos hb, xor_swap]
  · rw [if_pos (by omega), if_pos ha, if_neg hb, xor_l]
  · rw [if_pos (by omega), if_neg ha, if_pos hb, xor_r]
  · rw [if_neg (by omega), if_neg ha, if_neg hb]
theorem bitTo_xor (k a b : Nat) : bitTo k (a ^^^ b) = bitTo k a ^^^ bitTo k b := by
  induction k with
  | zero => rfl
  | succ k ih => show bit (bitTo k _) = _; rw [ih, bit_xor]; rfl
theorem bitTo_add (j k c : Nat) : bitTo (j + k) c = bitTo j (bitTo k c) := by
  induction j with
  | zero => rw [Nat.zero_add]; rfl
  | succ j ih => rw [Nat.succ_add]; show bit (bitTo (j + k) c) = bit (bitTo j (bitTo k c)); rw [ih]

/-- the exclusive or of three texts as long, byte by byte -/
def mix : List UInt8 → List UInt8 → List UInt8 → List UInt8
  | x :: a, y :: b, z :: c => (x ^^^ y ^^^ z) :: mix a b c
  | _, _, _ => []
theorem toNat_mix (x y z : UInt8) : (x ^^^ y ^^^ z).toNat = x.toNat ^^^ y.toNat ^^^ z.toNat := by
  rw [UInt8.toNat_xor, UInt8.toNat_xor]
theorem shuffle3 (p q r x y z : Nat) : (p ^^^ q ^^^ r) ^^^ (x ^^^ y ^^^ z) = (p ^^^ x) ^^^ (q ^^^ y) ^^^ (r ^^^ z) := by
  apply Nat.eq_of_testBit_eq; intro i; simp only [Nat.testBit_xor]
  cases p.testBit i <;> cases q.testBit i <;> cases r.testBit i <;> cases x.testBit i <;> cases y.testBit i <;> cases z.testBit i <;> rfl
theorem raw_mix (a b c : List UInt8) (p q r : Nat) (hab : a.length = b.length) (hac : a.length = c.length) :
    raw (p ^^^ q ^^^ r) (mix a b c) = raw p a ^^^ raw q b ^^^ raw r c := by
  induction a generalizing b c p q r with
  | nil =>
    cases b with
    | nil => cases c with
      | nil => rfl
      | cons z c => simp at hac
    | cons y b => simp at hab
  | cons x a ih =>
    cases b with
    | nil => simp at hab
    | cons y b => cases c with
      | nil => simp at hac
      | cons z c =>
        simp only [List.length_cons, Nat.add_right_cancel_iff] at hab hac
        show raw (byteStep (p ^^^ q ^^^ r) (x ^^^ y ^^^ z).toNat) (mix a b c) = raw (byteStep p x.toNat) a ^^^ raw (byteStep q y.toNat) b ^^^ raw (byteStep r z.toNat) c
        rw [← ih b c _ _ _ hab hac, toNat_mix]
        unfold byteStep
        rw [shuffle3, bitTo_xor, bitTo_xor]
theorem same3 (f : Nat) : f ^^^ f ^^^ f = f := by rw [Nat.xor_self, Nat.zero_xor]
theorem sum_mix (a b c : List UInt8) (hab : a.length = b.length) (hac : a.length = c.length) : sum (mix a b c) = sum a ^^^ sum b ^^^ sum c := by
  unfold sum
  rw [← shuffle3, same3, ← raw_mix a b c _ _ _ hab hac, same3]

/-! the step loses nothing -/
theorem bit_zero : ∀ c, c < 4294967296 → bit c = 0 → c = 0 := by
  intro c hc h
  unfold bit at h
  split at h
  · have := xor_zero h
    omega
  · omega
theorem bit_inj {a b : Nat} (ha : a < 4294967296) (hb : b < 4294967296) (h : bit a = bit b) : a = b := by
  have : bit (a ^^^ b) = 0 := by rw [bit_xor, h, Nat.xor_self]
  exact xor_zero (bit_zero _ (xor_lt32 ha hb) this)
theorem bitTo_inj {a b : Nat} (k : Nat) (ha : a < 4294967296) (hb : b < 4294967296) (h : bitTo k a = bitTo k b) : a = b := by
  induction k with
  | zero => exact h
  | succ k ih => exact ih (bit_inj (bitTo_lt k ha) (bitTo_lt k hb) h)
theorem xor_left_inj {a b c : Nat} (h : a ^^^ c = b ^^^ c) : a = b := by
  have h2 : (a ^^^ c) ^^^ c = (b ^^^ c) ^^^ c := by rw [h]
  rwa [Nat.xor_assoc, Nat.xor_self, Nat.xor_zero, Nat.xor_assoc, Nat.xor_self, Nat.xor_zero] at h2
theorem xor_right_inj {a b c : Nat} (h : c ^^^ a = c ^^^ b) : a = b := by
  rw [Nat.xor_comm c a, Nat.xor_comm c b] at h; exact xor_left_inj h
theorem raw_inj {a b : Nat} (l : List UInt8) (ha : a < 4294967296) (hb : b < 4294967296) (h : raw a l = raw b l) : a = b := by
  induction l generalizing a b with
  | nil => exact h
  | cons x l ih =>
    have h1 := ih (byteStep_lt ha x.toNat_lt) (byteStep_lt hb x.toNat_lt) h
    have hx := x.toNat_lt
    exact xor_left_inj (bitTo_inj 8 (xor_lt32 ha (by omega)) (xor_lt32 hb (by omega)) h1)
/-- one byte that is another one makes another state -/
theorem raw_one (c : Nat) (p s : List UInt8) (x y : UInt8) (hc : c < 4294967296) (h : raw c (p ++ x :: s) = raw c (p ++ y :: s)) : x = y := by
  rw [raw_append, raw_append] at h
  have hp := raw_lt p hc
  have hx := x.toNat_lt
  have hy := y.toNat_lt
  have h1 := raw_inj s (byteStep_lt hp hx) (byteStep_lt hp hy) h
  have h2 := xor_right_inj (bitTo_inj 8 (xor_lt32 hp (by omega)) (xor_lt32 hp (by omega)) h1)
  exact UInt8.toNat_inj.1 h2
theorem sum_one (p s : List UInt8) (x y : UInt8) (h : sum (p ++ x :: s) = sum (p ++ y :: s)) : x = y :=
  raw_one 4294967295 p s x y (by omega) (xor_left_inj h)

/-! a sum behind its text -/
theorem bit_even (c : Nat) : bit (2 * c) = c := by unfold bit; rw [if_neg (by omega)]; omega
theorem bitTo_shift (c : Nat) : bitTo 8 (256 * c) = c := by
  have e : 256 * c = 2 * (2 * (2 * (2 * (2 * (2 * (2 * (2 * c))))))) := by omega
  rw [e]; show bit (bit (bit (bit (bit (bit (bit (bit (2 * (2 * (2 * (2 * (2 * (2 * (2 * (2 * c))))))))))))))) = c
  simp only [bit_even]
theorem xor_split (q r k : Nat) (hr : r < 2 ^ k) : 2 ^ k * q + r = 2 ^ k * q ^^^ r := by
  rw [Nat.two_pow_add_eq_or_of_lt hr]
  apply Nat.eq_of_testBit_eq; intro i
  rw [Nat.testBit_or, Nat.testBit_xor]
  by_cases hi : i < k
  · rw [Nat.testBit_two_pow_mul]; simp [show ¬ k ≤ i from by omega]
  · have : r.testBit i = false := Nat.testBit_lt_two_pow (Nat.lt_of_lt_of_le hr (Nat.pow_le_pow_right (by omega) (by omega)))
    rw [this]; simp
theorem byte_of (n : Nat) (_h : n < 256) : (n.toUInt8).toNat = n := by
  rw [Nat.toUInt8_eq, UInt8.toNat_ofNat']; omega
/-- eight bits of a state with the bytes q above the byte r laid onto it -/
theorem bitTo_byte (c q r : Nat) (hr : r < 256) : bitTo 8 (c ^^^ (256 * q + r)) = bitTo 8 (c ^^^ r) ^^^ q := by
  rw [show 256 * q + r = 256 * q ^^^ r from xor_split q r 8 hr, ← Nat.xor_assoc, xor_l, bitTo_xor, bitTo_shift]
theorem raw_four (c n : Nat) (hn : n < 4294967296) : raw c (four n) = bitTo 32 (c ^^^ n) := by
  have e1 : n = 256 * (n / 256) + n % 256 := by omega
  have e2 : n / 256 = 256 * (n / 65536) + n / 256 % 256 := by omega
  have e3 : n / 65536 = 256 * (n / 16777216) + n / 65536 % 256 := by omega
  show byteStep (byteStep (byteStep (byteStep c _) _) _) _ = _
  rw [byte_of _ (by omega), byte_of _ (by omega), byte_of _ (by omega), byte_of _ (by omega)]
  rw [show (32 : Nat) = 24 + 8 from rfl, bitTo_add 24 8]
  conv => rhs; rw [e1]
  rw [bitTo_byte c _ _ (by omega)]
  rw [show (24 : Nat) = 16 + 8 from rfl, bitTo_add 16 8]
  conv => rhs; rw [e2]
  rw [bitTo_byte _ _ _ (by omega)]
  rw [show (16 : Nat) = 8 + 8 from rfl, bitTo_add 8 8]
  conv => rhs; rw [e3]
  rw [bitTo_byte _ _ _ (by omega)]
  rw [show n / 16777216 % 256 = n / 16777216 from by omega]
  rfl
theorem sum_behind (l : List UInt8) : sum (l ++ four (sum l)) = sum (four 0) := by
  have h : raw 4294967295 (l ++ four (sum l)) = raw 4294967295 (four 0) := by
    rw [raw_append, raw_four _ _ (sum_lt l), raw_four _ _ (by omega)]
    unfold sum
    rw [← Nat.xor_assoc, Nat.xor_self, Nat.zero_xor, Nat.xor_zero]
  unfold sum at h ⊢
  rw [h]

/-! noughts -/
theorem raw_zeros (c n : Nat) : raw c (List.replicate n 0) = bitTo (8 * n) c := by
  induction n generalizing c with
  | zero => rfl
  | succ n ih =>
    show raw (byteStep c 0) (List.replicate n 0) = _
    rw [ih, show 8 * (n + 1) = 8 * n + 8 from by omega, bitTo_add]
    unfold byteStep; rw [Nat.xor_zero]
/-- the state comes back to where it began at none of the first n bytes more -/
def never (c0 : Nat) : Nat → Nat → Bool
  | 0, _ => true
  | n + 1, c => (bitTo 8 c != c0) && never c0 n (bitTo 8 c)
theorem never_spec (c0 n c : Nat) (h : never c0 n c = true) (d : Nat) (h1 : 1 ≤ d) (h2 : d ≤ n) : bitTo (8 * d) c ≠ c0 := by
  induction n generalizing c d with
  | zero => omega
  | succ n ih =>
    simp only [never, Bool.and_eq_true, bne_iff_ne] at h
    cases d with
    | zero => omega
    | succ d =>
      by_cases hd : d = 0
      · subst hd; exact h.1
      · have := ih (bitTo 8 c) h.2 d (by omega) (by omega)
        rwa [← bitTo_add] at this
theorem never_200 : never 4294967295 200 4294967295 = true := by decide +kernel
theorem zeros_apart (a b : Nat) (hlt : a < b) (hb : b ≤ 200) : sum (List.replicate a 0) ≠ sum (List.replicate b 0) := by
  intro h
  have h1 := xor_left_inj (show raw 4294967295 (List.replicate a 0) ^^^ _ = raw 4294967295 (List.replicate b 0) ^^^ _ from h)
  rw [raw_zeros, raw_zeros, show 8 * b = 8 * a + 8 * (b - a) from by omega, bitTo_add] at h1
  have h2 := bitTo_inj (8 * a) (by omega) (bitTo_lt _ (by omega)) h1
  exact never_spec _ _ _ never_200 (b - a) (by omega) (by omega) h2.symm
theorem zeros_iff (a b : Nat) (ha : a ≤ 200) (hb : b ≤ 200) : sum (List.replicate a 0) = sum (List.replicate b 0) ↔ a = b := by
  constructor
  · intro h
    rcases Nat.lt_trichotomy a b with h1 | h1 | h1
    · exact absurd h (zeros_apart a b h1 hb)
    · exact h1
    · exact absurd h.symm (zeros_apart b a h1 ha)
  · rintro rfl; rfl

/-! the examples -/
theorem sum_digits : sum [49, 50, 51, 52, 53, 54, 55, 56, 57] = 3421780262 := by decide +kernel
theorem sum_nil : sum [] = 0 := by decide +kernel

/-! int's bits, of numbers that are not negative -/
theorem i64_small (n : Nat) (h : n < 9223372036854775808) : IntKind.i64.wrap (n : Int) = n := by
  simp [IntKind.wrap, IntKind.bits, IntKind.signed]; omega
theorem i64_xor_nat (a b : Nat) (ha : a < 4294967296) (hb : b < 4294967296) : bits .xor .i64 (a : Int) (b : Int) = ((a ^^^ b : Nat) : Int) := by
  show IntKind.i64.wrap ((BitVec.ofInt 64 (a : Int) ^^^ BitVec.ofInt 64 (b : Int)).toNat : Int) = _
  rw [BitVec.toNat_xor, ofInt_u64 a (by omega), ofInt_u64 b (by omega)]
  have := xor_lt32 ha hb
  exact i64_small _ (by omega)
theorem i64_and_nat (a b : Nat) (ha : a < 4294967296) (hb : b < 4294967296) : bits .and .i64 (a : Int) (b : Int) = ((a &&& b : Nat) : Int) := by
  show IntKind.i64.wrap ((BitVec.ofInt 64 (a : Int) &&& BitVec.ofInt 64 (b : Int)).toNat : Int) = _
  rw [BitVec.toNat_and, ofInt_u64 a (by omega), ofInt_u64 b (by omega)]
  have := Nat.and_le_left (n := a) (m := b)
  exact i64_small _ (by omega)
end Go.Proofs.Ytedopplldpcinaa.Crc
/-
  The plain mathematics of layer 2 (no program here): numbers to the base 128 as bytes; what is put is taken, and what is taken was put.
-/
namespace Go.Proofs.Ytedopplldpcinaa.Pack

def maxN : Nat := 1099511627776
/-- the digits of n, the lowest one first -/
def putF : Nat → Nat → List UInt8
  | 0, n => [n.toUInt8]
  | f + 1, n => if n < 128 then [n.toUInt8] else (n % 128 + 128).toUInt8 :: putF f (n / 128)
def put (n : Nat) : List UInt8 := putF n n
theorem putF_lo {f n : Nat} (h : n < 128) : putF f n = [n.toUInt8] := by
  cases f with
  | zero => rfl
  | succ f => unfold putF; rw [if_pos h]
theorem putF_fuel (f : Nat) : ∀ g n, n ≤ f → n ≤ g → putF f n = putF g n := by
  induction f with
  | zero => intro g n hf hg; rw [putF_lo (by omega), putF_lo (by omega)]
  | succ f ih =>
    intro g n hf hg
    by_cases h : n < 128
    · rw [putF_lo h, putF_lo h]
    · obtain ⟨g, rfl⟩ : ∃ d, g = d + 1 := ⟨g - 1, by omega⟩
      unfold putF
      rw [if_neg h, if_neg h, ih g (n / 128) (by omega) (by omega)]
theorem put_lo {n : Nat} (h : n < 128) : put n = [n.toUInt8] := putF_lo h
theorem put_hi {n : Nat} (h : ¬ n < 128) : put n = (n % 128 + 128).toUInt8 :: put (n / 128) := by
  obtain ⟨f, hf⟩ : ∃ f, n = f + 1 := ⟨n - 1, by omega⟩
  have e : put n = putF (f + 1) n := by unfold put; rw [← hf]
  rw [e]
  show (if n < 128 then _ else (n % 128 + 128).toUInt8 :: putF f (n / 128)) = _
  rw [if_neg h, putF_fuel f (n / 128) (n / 128) (by omega) (Nat.le_refl _)]
  rfl
theorem u8_nat (n : Nat) (h : n < 256) : (n.toUInt8).toNat = n := by rw [Nat.toUInt8_eq, UInt8.toNat_ofNat']; omega
theorem u8_back (b : UInt8) : (b.toNat).toUInt8 = b := by rw [Nat.toUInt8_eq]; exact UInt8.ofNat_toNat
theorem put_pos (n : Nat) : 1 ≤ (put n).length := by
  by_cases h : n < 128
  · rw [put_lo h]; simp
  · rw [put_hi h]; simp
theorem put_ne (n : Nat) : put n ≠ [] := by intro h; have := put_pos n; rw [h] at this; simp at this
theorem put_len (n : Nat) (d : Nat) (h : n < 128 ^ (d + 1)) : (put n).length ≤ d + 1 := by
  induction d generalizing n with
  | zero => rw [put_lo (by simpa using h)]; simp
  | succ d ih =>
    by_cases hn : n < 128
    · rw [put_lo hn]; simp
    · rw [put_hi hn]
      have := ih (n / 128) (by rw [Nat.pow_succ] at h; exact Nat.div_lt_of_lt_mul (by rw [Nat.mul_comm]; exact h))
      simp; omega
theorem put_six {n : Nat} (h : n ≤ maxN) : (put n).length ≤ 6 := put_len n 5 (by unfold maxN at h; omega)

/-- the bytes of any number of Go's: none, if it is not from 0 to maxN -/
def putI (z : Int) : List UInt8 := if 0 ≤ z ∧ z ≤ 1099511627776 then put z.toNat else []
theorem putI_nat {n : Nat} (h : n ≤ maxN) : putI (n : Int) = put n := by unfold maxN at h; unfold putI; rw [if_pos (by omega)]; rfl
theorem putI_yes {z : Int} (h0 : 0 ≤ z) (h1 : z ≤ 1099511627776) : putI z = put z.toNat := by unfold putI; rw [if_pos ⟨h0, h1⟩]
theorem putI_no {z : Int} (h : z < 0 ∨ 1099511627776 < z) : putI z = [] := by unfold putI; rw [if_neg (by omega)]
theorem putI_six (z : Int) : (putI z).length ≤ 6 := by
  unfold putI; split
  · exact put_six (by unfold maxN; omega)
  · simp

/-- what a text begins with: i digits were read, which make s; the next one's weight is u -/
def tk : Nat → Nat → Nat → List UInt8 → Option (Nat × List UInt8)
  | _, _, _, [] => none
  | i, s, u, b :: l =>
    if 6 ≤ i then none
    else if 128 ≤ b.toNat then tk (i + 1) (s + b.toNat % 128 * u) (u * 128) l
    else if (0 < b.toNat ∨ i = 0) ∧ s + b.toNat * u ≤ maxN then some (s + b.toNat * u, l) else none
def take (l : List UInt8) : Option (Nat × List UInt8) := tk 0 0 1 l

theorem pow_six {i : Nat} (h : 6 ≤ i) : 4398046511104 ≤ 128 ^ i := by
  have := Nat.pow_le_pow_right (n := 128) (by omega) h
  simpa using this
theorem mul_ge {a b c : Nat} (h : 0 < a) (hc : c ≤ b) : c ≤ a * b := Nat.le_trans hc (Nat.le_mul_of_pos_left b h)

theorem tk_put (n i s : Nat) (rest : List UInt8) (hn : 0 < n ∨ i = 0) (hs : s + n * 128 ^ i ≤ maxN) :
    tk i s (128 ^ i) (put n ++ rest) = some (s + n * 128 ^ i, rest) := by
  induction n using Nat.strongRecOn generalizing i s with
  | ind n ih =>
    have hi : ¬ 6 ≤ i := by
      intro h6
      rcases hn with hn | hn
      · have := mul_ge hn (pow_six h6); unfold maxN at hs; omega
      · omega
    by_cases h : n < 128
    · rw [put_lo h]
      show tk i s (128 ^ i) (n.toUInt8 :: rest) = _
      unfold tk
      rw [if_neg hi, u8_nat n (by omega), if_neg (by omega), if_pos ⟨hn, hs⟩]
    · rw [put_hi h]
      show tk i s (128 ^ i) ((n % 128 + 128).toUInt8 :: (put (n / 128) ++ rest)) = _
      unfold tk
      have e1 : (n % 128 + 128) % 128 = n % 128 := by omega
      rw [if_neg hi, u8_nat _ (by omega), if_pos (by omega), e1, ← Nat.pow_succ]
      have e2 : n % 128 * 128 ^ i + n / 128 * 128 ^ (i + 1) = n * 128 ^ i := by
        have : n / 128 * 128 ^ (i + 1) = n / 128 * 128 * 128 ^ i := by rw [Nat.pow_succ, Nat.mul_comm (128 ^ i) 128, Nat.mul_assoc]
        rw [this, ← Nat.add_mul]
        congr 1; omega
      have e3 : s + n % 128 * 128 ^ i + n / 128 * 128 ^ (i + 1) = s + n * 128 ^ i := by omega
      rw [ih (n / 128) (by omega) (i + 1) _ (.inl (by omega)) (by omega), e3]
theorem take_put {n : Nat} (h : n ≤ maxN) (rest : List UInt8) : take (put n ++ rest) = some (n, rest) := by
  have := tk_put n 0 0 rest (.inr rfl) (by simpa using h)
  simpa [take] using this

theorem tk_some (l : List UInt8) (i s n : Nat) (rest : List UInt8) (h : tk i s (128 ^ i) l = some (n, rest)) :
    ∃ m, l = put m ++ rest ∧ n = s + m * 128 ^ i ∧ (0 < m ∨ i = 0) ∧ n ≤ maxN := by
  induction l generalizing i s with
  | nil => simp [tk] at h
  | cons b l ih =>
    have hb := b.toNat_lt
    unfold tk at h
    by_cases h6 : 6 ≤ i
    · rw [if_pos h6] at h; cases h
    · rw [if_neg h6] at h
      by_cases h128 : 128 ≤ b.toNat
      · rw [if_pos h128, ← Nat.pow_succ] at h
        obtain ⟨m, hl, hn, hm, hmax⟩ := ih _ _ h
        refine ⟨b.toNat % 128 + 128 * m, ?_, ?_, .inl (by omega), hmax⟩
        · rw [put_hi (by omega), hl]
          show b :: (put m ++ rest) = _ :: (put _ ++ rest)
          have e1 : (b.toNat % 128 + 128 * m) % 128 + 128 = b.toNat := by omega
          have e2 : (b.toNat % 128 + 128 * m) / 128 = m := by omega
          rw [e1, e2, u8_back]
        · rw [hn, Nat.pow_succ, Nat.add_mul, Nat.add_assoc]
          congr 2
          rw [Nat.mul_comm (128 ^ i) 128, ← Nat.mul_assoc, Nat.mul_comm m 128]
      · rw [if_neg h128] at h
        by_cases hc : (0 < b.toNat ∨ i = 0) ∧ s + b.toNat * 128 ^ i ≤ maxN
        · rw [if_pos hc] at h
          cases h
          refine ⟨b.toNat, ?_, rfl, hc.1, hc.2⟩
          rw [put_lo (by omega), u8_back]; rfl
        · rw [if_neg hc] at h; cases h
theorem take_some {l : List UInt8} {n : Nat} {rest : List UInt8} (h : take l = some (n, rest)) : l = put n ++ rest ∧ n ≤ maxN := by
  obtain ⟨m, h1, h2, _, h4⟩ := tk_some l 0 0 n rest (by simpa [take] using h)
  have : n = m := by simpa using h2
  subst this
  exact ⟨h1, h4⟩
theorem take_len {l : List UInt8} {n : Nat} {rest : List UInt8} (h : take l = some (n, rest)) : rest.length + 1 ≤ l.length := by
  rw [(take_some h).1, List.length_append]
  have := put_pos n; omega
theorem take_nil : take [] = none := rfl

/-- put loses nothing, and no put begins another one -/
theorem put_inj {a b : Nat} {s t : List UInt8} (ha : a ≤ maxN) (hb : b ≤ maxN) (h : put a ++ s = put b ++ t) : a = b ∧ s = t := by
  have h1 := take_put ha s
  rw [h, take_put hb t] at h1
  cases h1; exact ⟨rfl, rfl⟩
theorem take_cut {n : Nat} (h : n ≤ maxN) : take ((put n).take ((put n).length - 1)) = none := by
  cases hc : take ((put n).take ((put n).length - 1)) with
  | none => rfl
  | some p =>
    obtain ⟨m, r⟩ := p
    obtain ⟨h1, h2⟩ := take_some hc
    have e : put n = put m ++ (r ++ (put n).drop ((put n).length - 1)) := by
      rw [← List.append_assoc, ← h1, List.take_append_drop]
    have h3 := put_inj (s := []) h h2 (by rw [List.append_nil]; exact e)
    have hl := put_pos n
    have h4 := congrArg List.length h3.2
    simp at h4
    omega

/-- c numbers, one behind the other -/
def takes : Nat → List UInt8 → Option (List Nat × List UInt8)
  | 0, r => some ([], r)
  | c + 1, r => match take r with
    | none => none
    | some (n, q) => match takes c q with
      | none => none
      | some (l, z) => some (n :: l, z)
def unpack (s : List UInt8) : Option (List Nat × List UInt8) := match take s with
  | none => none
  | some (c, r) => takes c r
theorem unpack_none {s : List UInt8} (h : take s = none) : unpack s = none := by unfold unpack; rw [h]
theorem unpack_at {s r : List UInt8} {c : Nat} (h : take s = some (c, r)) : unpack s = takes c r := by unfold unpack; rw [h]
theorem takes_succ_none {c : Nat} {r : List UInt8} (h : take r = none) : takes (c + 1) r = none := by simp [takes, h]
theorem takes_succ_some {c n : Nat} {r q : List UInt8} (h : take r = some (n, q)) : takes (c + 1) r = (takes c q).map fun x => (n :: x.1, x.2) := by
  simp only [takes, h]; cases takes c q <;> rfl

/-- one round more -/
theorem takes_snoc {k n : Nat} {r q z : List UInt8} {l : List Nat} (h : takes k r = some (l, q)) (h2 : take q = some (n, z)) : takes (k + 1) r = some (l ++ [n], z) := by
  induction k generalizing r l with
  | zero =>
    simp only [takes, Option.some.injEq, Prod.mk.injEq] at h
    obtain ⟨rfl, rfl⟩ := h
    rw [takes_succ_some h2]; rfl
  | succ k ih =>
    cases ht : take r with
    | none => rw [takes_succ_none ht] at h; cases h
    | some p =>
      obtain ⟨m, s⟩ := p
      rw [takes_succ_some ht] at h ⊢
      cases hk : takes k s with
      | none => rw [hk] at h; cases h
      | some y =>
        obtain ⟨l', q'⟩ := y
        rw [hk] at h
        simp only [Option.map_some, Option.some.injEq, Prod.mk.injEq] at h
        obtain ⟨rfl, rfl⟩ := h
        rw [ih hk]; rfl
/-- a round that fails: so do all that are longer -/
theorem takes_stop {k c : Nat} {r q : List UInt8} {l : List Nat} (h : takes k r = some (l, q)) (h2 : take q = none) (hc : k < c) : takes c r = none := by
  induction k generalizing r l c with
  | zero =>
    simp only [takes, Option.some.injEq, Prod.mk.injEq] at h
    obtain ⟨_, rfl⟩ := h
    obtain ⟨c, rfl⟩ : ∃ d, c = d + 1 := ⟨c - 1, by omega⟩
    exact takes_succ_none h2
  | succ k ih =>
    obtain ⟨c, rfl⟩ : ∃ d, c = d + 1 := ⟨c - 1, by omega⟩
    cases ht : take r with
    | none => exact takes_succ_none ht
    | some p =>
      obtain ⟨m, s⟩ := p
      rw [takes_succ_some ht] at h ⊢
      cases hk : takes k s with
      | none => rw [hk] at h; cases h
      | some y =>
        obtain ⟨l', q'⟩ := y
        rw [hk] at h
        simp only [Option.map_some, Option.some.injEq, Prod.mk.injEq] at h
        obtain ⟨_, rfl⟩ := h
        rw [ih hk (by omega)]; rfl
/-- the bytes of numbers one behind the other -/
def puts (l : List Nat) : List UInt8 := l.flatMap put
def pack (l : List Nat) : List UInt8 := put l.length ++ puts l
theorem puts_nil : puts [] = [] := rfl
theorem puts_cons (n : Nat) (l : List Nat) : puts (n :: l) = put n ++ puts l := by simp [puts]
theorem puts_snoc (l : List Nat) (n : Nat) : puts (l ++ [n]) = puts l ++ put n := by simp [puts]
theorem takes_puts (l : List Nat) (h : ∀ n ∈ l, n ≤ maxN) (rest : List UInt8) : takes l.length (puts l ++ rest) = some (l, rest) := by
  induction l with
  | nil => rfl
  | cons n l ih =>
    show takes (l.length + 1) _ = _
    rw [puts_cons, List.append_assoc, takes_succ_some (take_put (h n (by simp)) _), ih (fun m hm => h m (by simp [hm]))]
    rfl
theorem takes_some {c : Nat} {r z : List UInt8} {l : List Nat} (h : takes c r = some (l, z)) : r = puts l ++ z ∧ l.length = c ∧ ∀ n ∈ l, n ≤ maxN := by
  induction c generalizing r l with
  | zero =>
    simp only [takes, Option.some.injEq, Prod.mk.injEq] at h
    obtain ⟨rfl, rfl⟩ := h
    exact ⟨rfl, rfl, by simp⟩
  | succ c ih =>
    cases ht : take r with
    | none => rw [takes_succ_none ht] at h; cases h
    | some p =>
      obtain ⟨m, s⟩ := p
      rw [takes_succ_some ht] at h
      cases hk : takes c s with
      | none => rw [hk] at h; cases h
      | some y =>
        obtain ⟨l', q'⟩ := y
        rw [hk] at h
        simp only [Option.map_some, Option.some.injEq, Prod.mk.injEq] at h
        obtain ⟨rfl, rfl⟩ := h
        obtain ⟨h1, h2, h3⟩ := ih hk
        obtain ⟨h4, h5⟩ := take_some ht
        refine ⟨by rw [puts_cons, List.append_assoc, ← h1, ← h4], by simp [h2], ?_⟩
        intro n hn
        rcases List.mem_cons.1 hn with rfl | hn
        · exact h5
        · exact h3 n hn
theorem puts_len (l : List Nat) : l.length ≤ (puts l).length := by
  induction l with
  | nil => simp [puts]
  | cons n l ih => rw [puts_cons, List.length_append, List.length_cons]; have := put_pos n; omega
theorem takes_len {c : Nat} {r z : List UInt8} {l : List Nat} (h : takes c r = some (l, z)) : c + z.length ≤ r.length := by
  obtain ⟨h1, h2, _⟩ := takes_some h
  rw [h1, List.length_append]
  have := puts_len l; omega
theorem unpack_pack (l : List Nat) (hl : l.length ≤ maxN) (h : ∀ n ∈ l, n ≤ maxN) (rest : List UInt8) : unpack (pack l ++ rest) = some (l, rest) := by
  unfold pack
  rw [List.append_assoc, unpack_at (take_put hl _), takes_puts l h]
theorem unpack_some {s rest : List UInt8} {l : List Nat} (h : unpack s = some (l, rest)) : s = pack l ++ rest ∧ l.length ≤ maxN ∧ ∀ n ∈ l, n ≤ maxN := by
  cases ht : take s with
  | none => rw [unpack_none ht] at h; cases h
  | some p =>
    obtain ⟨c, r⟩ := p
    rw [unpack_at ht] at h
    obtain ⟨h1, h2, h3⟩ := takes_some h
    obtain ⟨h4, h5⟩ := take_some ht
    refine ⟨?_, by omega, h3⟩
    unfold pack
    rw [h2, List.append_assoc, ← h1, ← h4]
theorem pack_pos (l : List Nat) : 1 ≤ (pack l).length := by
  unfold pack; rw [List.length_append]; have := put_pos l.length; omega
theorem unpack_cut (l : List Nat) (hl : l.length ≤ maxN) (h : ∀ n ∈ l, n ≤ maxN) : unpack ((pack l).take ((pack l).length - 1)) = none := by
  cases hc : unpack ((pack l).take ((pack l).length - 1)) with
  | none => rfl
  | some p =>
    obtain ⟨m, r⟩ := p
    obtain ⟨h1, h2, h3⟩ := unpack_some hc
    have e : pack l = pack m ++ (r ++ (pack l).drop ((pack l).length - 1)) := by
      rw [← List.append_assoc, ← h1, List.take_append_drop]
    have h4 := unpack_pack l hl h []
    rw [List.append_nil, e, unpack_pack m h2 h3] at h4
    have h5 := pack_pos l
    simp only [Option.some.injEq, Prod.mk.injEq] at h4
    have h6 := congrArg List.length h4.2
    simp only [List.length_append, List.length_drop, List.length_nil] at h6
    omega

/-- the bytes of Go's numbers, or none, if one has none -/
def ok (z : Int) : Prop := 0 ≤ z ∧ z ≤ 1099511627776
def putsI (l : List Int) : List UInt8 := l.flatMap putI
theorem putsI_snoc (l : List Int) (z : Int) : putsI (l ++ [z]) = putsI l ++ putI z := by simp [putsI]
theorem putsI_len (l : List Int) : (putsI l).length ≤ 6 * l.length := by
  induction l with
  | nil => simp [putsI]
  | cons z l ih =>
    have e : putsI (z :: l) = putI z ++ putsI l := by simp [putsI]
    rw [e, List.length_append, List.length_cons]; have := putI_six z; omega
def packI (l : List Int) : List UInt8 := put l.length ++ putsI l
theorem putsI_nat (l : List Nat) (h : ∀ n ∈ l, n ≤ maxN) : putsI (l.map fun n : Nat => (n : Int)) = puts l := by
  induction l with
  | nil => rfl
  | cons n l ih =>
    have e : putsI ((n :: l).map fun n : Nat => (n : Int)) = putI n ++ putsI (l.map fun n : Nat => (n : Int)) := by simp [putsI]
    rw [e, puts_cons, putI_nat (h n (by simp)), ih (fun m hm => h m (by simp [hm]))]
theorem packI_nat (l : List Nat) (h : ∀ n ∈ l, n ≤ maxN) : packI (l.map fun n : Nat => (n : Int)) = pack l := by
  unfold packI pack; rw [putsI_nat l h]; simp
theorem packI_len (l : List Int) (h : l.length ≤ maxN) : (packI l).length ≤ 6 * l.length + 6 := by
  unfold packI; rw [List.length_append]
  have := putsI_len l
  have := put_six h
  omega

/-! the examples -/
theorem put_1 : put 1 = [1] := by rw [put_lo (by decide)]; rfl
theorem put_2 : put 2 = [2] := by rw [put_lo (by decide)]; rfl
theorem put_300 : put 300 = [172, 2] := by rw [put_hi (by decide), put_lo (by decide)]; rfl
theorem pack_ex : packI [1, 300] = [2, 1, 172, 2] := by
  show put 2 ++ putsI [1, 300] = _
  have e : putsI [1, 300] = putI 1 ++ putI 300 := by simp [putsI]
  rw [e, putI_yes (by decide) (by decide), putI_yes (by decide) (by decide)]
  show put 2 ++ (put 1 ++ put 300) = _
  rw [put_1, put_2, put_300]; rfl
theorem take_ex : take [172, 2, 120] = some (300, [120]) := by decide +kernel
end Go.Proofs.Ytedopplldpcinaa.Pack
/-
  Records and their tags, as plain functions: what is right, what is encoded, what is decoded; what is encoded is decoded; one byte changed makes none.
-/
namespace Go.Proofs.Ytedopplldpcinaa.Tag
open Go.Proofs.Ytedopplldpcinaa.Pack Go.Proofs.Ytedopplldpcinaa.Crc

/-! ### C1 -/
def rise : Int → List Int → Bool
  | _, [] => true
  | last, k :: r => decide (last < k) && decide (k < 64) && rise k r
def place (v : Int) : Bool := decide (-1 ≤ v) && decide (v < 512)
def places : List Int → Bool
  | [] => true
  | v :: r => place v && places r
def keysOk (l : List Int) : Bool := decide (1 ≤ l.length) && decide (l.length ≤ 8) && rise (-1) l
def valsOk (k : Int) (ks vs : List Int) : Bool := if k = 1 then decide (vs.length = 0) else if k = 2 then decide (vs.length = ks.length) && places vs else false
def seqOk (s : Int) : Bool := decide (0 ≤ s) && decide (s ≤ 1099511627776)
def right (k s : Int) (ks vs : List Int) : Bool := seqOk s && keysOk ks && valsOk k ks vs

theorem rise_mem {last : Int} {l : List Int} (h : rise last l = true) (hl : -1 ≤ last) : ∀ z ∈ l, 0 ≤ z ∧ z < 64 := by
  induction l generalizing last with
  | nil => intro z hz; simp at hz
  | cons k r ih =>
    simp only [rise, Bool.and_eq_true, decide_eq_true_eq] at h
    intro z hz
    rcases List.mem_cons.1 hz with rfl | hz
    · omega
    · exact ih h.2 (by omega) z hz
theorem places_mem {l : List Int} (h : places l = true) : ∀ z ∈ l, -1 ≤ z ∧ z < 512 := by
  induction l with
  | nil => intro z hz; simp at hz
  | cons k r ih =>
    simp only [places, place, Bool.and_eq_true, decide_eq_true_eq] at h
    intro z hz
    rcases List.mem_cons.1 hz with rfl | hz
    · omega
    · exact ih h.2 z hz
theorem right_parts {k s : Int} {ks vs : List Int} (h : right k s ks vs = true) :
    (0 ≤ s ∧ s ≤ 1099511627776) ∧ (1 ≤ ks.length ∧ ks.length ≤ 8 ∧ ∀ z ∈ ks, 0 ≤ z ∧ z < 64) ∧ (k = 1 ∨ k = 2) ∧ vs.length ≤ 8 ∧ ∀ z ∈ vs, -1 ≤ z ∧ z < 512 := by
  simp only [right, seqOk, keysOk, Bool.and_eq_true, decide_eq_true_eq] at h
  obtain ⟨⟨hs, ⟨h1, h8⟩, hr⟩, hv⟩ := h
  refine ⟨hs, ⟨h1, h8, rise_mem hr (by omega)⟩, ?_⟩
  unfold valsOk at hv
  by_cases h1 : k = 1
  · rw [if_pos h1] at hv
    have hv0 : vs = [] := List.length_eq_zero_iff.1 (by simpa using hv)
    subst hv0
    exact ⟨.inl h1, by simp, by simp⟩
  · rw [if_neg h1] at hv
    by_cases h2 : k = 2
    · rw [if_pos h2] at hv
      simp only [Bool.and_eq_true, decide_eq_true_eq] at hv
      exact ⟨.inr h2, by omega, places_mem hv.2⟩
    · rw [if_neg h2] at hv; simp at hv

/-! ### C2 -/
def up (vs : List Int) : List Int := vs.map (· + 1)
def down (vs : List Int) : List Int := vs.map (· - 1)
theorem up_length (vs : List Int) : (up vs).length = vs.length := by simp [up]
theorem down_up (vs : List Int) : down (up vs) = vs := by
  unfold down up; rw [List.map_map]
  have : ((fun x : Int => x - 1) ∘ fun x => x + 1) = id := by funext x; simp
  rw [this, List.map_id]
def body (k s : Int) (ks vs : List Int) : List UInt8 := packI [k, s] ++ packI ks ++ packI (up vs)
def tagOf (k s : Int) (ks vs : List Int) (data : List UInt8) : List UInt8 := body k s ks vs ++ four (sum (body k s ks vs ++ data))
def enc (k s : Int) (ks vs : List Int) (data : List UInt8) : Option (List UInt8) := if right k s ks vs = true ∧ data.length ≤ 16 then some (tagOf k s ks vs data) else none
theorem enc_some {k s : Int} {ks vs : List Int} {data t : List UInt8} (h : enc k s ks vs data = some t) : right k s ks vs = true ∧ data.length ≤ 16 ∧ t = tagOf k s ks vs data := by
  unfold enc at h
  by_cases hc : right k s ks vs = true ∧ data.length ≤ 16
  · rw [if_pos hc] at h; injection h with h; exact ⟨hc.1, hc.2, h.symm⟩
  · rw [if_neg hc] at h; cases h
theorem enc_yes {k s : Int} {ks vs : List Int} {data : List UInt8} (h : right k s ks vs = true) (hd : data.length ≤ 16) : enc k s ks vs data = some (tagOf k s ks vs data) := by
  unfold enc; rw [if_pos ⟨h, hd⟩]
theorem enc_no {k s : Int} {ks vs : List Int} {data : List UInt8} (h : right k s ks vs = false) : enc k s ks vs data = none := by
  unfold enc; rw [if_neg (by simp [h])]
theorem enc_long {k s : Int} {ks vs : List Int} {data : List UInt8} (h : 16 < data.length) : enc k s ks vs data = none := by
  unfold enc; rw [if_neg (by omega)]

/-- integers from 0 on, as numbers -/
def nats (l : List Int) : List Nat := l.map Int.toNat
theorem nats_back {l : List Int} (h : ∀ z ∈ l, 0 ≤ z) : (nats l).map (fun n : Nat => (n : Int)) = l := by
  unfold nats; rw [List.map_map]
  conv => rhs; rw [← List.map_id l]
  exact List.map_congr_left fun z hz => by have := h z hz; simp only [Function.comp, id]; omega
theorem nats_le {l : List Int} {b : Nat} (h : ∀ z ∈ l, 0 ≤ z ∧ z ≤ (b : Int)) : ∀ n ∈ nats l, n ≤ b := by
  intro n hn
  unfold nats at hn
  obtain ⟨z, hz, rfl⟩ := List.mem_map.1 hn
  have := h z hz
  omega
theorem packI_nats {l : List Int} (h : ∀ z ∈ l, 0 ≤ z ∧ z ≤ 1099511627776) : packI l = pack (nats l) := by
  have hb := nats_back (fun z hz => (h z hz).1)
  have := packI_nat (nats l) (nats_le (b := 1099511627776) h)
  rw [hb] at this
  exact this
theorem unpack_packI {l : List Int} (h : ∀ z ∈ l, 0 ≤ z ∧ z ≤ 1099511627776) (hl : l.length ≤ 1099511627776) (rest : List UInt8) : unpack (packI l ++ rest) = some (nats l, rest) := by
  rw [packI_nats h]
  exact unpack_pack (nats l) (by simpa [nats, maxN] using hl) (nats_le (b := 1099511627776) h) rest

/-! ### C3 -/
/-- the three lists that a text begins with -/
def dec (t : List UInt8) : Option (List Nat × List Nat × List Nat) := match unpack t with
  | none => none
  | some (l, r1) => match unpack r1 with
    | none => none
    | some (k, r2) => match unpack r2 with
      | none => none
      | some (v, _) => some (l, k, v)
def i1 (l : List Nat) : Int := ((l.getD 0 0 : Nat) : Int)
def i2 (l : List Nat) : Int := ((l.getD 1 0 : Nat) : Int)
def zs (l : List Nat) : List Int := l.map fun n : Nat => (n : Int)
def decode (t data : List UInt8) : Option (Int × Int × List Int × List Int) := match dec t with
  | none => none
  | some (l, k, v) => if l.length = 2 ∧ enc (i1 l) (i2 l) (zs k) (down (zs v)) data = some t then some (i1 l, i2 l, zs k, down (zs v)) else none

theorem up_mem {vs : List Int} (h : ∀ z ∈ vs, -1 ≤ z ∧ z < 512) : ∀ z ∈ up vs, 0 ≤ z ∧ z ≤ 1099511627776 := by
  intro z hz
  obtain ⟨y, hy, rfl⟩ := List.mem_map.1 hz
  have := h y hy
  omega
theorem dec_body {k s : Int} {ks vs : List Int} (h : right k s ks vs = true) (rest : List UInt8) : dec (body k s ks vs ++ rest) = some (nats [k, s], nats ks, nats (up vs)) := by
  obtain ⟨hs, ⟨h1, h8, hk⟩, hkind, hvl, hv⟩ := right_parts h
  have e1 : unpack (body k s ks vs ++ rest) = some (nats [k, s], packI ks ++ (packI (up vs) ++ rest)) := by
    have : body k s ks vs ++ rest = packI [k, s] ++ (packI ks ++ (packI (up vs) ++ rest)) := by simp [body, List.append_assoc]
    rw [this]
    refine unpack_packI ?_ (by simp) _
    intro z hz
    rcases List.mem_cons.1 hz with rfl | hz
    · omega
    · have : z = s := by simpa using hz
      omega
  have e2 : unpack (packI ks ++ (packI (up vs) ++ rest)) = some (nats ks, packI (up vs) ++ rest) := unpack_packI (fun z hz => by have := hk z hz; omega) (by omega) _
  have e3 : unpack (packI (up vs) ++ rest) = some (nats (up vs), rest) := unpack_packI (up_mem hv) (by rw [up_length]; omega) _
  unfold dec
  rw [e1]; simp only []
  rw [e2]; simp only []
  rw [e3]
theorem decode_body {k s : Int} {ks vs : List Int} (h : right k s ks vs = true) (rest data : List UInt8) :
    decode (body k s ks vs ++ rest) data = if enc k s ks vs data = some (body k s ks vs ++ rest) then some (k, s, ks, vs) else none := by
  obtain ⟨hs, ⟨h1, h8, hk⟩, hkind, hvl, hv⟩ := right_parts h
  unfold decode
  rw [dec_body h rest]
  have a1 : i1 (nats [k, s]) = k := by simp [i1, nats]; omega
  have a2 : i2 (nats [k, s]) = s := by simp [i2, nats]; omega
  have a3 : zs (nats ks) = ks := nats_back fun z hz => (hk z hz).1
  have a4 : down (zs (nats (up vs))) = vs := by
    have : zs (nats (up vs)) = up vs := nats_back fun z hz => (up_mem hv z hz).1
    rw [this, down_up]
  simp only []
  rw [a1, a2, a3, a4]
  have a5 : (nats [k, s]).length = 2 := by simp [nats]
  by_cases hc : enc k s ks vs data = some (body k s ks vs ++ rest)
  · rw [if_pos ⟨a5, hc⟩, if_pos hc]
  · rw [if_neg (fun h => hc h.2), if_neg hc]
theorem decode_some {t data : List UInt8} {k s : Int} {ks vs : List Int} (h : decode t data = some (k, s, ks, vs)) : enc k s ks vs data = some t := by
  unfold decode at h
  cases hd : dec t with
  | none => rw [hd] at h; simp at h
  | some x =>
    obtain ⟨l, a, v⟩ := x
    rw [hd] at h
    simp only [] at h
    split at h
    · rename_i hc
      injection h with h
      injection h with e1 h
      injection h with e2 h
      injection h with e3 e4
      rw [← e1, ← e2, ← e3, ← e4]
      exact hc.2
    · cases h

/-! ### C4 -/
/-- what is encoded is decoded -/
theorem decode_enc {k s : Int} {ks vs : List Int} {data t : List UInt8} (h : enc k s ks vs data = some t) : decode t data = some (k, s, ks, vs) := by
  obtain ⟨hr, hd, rfl⟩ := enc_some h
  have := decode_body hr (four (sum (body k s ks vs ++ data))) data
  exact this.trans (if_pos h)
theorem four_length (n : Nat) : (four n).length = 4 := rfl
theorem u8_inj {a b : Nat} (ha : a < 256) (hb : b < 256) (h : a.toUInt8 = b.toUInt8) : a = b := by
  have := congrArg UInt8.toNat h
  rwa [u8_nat a ha, u8_nat b hb] at this
theorem four_inj {a b : Nat} (ha : a < 4294967296) (hb : b < 4294967296) (h : four a = four b) : a = b := by
  unfold four at h
  injection h with h1 h
  injection h with h2 h
  injection h with h3 h
  injection h with h4 _
  have e1 := u8_inj (by omega) (by omega) h1
  have e2 := u8_inj (by omega) (by omega) h2
  have e3 := u8_inj (by omega) (by omega) h3
  have e4 := u8_inj (by omega) (by omega) h4
  omega
theorem tag_length (k s : Int) (ks vs : List Int) (data : List UInt8) : (tagOf k s ks vs data).length = (body k s ks vs).length + 4 := by
  unfold tagOf; rw [List.length_append, four_length]
/-- a tag with something else behind its body is none -/
theorem decode_other {k s : Int} {ks vs : List Int} {data t rest : List UInt8} (h : enc k s ks vs data = some t) (hne : body k s ks vs ++ rest ≠ t) : decode (body k s ks vs ++ rest) data = none := by
  rw [decode_body (enc_some h).1, h, if_neg]
  intro e
  injection e with e
  exact hne e.symm
theorem decode_more {k s : Int} {ks vs : List Int} {data t : List UInt8} (h : enc k s ks vs data = some t) (b : UInt8) : decode (t ++ [b]) data = none := by
  have ht := (enc_some h).2.2
  have e : t ++ [b] = body k s ks vs ++ (four (sum (body k s ks vs ++ data)) ++ [b]) := by rw [ht]; unfold tagOf; rw [List.append_assoc]
  rw [e]
  refine decode_other h ?_
  rw [← e]
  intro e2
  have := congrArg List.length e2
  simp at this
theorem decode_less {k s : Int} {ks vs : List Int} {data t : List UInt8} (h : enc k s ks vs data = some t) : decode (t.take (t.length - 1)) data = none := by
  have ht := (enc_some h).2.2
  have hl := tag_length k s ks vs data
  rw [← ht] at hl
  have e : t.take (t.length - 1) = body k s ks vs ++ (four (sum (body k s ks vs ++ data))).take 3 := by
    rw [hl, ht]; unfold tagOf
    rw [List.take_append, List.take_of_length_le (by omega)]
    congr 2
    omega
  rw [e]
  refine decode_other h ?_
  rw [← e]
  intro e2
  have := congrArg List.length e2
  rw [List.length_take] at this
  omega
/-- one byte of a tag changed -/
theorem decode_changed {k s : Int} {ks vs : List Int} {data p q : List UInt8} {x y : UInt8} (h : enc k s ks vs data = some (p ++ x :: q)) (hxy : x ≠ y) : decode (p ++ y :: q) data = none := by
  cases hd : decode (p ++ y :: q) data with
  | none => rfl
  | some r =>
    exfalso
    obtain ⟨k', s', ks', vs'⟩ := r
    have h' := decode_some hd
    obtain ⟨_, _, e1⟩ := enc_some h
    obtain ⟨_, _, e2⟩ := enc_some h'
    have l1 := tag_length k s ks vs data
    have l2 := tag_length k' s' ks' vs' data
    rw [← e1] at l1
    rw [← e2] at l2
    simp only [List.length_append, List.length_cons] at l1 l2
    unfold tagOf at e1 e2
    generalize hb1 : body k s ks vs = b1 at *
    generalize hb2 : body k' s' ks' vs' = b2 at *
    by_cases hp : p.length < b1.length
    · -- in the body: the sums would be one
      obtain ⟨m, hm⟩ : ∃ m, b1 = p ++ x :: m := by
        have : (p ++ x :: q).take b1.length = b1 := by rw [e1, List.take_left]
        rw [List.take_append, List.take_of_length_le (by omega)] at this
        obtain ⟨d, hd⟩ : ∃ d, b1.length - p.length = d + 1 := ⟨b1.length - p.length - 1, by omega⟩
        rw [hd, List.take_succ_cons] at this
        exact ⟨_, this.symm⟩
      have hq : q = m ++ four (sum (b1 ++ data)) := by
        have := e1
        rw [hm] at this
        simp only [List.append_assoc, List.cons_append] at this
        have := List.append_cancel_left this
        injection this with _ this
        rw [this, hm]; simp
      have h2 : p ++ y :: m ++ four (sum (b1 ++ data)) = b2 ++ four (sum (b2 ++ data)) := by rw [← e2, hq]; simp
      have hlen : (p ++ y :: m).length = b2.length := by
        have := congrArg List.length hm
        simp only [List.length_append, List.length_cons] at this ⊢
        omega
      obtain ⟨hb, hf⟩ := List.append_inj h2 hlen
      have hsum := four_inj (Crc.sum_lt _) (Crc.sum_lt _) hf
      rw [hm, ← hb] at hsum
      simp only [List.append_assoc, List.cons_append] at hsum
      exact hxy (sum_one p (m ++ data) x y hsum)
    · -- in the sum: the bodies are one
      have t1 : (p ++ x :: q).take b1.length = b1 := by rw [e1, List.take_left]
      have t2 : (p ++ y :: q).take b2.length = b2 := by rw [e2, List.take_left]
      rw [List.take_append_of_le_length (by omega)] at t1
      rw [List.take_append_of_le_length (by omega)] at t2
      have hbl : b1.length = b2.length := by omega
      rw [hbl] at t1
      have hb : b1 = b2 := t1.symm.trans t2
      rw [hb] at e1
      have := e1.trans e2.symm
      have := List.append_cancel_left this
      injection this with this _
      exact hxy this
/-- one byte of the data changed -/
theorem decode_data {k s : Int} {ks vs : List Int} {t p q : List UInt8} {x y : UInt8} (h : enc k s ks vs (p ++ x :: q) = some t) (hxy : x ≠ y) : decode t (p ++ y :: q) = none := by
  obtain ⟨hr, hd, ht⟩ := enc_some h
  have e := decode_body hr (four (sum (body k s ks vs ++ (p ++ x :: q)))) (p ++ y :: q)
  have ht' : t = body k s ks vs ++ four (sum (body k s ks vs ++ (p ++ x :: q))) := ht
  rw [← ht'] at e
  rw [e, if_neg]
  intro h'
  obtain ⟨_, _, ht2⟩ := enc_some h'
  unfold tagOf at ht2
  rw [ht'] at ht2
  have := List.append_cancel_left ht2
  have := four_inj (Crc.sum_lt _) (Crc.sum_lt _) this
  rw [← List.append_assoc, ← List.append_assoc] at this
  exact hxy (sum_one (body k s ks vs ++ p) q x y this)
/-- unlike records have unlike tags -/
theorem enc_apart {k s k' s' : Int} {ks vs ks' vs' : List Int} {data t t' : List UInt8} (h : enc k s ks vs data = some t) (h' : enc k' s' ks' vs' data = some t') :
    t = t' ↔ (k = k' ∧ s = s' ∧ ks = ks' ∧ vs = vs') := by
  constructor
  · rintro rfl
    have := (decode_enc h).symm.trans (decode_enc h')
    injection this with this
    injection this with e1 this
    injection this with e2 this
    injection this with e3 e4
    exact ⟨e1, e2, e3, e4⟩
  · rintro ⟨rfl, rfl, rfl, rfl⟩
    have := h.symm.trans h'
    injection this
theorem tag_ge {k s : Int} {ks vs : List Int} {data t : List UInt8} (h : enc k s ks vs data = some t) : 10 ≤ t.length := by
  obtain ⟨hr, _, rfl⟩ := enc_some h
  obtain ⟨hs, ⟨h1, h8, hk⟩, hkind, hvl, hv⟩ := right_parts hr
  rw [tag_length]
  have p1 : packI [k, s] = pack (nats [k, s]) := packI_nats (by
    intro z hz
    rcases List.mem_cons.1 hz with rfl | hz
    · omega
    · have : z = s := by simpa using hz
      omega)
  have p2 : packI ks = pack (nats ks) := packI_nats (fun z hz => by have := hk z hz; omega)
  have p3 : packI (up vs) = pack (nats (up vs)) := packI_nats (up_mem hv)
  unfold body
  rw [p1, p2, p3]
  unfold pack
  have g1 := put_pos (nats [k, s]).length
  have g2 := put_pos (nats ks).length
  have g3 := put_pos (nats (up vs)).length
  have f1 := puts_len (nats [k, s])
  have f2 := puts_len (nats ks)
  have n1 : (nats [k, s]).length = 2 := by simp [nats]
  have n2 : (nats ks).length = ks.length := by simp [nats]
  simp only [List.length_append]
  omega
end Go.Proofs.Ytedopplldpcinaa.Tag
/-
  The statements' records by numbers (Made), as plain functions: they are right; how long their tags are. A text with one byte another one.
-/
namespace Go.Proofs.Ytedopplldpcinaa.Tag
open Go.Proofs.Ytedopplldpcinaa.Pack Go.Proofs.Ytedopplldpcinaa.Crc

/-- the number at place k, below n -/
def pk (z : List Int) (k n : Nat) : Nat := if k < z.length then (z.getD k 0).toNat % n else 0
theorem pk_lt (z : List Int) (k : Nat) {n : Nat} (h : 0 < n) : pk z k n < n := by
  unfold pk; split
  · exact Nat.mod_lt _ h
  · exact h
def mkKV (z : List Int) (c : Bool) : Nat → Nat → Nat → List Int × List Int
  | 0, _, _ => ([], [])
  | f + 1, key, at' => if key < 64 then
      ((key : Int) :: (mkKV z c f (key + 1 + pk z at' 10) (if c then at' + 2 else at' + 1)).1,
        if c then (((pk z (at' + 1) 513 : Nat) : Int) - 1) :: (mkKV z c f (key + 1 + pk z at' 10) (at' + 2)).2 else [])
    else ([], [])
theorem mkKV_on {z : List Int} {c : Bool} {f key at' : Nat} (h : key < 64) : mkKV z c (f + 1) key at' =
    ((key : Int) :: (mkKV z c f (key + 1 + pk z at' 10) (if c then at' + 2 else at' + 1)).1,
        if c then (((pk z (at' + 1) 513 : Nat) : Int) - 1) :: (mkKV z c f (key + 1 + pk z at' 10) (at' + 2)).2 else []) := by
  show (if key < 64 then _ else _) = _
  rw [if_pos h]
theorem mkKV_off {z : List Int} {c : Bool} {f key at' : Nat} (h : ¬ key < 64) : mkKV z c f key at' = ([], []) := by
  cases f with
  | zero => rfl
  | succ f => show (if key < 64 then _ else _) = _; rw [if_neg h]
theorem mkKV_rise (z : List Int) (c : Bool) (f : Nat) : ∀ (key at' : Nat) (last : Int), last < (key : Int) → rise last (mkKV z c f key at').1 = true := by
  induction f with
  | zero => intro key at' last _; rfl
  | succ f ih =>
    intro key at' last h
    by_cases hk : key < 64
    · rw [mkKV_on hk]
      simp only [rise, Bool.and_eq_true, decide_eq_true_eq]
      exact ⟨⟨h, by omega⟩, ih _ _ _ (by omega)⟩
    · rw [mkKV_off hk]; rfl
theorem mkKV_len (z : List Int) (c : Bool) (f : Nat) : ∀ (key at' : Nat), (mkKV z c f key at').1.length ≤ f := by
  induction f with
  | zero => intro key at'; simp [mkKV]
  | succ f ih =>
    intro key at'
    by_cases hk : key < 64
    · rw [mkKV_on hk]; simp only [List.length_cons]; have := ih (key + 1 + pk z at' 10) (if c then at' + 2 else at' + 1); omega
    · rw [mkKV_off hk]; simp
theorem mkKV_vals (z : List Int) (f : Nat) : ∀ (key at' : Nat), (mkKV z true f key at').2.length = (mkKV z true f key at').1.length ∧ places (mkKV z true f key at').2 = true := by
  induction f with
  | zero => intro key at'; exact ⟨rfl, rfl⟩
  | succ f ih =>
    intro key at'
    by_cases hk : key < 64
    · rw [mkKV_on hk]
      obtain ⟨h1, h2⟩ := ih (key + 1 + pk z at' 10) (at' + 2)
      have := pk_lt z (at' + 1) (n := 513) (by omega)
      refine ⟨by simp [h1], ?_⟩
      simp only [if_true, places, place, Bool.and_eq_true, decide_eq_true_eq]
      exact ⟨⟨by omega, by omega⟩, h2⟩
    · rw [mkKV_off hk]; exact ⟨rfl, rfl⟩
theorem mkKV_none (z : List Int) (f : Nat) : ∀ (key at' : Nat), (mkKV z false f key at').2 = [] := by
  cases f with
  | zero => intro key at'; rfl
  | succ f =>
    intro key at'
    by_cases hk : key < 64
    · rw [mkKV_on hk]; rfl
    · rw [mkKV_off hk]

def mkK (z : List Int) : Int := 1 + ((pk z 0 2 : Nat) : Int)
def mkS (z : List Int) : Int := ((pk z 1 60000 * (1 + pk z 2 1000) : Nat) : Int)
def mkC (z : List Int) : Bool := decide (pk z 0 2 = 1)
def mkKeys (z : List Int) : List Int := (mkKV z (mkC z) (pk z 4 8 + 1) (pk z 3 20) 5).1
def mkVals (z : List Int) : List Int := (mkKV z (mkC z) (pk z 4 8 + 1) (pk z 3 20) 5).2
theorem mul_le' {a b A B : Nat} (h : a ≤ A) (h' : b ≤ B) : a * b ≤ A * B := Nat.mul_le_mul h h'
theorem mkS_le (z : List Int) : 0 ≤ mkS z ∧ mkS z ≤ 60000000 := by
  have h1 := pk_lt z 1 (n := 60000) (by omega)
  have h2 := pk_lt z 2 (n := 1000) (by omega)
  have := mul_le' (show pk z 1 60000 ≤ 60000 by omega) (show 1 + pk z 2 1000 ≤ 1000 by omega)
  unfold mkS
  omega
theorem mkKeys_pos (z : List Int) : 1 ≤ (mkKeys z).length := by
  unfold mkKeys
  have := pk_lt z 3 (n := 20) (by omega)
  rw [mkKV_on (by omega)]
  simp
theorem made_right (z : List Int) : right (mkK z) (mkS z) (mkKeys z) (mkVals z) = true := by
  have h2 := pk_lt z 0 (n := 2) (by omega)
  have h3 := pk_lt z 3 (n := 20) (by omega)
  have h4 := pk_lt z 4 (n := 8) (by omega)
  have hs := mkS_le z
  unfold right
  have e1 : seqOk (mkS z) = true := by simp only [seqOk, Bool.and_eq_true, decide_eq_true_eq]; omega
  have e2 : keysOk (mkKeys z) = true := by
    unfold keysOk
    have hl : (mkKeys z).length ≤ 8 := by have := mkKV_len z (mkC z) (pk z 4 8 + 1) (pk z 3 20) 5; unfold mkKeys; omega
    have hr : rise (-1) (mkKeys z) = true := mkKV_rise z _ _ _ _ _ (by omega)
    rw [hr]
    simp only [Bool.and_true, Bool.and_eq_true, decide_eq_true_eq]
    exact ⟨mkKeys_pos z, hl⟩
  have e3 : valsOk (mkK z) (mkKeys z) (mkVals z) = true := by
    unfold valsOk mkK
    by_cases hp : pk z 0 2 = 1
    · have hc : mkC z = true := decide_eq_true hp
      rw [if_neg (by omega), if_pos (by omega)]
      unfold mkKeys mkVals
      rw [hc]
      obtain ⟨g1, g2⟩ := mkKV_vals z (pk z 4 8 + 1) (pk z 3 20) 5
      rw [g2, decide_eq_true g1]; rfl
    · have hc : mkC z = false := decide_eq_false hp
      rw [if_pos (by omega)]
      unfold mkVals
      rw [hc, mkKV_none]; rfl
  rw [e1, e2, e3]; rfl

/-! ### How long a tag is -/
theorem puts_le {l : List Nat} {d : Nat} (h : ∀ n ∈ l, (put n).length ≤ d) : (puts l).length ≤ d * l.length := by
  induction l with
  | nil => simp [puts]
  | cons n r ih =>
    rw [puts_cons, List.length_append, List.length_cons, Nat.mul_add]
    have h1 := h n (by simp)
    have h2 := ih fun m hm => h m (by simp [hm])
    omega
theorem made_long (z : List Int) (data : List UInt8) : (tagOf (mkK z) (mkS z) (mkKeys z) (mkVals z) data).length ≤ 40 := by
  have hr := made_right z
  obtain ⟨hs, ⟨h1, h8, hk⟩, hkind, hvl, hv⟩ := right_parts hr
  have hS := mkS_le z
  have hK : mkK z = 1 ∨ mkK z = 2 := hkind
  rw [tag_length]
  generalize mkS z = s at *
  generalize mkK z = k at *
  generalize mkKeys z = ks at *
  generalize mkVals z = vs at *
  have p1 : packI [k, s] = pack (nats [k, s]) := packI_nats (by
    intro z hz
    rcases List.mem_cons.1 hz with rfl | hz
    · omega
    · have : z = s := by simpa using hz
      omega)
  have p2 : packI ks = pack (nats ks) := packI_nats (fun z hz => by have := hk z hz; omega)
  have p3 : packI (up vs) = pack (nats (up vs)) := packI_nats (up_mem hv)
  unfold body
  rw [p1, p2, p3]
  unfold pack
  have n1 : (nats [k, s]).length = 2 := by simp [nats]
  have n2 : (nats ks).length = ks.length := by simp [nats]
  have n3 : (nats (up vs)).length = vs.length := by simp [nats, up]
  have c1 : (put (nats [k, s]).length).length ≤ 1 := put_len _ 0 (by rw [n1]; omega)
  have c2 : (put (nats ks).length).length ≤ 1 := put_len _ 0 (by rw [n2]; omega)
  have c3 : (put (nats (up vs)).length).length ≤ 1 := put_len _ 0 (by rw [n3]; omega)
  have d1 : (puts (nats [k, s])).length ≤ 5 := by
    have e : nats [k, s] = [k.toNat, s.toNat] := rfl
    rw [e, puts_cons, puts_cons, puts_nil, List.append_nil, List.length_append]
    have a1 : (put k.toNat).length ≤ 1 := put_len _ 0 (by omega)
    have a2 : (put s.toNat).length ≤ 4 := put_len _ 3 (by omega)
    omega
  have d2 : (puts (nats ks)).length ≤ 1 * (nats ks).length := puts_le fun n hn => put_len _ 0 (by
    have := nats_le (b := 63) (fun z hz => by have := hk z hz; omega) n hn
    omega)
  have d3 : (puts (nats (up vs))).length ≤ 2 * (nats (up vs)).length := puts_le fun n hn => put_len _ 1 (by
    have := nats_le (l := up vs) (b := 512) (fun z hz => by
      obtain ⟨y, hy, rfl⟩ := List.mem_map.1 hz
      have := hv y hy
      omega) n hn
    omega)
  simp only [List.length_append]
  omega

/-! ### A text with one byte another one -/
def chg : Nat → Nat → List UInt8 → List UInt8
  | _, _, [] => []
  | 0, d, c :: r => ((c.toNat + d) % 256).toUInt8 :: r
  | n + 1, d, c :: r => c :: chg n d r
theorem chg_length (n d : Nat) (l : List UInt8) : (chg n d l).length = l.length := by
  induction l generalizing n with
  | nil => cases n <;> rfl
  | cons c r ih => cases n with
    | zero => simp [chg]
    | succ n => simp [chg, ih]
theorem chg_at (n d : Nat) (l : List UInt8) (k : Nat) (h : k < l.length) : (chg n d l)[k]'(by rw [chg_length]; exact h) = if k = n then ((l[k].toNat + d) % 256).toUInt8 else l[k] := by
  induction l generalizing n k with
  | nil => simp at h
  | cons c r ih =>
    cases n with
    | zero => cases k with
      | zero => simp [chg]
      | succ k => simp [chg]
    | succ n => cases k with
      | zero => simp [chg]
      | succ k =>
        have := ih n k (by simpa using h)
        simp [chg, this]
theorem chg_take (n d : Nat) (l : List UInt8) (k : Nat) (h : k < l.length) : (chg n d l).take k ++ [if k = n then ((l[k].toNat + d) % 256).toUInt8 else l[k]] = (chg n d l).take (k + 1) := by
  rw [List.take_succ_eq_append_getElem (by rw [chg_length]; exact h), chg_at n d l k h]
theorem chg_split {n d : Nat} {l : List UInt8} (h : n < l.length) (h1 : 1 ≤ d) (h2 : d ≤ 255) : ∃ p x y q, l = p ++ x :: q ∧ chg n d l = p ++ y :: q ∧ x ≠ y := by
  induction l generalizing n with
  | nil => simp at h
  | cons c r ih =>
    cases n with
    | zero =>
      refine ⟨[], c, ((c.toNat + d) % 256).toUInt8, r, rfl, rfl, ?_⟩
      intro e
      have hc := c.toNat_lt
      have := congrArg UInt8.toNat e
      rw [u8_nat _ (Nat.mod_lt _ (by omega))] at this
      omega
    | succ n =>
      obtain ⟨p, x, y, q, e1, e2, e3⟩ := ih (n := n) (by simpa using h)
      exact ⟨c :: p, x, y, q, by rw [e1]; rfl, by simp [chg, e2], e3⟩
end Go.Proofs.Ytedopplldpcinaa.Tag
