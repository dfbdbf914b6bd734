/-
  The plain mathematics of CRC-32 (no program here): the step by one bit is linear and loses nothing; what follows of sums.
-/
import Derived.Laws.BitsAllLaws
namespace Go.Proofs.Ytcjhaapmehegkaa.Crc

/-- one bit more -/
def bit (c : Nat) : Nat := if c % 2 = 1 then c / 2 ^^^ 3988292384 else c / 2
/-- k bits more -/
def bitTo : Nat → Nat → Nat
  | 0, c => c
  | k + 1, c => bit (bitTo k c)
/-- one byte more -/
def byteStep (c b : Nat) : Nat := bitTo 8 (c ^^^ b)
/-- the state behind a text, from the state c on -/
def raw (c : Nat) : List UInt8 → Nat
  | [] => c
  | b :: l => raw (byteStep c b.toNat) l
def sum (l : List UInt8) : Nat := raw 4294967295 l ^^^ 4294967295
/-- the four bytes of a number, the lowest one first -/
def four (n : Nat) : List UInt8 := [(n % 256).toUInt8, (n / 256 % 256).toUInt8, (n / 65536 % 256).toUInt8, (n / 16777216 % 256).toUInt8]

theorem xor_lt32 {a b : Nat} (ha : a < 4294967296) (hb : b < 4294967296) : a ^^^ b < 4294967296 := by
  have := Nat.xor_lt_two_pow (n := 32) (x := a) (y := b) (by omega) (by omega); omega
theorem xor_lt8 {a b : Nat} (ha : a < 256) (hb : b < 256) : a ^^^ b < 256 := by
  have := Nat.xor_lt_two_pow (n := 8) (x := a) (y := b) (by omega) (by omega); omega
theorem bit_lt {c : Nat} (h : c < 4294967296) : bit c < 4294967296 := by
  unfold bit; split
  · exact xor_lt32 (by omega) (by omega)
  · omega
theorem bitTo_lt {c : Nat} (k : Nat) (h : c < 4294967296) : bitTo k c < 4294967296 := by
  induction k with
  | zero => exact h
  | succ k ih => exact bit_lt ih
theorem byteStep_lt {c b : Nat} (h : c < 4294967296) (hb : b < 256) : byteStep c b < 4294967296 := bitTo_lt 8 (xor_lt32 h (by omega))
theorem raw_lt {c : Nat} (l : List UInt8) (h : c < 4294967296) : raw c l < 4294967296 := by
  induction l generalizing c with
  | nil => exact h
  | cons b l ih => exact ih (byteStep_lt h b.toNat_lt)
theorem sum_lt (l : List UInt8) : sum l < 4294967296 := xor_lt32 (raw_lt l (by omega)) (by omega)
theorem raw_append (c : Nat) (l m : List UInt8) : raw c (l ++ m) = raw (raw c l) m := by
  induction l generalizing c with
  | nil => rfl
  | cons b l ih => exact ih _

/-! the step is linear -/
theorem xor_mod2 (a b : Nat) : (a ^^^ b) % 2 = (a % 2 + b % 2) % 2 := by
  have h := Nat.xor_mod_two_pow (a := a) (b := b) (n := 1)
  rw [show 2 ^ 1 = 2 from rfl] at h
  rw [h]
  rcases Nat.mod_two_eq_zero_or_one a with ha | ha <;> rcases Nat.mod_two_eq_zero_or_one b with hb | hb <;> rw [ha, hb] <;> rfl
theorem xor_zero {a b : Nat} (h : a ^^^ b = 0) : a = b := by
  apply Nat.eq_of_testBit_eq; intro i
  have h1 : (a ^^^ b).testBit i = false := by rw [h]; exact Nat.zero_testBit i
  rw [Nat.testBit_xor] at h1
  cases ha : a.testBit i <;> cases hb : b.testBit i <;> simp [ha, hb] at h1 <;> rfl
theorem xor_div2 (a b : Nat) : (a ^^^ b) / 2 = a / 2 ^^^ b / 2 := by
  apply Nat.eq_of_testBit_eq; intro i
  rw [Nat.testBit_xor, ← Nat.testBit_succ, ← Nat.testBit_succ, ← Nat.testBit_succ, Nat.testBit_xor]
theorem xor_swap (a b p : Nat) : (a ^^^ p) ^^^ (b ^^^ p) = a ^^^ b := by
  apply Nat.eq_of_testBit_eq; intro i; simp only [Nat.testBit_xor]
  cases a.testBit i <;> cases b.testBit i <;> cases p.testBit i <;> rfl
theorem xor_r (a b p : Nat) : (a ^^^ b) ^^^ p = a ^^^ (b ^^^ p) := Nat.xor_assoc a b p
theorem xor_l (a b p : Nat) : (a ^^^ b) ^^^ p = (a ^^^ p) ^^^ b := by
  rw [Nat.xor_assoc, Nat.xor_comm b p, ← Nat.xor_assoc]
theorem bit_xor (a b : Nat) : bit (a ^^^ b) = bit a ^^^ bit b := by
  unfold bit
  rw [xor_mod2, xor_div2]
  by_cases ha : a % 2 = 1 <;> by_cases hb : b % 2 = 1
  · rw [if_neg (by omega), if_pos ha, if_pos hb, xor_swap]
  · rw [if_pos (by omega), if_pos ha, if_neg hb, xor_l]
  · rw [if_pos (by omega), if_neg ha, if_pos hb, xor_r]
  · rw [if_neg (by omega), if_neg ha, if_neg hb]
theorem bitTo_xor (k a b : Nat) : bitTo k (a ^^^ b) = bitTo k a ^^^ bitTo k b := by
  induction k with
  | zero => rfl
  | succ k ih => show bit (bitTo k _) = _; rw [ih, bit_xor]; rfl
theorem bitTo_add (j k c : Nat) : bitTo (j + k) c = bitTo j (bitTo k c) := by
  induction j with
  | zero => rw [Nat.zero_add]; rfl
  | succ j ih => rw [Nat.succ_add]; show bit (bitTo (j + k) c) = bit (bitTo j (bitTo k c)); rw [ih]

/-- the exclusive or of three texts as long, byte by byte -/
def mix : List UInt8 → List UInt8 → List UInt8 → List UInt8
  | x :: a, y :: b, z :: c => (x ^^^ y ^^^ z) :: mix a b c
  | _, _, _ => []
theorem toNat_mix (x y z : UInt8) : (x ^^^ y ^^^ z).toNat = x.toNat ^^^ y.toNat ^^^ z.toNat := by
  rw [UInt8.toNat_xor, UInt8.toNat_xor]
theorem shuffle3 (p q r x y z : Nat) : (p ^^^ q ^^^ r) ^^^ (x ^^^ y ^^^ z) = (p ^^^ x) ^^^ (q ^^^ y) ^^^ (r ^^^ z) := by
  apply Nat.eq_of_testBit_eq; intro i; simp only [Nat.testBit_xor]
  cases p.testBit i <;> cases q.testBit i <;> cases r.testBit i <;> cases x.testBit i <;> cases y.testBit i <;> cases z.testBit i <;> rfl
theorem raw_mix (a b c : List UInt8) (p q r : Nat) (hab : a.length = b.length) (hac : a.length = c.length) :
    raw (p ^^^ q ^^^ r) (mix a b c) = raw p a ^^^ raw q b ^^^ raw r c := by
  induction a generalizing b c p q r with
  | nil =>
    cases b with
    | nil => cases c with
      | nil => rfl
      | cons z c => simp at hac
    | cons y b => simp at hab
  | cons x a ih =>
    cases b with
    | nil => simp at hab
    | cons y b => cases c with
      | nil => simp at hac
      | cons z c =>
        simp only [List.length_cons, Nat.add_right_cancel_iff] at hab hac
        show raw (byteStep (p ^^^ q ^^^ r) (x ^^^ y ^^^ z).toNat) (mix a b c) = raw (byteStep p x.toNat) a ^^^ raw (byteStep q y.toNat) b ^^^ raw (byteStep r z.toNat) c
        rw [← ih b c _ _ _ hab hac, toNat_mix]
        unfold byteStep
        rw [shuffle3, bitTo_xor, bitTo_xor]
theorem same3 (f : Nat) : f ^^^ f ^^^ f = f := by rw [Nat.xor_self, Nat.zero_xor]
theorem sum_mix (a b c : List UInt8) (hab : a.length = b.length) (hac : a.length = c.length) : sum (mix a b c) = sum a ^^^ sum b ^^^ sum c := by
  unfold sum
  rw [← shuffle3, same3, ← raw_mix a b c _ _ _ hab hac, same3]

/-! the step loses nothing -/
theorem bit_zero : ∀ c, c < 4294967296 → bit c = 0 → c = 0 := by
  intro c hc h
  unfold bit at h
  split at h
  · have := xor_zero h
    omega
  · omega
theorem bit_inj {a b : Nat} (ha : a < 4294967296) (hb : b < 4294967296) (h : bit a = bit b) : a = b := by
  have : bit (a ^^^ b) = 0 := by rw [bit_xor, h, Nat.xor_self]
  exact xor_zero (bit_zero _ (xor_lt32 ha hb) this)
theorem bitTo_inj {a b : Nat} (k : Nat) (ha : a < 4294967296) (hb : b < 4294967296) (h : bitTo k a = bitTo k b) : a = b := by
  induction k with
  | zero => exact h
  | succ k ih => exact ih (bit_inj (bitTo_lt k ha) (bitTo_lt k hb) h)
theorem xor_left_inj {a b c : Nat} (h : a ^^^ c = b ^^^ c) : a = b := by
  have h2 : (a ^^^ c) ^^^ c = (b ^^^ c) ^^^ c := by rw [h]
  rwa [Nat.xor_assoc, Nat.xor_self, Nat.xor_zero, Nat.xor_assoc, Nat.xor_self, Nat.xor_zero] at h2
theorem xor_right_inj {a b c : Nat} (h : c ^^^ a = c ^^^ b) : a = b := by
  rw [Nat.xor_comm c a, Nat.xor_comm c b] at h; exact xor_left_inj h
theorem raw_inj {a b : Nat} (l : List UInt8) (ha : a < 4294967296) (hb : b < 4294967296) (h : raw a l = raw b l) : a = b := by
  induction l generalizing a b with
  | nil => exact h
  | cons x l ih =>
    have h1 := ih (byteStep_lt ha x.toNat_lt) (byteStep_lt hb x.toNat_lt) h
    have hx := x.toNat_lt
    exact xor_left_inj (bitTo_inj 8 (xor_lt32 ha (by omega)) (xor_lt32 hb (by omega)) h1)
/-- one byte that is another one makes another state -/
theorem raw_one (c : Nat) (p s : List UInt8) (x y : UInt8) (hc : c < 4294967296) (h : raw c (p ++ x :: s) = raw c (p ++ y :: s)) : x = y := by
  rw [raw_append, raw_append] at h
  have hp := raw_lt p hc
  have hx := x.toNat_lt
  have hy := y.toNat_lt
  have h1 := raw_inj s (byteStep_lt hp hx) (byteStep_lt hp hy) h
  have h2 := xor_right_inj (bitTo_inj 8 (xor_lt32 hp (by omega)) (xor_lt32 hp (by omega)) h1)
  exact UInt8.toNat_inj.1 h2
theorem sum_one (p s : List UInt8) (x y : UInt8) (h : sum (p ++ x :: s) = sum (p ++ y :: s)) : x = y :=
  raw_one 4294967295 p s x y (by omega) (xor_left_inj h)

/-! a sum behind its text -/
theorem bit_even (c : Nat) : bit (2 * c) = c := by unfold bit; rw [if_neg (by omega)]; omega
theorem bitTo_shift (c : Nat) : bitTo 8 (256 * c) = c := by
  have e : 256 * c = 2 * (2 * (2 * (2 * (2 * (2 * (2 * (2 * c))))))) := by omega
  rw [e]; show bit (bit (bit (bit (bit (bit (bit (bit (2 * (2 * (2 * (2 * (2 * (2 * (2 * (2 * c))))))))))))))) = c
  simp only [bit_even]
theorem xor_split (q r k : Nat) (hr : r < 2 ^ k) : 2 ^ k * q + r = 2 ^ k * q ^^^ r := by
  rw [Nat.two_pow_add_eq_or_of_lt hr]
  apply Nat.eq_of_testBit_eq; intro i
  rw [Nat.testBit_or, Nat.testBit_xor]
  by_cases hi : i < k
  · rw [Nat.testBit_two_pow_mul]; simp [show ¬ k ≤ i from by omega]
  · have : r.testBit i = false := Nat.testBit_lt_two_pow (Nat.lt_of_lt_of_le hr (Nat.pow_le_pow_right (by omega) (by omega)))
    rw [this]; simp
theorem byte_of (n : Nat) (_h : n < 256) : (n.toUInt8).toNat = n := by
  rw [Nat.toUInt8_eq, UInt8.toNat_ofNat']; omega
/-- eight bits of a state with the bytes q above the byte r laid onto it -/
theorem bitTo_byte (c q r : Nat) (hr : r < 256) : bitTo 8 (c ^^^ (256 * q + r)) = bitTo 8 (c ^^^ r) ^^^ q := by
  rw [show 256 * q + r = 256 * q ^^^ r from xor_split q r 8 hr, ← Nat.xor_assoc, xor_l, bitTo_xor, bitTo_shift]
theorem raw_four (c n : Nat) (hn : n < 4294967296) : raw c (four n) = bitTo 32 (c ^^^ n) := by
  have e1 : n = 256 * (n / 256) + n % 256 := by omega
  have e2 : n / 256 = 256 * (n / 65536) + n / 256 % 256 := by omega
  have e3 : n / 65536 = 256 * (n / 16777216) + n / 65536 % 256 := by omega
  show byteStep (byteStep (byteStep (byteStep c _) _) _) _ = _
  rw [byte_of _ (by omega), byte_of _ (by omega), byte_of _ (by omega), byte_of _ (by omega)]
  rw [show (32 : Nat) = 24 + 8 from rfl, bitTo_add 24 8]
  conv => rhs; rw [e1]
  rw [bitTo_byte c _ _ (by omega)]
  rw [show (24 : Nat) = 16 + 8 from rfl, bitTo_add 16 8]
  conv => rhs; rw [e2]
  rw [bitTo_byte _ _ _ (by omega)]
  rw [show (16 : Nat) = 8 + 8 from rfl, bitTo_add 8 8]
  conv => rhs; rw [e3]
  rw [bitTo_byte _ _ _ (by omega)]
  rw [show n / 16777216 % 256 = n / 16777216 from by omega]
  rfl
theorem sum_behind (l : List UInt8) : sum (l ++ four (sum l)) = sum (four 0) := by
  have h : raw 4294967295 (l ++ four (sum l)) = raw 4294967295 (four 0) := by
    rw [raw_append, raw_four _ _ (sum_lt l), raw_four _ _ (by omega)]
    unfold sum
    rw [← Nat.xor_assoc, Nat.xor_self, Nat.zero_xor, Nat.xor_zero]
  unfold sum at h ⊢
  rw [h]

/-! noughts -/
theorem raw_zeros (c n : Nat) : raw c (List.replicate n 0) = bitTo (8 * n) c := by
  induction n generalizing c with
  | zero => rfl
  | succ n ih =>
    show raw (byteStep c 0) (List.replicate n 0) = _
    rw [ih, show 8 * (n + 1) = 8 * n + 8 from by omega, bitTo_add]
    unfold byteStep; rw [Nat.xor_zero]
/-- the state comes back to where it began at none of the first n bytes more -/
def never (c0 : Nat) : Nat → Nat → Bool
  | 0, _ => true
  | n + 1, c => (bitTo 8 c != c0) && never c0 n (bitTo 8 c)
theorem never_spec (c0 n c : Nat) (h : never c0 n c = true) (d : Nat) (h1 : 1 ≤ d) (h2 : d ≤ n) : bitTo (8 * d) c ≠ c0 := by
  induction n generalizing c d with
  | zero => omega
  | succ n ih =>
    simp only [never, Bool.and_eq_true, bne_iff_ne] at h
    cases d with
    | zero => omega
    | succ d =>
      by_cases hd : d = 0
      · subst hd; exact h.1
      · have := ih (bitTo 8 c) h.2 d (by omega) (by omega)
        rwa [← bitTo_add] at this
theorem never_200 : never 4294967295 200 4294967295 = true := by decide +kernel
theorem zeros_apart (a b : Nat) (hlt : a < b) (hb : b ≤ 200) : sum (List.replicate a 0) ≠ sum (List.replicate b 0) := by
  intro h
  have h1 := xor_left_inj (show raw 4294967295 (List.replicate a 0) ^^^ _ = raw 4294967295 (List.replicate b 0) ^^^ _ from h)
  rw [raw_zeros, raw_zeros, show 8 * b = 8 * a + 8 * (b - a) from by omega, bitTo_add] at h1
  have h2 := bitTo_inj (8 * a) (by omega) (bitTo_lt _ (by omega)) h1
  exact never_spec _ _ _ never_200 (b - a) (by omega) (by omega) h2.symm
theorem zeros_iff (a b : Nat) (ha : a ≤ 200) (hb : b ≤ 200) : sum (List.replicate a 0) = sum (List.replicate b 0) ↔ a = b := by
  constructor
  · intro h
    rcases Nat.lt_trichotomy a b with h1 | h1 | h1
    · exact absurd h (zeros_apart a b h1 hb)
    · exact h1
    · exact absurd h.symm (zeros_apart b a h1 ha)
  · rintro rfl; rfl

/-! the examples -/
theorem sum_digits : sum [49, 50, 51, 52, 53, 54, 55, 56, 57] = 3421780262 := by decide +kernel
theorem sum_nil : sum [] = 0 := by decide +kernel

/-! int's bits, of numbers that are not negative -/
theorem i64_small (n : Nat) (h : n < 9223372036854775808) : IntKind.i64.wrap (n : Int) = n := by
  simp [IntKind.wrap, IntKind.bits, IntKind.signed]; omega
theorem i64_xor_nat (a b : Nat) (ha : a < 4294967296) (hb : b < 4294967296) : bits .xor .i64 (a : Int) (b : Int) = ((a ^^^ b : Nat) : Int) := by
  show IntKind.i64.wrap ((BitVec.ofInt 64 (a : Int) ^^^ BitVec.ofInt 64 (b : Int)).toNat : Int) = _
  rw [BitVec.toNat_xor, ofInt_u64 a (by omega), ofInt_u64 b (by omega)]
  have := xor_lt32 ha hb
  exact i64_small _ (by omega)
theorem i64_and_nat (a b : Nat) (ha : a < 4294967296) (hb : b < 4294967296) : bits .and .i64 (a : Int) (b : Int) = ((a &&& b : Nat) : Int) := by
  show IntKind.i64.wrap ((BitVec.ofInt 64 (a : Int) &&& BitVec.ofInt 64 (b : Int)).toNat : Int) = _
  rw [BitVec.toNat_and, ofInt_u64 a (by omega), ofInt_u64 b (by omega)]
  have := Nat.and_le_left (n := a) (m := b)
  exact i64_small _ (by omega)
end Go.Proofs.Ytcjhaapmehegkaa.Crc
