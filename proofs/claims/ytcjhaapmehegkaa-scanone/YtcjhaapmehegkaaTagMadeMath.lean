/-
  The statements' records by numbers (Made), as plain functions: they are right; how long their tags are. A text with one byte another one.
-/
import Derived.Test.YtcjhaapmehegkaaTagMath
namespace Go.Proofs.Ytcjhaapmehegkaa.Tag
open Go.Proofs.Ytcjhaapmehegkaa.Pack Go.Proofs.Ytcjhaapmehegkaa.Crc

/-- the number at place k, below n -/
def pk (z : List Int) (k n : Nat) : Nat := if k < z.length then (z.getD k 0).toNat % n else 0
theorem pk_lt (z : List Int) (k : Nat) {n : Nat} (h : 0 < n) : pk z k n < n := by
  unfold pk; split
  · exact Nat.mod_lt _ h
  · exact h
def mkKV (z : List Int) (c : Bool) : Nat → Nat → Nat → List Int × List Int
  | 0, _, _ => ([], [])
  | f + 1, key, at' => if key < 64 then
      ((key : Int) :: (mkKV z c f (key + 1 + pk z at' 10) (if c then at' + 2 else at' + 1)).1,
        if c then (((pk z (at' + 1) 513 : Nat) : Int) - 1) :: (mkKV z c f (key + 1 + pk z at' 10) (at' + 2)).2 else [])
    else ([], [])
theorem mkKV_on {z : List Int} {c : Bool} {f key at' : Nat} (h : key < 64) : mkKV z c (f + 1) key at' =
    ((key : Int) :: (mkKV z c f (key + 1 + pk z at' 10) (if c then at' + 2 else at' + 1)).1,
        if c then (((pk z (at' + 1) 513 : Nat) : Int) - 1) :: (mkKV z c f (key + 1 + pk z at' 10) (at' + 2)).2 else []) := by
  show (if key < 64 then _ else _) = _
  rw [if_pos h]
theorem mkKV_off {z : List Int} {c : Bool} {f key at' : Nat} (h : ¬ key < 64) : mkKV z c f key at' = ([], []) := by
  cases f with
  | zero => rfl
  | succ f => show (if key < 64 then _ else _) = _; rw [if_neg h]
theorem mkKV_rise (z : List Int) (c : Bool) (f : Nat) : ∀ (key at' : Nat) (last : Int), last < (key : Int) → rise last (mkKV z c f key at').1 = true := by
  induction f with
  | zero => intro key at' last _; rfl
  | succ f ih =>
    intro key at' last h
    by_cases hk : key < 64
    · rw [mkKV_on hk]
      simp only [rise, Bool.and_eq_true, decide_eq_true_eq]
      exact ⟨⟨h, by omega⟩, ih _ _ _ (by omega)⟩
    · rw [mkKV_off hk]; rfl
theorem mkKV_len (z : List Int) (c : Bool) (f : Nat) : ∀ (key at' : Nat), (mkKV z c f key at').1.length ≤ f := by
  induction f with
  | zero => intro key at'; simp [mkKV]
  | succ f ih =>
    intro key at'
    by_cases hk : key < 64
    · rw [mkKV_on hk]; simp only [List.length_cons]; have := ih (key + 1 + pk z at' 10) (if c then at' + 2 else at' + 1); omega
    · rw [mkKV_off hk]; simp
theorem mkKV_vals (z : List Int) (f : Nat) : ∀ (key at' : Nat), (mkKV z true f key at').2.length = (mkKV z true f key at').1.length ∧ places (mkKV z true f key at').2 = true := by
  induction f with
  | zero => intro key at'; exact ⟨rfl, rfl⟩
  | succ f ih =>
    intro key at'
    by_cases hk : key < 64
    · rw [mkKV_on hk]
      obtain ⟨h1, h2⟩ := ih (key + 1 + pk z at' 10) (at' + 2)
      have := pk_lt z (at' + 1) (n := 513) (by omega)
      refine ⟨by simp [h1], ?_⟩
      simp only [if_true, places, place, Bool.and_eq_true, decide_eq_true_eq]
      exact ⟨⟨by omega, by omega⟩, h2⟩
    · rw [mkKV_off hk]; exact ⟨rfl, rfl⟩
theorem mkKV_none (z : List Int) (f : Nat) : ∀ (key at' : Nat), (mkKV z false f key at').2 = [] := by
  cases f with
  | zero => intro key at'; rfl
  | succ f =>
    intro key at'
    by_cases hk : key < 64
    · rw [mkKV_on hk]; rfl
    · rw [mkKV_off hk]

def mkK (z : List Int) : Int := 1 + ((pk z 0 2 : Nat) : Int)
def mkS (z : List Int) : Int := ((pk z 1 60000 * (1 + pk z 2 1000) : Nat) : Int)
def mkC (z : List Int) : Bool := decide (pk z 0 2 = 1)
def mkKeys (z : List Int) : List Int := (mkKV z (mkC z) (pk z 4 8 + 1) (pk z 3 20) 5).1
def mkVals (z : List Int) : List Int := (mkKV z (mkC z) (pk z 4 8 + 1) (pk z 3 20) 5).2
theorem mul_le' {a b A B : Nat} (h : a ≤ A) (h' : b ≤ B) : a * b ≤ A * B := Nat.mul_le_mul h h'
theorem mkS_le (z : List Int) : 0 ≤ mkS z ∧ mkS z ≤ 60000000 := by
  have h1 := pk_lt z 1 (n := 60000) (by omega)
  have h2 := pk_lt z 2 (n := 1000) (by omega)
  have := mul_le' (show pk z 1 60000 ≤ 60000 by omega) (show 1 + pk z 2 1000 ≤ 1000 by omega)
  unfold mkS
  omega
theorem mkKeys_pos (z : List Int) : 1 ≤ (mkKeys z).length := by
  unfold mkKeys
  have := pk_lt z 3 (n := 20) (by omega)
  rw [mkKV_on (by omega)]
  simp
theorem made_right (z : List Int) : right (mkK z) (mkS z) (mkKeys z) (mkVals z) = true := by
  have h2 := pk_lt z 0 (n := 2) (by omega)
  have h3 := pk_lt z 3 (n := 20) (by omega)
  have h4 := pk_lt z 4 (n := 8) (by omega)
  have hs := mkS_le z
  unfold right
  have e1 : seqOk (mkS z) = true := by simp only [seqOk, Bool.and_eq_true, decide_eq_true_eq]; omega
  have e2 : keysOk (mkKeys z) = true := by
    unfold keysOk
    have hl : (mkKeys z).length ≤ 8 := by have := mkKV_len z (mkC z) (pk z 4 8 + 1) (pk z 3 20) 5; unfold mkKeys; omega
    have hr : rise (-1) (mkKeys z) = true := mkKV_rise z _ _ _ _ _ (by omega)
    rw [hr]
    simp only [Bool.and_true, Bool.and_eq_true, decide_eq_true_eq]
    exact ⟨mkKeys_pos z, hl⟩
  have e3 : valsOk (mkK z) (mkKeys z) (mkVals z) = true := by
    unfold valsOk mkK
    by_cases hp : pk z 0 2 = 1
    · have hc : mkC z = true := decide_eq_true hp
      rw [if_neg (by omega), if_pos (by omega)]
      unfold mkKeys mkVals
      rw [hc]
      obtain ⟨g1, g2⟩ := mkKV_vals z (pk z 4 8 + 1) (pk z 3 20) 5
      rw [g2, decide_eq_true g1]; rfl
    · have hc : mkC z = false := decide_eq_false hp
      rw [if_pos (by omega)]
      unfold mkVals
      rw [hc, mkKV_none]; rfl
  rw [e1, e2, e3]; rfl

/-! ### How long a tag is -/
theorem puts_le {l : List Nat} {d : Nat} (h : ∀ n ∈ l, (put n).length ≤ d) : (puts l).length ≤ d * l.length := by
  induction l with
  | nil => simp [puts]
  | cons n r ih =>
    rw [puts_cons, List.length_append, List.length_cons, Nat.mul_add]
    have h1 := h n (by simp)
    have h2 := ih fun m hm => h m (by simp [hm])
    omega
theorem made_long (z : List Int) (data : List UInt8) : (tagOf (mkK z) (mkS z) (mkKeys z) (mkVals z) data).length ≤ 40 := by
  have hr := made_right z
  obtain ⟨hs, ⟨h1, h8, hk⟩, hkind, hvl, hv⟩ := right_parts hr
  have hS := mkS_le z
  have hK : mkK z = 1 ∨ mkK z = 2 := hkind
  rw [tag_length]
  generalize mkS z = s at *
  generalize mkK z = k at *
  generalize mkKeys z = ks at *
  generalize mkVals z = vs at *
  have p1 : packI [k, s] = pack (nats [k, s]) := packI_nats (by
    intro z hz
    rcases List.mem_cons.1 hz with rfl | hz
    · omega
    · have : z = s := by simpa using hz
      omega)
  have p2 : packI ks = pack (nats ks) := packI_nats (fun z hz => by have := hk z hz; omega)
  have p3 : packI (up vs) = pack (nats (up vs)) := packI_nats (up_mem hv)
  unfold body
  rw [p1, p2, p3]
  unfold pack
  have n1 : (nats [k, s]).length = 2 := by simp [nats]
  have n2 : (nats ks).length = ks.length := by simp [nats]
  have n3 : (nats (up vs)).length = vs.length := by simp [nats, up]
  have c1 : (put (nats [k, s]).length).length ≤ 1 := put_len _ 0 (by rw [n1]; omega)
  have c2 : (put (nats ks).length).length ≤ 1 := put_len _ 0 (by rw [n2]; omega)
  have c3 : (put (nats (up vs)).length).length ≤ 1 := put_len _ 0 (by rw [n3]; omega)
  have d1 : (puts (nats [k, s])).length ≤ 5 := by
    have e : nats [k, s] = [k.toNat, s.toNat] := rfl
    rw [e, puts_cons, puts_cons, puts_nil, List.append_nil, List.length_append]
    have a1 : (put k.toNat).length ≤ 1 := put_len _ 0 (by omega)
    have a2 : (put s.toNat).length ≤ 4 := put_len _ 3 (by omega)
    omega
  have d2 : (puts (nats ks)).length ≤ 1 * (nats ks).length := puts_le fun n hn => put_len _ 0 (by
    have := nats_le (b := 63) (fun z hz => by have := hk z hz; omega) n hn
    omega)
  have d3 : (puts (nats (up vs))).length ≤ 2 * (nats (up vs)).length := puts_le fun n hn => put_len _ 1 (by
    have := nats_le (l := up vs) (b := 512) (fun z hz => by
      obtain ⟨y, hy, rfl⟩ := List.mem_map.1 hz
      have := hv y hy
      omega) n hn
    omega)
  simp only [List.length_append]
  omega

/-! ### A text with one byte another one -/
def chg : Nat → Nat → List UInt8 → List UInt8
  | _, _, [] => []
  | 0, d, c :: r => ((c.toNat + d) % 256).toUInt8 :: r
  | n + 1, d, c :: r => c :: chg n d r
theorem chg_length (n d : Nat) (l : List UInt8) : (chg n d l).length = l.length := by
  induction l generalizing n with
  | nil => cases n <;> rfl
  | cons c r ih => cases n with
    | zero => simp [chg]
    | succ n => simp [chg, ih]
theorem chg_at (n d : Nat) (l : List UInt8) (k : Nat) (h : k < l.length) : (chg n d l)[k]'(by rw [chg_length]; exact h) = if k = n then ((l[k].toNat + d) % 256).toUInt8 else l[k] := by
  induction l generalizing n k with
  | nil => simp at h
  | cons c r ih =>
    cases n with
    | zero => cases k with
      | zero => simp [chg]
      | succ k => simp [chg]
    | succ n => cases k with
      | zero => simp [chg]
      | succ k =>
        have := ih n k (by simpa using h)
        simp [chg, this]
theorem chg_take (n d : Nat) (l : List UInt8) (k : Nat) (h : k < l.length) : (chg n d l).take k ++ [if k = n then ((l[k].toNat + d) % 256).toUInt8 else l[k]] = (chg n d l).take (k + 1) := by
  rw [List.take_succ_eq_append_getElem (by rw [chg_length]; exact h), chg_at n d l k h]
theorem chg_split {n d : Nat} {l : List UInt8} (h : n < l.length) (h1 : 1 ≤ d) (h2 : d ≤ 255) : ∃ p x y q, l = p ++ x :: q ∧ chg n d l = p ++ y :: q ∧ x ≠ y := by
  induction l generalizing n with
  | nil => simp at h
  | cons c r ih =>
    cases n with
    | zero =>
      refine ⟨[], c, ((c.toNat + d) % 256).toUInt8, r, rfl, rfl, ?_⟩
      intro e
      have hc := c.toNat_lt
      have := congrArg UInt8.toNat e
      rw [u8_nat _ (Nat.mod_lt _ (by omega))] at this
      omega
    | succ n =>
      obtain ⟨p, x, y, q, e1, e2, e3⟩ := ih (n := n) (by simpa using h)
      exact ⟨c :: p, x, y, q, by rw [e1]; rfl, by simp [chg, e2], e3⟩
end Go.Proofs.Ytcjhaapmehegkaa.Tag
