/-
  Records and their tags, as plain functions: what is right, what is encoded, what is decoded; what is encoded is decoded; one byte changed makes none.
-/
import Derived.Test.YtcjhaapmehegkaaCrcMath
import Derived.Test.YtcjhaapmehegkaaPackMath
namespace Go.Proofs.Ytcjhaapmehegkaa.Tag
open Go.Proofs.Ytcjhaapmehegkaa.Pack Go.Proofs.Ytcjhaapmehegkaa.Crc

/-! ### C1 -/
def rise : Int → List Int → Bool
  | _, [] => true
  | last, k :: r => decide (last < k) && decide (k < 64) && rise k r
def place (v : Int) : Bool := decide (-1 ≤ v) && decide (v < 512)
def places : List Int → Bool
  | [] => true
  | v :: r => place v && places r
def keysOk (l : List Int) : Bool := decide (1 ≤ l.length) && decide (l.length ≤ 8) && rise (-1) l
def valsOk (k : Int) (ks vs : List Int) : Bool := if k = 1 then decide (vs.length = 0) else if k = 2 then decide (vs.length = ks.length) && places vs else false
def seqOk (s : Int) : Bool := decide (0 ≤ s) && decide (s ≤ 1099511627776)
def right (k s : Int) (ks vs : List Int) : Bool := seqOk s && keysOk ks && valsOk k ks vs

theorem rise_mem {last : Int} {l : List Int} (h : rise last l = true) (hl : -1 ≤ last) : ∀ z ∈ l, 0 ≤ z ∧ z < 64 := by
  induction l generalizing last with
  | nil => intro z hz; simp at hz
  | cons k r ih =>
    simp only [rise, Bool.and_eq_true, decide_eq_true_eq] at h
    intro z hz
    rcases List.mem_cons.1 hz with rfl | hz
    · omega
    · exact ih h.2 (by omega) z hz
theorem places_mem {l : List Int} (h : places l = true) : ∀ z ∈ l, -1 ≤ z ∧ z < 512 := by
  induction l with
  | nil => intro z hz; simp at hz
  | cons k r ih =>
    simp only [places, place, Bool.and_eq_true, decide_eq_true_eq] at h
    intro z hz
    rcases List.mem_cons.1 hz with rfl | hz
    · omega
    · exact ih h.2 z hz
theorem right_parts {k s : Int} {ks vs : List Int} (h : right k s ks vs = true) :
    (0 ≤ s ∧ s ≤ 1099511627776) ∧ (1 ≤ ks.length ∧ ks.length ≤ 8 ∧ ∀ z ∈ ks, 0 ≤ z ∧ z < 64) ∧ (k = 1 ∨ k = 2) ∧ vs.length ≤ 8 ∧ ∀ z ∈ vs, -1 ≤ z ∧ z < 512 := by
  simp only [right, seqOk, keysOk, Bool.and_eq_true, decide_eq_true_eq] at h
  obtain ⟨⟨hs, ⟨h1, h8⟩, hr⟩, hv⟩ := h
  refine ⟨hs, ⟨h1, h8, rise_mem hr (by omega)⟩, ?_⟩
  unfold valsOk at hv
  by_cases h1 : k = 1
  · rw [if_pos h1] at hv
    have hv0 : vs = [] := List.length_eq_zero_iff.1 (by simpa using hv)
    subst hv0
    exact ⟨.inl h1, by simp, by simp⟩
  · rw [if_neg h1] at hv
    by_cases h2 : k = 2
    · rw [if_pos h2] at hv
      simp only [Bool.and_eq_true, decide_eq_true_eq] at hv
      exact ⟨.inr h2, by omega, places_mem hv.2⟩
    · rw [if_neg h2] at hv; simp at hv

/-! ### C2 -/
def up (vs : List Int) : List Int := vs.map (· + 1)
def down (vs : List Int) : List Int := vs.map (· - 1)
theorem up_length (vs : List Int) : (up vs).length = vs.length := by simp [up]
theorem down_up (vs : List Int) : down (up vs) = vs := by
  unfold down up; rw [List.map_map]
  have : ((fun x : Int => x - 1) ∘ fun x => x + 1) = id := by funext x; simp
  rw [this, List.map_id]
def body (k s : Int) (ks vs : List Int) : List UInt8 := packI [k, s] ++ packI ks ++ packI (up vs)
def tagOf (k s : Int) (ks vs : List Int) (data : List UInt8) : List UInt8 := body k s ks vs ++ four (sum (body k s ks vs ++ data))
def enc (k s : Int) (ks vs : List Int) (data : List UInt8) : Option (List UInt8) := if right k s ks vs = true ∧ data.length ≤ 16 then some (tagOf k s ks vs data) else none
theorem enc_some {k s : Int} {ks vs : List Int} {data t : List UInt8} (h : enc k s ks vs data = some t) : right k s ks vs = true ∧ data.length ≤ 16 ∧ t = tagOf k s ks vs data := by
  unfold enc at h
  by_cases hc : right k s ks vs = true ∧ data.length ≤ 16
  · rw [if_pos hc] at h; injection h with h; exact ⟨hc.1, hc.2, h.symm⟩
  · rw [if_neg hc] at h; cases h
theorem enc_yes {k s : Int} {ks vs : List Int} {data : List UInt8} (h : right k s ks vs = true) (hd : data.length ≤ 16) : enc k s ks vs data = some (tagOf k s ks vs data) := by
  unfold enc; rw [if_pos ⟨h, hd⟩]
theorem enc_no {k s : Int} {ks vs : List Int} {data : List UInt8} (h : right k s ks vs = false) : enc k s ks vs data = none := by
  unfold enc; rw [if_neg (by simp [h])]
theorem enc_long {k s : Int} {ks vs : List Int} {data : List UInt8} (h : 16 < data.length) : enc k s ks vs data = none := by
  unfold enc; rw [if_neg (by omega)]

/-- integers from 0 on, as numbers -/
def nats (l : List Int) : List Nat := l.map Int.toNat
theorem nats_back {l : List Int} (h : ∀ z ∈ l, 0 ≤ z) : (nats l).map (fun n : Nat => (n : Int)) = l := by
  unfold nats; rw [List.map_map]
  conv => rhs; rw [← List.map_id l]
  exact List.map_congr_left fun z hz => by have := h z hz; simp only [Function.comp, id]; omega
theorem nats_le {l : List Int} {b : Nat} (h : ∀ z ∈ l, 0 ≤ z ∧ z ≤ (b : Int)) : ∀ n ∈ nats l, n ≤ b := by
  intro n hn
  unfold nats at hn
  obtain ⟨z, hz, rfl⟩ := List.mem_map.1 hn
  have := h z hz
  omega
theorem packI_nats {l : List Int} (h : ∀ z ∈ l, 0 ≤ z ∧ z ≤ 1099511627776) : packI l = pack (nats l) := by
  have hb := nats_back (fun z hz => (h z hz).1)
  have := packI_nat (nats l) (nats_le (b := 1099511627776) h)
  rw [hb] at this
  exact this
theorem unpack_packI {l : List Int} (h : ∀ z ∈ l, 0 ≤ z ∧ z ≤ 1099511627776) (hl : l.length ≤ 1099511627776) (rest : List UInt8) : unpack (packI l ++ rest) = some (nats l, rest) := by
  rw [packI_nats h]
  exact unpack_pack (nats l) (by simpa [nats, maxN] using hl) (nats_le (b := 1099511627776) h) rest

/-! ### C3 -/
/-- the three lists that a text begins with -/
def dec (t : List UInt8) : Option (List Nat × List Nat × List Nat) := match unpack t with
  | none => none
  | some (l, r1) => match unpack r1 with
    | none => none
    | some (k, r2) => match unpack r2 with
      | none => none
      | some (v, _) => some (l, k, v)
def i1 (l : List Nat) : Int := ((l.getD 0 0 : Nat) : Int)
def i2 (l : List Nat) : Int := ((l.getD 1 0 : Nat) : Int)
def zs (l : List Nat) : List Int := l.map fun n : Nat => (n : Int)
def decode (t data : List UInt8) : Option (Int × Int × List Int × List Int) := match dec t with
  | none => none
  | some (l, k, v) => if l.length = 2 ∧ enc (i1 l) (i2 l) (zs k) (down (zs v)) data = some t then some (i1 l, i2 l, zs k, down (zs v)) else none

theorem up_mem {vs : List Int} (h : ∀ z ∈ vs, -1 ≤ z ∧ z < 512) : ∀ z ∈ up vs, 0 ≤ z ∧ z ≤ 1099511627776 := by
  intro z hz
  obtain ⟨y, hy, rfl⟩ := List.mem_map.1 hz
  have := h y hy
  omega
theorem dec_body {k s : Int} {ks vs : List Int} (h : right k s ks vs = true) (rest : List UInt8) : dec (body k s ks vs ++ rest) = some (nats [k, s], nats ks, nats (up vs)) := by
  obtain ⟨hs, ⟨h1, h8, hk⟩, hkind, hvl, hv⟩ := right_parts h
  have e1 : unpack (body k s ks vs ++ rest) = some (nats [k, s], packI ks ++ (packI (up vs) ++ rest)) := by
    have : body k s ks vs ++ rest = packI [k, s] ++ (packI ks ++ (packI (up vs) ++ rest)) := by simp [body, List.append_assoc]
    rw [this]
    refine unpack_packI ?_ (by simp) _
    intro z hz
    rcases List.mem_cons.1 hz with rfl | hz
    · omega
    · have : z = s := by simpa using hz
      omega
  have e2 : unpack (packI ks ++ (packI (up vs) ++ rest)) = some (nats ks, packI (up vs) ++ rest) := unpack_packI (fun z hz => by have := hk z hz; omega) (by omega) _
  have e3 : unpack (packI (up vs) ++ rest) = some (nats (up vs), rest) := unpack_packI (up_mem hv) (by rw [up_length]; omega) _
  unfold dec
  rw [e1]; simp only []
  rw [e2]; simp only []
  rw [e3]
theorem decode_body {k s : Int} {ks vs : List Int} (h : right k s ks vs = true) (rest data : List UInt8) :
    decode (body k s ks vs ++ rest) data = if enc k s ks vs data = some (body k s ks vs ++ rest) then some (k, s, ks, vs) else none := by
  obtain ⟨hs, ⟨h1, h8, hk⟩, hkind, hvl, hv⟩ := right_parts h
  unfold decode
  rw [dec_body h rest]
  have a1 : i1 (nats [k, s]) = k := by simp [i1, nats]; omega
  have a2 : i2 (nats [k, s]) = s := by simp [i2, nats]; omega
  have a3 : zs (nats ks) = ks := nats_back fun z hz => (hk z hz).1
  have a4 : down (zs (nats (up vs))) = vs := by
    have : zs (nats (up vs)) = up vs := nats_back fun z hz => (up_mem hv z hz).1
    rw [this, down_up]
  simp only []
  rw [a1, a2, a3, a4]
  have a5 : (nats [k, s]).length = 2 := by simp [nats]
  by_cases hc : enc k s ks vs data = some (body k s ks vs ++ rest)
  · rw [if_pos ⟨a5, hc⟩, if_pos hc]
  · rw [if_neg (fun h => hc h.2), if_neg hc]
theorem decode_some {t data : List UInt8} {k s : Int} {ks vs : List Int} (h : decode t data = some (k, s, ks, vs)) : enc k s ks vs data = some t := by
  unfold decode at h
  cases hd : dec t with
  | none => rw [hd] at h; simp at h
  | some x =>
    obtain ⟨l, a, v⟩ := x
    rw [hd] at h
    simp only [] at h
    split at h
    · rename_i hc
      injection h with h
      injection h with e1 h
      injection h with e2 h
      injection h with e3 e4
      rw [← e1, ← e2, ← e3, ← e4]
      exact hc.2
    · cases h

/-! ### C4 -/
/-- what is encoded is decoded -/
theorem decode_enc {k s : Int} {ks vs : List Int} {data t : List UInt8} (h : enc k s ks vs data = some t) : decode t data = some (k, s, ks, vs) := by
  obtain ⟨hr, hd, rfl⟩ := enc_some h
  have := decode_body hr (four (sum (body k s ks vs ++ data))) data
  exact this.trans (if_pos h)
theorem four_length (n : Nat) : (four n).length = 4 := rfl
theorem u8_inj {a b : Nat} (ha : a < 256) (hb : b < 256) (h : a.toUInt8 = b.toUInt8) : a = b := by
  have := congrArg UInt8.toNat h
  rwa [u8_nat a ha, u8_nat b hb] at this
theorem four_inj {a b : Nat} (ha : a < 4294967296) (hb : b < 4294967296) (h : four a = four b) : a = b := by
  unfold four at h
  injection h with h1 h
  injection h with h2 h
  injection h with h3 h
  injection h with h4 _
  have e1 := u8_inj (by omega) (by omega) h1
  have e2 := u8_inj (by omega) (by omega) h2
  have e3 := u8_inj (by omega) (by omega) h3
  have e4 := u8_inj (by omega) (by omega) h4
  omega
theorem tag_length (k s : Int) (ks vs : List Int) (data : List UInt8) : (tagOf k s ks vs data).length = (body k s ks vs).length + 4 := by
  unfold tagOf; rw [List.length_append, four_length]
/-- a tag with something else behind its body is none -/
theorem decode_other {k s : Int} {ks vs : List Int} {data t rest : List UInt8} (h : enc k s ks vs data = some t) (hne : body k s ks vs ++ rest ≠ t) : decode (body k s ks vs ++ rest) data = none := by
  rw [decode_body (enc_some h).1, h, if_neg]
  intro e
  injection e with e
  exact hne e.symm
theorem decode_more {k s : Int} {ks vs : List Int} {data t : List UInt8} (h : enc k s ks vs data = some t) (b : UInt8) : decode (t ++ [b]) data = none := by
  have ht := (enc_some h).2.2
  have e : t ++ [b] = body k s ks vs ++ (four (sum (body k s ks vs ++ data)) ++ [b]) := by rw [ht]; unfold tagOf; rw [List.append_assoc]
  rw [e]
  refine decode_other h ?_
  rw [← e]
  intro e2
  have := congrArg List.length e2
  simp at this
theorem decode_less {k s : Int} {ks vs : List Int} {data t : List UInt8} (h : enc k s ks vs data = some t) : decode (t.take (t.length - 1)) data = none := by
  have ht := (enc_some h).2.2
  have hl := tag_length k s ks vs data
  rw [← ht] at hl
  have e : t.take (t.length - 1) = body k s ks vs ++ (four (sum (body k s ks vs ++ data))).take 3 := by
    rw [hl, ht]; unfold tagOf
    rw [List.take_append, List.take_of_length_le (by omega)]
    congr 2
    omega
  rw [e]
  refine decode_other h ?_
  rw [← e]
  intro e2
  have := congrArg List.length e2
  rw [List.length_take] at this
  omega
/-- one byte of a tag changed -/
theorem decode_changed {k s : Int} {ks vs : List Int} {data p q : List UInt8} {x y : UInt8} (h : enc k s ks vs data = some (p ++ x :: q)) (hxy : x ≠ y) : decode (p ++ y :: q) data = none := by
  cases hd : decode (p ++ y :: q) data with
  | none => rfl
  | some r =>
    exfalso
    obtain ⟨k', s', ks', vs'⟩ := r
    have h' := decode_some hd
    obtain ⟨_, _, e1⟩ := enc_some h
    obtain ⟨_, _, e2⟩ := enc_some h'
    have l1 := tag_length k s ks vs data
    have l2 := tag_length k' s' ks' vs' data
    rw [← e1] at l1
    rw [← e2] at l2
    simp only [List.length_append, List.length_cons] at l1 l2
    unfold tagOf at e1 e2
    generalize hb1 : body k s ks vs = b1 at *
    generalize hb2 : body k' s' ks' vs' = b2 at *
    by_cases hp : p.length < b1.length
    · -- in the body: the sums would be one
      obtain ⟨m, hm⟩ : ∃ m, b1 = p ++ x :: m := by
        have : (p ++ x :: q).take b1.length = b1 := by rw [e1, List.take_left]
        rw [List.take_append, List.take_of_length_le (by omega)] at this
        obtain ⟨d, hd⟩ : ∃ d, b1.length - p.length = d + 1 := ⟨b1.length - p.length - 1, by omega⟩
        rw [hd, List.take_succ_cons] at this
        exact ⟨_, this.symm⟩
      have hq : q = m ++ four (sum (b1 ++ data)) := by
        have := e1
        rw [hm] at this
        simp only [List.append_assoc, List.cons_append] at this
        have := List.append_cancel_left this
        injection this with _ this
        rw [this, hm]; simp
      have h2 : p ++ y :: m ++ four (sum (b1 ++ data)) = b2 ++ four (sum (b2 ++ data)) := by rw [← e2, hq]; simp
      have hlen : (p ++ y :: m).length = b2.length := by
        have := congrArg List.length hm
        simp only [List.length_append, List.length_cons] at this ⊢
        omega
      obtain ⟨hb, hf⟩ := List.append_inj h2 hlen
      have hsum := four_inj (Crc.sum_lt _) (Crc.sum_lt _) hf
      rw [hm, ← hb] at hsum
      simp only [List.append_assoc, List.cons_append] at hsum
      exact hxy (sum_one p (m ++ data) x y hsum)
    · -- in the sum: the bodies are one
      have t1 : (p ++ x :: q).take b1.length = b1 := by rw [e1, List.take_left]
      have t2 : (p ++ y :: q).take b2.length = b2 := by rw [e2, List.take_left]
      rw [List.take_append_of_le_length (by omega)] at t1
      rw [List.take_append_of_le_length (by omega)] at t2
      have hbl : b1.length = b2.length := by omega
      rw [hbl] at t1
      have hb : b1 = b2 := t1.symm.trans t2
      rw [hb] at e1
      have := e1.trans e2.symm
      have := List.append_cancel_left this
      injection this with this _
      exact hxy this
/-- one byte of the data changed -/
theorem decode_data {k s : Int} {ks vs : List Int} {t p q : List UInt8} {x y : UInt8} (h : enc k s ks vs (p ++ x :: q) = some t) (hxy : x ≠ y) : decode t (p ++ y :: q) = none := by
  obtain ⟨hr, hd, ht⟩ := enc_some h
  have e := decode_body hr (four (sum (body k s ks vs ++ (p ++ x :: q)))) (p ++ y :: q)
  have ht' : t = body k s ks vs ++ four (sum (body k s ks vs ++ (p ++ x :: q))) := ht
  rw [← ht'] at e
  rw [e, if_neg]
  intro h'
  obtain ⟨_, _, ht2⟩ := enc_some h'
  unfold tagOf at ht2
  rw [ht'] at ht2
  have := List.append_cancel_left ht2
  have := four_inj (Crc.sum_lt _) (Crc.sum_lt _) this
  rw [← List.append_assoc, ← List.append_assoc] at this
  exact hxy (sum_one (body k s ks vs ++ p) q x y this)
/-- unlike records have unlike tags -/
theorem enc_apart {k s k' s' : Int} {ks vs ks' vs' : List Int} {data t t' : List UInt8} (h : enc k s ks vs data = some t) (h' : enc k' s' ks' vs' data = some t') :
    t = t' ↔ (k = k' ∧ s = s' ∧ ks = ks' ∧ vs = vs') := by
  constructor
  · rintro rfl
    have := (decode_enc h).symm.trans (decode_enc h')
    injection this with this
    injection this with e1 this
    injection this with e2 this
    injection this with e3 e4
    exact ⟨e1, e2, e3, e4⟩
  · rintro ⟨rfl, rfl, rfl, rfl⟩
    have := h.symm.trans h'
    injection this
theorem tag_ge {k s : Int} {ks vs : List Int} {data t : List UInt8} (h : enc k s ks vs data = some t) : 10 ≤ t.length := by
  obtain ⟨hr, _, rfl⟩ := enc_some h
  obtain ⟨hs, ⟨h1, h8, hk⟩, hkind, hvl, hv⟩ := right_parts hr
  rw [tag_length]
  have p1 : packI [k, s] = pack (nats [k, s]) := packI_nats (by
    intro z hz
    rcases List.mem_cons.1 hz with rfl | hz
    · omega
    · have : z = s := by simpa using hz
      omega)
  have p2 : packI ks = pack (nats ks) := packI_nats (fun z hz => by have := hk z hz; omega)
  have p3 : packI (up vs) = pack (nats (up vs)) := packI_nats (up_mem hv)
  unfold body
  rw [p1, p2, p3]
  unfold pack
  have g1 := put_pos (nats [k, s]).length
  have g2 := put_pos (nats ks).length
  have g3 := put_pos (nats (up vs)).length
  have f1 := puts_len (nats [k, s])
  have f2 := puts_len (nats ks)
  have n1 : (nats [k, s]).length = 2 := by simp [nats]
  have n2 : (nats ks).length = ks.length := by simp [nats]
  simp only [List.length_append]
  omega
end Go.Proofs.Ytcjhaapmehegkaa.Tag
