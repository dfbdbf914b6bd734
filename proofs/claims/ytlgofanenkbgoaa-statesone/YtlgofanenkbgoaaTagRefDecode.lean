/-
  Layer 3: what is decoded, by the document.
-/
import Derived.Test.YtlgofanenkbgoaaTagEncodes
import Derived.Test.YtlgofanenkbgoaaMemLow
import Derived.Laws.ResultCell
import Derived.Laws.Rows
import Derived.Deep.RegionLaw
import Derived.Deep.DrawnRows
namespace Go.Proofs.Ytlgofanenkbgoaa.Tag
open Go.RowKit Go.Proofs.Ytlgofanenkbgoaa.Pack Go.Proofs.Ytlgofanenkbgoaa.Crc

/-! ### What Unpack answers, field by field -/
def uL : Option (List Nat × List UInt8) → List Nat
  | none => []
  | some (l, _) => l
def uR : Option (List Nat × List UInt8) → List UInt8
  | none => []
  | some (_, r) => r
def uE : Option (List Nat × List UInt8) → Int
  | none => 20
  | some _ => 0
theorem unpackU {base : Nat} {o : Option (List Nat × List UInt8)} {e : Ending} {w' : World} (h : unpackOk base o e w') :
    ∃ oa cap, e = .returned (.tuple #[.slice oa (uL o).length cap, .string ⟨(uR o).toArray⟩, .int .i64 (uE o)]) ∧ Ints .i64 w' (.slice oa (uL o).length cap) (ints (uL o)) ∧ Past base (.slice oa (uL o).length cap) := by
  cases o with
  | none => exact ⟨none, 0, h, Ints.nil _ _ _ _, Past.nil _ _ _⟩
  | some p =>
    obtain ⟨l, r⟩ := p
    obtain ⟨v, he, hv⟩ := h
    have hi := Ints.of_owns (k := .i64) (zs := ints l) hv
    have hp := Past.of_owns hv
    obtain ⟨oa, cap, rfl⟩ := hi.shape
    rw [ints_length] at he hi hp
    exact ⟨oa, cap, he, hi, hp⟩
theorem unpack_nil : unpack [] = none := unpack_none take_nil
theorem uR_len (o : Option (List Nat × List UInt8)) (s : List UInt8) (h : o = unpack s) : (uR o).length ≤ s.length := by
  cases o with
  | none => simp [uR]
  | some p =>
    obtain ⟨l, r⟩ := p
    have := (unpack_some h.symm).1
    rw [this]; simp [uR]
theorem uL_le (o : Option (List Nat × List UInt8)) (s : List UInt8) (h : o = unpack s) : (uL o).length ≤ 1099511627776 ∧ ∀ n ∈ uL o, n ≤ maxN := by
  cases o with
  | none => simp [uL]
  | some p =>
    obtain ⟨l, r⟩ := p
    obtain ⟨_, hl, hn⟩ := unpack_some h.symm
    exact ⟨hl, hn⟩
/-- the three lists, by what Unpack answers -/
theorem dec_u {t : List UInt8} {o1 o2 o3 : Option (List Nat × List UInt8)} (h1 : o1 = unpack t) (h2 : o2 = unpack (uR o1)) (h3 : o3 = unpack (uR o2)) :
    dec t = if uE o1 = 0 ∧ uE o2 = 0 ∧ uE o3 = 0 then some (uL o1, uL o2, uL o3) else none := by
  unfold dec
  rw [← h1]
  cases o1 with
  | none => simp [uE]
  | some p =>
    obtain ⟨l, r⟩ := p
    simp only [uR] at h2
    simp only []
    rw [← h2]
    cases o2 with
    | none => simp [uE]
    | some q =>
      obtain ⟨k, r2⟩ := q
      simp only [uR] at h3
      simp only []
      rw [← h3]
      cases o3 with
      | none => simp [uE]
      | some x => obtain ⟨v, r3⟩ := x; simp [uE, uL]

/-! ### What Decode answers -/
def decR : Option (Int × Int × List Int × List Int) → Int × Int × List Int × List Int
  | none => (0, 0, [], [])
  | some r => r
def decE : Option (Int × Int × List Int × List Int) → Int
  | none => 30
  | some _ => 0
def DecOk (o : Option (Int × Int × List Int × List Int)) (e : Ending) (w' : World) : Prop :=
  ∃ vk vv, e = .returned (.tuple #[.agg #[.int .i64 (decR o).1, .int .i64 (decR o).2.1, vk, vv], .int .i64 (decE o)]) ∧ Ints .i64 w' vk (decR o).2.2.1 ∧ Ints .i64 w' vv (decR o).2.2.2
theorem DecOk.none (w' : World) : DecOk none (.returned (.tuple #[.agg #[.int .i64 0, .int .i64 0, .slice none 0 0, .slice none 0 0], .int .i64 30])) w' :=
  ⟨_, _, rfl, Ints.nil _ _ _ _, Ints.nil _ _ _ _⟩
/-- the same, and its lists lie in no block ahead of base -/
def DecPast (base : Nat) (o : Option (Int × Int × List Int × List Int)) (e : Ending) (w' : World) : Prop :=
  ∃ vk vv, e = .returned (.tuple #[.agg #[.int .i64 (decR o).1, .int .i64 (decR o).2.1, vk, vv], .int .i64 (decE o)]) ∧ Ints .i64 w' vk (decR o).2.2.1 ∧ Ints .i64 w' vv (decR o).2.2.2 ∧ Past base vk ∧ Past base vv
theorem DecPast.none (base : Nat) (w' : World) : DecPast base none (.returned (.tuple #[.agg #[.int .i64 0, .int .i64 0, .slice none 0 0, .slice none 0 0], .int .i64 30])) w' :=
  ⟨_, _, rfl, Ints.nil _ _ _ _, Ints.nil _ _ _ _, Past.nil _ _ _, Past.nil _ _ _⟩
theorem DecPast.ok {base : Nat} {o : Option (Int × Int × List Int × List Int)} {e : Ending} {w' : World} (h : DecPast base o e w') : DecOk o e w' := by
  obtain ⟨vk, vv, h1, h2, h3, _, _⟩ := h
  exact ⟨vk, vv, h1, h2, h3⟩
theorem decode_dec_none {t data : List UInt8} (h : dec t = none) : decode t data = none := by unfold decode; rw [h]
theorem decode_dec_len {t data : List UInt8} {l k v : List Nat} (h : dec t = some (l, k, v)) (hl : ¬ l.length = 2) : decode t data = none := by
  unfold decode; rw [h]; simp only []; rw [if_neg (fun h => hl h.1)]
theorem decode_dec {t data : List UInt8} {l k v : List Nat} (h : dec t = some (l, k, v)) (hl : l.length = 2) :
    decode t data = if enc (i1 l) (i2 l) (zs k) (down (zs v)) data = some t then some (i1 l, i2 l, zs k, down (zs v)) else none := by
  unfold decode; rw [h]; simp only []
  by_cases hc : enc (i1 l) (i2 l) (zs k) (down (zs v)) data = some t
  · rw [if_pos ⟨hl, hc⟩, if_pos hc]
  · rw [if_neg (fun h => hc h.2), if_neg hc]

theorem getD_nat {l : List Nat} {k : Nat} (h : k < l.length) : l.getD k 0 ∈ l := by
  have : l.getD k 0 = l[k] := by simp [h]
  rw [this]; exact List.getElem_mem h
theorem down_snoc (l : List Int) (k : Nat) (h : k < l.length) : (down l).take k ++ [l.getD k 0 - 1] = (down l).take (k + 1) := by
  have hk : k < (down l).length := by simpa [down] using h
  rw [List.take_succ_eq_append_getElem hk]
  simp [down, h]
theorem i64_id (z : Int) (h0 : -9223372036854775808 ≤ z) (h1 : z < 9223372036854775808) : IntKind.i64.wrap z = z := by
  simp only [IntKind.wrap, IntKind.signed, IntKind.bits]
  simp
  omega
theorem owns_shape {w : World} {base : Nat} {e : TypeId} {size : Nat} {v : Value} {n : Nat} {xs : List Value} (h : w.ownsRow base e size v n xs) : ∃ oa cap, v = .slice oa n cap := by
  rcases h.2 with ⟨rfl, h0⟩ | ⟨g, cap, cur, rfl, _⟩
  · subst h0; exact ⟨_, _, rfl⟩
  · exact ⟨_, _, rfl⟩
theorem two_of {l : List Nat} (h : l.length = 2) : ∃ x y, l = [x, y] := by
  match l, h with
  | [x, y], _ => exact ⟨x, y, rfl⟩
theorem info_rec : (Try.prog.info? 68).map (·.size) = some 4 := by kernel_rfl
/-- a record that is read out of its block -/
theorem load_rec {w : World} {b : Nat} {a0 a1 a2 a3 : Value} (h : Blk w b 68 #[a0, a1, a2, a3]) : (loadVar 68 ⟨b, 0, none⟩).run Try.prog w = .ok (.agg #[a0, a1, a2, a3]) w :=
  run_loadVar_row w b 68 68 #[a0, a1, a2, a3] (0, 0) _ h Try.underlying68 rfl info_rec
/-- a record and a number as results -/
theorem ret_rec {fn : Func} {p u : Tmp} (h : fn.results = #[.cell p 68, .tmp u]) (tmps : Array Value) (w : World) {b : Nat} {a0 a1 a2 a3 : Value} (hp : tmps.getD p undef = .pointer (some ⟨b, 0, none⟩)) (hb : Blk w b 68 #[a0, a1, a2, a3]) :
    (results fn tmps).run Try.prog w = .ok (.tuple #[.agg #[a0, a1, a2, a3], tmps.getD u undef]) w := by
  rw [results_cell_tmp h, hp]
  simp only [asAddr, Sem.run_pure, Result.andThen_ok, load_rec hb]

end Go.Proofs.Ytlgofanenkbgoaa.Tag
