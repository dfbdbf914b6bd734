/-
  PlanMath, PlanMem, PlanRows: in one text (merge.json).
-/
import Derived.Test.YtedopplldpcinaaRepLivMath
import Derived.Test.YtedopplldpcinaaScanPages
import Derived.Test.YtedopplldpcinaaScanLow
/-
  Layer 12: the mathematics of what is to be written.
-/
namespace Go.Proofs.Ytedopplldpcinaa.Plan
open Go.Proofs.Ytedopplldpcinaa.Nand Go.Proofs.Ytedopplldpcinaa.Scan Go.Proofs.Ytedopplldpcinaa.Live Go.Proofs.Ytedopplldpcinaa.Replay

/-- Data, Kind, Seq, Keys, Values -/
abbrev WriteT := ByteArray × Int × Int × List Int × List Int
/-- part number i, of eight -/
def chunk (l : List Int) (i : Nat) : List Int := (l.drop (8 * i)).take 8
def partN (l : List Int) : Nat := (l.length + 7) / 8
def partsN (l : List Int) (k : Nat) : List (List Int) := (List.range k).map (chunk l)
def partsL (l : List Int) : List (List Int) := partsN l (partN l)
def hasT (t : TableT) (s : Int) : Int := if s < (t.1.length : Int) then t.1.getD s.toNat 0 else -1
def apartB (t : TableT) (b s : Int) : Bool := decide (hasT t s < 0 ∨ hasT t s / 16 ≠ b)
def apartN (t : TableT) (l : List Int) (b : Int) (k : Nat) : List Int := (l.take k).filter (apartB t b)
def apartL (t : TableT) (l : List Int) (b : Int) : List Int := l.filter (apartB t b)
def dataW (d : ByteArray) (ks : List Int) : WriteT := (d, 1, 0, ks, [])
def changeW (t : TableT) (ks : List Int) : WriteT := (⟨#[]⟩, 2, 0, ks, ks.map (hasT t))
def pageMoves (bs : List BlockT) (t : TableT) (b : Int) (p : Nat) : List WriteT :=
  (partsL (which t.1 (place b p))).map (dataW (pageC bs (place b p)).1.2.1) ++ (partsL (apartL t (which t.2 (place b p)) b)).map (changeW t)
def movesN (bs : List BlockT) (t : TableT) (b : Int) (k : Nat) : List WriteT := (List.range k).flatMap (pageMoves bs t b)
def movesT (bs : List BlockT) (t : TableT) (b : Int) : List WriteT := if 0 ≤ b ∧ b < 32 then movesN bs t b 16 else []
def twinB (bs : List BlockT) (t : TableT) (d : ByteArray) (best : Int) (m : Int) : Bool :=
  decide ((pageC bs m).2 = true ∧ (pageC bs m).1.2.1 = d ∧ (which t.1 m).length < 8 ∧ (best < 0 ∨ m < best))
def twinN (bs : List BlockT) (t : TableT) (d : ByteArray) : Nat → Int
  | 0 => -1
  | k + 1 => if twinB bs t d (twinN bs t d k) (t.1.getD k 0) = true then t.1.getD k 0 else twinN bs t d k
def twinT (bs : List BlockT) (t : TableT) (d : ByteArray) : Int := twinN bs t d t.1.length
def hasD (bs : List BlockT) (t : TableT) (s : Int) : ByteArray :=
  if s < 0 ∨ (t.1.length : Int) ≤ s then ⟨#[]⟩ else (pageC bs (t.1.getD s.toNat 0)).1.2.1

theorem partsN_succ (l : List Int) (k : Nat) : partsN l (k + 1) = partsN l k ++ [chunk l k] := by simp [partsN, List.range_succ]
theorem partsN_len (l : List Int) (k : Nat) : (partsN l k).length = k := by simp [partsN]
theorem partN_lt {l : List Int} {k : Nat} : k < partN l ↔ 8 * k < l.length := by unfold partN; omega
theorem chunk_len (l : List Int) (k : Nat) : (chunk l k).length = min 8 (l.length - 8 * k) := by unfold chunk; rw [List.length_take, List.length_drop]
theorem chunk_pos {l : List Int} {k : Nat} (h : 8 * k < l.length) : 0 < (chunk l k).length := by rw [chunk_len]; omega
theorem partsL_mem {l ks : List Int} (h : ks ∈ partsL l) : 0 < ks.length ∧ ks.length ≤ 8 ∧ ∀ z ∈ ks, z ∈ l := by
  unfold partsL partsN at h
  obtain ⟨k, hk, rfl⟩ := List.mem_map.1 h
  rw [List.mem_range] at hk
  have h8 := partN_lt.1 hk
  refine ⟨chunk_pos h8, by rw [chunk_len]; omega, fun z hz => ?_⟩
  exact List.mem_of_mem_drop (List.mem_of_mem_take hz)
theorem parts_flat (l : List Int) (k : Nat) : (partsN l k).flatten = l.take (8 * k) := by
  induction k with
  | zero => simp [partsN]
  | succ k ih =>
    rw [partsN_succ, List.flatten_append, ih]
    unfold chunk
    simp only [List.flatten_cons, List.flatten_nil, List.append_nil]
    rw [← List.take_add]
    rfl
theorem partsL_flat (l : List Int) : (partsL l).flatten = l := by
  unfold partsL
  rw [parts_flat, List.take_of_length_le]
  unfold partN
  omega
theorem apartN_yes {t : TableT} {l : List Int} {b : Int} {k : Nat} (h : k < l.length) (ha : apartB t b (l.getD k 0) = true) : apartN t l b (k + 1) = apartN t l b k ++ [l.getD k 0] := by
  unfold apartN
  have e : l.getD k 0 = l[k] := by simp [h]
  rw [e] at ha ⊢
  rw [List.take_succ_eq_append_getElem h, List.filter_append]
  simp [ha]
theorem apartN_no {t : TableT} {l : List Int} {b : Int} {k : Nat} (h : k < l.length) (ha : apartB t b (l.getD k 0) = false) : apartN t l b (k + 1) = apartN t l b k := by
  unfold apartN
  have e : l.getD k 0 = l[k] := by simp [h]
  rw [e] at ha
  rw [List.take_succ_eq_append_getElem h, List.filter_append]
  simp [ha]
theorem apartN_all (t : TableT) (l : List Int) (b : Int) : apartN t l b l.length = apartL t l b := by unfold apartN apartL; rw [List.take_length]
theorem apartN_len (t : TableT) (l : List Int) (b : Int) (k : Nat) : (apartN t l b k).length ≤ k := Nat.le_trans (List.length_filter_le _ _) (by rw [List.length_take]; omega)
theorem apartL_len (t : TableT) (l : List Int) (b : Int) : (apartL t l b).length ≤ l.length := List.length_filter_le _ _
theorem movesN_succ (bs : List BlockT) (t : TableT) (b : Int) (k : Nat) : movesN bs t b (k + 1) = movesN bs t b k ++ pageMoves bs t b k := by simp [movesN, List.range_succ]
theorem twin_yes {bs : List BlockT} {t : TableT} {d : ByteArray} {k : Nat} (h : twinB bs t d (twinN bs t d k) (t.1.getD k 0) = true) : twinN bs t d (k + 1) = t.1.getD k 0 := by rw [twinN, if_pos h]
theorem twin_no {bs : List BlockT} {t : TableT} {d : ByteArray} {k : Nat} (h : twinB bs t d (twinN bs t d k) (t.1.getD k 0) = false) : twinN bs t d (k + 1) = twinN bs t d k := by rw [twinN, if_neg (by rw [h]; decide)]
end Go.Proofs.Ytedopplldpcinaa.Plan
/-
  Layer 12: writes, in memory: data and a record each, in rows; lists in parts.
-/
namespace Go.Proofs.Ytedopplldpcinaa.Plan
open Go.RowKit Go.Proofs.Ytedopplldpcinaa.Nand Go.Proofs.Ytedopplldpcinaa.Scan

/-- the cells of a write: the data, the kind, the Seq, the keys, the values -/
abbrev WRowT := ByteArray × Int × Int × SlT × SlT
def encW (x : WRowT) : List Value := [.string x.1, .int .i64 x.2.1, .int .i64 x.2.2.1, slV x.2.2.2.1, slV x.2.2.2.2]
def wrCells (xs : List WRowT) : List Value := xs.flatMap encW
theorem encW_length (x : WRowT) : (encW x).length = 5 := rfl
theorem wrCells_length (xs : List WRowT) : (wrCells xs).length = xs.length * 5 := by
  unfold wrCells
  induction xs with
  | nil => rfl
  | cons x xs ih => rw [List.flatMap_cons, List.length_append, ih, encW_length, List.length_cons]; omega
theorem wrCells_append (xs ys : List WRowT) : wrCells (xs ++ ys) = wrCells xs ++ wrCells ys := by simp [wrCells]
theorem wrCells_snoc (xs : List WRowT) (x : WRowT) : wrCells (xs ++ [x]) = wrCells xs ++ encW x := by simp [wrCells]
theorem wrCells_get {xs : List WRowT} {i j : Nat} (hi : i < xs.length) (hj : j < 5) : (wrCells xs)[i * 5 + j]? = (encW xs[i])[j]? := by
  unfold wrCells
  induction xs generalizing i with
  | nil => simp at hi
  | cons x xs ih =>
    rw [List.flatMap_cons]
    cases i with
    | zero => rw [List.getElem?_append_left (by rw [encW_length]; omega)]; simp
    | succ i =>
      rw [List.getElem?_append_right (by rw [encW_length]; omega), encW_length, show (i + 1) * 5 + j - 5 = i * 5 + j by omega, ih (by simpa using hi)]
      simp
/-- the cells x tell f -/
def FitsW (S : Nat → Prop) (w : World) (x : WRowT) (f : WriteT) : Prop :=
  x.1 = f.1 ∧ x.2.1 = f.2.1 ∧ x.2.2.1 = f.2.2.1 ∧ IntsIn S w (slV x.2.2.2.1) f.2.2.2.1 ∧ IntsIn S w (slV x.2.2.2.2) f.2.2.2.2
theorem FitsW.kept {S S' : Nat → Prop} {w w' : World} {x : WRowT} {f : WriteT} (h : FitsW S w x f) (hS : ∀ g, S g → g < w.heap.size → S' g ∧ ∀ off, w'.cell? ⟨g, off, none⟩ = w.cell? ⟨g, off, none⟩) : FitsW S' w' x f :=
  ⟨h.1, h.2.1, h.2.2.1, h.2.2.2.1.kept hS, h.2.2.2.2.kept hS⟩
theorem FitsW.mem {S : Nat → Prop} {w w' : World} {x : WRowT} {f : WriteT} (h : FitsW S w x f) (m : Mem w w') : FitsW S w' x f :=
  h.kept fun g hg hl => ⟨hg, fun off => Below.cell m (p := ⟨g, off, none⟩) hl⟩
theorem FitsW.mono {S S' : Nat → Prop} {w : World} {x : WRowT} {f : WriteT} (h : FitsW S w x f) (hS : ∀ g, S g → g < w.heap.size → S' g) : FitsW S' w x f :=
  h.kept fun g hg hl => ⟨hS g hg hl, fun _ => rfl⟩
/-- a row of cells tells a list -/
def FitsWL (S : Nat → Prop) (w : World) (xs : List WRowT) (fs : List WriteT) : Prop :=
  xs.length = fs.length ∧ ∀ i (h : i < xs.length) (h' : i < fs.length), FitsW S w xs[i] fs[i]
theorem FitsWL.nil (S : Nat → Prop) (w : World) : FitsWL S w [] [] := ⟨rfl, fun i h => by simp at h⟩
theorem FitsWL.kept {S S' : Nat → Prop} {w w' : World} {xs : List WRowT} {fs : List WriteT} (h : FitsWL S w xs fs) (hS : ∀ g, S g → g < w.heap.size → S' g ∧ ∀ off, w'.cell? ⟨g, off, none⟩ = w.cell? ⟨g, off, none⟩) : FitsWL S' w' xs fs :=
  ⟨h.1, fun i a b => (h.2 i a b).kept hS⟩
theorem FitsWL.mem {S : Nat → Prop} {w w' : World} {xs : List WRowT} {fs : List WriteT} (h : FitsWL S w xs fs) (m : Mem w w') : FitsWL S w' xs fs :=
  h.kept fun g hg hl => ⟨hg, fun off => Below.cell m (p := ⟨g, off, none⟩) hl⟩
theorem FitsWL.mono {S S' : Nat → Prop} {w : World} {xs : List WRowT} {fs : List WriteT} (h : FitsWL S w xs fs) (hS : ∀ g, S g → g < w.heap.size → S' g) : FitsWL S' w xs fs :=
  h.kept fun g hg hl => ⟨hS g hg hl, fun _ => rfl⟩
theorem FitsWL.snoc {S : Nat → Prop} {w : World} {xs : List WRowT} {fs : List WriteT} (h : FitsWL S w xs fs) {x : WRowT} {f : WriteT} (hx : FitsW S w x f) : FitsWL S w (xs ++ [x]) (fs ++ [f]) := by
  have hl := h.1
  refine ⟨by simp [hl], fun i a b => ?_⟩
  by_cases e : i < xs.length
  · rw [List.getElem_append_left e, List.getElem_append_left (by omega)]
    exact h.2 i e (by omega)
  · have he : i = xs.length := by simp at a; omega
    subst he
    rw [show (xs ++ [x])[xs.length]'a = x from by simp, show (fs ++ [f])[xs.length]'b = f from by rw [List.getElem_append_right (by omega)]; simp [hl]]
    exact hx

/-- a slice of writes -/
def WritesAt (S : Nat → Prop) (w : World) (v : Value) (fs : List WriteT) : Prop :=
  fs.length ≤ maxLen ∧ ((fs = [] ∧ ∃ a cap, v = .slice a 0 cap) ∨
    ∃ g off cap xs, v = .slice (some ⟨g, off, none⟩) fs.length cap ∧ 0 < fs.length ∧ S g ∧ FitsWL S w xs fs ∧ ∀ j u, (wrCells xs)[j]? = some u → w.cell? ⟨g, off + j, none⟩ = some u)
theorem WritesAt.nil (S : Nat → Prop) (w : World) (a : Option Addr) (cap : Nat) : WritesAt S w (.slice a 0 cap) [] := ⟨by simp [maxLen], .inl ⟨rfl, a, cap, rfl⟩⟩
theorem WritesAt.kept {S S' : Nat → Prop} {w w' : World} {v : Value} {fs : List WriteT} (h : WritesAt S w v fs) (hS : ∀ g, S g → g < w.heap.size → S' g ∧ ∀ off, w'.cell? ⟨g, off, none⟩ = w.cell? ⟨g, off, none⟩) : WritesAt S' w' v fs := by
  refine ⟨h.1, ?_⟩
  rcases h.2 with h | ⟨g, off, cap, xs, hv, h0, hs, hf, hc⟩
  · exact .inl h
  · have hlen := hf.1
    have c0 : w.cell? ⟨g, off + (0 * 5 + 0), none⟩ = some (.string (xs[0]'(by omega)).1) := hc _ _ (by rw [wrCells_get (by omega) (by omega)]; rfl)
    obtain ⟨h1, h2⟩ := hS g hs (World.block_lt_of_cell? w _ c0)
    exact .inr ⟨g, off, cap, xs, hv, h0, h1, hf.kept hS, fun j u hj => by rw [h2]; exact hc j u hj⟩
theorem WritesAt.mem {S : Nat → Prop} {w w' : World} {v : Value} {fs : List WriteT} (h : WritesAt S w v fs) (m : Mem w w') : WritesAt S w' v fs :=
  h.kept fun g hg hl => ⟨hg, fun off => Below.cell m (p := ⟨g, off, none⟩) hl⟩
theorem WritesAt.mono {S S' : Nat → Prop} {w : World} {v : Value} {fs : List WriteT} (h : WritesAt S w v fs) (hS : ∀ g, S g → g < w.heap.size → S' g) : WritesAt S' w v fs :=
  h.kept fun g hg hl => ⟨hS g hg hl, fun _ => rfl⟩
theorem WritesAt.setCell {S : Nat → Prop} {w : World} {v : Value} {fs : List WriteT} (h : WritesAt S w v fs) {p : Addr} (hp : ¬ S p.block) (x : Value) : WritesAt S (w.setCell p x) v fs :=
  h.kept fun g hg _ => ⟨hg, fun off => World.cell?_of_block (w := w) (a := ⟨g, off, none⟩) (Below.heap_setCell w p x g (fun e => hp (e ▸ hg)))⟩
theorem WritesAt.shape {S : Nat → Prop} {w : World} {v : Value} {fs : List WriteT} (h : WritesAt S w v fs) : ∃ oa cap, v = .slice oa fs.length cap := by
  rcases h.2 with ⟨rfl, a, cap, rfl⟩ | ⟨g, off, cap, xs, rfl, _⟩
  · exact ⟨a, cap, rfl⟩
  · exact ⟨_, cap, rfl⟩
/-- the write number i -/
theorem WritesAt.at {S : Nat → Prop} {w : World} {oa : Option Addr} {n cap : Nat} {fs : List WriteT} (h : WritesAt S w (.slice oa n cap) fs) {i : Nat} (hi : i < fs.length) :
    ∃ g off ok ck ov cv, oa = some ⟨g, off, none⟩ ∧ S g ∧ w.cell? ⟨g, off + i * 5, none⟩ = some (.string fs[i].1) ∧ w.cell? ⟨g, off + i * 5 + 1, none⟩ = some (.int .i64 fs[i].2.1) ∧ w.cell? ⟨g, off + i * 5 + 2, none⟩ = some (.int .i64 fs[i].2.2.1) ∧ w.cell? ⟨g, off + i * 5 + 3, none⟩ = some (.slice ok fs[i].2.2.2.1.length ck) ∧ w.cell? ⟨g, off + i * 5 + 4, none⟩ = some (.slice ov fs[i].2.2.2.2.length cv) ∧ IntsIn S w (.slice ok fs[i].2.2.2.1.length ck) fs[i].2.2.2.1 ∧ IntsIn S w (.slice ov fs[i].2.2.2.2.length cv) fs[i].2.2.2.2 := by
  rcases h.2 with ⟨rfl, _⟩ | ⟨g, off, cap', xs, hv, _, hs, hf, hc⟩
  · simp at hi
  · injection hv with ha
    have hl := hf.1
    have hix : i < xs.length := by omega
    obtain ⟨e0, e1, e2, k1, k2⟩ := hf.2 i hix hi
    have g0 := hc (i * 5 + 0) _ (by rw [wrCells_get hix (by omega)]; rfl)
    have g1 := hc (i * 5 + 1) _ (by rw [wrCells_get hix (by omega)]; rfl)
    have g2 := hc (i * 5 + 2) _ (by rw [wrCells_get hix (by omega)]; rfl)
    have g3 := hc (i * 5 + 3) _ (by rw [wrCells_get hix (by omega)]; rfl)
    have g4 := hc (i * 5 + 4) _ (by rw [wrCells_get hix (by omega)]; rfl)
    rw [e0] at g0
    rw [e1] at g1
    rw [e2] at g2
    obtain ⟨ok, ck, ek⟩ := k1.ints.shape
    obtain ⟨ov, cv, ev⟩ := k2.ints.shape
    rw [ek] at g3 k1
    rw [ev] at g4 k2
    exact ⟨g, off, ok, ck, ov, cv, ha, hs, g0, g1, g2, g3, g4, k1, k2⟩
/-- a row that the call owns -/
theorem WritesAt.of_owns {S S' : Nat → Prop} {w : World} {base n : Nat} {v : Value} {xs : List WRowT} {fs : List WriteT} (h : w.ownsRow base 49 5 v n (wrCells xs)) (hn : fs.length = n) (hf : FitsWL S w xs fs) (hS : ∀ g, S g → g < w.heap.size → S' g) (hS' : ∀ g, v.ownBlock = some g → S' g) : WritesAt S' w v fs := by
  have hl := hf.1
  subst hn
  rcases id h.2 with ⟨rfl, h0⟩ | ⟨g, cap, cur, rfl, hb, hh, hlc, hcm, hcs, ht⟩
  · have : fs = [] := List.length_eq_zero_iff.1 h0
    subst this
    exact WritesAt.nil _ _ _ _
  · refine ⟨by omega, ?_⟩
    by_cases h0 : fs.length = 0
    · have : fs = [] := List.length_eq_zero_iff.1 h0
      subst this
      exact .inl ⟨rfl, _, _, rfl⟩
    · refine .inr ⟨g, 0, cap, xs, rfl, by omega, hS' g rfl, hf.mono hS, fun j u hj => ?_⟩
      have := h.cells (g := g) rfl j u hj
      rw [add_none] at this
      rw [Nat.zero_add]
      exact this

theorem info_write5 : (Try.prog.info? 49).map (fun i => (i.zero, i.size, i.bytes)) = some (some (.agg #[.string ⟨#[]⟩, .int .i64 0, .int .i64 0, .slice none 0 0, .slice none 0 0]), 5, 80) := by kernel_rfl
/-- one more onto a row of writes -/
theorem pushWrite {ops : Array Oper} {rest : List Oper} {o : Oper} {a : Act} {Q : Exit → Act → World → Prop} {w : World} (hgd : o.guard = none) (s x : Operand)
    (ho : o.op = .call { callee := .builtin .append, args := #[s, x], argTypes := #[43, 43] })
    (base : Nat) (v : Value) (xs : List WRowT) (n : Nat) (hs : a.eval s = v) (hown : w.ownsRow base 49 5 v n (wrCells xs)) (hbase : base ≤ w.heap.size)
    (z : WRowT) (B : Nat) (hB : B = w.heap.size) (hx : a.eval x = .slice (some ⟨B, 0, none⟩) 1 1) (hlen : n ≤ 1000000)
    (h : ∀ v' w', w'.ownsRow base 49 5 v' (n + 1) (wrCells (xs ++ [z])) → Below base w w' → (∀ g, g < w.heap.size → some g ≠ v.ownBlock → w'.heap[g]? = w.heap[g]?) → (v'.ownBlock = v.ownBlock ∨ ∃ g, v'.ownBlock = some g ∧ w.heap.size ≤ g) → wpList Try.prog ops Q rest (a.put o.dst v') w') :
    wpList Try.prog ops Q (o :: rest) a (w.alloc (.cells #[.string z.1, .int .i64 z.2.1, .int .i64 z.2.2.1, .slice z.2.2.2.1.1 z.2.2.2.1.2.1 z.2.2.2.1.2.2, .slice z.2.2.2.2.1 z.2.2.2.2.2.1 z.2.2.2.2.2.2] 49)) := by
  obtain ⟨i0, hi, hz0, hz1, hz2⟩ := info_parts info_write5
  subst hB
  refine wpList_append_own_at _ hgd s x 43 ho base 49 i0 _ 5 80 Try.underlying43 hi hz0 hz1 hz2 rfl (by decide) v n (wrCells xs) hs (hown.alloc _) ⟨w.heap.size, 0, none⟩ 1 1 (encW z) hx rfl ?c1 ?c2 ?c3 ?c4 ?c5 ?_
  case c1 =>
    intro j u hj
    rw [add_none, World.cell?_alloc_mark]
    simpa [encW] using hj
  case c2 => intro u hu; simp [encW] at hu; rcases hu with rfl | rfl | rfl | rfl | rfl <;> rfl
  case c3 => unfold maxLen; omega
  case c4 => omega
  case c5 => simp; omega
  intro v' w' h1 h2 _ h4
  refine h v' w' (by rw [wrCells_snoc]; exact h1) ?_ (fun g hg hne => (h2.block g (by simp; omega) hne).trans (Below.heap_alloc w _ g hg)) ?_
  · exact ((Below.refl base w).alloc hbase _).grown h2 (by simp; omega) (fun k hk => (hown.lt k hk).1)
  · rcases h4 with h4 | h4
    · exact .inl h4
    · exact .inr ⟨_, h4, by simp⟩
/-- the lists of what is in the row lie elsewhere than the row -/
theorem FitsWL.pushed {w w' : World} {v v' : Value} {xs : List WRowT} {ws : List WriteT} (h : FitsWL (fun x => some x ≠ v.ownBlock) w xs ws) (hk : ∀ g, g < w.heap.size → some g ≠ v.ownBlock → w'.heap[g]? = w.heap[g]?) (hv : v'.ownBlock = v.ownBlock ∨ ∃ g, v'.ownBlock = some g ∧ w.heap.size ≤ g) : FitsWL (fun x => some x ≠ v'.ownBlock) w' xs ws :=
  h.kept fun g hg hl => ⟨by
    rcases hv with e | ⟨g', e, hg'⟩
    · rw [e]; exact hg
    · rw [e]; intro e2; injection e2 with e2; omega, fun off => World.cell?_of_block (a := ⟨g, off, none⟩) (hk g hl hg)⟩
end Go.Proofs.Ytedopplldpcinaa.Plan
/-
  Layer 12: rows of slices of whole numbers; a part of a slice.
-/
namespace Go.Proofs.Ytedopplldpcinaa.Plan
open Go.RowKit Go.Proofs.Ytedopplldpcinaa.Nand Go.Proofs.Ytedopplldpcinaa.Scan

/-- a part of a slice -/
theorem IntsIn.part {S : Nat → Prop} {w : World} {g off n cap : Nat} {zs : List Int} (h : IntsIn S w (.slice (some ⟨g, off, none⟩) n cap) zs) {i m : Nat} (cap' : Nat) (hm : i + m ≤ zs.length) (hm0 : 0 < m) :
    IntsIn S w (.slice (some ⟨g, off + i, none⟩) m cap') ((zs.drop i).take m) := by
  have hl : ((zs.drop i).take m).length = m := by rw [List.length_take, List.length_drop]; omega
  refine ⟨by rw [hl]; have := h.1; omega, ?_⟩
  rcases h.2 with ⟨rfl, _⟩ | ⟨b, o, c, hv, h0, hs, hc⟩
  · simp at hm; omega
  · injection hv with ha
    injection ha with ha
    injection ha with e1 e2
    subst e1 e2
    refine .inr ⟨g, off + i, cap', by rw [hl], by omega, hs, fun j hj => ?_⟩
    rw [hl] at hj
    have := hc (i + j) (by omega)
    rw [Nat.add_assoc, this]
    congr 2
    simp only [List.getD_eq_getElem?_getD]
    rw [List.getElem?_take_of_lt hj, List.getElem?_drop]
/-- a row of slices tells lists -/
def FitsP (S : Nat → Prop) (w : World) (ss : List SlT) (ls : List (List Int)) : Prop :=
  ss.length = ls.length ∧ ∀ i (h : i < ss.length) (h' : i < ls.length), IntsIn S w (slV ss[i]) ls[i]
theorem FitsP.nil (S : Nat → Prop) (w : World) : FitsP S w [] [] := ⟨rfl, fun i h => by simp at h⟩
theorem FitsP.kept {S S' : Nat → Prop} {w w' : World} {ss : List SlT} {ls : List (List Int)} (h : FitsP S w ss ls) (hS : ∀ g, S g → g < w.heap.size → S' g ∧ ∀ off, w'.cell? ⟨g, off, none⟩ = w.cell? ⟨g, off, none⟩) : FitsP S' w' ss ls :=
  ⟨h.1, fun i a b => (h.2 i a b).kept hS⟩
theorem FitsP.mem {S : Nat → Prop} {w w' : World} {ss : List SlT} {ls : List (List Int)} (h : FitsP S w ss ls) (m : Mem w w') : FitsP S w' ss ls :=
  h.kept fun g hg hl => ⟨hg, fun off => Below.cell m (p := ⟨g, off, none⟩) hl⟩
theorem FitsP.mono {S S' : Nat → Prop} {w : World} {ss : List SlT} {ls : List (List Int)} (h : FitsP S w ss ls) (hS : ∀ g, S g → g < w.heap.size → S' g) : FitsP S' w ss ls :=
  h.kept fun g hg hl => ⟨hS g hg hl, fun _ => rfl⟩
theorem FitsP.snoc {S : Nat → Prop} {w : World} {ss : List SlT} {ls : List (List Int)} (h : FitsP S w ss ls) {x : SlT} {l : List Int} (hx : IntsIn S w (slV x) l) : FitsP S w (ss ++ [x]) (ls ++ [l]) := by
  have hl := h.1
  refine ⟨by simp [hl], fun i a b => ?_⟩
  by_cases e : i < ss.length
  · rw [List.getElem_append_left e, List.getElem_append_left (by omega)]
    exact h.2 i e (by omega)
  · have he : i = ss.length := by simp at a; omega
    subst he
    rw [show (ss ++ [x])[ss.length]'a = x from by simp, show (ls ++ [l])[ss.length]'b = l from by rw [List.getElem_append_right (by omega)]; simp [hl]]
    exact hx
/-- a slice of slices -/
def PartsAt (S : Nat → Prop) (w : World) (v : Value) (ls : List (List Int)) : Prop :=
  ls.length ≤ maxLen ∧ ((ls = [] ∧ ∃ a cap, v = .slice a 0 cap) ∨
    ∃ g off cap ss, v = .slice (some ⟨g, off, none⟩) ls.length cap ∧ 0 < ls.length ∧ S g ∧ FitsP S w ss ls ∧ ∀ j u, (ss.map slV)[j]? = some u → w.cell? ⟨g, off + j, none⟩ = some u)
theorem PartsAt.nil (S : Nat → Prop) (w : World) (a : Option Addr) (cap : Nat) : PartsAt S w (.slice a 0 cap) [] := ⟨by simp [maxLen], .inl ⟨rfl, a, cap, rfl⟩⟩
theorem PartsAt.kept {S S' : Nat → Prop} {w w' : World} {v : Value} {ls : List (List Int)} (h : PartsAt S w v ls) (hS : ∀ g, S g → g < w.heap.size → S' g ∧ ∀ off, w'.cell? ⟨g, off, none⟩ = w.cell? ⟨g, off, none⟩) : PartsAt S' w' v ls := by
  refine ⟨h.1, ?_⟩
  rcases h.2 with h | ⟨g, off, cap, ss, hv, h0, hs, hf, hc⟩
  · exact .inl h
  · have hlen := hf.1
    have c0 := hc 0 (slV (ss[0]'(by omega))) (by rw [List.getElem?_map, List.getElem?_eq_getElem (by omega)]; rfl)
    obtain ⟨h1, h2⟩ := hS g hs (World.block_lt_of_cell? w _ c0)
    exact .inr ⟨g, off, cap, ss, hv, h0, h1, hf.kept hS, fun j u hj => by rw [h2]; exact hc j u hj⟩
theorem PartsAt.mem {S : Nat → Prop} {w w' : World} {v : Value} {ls : List (List Int)} (h : PartsAt S w v ls) (m : Mem w w') : PartsAt S w' v ls :=
  h.kept fun g hg hl => ⟨hg, fun off => Below.cell m (p := ⟨g, off, none⟩) hl⟩
theorem PartsAt.mono {S S' : Nat → Prop} {w : World} {v : Value} {ls : List (List Int)} (h : PartsAt S w v ls) (hS : ∀ g, S g → g < w.heap.size → S' g) : PartsAt S' w v ls :=
  h.kept fun g hg hl => ⟨hS g hg hl, fun _ => rfl⟩
theorem PartsAt.shape {S : Nat → Prop} {w : World} {v : Value} {ls : List (List Int)} (h : PartsAt S w v ls) : ∃ oa cap, v = .slice oa ls.length cap := by
  rcases h.2 with ⟨rfl, a, cap, rfl⟩ | ⟨g, off, cap, ss, rfl, _⟩
  · exact ⟨a, cap, rfl⟩
  · exact ⟨_, cap, rfl⟩
/-- the list number i -/
theorem PartsAt.at {S : Nat → Prop} {w : World} {oa : Option Addr} {n cap : Nat} {ls : List (List Int)} (h : PartsAt S w (.slice oa n cap) ls) {i : Nat} (hi : i < ls.length) :
    ∃ g off ok ck, oa = some ⟨g, off, none⟩ ∧ S g ∧ w.cell? ⟨g, off + i, none⟩ = some (.slice ok ls[i].length ck) ∧ IntsIn S w (.slice ok ls[i].length ck) ls[i] := by
  rcases h.2 with ⟨rfl, _⟩ | ⟨g, off, cap', ss, hv, _, hs, hf, hc⟩
  · simp at hi
  · injection hv with ha
    have hl := hf.1
    have hix : i < ss.length := by omega
    have k1 := hf.2 i hix hi
    have g0 := hc i (slV ss[i]) (by rw [List.getElem?_map, List.getElem?_eq_getElem hix]; rfl)
    obtain ⟨ok, ck, ek⟩ := k1.ints.shape
    rw [ek] at g0 k1
    exact ⟨g, off, ok, ck, ha, hs, g0, k1⟩
theorem PartsAt.of_owns {S S' : Nat → Prop} {w : World} {base n : Nat} {v : Value} {ss : List SlT} {ls : List (List Int)} (h : w.ownsRow base 28 1 v n (ss.map slV)) (hn : ls.length = n) (hf : FitsP S w ss ls) (hS : ∀ g, S g → g < w.heap.size → S' g) (hS' : ∀ g, v.ownBlock = some g → S' g) : PartsAt S' w v ls := by
  have hl := hf.1
  subst hn
  rcases id h.2 with ⟨rfl, h0⟩ | ⟨g, cap, cur, rfl, hb, hh, hlc, hcm, hcs, ht⟩
  · have : ls = [] := List.length_eq_zero_iff.1 h0
    subst this
    exact PartsAt.nil _ _ _ _
  · refine ⟨by omega, ?_⟩
    by_cases h0 : ls.length = 0
    · have : ls = [] := List.length_eq_zero_iff.1 h0
      subst this
      exact .inl ⟨rfl, _, _, rfl⟩
    · refine .inr ⟨g, 0, cap, ss, rfl, by omega, hS' g rfl, hf.mono hS, fun j u hj => ?_⟩
      have := h.cells (g := g) rfl j u hj
      rw [add_none] at this
      rw [Nat.zero_add]
      exact this
theorem info_ints : (Try.prog.info? 28).map (fun i => (i.zero, i.size, i.bytes)) = some (some (.slice none 0 0), 1, 24) := by kernel_rfl
end Go.Proofs.Ytedopplldpcinaa.Plan
