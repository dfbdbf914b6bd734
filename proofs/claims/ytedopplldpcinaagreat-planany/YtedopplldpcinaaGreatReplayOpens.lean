/-
  Layer 7: tables, what was found, and lists of lists of numbers that come in: what is read of them.
-/
import Derived.Test.YtedopplldpcinaaGreatRepLivMath
import Derived.Test.YtedopplldpcinaaGreatNandSpecs
import Derived.Test.YtedopplldpcinaaGreatScanLow
namespace Go.Proofs.YtedopplldpcinaaGreat.Replay
open Go.RowKit Go.ChangeShapes Go.WideShapes Go.ChangeAt Go.Proofs.YtedopplldpcinaaGreat.Scan

variable {H : Type} {enc : TypeId × Value → H} {w : World}
theorem open_intRow {n : Nat} {u : Value} {y : DataW H × List MemPlace} (hf : DataW.trod enc Tryz.prog w 0 (fun _ => true) true n 25 [u] = some y) : ∃ ks, Ints .i64 w u ks := by
  rcases open_ints Tryz.underlying25 Tryz.underlying3 (by kernel_rfl) hf with ⟨hcs, _⟩ | ⟨x, l, c, zs, hcs, _, hl, hm, hz, _, hcell, hwz⟩
  · obtain rfl : u = .slice none 0 0 := by simpa using hcs
    exact ⟨[], Ints.nil _ _ _ _⟩
  · obtain rfl : u = .slice (some x) l c := by simpa using hcs
    exact ⟨_, (Ints.of_row (.inr ⟨_, rfl, hl, hm, by simpa using hz, hcell, hwz⟩)).1⟩
theorem two_of {cs : Array Value} (h : cs.size = 2) : ∃ u0 u1, cs = #[u0, u1] := by
  obtain ⟨l⟩ := cs
  match l, h with
  | [a, b], _ => exact ⟨a, b, rfl⟩
theorem five_of {cs : Array Value} (h : cs.size = 5) : ∃ u0 u1 u2 u3 u4, cs = #[u0, u1, u2, u3, u4] := by
  obtain ⟨l⟩ := cs
  match l, h with
  | [a, b, c, d, e], _ => exact ⟨a, b, c, d, e, rfl⟩
set_option maxRecDepth 100000 in
theorem open_table {r : Reach} {b0 : Nat} {v : Value} {d : DataW H} {p : List MemPlace} (hv : Value.okWide Tryz.prog w r b0 27 v) (h : DataW.Trod enc Tryz.prog w 0 (fun _ => true) true 27 v d p) :
    ∃ (t : TableT) (om ob : Option Addr) (cm cb : Nat), v = .agg #[.slice om t.1.length cm, .slice ob t.2.length cb] ∧ Ints .i64 w (.slice om t.1.length cm) t.1 ∧ Ints .i64 w (.slice ob t.2.length cb) t.2 := by
  obtain ⟨cs, rfl, hsz⟩ := okWide_struct Tryz.underlying27 hv
  have h2 : Tryz.prog.cellsOf 27 = 2 := by kernel_rfl
  obtain ⟨u0, u1, rfl⟩ := two_of (hsz.trans h2)
  obtain ⟨fuel, hf⟩ := h
  obtain ⟨y0, y1, n, _, _, t0, t1⟩ := trod_struct2 Tryz.underlying27 hf
  have cl1 : Tryz.prog.cellsOf 25 = 1 := by kernel_rfl
  have t0' : DataW.trod enc Tryz.prog w 0 (fun _ => true) true n 25 [u0] = some y0 := by simpa [Value.cells, cl1] using t0
  have t1' : DataW.trod enc Tryz.prog w 0 (fun _ => true) true n 25 [u1] = some y1 := by simpa [Value.cells, cl1] using t1
  obtain ⟨ms, im⟩ := open_intRow t0'
  obtain ⟨bs, ib⟩ := open_intRow t1'
  obtain ⟨om, cm, rfl⟩ := im.shape
  obtain ⟨ob, cb, rfl⟩ := ib.shape
  exact ⟨(ms, bs), om, ob, cm, cb, rfl, im, ib⟩
set_option maxRecDepth 100000 in
theorem open_found {r : Reach} {b0 : Nat} {v : Value} {d : DataW H} {p : List MemPlace} (hv : Value.okWide Tryz.prog w r b0 67 v) (h : DataW.Trod enc Tryz.prog w 0 (fun _ => true) true 67 v d p) :
    ∃ (f : FoundT) (ok ov : Option Addr) (ck cv : Nat), v = .agg #[.int .i64 f.1, .int .i64 f.2.1, .int .i64 f.2.2.1, .slice ok f.2.2.2.1.length ck, .slice ov f.2.2.2.2.length cv] ∧ Ints .i64 w (.slice ok f.2.2.2.1.length ck) f.2.2.2.1 ∧ Ints .i64 w (.slice ov f.2.2.2.2.length cv) f.2.2.2.2 := by
  obtain ⟨cs, rfl, hsz⟩ := okWide_struct Tryz.underlying67 hv
  have h5 : Tryz.prog.cellsOf 67 = 5 := by kernel_rfl
  obtain ⟨u0, u1, u2, u3, u4, rfl⟩ := five_of (hsz.trans h5)
  obtain ⟨fuel, hf⟩ := h
  obtain ⟨y0, y1, n, _, _, t0, t1⟩ := trod_struct2 Tryz.underlying67 hf
  have cr4 : Tryz.prog.cellsOf 50 = 4 := by kernel_rfl
  have ci1 : Tryz.prog.cellsOf 3 = 1 := by kernel_rfl
  have cl1 : Tryz.prog.cellsOf 25 = 1 := by kernel_rfl
  have t0' : DataW.trod enc Tryz.prog w 0 (fun _ => true) true n 3 [u0] = some y0 := by simpa [Value.cells, ci1] using t0
  have t1' : DataW.trod enc Tryz.prog w 0 (fun _ => true) true n 50 [u1, u2, u3, u4] = some y1 := by simpa [Value.cells, cr4] using t1
  obtain ⟨z0, z1, z2, z3, m, _, _, s0, s1, s2, s3⟩ := Go.Joins.trod_struct4 Tryz.underlying50 t1'
  have s0' : DataW.trod enc Tryz.prog w 0 (fun _ => true) true m 3 [u1] = some z0 := by simpa [ci1] using s0
  have s1' : DataW.trod enc Tryz.prog w 0 (fun _ => true) true m 3 [u2] = some z1 := by simpa [ci1] using s1
  have s2' : DataW.trod enc Tryz.prog w 0 (fun _ => true) true m 25 [u3] = some z2 := by simpa [cl1] using s2
  have s3' : DataW.trod enc Tryz.prog w 0 (fun _ => true) true m 25 [u4] = some z3 := by simpa [cl1] using s3
  obtain ⟨q, hq, _⟩ := DataW.trod_int Tryz.underlying3 t0'
  obtain ⟨k, hk, _⟩ := DataW.trod_int Tryz.underlying3 s0'
  obtain ⟨s, hs, _⟩ := DataW.trod_int Tryz.underlying3 s1'
  obtain rfl : u0 = .int .i64 q := by simpa using hq
  obtain rfl : u1 = .int .i64 k := by simpa using hk
  obtain rfl : u2 = .int .i64 s := by simpa using hs
  obtain ⟨ks, ik⟩ := open_intRow s2'
  obtain ⟨vs, iv⟩ := open_intRow s3'
  obtain ⟨ok, ck, rfl⟩ := ik.shape
  obtain ⟨ov, cv, rfl⟩ := iv.shape
  exact ⟨(q, k, s, ks, vs), ok, ov, ck, cv, rfl, ik, iv⟩
/-- lists of lists of numbers -/
def ListsAt (w : World) (v : Value) (zs : List (List Int)) : Prop :=
  ∃ oa cap, v = .slice oa zs.length cap ∧ zs.length ≤ maxLen ∧ ∀ i (h : i < zs.length), ∃ b off oz cz, oa = some ⟨b, off, none⟩ ∧ w.cell? ⟨b, off + i, none⟩ = some (.slice oz zs[i].length cz) ∧ Ints .u16 w (.slice oz zs[i].length cz) zs[i] ∧ ∀ x ∈ zs[i], 0 ≤ x ∧ x ≤ 65535
theorem ListsAt.mem {w w' : World} {v : Value} {zs : List (List Int)} (h : ListsAt w v zs) (m : Mem w w') : ListsAt w' v zs := by
  obtain ⟨oa, cap, hv, hl, hc⟩ := h
  refine ⟨oa, cap, hv, hl, fun i hi => ?_⟩
  obtain ⟨b, off, oz, cz, e, h1, h2, h3⟩ := hc i hi
  exact ⟨b, off, oz, cz, e, (Below.cell m (p := ⟨b, off + i, none⟩) (World.block_lt_of_cell? w _ h1)).trans h1, h2.mem m, h3⟩
end Go.Proofs.YtedopplldpcinaaGreat.Replay
