/-
  For every write of at most 100 keys and values, and every list of numbers, the page of the write, and that of the record by those numbers with its data, is the document's, or refused as it is there; and the arguments read as they did. Conditions: none.
-/
import Derived.Test.YtfmngbhdbofnfaaRows
import Derived.Test.YtfmngbhdbofnfaaLookMake
import Derived.WalkKit
import Derived.ProofKit
import Derived.OpenShut
import Derived.ShutString
import Derived.ChangeOld
import Derived.Below
import Derived.Lib.SmallJoins
namespace Go.Proofs.Ytfmngbhdbofnfaa.lookMake
open Go.ChangeShapes Go.WideShapes Go.ChangeAt Go.RowKit
open Go.ChangeMaps (open_string shut_string)
set_option linter.unusedVariables false

theorem five_of {cs : Array Value} (h : cs.size = 5) : ∃ u0 u1 u2 u3 u4, cs = #[u0, u1, u2, u3, u4] := by
  obtain ⟨l⟩ := cs
  match l, h with
  | [a, b, c, d, e], _ => exact ⟨a, b, c, d, e, rfl⟩
theorem own : ownKnob Try.prog.godebug = none := by kernel_rfl
theorem laidOut : laidOutB Try.prog = true := by kernel_rfl

set_option maxHeartbeats 400000 in
set_option maxRecDepth 100000 in
theorem lifted (os : Os) (started : os.Started) (H : Type) (enc : TypeId × Value → H) :
    ReturnsInHanded {} Try.checked os 4 .any (Rows.lookMakeSpec.pre6 enc Try.prog Try.f4 Rows.lookMakeRow.domain false) (Rows.lookMakeSpec.post enc Try.prog Try.f4 false true false false) := by
  refine returnsInHanded_of_change (C := Try.checked) own started (by kernel_rfl) Try.func4
    (ChangeSpec.witness6 (enc := enc) (C := Try.checked) false ⟨#[], #[.agg #[.string ByteArray.empty, .int .i64 0, .int .i64 0, .slice none 0 0, .slice none 0 0], .slice none 0 0], []⟩ 8 (by kernel_rfl) (by kernel_rfl) (by kernel_rfl) (by kernel_rfl)) ?_
  intro W base args ds gs before hval0 hW hcnd _
  have hval : ∀ (j : Nat) t v, Try.f4.params[j]? = some t → args[j]? = some v → Value.okWide Try.prog W .any base t v := hval0
  have hW' := hW
  obtain ⟨p, q, hA0, hV, rfl, hfz, hnd⟩ := hW
  have hA : DataW.TrodAll enc Try.prog W 0 (fun _ => true) true Try.f4.params.toList args.toList ds p := hA0
  rw [Try.params4] at hA hval
  obtain ⟨v0, vs0, d0, ds0, p0, q0, hargs, rfl, rfl, h0, r0⟩ := trodAll_cons hA
  obtain ⟨v1, vs1, d1, ds1, p1, q1, rfl, rfl, rfl, h1, r1⟩ := trodAll_cons r0
  obtain ⟨rfl, rfl, rfl⟩ := trodAll_nil r1
  obtain rfl : args = #[v0, v1] := by cases args; simp_all
  obtain ⟨rfl, rfl⟩ := trodVars_none hV
  have k0 := h0
  have k1 := h1
  have lt0 : ∀ x ∈ p0, x.block < W.heap.size := by obtain ⟨m, hm⟩ := k0; exact DataW.trod_lt m _ _ _ hm
  have lt1 : ∀ x ∈ p1, x.block < W.heap.size := by obtain ⟨m, hm⟩ := k1; exact DataW.trod_lt m _ _ _ hm
  have row : ∀ (u : Value) (n : Nat) (y : DataW H × List MemPlace), DataW.trod enc Try.prog W 0 (fun _ => true) true n 25 [u] = some y → ∃ ks, Ints .i64 W u ks := by
    intro u n y hf
    rcases open_ints Try.underlying25 Try.underlying3 (by kernel_rfl) hf with ⟨hcs, _⟩ | ⟨x, l, c, zs, hcs, _, hl, hm, hz, _, hcell, hwz⟩
    · obtain rfl : u = .slice none 0 0 := by simpa using hcs
      exact ⟨[], Ints.nil _ _ _ _⟩
    · obtain rfl : u = .slice (some x) l c := by simpa using hcs
      exact ⟨_, (Ints.of_row (.inr ⟨_, rfl, hl, hm, by simpa using hz, hcell, hwz⟩)).1⟩
  obtain ⟨data, k, s, u3, u4, ks, vs, rfl, ik, iv⟩ : ∃ (data : ByteArray) (k s : Int) (u3 u4 : Value) (ks vs : List Int), v0 = .agg #[.string data, .int .i64 k, .int .i64 s, u3, u4] ∧ Ints .i64 W u3 ks ∧ Ints .i64 W u4 vs := by
    obtain ⟨cs, rfl, hsz⟩ := okWide_struct Try.underlying33 (hval 0 33 v0 rfl rfl)
    have h5 : Try.prog.cellsOf 33 = 5 := by kernel_rfl
    obtain ⟨u0, u1, u2, u3, u4, rfl⟩ := five_of (hsz.trans h5)
    obtain ⟨fuel, hf⟩ := h0
    obtain ⟨y0, y1, n, _, _, t0, t1⟩ := trod_struct2 Try.underlying33 hf
    have cs1 : Try.prog.cellsOf 9 = 1 := by kernel_rfl
    have cr4 : Try.prog.cellsOf 27 = 4 := by kernel_rfl
    have ci1 : Try.prog.cellsOf 3 = 1 := by kernel_rfl
    have cl1 : Try.prog.cellsOf 25 = 1 := by kernel_rfl
    have t0' : DataW.trod enc Try.prog W 0 (fun _ => true) true n 9 [u0] = some y0 := by simpa [Value.cells, cs1] using t0
    have t1' : DataW.trod enc Try.prog W 0 (fun _ => true) true n 27 [u1, u2, u3, u4] = some y1 := by simpa [Value.cells, cr4] using t1
    obtain ⟨data, hda, _, _⟩ := DataW.trod_string Try.underlying9 t0'
    obtain ⟨z0, z1, z2, z3, m, _, _, s0, s1, s2, s3⟩ := Go.Joins.trod_struct4 Try.underlying27 t1'
    have s0' : DataW.trod enc Try.prog W 0 (fun _ => true) true m 3 [u1] = some z0 := by simpa [ci1] using s0
    have s1' : DataW.trod enc Try.prog W 0 (fun _ => true) true m 3 [u2] = some z1 := by simpa [ci1] using s1
    have s2' : DataW.trod enc Try.prog W 0 (fun _ => true) true m 25 [u3] = some z2 := by simpa [cl1] using s2
    have s3' : DataW.trod enc Try.prog W 0 (fun _ => true) true m 25 [u4] = some z3 := by simpa [cl1] using s3
    obtain ⟨k, hk, _⟩ := DataW.trod_int Try.underlying3 s0'
    obtain ⟨s, hs, _⟩ := DataW.trod_int Try.underlying3 s1'
    obtain rfl : u0 = .string data := by simpa using hda
    obtain rfl : u1 = .int .i64 k := by simpa using hk
    obtain rfl : u2 = .int .i64 s := by simpa using hs
    obtain ⟨ks, ik⟩ := row _ _ _ s2'
    obtain ⟨vs, iv⟩ := row _ _ _ s3'
    exact ⟨data, k, s, u3, u4, ks, vs, rfl, ik, iv⟩
  obtain ⟨a1, len1, cap1, rfl⟩ := okWide_slice Try.underlying34 (hval 1 34 v1 rfl rfl)
  obtain ⟨z1, hrow⟩ : ∃ zs, IsRow .u16 W a1 len1 cap1 zs := by
    obtain ⟨fuel, hf⟩ := h1
    rcases open_ints Try.underlying34 Try.underlying48 (by kernel_rfl) hf with ⟨hcs, _⟩ | ⟨x, l, c, zs, hcs, _, hl, hm, hz, _, hcell, hwz⟩
    · simp [Value.cells] at hcs
      obtain ⟨rfl, rfl, rfl⟩ := hcs
      exact ⟨[], .inl ⟨rfl, rfl, rfl, rfl⟩⟩
    · simp [Value.cells] at hcs
      obtain ⟨rfl, rfl, rfl⟩ := hcs
      exact ⟨zs, .inr ⟨_, rfl, hl, hm, by simpa using hz, hcell, hwz⟩⟩
  clear hA0 hval0 row
  simp only [List.append_nil] at hW'
  refine (Look.lookMake_walk data k s u3 u4 ks vs a1 len1 cap1 z1 W ik iv hrow).mono fun e W' ⟨he, bel⟩ => ?_
  subst he
  exact ⟨_, rfl, _, _, _, [], _, [], hW', trodAll_mk1 (shut_bool Try.underlying4 _), (trodAll_cons_mk (Below.trod laidOut (by kernel_rfl) (of_decide_eq_true (by kernel_rfl)) k0 bel lt0) (trodAll_cons_mk (Below.trod laidOut (by kernel_rfl) (of_decide_eq_true (by kernel_rfl)) k1 bel lt1) trodAll_mk0)), rfl, bel.frame _, fun h => by cases h⟩

theorem over : Rows.lookMakeRow.holds Try.pinned (OpenSpec.ofChange Rows.lookMakeSpec) :=
  OpenClaim.holds_of_wide 4 Try.f4 rfl rfl rfl rfl rfl rfl rfl ⟨rfl, rfl, rfl, rfl, rfl⟩ rfl rfl rfl rfl rfl (by kernel_rfl) Try.func4 (by kernel_rfl)
    (of_decide_eq_true (by kernel_rfl)) (by unfold Func.isWrapper; first | (rw [if_pos (by decide +kernel)]; kernel_rfl) | (rw [if_neg (by decide +kernel)]; exact ⟨rfl, rfl⟩))
    (fun os started H enc _ => lifted os started H enc)

theorem proved : Rows.LookMakeSaid := over
#print axioms proved
end Go.Proofs.Ytfmngbhdbofnfaa.lookMake
