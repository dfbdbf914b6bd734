/-
  Layer 5: On and broken, by the document.
-/
import Derived.Test.YtcjhaapmehegkaaNandOwn
namespace Go.Proofs.Ytcjhaapmehegkaa.Nand
open Go.RowKit

set_option maxHeartbeats 1000000 in
set_option maxRecDepth 100000 in
theorem refBroken (S : Nat → Prop) (vb : Value) (bs : List BlockT) (br off : Bool) (ops : Int) (w : World) (hb : BlocksAt S w vb bs) (hf : Few bs) :
    Calls Try.prog 35 #[chipV vb br off ops] w fun e w' => (∃ v', e = .returned (.tuple #[chipV v' true off ops, .int .i64 1]) ∧ OwnB w.heap.size w' v' bs) ∧ Mem w w' := by
  obtain ⟨oa, ca, rfl⟩ := hb.shape
  have hsz : (w.alloc (.cells #[.slice oa bs.length ca, .bool br, .bool off, .int .i64 ops] 24)).heap.size = w.heap.size + 1 := by simp
  have hm : Mem w ((w.alloc (.cells #[.slice oa bs.length ca, .bool br, .bool off, .int .i64 ops] 24)).alloc (.cells #[.slice none 0 0, .bool false, .bool false, .int .i64 0] 24)) := ((Mem.refl w).alloc _).alloc _
  have hR : Blk ((w.alloc (.cells #[.slice oa bs.length ca, .bool br, .bool off, .int .i64 ops] 24)).alloc (.cells #[.slice none 0 0, .bool false, .bool false, .int .i64 0] 24)) (w.heap.size + 1) 24 #[.slice none 0 0, .bool false, .bool false, .int .i64 0] := by
    have := Blk.new (w.alloc (.cells #[.slice oa bs.length ca, .bool br, .bool off, .int .i64 ops] 24)) #[.slice none 0 0, .bool false, .bool false, .int .i64 0] 24
    rwa [hsz] at this
  clear hsz
  replace hb := hb.mem hm
  go_enter Try.func35, Try.ntmps35
  go_wp2_with fail
  generalize hW0 : (w.alloc (.cells #[.slice oa bs.length ca, .bool br, .bool off, .int .i64 ops] 24)).alloc (.cells #[.slice none 0 0, .bool false, .bool false, .int .i64 0] 24) = W0 at *
  clear hW0
  have hlt := hR.lt
  refine (refOwn S _ bs br off ops _ hb hf).mono ?_
  rintro e w1 ⟨⟨v', rfl, hO⟩, m1⟩
  obtain ⟨ol, cl, rfl⟩ := hO.shape
  have ha : Mem w1 (w1.alloc (.cells #[.slice ol bs.length cl, .bool true, .bool off, .int .i64 ops] 24)) := (Mem.refl w1).alloc _
  have hX := Blk.new w1 #[.slice ol bs.length cl, .bool true, .bool off, .int .i64 ops] 24
  have hR2 := hR.mem (m1.trans ha)
  have hO2 := hO.mem ha
  have hm2 := hm.trans (m1.trans ha)
  have z0 := hR2.cell (j := 0) rfl
  have z1 := hR2.cell (j := 1) rfl
  have z2 := hR2.cell (j := 2) rfl
  have z3 := hR2.cell (j := 3) rfl
  have f0 := hR2.frozen 0
  have f1 := hR2.frozen 1
  have f2 := hR2.frozen 2
  have f3 := hR2.frozen 3
  go_wp2_with fail
  refine bodyPost_ret (ret_chip rfl _ _ rfl (hR2.put4 _ _ _ _)) rfl ⟨⟨_, rfl, ?_⟩, hm2.put4 (by omega) _ _ _ _⟩
  exact (((((hO2.setCell (p := ⟨w.heap.size + 1, 0, none⟩) (by show w.heap.size + 1 < _; omega) _).setCell (p := ⟨w.heap.size + 1, 1, none⟩) (by show w.heap.size + 1 < _; omega) _).setCell (p := ⟨w.heap.size + 1, 2, none⟩) (by show w.heap.size + 1 < _; omega) _).setCell (p := ⟨w.heap.size + 1, 3, none⟩) (by show w.heap.size + 1 < _; omega) _)).base (by omega)
end Go.Proofs.Ytcjhaapmehegkaa.Nand
