/-
  Layer 4: what any right program answers; the walk of LookAny.
-/
import Derived.Test.YtfmngbhdbofnfaaLooks
namespace Go.Proofs.Ytfmngbhdbofnfaa.Look
open Go.RowKit Go.Proofs.Ytfmngbhdbofnfaa.Pack Go.Proofs.Ytfmngbhdbofnfaa.Crc Go.Proofs.Ytfmngbhdbofnfaa.Tag

def xTag : List UInt8 := [2, 1, 5, 1, 3, 0, 176, 178, 107, 237]
theorem x_enc : enc 1 5 [3] [] [120] = some xTag := by decide +kernel
theorem x_look : look true xTag [120] = (1, some (1, 5, [3], [])) := by
  unfold look; simp only []; rw [decode_enc x_enc]
theorem x_none : look true [] [] = (2, none) := by
  unfold look; simp only []; rw [show Tag.decode [] [] = none from by decide +kernel]
theorem x_no : enc 0 0 [] [] [] = none := enc_no (by decide)

set_option maxHeartbeats 1000000 in
set_option maxRecDepth 100000 in
theorem awake (w : World) :
    Calls Try.prog 7 #[] w fun e w' => e = .returned (.bool true) ∧ Mem w w' := by
  have hl := Ints.lit .i64 w [3] 3 (by decide)
  have hm : Mem w ((w.alloc (.cells #[.int .i64 3] 3)).alloc (.cells #[.int .i64 1, .int .i64 5, .slice (some ⟨w.heap.size, 0, none⟩) 1 1, .slice none 0 0] 27)) := ((Mem.refl w).alloc _).alloc _
  have hk : Ints .i64 ((w.alloc (.cells #[.int .i64 3] 3)).alloc (.cells #[.int .i64 1, .int .i64 5, .slice (some ⟨w.heap.size, 0, none⟩) 1 1, .slice none 0 0] 27)) (.slice (some ⟨w.heap.size, 0, none⟩) 1 1) [3] := Ints.mem hl ((Mem.refl _).alloc _)
  have hsz : (w.alloc (.cells #[.int .i64 3] 3)).heap.size = w.heap.size + 1 := by simp
  have hR : Blk ((w.alloc (.cells #[.int .i64 3] 3)).alloc (.cells #[.int .i64 1, .int .i64 5, .slice (some ⟨w.heap.size, 0, none⟩) 1 1, .slice none 0 0] 27)) (w.heap.size + 1) 27 #[.int .i64 1, .int .i64 5, .slice (some ⟨w.heap.size, 0, none⟩) 1 1, .slice none 0 0] := by
    have := Blk.new (w.alloc (.cells #[.int .i64 3] 3)) #[.int .i64 1, .int .i64 5, .slice (some ⟨w.heap.size, 0, none⟩) 1 1, .slice none 0 0] 27
    rwa [hsz] at this
  clear hl hsz
  go_enter Try.func7, Try.ntmps7
  go_wp2_with fail
  generalize ((w.alloc (.cells #[.int .i64 3] 3)).alloc (.cells #[.int .i64 1, .int .i64 5, .slice (some ⟨w.heap.size, 0, none⟩) 1 1, .slice none 0 0] 27)) = W0 at *
  refine (lookMake 1 5 _ _ [3] [] ⟨#[120]⟩ _ hk (Ints.nil _ _ _ _)).mono ?_
  rintro e w1 ⟨rfl, m1⟩
  rw [show enc 1 5 [3] [] _ = _ from x_enc, show mkV ⟨#[120]⟩ (some xTag) = .tuple #[.agg #[.bool true, .string ⟨#[120]⟩, .string ⟨#[2, 1, 5, 1, 3, 0, 176, 178, 107, 237]⟩], .int .i64 0] from rfl]
  have ha : Mem w1 (w1.alloc (.cells #[.bool true, .string ⟨#[120]⟩, .string ⟨#[2, 1, 5, 1, 3, 0, 176, 178, 107, 237]⟩] 23)) := (Mem.refl w1).alloc _
  have hP := Blk.new w1 #[.bool true, .string ⟨#[120]⟩, .string ⟨#[2, 1, 5, 1, 3, 0, 176, 178, 107, 237]⟩] 23
  have n1 := m1.trans ha
  replace hm := hm.trans n1
  replace hk := hk.mem n1
  replace hR := hR.mem n1
  clear m1 ha n1
  go_wp2_with fail
  generalize hW1 : w1.alloc (.cells #[.bool true, .string ⟨#[120]⟩, .string ⟨#[2, 1, 5, 1, 3, 0, 176, 178, 107, 237]⟩] 23) = W1 at *
  generalize w1.heap.size = B1 at *
  clear hW1
  refine (lookLook true ⟨#[120]⟩ ⟨#[2, 1, 5, 1, 3, 0, 176, 178, 107, 237]⟩ _ (by decide)).mono ?_
  rintro e w2 ⟨hd, m2⟩
  replace hd : LookOk W1.heap.size (look true xTag [120]) e w2 := hd
  rw [x_look] at hd
  obtain ⟨vk, vv, rfl, ik, iv, _, _⟩ := hd
  obtain ⟨oa, ca, rfl⟩ := ik.shape
  obtain ⟨ob, cb, rfl⟩ := iv.shape
  replace ik : Ints .i64 w2 (.slice oa 1 ca) [3] := ik
  replace iv : Ints .i64 w2 (.slice ob 0 cb) [] := iv
  have ha : Mem w2 (w2.alloc (.cells #[.int .i64 1, .int .i64 5, .slice oa 1 ca, .slice ob 0 cb] 27)) := (Mem.refl w2).alloc _
  have hQ := Blk.new w2 #[.int .i64 1, .int .i64 5, .slice oa 1 ca, .slice ob 0 cb] 27
  have n1 := m2.trans ha
  replace hm := hm.trans n1
  replace hk := hk.mem n1
  replace hR := hR.mem n1
  replace hP := hP.mem n1
  replace ik := ik.mem ha
  replace iv := iv.mem ha
  clear m2 ha n1
  simp only [decR]
  go_wp2_with fail
  generalize hW2 : w2.alloc (.cells #[.int .i64 1, .int .i64 5, .slice oa 1 ca, .slice ob 0 cb] 27) = W2 at *
  generalize w2.heap.size = B2 at *
  clear hW2
  refine (lookLook false ⟨#[]⟩ ⟨#[]⟩ _ (by decide)).mono ?_
  rintro e w3 ⟨hd, m3⟩
  replace hd : LookOk W2.heap.size (0, none) e w3 := hd
  obtain ⟨vk, vv, rfl, ik', iv', _, _⟩ := hd
  obtain ⟨oc, cc, rfl⟩ := ik'.shape
  obtain ⟨od, cd, rfl⟩ := iv'.shape
  clear ik' iv'
  have ha : Mem w3 (w3.alloc (.cells #[.int .i64 0, .int .i64 0, .slice oc 0 cc, .slice od 0 cd] 27)) := (Mem.refl w3).alloc _
  have n1 := m3.trans ha
  replace hm := hm.trans n1
  replace hk := hk.mem n1
  replace hR := hR.mem n1
  replace hP := hP.mem n1
  replace hQ := hQ.mem n1
  replace ik := ik.mem n1
  replace iv := iv.mem n1
  clear m3 ha n1
  simp only [decR]
  go_wp2_with fail
  generalize hW3 : w3.alloc (.cells #[.int .i64 0, .int .i64 0, .slice oc 0 cc, .slice od 0 cd] 27) = W3 at *
  generalize w3.heap.size = B3 at *
  clear hW3
  refine (lookLook true ⟨#[]⟩ ⟨#[]⟩ _ (by decide)).mono ?_
  rintro e w4 ⟨hd, m4⟩
  replace hd : LookOk W3.heap.size (look true [] []) e w4 := hd
  rw [x_none] at hd
  obtain ⟨vk, vv, rfl, ik', iv', _, _⟩ := hd
  obtain ⟨oe, ce, rfl⟩ := ik'.shape
  obtain ⟨of', cf, rfl⟩ := iv'.shape
  clear ik' iv'
  have ha : Mem w4 (w4.alloc (.cells #[.int .i64 0, .int .i64 0, .slice oe 0 ce, .slice of' 0 cf] 27)) := (Mem.refl w4).alloc _
  have n1 := m4.trans ha
  replace hm := hm.trans n1
  replace hk := hk.mem n1
  replace hR := hR.mem n1
  replace hP := hP.mem n1
  replace hQ := hQ.mem n1
  replace ik := ik.mem n1
  replace iv := iv.mem n1
  clear m4 ha n1
  simp only [decR]
  go_wp2_with fail
  generalize hW4 : w4.alloc (.cells #[.int .i64 0, .int .i64 0, .slice oe 0 ce, .slice of' 0 cf] 27) = W4 at *
  generalize w4.heap.size = B4 at *
  clear hW4
  refine (lookMake 0 0 _ _ [] [] ⟨#[]⟩ _ (Ints.nil _ _ _ _) (Ints.nil _ _ _ _)).mono ?_
  rintro e w5 ⟨rfl, m5⟩
  rw [show enc 0 0 [] [] _ = _ from x_no]
  simp only [mkV]
  have ha : Mem w5 (w5.alloc (.cells #[.bool false, .string ⟨#[]⟩, .string ⟨#[]⟩] 23)) := (Mem.refl w5).alloc _
  have n1 := m5.trans ha
  replace hm := hm.trans n1
  replace hk := hk.mem n1
  replace hR := hR.mem n1
  replace hP := hP.mem n1
  replace hQ := hQ.mem n1
  replace ik := ik.mem n1
  replace iv := iv.mem n1
  clear m5 ha n1
  have p0 := hP.cell (j := 0) rfl
  have p1 := hP.cell (j := 1) rfl
  have q0 := hQ.cell (j := 0) rfl
  have q1 := hQ.cell (j := 1) rfl
  have q2 := hQ.cell (j := 2) rfl
  have q3 := hQ.cell (j := 3) rfl
  have r0 := hR.cell (j := 0) rfl
  have r1 := hR.cell (j := 1) rfl
  have r2 := hR.cell (j := 2) rfl
  have r3 := hR.cell (j := 3) rfl
  go_wp2_with fail
  refine (recSame 1 5 1 5 _ _ _ _ [3] [] [3] [] _ ik iv hk (Ints.nil _ _ _ _)).mono ?_
  rintro e w7 ⟨rfl, m7⟩
  rw [show recEq 1 5 [3] [] 1 5 [3] [] = true from by decide]
  go_wp2_with fail
  go_ret
  exact ⟨rfl, hm.trans m7⟩
end Go.Proofs.Ytfmngbhdbofnfaa.Look
