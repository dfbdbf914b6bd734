/-
  Layer 10: the walk of StatesMade.
-/
import Derived.Test.YtlgofanenkbgoaaStatesCode
import Derived.Test.YtlgofanenkbgoaaMemLow
import Derived.Test.YtlgofanenkbgoaaScanMadeC
namespace Go.Proofs.Ytlgofanenkbgoaa.States
open Go.RowKit Go.Proofs.Ytlgofanenkbgoaa.Scan Go.Proofs.Ytlgofanenkbgoaa.Nand Go.Proofs.Ytlgofanenkbgoaa.Replay

set_option maxHeartbeats 4000000 in
set_option maxRecDepth 100000 in
theorem statesMade_walk (a0 : Option Addr) (len0 cap0 : Nat) (z0 : List Int) (a1 : Int) (a2 : Int) (w : World) (w0 : IsRow .u16 w a0 len0 cap0 z0) (w1 : (Lit.int .u8 a1).wf = true) (w2 : (Lit.int .u8 a2).wf = true) :
    Calls Try.prog 4 #[.slice a0 len0 cap0, .int .u8 a1, .int .u8 a2] w fun e w' => e = .returned (.bool true) ∧ Below w.heap.size w w' := by
  obtain ⟨hz, hwf⟩ := Ints.of_row w0
  obtain ⟨hl1, hl2⟩ := row_len w0
  have HZ : Hid (∀ x ∈ z0.take len0, 0 ≤ x ∧ x ≤ 65535) := fun x h => wf_u16 (hwf x h)
  clear hwf w0
  generalize z0.take len0 = z at *
  subst hl1
  have hb1 := wf_u8 w1
  have hb2 := wf_u8 w2
  clear w1 w2
  obtain ⟨n1, rfl⟩ := Int.eq_ofNat_of_zero_le hb1.1
  obtain ⟨n2, rfl⟩ := Int.eq_ofNat_of_zero_le hb2.1
  obtain ⟨N, hN⟩ : ∃ N : Nat, 1 + (n2 : Int) % 6 = (N : Int) := ⟨1 + n2 % 6, by omega⟩
  have hN1 : 1 ≤ N ∧ N ≤ 6 := by omega
  go_enter Try.func4, Try.ntmps4
  go_wp2_with fail
  refine (awake w).mono ?_
  rintro e w1 ⟨rfl, m1⟩
  replace hz := hz.mem m1
  go_wp2_with fail
  (try rw [hN])
  refine (lawMade06 a0 cap0 z N 4 _ hz hl2 HZ.out hN1.1 (by omega) (by omega) (by omega)).mono ?_
  rintro e w2 ⟨⟨v1, bs, br, off, ops, rfl, hb, hI⟩, m2⟩
  have hlen : bs.length = N := dims_len hI.1
  have hm := m1.trans m2
  obtain ⟨oc, cc, rfl⟩ := hb.shape
  simp only [chipV]
  have HS := hide (fun o => same _ _ bs br off ops o _ hb (by omega))
  clear hI hb hN hlen m1 m2 hz HZ
  go_wp2_with fail
  refine (HS.out _).mono ?_
  rintro e w3 ⟨rfl, m3⟩
  have hm2 := hm.trans m3
  go_wp2_with fail
  go_ret
  exact ⟨rfl, hm2⟩
end Go.Proofs.Ytlgofanenkbgoaa.States
