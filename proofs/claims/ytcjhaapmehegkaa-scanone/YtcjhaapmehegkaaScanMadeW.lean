/-
  Layer 6: the walk of ScanMade.
-/
import Derived.Test.YtcjhaapmehegkaaScanMadeC
import Derived.Test.YtcjhaapmehegkaaScanLate
namespace Go.Proofs.Ytcjhaapmehegkaa.Scan
open Go.RowKit Go.Proofs.Ytcjhaapmehegkaa.Nand

theorem row_len {k : IntKind} {w : World} {a : Option Addr} {len cap : Nat} {zs : List Int} (h : IsRow k w a len cap zs) : (zs.take len).length = len ∧ len ≤ cap := by
  rcases h with ⟨rfl, rfl, rfl, rfl⟩ | ⟨x, rfl, hl, hm, hz, _⟩
  · exact ⟨rfl, Nat.le_refl _⟩
  · exact ⟨by rw [List.length_take]; omega, hl⟩
theorem wf_u8 {n : Int} (h : (Lit.int .u8 n).wf = true) : 0 ≤ n ∧ n ≤ 255 := by
  simp [Lit.wf, IntKind.min, IntKind.max, IntKind.signed, IntKind.bits] at h
  omega
theorem wf_u16 {n : Int} (h : (Lit.int .u16 n).wf = true) : 0 ≤ n ∧ n ≤ 65535 := by
  simp [Lit.wf, IntKind.min, IntKind.max, IntKind.signed, IntKind.bits] at h
  omega

set_option maxHeartbeats 4000000 in
set_option maxRecDepth 100000 in
theorem scanMade_walk (a0 : Option Addr) (len0 cap0 : Nat) (z0 : List Int) (a1 : Int) (a2 : Int) (a3 : Int) (w : World) (w0 : IsRow .u16 w a0 len0 cap0 z0) (w1 : (Lit.int .u8 a1).wf = true) (w2 : (Lit.int .u8 a2).wf = true) (w3 : (Lit.int .u16 a3).wf = true) :
    Calls Try.prog 5 #[.slice a0 len0 cap0, .int .u8 a1, .int .u8 a2, .int .u16 a3] w fun e w' => e = .returned (.bool true) ∧ Mem w w' := by
  obtain ⟨hz, hwf⟩ := Ints.of_row w0
  obtain ⟨hl1, hl2⟩ := row_len w0
  have HZ : Hid (∀ x ∈ z0.take len0, 0 ≤ x ∧ x ≤ 65535) := fun x h => wf_u16 (hwf x h)
  clear hwf w0
  generalize z0.take len0 = z at *
  subst hl1
  have hb1 := wf_u8 w1
  have hb2 := wf_u8 w2
  have hb3 := wf_u16 w3
  clear w1 w2 w3
  obtain ⟨n1, rfl⟩ := Int.eq_ofNat_of_zero_le hb1.1
  obtain ⟨n2, rfl⟩ := Int.eq_ofNat_of_zero_le hb2.1
  obtain ⟨n3, rfl⟩ := Int.eq_ofNat_of_zero_le hb3.1
  obtain ⟨N, hN⟩ : ∃ N : Nat, 1 + (n1 : Int) % 5 = (N : Int) := ⟨1 + n1 % 5, by omega⟩
  obtain ⟨M, hM⟩ : ∃ M : Nat, 1 + (n2 : Int) % 6 = (M : Int) := ⟨1 + n2 % 6, by omega⟩
  obtain ⟨at', hat⟩ : ∃ a : Nat, (n3 : Int) % 90 = (a : Int) := ⟨n3 % 90, by omega⟩
  have hN1 : 1 ≤ N ∧ N ≤ 5 := by omega
  have hM1 : 1 ≤ M ∧ M ≤ 6 := by omega
  have ha1 : (at' : Int) ≤ 9223372036854775807 := by omega
  go_enter Try.func5, Try.ntmps5
  go_wp2_with fail
  (try rw [hN])
  (try rw [hM])
  refine (lawMade06 a0 cap0 z N M _ hz hl2 HZ.out hN1.1 (by omega) hM1.1 (by omega)).mono ?_
  rintro e w1 ⟨⟨v1, bs, br, off, ops, rfl, hb, hI⟩, m1⟩
  have HF := hide (few_inv hI (by omega) (by omega))
  have HSZ : Hid (∀ b ∈ bs, ∀ p ∈ b.1, p.2.2.size ≤ maxLen) := hI.2.2
  clear hz HZ hI hN hM hl2
  obtain ⟨oc, cc, rfl⟩ := hb.shape
  simp only [chipV]
  have ha : Mem w1 (w1.alloc (.cells #[.slice oc bs.length cc, .bool br, .bool off, .int .i64 ops] 24)) := (Mem.refl w1).alloc _
  have hX := Blk.new w1 #[.slice oc bs.length cc, .bool br, .bool off, .int .i64 ops] 24
  have hm := m1.trans ha
  replace hb := hb.mem ha
  clear m1 ha
  go_wp2_with fail
  (try rw [hat])
  generalize hW : w1.alloc (.cells #[.slice oc bs.length cc, .bool br, .bool off, .int .i64 ops] 24) = W1 at *
  generalize w1.heap.size = Bc at *
  clear hW
  refine (codePage _ _ bs br off ops at' _ hb ha1).mono ?_
  rintro e w2 ⟨rfl, m2⟩
  have HRP := hide (fun w' h => refPage (fun g => w.heap.size ≤ g) (.slice oc bs.length cc) bs br off ops at' w' h ha1)
  generalize pageC bs at' = q at *
  obtain ⟨⟨pw, pd, pt⟩, ok⟩ := q
  simp only [pageV]
  have ha : Mem w2 (w2.alloc (.cells #[.bool pw, .string pd, .string pt] 27)) := (Mem.refl w2).alloc _
  have hP := Blk.new w2 #[.bool pw, .string pd, .string pt] 27
  have hX1 := hX.mem (m2.trans ha)
  have hb1 := hb.mem (m2.trans ha)
  have hm1 := hm.trans (m2.trans ha)
  have c0 := hX1.cell (j := 0) rfl
  have c1 := hX1.cell (j := 1) rfl
  have c2 := hX1.cell (j := 2) rfl
  have c3 := hX1.cell (j := 3) rfl
  clear hX hb hm m2 ha
  go_wp2_with fail
  (try rw [hat])
  generalize hW : w2.alloc (.cells #[.bool pw, .string pd, .string pt] 27) = W2 at *
  generalize w2.heap.size = B1 at *
  clear hW c0 c1 c2 c3
  refine (HRP.out _ hb1).mono ?_
  rintro e w3 ⟨rfl, m3⟩
  simp only [pageV]
  have ha : Mem w3 (w3.alloc (.cells #[.bool pw, .string pd, .string pt] 27)) := (Mem.refl w3).alloc _
  have hQ := Blk.new w3 #[.bool pw, .string pd, .string pt] 27
  have hP2 := hP.mem (m3.trans ha)
  have hX2 := hX1.mem (m3.trans ha)
  have hb2 := hb1.mem (m3.trans ha)
  have hm2 := hm1.trans (m3.trans ha)
  clear hP hX1 hb1 hm1 m3 ha HRP hat
  go_wp2_with fail
  generalize hW : w3.alloc (.cells #[.bool pw, .string pd, .string pt] 27) = W3 at *
  generalize w3.heap.size = B2 at *
  clear hW
  have HCC : Hid (∀ w', Mem W3 w' → w'.cell? ⟨Bc, 0, none⟩ = some (.slice oc bs.length cc) ∧ w'.cell? ⟨Bc, 1, none⟩ = some (.bool br) ∧ w'.cell? ⟨Bc, 2, none⟩ = some (.bool off) ∧ w'.cell? ⟨Bc, 3, none⟩ = some (.int .i64 ops) ∧ w'.cell? ⟨B1, 0, none⟩ = some (.bool pw) ∧ w'.cell? ⟨B1, 1, none⟩ = some (.string pd) ∧ w'.cell? ⟨B1, 2, none⟩ = some (.string pt) ∧ w'.cell? ⟨B2, 0, none⟩ = some (.bool pw) ∧ w'.cell? ⟨B2, 1, none⟩ = some (.string pd) ∧ w'.cell? ⟨B2, 2, none⟩ = some (.string pt)) := fun w' h => ⟨(hX2.mem h).cell (j := 0) rfl, (hX2.mem h).cell (j := 1) rfl, (hX2.mem h).cell (j := 2) rfl, (hX2.mem h).cell (j := 3) rfl, (hP2.mem h).cell (j := 0) rfl, (hP2.mem h).cell (j := 1) rfl, (hP2.mem h).cell (j := 2) rfl, (hQ.mem h).cell (j := 0) rfl, (hQ.mem h).cell (j := 1) rfl, (hQ.mem h).cell (j := 2) rfl⟩
  obtain ⟨c0, c1, c2, c3, d0, d1, d2, e0, e1, e2⟩ := HCC.out W3 (Mem.refl _)
  have HB := hide (fun (w' : World) (h : Mem W3 w') => hb2.mem h)
  have N0 := hide (Mem.drew (Mem.refl W3))
  have g1 : (pw == pw) = true := by simp
  have g2 : (pd.toList == pd.toList) = true := by simp
  have g3 : (pt.toList == pt.toList) = true := by simp
  have g4 : (ok == ok) = true := by simp
  clear hb2 hX2 hP2 hQ
  go_region_held3 (fun w' => w'.cell? ⟨Bc, 0, none⟩ = some (.slice oc bs.length cc) ∧ w'.cell? ⟨Bc, 1, none⟩ = some (.bool br) ∧ w'.cell? ⟨Bc, 2, none⟩ = some (.bool off) ∧ w'.cell? ⟨Bc, 3, none⟩ = some (.int .i64 ops) ∧ w'.cell? ⟨B1, 0, none⟩ = some (.bool pw) ∧ w'.cell? ⟨B1, 1, none⟩ = some (.string pd) ∧ w'.cell? ⟨B1, 2, none⟩ = some (.string pt) ∧ w'.cell? ⟨B2, 0, none⟩ = some (.bool pw) ∧ w'.cell? ⟨B2, 1, none⟩ = some (.string pd) ∧ w'.cell? ⟨B2, 2, none⟩ = some (.string pt))
    (first | with_reducible exact HCC.out _ N0.out | with_reducible exact HCC.out _ N1.out | with_reducible exact HCC.out _ N2.out | with_reducible exact HCC.out _ N3.out | with_reducible exact HCC.out _ N4.out)
    (first
      | (go_at_call 9; refine (awake _).mono ?_; rintro e w4 ⟨rfl, n1⟩; have N1 := hide (Mem.trans N0.out n1); clear n1)
      | (go_at_call 15; refine (codeAll _ _ bs br off ops _ (HB.out _ N1.out) HF.out HSZ.out).mono ?_; rintro e w5 ⟨⟨va, rfl, hfa⟩, n2⟩; obtain ⟨oA, cA, rfl⟩ := hfa.shape; have N2 := hide (Mem.trans N1.out n2); have HFA := hide hfa; clear n2 hfa)
      | (go_at_call 16; refine (refAll _ _ bs br off ops _ (HB.out _ N2.out) HF.out HSZ.out).mono ?_; rintro e w6 ⟨⟨vb, rfl, hfb⟩, n3⟩; obtain ⟨oB, cB, rfl⟩ := hfb.shape; have N3 := hide (Mem.trans N2.out n3); have HFB := hide hfb; have HFA2 := hide (HFA.out.mem n3); clear n3 hfb)
      | (go_at_call 14; refine (refScanSame _ _ _ _ _ _ HFA2.out HFB.out).mono ?_; rintro e w7 ⟨rfl, n4⟩; have N4 := hide (Mem.trans N3.out n4); clear n4))
  all_goals (
    go_wp2_with fail
    go_ret
    exact ⟨rfl, hm2.trans N4.out⟩)
end Go.Proofs.Ytcjhaapmehegkaa.Scan
