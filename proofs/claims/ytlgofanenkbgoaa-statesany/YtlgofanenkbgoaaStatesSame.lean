/-
  Layer 10, the statements' own: is what is told of a chip what the document says?
-/
import Derived.Test.YtlgofanenkbgoaaStatesRefs3
namespace Go.Proofs.Ytlgofanenkbgoaa.States
open Go.RowKit Go.Proofs.Ytlgofanenkbgoaa.Nand

set_option maxHeartbeats 4000000 in
set_option maxRecDepth 100000 in
theorem lawSame (cState : StateSpec 11) (cMany : ManySpec 13) (cPick : PickSpec 18) (cWear : WearSpec 20) (S : Nat → Prop) (vb : Value) (bs : List BlockT) (br off : Bool) (ops o : Int) (w : World) (hb : BlocksAt S w vb bs) (hl : bs.length ≤ 1000) :
    Calls Try.prog 10 #[chipV vb br off ops, .int .i64 o] w fun e w' => e = .returned (.bool true) ∧ Mem w w' := by
  obtain ⟨oa, ca, rfl⟩ := hb.shape
  have hm0 : Mem w (w.alloc (.cells #[.slice oa bs.length ca, .bool br, .bool off, .int .i64 ops] 24)) := (Mem.refl w).alloc _
  have hC := Blk.new w #[.slice oa bs.length ca, .bool br, .bool off, .int .i64 ops] 24
  replace hb := hb.mem hm0
  simp only [chipV]
  go_enter Try.func10, Try.ntmps10
  go_wp2_with fail
  obtain ⟨w0, hw0⟩ : ∃ w0, w.alloc (.cells #[.slice oa bs.length ca, .bool br, .bool off, .int .i64 ops] 24) = w0 := ⟨_, rfl⟩
  rw [hw0] at hm0 hC hb ⊢
  clear hw0
  have HB := hide (fun (w' : World) (m : Mem w0 w') => hb.mem m)
  have HC : Hid (∀ w', Mem w0 w' → w'.cell? ⟨w.heap.size, 0, none⟩ = some (.slice oa bs.length ca) ∧ w'.cell? ⟨w.heap.size, 1, none⟩ = some (.bool br) ∧ w'.cell? ⟨w.heap.size, 2, none⟩ = some (.bool off) ∧ w'.cell? ⟨w.heap.size, 3, none⟩ = some (.int .i64 ops)) := fun w' m => ⟨(hC.mem m).cell (j := 0) rfl, (hC.mem m).cell (j := 1) rfl, (hC.mem m).cell (j := 2) rfl, (hC.mem m).cell (j := 3) rfl⟩
  clear hC hb
  go_loopw [5] (fun i wr => ∃ b : Int, -1 ≤ b ∧ b ≤ (bs.length : Int) + 1 ∧ i = .int .i64 b ∧ Mem w0 wr) (fun i _ => bs.length + 2 - (intOf i + 1).toNat)
  case atStart => exact ⟨-1, by omega, by omega, rfl, Mem.refl _⟩
  case round =>
    obtain ⟨b, hb1, hb2, rfl, hmr⟩ := hrel
    obtain ⟨c0, c1, c2, c3⟩ := HC.out _ hmr
    by_cases hlt : b ≤ (bs.length : Int)
    · have HS := hide (fun (w' : World) (m : Mem w0 w') => cState S _ bs br off ops o b w' (HB.out w' m))
      have HR := hide (fun (w' : World) (m : Mem w0 w') => refState S _ bs br off ops o b w' (HB.out w' m))
      generalize stateT bs o b = st at *
      have N0 := hide (Mem.drew hmr)
      go_wp2_with fail
      go_region_held3 (fun w' => w'.cell? ⟨w.heap.size, 0, none⟩ = some (.slice oa bs.length ca) ∧ w'.cell? ⟨w.heap.size, 1, none⟩ = some (.bool br) ∧ w'.cell? ⟨w.heap.size, 2, none⟩ = some (.bool off) ∧ w'.cell? ⟨w.heap.size, 3, none⟩ = some (.int .i64 ops))
        (first | with_reducible exact (HC.out _ N0.out) | with_reducible exact (HC.out _ N1.out) | with_reducible exact (HC.out _ N2.out))
        (first
          | (go_at_call 11; with_reducible refine (HS.out _ N0.out).mono ?_; rintro e w1 ⟨rfl, m1⟩; have N1 := hide (Mem.trans N0.out m1))
          | (go_at_call 11; with_reducible refine (HS.out _ N1.out).mono ?_; rintro e w2 ⟨rfl, m2⟩; have N2 := hide (Mem.trans N1.out m2))
          | (go_at_call 12; with_reducible refine (HR.out _ N0.out).mono ?_; rintro e w1 ⟨rfl, m1⟩; have N1 := hide (Mem.trans N0.out m1))
          | (go_at_call 12; with_reducible refine (HR.out _ N1.out).mono ?_; rintro e w2 ⟨rfl, m2⟩; have N2 := hide (Mem.trans N1.out m2)))
      all_goals (
        have hm2 := N2.out
        go_wp2_with fail
        go_roundw
        case rel => exact ⟨b + 1, by omega, by omega, by go_num, hm2⟩
        case measure => simp [intOf]; omega)
    · go_wp2_with fail
      clear c0 c1 c2 c3
      obtain ⟨wq, hwq⟩ : ∃ wq, wq = wr := ⟨_, rfl⟩
      subst hwq
      go_loopw [6] (fun i wr => ∃ b : Int, -1 ≤ b ∧ b ≤ 5 ∧ i = .int .i64 b ∧ Mem w0 wr) (fun i _ => 6 - (intOf i + 1).toNat)
      case atStart => exact ⟨-1, by omega, by omega, rfl, hmr⟩
      case round =>
        clear hlt hb1 hb2 hmr
        obtain ⟨s, hb1, hb2, rfl, hmr⟩ := hrel
        obtain ⟨c0, c1, c2, c3⟩ := HC.out _ hmr
        by_cases hlt : s < 5
        · have HS := hide (fun (w' : World) (m : Mem w0 w') => cMany S _ bs br off ops o s w' (HB.out w' m) hl)
          have HR := hide (fun (w' : World) (m : Mem w0 w') => refMany S _ bs br off ops o s w' (HB.out w' m) hl)
          generalize manyT bs o s = st at *
          have N0 := hide (Mem.drew hmr)
          go_wp2_with fail
          go_region_held3 (fun w' => w'.cell? ⟨w.heap.size, 0, none⟩ = some (.slice oa bs.length ca) ∧ w'.cell? ⟨w.heap.size, 1, none⟩ = some (.bool br) ∧ w'.cell? ⟨w.heap.size, 2, none⟩ = some (.bool off) ∧ w'.cell? ⟨w.heap.size, 3, none⟩ = some (.int .i64 ops))
            (first | with_reducible exact (HC.out _ N0.out) | with_reducible exact (HC.out _ N1.out) | with_reducible exact (HC.out _ N2.out))
            (first
              | (go_at_call 13; with_reducible refine (HS.out _ N0.out).mono ?_; rintro e w1 ⟨rfl, m1⟩; have N1 := hide (Mem.trans N0.out m1))
              | (go_at_call 13; with_reducible refine (HS.out _ N1.out).mono ?_; rintro e w2 ⟨rfl, m2⟩; have N2 := hide (Mem.trans N1.out m2))
              | (go_at_call 14; with_reducible refine (HR.out _ N0.out).mono ?_; rintro e w1 ⟨rfl, m1⟩; have N1 := hide (Mem.trans N0.out m1))
              | (go_at_call 14; with_reducible refine (HR.out _ N1.out).mono ?_; rintro e w2 ⟨rfl, m2⟩; have N2 := hide (Mem.trans N1.out m2)))
          all_goals (
            have hm2 := N2.out
            go_wp2_with fail
            go_roundw
            case rel => exact ⟨s + 1, by omega, by omega, by go_num, hm2⟩
            case measure => simp [intOf]; omega)
        · have HW := hide (fun (w' : World) (m : Mem w0 w') => cWear S _ bs br off ops w' (HB.out w' m) hl)
          have HV := hide (fun (w' : World) (m : Mem w0 w') => refWear S _ bs br off ops w' (HB.out w' m) hl)
          have HS := hide (fun (w' : World) (m : Mem w0 w') => cPick S _ bs br off ops o w' (HB.out w' m) hl)
          have HR := hide (fun (w' : World) (m : Mem w0 w') => refPick S _ bs br off ops o w' (HB.out w' m) hl)
          generalize pickT bs o = pv at *
          generalize wearT bs = wv at *
          obtain ⟨wa, wb⟩ := wv
          simp only [] at HW HV
          go_wp2_with fail
          refine (HW.out _ hmr).mono ?_
          rintro e w1 ⟨rfl, m1⟩
          have hm1 := hmr.trans m1
          clear c0 c1 c2 c3
          obtain ⟨c0, c1, c2, c3⟩ := HC.out _ hm1
          go_wp2_with fail
          refine (HV.out _ hm1).mono ?_
          rintro e w2 ⟨rfl, m2⟩
          have hm2 := hm1.trans m2
          clear c0 c1 c2 c3
          obtain ⟨c0, c1, c2, c3⟩ := HC.out _ hm2
          have N0 := hide (Mem.drew hm2)
          go_wp2_with fail
          go_region_held3 (fun w' => w'.cell? ⟨w.heap.size, 0, none⟩ = some (.slice oa bs.length ca) ∧ w'.cell? ⟨w.heap.size, 1, none⟩ = some (.bool br) ∧ w'.cell? ⟨w.heap.size, 2, none⟩ = some (.bool off) ∧ w'.cell? ⟨w.heap.size, 3, none⟩ = some (.int .i64 ops))
            (first | with_reducible exact (HC.out _ N0.out) | with_reducible exact (HC.out _ N1.out) | with_reducible exact (HC.out _ N2.out))
            (first
              | (go_at_call 18; with_reducible refine (HS.out _ N0.out).mono ?_; rintro e w4 ⟨rfl, m1⟩; have N1 := hide (Mem.trans N0.out m1))
              | (go_at_call 18; with_reducible refine (HS.out _ N1.out).mono ?_; rintro e w5 ⟨rfl, m2⟩; have N2 := hide (Mem.trans N1.out m2))
              | (go_at_call 22; with_reducible refine (HR.out _ N0.out).mono ?_; rintro e w4 ⟨rfl, m1⟩; have N1 := hide (Mem.trans N0.out m1))
              | (go_at_call 22; with_reducible refine (HR.out _ N1.out).mono ?_; rintro e w5 ⟨rfl, m2⟩; have N2 := hide (Mem.trans N1.out m2)))
          all_goals (
            have hm3 := N2.out
            go_wp2_with fail
            go_ret
            exact ⟨rfl, hm0.trans hm3⟩)
end Go.Proofs.Ytlgofanenkbgoaa.States
