/-
  Layer 11, the statements' own: is what is told of a chip what the document says? (By mk_victimsame.py.)
-/
import Derived.Test.YtegamnaahipedaaVictimRefs2
namespace Go.Proofs.Ytegamnaahipedaa.Victim
open Go.RowKit Go.Proofs.Ytegamnaahipedaa.Nand Go.Proofs.Ytegamnaahipedaa.States Go.Proofs.Ytegamnaahipedaa.Live Go.Proofs.Ytegamnaahipedaa.Replay

set_option maxHeartbeats 8000000 in
set_option maxRecDepth 100000 in
theorem lawSame (cV : VictimSpec 14) (cC : ColdSpec 17) (cR : RestSpec 18) (S : Nat → Prop) (vb : Value) (bs : List BlockT) (br off : Bool) (ops : Int) (t : TableT) (om ob : Option Addr) (cm cb : Nat) (o most : Int) (w : World) (hb : BlocksAt S w vb bs) (hl : bs.length ≤ 1000)
    (hi1 : Ints .i64 w (.slice om t.1.length cm) t.1) (hi2 : Ints .i64 w (.slice ob t.2.length cb) t.2) (hl1 : t.1.length ≤ 1000) (hl2 : t.2.length ≤ 1000) (hwf : WfT t) (her : ∀ b ∈ bs, 0 ≤ b.2.2.1 ∧ b.2.2.1 ≤ 1099511627776) :
    Calls Try.prog 10 #[chipV vb br off ops, .agg #[.slice om t.1.length cm, .slice ob t.2.length cb], .int .i64 o, .int .i64 most] w fun e w' => e = .returned (.bool true) ∧ Mem w w' := by
  obtain ⟨oa, ca, rfl⟩ := hb.shape
  have hm0 : Mem w ((w.alloc (.cells #[.slice oa bs.length ca, .bool br, .bool off, .int .i64 ops] 24)).alloc (.cells #[.slice om t.1.length cm, .slice ob t.2.length cb] 27)) := ((Mem.refl w).alloc _).alloc _
  have hC := (Blk.new w #[.slice oa bs.length ca, .bool br, .bool off, .int .i64 ops] 24).alloc (.cells #[.slice om t.1.length cm, .slice ob t.2.length cb] 27)
  have hT := Blk.new (w.alloc (.cells #[.slice oa bs.length ca, .bool br, .bool off, .int .i64 ops] 24)) #[.slice om t.1.length cm, .slice ob t.2.length cb] 27
  rw [World.size_alloc] at hT
  replace hb := hb.mem hm0
  replace hi1 := hi1.mem hm0
  replace hi2 := hi2.mem hm0
  simp only [chipV]
  go_enter Try.func10, Try.ntmps10
  go_wp2_with fail
  obtain ⟨w0, hw0⟩ : ∃ w0, (w.alloc (.cells #[.slice oa bs.length ca, .bool br, .bool off, .int .i64 ops] 24)).alloc (.cells #[.slice om t.1.length cm, .slice ob t.2.length cb] 27) = w0 := ⟨_, rfl⟩
  rw [hw0] at hm0 hC hT hb hi1 hi2 ⊢
  clear hw0
  have HC : Hid (∀ w', Mem w0 w' → w'.cell? ⟨w.heap.size, 0, none⟩ = some (.slice oa bs.length ca) ∧ w'.cell? ⟨w.heap.size, 1, none⟩ = some (.bool br) ∧ w'.cell? ⟨w.heap.size, 2, none⟩ = some (.bool off) ∧ w'.cell? ⟨w.heap.size, 3, none⟩ = some (.int .i64 ops) ∧ w'.cell? ⟨w.heap.size + 1, 0, none⟩ = some (.slice om t.1.length cm) ∧ w'.cell? ⟨w.heap.size + 1, 1, none⟩ = some (.slice ob t.2.length cb)) := fun w' m => ⟨(hC.mem m).cell (j := 0) rfl, (hC.mem m).cell (j := 1) rfl, (hC.mem m).cell (j := 2) rfl, (hC.mem m).cell (j := 3) rfl, (hT.mem m).cell (j := 0) rfl, (hT.mem m).cell (j := 1) rfl⟩
  have HVS := hide (fun (w' : World) (m : Mem w0 w') => cV S _ bs br off ops t om ob cm cb o w' (hb.mem m) hl (hi1.mem m) (hi2.mem m) hl1 hl2 hwf)
  have HVR := hide (fun (w' : World) (m : Mem w0 w') => refVictim S _ bs br off ops t om ob cm cb o w' (hb.mem m) hl (hi1.mem m) (hi2.mem m) hl1 hl2 hwf)
  have HCS := hide (fun (w' : World) (m : Mem w0 w') => cC S _ bs br off ops o most w' (hb.mem m) hl her)
  have HCR := hide (fun (w' : World) (m : Mem w0 w') => refCold S _ bs br off ops o most w' (hb.mem m) hl her)
  have HRS := hide (fun (w' : World) (m : Mem w0 w') => cR S _ bs br off ops o w' (hb.mem m) hl)
  have HRR := hide (fun (w' : World) (m : Mem w0 w') => refRest S _ bs br off ops o w' (hb.mem m) hl)
  have N0 := hide (Mem.drew (Mem.refl w0))
  obtain ⟨c0, c1, c2, c3, c4, c5⟩ := HC.out _ (Mem.refl w0)
  clear hC hT hb hi1 hi2 hwf her
  generalize victT bs t o = av at *
  generalize coldT bs o most = ac at *
  generalize restT bs o = ar at *
  go_region_held3 (fun w' => w'.cell? ⟨w.heap.size, 0, none⟩ = some (.slice oa bs.length ca) ∧ w'.cell? ⟨w.heap.size, 1, none⟩ = some (.bool br) ∧ w'.cell? ⟨w.heap.size, 2, none⟩ = some (.bool off) ∧ w'.cell? ⟨w.heap.size, 3, none⟩ = some (.int .i64 ops) ∧ w'.cell? ⟨w.heap.size + 1, 0, none⟩ = some (.slice om t.1.length cm) ∧ w'.cell? ⟨w.heap.size + 1, 1, none⟩ = some (.slice ob t.2.length cb))
    (first
      | with_reducible exact (HC.out _ N0.out)
      | with_reducible exact (HC.out _ N1.out)
      | with_reducible exact (HC.out _ N2.out)
      | with_reducible exact (HC.out _ N3.out)
      | with_reducible exact (HC.out _ N4.out)
      | with_reducible exact (HC.out _ N5.out)
      | with_reducible exact (HC.out _ N6.out))
    (first
      | (go_at_call 14; with_reducible refine (HVS.out _ N0.out).mono ?_; rintro e w1 ⟨rfl, m1⟩; have N1 := hide (Mem.trans N0.out m1))
      | (go_at_call 14; with_reducible refine (HVS.out _ N1.out).mono ?_; rintro e w2 ⟨rfl, m2⟩; have N2 := hide (Mem.trans N1.out m2))
      | (go_at_call 21; with_reducible refine (HVR.out _ N0.out).mono ?_; rintro e w1 ⟨rfl, m1⟩; have N1 := hide (Mem.trans N0.out m1))
      | (go_at_call 21; with_reducible refine (HVR.out _ N1.out).mono ?_; rintro e w2 ⟨rfl, m2⟩; have N2 := hide (Mem.trans N1.out m2))
      | (go_at_call 17; with_reducible refine (HCS.out _ N2.out).mono ?_; rintro e w3 ⟨rfl, m3⟩; have N3 := hide (Mem.trans N2.out m3))
      | (go_at_call 17; with_reducible refine (HCS.out _ N3.out).mono ?_; rintro e w4 ⟨rfl, m4⟩; have N4 := hide (Mem.trans N3.out m4))
      | (go_at_call 22; with_reducible refine (HCR.out _ N2.out).mono ?_; rintro e w3 ⟨rfl, m3⟩; have N3 := hide (Mem.trans N2.out m3))
      | (go_at_call 22; with_reducible refine (HCR.out _ N3.out).mono ?_; rintro e w4 ⟨rfl, m4⟩; have N4 := hide (Mem.trans N3.out m4))
      | (go_at_call 18; with_reducible refine (HRS.out _ N4.out).mono ?_; rintro e w5 ⟨rfl, m5⟩; have N5 := hide (Mem.trans N4.out m5))
      | (go_at_call 18; with_reducible refine (HRS.out _ N5.out).mono ?_; rintro e w6 ⟨rfl, m6⟩; have N6 := hide (Mem.trans N5.out m6))
      | (go_at_call 23; with_reducible refine (HRR.out _ N4.out).mono ?_; rintro e w5 ⟨rfl, m5⟩; have N5 := hide (Mem.trans N4.out m5))
      | (go_at_call 23; with_reducible refine (HRR.out _ N5.out).mono ?_; rintro e w6 ⟨rfl, m6⟩; have N6 := hide (Mem.trans N5.out m6)))
  all_goals (
    have hm3 := N6.out
    go_wp2_with fail
    go_ret
    exact ⟨rfl, hm0.trans hm3⟩)
end Go.Proofs.Ytegamnaahipedaa.Victim
