/-
  The walk of NandSteps.
-/
import Derived.Test.YtodncodjnoegmaaNandAny
import Derived.Test.YtodncodjnoegmaaNandDoneDefs
namespace Go.Proofs.Ytodncodjnoegmaa.Nand
open Go.RowKit

theorem new_few {n m : Int} {bad : List Int} : Few (newC n m bad).1.1 := by
  unfold newC
  split
  · rename_i h
    refine ⟨by simp; omega, fun b hb => ?_⟩
    simp only [List.mem_map] at hb
    obtain ⟨i, _, rfl⟩ := hb
    simp; omega
  · exact ⟨by simp, fun b hb => by simp at hb⟩

theorem StepsAt.setCell {S : Nat → Prop} {w : World} {v : Value} {ss : List StepT} (h : StepsAt S w v ss) {p : Addr} (hp : ¬ S p.block) (x : Value) : StepsAt S (w.setCell p x) v ss :=
  h.kept fun g hg _ => ⟨hg, fun off => World.cell?_of_block (w := w) (a := ⟨g, off, none⟩) (Below.heap_setCell w p x g (fun e => hp (e ▸ hg)))⟩
theorem StepsAt.put4 {S : Nat → Prop} {w : World} {v : Value} {ss : List StepT} (h : StepsAt S w v ss) {b : Nat} (hb : ¬ S b) (x0 x1 x2 x3 : Value) :
    StepsAt S ((((w.setCell ⟨b, 0, none⟩ x0).setCell ⟨b, 1, none⟩ x1).setCell ⟨b, 2, none⟩ x2).setCell ⟨b, 3, none⟩ x3) v ss :=
  (((h.setCell (p := ⟨b, 0, none⟩) hb x0).setCell (p := ⟨b, 1, none⟩) hb x1).setCell (p := ⟨b, 2, none⟩) hb x2).setCell (p := ⟨b, 3, none⟩) hb x3

set_option maxHeartbeats 4000000 in
set_option maxRecDepth 100000 in
theorem nandSteps_walk0 (hNew : NewSpec 12) (hRead : ReadSpec 21) (hProg : ProgSpec 18) (hErase : EraseSpec 19) (hOn : OnSpec 20) (hNewR : NewSpec 13) (hDone : DoneSpec)
    (S : Nat → Prop) (v : Value) (ss : List StepT) (n m : Int) (w : World) (hss : StepsAt S w v ss) (hok : ∀ s ∈ ss, StepOk s) (hn0 : 0 ≤ n) (hn1 : n ≤ 255) (hm0 : 0 ≤ m) (hm1 : m ≤ 255) :
    Calls Try.prog 5 #[v, .int .u8 n, .int .u8 m] w fun e w' => e = .returned (.bool true) ∧ Mem w w' := by
  obtain ⟨ol, cl, rfl⟩ := hss.shape
  have hsl0 := hss.1
  unfold maxLen at hsl0
  replace hss : StepsAt (fun x => x < w.heap.size) w (.slice ol ss.length cl) ss := hss.kept fun g _ hl => ⟨hl, fun _ => rfl⟩
  have HOK := hide hok
  clear hok
  go_enter Try.func5, Try.ntmps5
  go_wp2_with fail
  refine (hNewR (1 + n % 4) (1 + m % 5) _ [] _ (Ints.nil _ _ _ _) (by decide)).mono ?_
  rintro e w1 ⟨⟨v1, rfl, hb1⟩, m1⟩
  have hf1 := new_few (n := 1 + n % 4) (m := 1 + m % 5) (bad := [])
  generalize newC (1 + n % 4) (1 + m % 5) [] = q at *
  obtain ⟨⟨bs1, br1, of1, op1⟩, e1⟩ := q
  simp only [] at hb1 hf1
  obtain ⟨o1, c1, rfl⟩ := hb1.shape
  simp only [chipV]
  have ha : Mem w1 (w1.alloc (.cells #[.slice o1 bs1.length c1, .bool br1, .bool of1, .int .i64 op1] 27)) := (Mem.refl w1).alloc _
  have hC1 := Blk.new w1 #[.slice o1 bs1.length c1, .bool br1, .bool of1, .int .i64 op1] 27
  have hbc : w.heap.size ≤ w1.heap.size := m1.size
  have hb2 : BlocksAt (fun x => x ≠ w1.heap.size) (w1.alloc (.cells #[.slice o1 bs1.length c1, .bool br1, .bool of1, .int .i64 op1] 27)) (.slice o1 bs1.length c1) bs1 := (hb1.mono fun x _ hl => by omega).mem ha
  have hm := m1.trans ha
  have hss1 := hss.mem hm
  clear hb1 m1 ha hss
  go_wp2_with fail
  generalize hg1 : w1.alloc (.cells #[.slice o1 bs1.length c1, .bool br1, .bool of1, .int .i64 op1] 27) = W1 at *
  generalize w1.heap.size = Bc at *
  clear hg1
  go_loopw [9] (fun a wr => ∃ (k : Nat) (oc : Option Addr) (cc : Nat) (bs : List BlockT) (br off : Bool) (ops : Int), k ≤ ss.length ∧ a = .int .i64 k ∧ Blk wr Bc 27 #[.slice oc bs.length cc, .bool br, .bool off, .int .i64 ops] ∧ BlocksAt (fun x => x ≠ Bc) wr (.slice oc bs.length cc) bs ∧ Few bs ∧ StepsAt (fun x => x < w.heap.size) wr (.slice ol ss.length cl) ss ∧ Mem w wr) (fun a _ => ss.length - (intOf a).toNat)
  case atStart => exact ⟨0, o1, c1, bs1, br1, of1, op1, Nat.zero_le _, rfl, hC1, hb2, hf1, hss1, hm⟩
  case round =>
    clear hC1 hb2 hf1 hss1 hm
    obtain ⟨k, oc, cc, bs, br, off, ops, hk, rfl, hC, hb, hf, hst, hm⟩ := hrel
    by_cases hlt : k < ss.length
    case neg =>
      have hlt' : (ss.length : Int) ≤ (k : Int) := by omega
      go_wp2_with fail
      refine (awake hNew hRead hProg hErase _).mono ?_
      rintro e w2 ⟨rfl, m2⟩
      go_wp2_with fail
      go_ret
      exact ⟨rfl, hm.trans m2⟩
    have hlt' : (k : Int) < (ss.length : Int) := by omega
    by_cases h12 : k < 12
    case neg =>
      have h12' : (12 : Int) ≤ (k : Int) := by omega
      go_wp2_with fail
      refine (awake hNew hRead hProg hErase _).mono ?_
      rintro e w2 ⟨rfl, m2⟩
      go_wp2_with fail
      go_ret
      exact ⟨rfl, hm.trans m2⟩
    have h12' : (k : Int) < 12 := by omega
    have hk0 : (0 : Int) ≤ (k : Int) := by omega
    obtain ⟨sg, so, hol, _, t0, t1, t2, t3, t4, t5⟩ := hst.at hlt
    have hs : StepOk ss[k] := HOK.out _ (List.getElem_mem hlt)
    generalize ss[k] = s at *
    subst hol
    have hsl := World.block_lt_of_cell? wr _ t0
    have hcl := hC.lt
    go_wp2_with fail
    have HS : Hid (∀ w', Mem wr w' → w'.cell? ⟨Bc, 0, none⟩ = some (.slice oc bs.length cc) ∧ w'.cell? ⟨Bc, 1, none⟩ = some (.bool br) ∧ w'.cell? ⟨Bc, 2, none⟩ = some (.bool off) ∧ w'.cell? ⟨Bc, 3, none⟩ = some (.int .i64 ops) ∧ w'.cell? ⟨sg, so + k * 6, none⟩ = some (.int .u8 s.1) ∧ w'.cell? ⟨sg, so + k * 6 + 1, none⟩ = some (.int .u8 s.2.1) ∧ w'.cell? ⟨sg, so + k * 6 + 2, none⟩ = some (.int .u8 s.2.2.1) ∧ w'.cell? ⟨sg, so + k * 6 + 3, none⟩ = some (.int .u8 s.2.2.2.1) ∧ w'.cell? ⟨sg, so + k * 6 + 4, none⟩ = some (.string s.2.2.2.2.1) ∧ w'.cell? ⟨sg, so + k * 6 + 5, none⟩ = some (.string s.2.2.2.2.2)) := fun w' h => ⟨(hC.mem h).cell (j := 0) rfl, (hC.mem h).cell (j := 1) rfl, (hC.mem h).cell (j := 2) rfl, (hC.mem h).cell (j := 3) rfl, by rw [Below.cell h (p := ⟨sg, so + k * 6, none⟩) hsl]; exact t0, by rw [Below.cell h (p := ⟨sg, so + k * 6 + 1, none⟩) hsl]; exact t1, by rw [Below.cell h (p := ⟨sg, so + k * 6 + 2, none⟩) hsl]; exact t2, by rw [Below.cell h (p := ⟨sg, so + k * 6 + 3, none⟩) hsl]; exact t3, by rw [Below.cell h (p := ⟨sg, so + k * 6 + 4, none⟩) hsl]; exact t4, by rw [Below.cell h (p := ⟨sg, so + k * 6 + 5, none⟩) hsl]; exact t5⟩
    have hbl : BlocksAt (fun x => x ≠ Bc ∧ x < wr.heap.size) wr (.slice oc bs.length cc) bs := hb.mono fun x hx hl => ⟨hx, hl⟩
    have HB := hide (fun (w' : World) (h : Mem wr w') => hbl.mem h)
    have NZ := hide (((Mem.refl wr).alloc (.cells #[.slice none 0 0, .bool false, .bool false, .int .i64 0] 27)).drew)
    have N0 : Hid (Mem wr wr.drew) := Mem.drew (Mem.refl wr)
    have HZ5 := hide (Blk.new wr #[.slice none 0 0, .bool false, .bool false, .int .i64 0] 27).drew
    clear t0 t1 t2 t3 t4 t5 hbl
    go_region_held3 (fun w' => w'.cell? ⟨Bc, 0, none⟩ = some (.slice oc bs.length cc) ∧ w'.cell? ⟨Bc, 1, none⟩ = some (.bool br) ∧ w'.cell? ⟨Bc, 2, none⟩ = some (.bool off) ∧ w'.cell? ⟨Bc, 3, none⟩ = some (.int .i64 ops) ∧ w'.cell? ⟨sg, so + k * 6, none⟩ = some (.int .u8 s.1) ∧ w'.cell? ⟨sg, so + k * 6 + 1, none⟩ = some (.int .u8 s.2.1) ∧ w'.cell? ⟨sg, so + k * 6 + 2, none⟩ = some (.int .u8 s.2.2.1) ∧ w'.cell? ⟨sg, so + k * 6 + 3, none⟩ = some (.int .u8 s.2.2.2.1) ∧ w'.cell? ⟨sg, so + k * 6 + 4, none⟩ = some (.string s.2.2.2.2.1) ∧ w'.cell? ⟨sg, so + k * 6 + 5, none⟩ = some (.string s.2.2.2.2.2))
      (first
        | with_reducible exact HS.out _ (Mem.put4 NP.out (Nat.le_refl _) _ _ _ _)
        | with_reducible exact HS.out _ (Mem.alloc NP.out _)
        | with_reducible exact HS.out _ NP.out
        | with_reducible exact HS.out _ NZ.out
        | with_reducible exact HS.out _ N0.out)
      (first
        | (go_at_call 16; refine (hDone _ _ bs br off ops s _ (HB.out _ N0.out) hf hs).mono ?_; rintro e w3 ⟨⟨vd, rfl, hbd⟩, n1⟩; have NP := hide (Mem.trans N0.out n1); have HBD := hide hbd; obtain ⟨od, cd, rfl⟩ := hbd.shape; clear hbd n1)
        | (go_at_call 16; refine (hDone _ _ bs br off ops s _ (HB.out _ NZ.out) hf hs).mono ?_; rintro e w3 ⟨⟨vd, rfl, hbd⟩, n1⟩; have Z5 := HZ5.out.mem n1; have g0 := Z5.cell (j := 0) rfl; have g1 := Z5.cell (j := 1) rfl; have g2 := Z5.cell (j := 2) rfl; have g3 := Z5.cell (j := 3) rfl; have f0 := Z5.frozen 0; have f1 := Z5.frozen 1; have f2 := Z5.frozen 2; have f3 := Z5.frozen 3; have NP := hide (Mem.trans NZ.out n1); have HBD := hide hbd; obtain ⟨od, cd, rfl⟩ := hbd.shape; clear hbd n1))
    all_goals (first
      | (have hz := Z5
         have hD : Blk ((((w3.setCell ⟨wr.heap.size, 0, none⟩ (.slice od (doneR (bs, br, off, ops) s).1.length cd)).setCell ⟨wr.heap.size, 1, none⟩ (.bool (doneR (bs, br, off, ops) s).2.1)).setCell ⟨wr.heap.size, 2, none⟩ (.bool (doneR (bs, br, off, ops) s).2.2.1)).setCell ⟨wr.heap.size, 3, none⟩ (.int .i64 (doneR (bs, br, off, ops) s).2.2.2)) wr.heap.size 27 #[.slice od (doneR (bs, br, off, ops) s).1.length cd, .bool (doneR (bs, br, off, ops) s).2.1, .bool (doneR (bs, br, off, ops) s).2.2.1, .int .i64 (doneR (bs, br, off, ops) s).2.2.2] := Z5.put4 _ _ _ _
         have mD : Mem wr ((((w3.setCell ⟨wr.heap.size, 0, none⟩ (.slice od (doneR (bs, br, off, ops) s).1.length cd)).setCell ⟨wr.heap.size, 1, none⟩ (.bool (doneR (bs, br, off, ops) s).2.1)).setCell ⟨wr.heap.size, 2, none⟩ (.bool (doneR (bs, br, off, ops) s).2.2.1)).setCell ⟨wr.heap.size, 3, none⟩ (.int .i64 (doneR (bs, br, off, ops) s).2.2.2)) := NP.out.put4 (Nat.le_refl _) _ _ _ _
         have hvl : wr.heap.size < (wr.alloc (.cells #[.slice none 0 0, .bool false, .bool false, .int .i64 0] 27)).drew.heap.size := HZ5.out.lt
         have hbD : BlocksAt (fun x => x ≠ Bc) ((((w3.setCell ⟨wr.heap.size, 0, none⟩ (.slice od (doneR (bs, br, off, ops) s).1.length cd)).setCell ⟨wr.heap.size, 1, none⟩ (.bool (doneR (bs, br, off, ops) s).2.1)).setCell ⟨wr.heap.size, 2, none⟩ (.bool (doneR (bs, br, off, ops) s).2.2.1)).setCell ⟨wr.heap.size, 3, none⟩ (.int .i64 (doneR (bs, br, off, ops) s).2.2.2)) (.slice od (doneR (bs, br, off, ops) s).1.length cd) (doneR (bs, br, off, ops) s).1 := (HBD.out.put4 (b := wr.heap.size) (fun hx => by rcases hx with ⟨_, hx⟩ | hx <;> omega) _ _ _ _).mono fun x hx _ => by rcases hx with ⟨hx, _⟩ | hx <;> omega
         clear g0 g1 g2 g3 f0 f1 f2 f3 Z5 hz HZ5 NZ NP HBD N0 HB hvl
         generalize ((((w3.setCell ⟨wr.heap.size, 0, none⟩ (.slice od (doneR (bs, br, off, ops) s).1.length cd)).setCell ⟨wr.heap.size, 1, none⟩ (.bool (doneR (bs, br, off, ops) s).2.1)).setCell ⟨wr.heap.size, 2, none⟩ (.bool (doneR (bs, br, off, ops) s).2.2.1)).setCell ⟨wr.heap.size, 3, none⟩ (.int .i64 (doneR (bs, br, off, ops) s).2.2.2)) = W5 at *
         generalize hDB : wr.heap.size = DB at *
         clear hDB)
      | (have hD := Blk.new w3 #[.slice od (doneR (bs, br, off, ops) s).1.length cd, .bool (doneR (bs, br, off, ops) s).2.1, .bool (doneR (bs, br, off, ops) s).2.2.1, .int .i64 (doneR (bs, br, off, ops) s).2.2.2] 27
         have ha : Mem w3 (w3.alloc (.cells #[.slice od (doneR (bs, br, off, ops) s).1.length cd, .bool (doneR (bs, br, off, ops) s).2.1, .bool (doneR (bs, br, off, ops) s).2.2.1, .int .i64 (doneR (bs, br, off, ops) s).2.2.2] 27)) := (Mem.refl w3).alloc _
         have mD := NP.out.trans ha
         have hbD0 : BlocksAt (fun x => x ≠ Bc) w3 (.slice od (doneR (bs, br, off, ops) s).1.length cd) (doneR (bs, br, off, ops) s).1 := HBD.out.mono fun x hx _ => hx.elim (fun h => h.1) (fun h => fun e => by have h2 : wr.heap.size ≤ x := h; omega)
         have hbD := hbD0.mem ha
         clear hbD0
         clear HZ5 NZ NP HBD N0 HB ha
         generalize w3.alloc (.cells #[.slice od (doneR (bs, br, off, ops) s).1.length cd, .bool (doneR (bs, br, off, ops) s).2.1, .bool (doneR (bs, br, off, ops) s).2.2.1, .int .i64 (doneR (bs, br, off, ops) s).2.2.2] 27) = W5 at *
         generalize w3.heap.size = DB at *))
    all_goals (
      have hfd := done_few (c := (bs, br, off, ops)) hf s
      generalize doneR (bs, br, off, ops) s = q at *
      obtain ⟨bsd, brd, ofd, opd⟩ := q
      simp only [] at hD hbD hfd ⊢
      replace hm := hm.trans mD
      replace hC := hC.mem mD
      have hst5 := hst.mem mD
      have HS5 : Hid (∀ w', Mem W5 w' → w'.cell? ⟨Bc, 0, none⟩ = some (.slice oc bs.length cc) ∧ w'.cell? ⟨Bc, 1, none⟩ = some (.bool br) ∧ w'.cell? ⟨Bc, 2, none⟩ = some (.bool off) ∧ w'.cell? ⟨Bc, 3, none⟩ = some (.int .i64 ops) ∧ w'.cell? ⟨sg, so + k * 6, none⟩ = some (.int .u8 s.1) ∧ w'.cell? ⟨sg, so + k * 6 + 1, none⟩ = some (.int .u8 s.2.1) ∧ w'.cell? ⟨sg, so + k * 6 + 2, none⟩ = some (.int .u8 s.2.2.1) ∧ w'.cell? ⟨sg, so + k * 6 + 3, none⟩ = some (.int .u8 s.2.2.2.1) ∧ w'.cell? ⟨sg, so + k * 6 + 4, none⟩ = some (.string s.2.2.2.2.1) ∧ w'.cell? ⟨sg, so + k * 6 + 5, none⟩ = some (.string s.2.2.2.2.2)) := fun w' h => HS.out w' (mD.trans h)
      have HB5 := hide (fun (w' : World) (h : Mem W5 w') => (hb.mem mD).mem h)
      have N0 : Hid (Mem W5 W5.drew) := Mem.drew (Mem.refl W5)
      clear mD HS hst hb
      go_wp2_with fail
      go_region_held3 (fun w' => w'.cell? ⟨Bc, 0, none⟩ = some (.slice oc bs.length cc) ∧ w'.cell? ⟨Bc, 1, none⟩ = some (.bool br) ∧ w'.cell? ⟨Bc, 2, none⟩ = some (.bool off) ∧ w'.cell? ⟨Bc, 3, none⟩ = some (.int .i64 ops) ∧ w'.cell? ⟨sg, so + k * 6, none⟩ = some (.int .u8 s.1) ∧ w'.cell? ⟨sg, so + k * 6 + 1, none⟩ = some (.int .u8 s.2.1) ∧ w'.cell? ⟨sg, so + k * 6 + 2, none⟩ = some (.int .u8 s.2.2.1) ∧ w'.cell? ⟨sg, so + k * 6 + 3, none⟩ = some (.int .u8 s.2.2.2.1) ∧ w'.cell? ⟨sg, so + k * 6 + 4, none⟩ = some (.string s.2.2.2.2.1) ∧ w'.cell? ⟨sg, so + k * 6 + 5, none⟩ = some (.string s.2.2.2.2.2))
        (first
          | with_reducible exact HS5.out _ N2.out
          | with_reducible exact HS5.out _ N1.out
          | with_reducible exact HS5.out _ N0.out)
        (first
          | (have N9 := N1.out; go_at_call 15; refine (lawSame hRead hProg hErase hOn _ _ bs br off ops (s.2.1 % 5) (doneP bs s) (false, s.2.2.2.2.1, s.2.2.2.2.2) (fateOf s) _ (HB5.out _ N1.out) hf).mono ?_; rintro e w7 ⟨rfl, n2⟩; have N2 := hide (Mem.trans N1.out n2); clear n2)
          | (have N9 := N0.out; go_at_call 17; refine (lawFate s _ hs).mono ?_; rintro e w6 ⟨rfl, n1⟩; have N1 := hide (Mem.trans N0.out n1); clear n1))
      have hC7 := hC.mem N2.out
      have hD7 := hD.mem N2.out
      have hbD7 := hbD.mem N2.out
      have hst7 := hst5.mem N2.out
      have hm7 := hm.trans N2.out
      clear HS5 HB5 N0 N1 N2 hC hD hbD hst5 hm
      have d0 := hD7.cell (j := 0) rfl
      have d1 := hD7.cell (j := 1) rfl
      have d2 := hD7.cell (j := 2) rfl
      have d3 := hD7.cell (j := 3) rfl
      have c0 := hC7.cell (j := 0) rfl
      have c1 := hC7.cell (j := 1) rfl
      have c2 := hC7.cell (j := 2) rfl
      have c3 := hC7.cell (j := 3) rfl
      have f0 := hC7.frozen 0
      have f1 := hC7.frozen 1
      have f2 := hC7.frozen 2
      have f3 := hC7.frozen 3
      go_wp2_with fail
      go_roundw
      case rel => exact ⟨k + 1, od, cd, bsd, brd, ofd, opd, by omega, by go_num, hC7.put4 _ _ _ _, hbD7.put4 (fun h => h rfl) _ _ _ _, hfd, hst7.put4 (by omega) _ _ _ _, hm7.put4 hbc _ _ _ _⟩
      case measure => simp [intOf]; omega)
end Go.Proofs.Ytodncodjnoegmaa.Nand
