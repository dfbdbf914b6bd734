/-
  The walk of NandOff.
-/
import Derived.Test.YtodncodjnoegmaaNandSteps
import Derived.Deep.RegionLaw
namespace Go.Proofs.Ytodncodjnoegmaa.Nand
open Go.RowKit

def OwnSpec (F : Nat) : Prop := ∀ (S : Nat → Prop) (vb : Value) (bs : List BlockT) (br off : Bool) (ops : Int) (w : World), BlocksAt S w vb bs → Few bs →
  Calls Try.prog F #[chipV vb br off ops] w fun e w' => (∃ v', e = .returned (chipV v' br off ops) ∧ BlocksAt (fun x => S x ∨ w.heap.size ≤ x) w' v' bs) ∧ Mem w w'
theorem ownSpec_ref : OwnSpec 23 := fun S vb bs br off ops w hb hf => (refOwn S vb bs br off ops w hb hf).mono fun _ _ h => by
  obtain ⟨⟨v', he, hO⟩, hm⟩ := h
  exact ⟨⟨v', he, (hO.blocks hf.len).mono fun x hx _ => .inr (by omega)⟩, hm⟩

/-- a call of done as a step of a region that draws -/
theorem step_done {ops : Array Oper} {o : Oper} {a : Act} {K : Act → World → Prop} {Q : Exit → Act → World → Prop} {E : Prop} {w : World} (hgd : o.guard = none) (x y : Operand) (tys : Array TypeId)
    (ho : o.op = .call { callee := .value (.func 16), args := #[x, y], argTypes := tys }) (vx vy : Value) (hx : a.eval x = vx) (hy : a.eval y = vy) {R : Ending → World → Prop}
    (hc : Calls Try.prog 16 #[vx, vy] w R) (h : ∀ e w', R e w' → ∃ v, e = .returned v ∧ K (a.put o.dst v) w') :
    if Region.wanted o (yielded ops a.tmps) = true then Oper.wp Try.prog o a w K Q else E := by
  have hw : Region.wanted o (yielded ops a.tmps) = true := by simp [Region.wanted, hgd]
  rw [if_pos hw]
  have hf : a.eval (Operand.func 16) = .func (.func 16) #[] #[] := rfl
  have hr : (execOp a.eval o).run Try.prog w = .ok (.enter 16 #[vx, vy]) w := by
    have hi : (invoke (.fn (.func 16) #[]) #[vx, vy]).run Try.prog w = .ok (.enter 16 #[vx, vy]) w := by simp [go_sem]
    unfold execOp
    simp only [ho, resolve, hf, hx, hy, Deferred.ofValue, Sem.run_bind, Sem.run_pure, Result.andThen_ok, List.map_toArray, List.map_cons, List.map_nil, List.append_toArray, List.nil_append]
    exact hi
  unfold Oper.wp
  rw [hr, Oper.upon_enter]
  refine hc.mono ?_
  intro e w' hR
  obtain ⟨v, rfl, hK⟩ := h e w' hR
  exact hK

set_option maxHeartbeats 4000000 in
set_option maxRecDepth 100000 in
theorem nandOff_walk0 (hNew : NewSpec 12) (hRead : ReadSpec 21) (hProg : ProgSpec 18) (hErase : EraseSpec 19) (hOn : OnSpec 20) (hNewR : NewSpec 13) (hDone : DoneSpec)
    (S : Nat → Prop) (v : Value) (ss : List StepT) (n b p : Int) (w : World) (hss : StepsAt S w v ss) (hok : ∀ s ∈ ss, StepOk s) (hn0 : 0 ≤ n) (hn1 : n ≤ 255) (hb0 : 0 ≤ b) (hb1 : b ≤ 255) (hp0 : 0 ≤ p) (hp1 : p ≤ 255) :
    Calls Try.prog 8 #[v, .int .u8 n, .int .u8 b, .int .u8 p] w fun e w' => e = .returned (.bool true) ∧ Mem w w' := by
  obtain ⟨ol, cl, rfl⟩ := hss.shape
  have hsl0 := hss.1
  unfold maxLen at hsl0
  have HST := hide hss
  have HOK := hide hok
  clear hok hss
  go_enter Try.func8, Try.ntmps8
  go_wp2_with fail
  refine (awake hNew hRead hProg hErase _).mono ?_
  rintro e w0 ⟨rfl, m0⟩
  go_wp2_with fail
  refine (hNewR 3 (1 + n % 5) _ [] _ (Ints.nil _ _ _ _) (by decide)).mono ?_
  rintro e w1 ⟨⟨v1, rfl, hb1'⟩, m1⟩
  have hf1 := new_few (n := 3) (m := 1 + n % 5) (bad := [])
  generalize newC 3 (1 + n % 5) [] = q at *
  obtain ⟨⟨bs1, br1, of1, op1⟩, e1⟩ := q
  simp only [] at hb1' hf1
  obtain ⟨o1, c1, rfl⟩ := hb1'.shape
  simp only [chipV]
  have ha : Mem w1 (w1.alloc (.cells #[.slice o1 bs1.length c1, .bool br1, .bool of1, .int .i64 op1] 27)) := (Mem.refl w1).alloc _
  have hC1 := Blk.new w1 #[.slice o1 bs1.length c1, .bool br1, .bool of1, .int .i64 op1] 27
  have hbc : w.heap.size ≤ w1.heap.size := (m0.trans m1).size
  have hb2 : BlocksAt (fun x => x ≠ w1.heap.size) (w1.alloc (.cells #[.slice o1 bs1.length c1, .bool br1, .bool of1, .int .i64 op1] 27)) (.slice o1 bs1.length c1) bs1 := (hb1'.mono fun x _ hl => by omega).mem ha
  have hm := m0.trans (m1.trans ha)
  clear hb1' m1 ha m0
  go_wp2_with fail
  generalize hg1 : w1.alloc (.cells #[.slice o1 bs1.length c1, .bool br1, .bool of1, .int .i64 op1] 27) = W1 at *
  generalize w1.heap.size = Bc at *
  clear hg1
  go_loopw [12] (fun a wr => ∃ (k : Nat) (oc : Option Addr) (cc : Nat) (bs : List BlockT) (br off : Bool) (ops : Int), k ≤ ss.length ∧ a = .int .i64 k ∧ Blk wr Bc 27 #[.slice oc bs.length cc, .bool br, .bool off, .int .i64 ops] ∧ BlocksAt (fun x => x ≠ Bc) wr (.slice oc bs.length cc) bs ∧ Few bs ∧ Mem w wr) (fun a _ => ss.length - (intOf a).toNat)
  case atStart => exact ⟨0, o1, c1, bs1, br1, of1, op1, Nat.zero_le _, rfl, hC1, hb2, hf1, hm⟩
  case round =>
    clear hC1 hb2 hf1 hm
    obtain ⟨k, oc, cc, bs, br, off, ops, hk, rfl, hC, hb, hf, hm⟩ := hrel
    have hcl := hC.lt
    have c0 := hC.cell (j := 0) rfl
    have c1 := hC.cell (j := 1) rfl
    have c2 := hC.cell (j := 2) rfl
    have c3 := hC.cell (j := 3) rfl
    by_cases hlt : k < ss.length ∧ k < 12
    · obtain ⟨hlt, h12⟩ := hlt
      have hlt' : (k : Int) < (ss.length : Int) := by omega
      have h12' : (k : Int) < 12 := by omega
      have hk0 : (0 : Int) ≤ (k : Int) := by omega
      obtain ⟨sg, so, hol, _, t0, t1, t2, t3, t4, t5⟩ := HST.out.at hlt
      have hs : StepOk ss[k] := HOK.out _ (List.getElem_mem hlt)
      generalize ss[k] = s at *
      subst hol
      have hsl := World.block_lt_of_cell? w _ t0
      have HS : Hid (∀ w', Mem w w' → w'.cell? ⟨sg, so + k * 6, none⟩ = some (.int .u8 s.1) ∧ w'.cell? ⟨sg, so + k * 6 + 1, none⟩ = some (.int .u8 s.2.1) ∧ w'.cell? ⟨sg, so + k * 6 + 2, none⟩ = some (.int .u8 s.2.2.1) ∧ w'.cell? ⟨sg, so + k * 6 + 3, none⟩ = some (.int .u8 s.2.2.2.1) ∧ w'.cell? ⟨sg, so + k * 6 + 4, none⟩ = some (.string s.2.2.2.2.1) ∧ w'.cell? ⟨sg, so + k * 6 + 5, none⟩ = some (.string s.2.2.2.2.2)) := fun w' h => ⟨by rw [Below.cell h (p := ⟨sg, so + k * 6, none⟩) hsl]; exact t0, by rw [Below.cell h (p := ⟨sg, so + k * 6 + 1, none⟩) hsl]; exact t1, by rw [Below.cell h (p := ⟨sg, so + k * 6 + 2, none⟩) hsl]; exact t2, by rw [Below.cell h (p := ⟨sg, so + k * 6 + 3, none⟩) hsl]; exact t3, by rw [Below.cell h (p := ⟨sg, so + k * 6 + 4, none⟩) hsl]; exact t4, by rw [Below.cell h (p := ⟨sg, so + k * 6 + 5, none⟩) hsl]; exact t5⟩
      have HB := hide (fun (w' : World) (h : Mem wr w') => hb.mem h)
      have HC := hide (fun (w' : World) (h : Mem wr w') => hC.mem h)
      have N0 : Hid (Mem wr wr.drew) := Mem.drew (Mem.refl wr)
      have NW := hide hm
      have M0 : Hid (Mem w wr.drew) := hm.drew
      clear t0 t1 t2 t3 t4 t5
      go_wp2_with fail
      obtain ⟨t0, t1, t2, t3, t4, t5⟩ := HS.out _ NW.out
      go_region_law ((refine step_done (by rfl) _ _ _ (by rfl) (chipV (.slice oc bs.length cc) br off ops) (stepV s) (by rfl) (by rfl) (hDone _ _ bs br off ops s _ (HB.out _ N0.out) hf hs) ?_; rintro e w3 ⟨⟨vd, rfl, hbd⟩, n1⟩; refine ⟨_, rfl, ?_⟩; have Z5 := HC.out _ (Mem.trans N0.out n1); have g0 := Z5.cell (j := 0) rfl; have g1 := Z5.cell (j := 1) rfl; have g2 := Z5.cell (j := 2) rfl; have g3 := Z5.cell (j := 3) rfl; have f0 := Z5.frozen 0; have f1 := Z5.frozen 1; have f2 := Z5.frozen 2; have f3 := Z5.frozen 3; have NP := hide (Mem.trans M0.out n1); have HBD := hide hbd; obtain ⟨od, cd, rfl⟩ := hbd.shape; clear hbd n1))
      all_goals (
        have hC' := Z5.put4 (.slice od (doneR (bs, br, off, ops) s).1.length cd) (.bool (doneR (bs, br, off, ops) s).2.1) (.bool (doneR (bs, br, off, ops) s).2.2.1) (.int .i64 (doneR (bs, br, off, ops) s).2.2.2)
        have hbD : BlocksAt (fun x => x ≠ Bc) w3 (.slice od (doneR (bs, br, off, ops) s).1.length cd) (doneR (bs, br, off, ops) s).1 := HBD.out.mono fun x hx _ => hx.elim id (fun h => fun e => by have h2 : wr.heap.size ≤ x := h; omega)
        have hbD' := hbD.put4 (b := Bc) (fun h => h rfl) (.slice od (doneR (bs, br, off, ops) s).1.length cd) (.bool (doneR (bs, br, off, ops) s).2.1) (.bool (doneR (bs, br, off, ops) s).2.2.1) (.int .i64 (doneR (bs, br, off, ops) s).2.2.2)
        have hm' := NP.out.put4 (b := Bc) hbc (.slice od (doneR (bs, br, off, ops) s).1.length cd) (.bool (doneR (bs, br, off, ops) s).2.1) (.bool (doneR (bs, br, off, ops) s).2.2.1) (.int .i64 (doneR (bs, br, off, ops) s).2.2.2)
        have hfd := done_few (c := (bs, br, off, ops)) hf s
        clear g0 g1 g2 g3 f0 f1 f2 f3 Z5 HBD NP N0 NW M0 HB HC HS hbD c0 c1 c2 c3 t0 t1 t2 t3 t4 t5
        go_wp2_with fail
        go_roundw
        case rel => exact ⟨k + 1, od, cd, _, _, _, _, by omega, by go_num, hC', hbD', hfd, hm'⟩
        case measure => simp [intOf]; omega)
    · have hend : (ss.length : Int) ≤ (k : Int) ∨ ((k : Int) < (ss.length : Int) ∧ 12 ≤ (k : Int)) := by omega
      clear hlt
      have hm0 := hm
      rcases hend with he | ⟨he, he'⟩
      all_goals (
        go_wp2_with fail
        clear c0 c1 c2 c3
        refine (onSpec_ref _ _ bs br off ops _ hb hf).mono ?_
        rintro e w4 ⟨⟨v4, rfl, hb4⟩, m4⟩
        replace hb4 : BlocksAt (fun x => x ≠ Bc) w4 v4 bs := hb4.mono fun x hx _ => hx.elim id (fun h => fun e => by omega)
        obtain ⟨o4, c4, rfl⟩ := hb4.shape
        have hC4 := hC.mem m4
        have hm4 := hm.trans m4
        clear hC hb hm m4 hm0
        have g0 := hC4.cell (j := 0) rfl
        have g1 := hC4.cell (j := 1) rfl
        have g2 := hC4.cell (j := 2) rfl
        have g3 := hC4.cell (j := 3) rfl
        have f0 := hC4.frozen 0
        have f1 := hC4.frozen 1
        have f2 := hC4.frozen 2
        have f3 := hC4.frozen 3
        have hC5 := hC4.put4 (.slice o4 bs.length c4) (.bool br) (.bool false) (.int .i64 ops)
        have hb5 := hb4.put4 (b := Bc) (fun h => h rfl) (.slice o4 bs.length c4) (.bool br) (.bool false) (.int .i64 ops)
        have hm5 := hm4.put4 (b := Bc) hbc (.slice o4 bs.length c4) (.bool br) (.bool false) (.int .i64 ops)
        have d0 := hC5.cell (j := 0) rfl
        have d1 := hC5.cell (j := 1) rfl
        have d2 := hC5.cell (j := 2) rfl
        have d3 := hC5.cell (j := 3) rfl
        simp only [chipV]
        go_wp2_with fail
        clear g0 g1 g2 g3 f0 f1 f2 f3 d0 d1 d2 d3 hC4 hb4 hm4
        generalize ((((w4.setCell ⟨Bc, 0, none⟩ (.slice o4 bs.length c4)).setCell ⟨Bc, 1, none⟩ (.bool br)).setCell ⟨Bc, 2, none⟩ (.bool false)).setCell ⟨Bc, 3, none⟩ (.int .i64 ops)) = W5 at *
        refine (ownSpec_ref _ _ bs br false ops _ hb5 hf).mono ?_
        rintro e w6 ⟨⟨v6, rfl, hb6⟩, m6⟩
        obtain ⟨o6, c6, rfl⟩ := hb6.shape
        simp only [chipV]
        have ha : Mem w6 (w6.alloc (.cells #[.slice o6 bs.length c6, .bool br, .bool true, .int .i64 ops] 27)) := (Mem.refl w6).alloc _
        have hD := Blk.new w6 #[.slice o6 bs.length c6, .bool br, .bool true, .int .i64 ops] 27
        have n1 := m6.trans ha
        replace hb6 := hb6.mem ha
        replace hC5 := hC5.mem n1
        replace hb5 := hb5.mem n1
        replace hm5 := hm5.trans n1
        clear m6 ha n1
        go_wp2_with fail
        generalize hg6 : w6.alloc (.cells #[.slice o6 bs.length c6, .bool br, .bool true, .int .i64 ops] 27) = W6 at *
        generalize w6.heap.size = Bd at *
        clear hg6
        refine (hProg _ _ bs br true ops (b % 4) (p % 6) (false, ⟨#[120]⟩, ⟨#[]⟩) (0, ⟨#[]⟩, ⟨#[]⟩, 0) _ hb6 hf).mono ?_
        rintro e w7 ⟨hr, m7⟩
        replace hr : ChipRes _ _ ((bs, br, true, ops), 52) e w7 := hr
        obtain ⟨v7, rfl, hb7⟩ := hr
        simp only [] at hb7
        obtain ⟨o7, c7, rfl⟩ := hb7.shape
        simp only [chipV]
        have ha : Mem w7 (w7.alloc (.cells #[.slice o7 bs.length c7, .bool br, .bool true, .int .i64 ops] 27)) := (Mem.refl w7).alloc _
        have hX7 := Blk.new w7 #[.slice o7 bs.length c7, .bool br, .bool true, .int .i64 ops] 27
        have n1 := m7.trans ha
        replace hb7 := hb7.mem ha
        replace hb6 := hb6.mem n1
        replace hD := hD.mem n1
        replace hC5 := hC5.mem n1
        replace hb5 := hb5.mem n1
        replace hm5 := hm5.trans n1
        clear m7 ha n1
        have d0 := hD.cell (j := 0) rfl
        have d1 := hD.cell (j := 1) rfl
        have d2 := hD.cell (j := 2) rfl
        have d3 := hD.cell (j := 3) rfl
        go_wp2_with fail
        clear d0 d1 d2 d3
        generalize hg7 : w7.alloc (.cells #[.slice o7 bs.length c7, .bool br, .bool true, .int .i64 ops] 27) = W7 at *
        generalize w7.heap.size = Bx at *
        clear hg7
        refine (hErase _ _ bs br true ops (b % 4) (0, ⟨#[]⟩, ⟨#[]⟩, 0) _ hb6 hf).mono ?_
        rintro e w8 ⟨hr, m8⟩
        replace hr : ChipRes _ _ ((bs, br, true, ops), 52) e w8 := hr
        obtain ⟨v8, rfl, hb8⟩ := hr
        simp only [] at hb8
        obtain ⟨o8, c8, rfl⟩ := hb8.shape
        simp only [chipV]
        have ha : Mem w8 (w8.alloc (.cells #[.slice o8 bs.length c8, .bool br, .bool true, .int .i64 ops] 27)) := (Mem.refl w8).alloc _
        have hX8 := Blk.new w8 #[.slice o8 bs.length c8, .bool br, .bool true, .int .i64 ops] 27
        have n1 := m8.trans ha
        replace hb8 := hb8.mem ha
        replace hb7 := hb7.mem n1
        replace hX7 := hX7.mem n1
        replace hb6 := hb6.mem n1
        replace hD := hD.mem n1
        replace hC5 := hC5.mem n1
        replace hb5 := hb5.mem n1
        replace hm5 := hm5.trans n1
        clear m8 ha n1
        have d0 := hD.cell (j := 0) rfl
        have d1 := hD.cell (j := 1) rfl
        have d2 := hD.cell (j := 2) rfl
        have d3 := hD.cell (j := 3) rfl
        go_wp2_with fail
        clear d0 d1 d2 d3
        generalize hg8 : w8.alloc (.cells #[.slice o8 bs.length c8, .bool br, .bool true, .int .i64 ops] 27) = W8 at *
        generalize w8.heap.size = By at *
        clear hg8
        refine (hRead _ _ bs br true ops (b % 4) (p % 6) _ hb6).mono ?_
        rintro e w9 ⟨hr, m9⟩
        replace hr : e = .returned (.tuple #[pageV zeroPage, .int .i64 52]) := hr
        subst hr
        simp only [pageV, zeroPage]
        have ha : Mem w9 (w9.alloc (.cells #[.bool false, .string ⟨#[]⟩, .string ⟨#[]⟩] 34)) := (Mem.refl w9).alloc _
        have hQ := Blk.new w9 #[.bool false, .string ⟨#[]⟩, .string ⟨#[]⟩] 34
        have n1 := m9.trans ha
        replace hb8 := hb8.mem n1
        replace hX8 := hX8.mem n1
        replace hb7 := hb7.mem n1
        replace hX7 := hX7.mem n1
        replace hb6 := hb6.mem n1
        replace hD := hD.mem n1
        replace hC5 := hC5.mem n1
        replace hb5 := hb5.mem n1
        replace hm5 := hm5.trans n1
        clear m9 ha n1
        go_wp2_with fail
        generalize hg9 : w9.alloc (.cells #[.bool false, .string ⟨#[]⟩, .string ⟨#[]⟩] 34) = W9 at *
        generalize w9.heap.size = Bq at *
        clear hg9
        have HS : Hid (∀ w', Mem W9 w' → w'.cell? ⟨Bq, 0, none⟩ = some (.bool false) ∧ w'.cell? ⟨Bq, 1, none⟩ = some (.string ⟨#[]⟩) ∧ w'.cell? ⟨Bq, 2, none⟩ = some (.string ⟨#[]⟩) ∧ w'.cell? ⟨Bx, 0, none⟩ = some (.slice o7 bs.length c7) ∧ w'.cell? ⟨Bx, 1, none⟩ = some (.bool br) ∧ w'.cell? ⟨Bx, 2, none⟩ = some (.bool true) ∧ w'.cell? ⟨Bx, 3, none⟩ = some (.int .i64 ops) ∧ w'.cell? ⟨By, 0, none⟩ = some (.slice o8 bs.length c8) ∧ w'.cell? ⟨By, 1, none⟩ = some (.bool br) ∧ w'.cell? ⟨By, 2, none⟩ = some (.bool true) ∧ w'.cell? ⟨By, 3, none⟩ = some (.int .i64 ops) ∧ w'.cell? ⟨Bd, 0, none⟩ = some (.slice o6 bs.length c6) ∧ w'.cell? ⟨Bd, 1, none⟩ = some (.bool br) ∧ w'.cell? ⟨Bd, 2, none⟩ = some (.bool true) ∧ w'.cell? ⟨Bd, 3, none⟩ = some (.int .i64 ops) ∧ w'.cell? ⟨Bc, 0, none⟩ = some (.slice o4 bs.length c4) ∧ w'.cell? ⟨Bc, 1, none⟩ = some (.bool br) ∧ w'.cell? ⟨Bc, 2, none⟩ = some (.bool false) ∧ w'.cell? ⟨Bc, 3, none⟩ = some (.int .i64 ops)) := fun w' h => ⟨(hQ.mem h).cell (j := 0) rfl, (hQ.mem h).cell (j := 1) rfl, (hQ.mem h).cell (j := 2) rfl, (hX7.mem h).cell (j := 0) rfl, (hX7.mem h).cell (j := 1) rfl, (hX7.mem h).cell (j := 2) rfl, (hX7.mem h).cell (j := 3) rfl, (hX8.mem h).cell (j := 0) rfl, (hX8.mem h).cell (j := 1) rfl, (hX8.mem h).cell (j := 2) rfl, (hX8.mem h).cell (j := 3) rfl, (hD.mem h).cell (j := 0) rfl, (hD.mem h).cell (j := 1) rfl, (hD.mem h).cell (j := 2) rfl, (hD.mem h).cell (j := 3) rfl, (hC5.mem h).cell (j := 0) rfl, (hC5.mem h).cell (j := 1) rfl, (hC5.mem h).cell (j := 2) rfl, (hC5.mem h).cell (j := 3) rfl⟩
        have HX := hide (fun (w' : World) (h : Mem W9 w') => hb7.mem h)
        have HY := hide (fun (w' : World) (h : Mem W9 w') => hb8.mem h)
        have HD := hide (fun (w' : World) (h : Mem W9 w') => hb6.mem h)
        have HCC := hide (fun (w' : World) (h : Mem W9 w') => hb5.mem h)
        have N0 : Hid (Mem W9 W9.drew) := Mem.drew (Mem.refl W9)
        clear hX7 hX8 hD hC5 hQ hb5 hb6 hb7 hb8
        go_region_held3 (fun w' => w'.cell? ⟨Bq, 0, none⟩ = some (.bool false) ∧ w'.cell? ⟨Bq, 1, none⟩ = some (.string ⟨#[]⟩) ∧ w'.cell? ⟨Bq, 2, none⟩ = some (.string ⟨#[]⟩) ∧ w'.cell? ⟨Bx, 0, none⟩ = some (.slice o7 bs.length c7) ∧ w'.cell? ⟨Bx, 1, none⟩ = some (.bool br) ∧ w'.cell? ⟨Bx, 2, none⟩ = some (.bool true) ∧ w'.cell? ⟨Bx, 3, none⟩ = some (.int .i64 ops) ∧ w'.cell? ⟨By, 0, none⟩ = some (.slice o8 bs.length c8) ∧ w'.cell? ⟨By, 1, none⟩ = some (.bool br) ∧ w'.cell? ⟨By, 2, none⟩ = some (.bool true) ∧ w'.cell? ⟨By, 3, none⟩ = some (.int .i64 ops) ∧ w'.cell? ⟨Bd, 0, none⟩ = some (.slice o6 bs.length c6) ∧ w'.cell? ⟨Bd, 1, none⟩ = some (.bool br) ∧ w'.cell? ⟨Bd, 2, none⟩ = some (.bool true) ∧ w'.cell? ⟨Bd, 3, none⟩ = some (.int .i64 ops) ∧ w'.cell? ⟨Bc, 0, none⟩ = some (.slice o4 bs.length c4) ∧ w'.cell? ⟨Bc, 1, none⟩ = some (.bool br) ∧ w'.cell? ⟨Bc, 2, none⟩ = some (.bool false) ∧ w'.cell? ⟨Bc, 3, none⟩ = some (.int .i64 ops))
          (first
            | with_reducible exact HS.out _ N4.out
            | with_reducible exact HS.out _ N3.out
            | with_reducible exact HS.out _ N2.out
            | with_reducible exact HS.out _ N1.out
            | with_reducible exact HS.out _ N0.out)
          (first
            | (have N9 := N3.out; go_at_call 14; refine (refSame _ _ _ _ bs br false ops _ HB3.out (HCC.out _ N3.out)).mono ?_; rintro e w13 ⟨rfl, n4⟩; have N4 := hide (Mem.trans N3.out n4); clear n4)
            | (have N9 := N2.out; go_at_call 20; refine (hOn _ _ bs br true ops _ (HD.out _ N2.out) hf).mono ?_; rintro e w12 ⟨⟨v12, rfl, hb12⟩, n3⟩; have N3 := hide (Mem.trans N2.out n3); have HB3 := hide hb12; obtain ⟨o12, c12, rfl⟩ := hb12.shape; clear hb12 n3)
            | (have N9 := N1.out; go_at_call 14; refine (refSame _ _ _ _ bs br true ops _ (HY.out _ N1.out) (HD.out _ N1.out)).mono ?_; rintro e w11 ⟨rfl, n2⟩; have N2 := hide (Mem.trans N1.out n2); clear n2)
            | (have N9 := N0.out; go_at_call 14; refine (refSame _ _ _ _ bs br true ops _ (HX.out _ N0.out) (HD.out _ N0.out)).mono ?_; rintro e w10 ⟨rfl, n1⟩; have N1 := hide (Mem.trans N0.out n1); clear n1))
        all_goals (
          go_wp2_with fail
          go_ret
          exact ⟨rfl, hm5.trans N4.out⟩))
end Go.Proofs.Ytodncodjnoegmaa.Nand
