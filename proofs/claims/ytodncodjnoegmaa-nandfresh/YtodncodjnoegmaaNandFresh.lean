/-
  The walk of NandFresh.
-/
import Derived.Test.YtodncodjnoegmaaNandOff
import Derived.Test.YtodncodjnoegmaaNandMath
import Derived.Test.YtodncodjnoegmaaNandDone
namespace Go.Proofs.Ytodncodjnoegmaa.Nand
open Go.RowKit

/-- block i is fresh from page p on -/
def Fresh (bs : List BlockT) (i p : Nat) (M : Nat) : Prop := ∃ ps er, bs[i]? = some (ps, (p : Int), er, false) ∧ ps.length = M ∧ ∀ j, p ≤ j → j < M → ps[j]? = some zeroPage
theorem fresh_erase {bs : List BlockT} {br : Bool} {ops : Int} {i M : Nat} (hi : i < bs.length) (hM : bs[i].1.length = M) (hbad : bs[i].2.2.2 = false) :
    ∃ bs' ops', erase (bs, br, false, ops) (i : Int) (0, ⟨#[]⟩, ⟨#[]⟩, 0) = ((bs', br, false, ops'), 0) ∧ Fresh bs' i 0 M ∧ dims bs' = dims bs := by
  have hg : bs.getD (i : Int).toNat default = bs[i] := by simp [hi]
  have hok : okErase bs (i : Int) (0, ⟨#[]⟩, ⟨#[]⟩, 0) = true := by unfold okErase; rw [hg, hbad]; simp [hi]
  have e : erase (bs, br, false, ops) (i : Int) (0, ⟨#[]⟩, ⟨#[]⟩, 0) = ((bs.set i (wipe bs[i].1.length bs[i].1, 0, wrap64 (bs[i].2.2.1 + 1), false), br, false, wrap64 (ops + 1)), 0) := by
    unfold erase; simp only []; rw [if_neg (by simp), if_pos hok, hg]; simp
  refine ⟨_, _, e, ⟨_, _, set_get hi, by rw [wipe_length]; exact hM, fun j _ hj => ?_⟩, dims_set (by rw [wipe_length]; simp [hi])⟩
  unfold wipe
  rw [Nat.min_self, List.getElem?_append_left (by simp; omega), List.getElem?_replicate, if_pos (by omega)]
theorem bad_erase {bs : List BlockT} {br : Bool} {ops : Int} {i : Nat} (hi : i < bs.length) (hbad : bs[i].2.2.2 = true) :
    erase (bs, br, false, ops) (i : Int) (0, ⟨#[]⟩, ⟨#[]⟩, 0) = ((bs, true, false, ops), 1) := by
  have hg : bs.getD (i : Int).toNat default = bs[i] := by simp [hi]
  have hok : okErase bs (i : Int) (0, ⟨#[]⟩, ⟨#[]⟩, 0) = false := by unfold okErase; rw [hg, hbad]; simp
  unfold erase; simp only []; rw [if_neg (by simp), hok]; rfl
theorem fresh_there {bs : List BlockT} {i p M : Nat} (h : Fresh bs i p M) (hp : p < M) : thereB bs (i : Int) (p : Int) = true ∧ ∃ (hi : i < bs.length) (ps : List PageT) (er : Int), bs[i] = (ps, (p : Int), er, false) ∧ ps.length = M ∧ ps[p]? = some zeroPage := by
  obtain ⟨ps, er, h1, h2, h3⟩ := h
  obtain ⟨hi, e⟩ := get_lt h1
  refine ⟨?_, hi, ps, er, e, h2, h3 p (Nat.le_refl _) hp⟩
  have hg : bs.getD (i : Int).toNat default = bs[i] := by simp [hi]
  unfold thereB
  rw [hg, e]
  simp [hi, h2, hp]
theorem fresh_read {bs : List BlockT} {i p M : Nat} (h : Fresh bs i p M) (hp : p < M) : readC bs false (i : Int) (p : Int) = (zeroPage, 0) := by
  obtain ⟨ht, hi, ps, er, e, h2, h3⟩ := fresh_there h hp
  have hg : bs.getD (i : Int).toNat default = bs[i] := by simp [hi]
  unfold readC
  rw [if_neg (by simp), if_pos ht, hg, e]
  simp only []
  rw [show ps.getD (p : Int).toNat zeroPage = zeroPage from by simp [h3]]
theorem fresh_prog {bs : List BlockT} {br : Bool} {ops : Int} {i p M : Nat} (h : Fresh bs i p M) (hp : p < M) :
    ∃ bs' ops', program (bs, br, false, ops) (i : Int) (p : Int) (false, ⟨#[120]⟩, ⟨#[]⟩) (0, ⟨#[]⟩, ⟨#[]⟩, 0) = ((bs', br, false, ops'), 0) ∧ Fresh bs' i (p + 1) M ∧ dims bs' = dims bs := by
  have h0 := h
  obtain ⟨ps0, er0, k1, k2, k3⟩ := h0
  obtain ⟨ht, hi, ps, er, e, h2, h3⟩ := fresh_there h hp
  obtain ⟨hi', e'⟩ := get_lt k1
  rw [e] at e'
  injection e' with e1 e'
  subst e1
  have hg : bs.getD (i : Int).toNat default = bs[i] := by simp [hi]
  have hok : okProg bs (i : Int) (p : Int) (0, ⟨#[]⟩, ⟨#[]⟩, 0) = true := by unfold okProg; rw [ht, hg, e]; simp
  have ee : program (bs, br, false, ops) (i : Int) (p : Int) (false, ⟨#[120]⟩, ⟨#[]⟩) (0, ⟨#[]⟩, ⟨#[]⟩, 0) = ((bs.set i (ps.set p (true, ⟨#[120]⟩, ⟨#[]⟩), (p : Int) + 1, er, false), br, false, wrap64 (ops + 1)), 0) := by
    unfold program; simp only []; rw [if_neg (by simp), if_pos hok, hg, e]; simp
  refine ⟨_, _, ee, ⟨ps.set p (true, ⟨#[120]⟩, ⟨#[]⟩), er, ?_, by rw [List.length_set]; exact h2, fun j hj hj' => ?_⟩, dims_set (by rw [List.length_set, show bs.getD i default = bs[i] from by simp [hi], e])⟩
  · rw [set_get hi]; simp
  · rw [List.getElem?_set_ne (by omega)]; exact k3 j (by omega) hj'

set_option maxHeartbeats 4000000 in
set_option maxRecDepth 100000 in
theorem nandFresh_walk0 (hNew : NewSpec 12) (hRead : ReadSpec 21) (hProg : ProgSpec 18) (hErase : EraseSpec 19) (hNewR : NewSpec 13) (hDone : DoneSpec)
    (S : Nat → Prop) (v : Value) (ss : List StepT) (n q0 : Int) (w : World) (hss : StepsAt S w v ss) (hok : ∀ s ∈ ss, StepOk s) (hn0 : 0 ≤ n) (hn1 : n ≤ 255) (hq0 : 0 ≤ q0) (hq1 : q0 ≤ 255) :
    Calls Try.prog 10 #[v, .int .u8 n, .int .u8 q0] w fun e w' => e = .returned (.bool true) ∧ Mem w w' := by
  obtain ⟨ol, cl, rfl⟩ := hss.shape
  have hsl0 := hss.1
  unfold maxLen at hsl0
  have HST := hide hss
  have HOK := hide hok
  clear hok hss
  go_enter Try.func10, Try.ntmps10
  go_wp2_with fail
  refine (awake hNew hRead hProg hErase _).mono ?_
  rintro e w0 ⟨rfl, m0⟩
  go_wp2_with fail
  refine (hNewR 3 (1 + n % 5) _ [] _ (Ints.nil _ _ _ _) (by decide)).mono ?_
  rintro e w1 ⟨⟨v1, rfl, hb1'⟩, m1⟩
  obtain ⟨M, hM⟩ := Int.eq_ofNat_of_zero_le (show 0 ≤ 1 + n % 5 by omega)
  have hM1 : 1 ≤ M := by omega
  have hM5 : M ≤ 5 := by omega
  have hdim : dims (newBlocks 3 M []) = List.replicate 3 M := new_dims []
  have hnc : newC 3 (1 + n % 5) [] = ((newBlocks 3 M [], false, false, 0), 0) := by rw [hM]; exact newC_yes (N := 3) (by omega) (by omega) hM1 (by omega) (by simp)
  rw [hnc] at hb1' ⊢
  have HM := hide hM
  clear hM hnc
  generalize newBlocks 3 M [] = bs1 at *
  obtain ⟨br1, hbr1⟩ : ∃ x : Bool, x = false := ⟨_, rfl⟩
  obtain ⟨of1, hof1⟩ : ∃ x : Bool, x = false := ⟨_, rfl⟩
  obtain ⟨op1, hop1⟩ : ∃ x : Int, x = 0 := ⟨_, rfl⟩
  obtain ⟨e1, he1⟩ : ∃ x : Int, x = 0 := ⟨_, rfl⟩
  rw [show ((bs1, false, false, (0 : Int)), (0 : Int)) = ((bs1, br1, of1, op1), e1) from by rw [hbr1, hof1, hop1, he1]] at *
  clear hbr1 hof1 hop1 he1
  simp only [] at hb1' ⊢
  obtain ⟨o1, c1, rfl⟩ := hb1'.shape
  simp only [chipV]
  have ha : Mem w1 (w1.alloc (.cells #[.slice o1 bs1.length c1, .bool br1, .bool of1, .int .i64 op1] 27)) := (Mem.refl w1).alloc _
  have hC1 := Blk.new w1 #[.slice o1 bs1.length c1, .bool br1, .bool of1, .int .i64 op1] 27
  have hbc : w.heap.size ≤ w1.heap.size := (m0.trans m1).size
  have hb2 : BlocksAt (fun x => x ≠ w1.heap.size) (w1.alloc (.cells #[.slice o1 bs1.length c1, .bool br1, .bool of1, .int .i64 op1] 27)) (.slice o1 bs1.length c1) bs1 := (hb1'.mono fun x _ hl => by omega).mem ha
  have hm := m0.trans (m1.trans ha)
  clear hb1' m1 ha m0
  go_wp2_with fail
  generalize hg1 : w1.alloc (.cells #[.slice o1 bs1.length c1, .bool br1, .bool of1, .int .i64 op1] 27) = W1 at *
  generalize w1.heap.size = Bc at *
  clear hg1
  go_loopw [10] (fun a wr => ∃ (k : Nat) (oc : Option Addr) (cc : Nat) (bs : List BlockT) (br off : Bool) (ops : Int), k ≤ ss.length ∧ a = .int .i64 k ∧ Blk wr Bc 27 #[.slice oc bs.length cc, .bool br, .bool off, .int .i64 ops] ∧ BlocksAt (fun x => x ≠ Bc) wr (.slice oc bs.length cc) bs ∧ dims bs = List.replicate 3 M ∧ Mem w wr) (fun a _ => ss.length - (intOf a).toNat)
  case atStart => exact ⟨0, o1, c1, bs1, br1, of1, op1, Nat.zero_le _, rfl, hC1, hb2, hdim, hm⟩
  case round =>
    clear hC1 hb2 hdim hm
    obtain ⟨k, oc, cc, bs, br, off, ops, hk, rfl, hC, hb, hd, hm⟩ := hrel
    have hf : Few bs := few_dims hd (by omega) (by omega)
    have hcl := hC.lt
    have c0 := hC.cell (j := 0) rfl
    have c1 := hC.cell (j := 1) rfl
    have c2 := hC.cell (j := 2) rfl
    have c3 := hC.cell (j := 3) rfl
    by_cases hlt : k < ss.length ∧ k < 12
    · obtain ⟨hlt, h12⟩ := hlt
      have hlt' : (k : Int) < (ss.length : Int) := by omega
      have h12' : (k : Int) < 12 := by omega
      have hk0 : (0 : Int) ≤ (k : Int) := by omega
      obtain ⟨sg, so, hol, _, t0, t1, t2, t3, t4, t5⟩ := HST.out.at hlt
      have hs : StepOk ss[k] := HOK.out _ (List.getElem_mem hlt)
      generalize ss[k] = s at *
      subst hol
      have hsl := World.block_lt_of_cell? w _ t0
      have HS : Hid (∀ w', Mem w w' → w'.cell? ⟨sg, so + k * 6, none⟩ = some (.int .u8 s.1) ∧ w'.cell? ⟨sg, so + k * 6 + 1, none⟩ = some (.int .u8 s.2.1) ∧ w'.cell? ⟨sg, so + k * 6 + 2, none⟩ = some (.int .u8 s.2.2.1) ∧ w'.cell? ⟨sg, so + k * 6 + 3, none⟩ = some (.int .u8 s.2.2.2.1) ∧ w'.cell? ⟨sg, so + k * 6 + 4, none⟩ = some (.string s.2.2.2.2.1) ∧ w'.cell? ⟨sg, so + k * 6 + 5, none⟩ = some (.string s.2.2.2.2.2)) := fun w' h => ⟨by rw [Below.cell h (p := ⟨sg, so + k * 6, none⟩) hsl]; exact t0, by rw [Below.cell h (p := ⟨sg, so + k * 6 + 1, none⟩) hsl]; exact t1, by rw [Below.cell h (p := ⟨sg, so + k * 6 + 2, none⟩) hsl]; exact t2, by rw [Below.cell h (p := ⟨sg, so + k * 6 + 3, none⟩) hsl]; exact t3, by rw [Below.cell h (p := ⟨sg, so + k * 6 + 4, none⟩) hsl]; exact t4, by rw [Below.cell h (p := ⟨sg, so + k * 6 + 5, none⟩) hsl]; exact t5⟩
      have HB := hide (fun (w' : World) (h : Mem wr w') => hb.mem h)
      have HC := hide (fun (w' : World) (h : Mem wr w') => hC.mem h)
      have N0 : Hid (Mem wr wr.drew) := Mem.drew (Mem.refl wr)
      have NW := hide hm
      have M0 : Hid (Mem w wr.drew) := hm.drew
      clear t0 t1 t2 t3 t4 t5
      go_wp2_with fail
      obtain ⟨t0, t1, t2, t3, t4, t5⟩ := HS.out _ NW.out
      go_region_law ((refine step_done (by rfl) _ _ _ (by rfl) (chipV (.slice oc bs.length cc) br off ops) (stepV s) (by rfl) (by rfl) (hDone _ _ bs br off ops s _ (HB.out _ N0.out) hf hs) ?_; rintro e w3 ⟨⟨vd, rfl, hbd⟩, n1⟩; refine ⟨_, rfl, ?_⟩; have Z5 := HC.out _ (Mem.trans N0.out n1); have g0 := Z5.cell (j := 0) rfl; have g1 := Z5.cell (j := 1) rfl; have g2 := Z5.cell (j := 2) rfl; have g3 := Z5.cell (j := 3) rfl; have f0 := Z5.frozen 0; have f1 := Z5.frozen 1; have f2 := Z5.frozen 2; have f3 := Z5.frozen 3; have NP := hide (Mem.trans M0.out n1); have HBD := hide hbd; obtain ⟨od, cd, rfl⟩ := hbd.shape; clear hbd n1))
      all_goals (
        have hC' := Z5.put4 (.slice od (doneR (bs, br, off, ops) s).1.length cd) (.bool (doneR (bs, br, off, ops) s).2.1) (.bool (doneR (bs, br, off, ops) s).2.2.1) (.int .i64 (doneR (bs, br, off, ops) s).2.2.2)
        have hbD : BlocksAt (fun x => x ≠ Bc) w3 (.slice od (doneR (bs, br, off, ops) s).1.length cd) (doneR (bs, br, off, ops) s).1 := HBD.out.mono fun x hx _ => hx.elim id (fun h => fun e => by have h2 : wr.heap.size ≤ x := h; omega)
        have hbD' := hbD.put4 (b := Bc) (fun h => h rfl) (.slice od (doneR (bs, br, off, ops) s).1.length cd) (.bool (doneR (bs, br, off, ops) s).2.1) (.bool (doneR (bs, br, off, ops) s).2.2.1) (.int .i64 (doneR (bs, br, off, ops) s).2.2.2)
        have hm' := NP.out.put4 (b := Bc) hbc (.slice od (doneR (bs, br, off, ops) s).1.length cd) (.bool (doneR (bs, br, off, ops) s).2.1) (.bool (doneR (bs, br, off, ops) s).2.2.1) (.int .i64 (doneR (bs, br, off, ops) s).2.2.2)
        have hfd := (done_dims (bs, br, off, ops) s).trans hd
        clear g0 g1 g2 g3 f0 f1 f2 f3 Z5 HBD NP N0 NW M0 HB HC HS hbD c0 c1 c2 c3 t0 t1 t2 t3 t4 t5
        go_wp2_with fail
        go_roundw
        case rel => exact ⟨k + 1, od, cd, _, _, _, _, by omega, by go_num, hC', hbD', hfd, hm'⟩
        case measure => simp [intOf]; omega)
    · have hend : (ss.length : Int) ≤ (k : Int) ∨ ((k : Int) < (ss.length : Int) ∧ 12 ≤ (k : Int)) := by omega
      clear hlt
      have hm0 := hm
      rcases hend with he | ⟨he, he'⟩
      all_goals (
        go_wp2_with fail
        clear c0 c1 c2 c3
        refine (onSpec_ref _ _ bs br off ops _ hb hf).mono ?_
        rintro e w4 ⟨⟨v4, rfl, hb4⟩, m4⟩
        replace hb4 : BlocksAt (fun x => x ≠ Bc) w4 v4 bs := hb4.mono fun x hx _ => hx.elim id (fun h => fun e => by omega)
        obtain ⟨o4, c4, rfl⟩ := hb4.shape
        have hC4 := hC.mem m4
        have hm4 := hm.trans m4
        clear hC hb hm m4 hm0
        have g0 := hC4.cell (j := 0) rfl
        have g1 := hC4.cell (j := 1) rfl
        have g2 := hC4.cell (j := 2) rfl
        have g3 := hC4.cell (j := 3) rfl
        have f0 := hC4.frozen 0
        have f1 := hC4.frozen 1
        have f2 := hC4.frozen 2
        have f3 := hC4.frozen 3
        have hC5 := hC4.put4 (.slice o4 bs.length c4) (.bool br) (.bool false) (.int .i64 ops)
        have hb5 := hb4.put4 (b := Bc) (fun h => h rfl) (.slice o4 bs.length c4) (.bool br) (.bool false) (.int .i64 ops)
        have hm5 := hm4.put4 (b := Bc) hbc (.slice o4 bs.length c4) (.bool br) (.bool false) (.int .i64 ops)
        have d0 := hC5.cell (j := 0) rfl
        have d1 := hC5.cell (j := 1) rfl
        have d2 := hC5.cell (j := 2) rfl
        have d3 := hC5.cell (j := 3) rfl
        simp only [chipV]
        have hi3 : (q0 % 3).toNat < bs.length := by rw [dims_len hd]; omega
        go_wp2_with fail
        clear g0 g1 g2 g3 f0 f1 f2 f3 d0 d1 d2 d3 hC4 hb4 hm4
        generalize ((((w4.setCell ⟨Bc, 0, none⟩ (.slice o4 bs.length c4)).setCell ⟨Bc, 1, none⟩ (.bool br)).setCell ⟨Bc, 2, none⟩ (.bool false)).setCell ⟨Bc, 3, none⟩ (.int .i64 ops)) = W5 at *
        have HI : Hid (q0 % 3 = (((q0 % 3).toNat : Nat) : Int)) := by show _ = _; omega
        have h30 : 0 ≤ q0 % 3 := by omega
        have h33 : q0 % 3 < (bs.length : Int) := by rw [dims_len hd]; omega
        have hM3 := dims_get hd hi3
        cases hbd : bs[(q0 % 3).toNat].2.2.2 with
        | true =>
          refine (hErase _ _ bs br false ops (q0 % 3) (0, ⟨#[]⟩, ⟨#[]⟩, 0) _ hb5 hf).mono ?_
          rintro e w7 ⟨hr, m7⟩
          rw [show erase (bs, br, false, ops) (q0 % 3) (0, ⟨#[]⟩, ⟨#[]⟩, 0) = ((bs, true, false, ops), 1) from by rw [HI.out]; exact bad_erase hi3 hbd] at hr
          obtain ⟨v7, rfl, hb7⟩ := hr
          simp only [] at hb7
          obtain ⟨o7, c7, rfl⟩ := hb7.shape
          simp only [chipV]
          have ha : Mem w7 (w7.alloc (.cells #[.slice o7 bs.length c7, .bool true, .bool false, .int .i64 ops] 27)) := (Mem.refl w7).alloc _
          have n1 := m7.trans ha
          have hC7 := hC5.mem n1
          have hm7 := hm5.trans n1
          obtain ⟨g, og, op, cp, rfl, _, x0, x1, x2, x3, _⟩ := (hb5.mem n1).at hi3
          rw [hbd] at x3
          clear n1 ha m7 hb7
          have d0 := hC7.cell (j := 0) rfl
          go_wp2_with fail
          go_ret
          exact ⟨rfl, hm7⟩
        | false =>
          obtain ⟨bs', ops', ee, hfr, hdm⟩ := fresh_erase (br := br) (ops := ops) hi3 hM3 hbd
          rw [hd] at hdm
          refine (hErase _ _ bs br false ops (q0 % 3) (0, ⟨#[]⟩, ⟨#[]⟩, 0) _ hb5 hf).mono ?_
          rintro e w7 ⟨hr, m7⟩
          rw [show erase (bs, br, false, ops) (q0 % 3) (0, ⟨#[]⟩, ⟨#[]⟩, 0) = ((bs', br, false, ops'), 0) from by rw [HI.out]; exact ee] at hr
          obtain ⟨v7, rfl, hb7⟩ := hr
          simp only [] at hb7
          obtain ⟨o7, c7, rfl⟩ := hb7.shape
          simp only [chipV]
          have ha : Mem w7 (w7.alloc (.cells #[.slice o7 bs'.length c7, .bool br, .bool false, .int .i64 ops'] 27)) := (Mem.refl w7).alloc _
          have hD := Blk.new w7 #[.slice o7 bs'.length c7, .bool br, .bool false, .int .i64 ops'] 27
          have hb8 : BlocksAt (fun x => x ≠ w7.heap.size) (w7.alloc (.cells #[.slice o7 bs'.length c7, .bool br, .bool false, .int .i64 ops'] 27)) (.slice o7 bs'.length c7) bs' := (hb7.mono fun x _ hl => by omega).mem ha
          have n1 := m7.trans ha
          have hbd2 : w.heap.size ≤ w7.heap.size := (hm5.trans m7).size
          have hC7 := hC5.mem n1
          have hbcd : Bc < w7.heap.size := Nat.lt_of_lt_of_le hC5.lt m7.size
          have hm7 := hm5.trans n1
          obtain ⟨g, og, op, cp, hoo, _, x0, x1, x2, x3, _⟩ := (hb5.mem n1).at hi3
          subst hoo
          rw [hbd] at x3
          clear n1 ha m7 hb7 hC5 hb5 hm5
          have d0 := hC7.cell (j := 0) rfl
          go_wp2_with fail
          clear d0 x0 x1 x2 x3
          generalize hg7 : w7.alloc (.cells #[.slice o7 bs'.length c7, .bool br, .bool false, .int .i64 ops'] 27) = W7 at *
          generalize w7.heap.size = Bd at *
          clear hg7 ee
          go_loopw [14] (fun a wq => ∃ (y : Nat) (od : Option Addr) (cd : Nat) (bsd : List BlockT) (opd : Int), y ≤ M ∧ a = .int .i64 y ∧ Blk wq Bd 27 #[.slice od bsd.length cd, .bool br, .bool false, .int .i64 opd] ∧ BlocksAt (fun x => x ≠ Bd) wq (.slice od bsd.length cd) bsd ∧ Fresh bsd (q0 % 3).toNat y M ∧ dims bsd = List.replicate 3 M ∧ Blk wq Bc 27 #[.slice (some ⟨g, og, none⟩) bs.length c4, .bool br, .bool false, .int .i64 ops] ∧ Mem w wq) (fun a _ => M - (intOf a).toNat)
          case atStart => exact ⟨0, o7, c7, bs', ops', Nat.zero_le _, rfl, hD, hb8, hfr, hdm, hC7, hm7⟩
          case round =>
            clear hD hb8 hfr hdm hC7 hm7
            obtain ⟨y, od, cd, bsd, opd, hy, rfl, hD, hbb, hfr, hdm, hC7, hm7⟩ := hrel
            have hfd : Few bsd := few_dims hdm (by omega) (by omega)
            have d0 := hD.cell (j := 0) rfl
            have d1 := hD.cell (j := 1) rfl
            have d2 := hD.cell (j := 2) rfl
            have d3 := hD.cell (j := 3) rfl
            have c1 := hC7.cell (j := 1) rfl
            by_cases hym : y < M
            · have hym' : (y : Int) < 1 + n % 5 := by rw [HM.out]; omega
              obtain ⟨bsx, opx, ex, hfx, hdx⟩ := fresh_prog (br := br) (ops := opd) hfr hym
              rw [hdm] at hdx
              have HEX := hide ex
              clear ex
              have HRD := hide (fresh_read hfr hym)
              go_wp2_with fail
              refine (hRead _ _ bsd br false opd (q0 % 3) (y : Int) _ hbb).mono ?_
              rintro e w8 ⟨hr, m8⟩
              rw [show readC bsd false (q0 % 3) (y : Int) = (zeroPage, 0) from by rw [HI.out]; exact HRD.out] at hr
              subst hr
              simp only [pageV, zeroPage]
              have ha : Mem w8 (w8.alloc (.cells #[.bool false, .string ⟨#[]⟩, .string ⟨#[]⟩] 34)) := (Mem.refl w8).alloc _
              have hQ := Blk.new w8 #[.bool false, .string ⟨#[]⟩, .string ⟨#[]⟩] 34
              have n1 := m8.trans ha
              replace hD := hD.mem n1
              replace hbb := hbb.mem n1
              replace hC7 := hC7.mem n1
              replace hm7 := hm7.trans n1
              clear n1 ha m8 d0 d1 d2 d3 c1
              have d0 := hD.cell (j := 0) rfl
              have d1 := hD.cell (j := 1) rfl
              have d2 := hD.cell (j := 2) rfl
              have d3 := hD.cell (j := 3) rfl
              go_wp2_with fail
              clear d0 d1 d2 d3
              generalize hg8 : w8.alloc (.cells #[.bool false, .string ⟨#[]⟩, .string ⟨#[]⟩] 34) = W8 at *
              generalize w8.heap.size = Bq at *
              clear hg8
              refine (hProg _ _ bsd br false opd (q0 % 3) (y : Int) (false, ⟨#[120]⟩, ⟨#[]⟩) (0, ⟨#[]⟩, ⟨#[]⟩, 0) _ hbb hfd).mono ?_
              rintro e w9 ⟨hr, m9⟩
              rw [show program (bsd, br, false, opd) (q0 % 3) (y : Int) (false, ⟨#[120]⟩, ⟨#[]⟩) (0, ⟨#[]⟩, ⟨#[]⟩, 0) = ((bsx, br, false, opx), 0) from by rw [HI.out]; exact HEX.out] at hr
              obtain ⟨v9, rfl, hb9⟩ := hr
              simp only [] at hb9
              have hdl := hD.lt
              replace hb9 : BlocksAt (fun x => x ≠ Bd) w9 v9 bsx := hb9.mono fun x hx _ => hx.elim id (fun h => fun e => by omega)
              obtain ⟨o9, c9, rfl⟩ := hb9.shape
              simp only [chipV]
              have ha : Mem w9 (w9.alloc (.cells #[.slice o9 bsx.length c9, .bool br, .bool false, .int .i64 opx] 27)) := (Mem.refl w9).alloc _
              have hX := Blk.new w9 #[.slice o9 bsx.length c9, .bool br, .bool false, .int .i64 opx] 27
              have n1 := m9.trans ha
              replace hb9 := hb9.mem ha
              replace hD := hD.mem n1
              replace hQ := hQ.mem n1
              replace hC7 := hC7.mem n1
              replace hm7 := hm7.trans n1
              clear n1 ha m9 hbb hdl
              have a0 := hQ.cell (j := 0) rfl
              have d0 := hD.cell (j := 0) rfl
              have d1 := hD.cell (j := 1) rfl
              have d2 := hD.cell (j := 2) rfl
              have d3 := hD.cell (j := 3) rfl
              have f0 := hD.frozen 0
              have f1 := hD.frozen 1
              have f2 := hD.frozen 2
              have f3 := hD.frozen 3
              go_wp2_with fail
              go_roundw
              case rel => exact ⟨y + 1, o9, c9, bsx, opx, by omega, by go_num, hD.put4 _ _ _ _, hb9.put4 (fun h => h rfl) _ _ _ _, hfx, hdx, hC7.far4 (by omega) _ _ _ _, hm7.put4 hbd2 _ _ _ _⟩
              case measure => simp [intOf]; omega
            · have hym' : 1 + n % 5 ≤ (y : Int) := by rw [HM.out]; omega
              go_wp2_with fail
              go_ret
              exact ⟨rfl, hm7⟩)
end Go.Proofs.Ytodncodjnoegmaa.Nand
