/-
  Layer 10, the document: State, Many, Wear; what is asked of whoever tells them.
-/
import Derived.Test.YtegamnaahipedaaStatesMath
import Derived.Test.YtegamnaahipedaaNandLow
import Derived.BigQuiet
import Derived.Deep.RegionHeld3
namespace Go.Proofs.Ytegamnaahipedaa.States
open Go.RowKit Go.Proofs.Ytegamnaahipedaa.Nand

/-- what is asked of State, Many, Pick, Wear -/
def StateSpec (F : Nat) : Prop := ∀ (S : Nat → Prop) (vb : Value) (bs : List BlockT) (br off : Bool) (ops o b : Int) (w : World), BlocksAt S w vb bs →
  Calls Try.prog F #[chipV vb br off ops, .int .i64 o, .int .i64 b] w fun e w' => e = .returned (.int .i64 (stateT bs o b)) ∧ Mem w w'
def ManySpec (F : Nat) : Prop := ∀ (S : Nat → Prop) (vb : Value) (bs : List BlockT) (br off : Bool) (ops o s : Int) (w : World), BlocksAt S w vb bs → bs.length ≤ 1000 →
  Calls Try.prog F #[chipV vb br off ops, .int .i64 o, .int .i64 s] w fun e w' => e = .returned (.int .i64 (manyT bs o s : Int)) ∧ Mem w w'
def PickSpec (F : Nat) : Prop := ∀ (S : Nat → Prop) (vb : Value) (bs : List BlockT) (br off : Bool) (ops o : Int) (w : World), BlocksAt S w vb bs → bs.length ≤ 1000 →
  Calls Try.prog F #[chipV vb br off ops, .int .i64 o] w fun e w' => e = .returned (.int .i64 (pickT bs o)) ∧ Mem w w'
def WearSpec (F : Nat) : Prop := ∀ (S : Nat → Prop) (vb : Value) (bs : List BlockT) (br off : Bool) (ops : Int) (w : World), BlocksAt S w vb bs → bs.length ≤ 1000 →
  Calls Try.prog F #[chipV vb br off ops] w fun e w' => e = .returned (.tuple #[.int .i64 (wearT bs).1, .int .i64 (wearT bs).2]) ∧ Mem w w'

theorem take_any {ps : List PageT} {k : Nat} (h : k < ps.length) : anyW (ps.take (k + 1)) = (anyW (ps.take k) || (ps[k]).1) := by
  unfold anyW
  rw [List.take_succ_eq_append_getElem h, List.any_append]
  simp
theorem any_here {ps : List PageT} {k : Nat} (h : k < ps.length) (hw : (ps[k]).1 = true) : anyW ps = true := by
  unfold anyW
  rw [List.any_eq_true]
  exact ⟨ps[k], List.getElem_mem h, hw⟩

set_option maxHeartbeats 2000000 in
set_option maxRecDepth 100000 in
theorem refState : StateSpec 15 := by
  intro S vb bs br off ops o b w hb
  obtain ⟨oa, ca, rfl⟩ := hb.shape
  have hm0 : Mem w (w.alloc (.cells #[.slice oa bs.length ca, .bool br, .bool off, .int .i64 ops] 24)) := (Mem.refl w).alloc _
  have hC := Blk.new w #[.slice oa bs.length ca, .bool br, .bool off, .int .i64 ops] 24
  have hbl := hb.1
  unfold maxLen at hbl
  replace hb := hb.mem hm0
  have c0 := hC.cell (j := 0) rfl
  simp only [chipV]
  by_cases h1 : b < 0
  · have HE : Hid (stateT bs o b = 3) := by show _ = _; unfold stateT; rw [if_pos (.inl h1)]
    have h1' : b ≤ -1 := by omega
    have hd : decide (b < 0) = true := decide_eq_true h1
    go_enter Try.func15, Try.ntmps15
    go_wp2_with fail
    go_ret
    exact ⟨ret_int HE.out.symm, hm0⟩
  · have h1' : 0 ≤ b := by omega
    obtain ⟨k, rfl⟩ := Int.eq_ofNat_of_zero_le h1'
    have hd : decide ((k : Int) < 0) = false := decide_eq_false h1
    by_cases h2 : k < bs.length
    · have h2' : (k : Int) < (bs.length : Int) := by omega
      have hd2 : decide ((bs.length : Int) ≤ (k : Int)) = false := decide_eq_false (by omega)
      have HS := hide (state_in (bs := bs) (o := o) h2)
      obtain ⟨ga, fa, pa, qa, rfl, _, x0, x1, x2, x3, hpa⟩ := hb.at h2
      have HB : Hid (blkT bs k = bs[k]) := by show _ = _; simp [blkT, h2]
      generalize hbk : bs[k] = bk at x0 x1 x2 x3 hpa HB
      clear hbk
      rw [HB.out] at HS
      obtain ⟨ps, nx, er, bd⟩ := bk
      simp only [] at x0 x1 x2 x3 hpa
      have hpl := hpa.1
      unfold maxLen at hpl
      cases bd with
      | true =>
        have HE : Hid (stateT bs o k = 3) := by show _ = _; rw [HS.out]; rfl
        go_enter Try.func15, Try.ntmps15
        go_wp2_with fail
        go_ret
        exact ⟨ret_int HE.out.symm, hm0⟩
      | false =>
        have hX := Blk.new (w.alloc (.cells #[.slice (some ⟨ga, fa, none⟩) bs.length ca, .bool br, .bool off, .int .i64 ops] 24)) #[.slice pa ps.length qa, .int .i64 nx, .int .i64 er, .bool false] 31
        rw [World.size_alloc] at hX
        have hm1 := hm0.alloc (.cells #[.slice pa ps.length qa, .int .i64 nx, .int .i64 er, .bool false] 31)
        have hp1 := hpa.mem ((Mem.refl _).alloc (.cells #[.slice pa ps.length qa, .int .i64 nx, .int .i64 er, .bool false] 31))
        obtain ⟨w1, hw1⟩ : ∃ w1, (w.alloc (.cells #[.slice (some ⟨ga, fa, none⟩) bs.length ca, .bool br, .bool off, .int .i64 ops] 24)).alloc (.cells #[.slice pa ps.length qa, .int .i64 nx, .int .i64 er, .bool false] 31) = w1 := ⟨_, rfl⟩
        have HW := hide hw1
        rw [hw1] at hX hm1 hp1
        clear hw1
        have d0 := hX.cell (j := 0) rfl
        have d1 := hX.cell (j := 1) rfl
        by_cases hop : (k : Int) = o ∧ 0 ≤ nx ∧ nx < (ps.length : Int)
        · have HE : Hid (stateT bs o k = 1) := by show _ = _; rw [HS.out]; unfold stateB; rw [if_neg (by simp), if_pos hop]
          obtain ⟨e1, e2, e3⟩ := hop
          subst e1
          have q2 : decide (0 ≤ nx) = true := decide_eq_true e2
          have q3 : decide (nx < (ps.length : Int)) = true := decide_eq_true e3
          clear hX hp1 hpa HS
          go_enter Try.func15, Try.ntmps15
          go_wp2_with fail
          go_ret
          rw [HW.out]
          exact ⟨ret_int HE.out.symm, hm1⟩
        · have HR : Hid (stateT bs o k = if anyW ps = true then 2 else if nx = 0 then 0 else 2) := by show _ = _; rw [HS.out]; unfold stateB; rw [if_neg (by simp), if_neg hop]
          have hcase : ((k : Int) == o) = false ∨ (((k : Int) == o) = true ∧ decide (0 ≤ nx) = false) ∨ (((k : Int) == o) = true ∧ decide (0 ≤ nx) = true ∧ decide (nx < (ps.length : Int)) = false) := by
            by_cases e1 : (k : Int) = o
            · by_cases e2 : 0 ≤ nx
              · exact .inr (.inr ⟨by rw [beq_iff_eq]; exact e1, decide_eq_true e2, decide_eq_false fun e3 => hop ⟨e1, e2, e3⟩⟩)
              · exact .inr (.inl ⟨by rw [beq_iff_eq]; exact e1, decide_eq_false e2⟩)
            · exact .inl (by rw [beq_eq_false_iff_ne]; exact e1)
          have HAny := hide (fun k h => take_any (ps := ps) (k := k) h)
          have HHere := hide (fun k h hw => any_here (ps := ps) (k := k) h hw)
          have HAll : Hid (anyW (ps.take ps.length) = anyW ps) := by show _ = _; rw [List.take_length]
          have hp1' := hide hp1
          clear hop HS hpa hX hp1 hb hC
          rcases hcase with q1 | ⟨q1, q2⟩ | ⟨q1, q2, q3⟩
          all_goals (
            go_enter Try.func15, Try.ntmps15
            go_wp2_with fail
            rw [HW.out]
            go_loop [8] (fun i => ∃ j : Nat, j ≤ ps.length ∧ i = .int .i64 j ∧ anyW (ps.take j) = false) (fun i => ps.length - (intOf i).toNat)
            case atStart => exact ⟨0, Nat.zero_le _, rfl, rfl⟩
            case round =>
              obtain ⟨j, hj, rfl, hno⟩ := hrel
              by_cases hlt : j < ps.length
              · have hlt' : (j : Int) < (ps.length : Int) := by omega
                have hj0 : (0 : Int) ≤ (j : Int) := by omega
                obtain ⟨gp, fp, rfl, _, y0, _, _⟩ := hp1'.out.at hlt
                have HA := hide (HAny.out j hlt)
                have HH := hide (HHere.out j hlt)
                generalize ps[j] = pg at *
                obtain ⟨pw, pd, pt⟩ := pg
                simp only [] at y0 HA HH
                cases pw with
                | true =>
                  have HE : Hid (stateT bs o k = 2) := by show _ = _; rw [HR.out, if_pos (HH.out rfl)]
                  go_wp2_with fail
                  go_ret
                  exact ⟨ret_int HE.out.symm, hm1⟩
                | false =>
                  have HN : Hid (anyW (ps.take (j + 1)) = false) := by show _ = _; rw [HA.out, hno]; rfl
                  go_wp2_with fail
                  go_round
                  case rel => exact ⟨j + 1, by omega, by go_num, HN.out⟩
                  case measure => simp [intOf]; omega
              · have hje : j = ps.length := by omega
                subst hje
                have hlt' : ¬ ((ps.length : Int) < (ps.length : Int)) := by omega
                rw [HAll.out] at hno
                by_cases h0 : nx = 0
                · have HE : Hid (stateT bs o k = 0) := by show _ = _; rw [HR.out, hno, if_neg (by decide), if_pos h0]
                  subst h0
                  clear hno
                  go_wp2_with fail
                  go_ret
                  exact ⟨ret_int HE.out.symm, hm1⟩
                · have HE : Hid (stateT bs o k = 2) := by show _ = _; rw [HR.out, hno, if_neg (by decide), if_neg h0]
                  clear hno
                  go_wp2_with fail
                  go_ret
                  exact ⟨ret_int HE.out.symm, hm1⟩)
    · have HE : Hid (stateT bs o k = 3) := by show _ = _; unfold stateT; rw [if_pos (.inr (by omega))]
      have h2' : (bs.length : Int) ≤ (k : Int) := by omega
      have hd2 : decide ((bs.length : Int) ≤ (k : Int)) = true := decide_eq_true h2'
      go_enter Try.func15, Try.ntmps15
      go_wp2_with fail
      go_ret
      exact ⟨ret_int HE.out.symm, hm0⟩
end Go.Proofs.Ytegamnaahipedaa.States
