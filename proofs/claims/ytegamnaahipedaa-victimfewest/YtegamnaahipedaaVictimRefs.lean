/-
  Layer 11, the document: Victim, Cold, Rest; what is asked of whoever tells them.
-/
import Derived.Test.YtegamnaahipedaaVictimMath
import Derived.Test.YtegamnaahipedaaStatesRefs2
import Derived.Test.YtegamnaahipedaaLiveRefs
import Derived.BigQuiet
import Derived.Deep.RegionHeld3
namespace Go.Proofs.Ytegamnaahipedaa.Victim
open Go.RowKit Go.Proofs.Ytegamnaahipedaa.Nand Go.Proofs.Ytegamnaahipedaa.States Go.Proofs.Ytegamnaahipedaa.Live Go.Proofs.Ytegamnaahipedaa.Replay

/-- what is asked of Victim, Cold, Rest -/
def VictimSpec (F : Nat) : Prop := ∀ (S : Nat → Prop) (vb : Value) (bs : List BlockT) (br off : Bool) (ops : Int) (t : TableT) (om ob : Option Addr) (cm cb : Nat) (o : Int) (w : World), BlocksAt S w vb bs → bs.length ≤ 1000 →
  Ints .i64 w (.slice om t.1.length cm) t.1 → Ints .i64 w (.slice ob t.2.length cb) t.2 → t.1.length ≤ 1000 → t.2.length ≤ 1000 → WfT t →
  Calls Try.prog F #[chipV vb br off ops, .agg #[.slice om t.1.length cm, .slice ob t.2.length cb], .int .i64 o] w fun e w' => e = .returned (.int .i64 (victT bs t o)) ∧ Mem w w'
def ColdSpec (F : Nat) : Prop := ∀ (S : Nat → Prop) (vb : Value) (bs : List BlockT) (br off : Bool) (ops o most : Int) (w : World), BlocksAt S w vb bs → bs.length ≤ 1000 →
  (∀ b ∈ bs, 0 ≤ b.2.2.1 ∧ b.2.2.1 ≤ 1099511627776) →
  Calls Try.prog F #[chipV vb br off ops, .int .i64 o, .int .i64 most] w fun e w' => e = .returned (.int .i64 (coldT bs o most)) ∧ Mem w w'
def RestSpec (F : Nat) : Prop := ∀ (S : Nat → Prop) (vb : Value) (bs : List BlockT) (br off : Bool) (ops o : Int) (w : World), BlocksAt S w vb bs → bs.length ≤ 1000 →
  Calls Try.prog F #[chipV vb br off ops, .int .i64 o] w fun e w' => e = .returned (.int .i64 (restT bs o)) ∧ Mem w w'

theorem rest_out {bs : List BlockT} {o : Int} (h : o < 0 ∨ (bs.length : Int) ≤ o) : restT bs o = 0 := by
  unfold restT
  rw [if_neg]
  unfold stateT
  rw [if_pos h]
  decide
theorem blk_at {bs : List BlockT} {k : Nat} (h : k < bs.length) : bs[k] = blkT bs k := by unfold blkT; rw [List.getD_eq_getElem?_getD, List.getElem?_eq_getElem h]; rfl

set_option maxHeartbeats 2000000 in
set_option maxRecDepth 100000 in
theorem refRest : RestSpec 23 := by
  intro S vb bs br off ops o w hb hl
  obtain ⟨oa, ca, rfl⟩ := hb.shape
  have hm0 : Mem w (w.alloc (.cells #[.slice oa bs.length ca, .bool br, .bool off, .int .i64 ops] 24)) := (Mem.refl w).alloc _
  have hC := Blk.new w #[.slice oa bs.length ca, .bool br, .bool off, .int .i64 ops] 24
  replace hb := hb.mem hm0
  have c0 := hC.cell (j := 0) rfl
  have c1 := hC.cell (j := 1) rfl
  have c2 := hC.cell (j := 2) rfl
  have c3 := hC.cell (j := 3) rfl
  simp only [chipV]
  by_cases h1 : o < 0
  · have HE : Hid (restT bs o = 0) := rest_out (.inl h1)
    have hd : decide (o < 0) = true := decide_eq_true h1
    clear hb
    go_enter Try.func23, Try.ntmps23
    go_wp2_with fail
    go_ret
    exact ⟨ret_int HE.out.symm, hm0⟩
  · have h1' : 0 ≤ o := by omega
    obtain ⟨k, rfl⟩ := Int.eq_ofNat_of_zero_le h1'
    have hd : decide ((k : Int) < 0) = false := decide_eq_false h1
    by_cases h2 : k < bs.length
    · have hk1 : (k : Int) < (bs.length : Int) := by omega
      have hd2 : decide ((bs.length : Int) ≤ (k : Int)) = false := decide_eq_false (by omega)
      have HS := hide (fun w' h => refState S (.slice oa bs.length ca) bs br off ops (k : Int) (k : Int) w' h)
      have hb' := hide hb
      by_cases h3 : stateT bs k k = 1
      · have HE : Hid (restT bs k = ((blkT bs k).1.length : Int) - (blkT bs k).2.1) := by show _ = _; unfold restT; rw [if_pos h3, Int.toNat_natCast]
        have hop := h3
        rw [state_in h2] at hop
        rw [h3] at HS
        clear h3 hb
        go_enter Try.func23, Try.ntmps23
        go_wp2_with fail
        refine (HS.out _ hb'.out).mono ?_
        rintro e w1 ⟨rfl, m1⟩
        obtain ⟨g, f, op, cp, rfl, _, x0, x1, _, _, hpa⟩ := (hb'.out.mem m1).at h2
        rw [blk_at h2] at x0 x1 hpa
        have hpl := hpa.1
        unfold maxLen at hpl
        have d0 := (hC.mem m1).cell (j := 0) rfl
        have hnx : 0 ≤ (blkT bs k).2.1 ∧ (blkT bs k).2.1 < ((blkT bs k).1.length : Int) := by
          unfold stateB at hop
          split at hop
          · cases hop
          · split at hop
            · rename_i h; exact h.2
            · split at hop
              · cases hop
              · split at hop <;> cases hop
        clear hop hpa
        obtain ⟨hn0, hn1⟩ := hnx
        generalize (blkT bs k).2.1 = nx at *
        generalize (blkT bs k).1.length = len at *
        go_wp2_with fail
        go_quiet (fail)
        go_wp2_with fail
        go_ret
        exact ⟨ret_int HE.out.symm, (hm0.trans m1).drewN _⟩
      · have HE : Hid (restT bs k = 0) := by show _ = _; unfold restT; rw [if_neg h3]
        have hne : (stateT bs k k != 1) = true := by simpa using h3
        clear hb
        generalize stateT bs k k = st at *
        go_enter Try.func23, Try.ntmps23
        go_wp2_with fail
        refine (HS.out _ hb'.out).mono ?_
        rintro e w1 ⟨rfl, m1⟩
        go_wp2_with fail
        go_ret
        exact ⟨ret_int HE.out.symm, hm0.trans m1⟩
    · have HE : Hid (restT bs k = 0) := rest_out (.inr (by omega))
      have h2' : (bs.length : Int) ≤ (k : Int) := by omega
      have hd2 : decide ((bs.length : Int) ≤ (k : Int)) = true := decide_eq_true h2'
      clear hb
      go_enter Try.func23, Try.ntmps23
      go_wp2_with fail
      go_ret
      exact ⟨ret_int HE.out.symm, hm0⟩

theorem cold_yes {bs : List BlockT} {o a : Int} {k : Nat} (h1 : stateT bs o k = 2) (h2 : erT bs k = a) : coldB bs o a k = true := decide_eq_true ⟨h1, h2⟩
theorem cold_no {bs : List BlockT} {o a : Int} {k : Nat} (h : ¬ (stateT bs o k = 2 ∧ erT bs k = a)) : coldB bs o a k = false := decide_eq_false h
set_option maxHeartbeats 2000000 in
set_option maxRecDepth 100000 in
theorem refCold : ColdSpec 22 := by
  intro S vb bs br off ops o most w hb hl her
  obtain ⟨oa, ca, rfl⟩ := hb.shape
  have hm0 : Mem w (w.alloc (.cells #[.slice oa bs.length ca, .bool br, .bool off, .int .i64 ops] 24)) := (Mem.refl w).alloc _
  have hC := Blk.new w #[.slice oa bs.length ca, .bool br, .bool off, .int .i64 ops] 24
  replace hb := hb.mem hm0
  have c0 := hC.cell (j := 0) rfl
  have c1 := hC.cell (j := 1) rfl
  have c2 := hC.cell (j := 2) rfl
  have c3 := hC.cell (j := 3) rfl
  obtain ⟨hr1, hr2, hr3, hr4⟩ := wear_range (n := 1099511627776) (by decide) her
  have HWR := hide (fun w' h => refWear S (.slice oa bs.length ca) bs br off ops w' h hl)
  have HT : Hid (coldT bs o most = if (wearT bs).2 - (wearT bs).1 ≤ most then -1 else optI (firstN (coldB bs o (wearT bs).1) bs.length)) := rfl
  have HCY := hide (fun k h1 h2 => cold_yes (bs := bs) (o := o) (a := (wearT bs).1) (k := k) h1 h2)
  have HCN := hide (fun k h => cold_no (bs := bs) (o := o) (a := (wearT bs).1) (k := k) h)
  generalize wearT bs = wt at *
  obtain ⟨a, b⟩ := wt
  simp only [] at hr1 hr2 hr3 hr4 HT HCY HCN
  simp only [chipV]
  have hb' := hide hb
  have hab : -9223372036854775808 ≤ b - a := by omega
  have hab2 : b - a ≤ 9223372036854775807 := by omega
  by_cases h1 : b - a ≤ most
  · have HE : Hid (coldT bs o most = -1) := by show _ = _; rw [HT.out, if_pos h1]
    have hd : decide (b - a ≤ most) = true := decide_eq_true h1
    clear hb
    go_enter Try.func22, Try.ntmps22
    go_wp2_with fail
    refine (HWR.out _ hb'.out).mono ?_
    rintro e w1 ⟨rfl, m1⟩
    go_wp2_with fail
    go_ret
    exact ⟨ret_int HE.out.symm, hm0.trans m1⟩
  · have HE : Hid (coldT bs o most = optI (firstN (coldB bs o a) bs.length)) := by show _ = _; rw [HT.out, if_neg h1]
    have hd : decide (b - a ≤ most) = false := decide_eq_false h1
    clear hb HT
    go_enter Try.func22, Try.ntmps22
    go_wp2_with fail
    refine (HWR.out _ hb'.out).mono ?_
    rintro e w1 ⟨rfl, m1⟩
    have hC1 := hC.mem m1
    have hb1 := hide (hb'.out.mem m1)
    have hm1 := hm0.trans m1
    clear c0 c1 c2 c3 hC HWR
    go_wp2_with fail
    go_loopw [9] (fun i wr => ∃ k : Nat, k ≤ bs.length ∧ i = .int .i64 k ∧ firstN (coldB bs o a) k = none ∧ Mem w1 wr) (fun i _ => bs.length - (intOf i).toNat)
    case atStart => exact ⟨0, Nat.zero_le _, rfl, rfl, Mem.refl _⟩
    case round =>
      obtain ⟨k, hk, rfl, hno, hmr⟩ := hrel
      have hCr := hC1.mem hmr
      have c0 := hCr.cell (j := 0) rfl
      have c1 := hCr.cell (j := 1) rfl
      have c2 := hCr.cell (j := 2) rfl
      have c3 := hCr.cell (j := 3) rfl
      by_cases hlt : k < bs.length
      · have hlt' : (k : Int) < (bs.length : Int) := by omega
        have hk0 : (0 : Int) ≤ (k : Int) := by omega
        have HS := hide (refState S (.slice oa bs.length ca) bs br off ops o (k : Int) _ (hb1.out.mem hmr))
        have HY := hide (HCY.out k)
        have HN := hide (HCN.out k)
        have HFH := hide (fun hp => first_here hno (P := coldB bs o a) (k := k) (n := bs.length) hp hlt)
        have HFN := hide (fun hp => first_next hno (P := coldB bs o a) (k := k) hp)
        clear hno
        by_cases h2 : stateT bs o k = 2
        · rw [h2] at HS
          by_cases h3 : erT bs k = a
          · have HF := hide (HFH.out (HY.out h2 h3))
            have hcell : Hid (∀ w', BlocksAt S w' (.slice oa bs.length ca) bs → ∃ g f, oa = some ⟨g, f, none⟩ ∧ w'.cell? ⟨g, f + k * 4 + 2, none⟩ = some (.int .i64 a)) := by
              intro w' h
              obtain ⟨g, f, op, cp, e, _, _, _, x2, _, _⟩ := h.at hlt
              rw [blk_at hlt] at x2
              exact ⟨g, f, e, by rw [← h3]; exact x2⟩
            clear h2 h3 HY HN HFH HFN
            go_wp2_with (go_at_call 15; refine HS.out.mono ?_; rintro e w2 ⟨rfl, m2⟩; obtain ⟨g, f, rfl, x2⟩ := hcell.out _ ((hb1.out.mem hmr).mem m2); have d0 := (hCr.mem m2).cell (j := 0) rfl)
            go_ret
            exact ⟨by rw [HE.out, HF.out]; rfl, (hm1.trans hmr).trans m2⟩
          · have HF := hide (HFN.out (HN.out (fun h => h3 h.2)))
            have hcell : Hid (∀ w', BlocksAt S w' (.slice oa bs.length ca) bs → ∃ g f, oa = some ⟨g, f, none⟩ ∧ w'.cell? ⟨g, f + k * 4 + 2, none⟩ = some (.int .i64 (erT bs k))) := by
              intro w' h
              obtain ⟨g, f, op, cp, e, _, _, _, x2, _, _⟩ := h.at hlt
              rw [blk_at hlt] at x2
              exact ⟨g, f, e, x2⟩
            have hne : (erT bs k == a) = false := by simpa using h3
            clear h2 HY HN HFH HFN
            generalize erT bs k = ek at *
            go_wp2_with (go_at_call 15; refine HS.out.mono ?_; rintro e w2 ⟨rfl, m2⟩; obtain ⟨g, f, rfl, x2⟩ := hcell.out _ ((hb1.out.mem hmr).mem m2); have d0 := (hCr.mem m2).cell (j := 0) rfl)
            go_roundw
            case rel => exact ⟨k + 1, by omega, by go_num, HF.out, hmr.trans m2⟩
            case measure => simp [intOf]; omega
        · have HF := hide (HFN.out (HN.out (fun h => h2 h.1)))
          have hne : (stateT bs o k == 2) = false := by simpa using h2
          clear HY HN HFH HFN
          generalize stateT bs o k = st at *
          go_wp2_with (go_at_call 15; refine HS.out.mono ?_; rintro e w2 ⟨rfl, m2⟩)
          go_roundw
          case rel => exact ⟨k + 1, by omega, by go_num, HF.out, hmr.trans m2⟩
          case measure => simp [intOf]; omega
      · have hke : k = bs.length := by omega
        subst hke
        have hlt' : ¬ ((bs.length : Int) < (bs.length : Int)) := by omega
        have HNo := hide hno
        clear hno
        go_wp2_with fail
        go_ret
        exact ⟨by rw [HE.out, HNo.out]; rfl, hm1.trans hmr⟩
end Go.Proofs.Ytegamnaahipedaa.Victim
