/-
  Layer 11, the program: Victim, Cold, Rest. (By mk_victimcode.py.)
-/
import Derived.Test.YtegamnaahipedaaVictimRefs2
import Derived.Test.YtegamnaahipedaaVictimCmp
import Derived.Test.YtegamnaahipedaaLiveWanted
import Derived.Test.YtegamnaahipedaaStatesIs
import Derived.Test.YtegamnaahipedaaStatesWearC
namespace Go.Proofs.Ytegamnaahipedaa.Victim
open Go.RowKit Go.Proofs.Ytegamnaahipedaa.Nand Go.Proofs.Ytegamnaahipedaa.States Go.Proofs.Ytegamnaahipedaa.Live Go.Proofs.Ytegamnaahipedaa.Replay

set_option maxRecDepth 100000 in
theorem codeRest : RestSpec 18 := by
  intro S vb bs br off ops o w hb hl
  obtain ⟨oa, ca, rfl⟩ := hb.shape
  have hm0 : Mem w (w.alloc (.cells #[.slice oa bs.length ca, .bool br, .bool off, .int .i64 ops] 24)) := (Mem.refl w).alloc _
  have hC := Blk.new w #[.slice oa bs.length ca, .bool br, .bool off, .int .i64 ops] 24
  have c0 := hC.cell (j := 0) rfl
  have c1 := hC.cell (j := 1) rfl
  have c2 := hC.cell (j := 2) rfl
  have c3 := hC.cell (j := 3) rfl
  have hb' := hide (hb.mem hm0)
  have HS := hide (fun w' h => codeState S (.slice oa bs.length ca) bs br off ops o o w' h)
  simp only [chipV]
  clear hb
  by_cases h3 : stateT bs o o = 1
  · have HE : Hid (restT bs o = ((blkT bs o.toNat).1.length : Int) - (blkT bs o.toNat).2.1) := by show _ = _; unfold restT; rw [if_pos h3]
    have hin : 0 ≤ o ∧ o < (bs.length : Int) := by
      apply Decidable.byContradiction
      intro h
      unfold stateT at h3
      rw [if_pos (by omega)] at h3
      cases h3
    obtain ⟨k, rfl⟩ := Int.eq_ofNat_of_zero_le hin.1
    have h2 : k < bs.length := by omega
    have hk0 : (0 : Int) ≤ (k : Int) := hin.1
    have hk1 : (k : Int) < (bs.length : Int) := hin.2
    have hop := h3
    rw [state_in h2] at hop
    rw [h3] at HS
    rw [Int.toNat_natCast] at HE
    clear h3 hin
    go_enter Try.func18, Try.ntmps18
    go_wp2_with fail
    refine (HS.out _ hb'.out).mono ?_
    rintro e w1 ⟨rfl, m1⟩
    obtain ⟨g, f, op, cp, rfl, _, x0, x1, _, _, hpa⟩ := (hb'.out.mem m1).at h2
    rw [blk_at h2] at x0 x1 hpa
    have hpl := hpa.1
    unfold maxLen at hpl
    have d0 := (hC.mem m1).cell (j := 0) rfl
    have hnx : 0 ≤ (blkT bs k).2.1 ∧ (blkT bs k).2.1 < ((blkT bs k).1.length : Int) := by
      unfold stateB at hop
      split at hop
      · cases hop
      · split at hop
        · rename_i h; exact h.2
        · split at hop
          · cases hop
          · split at hop <;> cases hop
    clear hop hpa
    obtain ⟨hn0, hn1⟩ := hnx
    generalize (blkT bs k).2.1 = nx at *
    generalize (blkT bs k).1.length = len at *
    go_wp2_with fail
    go_quiet (fail)
    go_wp2_with fail
    go_ret
    exact ⟨ret_int HE.out.symm, (hm0.trans m1).drewN _⟩
  · have HE : Hid (restT bs o = 0) := by show _ = _; unfold restT; rw [if_neg h3]
    have hne : (stateT bs o o != 1) = true := by simpa using h3
    generalize stateT bs o o = st at *
    go_enter Try.func18, Try.ntmps18
    go_wp2_with fail
    refine (HS.out _ hb'.out).mono ?_
    rintro e w1 ⟨rfl, m1⟩
    go_wp2_with fail
    go_ret
    exact ⟨ret_int HE.out.symm, hm0.trans m1⟩

set_option maxHeartbeats 2000000 in
set_option maxRecDepth 100000 in
theorem codeCold : ColdSpec 17 := by
  intro S vb bs br off ops o most w hb hl her
  obtain ⟨oa, ca, rfl⟩ := hb.shape
  have hm0 : Mem w (w.alloc (.cells #[.slice oa bs.length ca, .bool br, .bool off, .int .i64 ops] 24)) := (Mem.refl w).alloc _
  have hC := Blk.new w #[.slice oa bs.length ca, .bool br, .bool off, .int .i64 ops] 24
  replace hb := hb.mem hm0
  have c0 := hC.cell (j := 0) rfl
  have c1 := hC.cell (j := 1) rfl
  have c2 := hC.cell (j := 2) rfl
  have c3 := hC.cell (j := 3) rfl
  obtain ⟨hr1, hr2, hr3, hr4⟩ := wear_range (n := 1099511627776) (by decide) her
  have HWR := hide (fun w' h => codeWear S (.slice oa bs.length ca) bs br off ops w' h hl)
  have HT : Hid (coldT bs o most = if (wearT bs).2 - (wearT bs).1 ≤ most then -1 else optI (firstN (coldB bs o (wearT bs).1) bs.length)) := rfl
  have HCY := hide (fun k h1 h2 => cold_yes (bs := bs) (o := o) (a := (wearT bs).1) (k := k) h1 h2)
  have HCN := hide (fun k h => cold_no (bs := bs) (o := o) (a := (wearT bs).1) (k := k) h)
  generalize wearT bs = wt at *
  obtain ⟨a, b⟩ := wt
  simp only [] at hr1 hr2 hr3 hr4 HT HCY HCN
  simp only [chipV]
  have hb' := hide hb
  have hab : -9223372036854775808 ≤ b - a := by omega
  have hab2 : b - a ≤ 9223372036854775807 := by omega
  by_cases h1 : b - a ≤ most
  · have HE : Hid (coldT bs o most = -1) := by show _ = _; rw [HT.out, if_pos h1]
    have hd : decide (b - a ≤ most) = true := decide_eq_true h1
    clear hb
    go_enter Try.func17, Try.ntmps17
    go_wp2_with fail
    refine (HWR.out _ hb'.out).mono ?_
    rintro e w1 ⟨rfl, m1⟩
    go_wp2_with fail
    go_ret
    exact ⟨ret_int HE.out.symm, hm0.trans m1⟩
  · have HE : Hid (coldT bs o most = optI (firstN (coldB bs o a) bs.length)) := by show _ = _; rw [HT.out, if_neg h1]
    have hd : decide (b - a ≤ most) = false := decide_eq_false h1
    clear hb HT
    go_enter Try.func17, Try.ntmps17
    go_wp2_with fail
    refine (HWR.out _ hb'.out).mono ?_
    rintro e w1 ⟨rfl, m1⟩
    have hC1 := hC.mem m1
    have hb1 := hide (hb'.out.mem m1)
    have hm1 := hm0.trans m1
    have d0 := hC1.cell (j := 0) rfl
    clear c0 c1 c2 c3 hC HWR
    go_wp2_with fail
    go_loopw [24] (fun i wr => ∃ k : Nat, k ≤ bs.length ∧ i = .int .i64 k ∧ firstN (coldB bs o a) k = none ∧ Mem w1 wr) (fun i _ => bs.length - (intOf i).toNat)
    case atStart => exact ⟨0, Nat.zero_le _, rfl, rfl, Mem.refl _⟩
    case round =>
      clear d0
      obtain ⟨k, hk, rfl, hno, hmr⟩ := hrel
      have hCr := hC1.mem hmr
      by_cases hlt : k < bs.length
      · have hlt' : (k : Int) < (bs.length : Int) := by omega
        have hk0 : (0 : Int) ≤ (k : Int) := by omega
        have HY := hide (HCY.out k)
        have HN := hide (HCN.out k)
        have HFH := hide (fun hp => first_here hno (P := coldB bs o a) (k := k) (n := bs.length) hp hlt)
        have HFN := hide (fun hp => first_next hno (P := coldB bs o a) (k := k) hp)
        clear hno
        have HS := hide (fun w' h => codeState S (.slice oa bs.length ca) bs br off ops o (k : Int) w' h)
        obtain ⟨g, f, op, cp, e, xx, x0, x1, x2, x3, hpa⟩ := (hb1.out.mem hmr).at hlt
        rw [blk_at hlt] at x0 x1 x2 x3
        have HER : Hid (erT bs k = (blkT bs k).2.2.1) := rfl
        clear xx hpa
        subst e
        by_cases h3 : erT bs k = a
        · have h3' : (blkT bs k).2.2.1 = a := by rw [← HER.out]; exact h3
          rw [h3'] at x2
          have mX : Mem wr (wr.alloc (.cells #[.slice op (blkT bs k).1.length cp, .int .i64 (blkT bs k).2.1, .int .i64 a, .bool (blkT bs k).2.2.2] 31)) := (Mem.refl wr).alloc _
          have y0 := (hCr.mem mX).cell (j := 0) rfl
          have y1 := (hCr.mem mX).cell (j := 1) rfl
          have y2 := (hCr.mem mX).cell (j := 2) rfl
          have y3 := (hCr.mem mX).cell (j := 3) rfl
          clear h3'
          generalize (blkT bs k).1.length = len at *
          generalize (blkT bs k).2.1 = nx at *
          generalize (blkT bs k).2.2.2 = bd at *
          by_cases h2 : stateT bs o k = 2
          · have HF := hide (HFH.out (HY.out h2 h3))
            rw [h2] at HS
            clear h2 h3 HY HN HFH HFN
            go_wp2_with (go_at_call 30; refine (HS.out _ ((hb1.out.mem hmr).mem mX)).mono ?_; rintro e w2 ⟨rfl, m2⟩)
            go_ret
            exact ⟨by rw [HE.out, HF.out]; rfl, ((hm1.trans hmr).trans mX).trans m2⟩
          · have HF := hide (HFN.out (HN.out (fun h => h2 h.1)))
            have hne : (stateT bs o k == 2) = false := by simpa using h2
            clear h2 h3 HY HN HFH HFN
            generalize stateT bs o k = st at *
            go_wp2_with (go_at_call 30; refine (HS.out _ ((hb1.out.mem hmr).mem mX)).mono ?_; rintro e w2 ⟨rfl, m2⟩)
            go_roundw
            case rel => exact ⟨k + 1, by omega, by go_num, HF.out, (hmr.trans mX).trans m2⟩
            case measure => simp [intOf]; omega
        · have HF := hide (HFN.out (HN.out (fun h => h3 h.2)))
          have hne : ((blkT bs k).2.2.1 == a) = false := by rw [← HER.out]; simpa using h3
          clear HY HN HFH HFN h3
          generalize (blkT bs k).1.length = len at *
          generalize (blkT bs k).2.1 = nx at *
          generalize (blkT bs k).2.2.1 = ek at *
          generalize (blkT bs k).2.2.2 = bd at *
          go_wp2_with fail
          go_roundw
          case rel => exact ⟨k + 1, by omega, by go_num, HF.out, hmr.alloc _⟩
          case measure => simp [intOf]; omega
      · have hke : k = bs.length := by omega
        subst hke
        have hlt' : ¬ ((bs.length : Int) < (bs.length : Int)) := by omega
        have HNo := hide hno
        clear hno
        go_wp2_with fail
        go_ret
        exact ⟨by rw [HE.out, HNo.out]; rfl, hm1.trans hmr⟩

theorem keeps {w w' : World} (m : Mem w w') {a : Addr} {v : Value} (h : w.cell? a = some v) : w'.cell? a = some v := by
  have hl : a.block < w.heap.size := by
    apply Decidable.byContradiction
    intro hn
    have : w.heap[a.block]? = none := by simp; omega
    simp [World.cell?, this] at h
  rw [Below.cell m (p := a) hl]
  exact h
def bestE (bs : List BlockT) : Option Nat → Int
  | none => 0
  | some j => erT bs j
def BestAt (w : World) (B : Nat) (bs : List BlockT) (t : TableT) (q : Option Nat) : Prop := Blk w B 67 #[.int .i64 (bestC t q : Int), .int .i64 (bestE bs q), .int .i64 (optI q)]
theorem best_put {w : World} {B : Nat} {bs : List BlockT} {t : TableT} {q : Option Nat} (h : BestAt w B bs t q) (k : Nat) :
    BestAt (((w.setCell ⟨B, 0, none⟩ (.int .i64 (countT t k : Int))).setCell ⟨B, 1, none⟩ (.int .i64 (erT bs k))).setCell ⟨B, 2, none⟩ (.int .i64 (k : Int))) B bs t (some k) := Blk.put3 h _ _ _

set_option maxHeartbeats 8000000 in
set_option maxRecDepth 100000 in
theorem codeVictim : VictimSpec 14 := by
  intro S vb bs br off ops t om ob cm cb o w hb hl hi1 hi2 hl1 hl2 hwf
  obtain ⟨oa, ca, rfl⟩ := hb.shape
  have hm0 : Mem w ((w.alloc (.cells #[.slice oa bs.length ca, .bool br, .bool off, .int .i64 ops] 24)).alloc (.cells #[.slice om t.1.length cm, .slice ob t.2.length cb] 27)) := ((Mem.refl w).alloc _).alloc _
  have hC := (Blk.new w #[.slice oa bs.length ca, .bool br, .bool off, .int .i64 ops] 24).alloc (.cells #[.slice om t.1.length cm, .slice ob t.2.length cb] 27)
  have hT := Blk.new (w.alloc (.cells #[.slice oa bs.length ca, .bool br, .bool off, .int .i64 ops] 24)) #[.slice om t.1.length cm, .slice ob t.2.length cb] 27
  have hsz : ((w.alloc (.cells #[.slice oa bs.length ca, .bool br, .bool off, .int .i64 ops] 24)).alloc (.cells #[.slice om t.1.length cm, .slice ob t.2.length cb] 27)).heap.size = w.heap.size + 1 + 1 := by simp
  rw [World.size_alloc] at hT
  have hb' := hide (hb.mem hm0)
  have HLen : Hid (∀ k, k < bs.length → (blkT bs k).1.length ≤ maxLen) := by
    intro k hk
    obtain ⟨_, _, _, _, _, _, _, _, _, _, hpa⟩ := hb.at hk
    rw [blk_at hk] at hpa
    exact hpa.1
  have HCT : Hid (∀ (k : Nat) (w' : World), Mem w w' → Calls Try.prog 31 #[.agg #[.slice om t.1.length cm, .slice ob t.2.length cb], .int .i64 (k : Int)] w' fun e w'' => e = .returned (.int .i64 (countT t k)) ∧ Mem w' w'') := fun k w' m => codeCount t om ob cm cb k w' (hi1.mem m) (hi2.mem m) hl1 hl2 hwf
  have HE : Hid (victT bs t o = optI (victN bs t o (min bs.length 32))) := rfl
  have hmle : min bs.length 32 ≤ bs.length := Nat.min_le_left _ _
  have hm32 : min bs.length 32 ≤ 32 := Nat.min_le_right _ _
  have hmin : (if (32 : Int) < (bs.length : Int) then (32 : Int) else (bs.length : Int)) = ((min bs.length 32 : Nat) : Int) := by split <;> omega
  have c0 := (hC.alloc (.cells #[.int .i64 0, .int .i64 0, .int .i64 (-1)] 67)).cell (j := 0) rfl
  simp only [chipV]
  clear hb hi1 hi2
  go_enter Try.func14, Try.ntmps14
  go_wp2_with fail
  obtain ⟨w0, hw0⟩ : ∃ w0, (w.alloc (.cells #[.slice oa bs.length ca, .bool br, .bool off, .int .i64 ops] 24)).alloc (.cells #[.slice om t.1.length cm, .slice ob t.2.length cb] 27) = w0 := ⟨_, rfl⟩
  rw [hw0] at hm0 hC hT hb' hsz c0 ⊢
  clear hw0
  generalize hmd : min bs.length 32 = m at *
  clear hmd
  go_loopw [15] (fun i wr => ∃ k : Nat, k ≤ m ∧ i = .int .i64 k ∧ BestAt wr (w.heap.size + 1 + 1) bs t (victN bs t o k) ∧ Mem w0 wr) (fun i _ => m - (intOf i).toNat)
  case atStart => exact ⟨0, Nat.zero_le _, rfl, (by have := Blk.new w0 #[.int .i64 0, .int .i64 0, .int .i64 (-1)] 67; rw [hsz] at this; exact this), (Mem.refl w0).alloc _⟩
  case round =>
    clear c0
    have HSZ : Hid (w0.heap.size ≤ w.heap.size + 1 + 1) := Nat.le_of_eq hsz
    clear hsz
    obtain ⟨k, hk, rfl, hBA, hmr⟩ := hrel
    have hk0 : (0 : Int) ≤ (k : Int) := by omega
    have hCr := hC.mem hmr
    have c0 := hCr.cell (j := 0) rfl
    have c1 := hCr.cell (j := 1) rfl
    have c2 := hCr.cell (j := 2) rfl
    have c3 := hCr.cell (j := 3) rfl
    by_cases hlt : k < m
    · have hlt' : (k : Int) < (m : Int) := by omega
      have hlb : k < bs.length := by omega
      have hlb' : (k : Int) < (bs.length : Int) := by omega
      have HS := hide (fun w' h => codeState S (.slice oa bs.length ca) bs br off ops o (k : Int) w' h)
      by_cases h2 : stateT bs o k = 2
      · have HST : Hid (stateT bs o k = 2) := h2
        rw [h2] at HS
        clear h2
        have HCK := hide (HCT.out k)
        clear HCT
        go_wp2_with (go_at_call 30; refine (HS.out _ (hb'.out.mem hmr)).mono ?_; rintro e w2 ⟨rfl, m2⟩)
        have M2 := hmr.trans m2
        replace hBA : BestAt w2 (w.heap.size + 1 + 1) bs t (victN bs t o k) := hBA.mem m2
        have HC2 := hide (hC.mem M2)
        have HT2 := hide (hT.mem M2)
        obtain ⟨g, f, op, cp, rfl, _, x0, _, x2, _, hpa⟩ := (hb'.out.mem M2).at hlb
        rw [blk_at hlb] at x0 x2 hpa
        have hpl := hpa.1
        unfold maxLen at hpl
        obtain ⟨c, hcg⟩ : ∃ c, c = countT t k := ⟨_, rfl⟩
        obtain ⟨len, hlg⟩ : ∃ len, len = (blkT bs k).1.length := ⟨_, rfl⟩
        obtain ⟨ek, heg⟩ : ∃ ek, ek = (blkT bs k).2.2.1 := ⟨_, rfl⟩
        have HE0 : Hid (erT bs k = ek) := by show _ = _; rw [heg]; rfl
        have HC0 : Hid ((countT t k : Int) = (c : Int)) := by show _ = _; rw [hcg]
        have HLN : Hid ((blkT bs k).1.length = len) := by show _ = _; rw [hlg]
        rw [← hcg] at HCK
        rw [← hlg] at x0 hpl
        rw [← heg] at x2
        have hc16 : c ≤ 16 := by rw [hcg]; exact count_le t k
        have HBS := hide hBA
        have hB2 : w.heap.size + 1 + 1 < w2.heap.size := hBA.lt
        clear hpa hBA c0 c1 c2 c3 hCr HLen
        have hmw := hm0.trans M2
        have x0h := hide x0
        have x2h := hide x2
        clear hcg hlg heg
        have HK : Hid (∀ W', Mem w2 W' → W'.cell? ⟨w.heap.size + 1, 0, none⟩ = some (.slice om t.1.length cm) ∧ W'.cell? ⟨w.heap.size + 1, 1, none⟩ = some (.slice ob t.2.length cb) ∧ W'.cell? ⟨w.heap.size, 0, none⟩ = some (.slice (some ⟨g, f, none⟩) bs.length ca) ∧ W'.cell? ⟨g, f + k * 4 + 2, none⟩ = some (.int .i64 ek)) :=
          fun W' m => ⟨(HT2.out.mem m).cell (j := 0) rfl, (HT2.out.mem m).cell (j := 1) rfl, (HC2.out.mem m).cell (j := 0) rfl, keeps m x2h.out⟩
        clear x0 x2
        have HZ := hide (Blk.new w2 #[.int .i64 0, .int .i64 0, .int .i64 0] 67).drew
        have HM5 := hide (((Mem.refl w2).alloc (.cells #[.int .i64 0, .int .i64 0, .int .i64 0] 67)).drew)
        have HM0 := hide (Mem.drew (Mem.refl w2))
        go_region_held3 (fun w' => w'.cell? ⟨w.heap.size + 1, 0, none⟩ = some (.slice om t.1.length cm) ∧ w'.cell? ⟨w.heap.size + 1, 1, none⟩ = some (.slice ob t.2.length cb) ∧ w'.cell? ⟨w.heap.size, 0, none⟩ = some (.slice (some ⟨g, f, none⟩) bs.length ca) ∧ w'.cell? ⟨g, f + k * 4 + 2, none⟩ = some (.int .i64 ek))
          (first
            | with_reducible exact HK.out _ HM0.out
            | with_reducible exact HK.out _ (Mem.trans HM0.out n1.out)
            | with_reducible exact HK.out _ (Mem.alloc (Mem.trans HM0.out n1.out) _)
            | with_reducible exact HK.out _ HM5.out
            | with_reducible exact HK.out _ (Mem.trans HM5.out n1.out)
            | with_reducible exact HK.out _ (Mem.setCell (p := ⟨w2.heap.size, 2, none⟩) (Mem.setCell (p := ⟨w2.heap.size, 1, none⟩) (Mem.setCell (p := ⟨w2.heap.size, 0, none⟩) (Mem.trans HM5.out n1.out) (Nat.le_refl _) _) (Nat.le_refl _) _) (Nat.le_refl _) _))
          (first
            | (go_at_call 31; refine (HCK.out _ (Mem.trans hmw HM0.out)).mono ?_; rintro e w3 ⟨rfl, n1⟩; replace n1 := hide n1)
            | (go_at_call 31; refine (HCK.out _ (Mem.trans hmw HM5.out)).mono ?_; rintro e w3 ⟨rfl, n1⟩; have Z5 := HZ.out.mem n1; have g0 := Z5.cell (j := 0) rfl; have g1 := Z5.cell (j := 1) rfl; have g2 := Z5.cell (j := 2) rfl; have f0 := Z5.frozen 0; have f1 := Z5.frozen 1; have f2 := Z5.frozen 2; replace n1 := hide n1))
        all_goals (first
          | (have n2 : Mem w2 w3 := by with_reducible exact Mem.trans HM0.out n1.out
             have hR := Blk.new w3 #[.int .i64 (c : Int), .int .i64 ek, .int .i64 (k : Int)] 67
             have hmA := Mem.trans n2 ((Mem.refl w3).alloc (.cells #[.int .i64 c, .int .i64 ek, .int .i64 (k : Int)] 67))
             clear n1 n2 HM0 HM5 HZ HK HCK
             generalize hWA : w3.alloc (.cells #[.int .i64 c, .int .i64 ek, .int .i64 (k : Int)] 67) = wA at *
             generalize w3.heap.size = R at *
             clear hWA)
          | (have n2 : Mem w2 w3 := by with_reducible exact Mem.trans HM5.out n1.out
             have hR := Blk.put3 (HZ.out.mem n1.out) (.int .i64 (c : Int)) (.int .i64 ek) (.int .i64 (k : Int))
             have hmA := n2.put3 (b := w2.heap.size) (Nat.le_refl _) (.int .i64 (c : Int)) (.int .i64 ek) (.int .i64 (k : Int))
             clear n1 n2 HM0 HM5 HZ HK HCK Z5 g0 g1 g2 f0 f1 f2
             generalize hWA : ((w3.setCell ⟨w2.heap.size, 0, none⟩ (.int .i64 (c : Int))).setCell ⟨w2.heap.size, 1, none⟩ (.int .i64 ek)).setCell ⟨w2.heap.size, 2, none⟩ (.int .i64 (k : Int)) = wA at *
             generalize w2.heap.size = R at *
             clear hWA))
        all_goals (
          have mA := M2.trans hmA
          have hBA : BestAt wA (w.heap.size + 1 + 1) bs t (victN bs t o k) := HBS.out.mem hmA
          have hCA := HC2.out.mem hmA
          have x0 := keeps hmA x0h.out
          have r0 := hR.cell (j := 0) rfl
          have r1 := hR.cell (j := 1) rfl
          have r2 := hR.cell (j := 2) rfl
          have c0 := hCA.cell (j := 0) rfl
          clear HBS HC2 HT2 x0h x2h hmA M2 hmw hC hT hmr m2 hm0
          go_wp2_with fail
          by_cases h3 : countT t k < (blkT bs k).1.length
          · have hcl : c < len := by have := HC0.out; rw [← HLN.out]; omega
            have hd3 : decide (c < len) = true := decide_eq_true hcl
            have hc : candB bs t o k = true := decide_eq_true ⟨HST.out, h3⟩
            clear h3
            cases hv : victN bs t o k with
            | none =>
              have HV := hide (vict_first hc hv)
              rw [hv] at hBA
              clear hv hc
              have b2 : wA.cell? ⟨w.heap.size + 1 + 1, 2, none⟩ = some (.int .i64 (-1)) := hBA.cell (j := 2) rfl
              have b0 : wA.cell? ⟨w.heap.size + 1 + 1, 0, none⟩ = some (.int .i64 0) := hBA.cell (j := 0) rfl
              have b1 : wA.cell? ⟨w.heap.size + 1 + 1, 1, none⟩ = some (.int .i64 0) := hBA.cell (j := 1) rfl
              have z0 := hBA.frozen 0
              have z1 := hBA.frozen 1
              have z2 := hBA.frozen 2
              go_quiet (fail)
              go_wp2_with fail
              go_roundw
              case rel => exact ⟨k + 1, by omega, by go_num, by rw [HV.out, ← HC0.out, ← HE0.out]; exact best_put (hBA.mem ((Mem.refl wA).drewN _)) k, (mA.drewN _).put3 HSZ.out _ _ _⟩
              case measure => simp [intOf]; omega
            | some j =>
              have hjk := (vict_lt hv).1
              have hj0 : decide ((j : Int) < 0) = false := decide_eq_false (by omega)
              have HN := hide (fun ha => vict_new hc hv ha)
              have HO := hide (fun ha => vict_old (k := k) hv ha)
              have HAh : Hid (aheadB bs t k j = decide (cmpR (countT t k : Int) (erT bs k) (k : Int) (countT t j : Int) (erT bs j) (j : Int) < 0)) := by
                show _ = _
                unfold aheadB
                refine decide_eq_decide.2 ?_
                rw [cmpR_neg]
                omega
              rw [hv] at hBA
              clear hv hc
              have b0 : wA.cell? ⟨w.heap.size + 1 + 1, 0, none⟩ = some (.int .i64 (countT t j : Int)) := hBA.cell (j := 0) rfl
              have b1 : wA.cell? ⟨w.heap.size + 1 + 1, 1, none⟩ = some (.int .i64 (erT bs j)) := hBA.cell (j := 1) rfl
              have b2 : wA.cell? ⟨w.heap.size + 1 + 1, 2, none⟩ = some (.int .i64 (j : Int)) := hBA.cell (j := 2) rfl
              have hBAh := hide hBA
              rw [HC0.out, HE0.out] at HAh
              have HBB : Hid (∀ W', BestAt W' (w.heap.size + 1 + 1) bs t (some j) → BestAt (((W'.setCell ⟨w.heap.size + 1 + 1, 0, none⟩ (.int .i64 (c : Int))).setCell ⟨w.heap.size + 1 + 1, 1, none⟩ (.int .i64 ek)).setCell ⟨w.heap.size + 1 + 1, 2, none⟩ (.int .i64 (k : Int))) (w.heap.size + 1 + 1) bs t (some k)) := by
                intro W' h
                rw [← HC0.out, ← HE0.out]
                exact best_put h k
              have HRK := hide (fun W' => codeRank (c : Int) ek (k : Int) (countT t j : Int) (erT bs j) (j : Int) W')
              generalize hcr : cmpR (c : Int) ek (k : Int) (countT t j : Int) (erT bs j) (j : Int) = cr at *
              clear hcr hBA
              generalize (countT t j : Int) = cj at *
              generalize erT bs j = ej at *
              unfold rankV at HRK
              have HKA : Hid (∀ W', Mem wA W' → W'.cell? ⟨R, 0, none⟩ = some (.int .i64 (c : Int)) ∧ W'.cell? ⟨R, 1, none⟩ = some (.int .i64 ek) ∧ W'.cell? ⟨R, 2, none⟩ = some (.int .i64 (k : Int)) ∧ W'.cell? ⟨w.heap.size + 1 + 1, 0, none⟩ = some (.int .i64 cj) ∧ W'.cell? ⟨w.heap.size + 1 + 1, 1, none⟩ = some (.int .i64 ej) ∧ W'.cell? ⟨w.heap.size + 1 + 1, 2, none⟩ = some (.int .i64 (j : Int)) ∧ W'.cell? ⟨w.heap.size, 0, none⟩ = some (.slice (some ⟨g, f, none⟩) bs.length ca) ∧ W'.cell? ⟨g, f + k * 4, none⟩ = some (.slice op len cp)) := by
                intro W' m
                have hR' := hR.mem m
                have hB' := hBAh.out.mem m
                exact ⟨hR'.cell (j := 0) rfl, hR'.cell (j := 1) rfl, hR'.cell (j := 2) rfl, keeps m b0, keeps m b1, keeps m b2, (hCA.mem m).cell (j := 0) rfl, keeps m x0⟩
              have HR0 := hide hR
              have hWA := hide (Mem.drew (Mem.refl wA))
              clear hR hCA r0 r1 r2 b0 b1 b2 c0 x0
              go_region_held3 (fun W' => W'.cell? ⟨R, 0, none⟩ = some (.int .i64 (c : Int)) ∧ W'.cell? ⟨R, 1, none⟩ = some (.int .i64 ek) ∧ W'.cell? ⟨R, 2, none⟩ = some (.int .i64 (k : Int)) ∧ W'.cell? ⟨w.heap.size + 1 + 1, 0, none⟩ = some (.int .i64 cj) ∧ W'.cell? ⟨w.heap.size + 1 + 1, 1, none⟩ = some (.int .i64 ej) ∧ W'.cell? ⟨w.heap.size + 1 + 1, 2, none⟩ = some (.int .i64 (j : Int)) ∧ W'.cell? ⟨w.heap.size, 0, none⟩ = some (.slice (some ⟨g, f, none⟩) bs.length ca) ∧ W'.cell? ⟨g, f + k * 4, none⟩ = some (.slice op len cp))
                (first
                  | with_reducible exact HKA.out _ hWA.out
                  | with_reducible exact HKA.out _ (Mem.trans hWA.out m5.out))
                (first
                  | (go_at_call 32; refine (HRK.out _).mono ?_; rintro e w5 ⟨rfl, m5⟩; replace m5 := hide m5))
              have m6 := Mem.trans hWA.out m5.out
              have hRR := HR0.out.mem m6
              have r0 := hRR.cell (j := 0) rfl
              have r1 := hRR.cell (j := 1) rfl
              have r2 := hRR.cell (j := 2) rfl
              have hB6 := hBAh.out.mem m6
              have z0 := hB6.frozen 0
              have z1 := hB6.frozen 1
              have z2 := hB6.frozen 2
              by_cases ha : cr < 0
              · have HV := hide (HN.out (by rw [HAh.out]; exact decide_eq_true ha))
                have hda : decide (cr < 0) = true := decide_eq_true ha
                have ha' : cr ≤ -1 := by omega
                clear HN HO HAh ha
                go_wp2_with fail
                go_roundw
                case rel => exact ⟨k + 1, by omega, by go_num, by rw [HV.out]; exact HBB.out _ (hBAh.out.mem m6), (mA.trans m6).put3 HSZ.out _ _ _⟩
                case measure => simp [intOf]; omega
              · have HV := hide (HO.out (by rw [HAh.out]; exact decide_eq_false ha))
                have hda : decide (cr < 0) = false := decide_eq_false ha
                clear HN HO HAh
                go_wp2_with fail
                go_roundw
                case rel => exact ⟨k + 1, by omega, by go_num, by rw [HV.out]; exact hBAh.out.mem m6, mA.trans m6⟩
                case measure => simp [intOf]; omega
          · have hcl : ¬ (c < len) := by have := HC0.out; rw [← HLN.out]; omega
            have hd3 : decide (c < len) = false := decide_eq_false hcl
            have HV := hide (vict_skip (bs := bs) (t := t) (o := o) (k := k) (decide_eq_false fun h => h3 h.2))
            clear h3
            have hBAh := hide hBA
            clear hBA
            go_quiet (fail)
            go_wp2_with fail
            go_roundw
            case rel => exact ⟨k + 1, by omega, by go_num, by rw [HV.out]; exact hBAh.out.mem ((Mem.refl wA).drewN _), mA.drewN _⟩
            case measure => simp [intOf]; omega)
      · have HV := hide (vict_skip (bs := bs) (t := t) (o := o) (k := k) (decide_eq_false fun h => h2 h.1))
        have hne : (stateT bs o k != 2) = true := by simpa using h2
        have hBAh := hide hBA
        clear h2 hBA
        generalize stateT bs o k = st at *
        go_wp2_with (go_at_call 30; refine (HS.out _ (hb'.out.mem hmr)).mono ?_; rintro e w2 ⟨rfl, m2⟩)
        go_roundw
        case rel => exact ⟨k + 1, by omega, by go_num, by rw [HV.out]; exact hBAh.out.mem m2, hmr.trans m2⟩
        case measure => simp [intOf]; omega
    · have hke : k = m := by omega
      subst hke
      have hlt' : ¬ ((k : Int) < (k : Int)) := by omega
      have b2 : wr.cell? ⟨w.heap.size + 1 + 1, 2, none⟩ = some (.int .i64 (optI (victN bs t o k))) := hBA.cell (j := 2) rfl
      clear hBA
      go_wp2_with fail
      go_ret
      exact ⟨ret_int HE.out.symm, hm0.trans hmr⟩
end Go.Proofs.Ytegamnaahipedaa.Victim
