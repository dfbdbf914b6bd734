/-
  Layer 8: the walk of LiveParts.
-/
import Derived.Test.YtamngecgkkgnpaaLiveTabs
import Derived.BigQuiet
namespace Go.Proofs.Ytamngecgkkgnpaa.Live
open Go.RowKit Go.Proofs.Ytamngecgkkgnpaa.Replay Go.Proofs.Ytamngecgkkgnpaa.Scan

def incL (cs : List Int) (x : Int) : List Int := cs.set x.toNat (cs.getD x.toNat 0 + 1)
def incAll (cs l : List Int) : List Int := l.foldl incL cs
theorem incL_len (cs : List Int) (x : Int) : (incL cs x).length = cs.length := by simp [incL]
theorem incAll_len (cs l : List Int) : (incAll cs l).length = cs.length := by
  unfold incAll
  induction l generalizing cs with
  | nil => rfl
  | cons x l ih => rw [List.foldl_cons, ih, incL_len]
theorem incAll_take (cs l : List Int) {i : Nat} (h : i < l.length) : incAll cs (l.take (i + 1)) = incL (incAll cs (l.take i)) (l.getD i 0) := by
  have e : l[i] = l.getD i 0 := by simp [h]
  unfold incAll
  rw [List.take_succ_eq_append_getElem h, List.foldl_append, e]
  rfl
theorem incAll_get {l : List Int} (hl : l.Pairwise (· < ·)) (h0 : ∀ x ∈ l, 0 ≤ x) {cs : List Int} {s : Nat} (hs : s < cs.length) : (incAll cs l).getD s 0 = cs.getD s 0 + (if (s : Int) ∈ l then 1 else 0) := by
  induction l generalizing cs with
  | nil => simp [incAll]
  | cons x l ih =>
    rw [List.pairwise_cons] at hl
    have hx := h0 x (List.mem_cons_self ..)
    show (incAll (incL cs x) l).getD s 0 = _
    rw [ih hl.2 (fun y hy => h0 y (List.mem_cons_of_mem _ hy)) (by rw [incL_len]; exact hs)]
    by_cases e : (s : Int) = x
    · have hn : ¬ (s : Int) ∈ l := fun h => by have := hl.1 _ h; omega
      have ex : x.toNat = s := by omega
      rw [if_neg hn, if_pos (by rw [e]; exact List.mem_cons_self ..)]
      unfold incL
      rw [ex, List.getD_eq_getElem?_getD, List.getElem?_set_self hs]
      simp
    · have ex : x.toNat ≠ s := by omega
      have hm : ((s : Int) ∈ x :: l) ↔ (s : Int) ∈ l := by rw [List.mem_cons]; exact ⟨fun h => h.resolve_left e, .inr⟩
      unfold incL
      rw [List.getD_eq_getElem?_getD, List.getElem?_set_ne ex, ← List.getD_eq_getElem?_getD]
      by_cases hm2 : (s : Int) ∈ l
      · rw [if_pos hm2, if_pos (hm.2 hm2)]
      · rw [if_neg hm2, if_neg (fun h => hm2 (hm.1 h))]
def cntL (ms : List Int) (p : Int) : List Int := ms.map fun z => if 0 ≤ z ∧ z < p then 1 else 0
theorem cntL_len (ms : List Int) (p : Int) : (cntL ms p).length = ms.length := by simp [cntL]
theorem cntL_get {ms : List Int} {p : Int} {s : Nat} (h : s < ms.length) : (cntL ms p).getD s 0 = if 0 ≤ ms.getD s 0 ∧ ms.getD s 0 < p then 1 else 0 := by
  unfold cntL
  rw [List.getD_eq_getElem?_getD, List.getElem?_map, List.getElem?_eq_getElem h, List.getD_eq_getElem?_getD, List.getElem?_eq_getElem h]
  rfl
theorem cntL_start (ms : List Int) : cntL ms (-1) = List.replicate ms.length 0 := by
  refine List.ext_getElem (by simp [cntL]) fun i h1 h2 => ?_
  simp [cntL]
  omega
theorem getD_ext8 {a b : List Int} (hl : a.length = b.length) (h : ∀ s, s < a.length → a.getD s 0 = b.getD s 0) : a = b := by
  refine List.ext_getElem hl fun i h1 h2 => ?_
  have := h i h1
  simpa [h1, h2] using this
theorem which_rise (l : List Int) (p : Int) : (which l p).Pairwise (· < ·) := whichN_rise l p l.length
theorem which_nonneg {l : List Int} {p : Int} : ∀ x ∈ which l p, 0 ≤ x := by
  intro x hx
  obtain ⟨i, _, rfl, _⟩ := which_mem.1 hx
  omega
theorem cntL_step (ms : List Int) (p : Int) : incAll (cntL ms p) (which ms p) = cntL ms (p + 1) := by
  refine getD_ext8 (by rw [incAll_len, cntL_len, cntL_len]) fun s hs => ?_
  rw [incAll_len, cntL_len] at hs
  rw [incAll_get (which_rise ms p) which_nonneg (by rw [cntL_len]; exact hs), cntL_get hs, cntL_get hs]
  have hm : ((s : Int) ∈ which ms p) ↔ (0 ≤ p ∧ ms.getD s 0 = p) := by
    rw [which_mem]
    constructor
    · rintro ⟨i, _, e, h1, h2⟩
      have : i = s := by omega
      subst this
      exact ⟨h1, h2⟩
    · rintro ⟨h1, h2⟩
      exact ⟨s, hs, rfl, h1, h2⟩
  generalize ms.getD s 0 = z at *
  by_cases h : (s : Int) ∈ which ms p
  · rw [if_pos h]
    obtain ⟨h1, rfl⟩ := hm.1 h
    rw [if_neg (by omega), if_pos (by omega)]
    omega
  · rw [if_neg h]
    have hn : ¬ (0 ≤ p ∧ z = p) := fun h1 => h (hm.2 h1)
    by_cases h1 : 0 ≤ z ∧ z < p
    · rw [if_pos h1, if_pos (by omega)]
      omega
    · rw [if_neg h1, if_neg (by omega)]
      omega
/-- how often, behind i of them -/
theorem inc_small (ms : List Int) (p : Int) (i s : Nat) (hs : s < ms.length) : 0 ≤ (incAll (cntL ms p) ((which ms p).take i)).getD s 0 ∧ (incAll (cntL ms p) ((which ms p).take i)).getD s 0 ≤ 2 := by
  rw [incAll_get ((which_rise ms p).sublist (List.take_sublist _ _)) (fun x hx => which_nonneg x (List.mem_of_mem_take hx)) (by rw [cntL_len]; exact hs), cntL_get hs]
  have e1 : (0 : Int) ≤ (if 0 ≤ ms.getD s 0 ∧ ms.getD s 0 < p then 1 else 0) ∧ (if 0 ≤ ms.getD s 0 ∧ ms.getD s 0 < p then (1 : Int) else 0) ≤ 1 := by split <;> decide
  have e2 : (0 : Int) ≤ (if (s : Int) ∈ (which ms p).take i then 1 else 0) ∧ (if (s : Int) ∈ (which ms p).take i then (1 : Int) else 0) ≤ 1 := by split <;> decide
  omega
theorem which_at {ms : List Int} {p : Int} {i : Nat} (h : i < (which ms p).length) : ∃ s : Nat, (which ms p).getD i 0 = (s : Int) ∧ s < ms.length ∧ ms.getD s 0 = p := by
  obtain ⟨s, h1, h2, _, h3⟩ := which_mem.1 (mem_getD.2 ⟨i, h, rfl⟩)
  exact ⟨s, h2, h1, h3⟩
theorem which_next {ms : List Int} {p : Int} {i : Nat} (h : i < (which ms p).length) (h0 : 0 < i) : (which ms p).getD (i - 1) 0 < (which ms p).getD i 0 := by
  have := List.pairwise_iff_getElem.1 (which_rise ms p) (i - 1) i (by omega) h (by omega)
  have e1 : (which ms p).getD i 0 = (which ms p)[i] := by simp [h]
  have e2 : (which ms p).getD (i - 1) 0 = (which ms p)[i - 1] := by simp [show i - 1 < (which ms p).length by omega]
  rw [e1, e2]
  exact this
theorem cntL_end {ms : List Int} (h : ∀ z ∈ ms, -1 ≤ z ∧ z ≤ 18) {s : Nat} (hs : s < ms.length) : (cntL ms 20).getD s 0 = if ms.getD s 0 < 0 then 0 else 1 := by
  have hz := h _ (mem_getD.2 ⟨s, hs, rfl⟩)
  rw [cntL_get hs]
  split <;> split <;> omega

set_option maxHeartbeats 8000000 in
set_option maxRecDepth 100000 in
theorem liveParts_walk (a0 : Option Addr) (len0 cap0 : Nat) (z0 : List Int) (w : World) (w0 : IsRow .u8 w a0 len0 cap0 z0) :
    Calls Try.prog 7 #[.slice a0 len0 cap0] w fun e w' => e = .returned (.bool true) ∧ Mem w w' := by
  obtain ⟨hy, hwy⟩ := Ints.of_row w0
  obtain ⟨hly, _⟩ := row_len w0
  have HY : Hid (∀ x ∈ z0.take len0, 0 ≤ x ∧ x ≤ 255) := fun x h => wf_u8 (hwy x h)
  clear hwy w0
  generalize z0.take len0 = y at *
  subst hly
  have hyl := hy.1
  unfold maxLen at hyl
  go_enter Try.func7, Try.ntmps7
  go_wp2_with fail
  refine (awake _).mono ?_
  rintro e w1 ⟨rfl, m1⟩
  have hm0 := TM.start w1
  replace hy := hy.mem m1
  go_wp2_with fail
  generalize w1.heap.size = B at *
  go_loopw [5] (fun i wr => ∃ (j : Nat) (vv : Value) (ks : List Int), i = .int .i64 j ∧ j ≤ y.length ∧ j ≤ 64 ∧ ks.length = j ∧ (∀ x ∈ ks, -1 ≤ x ∧ x ≤ 18) ∧ TM w1 B wr vv (.slice none 0 0) ks []) (fun i _ => y.length - (intOf i).toNat)
  case atStart => exact ⟨0, _, [], rfl, Nat.zero_le _, by omega, rfl, by simp, hm0⟩
  case round =>
    clear hm0
    obtain ⟨j, vv, ks, rfl, hj, hj64, hjl, hkw, M⟩ := hrel
    have HKW := hide hkw
    clear hkw
    obtain ⟨om, cm, rfl⟩ := owns_shape M.2.1.1
    have r2 := M.1.cell (j := 0) rfl
    by_cases hgo : j < y.length ∧ j < 64
    · obtain ⟨hlt, hlt64⟩ := hgo
      have hlt' : (j : Int) < (y.length : Int) := by omega
      have hlt64' : (j : Int) < 64 := by omega
      have hj0 : (0 : Int) ≤ (j : Int) := by omega
      obtain ⟨yb, yo, rfl, hc⟩ := (hy.mem M.2.2.1).at (by omega)
      have cj := hc j hlt
      have hx := HY.out _ (mem_getD.2 ⟨j, hlt, rfl⟩)
      generalize y.getD j 0 = x at *
      obtain ⟨hx0, hx1⟩ := hx
      have HV : Hid (-1 ≤ IntKind.i64.wrap ((IntKind.i64.wrap x).tmod 20 - 1) ∧ IntKind.i64.wrap ((IntKind.i64.wrap x).tmod 20 - 1) ≤ 18) := by show _ ∧ _; rw [rem_val hx0 hx1 (by decide) (by decide)]; omega
      have hsz := M.size
      have hown := M.2.1.1
      have a1' := (M.1.alloc (.cells #[.int .i64 (IntKind.i64.wrap ((IntKind.i64.wrap x).tmod 20 - 1))] 3)).cell (j := 0) rfl
      have HM := hide M
      have HJ := hide hjl
      clear M hc hjl
      go_wp2_with fail
      go_region_law ((refine step_pushA_drew (by rfl) _ _ (by rfl) (B + 1) _ ks ks.length (by rfl) hown hsz (IntKind.i64.wrap ((IntKind.i64.wrap x).tmod 20 - 1)) (by rfl) (by have := HJ.out; omega) ?_; intro v' w' h1 h2 h3; obtain ⟨ov', cv', rfl⟩ := owns_shape h1; have d2 := (HM.out.1.below (grown_below hown h2 hsz) (by omega)).cell (j := 0) rfl; have e2 := (HM.out.1.below (grown_below hown h2 hsz) (by omega)).frozen 0))
      all_goals (
        have M' := HM.out.pushM h1 h2 h3
        clear d2 e2 h1 h2 h3 r2 a1' hown hsz
        go_wp2_with fail
        go_roundw
        case rel => exact ⟨j + 1, _, ks ++ [IntKind.i64.wrap ((IntKind.i64.wrap x).tmod 20 - 1)], by go_num, by omega, by omega, by simp [HJ.out], all_snoc HKW.out HV.out, M'⟩
        case measure => simp [intOf]; omega)
    · have hk64 : ks.length ≤ 64 := by omega
      have hsz := M.size
      clear r2 hjl
      by_cases hlt : j < y.length
      · have hlt' : (j : Int) < (y.length : Int) := by omega
        have hge : (64 : Int) ≤ (j : Int) := by omega
        clear hgo hlt
        have hkn : (ks.length : Int) ≤ 64 := by omega
        have hkn0 : (0 : Int) ≤ (ks.length : Int) := by omega
        obtain ⟨w9, hw9⟩ : ∃ w9, w9 = wr := ⟨_, rfl⟩
        subst hw9
        have hmk := run_makeInts ks.length (by omega) w9
        have hR := made_row w9 ks.length
        rw [← cntL_start] at hR
        have ma : Below w9.heap.size w9 (w9.alloc (.cells (madeCells #[.int .i64 0] (ks.length * 1)) 3)) := (Mem.refl w9).alloc _
        have r0 := M.1.cell (j := 0) rfl
        have r1 := M.1.cell (j := 1) rfl
        generalize hW : w9.alloc (.cells (madeCells #[.int .i64 0] (ks.length * 1)) 3) = W at *
        have hWs : w9.heap.size < W.heap.size := by rw [← hW]; simp
        go_wp2_with fail
        clear hW hmk
        have HT : Hid (∀ w', Below w9.heap.size w9 w' → w'.cell? ⟨B, 0, none⟩ = some (.slice om ks.length cm) ∧ w'.cell? ⟨B, 1, none⟩ = some (.slice none 0 0) ∧ Ints .i64 w' (.slice om ks.length cm) ks) := fun w' h => ⟨(M.1.mem h).cell (j := 0) rfl, (M.1.mem h).cell (j := 1) rfl, M.2.1.ints.1.mem h⟩
        have hmr := m1.trans M.2.2.1
        have hBG := Mem8.size hmr
        have hl1 : ks.length ≤ 1000 := by omega
        clear M r0 r1
        generalize w9.heap.size = G at *
        go_loopw [7] (fun c wq => ∃ k : Nat, k ≤ 21 ∧ c = .int .i64 ((k : Int) - 1) ∧ RowAt wq G (some ⟨G, 0, none⟩) (cntL ks ((k : Int) - 1)) ∧ Below G w9 wq ∧ G < wq.heap.size) (fun c _ => 21 - (intOf c + 1).toNat)
        case atStart => exact ⟨0, Nat.zero_le _, rfl, hR, ma, hWs⟩
        case round =>
          obtain ⟨k, hk, rfl, hRq, hbq, hsq⟩ := hrel
          obtain ⟨wq, hwq⟩ : ∃ wq, wq = wr := ⟨_, rfl⟩
          subst hwq
          by_cases hlk : k < 21
          · have hlk' : (k : Int) - 1 < 20 := by omega
            obtain ⟨x0, x1, j1⟩ := HT.out _ hbq
            obtain ⟨q, hq⟩ : ∃ q : Int, (k : Int) - 1 = q := ⟨_, rfl⟩
            have HQ : Hid (q + 1 = ((k + 1 : Nat) : Int) - 1) := by show _ = _; omega
            have hq1 : -1 ≤ q := by omega
            have hq2 : q ≤ 19 := by omega
            rw [hq] at hlk' hRq ⊢
            clear hq
            go_wp2_with fail
            refine (codeOwners (ks, []) om none cm 0 q _ j1 hl1).mono ?_
            rintro e w5 ⟨⟨v5, rfl, ho⟩, m5⟩
            obtain ⟨oo, co, rfl⟩ := ho.ints.shape
            have hR5 := hRq.mem m5
            have hb5 : Below G w9 w5 := Below.trans hbq (Below.mono m5 (by omega))
            have hs5 : G < w5.heap.size := Nat.lt_of_lt_of_le hsq (Mem8.size m5)
            replace ho := ho.mono (S' := fun x => G < x) fun g hg _ => by omega
            have HO := hide (fun (i : Nat) (h : i < (which ks q).length) => which_at h)
            have HN := hide (fun (i : Nat) (h : i < (which ks q).length) => which_next h)
            have HT2 := hide (fun (i : Nat) h => incAll_take (cntL ks q) (which ks q) (i := i) h)
            have HS2 := hide (inc_small ks q)
            have HL2 : Hid (∀ i, (incAll (cntL ks q) ((which ks q).take i)).length = ks.length) := fun i => by rw [incAll_len, cntL_len]
            have HE2 := hide (cntL_step ks q)
            have hol := which_len ks q
            have hole : (which (ks, ([] : List Int)).1 q) = which ks q := rfl
            rw [hole] at ho ⊢
            clear x0 x1 j1 hRq m5 hole
            generalize which ks q = o at *
            go_wp2_with fail
            go_loopw [9] (fun c wp => ∃ i : Nat, i ≤ o.length ∧ c = .int .i64 i ∧ RowAt wp G (some ⟨G, 0, none⟩) (incAll (cntL ks q) (o.take i)) ∧ Below G w9 wp ∧ G < wp.heap.size ∧ IntsIn (fun x => G < x) wp (.slice oo o.length co) o) (fun c _ => o.length - (intOf c).toNat)
            case atStart => exact ⟨0, Nat.zero_le _, rfl, by simpa [incAll] using hR5, hb5, hs5, ho⟩
            case round =>
              clear hR5 hb5 hs5 ho
              obtain ⟨i, hi, rfl, hRp, hbp, hsp, ho⟩ := hrel
              by_cases hli : i < o.length
              · have hli' : (i : Int) < (o.length : Int) := by omega
                have hi0 : (0 : Int) ≤ (i : Int) := by omega
                obtain ⟨s, hos, hsl, hsv⟩ := HO.out i hli
                have hsm := HS2.out i s hsl
                have HT3 := hide (HT2.out i hli)
                obtain ⟨x0, x1, j1⟩ := HT.out _ hbp
                obtain ⟨mb, mo, rfl, hcm⟩ := j1.at (by omega)
                have d1 := hcm s hsl
                obtain ⟨ob, oo', rfl, hco⟩ := ho.ints.at (by omega)
                have d0 := hco i hli
                have d2 := hco (i - 1)
                have hnx := HN.out i hli
                have hrl := HL2.out i
                have c0 := hRp.cell (k := s) (by rw [hrl]; exact hsl)
                have f0 := hRp.frozen (by rw [hrl]; omega) s
                rw [hsv] at d1
                rw [hos] at d0
                have hs0 : (0 : Int) ≤ (s : Int) := by omega
                have hsl' : (s : Int) < (ks.length : Int) := by omega
                have hR6 := hRp.set s ((incAll (cntL ks q) (o.take i)).getD s 0 + 1)
                have e6 : (incAll (cntL ks q) (o.take i)).set s ((incAll (cntL ks q) (o.take i)).getD s 0 + 1) = incAll (cntL ks q) (o.take (i + 1)) := by
                  rw [HT3.out, hos]
                  unfold incL
                  rw [Int.toNat_natCast]
                rw [e6] at hR6
                have hs6 : G < (wr.setCell ⟨G, s, none⟩ (.int .i64 ((incAll (cntL ks q) (o.take i)).getD s 0 + 1))).heap.size := by rw [size_setCell]; exact hsp
                have ho6 := ho.setCell (p := ⟨G, s, none⟩) (by show ¬ G < G; omega) (.int .i64 ((incAll (cntL ks q) (o.take i)).getD s 0 + 1))
                clear e6 hrl hcm hco j1 hRp ho hsv
                rw [hos] at hnx
                generalize (incAll (cntL ks q) (o.take i)).getD s 0 = cx at *
                obtain ⟨hsm0, hsm1⟩ := hsm
                have hd1 : decide ((s : Int) < 0) = false := decide_eq_false (by omega)
                have hd2 : decide (ks.length ≤ s) = false := decide_eq_false (by omega)
                by_cases hi1 : 0 < i
                · have hi1' : (0 : Int) < (i : Int) := by omega
                  have d3 := d2 (by omega)
                  have hnx1 := hnx hi1
                  obtain ⟨i1, hi1e⟩ : ∃ i1, i = i1 + 1 := ⟨i - 1, by omega⟩
                  rw [show i - 1 = i1 by omega] at d3 hnx1
                  generalize o.getD i1 0 = xp at *
                  have wj : IntKind.i64.wrap (i1 : Int) = (i1 : Int) := Tag.i64_id _ (by omega) (by omega)
                  have wk : (i : Int) - 1 = (i1 : Int) := by omega
                  have hi2 : (i1 : Int) < (o.length : Int) := by omega
                  have hi3 : (0 : Int) ≤ (i1 : Int) := by omega
                  clear hi1e
                  have hd3 : decide ((s : Int) ≤ xp) = false := decide_eq_false (by omega)
                  clear d2 hnx hnx1
                  go_wp2_with fail
                  go_quiet (fail)
                  go_wp2_with fail
                  go_roundw
                  case rel => exact ⟨i + 1, by omega, by go_num, hR6, Below.setCell (below_drewN hbp nq) (p := ⟨G, s, none⟩) (Nat.le_refl _) _, hs6, ho6⟩
                  case measure => simp [intOf]; omega
                · have hd4 : decide ((0 : Int) < (i : Int)) = false := decide_eq_false (by omega)
                  clear d2 hnx
                  go_wp2_with fail
                  go_quiet (fail)
                  go_wp2_with fail
                  go_roundw
                  case rel => exact ⟨i + 1, by omega, by go_num, hR6, Below.setCell (below_drewN hbp nq) (p := ⟨G, s, none⟩) (Nat.le_refl _) _, hs6, ho6⟩
                  case measure => simp [intOf]; omega
              · have hie : o.length ≤ i := by omega
                have hie' : (o.length : Int) ≤ (i : Int) := by omega
                rw [List.take_of_length_le hie, HE2.out, HQ.out] at hRp
                clear hie
                go_wp2_with fail
                go_roundw
                case rel => exact ⟨k + 1, by omega, int_eq HQ.out, hRp, hbp, hsp⟩
                case measure => simp [intOf]; omega
          · obtain ⟨q0, hq0⟩ : ∃ q0 : Int, (k : Int) - 1 = q0 := ⟨_, rfl⟩
            have hq1 : 20 ≤ q0 := by omega
            have hq2 : (k : Int) - 1 = 20 := by omega
            rw [hq2] at hRq
            rw [hq0]
            clear hlk hq0 hk hq2
            go_wp2_with fail
            go_loopw [10] (fun c wp => ∃ s : Nat, s ≤ ks.length ∧ c = .int .i64 s ∧ Mem wq wp) (fun c _ => ks.length - (intOf c).toNat)
            case atStart => exact ⟨0, Nat.zero_le _, rfl, Mem.refl _⟩
            case round =>
              obtain ⟨s, hs, rfl, hmp⟩ := hrel
              by_cases hls : s < ks.length
              · have hls' : (s : Int) < (ks.length : Int) := by omega
                have hs0 : (0 : Int) ≤ (s : Int) := by omega
                obtain ⟨x0, x1, j1⟩ := HT.out _ (Below.trans hbq (Below.mono hmp (by omega)))
                obtain ⟨mb, mo, rfl, hcm⟩ := j1.at (by omega)
                have d1 := hcm s hls
                have c0 := (hRq.mem hmp).cell (k := s) (by rw [cntL_len]; exact hls)
                rw [cntL_end HKW.out hls] at c0
                clear hcm j1
                generalize ks.getD s 0 = x at *
                by_cases hx : x < 0
                · rw [if_pos hx] at c0
                  go_wp2_with fail
                  go_roundw
                  case rel => exact ⟨s + 1, by omega, by go_num, hmp⟩
                  case measure => simp [intOf]; omega
                · rw [if_neg hx] at c0
                  have hx' : 0 ≤ x := by omega
                  go_wp2_with fail
                  go_roundw
                  case rel => exact ⟨s + 1, by omega, by go_num, hmp⟩
                  case measure => simp [intOf]; omega
              · have hls' : (ks.length : Int) ≤ (s : Int) := by omega
                have hfin : Mem w wr := Below.trans hmr (Below.mono (Below.trans hbq (Below.mono hmp (by omega))) hBG)
                clear hls
                go_wp2_with fail
                go_ret
                exact ⟨rfl, hfin⟩
      · have hge : (y.length : Int) ≤ (j : Int) := by omega
        clear hgo hlt
        have hkn : (ks.length : Int) ≤ 64 := by omega
        have hkn0 : (0 : Int) ≤ (ks.length : Int) := by omega
        obtain ⟨w9, hw9⟩ : ∃ w9, w9 = wr := ⟨_, rfl⟩
        subst hw9
        have hmk := run_makeInts ks.length (by omega) w9
        have hR := made_row w9 ks.length
        rw [← cntL_start] at hR
        have ma : Below w9.heap.size w9 (w9.alloc (.cells (madeCells #[.int .i64 0] (ks.length * 1)) 3)) := (Mem.refl w9).alloc _
        have r0 := M.1.cell (j := 0) rfl
        have r1 := M.1.cell (j := 1) rfl
        generalize hW : w9.alloc (.cells (madeCells #[.int .i64 0] (ks.length * 1)) 3) = W at *
        have hWs : w9.heap.size < W.heap.size := by rw [← hW]; simp
        go_wp2_with fail
        clear hW hmk
        have HT : Hid (∀ w', Below w9.heap.size w9 w' → w'.cell? ⟨B, 0, none⟩ = some (.slice om ks.length cm) ∧ w'.cell? ⟨B, 1, none⟩ = some (.slice none 0 0) ∧ Ints .i64 w' (.slice om ks.length cm) ks) := fun w' h => ⟨(M.1.mem h).cell (j := 0) rfl, (M.1.mem h).cell (j := 1) rfl, M.2.1.ints.1.mem h⟩
        have hmr := m1.trans M.2.2.1
        have hBG := Mem8.size hmr
        have hl1 : ks.length ≤ 1000 := by omega
        clear M r0 r1
        generalize w9.heap.size = G at *
        go_loopw [7] (fun c wq => ∃ k : Nat, k ≤ 21 ∧ c = .int .i64 ((k : Int) - 1) ∧ RowAt wq G (some ⟨G, 0, none⟩) (cntL ks ((k : Int) - 1)) ∧ Below G w9 wq ∧ G < wq.heap.size) (fun c _ => 21 - (intOf c + 1).toNat)
        case atStart => exact ⟨0, Nat.zero_le _, rfl, hR, ma, hWs⟩
        case round =>
          obtain ⟨k, hk, rfl, hRq, hbq, hsq⟩ := hrel
          obtain ⟨wq, hwq⟩ : ∃ wq, wq = wr := ⟨_, rfl⟩
          subst hwq
          by_cases hlk : k < 21
          · have hlk' : (k : Int) - 1 < 20 := by omega
            obtain ⟨x0, x1, j1⟩ := HT.out _ hbq
            obtain ⟨q, hq⟩ : ∃ q : Int, (k : Int) - 1 = q := ⟨_, rfl⟩
            have HQ : Hid (q + 1 = ((k + 1 : Nat) : Int) - 1) := by show _ = _; omega
            have hq1 : -1 ≤ q := by omega
            have hq2 : q ≤ 19 := by omega
            rw [hq] at hlk' hRq ⊢
            clear hq
            go_wp2_with fail
            refine (codeOwners (ks, []) om none cm 0 q _ j1 hl1).mono ?_
            rintro e w5 ⟨⟨v5, rfl, ho⟩, m5⟩
            obtain ⟨oo, co, rfl⟩ := ho.ints.shape
            have hR5 := hRq.mem m5
            have hb5 : Below G w9 w5 := Below.trans hbq (Below.mono m5 (by omega))
            have hs5 : G < w5.heap.size := Nat.lt_of_lt_of_le hsq (Mem8.size m5)
            replace ho := ho.mono (S' := fun x => G < x) fun g hg _ => by omega
            have HO := hide (fun (i : Nat) (h : i < (which ks q).length) => which_at h)
            have HN := hide (fun (i : Nat) (h : i < (which ks q).length) => which_next h)
            have HT2 := hide (fun (i : Nat) h => incAll_take (cntL ks q) (which ks q) (i := i) h)
            have HS2 := hide (inc_small ks q)
            have HL2 : Hid (∀ i, (incAll (cntL ks q) ((which ks q).take i)).length = ks.length) := fun i => by rw [incAll_len, cntL_len]
            have HE2 := hide (cntL_step ks q)
            have hol := which_len ks q
            have hole : (which (ks, ([] : List Int)).1 q) = which ks q := rfl
            rw [hole] at ho ⊢
            clear x0 x1 j1 hRq m5 hole
            generalize which ks q = o at *
            go_wp2_with fail
            go_loopw [9] (fun c wp => ∃ i : Nat, i ≤ o.length ∧ c = .int .i64 i ∧ RowAt wp G (some ⟨G, 0, none⟩) (incAll (cntL ks q) (o.take i)) ∧ Below G w9 wp ∧ G < wp.heap.size ∧ IntsIn (fun x => G < x) wp (.slice oo o.length co) o) (fun c _ => o.length - (intOf c).toNat)
            case atStart => exact ⟨0, Nat.zero_le _, rfl, by simpa [incAll] using hR5, hb5, hs5, ho⟩
            case round =>
              clear hR5 hb5 hs5 ho
              obtain ⟨i, hi, rfl, hRp, hbp, hsp, ho⟩ := hrel
              by_cases hli : i < o.length
              · have hli' : (i : Int) < (o.length : Int) := by omega
                have hi0 : (0 : Int) ≤ (i : Int) := by omega
                obtain ⟨s, hos, hsl, hsv⟩ := HO.out i hli
                have hsm := HS2.out i s hsl
                have HT3 := hide (HT2.out i hli)
                obtain ⟨x0, x1, j1⟩ := HT.out _ hbp
                obtain ⟨mb, mo, rfl, hcm⟩ := j1.at (by omega)
                have d1 := hcm s hsl
                obtain ⟨ob, oo', rfl, hco⟩ := ho.ints.at (by omega)
                have d0 := hco i hli
                have d2 := hco (i - 1)
                have hnx := HN.out i hli
                have hrl := HL2.out i
                have c0 := hRp.cell (k := s) (by rw [hrl]; exact hsl)
                have f0 := hRp.frozen (by rw [hrl]; omega) s
                rw [hsv] at d1
                rw [hos] at d0
                have hs0 : (0 : Int) ≤ (s : Int) := by omega
                have hsl' : (s : Int) < (ks.length : Int) := by omega
                have hR6 := hRp.set s ((incAll (cntL ks q) (o.take i)).getD s 0 + 1)
                have e6 : (incAll (cntL ks q) (o.take i)).set s ((incAll (cntL ks q) (o.take i)).getD s 0 + 1) = incAll (cntL ks q) (o.take (i + 1)) := by
                  rw [HT3.out, hos]
                  unfold incL
                  rw [Int.toNat_natCast]
                rw [e6] at hR6
                have hs6 : G < (wr.setCell ⟨G, s, none⟩ (.int .i64 ((incAll (cntL ks q) (o.take i)).getD s 0 + 1))).heap.size := by rw [size_setCell]; exact hsp
                have ho6 := ho.setCell (p := ⟨G, s, none⟩) (by show ¬ G < G; omega) (.int .i64 ((incAll (cntL ks q) (o.take i)).getD s 0 + 1))
                clear e6 hrl hcm hco j1 hRp ho hsv
                rw [hos] at hnx
                generalize (incAll (cntL ks q) (o.take i)).getD s 0 = cx at *
                obtain ⟨hsm0, hsm1⟩ := hsm
                have hd1 : decide ((s : Int) < 0) = false := decide_eq_false (by omega)
                have hd2 : decide (ks.length ≤ s) = false := decide_eq_false (by omega)
                by_cases hi1 : 0 < i
                · have hi1' : (0 : Int) < (i : Int) := by omega
                  have d3 := d2 (by omega)
                  have hnx1 := hnx hi1
                  obtain ⟨i1, hi1e⟩ : ∃ i1, i = i1 + 1 := ⟨i - 1, by omega⟩
                  rw [show i - 1 = i1 by omega] at d3 hnx1
                  generalize o.getD i1 0 = xp at *
                  have wj : IntKind.i64.wrap (i1 : Int) = (i1 : Int) := Tag.i64_id _ (by omega) (by omega)
                  have wk : (i : Int) - 1 = (i1 : Int) := by omega
                  have hi2 : (i1 : Int) < (o.length : Int) := by omega
                  have hi3 : (0 : Int) ≤ (i1 : Int) := by omega
                  clear hi1e
                  have hd3 : decide ((s : Int) ≤ xp) = false := decide_eq_false (by omega)
                  clear d2 hnx hnx1
                  go_wp2_with fail
                  go_quiet (fail)
                  go_wp2_with fail
                  go_roundw
                  case rel => exact ⟨i + 1, by omega, by go_num, hR6, Below.setCell (below_drewN hbp nq) (p := ⟨G, s, none⟩) (Nat.le_refl _) _, hs6, ho6⟩
                  case measure => simp [intOf]; omega
                · have hd4 : decide ((0 : Int) < (i : Int)) = false := decide_eq_false (by omega)
                  clear d2 hnx
                  go_wp2_with fail
                  go_quiet (fail)
                  go_wp2_with fail
                  go_roundw
                  case rel => exact ⟨i + 1, by omega, by go_num, hR6, Below.setCell (below_drewN hbp nq) (p := ⟨G, s, none⟩) (Nat.le_refl _) _, hs6, ho6⟩
                  case measure => simp [intOf]; omega
              · have hie : o.length ≤ i := by omega
                have hie' : (o.length : Int) ≤ (i : Int) := by omega
                rw [List.take_of_length_le hie, HE2.out, HQ.out] at hRp
                clear hie
                go_wp2_with fail
                go_roundw
                case rel => exact ⟨k + 1, by omega, int_eq HQ.out, hRp, hbp, hsp⟩
                case measure => simp [intOf]; omega
          · obtain ⟨q0, hq0⟩ : ∃ q0 : Int, (k : Int) - 1 = q0 := ⟨_, rfl⟩
            have hq1 : 20 ≤ q0 := by omega
            have hq2 : (k : Int) - 1 = 20 := by omega
            rw [hq2] at hRq
            rw [hq0]
            clear hlk hq0 hk hq2
            go_wp2_with fail
            go_loopw [10] (fun c wp => ∃ s : Nat, s ≤ ks.length ∧ c = .int .i64 s ∧ Mem wq wp) (fun c _ => ks.length - (intOf c).toNat)
            case atStart => exact ⟨0, Nat.zero_le _, rfl, Mem.refl _⟩
            case round =>
              obtain ⟨s, hs, rfl, hmp⟩ := hrel
              by_cases hls : s < ks.length
              · have hls' : (s : Int) < (ks.length : Int) := by omega
                have hs0 : (0 : Int) ≤ (s : Int) := by omega
                obtain ⟨x0, x1, j1⟩ := HT.out _ (Below.trans hbq (Below.mono hmp (by omega)))
                obtain ⟨mb, mo, rfl, hcm⟩ := j1.at (by omega)
                have d1 := hcm s hls
                have c0 := (hRq.mem hmp).cell (k := s) (by rw [cntL_len]; exact hls)
                rw [cntL_end HKW.out hls] at c0
                clear hcm j1
                generalize ks.getD s 0 = x at *
                by_cases hx : x < 0
                · rw [if_pos hx] at c0
                  go_wp2_with fail
                  go_roundw
                  case rel => exact ⟨s + 1, by omega, by go_num, hmp⟩
                  case measure => simp [intOf]; omega
                · rw [if_neg hx] at c0
                  have hx' : 0 ≤ x := by omega
                  go_wp2_with fail
                  go_roundw
                  case rel => exact ⟨s + 1, by omega, by go_num, hmp⟩
                  case measure => simp [intOf]; omega
              · have hls' : (ks.length : Int) ≤ (s : Int) := by omega
                have hfin : Mem w wr := Below.trans hmr (Below.mono (Below.trans hbq (Below.mono hmp (by omega))) hBG)
                clear hls
                go_wp2_with fail
                go_ret
                exact ⟨rfl, hfin⟩
end Go.Proofs.Ytamngecgkkgnpaa.Live
