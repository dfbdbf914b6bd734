/-
  PlanRefs, PlanRefs2: in one text (merge.json).
-/
import Derived.Test.YtedopplldpcinaaGreatPlanLow
import Derived.Test.YtedopplldpcinaaGreatLiveAll
import Derived.BigQuiet
import Derived.Deep.RegionHeld3
/-
  Layer 12, the document: what a sector has; lists in parts; those that are apart.
-/
namespace Go.Proofs.YtedopplldpcinaaGreat.Plan
open Go.RowKit Go.Proofs.YtedopplldpcinaaGreat.Nand Go.Proofs.YtedopplldpcinaaGreat.Scan Go.Proofs.YtedopplldpcinaaGreat.Live Go.Proofs.YtedopplldpcinaaGreat.Replay

set_option maxHeartbeats 1000000 in
set_option maxRecDepth 100000 in
theorem refHasN (t : TableT) (om ob : Option Addr) (cm cb nb : Nat) (s : Nat) (w : World) (h1 : Ints .i64 w (.slice om t.1.length cm) t.1) :
    Calls Tryz.prog 52 #[.agg #[.slice om t.1.length cm, .slice ob nb cb], .int .i64 (s : Int)] w fun e w' => e = .returned (.int .i64 (hasT t s)) ∧ Mem w w' := by
  have ha : Mem w (w.alloc (.cells #[.slice om t.1.length cm, .slice ob nb cb] 27)) := (Mem.refl w).alloc _
  have hT := Blk.new w #[.slice om t.1.length cm, .slice ob nb cb] 27
  have t0 := hT.cell (j := 0) rfl
  have hl := h1.1
  unfold maxLen at hl
  replace h1 := h1.mem ha
  by_cases h : s < t.1.length
  · have h' : (s : Int) < (t.1.length : Int) := by omega
    have hs0 : (0 : Int) ≤ (s : Int) := by omega
    have hd : decide ((t.1.length : Int) ≤ (s : Int)) = false := decide_eq_false (by omega)
    have hdn : decide (t.1.length ≤ s) = false := decide_eq_false (by omega)
    have HE : Hid (hasT t s = t.1.getD s 0) := by show _ = _; unfold hasT; rw [if_pos h', Int.toNat_natCast]
    obtain ⟨b, o, rfl, hc⟩ := h1.at (by omega)
    have d0 := hc s h
    clear hc h1
    generalize t.1.getD s 0 = z at *
    go_enter Tryz.func52, Tryz.ntmps52
    go_wp2_with fail
    go_ret
    exact ⟨ret_int HE.out.symm, ha⟩
  · have hd : decide ((t.1.length : Int) ≤ (s : Int)) = true := decide_eq_true (by omega)
    have hdn : decide (t.1.length ≤ s) = true := decide_eq_true (by omega)
    have HE : Hid (hasT t s = -1) := by show _ = _; unfold hasT; rw [if_neg (by omega)]
    go_enter Tryz.func52, Tryz.ntmps52
    go_wp2_with fail
    go_ret
    exact ⟨ret_int HE.out.symm, ha⟩
set_option maxHeartbeats 2000000 in
set_option maxRecDepth 100000 in
theorem refParts (S : Nat → Prop) (oa : Option Addr) (ca : Nat) (zs : List Int) (w : World) (h : IntsIn S w (.slice oa zs.length ca) zs) (hc : zs.length ≤ ca) (hl : zs.length ≤ 1000) :
    Calls Tryz.prog 48 #[.slice oa zs.length ca] w fun e w' => (∃ v, e = .returned v ∧ PartsAt (fun x => S x ∨ w.heap.size ≤ x) w' v (partsL zs)) ∧ Mem w w' := by
  have h1 := h.mono (S' := fun x => S x ∧ x < w.heap.size) (fun g h1 h2 => ⟨h1, h2⟩)
  clear h
  have HL : Hid (partsL zs = partsN zs (partN zs)) := rfl
  have HP := hide (fun k => partN_lt (l := zs) (k := k))
  have HS := hide (fun k => partsN_succ zs k)
  go_enter Tryz.func48, Tryz.ntmps48
  go_wp2_with fail
  go_loopw [3, 4] (fun v i wr => ∃ (k : Nat) (ss : List SlT), k ≤ partN zs ∧ i = .int .i64 ((8 * k : Nat) : Int) ∧ wr.ownsRow w.heap.size 25 1 v k (ss.map slV) ∧ FitsP (fun x => S x ∧ x < w.heap.size) wr ss (partsN zs k) ∧ Mem w wr) (fun _ i _ => zs.length + 8 - (intOf i).toNat)
  case atStart => exact ⟨0, [], Nat.zero_le _, rfl, World.ownsRow_nil _ _ _ _, FitsP.nil _ _, Mem.refl _⟩
  case round =>
    obtain ⟨k, ss, hk, rfl, hown, hf, hmr⟩ := hrel
    by_cases hlt : 8 * k < zs.length
    · have hlt' : ((8 * k : Nat) : Int) < (zs.length : Int) := by omega
      obtain ⟨m, hm⟩ : ∃ m : Nat, m = min 8 (zs.length - 8 * k) := ⟨_, rfl⟩
      have hm1 : 0 < m ∧ m ≤ 8 ∧ 8 * k + m ≤ zs.length := by omega
      have hz := h1.mem hmr
      have hch : (zs.drop (8 * k)).take m = chunk zs k := by
        unfold chunk
        rw [hm]
        by_cases h8 : 8 ≤ zs.length - 8 * k
        · rw [Nat.min_eq_left h8]
        · rw [Nat.min_eq_right (by omega), List.take_of_length_le (by rw [List.length_drop]; omega), List.take_of_length_le (by rw [List.length_drop]; omega)]
      obtain ⟨g, off, rfl⟩ : ∃ g off, oa = some ⟨g, off, none⟩ := by
        obtain ⟨g, off, e, _⟩ := hz.ints.at (by omega)
        exact ⟨g, off, e⟩
      have hpart := hide (hch ▸ IntsIn.part hz (i := 8 * k) (m := m) (ca - 8 * k) (by omega) hm1.1)
      have hmin : (if (zs.length : Int) < ((8 * k : Nat) : Int) + 8 then (zs.length : Int) else ((8 * k : Nat) : Int) + 8) = ((8 * k + m : Nat) : Int) := by omega
      have hk1 := (HP.out k).2 hlt
      have hmx := hm1.2.2
      have hq8 : Hid (8 * (k + 1) = 8 * k + 8) := by show _ = _; omega
      clear hm hch hz
      obtain ⟨q, hq⟩ : ∃ q : Nat, 8 * k = q := ⟨_, rfl⟩
      rw [hq] at hlt hlt' hpart hmin hmx hq8 ⊢
      clear hq
      have hq0 : (0 : Int) ≤ (q : Int) := by omega
      have hqm : (q : Int) ≤ ((q + m : Nat) : Int) := by omega
      have hqc : ((q + m : Nat) : Int) ≤ (ca : Int) := by omega
      have hqmn : q + m - q = m := by omega
      have hk1000 : k ≤ 1000 := by omega
      go_wp2_with (at_builtin; refine pushPart rfl _ _ rfl w.heap.size _ ss _ rfl hown hmr.size (some ⟨g, off + q, none⟩, m, ca - q) wr.heap.size rfl rfl (by omega) ?_; intro v2 w2 o2 b2)
      have hf1 := hf.snoc (x := (some ⟨g, off + q, none⟩, m, ca - q)) hpart.out
      rw [← HS.out k] at hf1
      have hw2 := hf1.kept (S' := fun x => S x ∧ x < w.heap.size) (w' := w2) fun g hg _ => ⟨hg, fun off => Below.cell b2 (p := ⟨g, off, none⟩) hg.2⟩
      go_roundw
      case rel => exact ⟨k + 1, _, hk1, by rw [hq8.out]; go_num, o2, hw2, Below.trans hmr b2⟩
      case measure => simp [intOf]; omega
    · have hke : k = partN zs := by
        rcases Nat.lt_or_ge k (partN zs) with h | h
        · exact absurd ((HP.out k).1 h) hlt
        · omega
      subst hke
      have hlt' : ¬ (((8 * partN zs : Nat) : Int) < (zs.length : Int)) := by omega
      rw [← HL.out] at hf
      have HO := hide (PartsAt.of_owns (S' := fun x => S x ∨ w.heap.size ≤ x) hown (by rw [HL.out, partsN_len]) hf (fun g hg _ => .inl hg.1) (fun g hg => .inr (hown.lt g hg).1))
      clear hown hf
      generalize 8 * partN zs = q at *
      go_wp2_with fail
      go_ret
      exact ⟨⟨_, rfl, HO.out⟩, hmr⟩
theorem has_wf {t : TableT} (h : WfT t) (s : Nat) : -9223372036854775808 ≤ hasT t s ∧ hasT t s ≤ 9223372036854775807 := by
  unfold hasT
  split
  · rename_i hs
    rw [Int.toNat_natCast]
    have hs' : s < t.1.length := by omega
    have := h.1 (t.1.getD s 0) (by rw [List.getD_eq_getElem?_getD, List.getElem?_eq_getElem hs']; exact List.getElem_mem hs')
    unfold wfZ at this
    omega
  · omega
theorem wrap64_in {z : Int} (h0 : -9223372036854775808 ≤ z) (h1 : z ≤ 9223372036854775807) : wrap64 z = z := by
  unfold wrap64
  omega
set_option maxHeartbeats 4000000 in
set_option maxRecDepth 100000 in
theorem refApart (t : TableT) (om ob : Option Addr) (cm cb nb : Nat) (oa : Option Addr) (ca : Nat) (zs : List Int) (b : Int) (w : World) (h1 : Ints .i64 w (.slice om t.1.length cm) t.1) (hz : Ints .i64 w (.slice oa zs.length ca) zs) (hz0 : ∀ z ∈ zs, 0 ≤ z) (hl : zs.length ≤ 1000) (hwf : WfT t) :
    Calls Tryz.prog 50 #[.agg #[.slice om t.1.length cm, .slice ob nb cb], .slice oa zs.length ca, .int .i64 b] w fun e w' => (∃ v, e = .returned v ∧ IntsIn (fun x => w.heap.size ≤ x) w' v (apartL t zs b) ∧ CapOk v) ∧ Mem w w' := by
  have ha : Mem w (w.alloc (.cells #[.slice om t.1.length cm, .slice ob nb cb] 27)) := (Mem.refl w).alloc _
  have hT := Blk.new w #[.slice om t.1.length cm, .slice ob nb cb] 27
  have H1 := hide h1
  have HZ := hide hz
  have HZ0 := hide hz0
  have HWF := hide (fun s => has_wf hwf s)
  have HAll := hide (apartN_all t zs b)
  clear h1 hz hz0 hwf
  go_enter Tryz.func50, Tryz.ntmps50
  go_wp2_with fail
  generalize hW : w.alloc (.cells #[.slice om t.1.length cm, .slice ob nb cb] 27) = W at *
  clear hW
  have hWs := ha.size
  go_loopw [7, 8] (fun v i wr => ∃ k : Nat, k ≤ zs.length ∧ i = .int .i64 k ∧ wr.ownsRow W.heap.size 3 1 v (apartN t zs b k).length (icells (apartN t zs b k)) ∧ Mem W wr) (fun _ i _ => zs.length - (intOf i).toNat)
  case atStart => exact ⟨0, Nat.zero_le _, rfl, World.ownsRow_nil _ _ _ _, Mem.refl _⟩
  case round =>
    obtain ⟨k, hk, rfl, hown, hmW⟩ := hrel
    have hmr := ha.trans hmW
    by_cases hlt : k < zs.length
    · have hlt' : (k : Int) < (zs.length : Int) := by omega
      have hk0 : (0 : Int) ≤ (k : Int) := by omega
      have hTr := hT.mem hmW
      have t0 := hTr.cell (j := 0) rfl
      have t1 := hTr.cell (j := 1) rfl
      obtain ⟨zb, zo, rfl, hzc⟩ := (HZ.out.mem hmr).at (by omega)
      have z0 := hzc k hlt
      have hs0 := HZ0.out (zs.getD k 0) (by rw [List.getD_eq_getElem?_getD, List.getElem?_eq_getElem hlt]; exact List.getElem_mem hlt)
      have HY := hide (apartN_yes (t := t) (b := b) hlt)
      have HN := hide (apartN_no (t := t) (b := b) hlt)
      have hle := apartN_len t zs b k
      clear hzc
      generalize zs.getD k 0 = z at *
      obtain ⟨s, rfl⟩ := Int.eq_ofNat_of_zero_le hs0
      have HH := hide (fun (w' : World) (m : Mem wr w') => refHasN t om ob cm cb nb s w' ((H1.out.mem hmr).mem m))
      have HB : Hid (apartB t b (s : Int) = decide (hasT t s < 0 ∨ hasT t s / 16 ≠ b)) := rfl
      obtain ⟨hn1, hn2⟩ := HWF.out s
      generalize hasT t s = n at *
      have N0 := hide (Mem.drew (Mem.refl wr))
      have HK : Hid (∀ w', Mem wr w' → w'.cell? ⟨w.heap.size, 0, none⟩ = some (.slice om t.1.length cm) ∧ w'.cell? ⟨w.heap.size, 1, none⟩ = some (.slice ob nb cb) ∧ w'.cell? ⟨zb, zo + k, none⟩ = some (.int .i64 (s : Int))) := fun w' m => ⟨(hTr.mem m).cell (j := 0) rfl, (hTr.mem m).cell (j := 1) rfl, (Below.cell m (p := ⟨zb, zo + k, none⟩) (World.block_lt_of_cell? wr _ z0)).trans z0⟩
      go_wp2_with fail
      go_region_held3 (fun w' => w'.cell? ⟨w.heap.size, 0, none⟩ = some (.slice om t.1.length cm) ∧ w'.cell? ⟨w.heap.size, 1, none⟩ = some (.slice ob nb cb) ∧ w'.cell? ⟨zb, zo + k, none⟩ = some (.int .i64 (s : Int)))
        (first | with_reducible exact HK.out _ N0.out | with_reducible exact HK.out _ N1.out)
        ((go_at_call 52; with_reducible refine (HH.out _ N0.out).mono ?_; rintro e w1 ⟨rfl, n1⟩; have N1 := hide (Mem.trans N0.out n1)))
      have hm1 := hmr.trans N1.out
      have hmW1 := hmW.trans N1.out
      have hown1 := owns_below hown N1.out
      have y0 := (HK.out _ N1.out).2.2
      clear t0 t1 z0
      by_cases hn : n < 0
      · have HE := hide (HY.out (by rw [HB.out]; exact decide_eq_true (.inl hn)))
        have hd : decide (n < 0) = true := decide_eq_true hn
        go_wp2_with (at_builtin; refine pushI rfl _ _ rfl W.heap.size _ (apartN t zs b k) _ rfl hown1 hmW1.size (s : Int) rfl (by omega) ?_; intro v2 w2 o2 b2)
        go_roundw
        case rel => exact ⟨k + 1, by omega, by go_num, by rw [HE.out, List.length_append]; exact o2, Below.trans hmW1 b2⟩
        case measure => simp [intOf]; omega
      · have hn0 : 0 ≤ n := by omega
        have hd : decide (n < 0) = false := decide_eq_false hn
        have hdiv : wrap64 (n.tdiv 16) = n / 16 := by rw [Int.tdiv_eq_ediv_of_nonneg hn0]; exact wrap64_in (by omega) (by omega)
        by_cases hq : n / 16 = b
        · have HE := hide (HN.out (by rw [HB.out]; exact decide_eq_false (by omega)))
          have hqe : (n / 16 != b) = false := by simpa using hq
          clear hdiv
          rw [← HE.out] at hown1
          clear hq
          go_wp2_with fail
          go_roundw
          case rel => exact ⟨k + 1, by omega, by go_num, hown1, hmW1⟩
          case measure => simp [intOf]; omega
        · have HE := hide (HY.out (by rw [HB.out]; exact decide_eq_true (.inr hq)))
          have hqe : (n / 16 != b) = true := by simpa using hq
          clear hdiv hq
          go_wp2_with (at_builtin; refine pushI rfl _ _ rfl W.heap.size _ (apartN t zs b k) _ rfl hown1 hmW1.size (s : Int) rfl (by omega) ?_; intro v2 w2 o2 b2)
          go_roundw
          case rel => exact ⟨k + 1, by omega, by go_num, by rw [HE.out, List.length_append]; exact o2, Below.trans hmW1 b2⟩
          case measure => simp [intOf]; omega
    · have hke : k = zs.length := by omega
      subst hke
      have hlt' : ¬ ((zs.length : Int) < (zs.length : Int)) := by omega
      rw [HAll.out] at hown
      have HO := hide ((IntsIn.of_owns hown).mono (S' := fun x => w.heap.size ≤ x) fun g hg _ => Nat.le_trans hWs hg)
      have HCp := hide (CapOk.owns hown)
      clear hown
      go_wp2_with fail
      go_ret
      exact ⟨⟨_, rfl, HO.out, HCp.out⟩, hmr⟩
end Go.Proofs.YtedopplldpcinaaGreat.Plan
/-
  Layer 12, the document: Has; what is asked of whoever tells it.
-/
namespace Go.Proofs.YtedopplldpcinaaGreat.Plan
open Go.RowKit Go.Proofs.YtedopplldpcinaaGreat.Nand Go.Proofs.YtedopplldpcinaaGreat.Scan Go.Proofs.YtedopplldpcinaaGreat.Live Go.Proofs.YtedopplldpcinaaGreat.Replay

/-- no page's data is longer than a text may be -/
def DataS (bs : List BlockT) : Prop := ∀ b ∈ bs, ∀ p ∈ b.1, p.2.1.size ≤ maxLen
/-- what is asked of Has, Twin, Moves -/
def HasSpec (F : Nat) : Prop := ∀ (S : Nat → Prop) (vb : Value) (bs : List BlockT) (br off : Bool) (ops : Int) (t : TableT) (om ob : Option Addr) (cm cb : Nat) (s : Int) (w : World), BlocksAt S w vb bs →
  Ints .i64 w (.slice om t.1.length cm) t.1 → Ints .i64 w (.slice ob t.2.length cb) t.2 → t.1.length ≤ 1000 → t.2.length ≤ 1000 → WfT t →
  Calls Tryz.prog F #[chipV vb br off ops, .agg #[.slice om t.1.length cm, .slice ob t.2.length cb], .int .i64 s] w fun e w' => e = .returned (.string (hasD bs t s)) ∧ Mem w w'
def TwinSpec (F : Nat) : Prop := ∀ (S : Nat → Prop) (vb : Value) (bs : List BlockT) (br off : Bool) (ops : Int) (t : TableT) (om ob : Option Addr) (cm cb : Nat) (d : ByteArray) (w : World), BlocksAt S w vb bs →
  Ints .i64 w (.slice om t.1.length cm) t.1 → Ints .i64 w (.slice ob t.2.length cb) t.2 → t.1.length ≤ 1000 → t.2.length ≤ 1000 → WfT t → DataS bs → d.size ≤ maxLen →
  Calls Tryz.prog F #[chipV vb br off ops, .agg #[.slice om t.1.length cm, .slice ob t.2.length cb], .string d] w fun e w' => e = .returned (.int .i64 (twinT bs t d)) ∧ Mem w w'
def MovesSpec (F : Nat) : Prop := ∀ (S : Nat → Prop) (vb : Value) (bs : List BlockT) (br off : Bool) (ops : Int) (t : TableT) (om ob : Option Addr) (cm cb : Nat) (b : Int) (w : World), BlocksAt S w vb bs →
  IntsIn S w (.slice om t.1.length cm) t.1 → IntsIn S w (.slice ob t.2.length cb) t.2 → t.1.length ≤ 1000 → t.2.length ≤ 1000 → WfT t →
  Calls Tryz.prog F #[chipV vb br off ops, .agg #[.slice om t.1.length cm, .slice ob t.2.length cb], .int .i64 b] w fun e w' => (∃ v, e = .returned v ∧ WritesAt (fun x => S x ∨ w.heap.size ≤ x) w' v (movesT bs t b)) ∧ Mem w w'

theorem has_out {bs : List BlockT} {t : TableT} {s : Int} (h : s < 0 ∨ (t.1.length : Int) ≤ s) : hasD bs t s = ⟨#[]⟩ := by unfold hasD; rw [if_pos h]
theorem has_in {bs : List BlockT} {t : TableT} {s : Nat} (h : s < t.1.length) : hasD bs t s = (pageC bs (t.1.getD s 0)).1.2.1 := by
  unfold hasD
  rw [if_neg (by omega), Int.toNat_natCast]

set_option maxHeartbeats 4000000 in
set_option maxRecDepth 100000 in
theorem refHas : HasSpec 21 := by
  intro S vb bs br off ops t om ob cm cb s w hb h1 h2 hl1 hl2 hwf
  obtain ⟨oa, ca, rfl⟩ := hb.shape
  have hm0 : Mem w ((w.alloc (.cells #[.slice oa bs.length ca, .bool br, .bool off, .int .i64 ops] 24)).alloc (.cells #[.slice om t.1.length cm, .slice ob t.2.length cb] 27)) := ((Mem.refl w).alloc _).alloc _
  have hC := (Blk.new w #[.slice oa bs.length ca, .bool br, .bool off, .int .i64 ops] 24).alloc (.cells #[.slice om t.1.length cm, .slice ob t.2.length cb] 27)
  have hT := Blk.new (w.alloc (.cells #[.slice oa bs.length ca, .bool br, .bool off, .int .i64 ops] 24)) #[.slice om t.1.length cm, .slice ob t.2.length cb] 27
  rw [World.size_alloc] at hT
  have hb' := hide (hb.mem hm0)
  have h1' := hide (h1.mem hm0)
  have ht0 := hT.cell (j := 0) rfl
  simp only [chipV]
  clear hb h1 h2
  by_cases hs : s < 0
  · have HE := hide (has_out (bs := bs) (t := t) (.inl hs))
    have hd : decide (s < 0) = true := decide_eq_true hs
    go_enter Tryz.func21, Tryz.ntmps21
    go_wp2_with fail
    go_ret
    exact ⟨by rw [HE.out]; rfl, hm0⟩
  · have hs0 : 0 ≤ s := by omega
    have hd : decide (s < 0) = false := decide_eq_false hs
    obtain ⟨k, rfl⟩ := Int.eq_ofNat_of_zero_le hs0
    by_cases hk : k < t.1.length
    · have hk' : (k : Int) < (t.1.length : Int) := by omega
      have hd2 : decide ((t.1.length : Int) ≤ (k : Int)) = false := decide_eq_false (by omega)
      have hd2n : decide (t.1.length ≤ k) = false := decide_eq_false (by omega)
      have HE := hide (has_in (bs := bs) hk)
      have hzw := hwf.1 (t.1.getD k 0) (by rw [List.getD_eq_getElem?_getD, List.getElem?_eq_getElem hk]; exact List.getElem_mem hk)
      unfold wfZ at hzw
      obtain ⟨zb, zo, rfl, hzc⟩ := h1'.out.at (by omega)
      have z0 := hzc k hk
      clear hzc hwf
      generalize t.1.getD k 0 = z at *
      go_enter Tryz.func21, Tryz.ntmps21
      go_wp2_with fail
      obtain ⟨w1, hw1⟩ : ∃ w1, (w.alloc (.cells #[.slice oa bs.length ca, .bool br, .bool off, .int .i64 ops] 24)).alloc (.cells #[.slice (some ⟨zb, zo, none⟩) t.1.length cm, .slice ob t.2.length cb] 27) = w1 := ⟨_, rfl⟩
      rw [hw1] at hm0 hC hT hb' h1' ht0 z0 ⊢
      clear hw1
      have HP := hide (fun (w' : World) (m : Mem w1 w') => refPage _ _ bs br off ops z w' (hb'.out.mem m) hzw.2)
      generalize pageC bs z = pc at *
      obtain ⟨⟨pw, pd, pt⟩, pb⟩ := pc
      have HK : Hid (∀ w', Mem w1 w' → w'.cell? ⟨w.heap.size, 0, none⟩ = some (.slice oa bs.length ca) ∧ w'.cell? ⟨w.heap.size, 1, none⟩ = some (.bool br) ∧ w'.cell? ⟨w.heap.size, 2, none⟩ = some (.bool off) ∧ w'.cell? ⟨w.heap.size, 3, none⟩ = some (.int .i64 ops) ∧ w'.cell? ⟨w.heap.size + 1, 0, none⟩ = some (.slice (some ⟨zb, zo, none⟩) t.1.length cm) ∧ w'.cell? ⟨zb, zo + k, none⟩ = some (.int .i64 z)) := fun w' m => ⟨(hC.mem m).cell (j := 0) rfl, (hC.mem m).cell (j := 1) rfl, (hC.mem m).cell (j := 2) rfl, (hC.mem m).cell (j := 3) rfl, (hT.mem m).cell (j := 0) rfl, (Below.cell m (p := ⟨zb, zo + k, none⟩) (World.block_lt_of_cell? w1 _ z0)).trans z0⟩
      have N0 := hide (Mem.drew (Mem.refl w1))
      obtain ⟨k0, k1, k2, k3, k4, k5⟩ := HK.out _ (Mem.refl w1)
      go_region_held3 (fun w' => w'.cell? ⟨w.heap.size, 0, none⟩ = some (.slice oa bs.length ca) ∧ w'.cell? ⟨w.heap.size, 1, none⟩ = some (.bool br) ∧ w'.cell? ⟨w.heap.size, 2, none⟩ = some (.bool off) ∧ w'.cell? ⟨w.heap.size, 3, none⟩ = some (.int .i64 ops) ∧ w'.cell? ⟨w.heap.size + 1, 0, none⟩ = some (.slice (some ⟨zb, zo, none⟩) t.1.length cm) ∧ w'.cell? ⟨zb, zo + k, none⟩ = some (.int .i64 z))
        (first
          | with_reducible exact (HK.out _ N0.out)
          | with_reducible exact (HK.out _ N1.out)
          | with_reducible exact (HK.out _ (Mem.drew (Mem.alloc (Mem.refl _) _)))
          | with_reducible exact (HK.out _ (Mem.alloc N1.out _))
          | exact (HK.out _ (Mem.put3 N1.out (Nat.le_refl _) _ _ _)))
        (first
          | (go_at_call 47; with_reducible refine (HP.out _ N0.out).mono ?_; rintro e u1 ⟨rfl, nn1⟩; have N1 := hide (Mem.trans N0.out nn1))
          | (go_at_call 47; with_reducible refine (HP.out _ (Mem.drew (Mem.alloc (Mem.refl _) _))).mono ?_; rintro e u1 ⟨rfl, nn1⟩; have N1 := hide (Mem.trans (Mem.drew (Mem.alloc (Mem.refl _) _)) nn1); have hD := ((Blk.new w1 #[.bool false, .string ⟨#[]⟩, .string ⟨#[]⟩] 33).drew).mem nn1; have q0 := hD.cell (j := 0) rfl; have q1 := hD.cell (j := 1) rfl; have q2 := hD.cell (j := 2) rfl; have r0 := hD.frozen 0; have r1 := hD.frozen 1; have r2 := hD.frozen 2))
      · have hY := Blk.new u1 #[.bool pw, .string pd, .string pt] 33
        have y1 := hY.cell (j := 1) rfl
        go_wp2_with fail
        go_ret
        exact ⟨by rw [HE.out]; rfl, hm0.trans (Mem.alloc N1.out _)⟩
      · have hY := hD.put3 (.bool pw) (.string pd) (.string pt)
        have y1 := hY.cell (j := 1) rfl
        have mY := Mem.put3 N1.out (Nat.le_refl w1.heap.size) (.bool pw) (.string pd) (.string pt)
        go_wp2_with fail
        go_ret
        exact ⟨by rw [HE.out]; rfl, hm0.trans mY⟩
    · have hd2 : decide ((t.1.length : Int) ≤ (k : Int)) = true := decide_eq_true (by omega)
      have hd2n : decide (t.1.length ≤ k) = true := decide_eq_true (by omega)
      have HE := hide (has_out (bs := bs) (t := t) (s := k) (.inr (by omega)))
      go_enter Tryz.func21, Tryz.ntmps21
      go_wp2_with fail
      go_ret
      exact ⟨by rw [HE.out]; rfl, hm0⟩
end Go.Proofs.YtedopplldpcinaaGreat.Plan
