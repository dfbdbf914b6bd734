/-
  PlanPlace, PlanRowZ, PlanAdd, PlanDel: in one text (merge.json).
-/
import Derived.Test.YtedopplldpcinaaGreatPlanRefAll
import Derived.Lib.SlKept
import Derived.Lib.SliceRun
import Derived.Test.YtedopplldpcinaaGreatPlanLow
import Derived.Deep.LoopGhost
import Derived.Test.YtedopplldpcinaaGreatLiveAll
/-
  Layer 12, the program: the Map of a sector; Has.
-/
namespace Go.Proofs.YtedopplldpcinaaGreat.Plan
open Go.RowKit Go.Proofs.YtedopplldpcinaaGreat.Nand Go.Proofs.YtedopplldpcinaaGreat.Scan Go.Proofs.YtedopplldpcinaaGreat.Live Go.Proofs.YtedopplldpcinaaGreat.Replay

theorem mem_le {a b : World} (h : Mem a b) : a.heap.size ≤ b.heap.size := Below.size h
/-- the Map of a sector; -1: Map has no such sector -/
def mapT (t : TableT) (s : Int) : Int := if s < 0 ∨ (t.1.length : Int) ≤ s then -1 else t.1.getD s.toNat 0
theorem mapT_out {t : TableT} {s : Int} (h : s < 0 ∨ (t.1.length : Int) ≤ s) : mapT t s = -1 := if_pos h
theorem mapT_in {t : TableT} {s : Nat} (h : s < t.1.length) : mapT t s = t.1.getD s 0 := by unfold mapT; rw [if_neg (by omega), Int.toNat_natCast]
theorem mapT_has {t : TableT} {s : Int} (h : 0 ≤ s) : mapT t s = hasT t s := by
  unfold mapT hasT
  by_cases e : s < (t.1.length : Int)
  · rw [if_neg (by omega), if_pos e]
  · rw [if_pos (by omega), if_neg e]
theorem mapT_wf {t : TableT} (hwf : WfT t) (s : Int) : wfZ (mapT t s) := by
  unfold mapT
  by_cases e : s < 0 ∨ (t.1.length : Int) ≤ s
  · rw [if_pos e]; unfold wfZ; omega
  · rw [if_neg e]
    exact hwf.1 _ (by rw [List.getD_eq_getElem?_getD, List.getElem?_eq_getElem (by omega)]; exact List.getElem_mem _)
theorem has_map (bs : List BlockT) (t : TableT) (s : Int) : hasD bs t s = (pageC bs (mapT t s)).1.2.1 := by
  unfold hasD mapT
  by_cases e : s < 0 ∨ (t.1.length : Int) ≤ s
  · rw [if_pos e, if_pos e, pageC_neg (by decide)]; rfl
  · rw [if_neg e, if_neg e]

set_option maxHeartbeats 4000000 in
set_option maxRecDepth 100000 in
theorem codePlaceOf (t : TableT) (om ob : Option Addr) (cm lb cb : Nat) (s : Int) (w : World) (h1 : Ints .i64 w (.slice om t.1.length cm) t.1) :
    Calls Tryz.prog 33 #[.agg #[.slice om t.1.length cm, .slice ob lb cb], .int .i64 s] w fun e w' => e = .returned (.int .i64 (mapT t s)) ∧ Mem w w' := by
  have hm0 : Mem w (w.alloc (.cells #[.slice om t.1.length cm, .slice ob lb cb] 27)) := (Mem.refl w).alloc _
  have hT := Blk.new w #[.slice om t.1.length cm, .slice ob lb cb] 27
  have t0 := hT.cell (j := 0) rfl
  replace h1 := h1.mem hm0
  by_cases hs : s < 0
  · have HE := hide (mapT_out (t := t) (.inl hs))
    have hd : decide (s < 0) = true := decide_eq_true hs
    go_enter Tryz.func33, Tryz.ntmps33
    go_wp2_with fail
    go_ret
    exact ⟨by rw [HE.out]; rfl, hm0⟩
  · have hs0 : 0 ≤ s := by omega
    have hd : decide (s < 0) = false := decide_eq_false hs
    obtain ⟨k, rfl⟩ := Int.eq_ofNat_of_zero_le hs0
    by_cases hk : k < t.1.length
    · have hk' : (k : Int) < (t.1.length : Int) := by omega
      have hd2 : decide ((t.1.length : Int) ≤ (k : Int)) = false := decide_eq_false (by omega)
      have hd2n : decide (t.1.length ≤ k) = false := decide_eq_false (by omega)
      have HE := hide (mapT_in hk)
      obtain ⟨zb, zo, rfl, hzc⟩ := h1.at (by omega)
      have z0 := hzc k hk
      clear hzc
      generalize t.1.getD k 0 = z at *
      go_enter Tryz.func33, Tryz.ntmps33
      go_wp2_with fail
      go_ret
      exact ⟨by rw [HE.out]; rfl, hm0⟩
    · have hd2 : decide ((t.1.length : Int) ≤ (k : Int)) = true := decide_eq_true (by omega)
      have hd2n : decide (t.1.length ≤ k) = true := decide_eq_true (by omega)
      have HE := hide (mapT_out (t := t) (s := k) (.inr (by omega)))
      go_enter Tryz.func33, Tryz.ntmps33
      go_wp2_with fail
      go_ret
      exact ⟨by rw [HE.out]; rfl, hm0⟩

set_option maxHeartbeats 4000000 in
set_option maxRecDepth 100000 in
theorem codeHas : HasSpec 17 := by
  intro S vb bs br off ops t om ob cm cb s w hb h1 h2 hl1 hl2 hwf
  obtain ⟨oa, ca, rfl⟩ := hb.shape
  have hm0 : Mem w ((w.alloc (.cells #[.slice oa bs.length ca, .bool br, .bool off, .int .i64 ops] 24)).alloc (.cells #[.slice om t.1.length cm, .slice ob t.2.length cb] 27)) := ((Mem.refl w).alloc _).alloc _
  have hC := (Blk.new w #[.slice oa bs.length ca, .bool br, .bool off, .int .i64 ops] 24).alloc (.cells #[.slice om t.1.length cm, .slice ob t.2.length cb] 27)
  have hT := Blk.new (w.alloc (.cells #[.slice oa bs.length ca, .bool br, .bool off, .int .i64 ops] 24)) #[.slice om t.1.length cm, .slice ob t.2.length cb] 27
  rw [World.size_alloc] at hT
  have hb' := hide (hb.mem hm0)
  have h1' := hide (h1.mem hm0)
  have HE := hide (has_map bs t s)
  have hzw := (mapT_wf hwf s)
  unfold wfZ at hzw
  simp only [chipV]
  clear hb h1 h2
  go_enter Tryz.func17, Tryz.ntmps17
  go_wp2_with fail
  obtain ⟨w1, hw1⟩ : ∃ w1, (w.alloc (.cells #[.slice oa bs.length ca, .bool br, .bool off, .int .i64 ops] 24)).alloc (.cells #[.slice om t.1.length cm, .slice ob t.2.length cb] 27) = w1 := ⟨_, rfl⟩
  rw [hw1] at hm0 hC hT hb' h1' ⊢
  clear hw1
  have HQ := hide (fun (w' : World) (m : Mem w1 w') => codePlaceOf t om ob cm t.2.length cb s w' (h1'.out.mem m))
  have HP := hide (fun (w' : World) (m : Mem w1 w') => codePage _ _ bs br off ops (mapT t s) w' (hb'.out.mem m) hzw.2)
  generalize mapT t s = q at *
  generalize pageC bs q = pc at *
  obtain ⟨⟨pw, pd, pt⟩, pb⟩ := pc
  have HK : Hid (∀ w', Mem w1 w' → w'.cell? ⟨w.heap.size, 0, none⟩ = some (.slice oa bs.length ca) ∧ w'.cell? ⟨w.heap.size, 1, none⟩ = some (.bool br) ∧ w'.cell? ⟨w.heap.size, 2, none⟩ = some (.bool off) ∧ w'.cell? ⟨w.heap.size, 3, none⟩ = some (.int .i64 ops) ∧ w'.cell? ⟨w.heap.size + 1, 0, none⟩ = some (.slice om t.1.length cm) ∧ w'.cell? ⟨w.heap.size + 1, 1, none⟩ = some (.slice ob t.2.length cb)) := fun w' m => ⟨(hC.mem m).cell (j := 0) rfl, (hC.mem m).cell (j := 1) rfl, (hC.mem m).cell (j := 2) rfl, (hC.mem m).cell (j := 3) rfl, (hT.mem m).cell (j := 0) rfl, (hT.mem m).cell (j := 1) rfl⟩
  have N0 := hide (Mem.drew (Mem.refl w1))
  obtain ⟨k0, k1, k2, k3, k4, k5⟩ := HK.out _ (Mem.refl w1)
  go_region_held3 (fun w' => w'.cell? ⟨w.heap.size, 0, none⟩ = some (.slice oa bs.length ca) ∧ w'.cell? ⟨w.heap.size, 1, none⟩ = some (.bool br) ∧ w'.cell? ⟨w.heap.size, 2, none⟩ = some (.bool off) ∧ w'.cell? ⟨w.heap.size, 3, none⟩ = some (.int .i64 ops) ∧ w'.cell? ⟨w.heap.size + 1, 0, none⟩ = some (.slice om t.1.length cm) ∧ w'.cell? ⟨w.heap.size + 1, 1, none⟩ = some (.slice ob t.2.length cb))
    (first
      | with_reducible exact (HK.out _ N0.out)
      | with_reducible exact (HK.out _ N2.out)
      | with_reducible exact (HK.out _ N1.out)
      | with_reducible exact (HK.out _ (Mem.drew (Mem.alloc (Mem.refl _) _)))
      | with_reducible exact (HK.out _ (Mem.alloc N2.out _))
      | with_reducible exact (HK.out _ (Mem.alloc N1.out _))
      | exact (HK.out _ (Mem.put3 N2.out (Nat.le_refl _) _ _ _))
      | exact (HK.out _ (Mem.put3 N2.out HB.out _ _ _)))
    (first
      | (go_at_call 33; with_reducible refine (HQ.out _ N0.out).mono ?_; rintro e u1 ⟨rfl, nn1⟩; have N1 := hide (Mem.trans N0.out nn1))
      | (go_at_call 33; with_reducible refine (HQ.out _ (Mem.drew (Mem.alloc (Mem.refl _) _))).mono ?_; rintro e u1 ⟨rfl, nn1⟩; have N1 := hide (Mem.trans (Mem.drew (Mem.alloc (Mem.refl _) _)) nn1); have hD := ((Blk.new w1 #[.bool false, .string ⟨#[]⟩, .string ⟨#[]⟩] 33).drew).mem nn1)
      | (go_at_call 34; with_reducible refine (HP.out _ N1.out).mono ?_; rintro e u2 ⟨rfl, nn2⟩; have N2 := hide (Mem.trans N1.out nn2); have hD2 := hD.mem nn2; have HB := hide (Nat.le_refl w1.heap.size); have q0 := hD2.cell (j := 0) rfl; have q1 := hD2.cell (j := 1) rfl; have q2 := hD2.cell (j := 2) rfl; have r0 := hD2.frozen 0; have r1 := hD2.frozen 1; have r2 := hD2.frozen 2)
      | (go_at_call 34; with_reducible refine (HP.out _ N1.out).mono ?_; rintro e u2 ⟨rfl, nn2⟩; have N2 := hide (Mem.trans N1.out nn2))
      | (go_at_call 34; with_reducible refine (HP.out _ (Mem.alloc N1.out _)).mono ?_; rintro e u2 ⟨rfl, nn2⟩; have N2 := hide (Mem.trans (Mem.alloc N1.out _) nn2); have hD2 := (Blk.new u1 #[.bool false, .string ⟨#[]⟩, .string ⟨#[]⟩] 33).mem nn2; have hB : w1.heap.size ≤ u1.heap.size := mem_le N1.out; have HB := hide hB; clear hB; have q0 := hD2.cell (j := 0) rfl; have q1 := hD2.cell (j := 1) rfl; have q2 := hD2.cell (j := 2) rfl; have r0 := hD2.frozen 0; have r1 := hD2.frozen 1; have r2 := hD2.frozen 2))
  all_goals (first
    | (have hY := hD2.put3 (.bool pw) (.string pd) (.string pt)
       have y1 := hY.cell (j := 1) rfl
       have mY := Mem.put3 N2.out HB.out (.bool pw) (.string pd) (.string pt)
       go_wp2_with fail
       go_ret
       exact ⟨by rw [HE.out]; rfl, hm0.trans mY⟩)
    | (have hY := Blk.new u2 #[.bool pw, .string pd, .string pt] 33
       have y1 := hY.cell (j := 1) rfl
       go_wp2_with fail
       go_ret
       exact ⟨by rw [HE.out]; rfl, hm0.trans (Mem.alloc N2.out _)⟩))
end Go.Proofs.YtedopplldpcinaaGreat.Plan
/-
  Layer 12, the program: a row of whole numbers that is written over; slices.Index, slices.Contains; the Places of a block.
-/
namespace Go.Proofs.YtedopplldpcinaaGreat.Plan
open Go.RowKit Go.Proofs.YtedopplldpcinaaGreat.Nand Go.Proofs.YtedopplldpcinaaGreat.Scan Go.Proofs.YtedopplldpcinaaGreat.Live Go.Proofs.YtedopplldpcinaaGreat.Replay

/-- whole numbers in a block of their own -/
def RowZ (w : World) (g cap : Nat) (zs : List Int) : Prop :=
  ∃ cur, Blk w g 3 cur ∧ cur.size = cap ∧ cap ≤ maxLen ∧ zs.length ≤ cap ∧ ∀ j, j < zs.length → cur[j]? = some (.int .i64 (zs.getD j 0))
theorem RowZ.of_owns {w : World} {base n : Nat} {v : Value} {zs : List Int} (h : w.ownsRow base 3 1 v n (icells zs)) (hn : zs.length = n) : (v = .slice none 0 0 ∧ zs = []) ∨ ∃ g cap, v = .slice (some ⟨g, 0, none⟩) zs.length cap ∧ base ≤ g ∧ RowZ w g cap zs := by
  subst hn
  rcases h.2 with ⟨rfl, h0⟩ | ⟨g, cap, cur, rfl, hb, hh, hlc, hcm, hcs, ht⟩
  · exact .inl ⟨rfl, List.length_eq_zero_iff.1 h0⟩
  · refine .inr ⟨g, cap, rfl, hb, cur, hh, by omega, hcm, hlc, fun j hj => ?_⟩
    have h1 : (cur.toList.take (zs.length * 1))[j]? = (icells zs)[j]? := by rw [ht]
    rw [List.getElem?_take_of_lt (by omega), Array.getElem?_toList] at h1
    rw [h1]
    simp [icells, hj]
theorem RowZ.mem {w w' : World} {g cap : Nat} {zs : List Int} (h : RowZ w g cap zs) (m : Mem w w') : RowZ w' g cap zs := by
  obtain ⟨cur, hb, h⟩ := h
  exact ⟨cur, hb.mem m, h⟩
theorem RowZ.cell {w : World} {g cap : Nat} {zs : List Int} (h : RowZ w g cap zs) {j : Nat} (hj : j < zs.length) : w.cell? ⟨g, j, none⟩ = some (.int .i64 (zs.getD j 0)) := by
  obtain ⟨cur, hb, -, -, -, h⟩ := h
  exact hb.cell (h j hj)
theorem RowZ.frozen {w : World} {g cap : Nat} {zs : List Int} (h : RowZ w g cap zs) (j : Nat) : w.frozen? ⟨g, j, none⟩ = false := by
  obtain ⟨cur, hb, -⟩ := h
  exact hb.frozen j
theorem RowZ.lt {w : World} {g cap : Nat} {zs : List Int} (h : RowZ w g cap zs) : g < w.heap.size := by
  obtain ⟨cur, hb, -⟩ := h
  exact hb.lt
theorem RowZ.set {w : World} {g cap : Nat} {zs : List Int} (h : RowZ w g cap zs) {i : Nat} (hi : i < zs.length) (x : Int) : RowZ (w.setCell ⟨g, i, none⟩ (.int .i64 x)) g cap (zs.set i x) := by
  obtain ⟨cur, hb, h1, h2, h3, h4⟩ := h
  refine ⟨_, hb.set i (.int .i64 x), by simpa using h1, h2, by simpa using h3, fun j hj => ?_⟩
  have hj' : j < zs.length := by simpa using hj
  rw [List.getD_eq_getElem?_getD, List.getElem?_set, Array.getElem?_setIfInBounds]
  by_cases e : i = j
  · subst e
    rw [if_pos rfl, if_pos rfl, if_pos (by omega), if_pos hj']
    rfl
  · rw [if_neg e, if_neg e]
    exact (h4 j hj').trans (by rw [List.getD_eq_getElem?_getD])
theorem RowZ.ints {w : World} {g cap : Nat} {zs : List Int} (h : RowZ w g cap zs) {S : Nat → Prop} (hS : S g) (k : Nat) (hk : k ≤ zs.length) : IntsIn S w (.slice (some ⟨g, 0, none⟩) k cap) (zs.take k) := by
  have hlen : (zs.take k).length = k := by rw [List.length_take]; omega
  obtain ⟨cur, hb, h1, h2, h3, h4⟩ := h
  refine ⟨by omega, ?_⟩
  by_cases h0 : k = 0
  · subst h0
    exact .inl ⟨rfl, _, _, rfl⟩
  · refine .inr ⟨g, 0, cap, by rw [hlen], by omega, hS, fun j hj => ?_⟩
    rw [hlen] at hj
    rw [Nat.zero_add, hb.cell (h4 j (by omega))]
    congr 2
    simp only [List.getD_eq_getElem?_getD]
    rw [List.getElem?_take_of_lt hj]
theorem RowZ.cap {w : World} {g cap : Nat} {zs : List Int} (h : RowZ w g cap zs) : zs.length ≤ cap ∧ cap ≤ maxLen := by
  obtain ⟨cur, -, -, h2, h3, -⟩ := h
  exact ⟨h3, h2⟩
/-- a clear behind the first k -/
theorem RowZ.cleared {w : World} {g cap : Nat} {zs : List Int} (h : RowZ w g cap zs) (k : Nat) (vs : List Value) : ∃ cur, Blk (w.setCells g k vs) g 3 cur ∧ cur.size = cap ∧ ∀ j, j < k → j < zs.length → cur[j]? = some (.int .i64 (zs.getD j 0)) := by
  obtain ⟨cur, hb, h1, h2, h3, h4⟩ := h
  suffices H : ∀ (vs : List Value) (o : Nat) (w : World) (cur : Array Value), k ≤ o → Blk w g 3 cur → cur.size = cap → (∀ j, j < k → j < zs.length → cur[j]? = some (.int .i64 (zs.getD j 0))) → ∃ cur', Blk (w.setCells g o vs) g 3 cur' ∧ cur'.size = cap ∧ ∀ j, j < k → j < zs.length → cur'[j]? = some (.int .i64 (zs.getD j 0)) from
    H vs k w cur (Nat.le_refl _) hb h1 (fun j _ hj => h4 j hj)
  intro vs
  induction vs with
  | nil => intro o w cur _ hb h1 h4; exact ⟨cur, hb, h1, h4⟩
  | cons v r ih =>
    intro o w cur ho hb h1 h4
    exact ih (o + 1) _ _ (by omega) (hb.set o v) (by simpa using h1) (fun j hj hz => by rw [Array.getElem?_setIfInBounds, if_neg (by omega)]; exact h4 j hj hz)
theorem mem_setCells {B g : Nat} {a : World} (hb : B ≤ g) : ∀ (vs : List Value) (o : Nat) (w : World), Below B a w → Below B a (w.setCells g o vs)
  | [], _, _, h => h
  | v :: r, o, _, h => mem_setCells hb r (o + 1) _ (Below.setCell h (p := ⟨g, o, none⟩) hb v)
theorem cleared_ints {w : World} {g cap : Nat} {zs : List Int} (h : RowZ w g cap zs) {S : Nat → Prop} (hS : S g) (k : Nat) (hk : k ≤ zs.length) (vs : List Value) : IntsIn S (w.setCells g k vs) (.slice (some ⟨g, 0, none⟩) k cap) (zs.take k) := by
  have hlen : (zs.take k).length = k := by rw [List.length_take]; omega
  have hc := h.cap
  obtain ⟨cur, hb, h1, h4⟩ := h.cleared k vs
  refine ⟨by omega, ?_⟩
  by_cases h0 : k = 0
  · subst h0
    exact .inl ⟨rfl, _, _, rfl⟩
  · refine .inr ⟨g, 0, cap, by rw [hlen], by omega, hS, fun j hj => ?_⟩
    rw [hlen] at hj
    rw [Nat.zero_add, hb.cell (h4 j hj (by omega))]
    congr 2
    simp only [List.getD_eq_getElem?_getD]
    rw [List.getElem?_take_of_lt hj]

set_option maxHeartbeats 4000000 in
set_option maxRecDepth 100000 in
/-- slices.Index -/
theorem codeIndexI (v : Value) (l : List Int) (x : Int) (w : World) (h : Ints .i64 w v l) :
    Calls Tryz.prog 59 #[v, .int .i64 x] w fun e w' => (∃ r : Int, e = .returned (.int .i64 r) ∧ (0 ≤ r ↔ x ∈ l)) ∧ w' = w := by
  obtain ⟨oa, ca, rfl⟩ := h.shape
  have hml := h.1
  unfold maxLen at hml
  have HI := hide h
  clear h
  go_enter Tryz.func59, Tryz.ntmps59
  go_wp2
  go_loop [8] (fun i => ∃ k : Nat, k ≤ l.length ∧ i = .int .i64 k ∧ ∀ j, j < k → l.getD j 0 ≠ x) (fun i => l.length - (intOf i).toNat)
  case atStart => exact ⟨0, Nat.zero_le _, rfl, fun j hj => absurd hj (Nat.not_lt_zero _)⟩
  case round =>
    obtain ⟨k, hk, rfl, hno⟩ := hrel
    by_cases hlt : k < l.length
    · have hlt' : (k : Int) < (l.length : Int) := by omega
      have hk0 : (0 : Int) ≤ (k : Int) := by omega
      obtain ⟨ab, ao, rfl, hc⟩ := HI.out.at (by omega)
      have d0 := hc k hlt
      have HG : Hid (l.getD k 0 ∈ l) := by
        show _
        rw [List.getD_eq_getElem?_getD, List.getElem?_eq_getElem hlt]
        exact List.getElem_mem hlt
      have HNO := hide hno
      have HN : Hid (l.getD k 0 ≠ x → ∀ j, j < k + 1 → l.getD j 0 ≠ x) := by
        intro hx j hj
        by_cases e : j = k
        · subst e; exact hx
        · exact HNO.out j (by omega)
      clear hc hno HNO
      generalize l.getD k 0 = z at *
      by_cases hx : x = z
      · subst hx
        go_wp2
        (try go_ret)
        exact ⟨⟨_, rfl, ⟨fun _ => HG.out, fun _ => hk0⟩⟩, rfl⟩
      · have hx' : ¬ z = x := fun e => hx e.symm
        go_wp2
        go_round
        case rel => exact ⟨k + 1, by omega, by go_num, HN.out hx'⟩
        case measure => simp [intOf]; omega
    · have hke : k = l.length := by omega
      subst hke
      have HNO := hide hno
      clear hno
      have hlt' : ¬ ((l.length : Int) < (l.length : Int)) := by omega
      go_wp2
      go_ret
      refine ⟨⟨_, rfl, ⟨fun h => absurd h (by decide), fun hx => ?_⟩⟩, rfl⟩
      obtain ⟨j, hj, e⟩ := List.getElem_of_mem hx
      exact absurd (by rw [List.getD_eq_getElem?_getD, List.getElem?_eq_getElem hj]; exact e) (HNO.out j hj)
set_option maxHeartbeats 4000000 in
set_option maxRecDepth 100000 in
theorem codeContains (v : Value) (l : List Int) (x : Int) (w : World) (h : Ints .i64 w v l) :
    Calls Tryz.prog 32 #[v, .int .i64 x] w fun e w' => e = .returned (.bool (decide (x ∈ l))) ∧ w' = w := by
  obtain ⟨oa, ca, rfl⟩ := h.shape
  have hc := codeIndexI _ l x w h
  go_enter Tryz.func32, Tryz.ntmps32
  go_wp2_with (go_at_call 59; refine hc.mono ?_; rintro e w' ⟨⟨r, rfl, hr⟩, rfl⟩)
  go_ret
  exact ⟨rfl, rfl⟩
/-- the Places of a block, so far -/
def placesN (b : Int) (k : Nat) : List Int := if 0 ≤ b ∧ b < 32 then (List.range k).map (fun (p : Nat) => place b (p : Int)) else []
theorem placesN_succ (b : Int) (k : Nat) : placesN b (k + 1) = placesN b k ++ (if 0 ≤ b ∧ b < 32 then [place b (k : Int)] else []) := by
  unfold placesN
  by_cases h : 0 ≤ b ∧ b < 32
  · rw [if_pos h, if_pos h, if_pos h, List.range_succ, List.map_append]; rfl
  · rw [if_neg h, if_neg h, if_neg h]; rfl
theorem placesN_len (b : Int) (k : Nat) : (placesN b k).length ≤ k := by
  unfold placesN
  by_cases h : 0 ≤ b ∧ b < 32
  · rw [if_pos h]; simp
  · rw [if_neg h]; simp
set_option maxHeartbeats 4000000 in
set_option maxRecDepth 100000 in
theorem codePlaces (b : Int) (w : World) : Calls Tryz.prog 30 #[.int .i64 b] w fun e w' => (∃ v, e = .returned v ∧ IntsIn (fun x => w.heap.size ≤ x) w' v (placesN b 16)) ∧ Mem w w' := by
  go_enter Tryz.func30, Tryz.ntmps30
  go_wp2_with fail
  go_loopw [3, 6] (fun a i wr => ∃ k : Nat, k ≤ 16 ∧ i = .int .i64 k ∧ wr.ownsRow w.heap.size 3 1 a (placesN b k).length (icells (placesN b k)) ∧ Mem w wr) (fun _ i _ => 16 - (intOf i).toNat)
  case atStart => exact ⟨0, Nat.zero_le _, rfl, by have : placesN b 0 = [] := List.length_eq_zero_iff.1 (Nat.le_zero.1 (placesN_len b 0)); rw [this]; exact World.ownsRow_nil _ _ _ _, Mem.refl _⟩
  case round =>
    obtain ⟨k, hk, rfl, hown, hmr⟩ := hrel
    have hln := placesN_len b k
    by_cases hlt : k < 16
    · have hlt' : (k : Int) < 16 := by omega
      have hk0 : (0 : Int) ≤ (k : Int) := by omega
      have HP := hide (codePlace b k wr)
      have HS := hide (placesN_succ b k)
      have hmw := mem_le hmr
      by_cases hb : 0 ≤ b ∧ b < 32
      · have hp0 : 0 ≤ place b k := by rw [place_in hb hlt]; omega
        rw [if_pos hb] at HS
        generalize place b k = q at *
        generalize placesN b k = l at *
        go_wp2_with (first
          | (go_at_call 58; refine HP.out.mono ?_; rintro e w2 ⟨rfl, rfl⟩; skip)
          | (at_builtin; refine pushI rfl _ _ rfl w.heap.size _ l _ rfl hown hmw q rfl (by omega) ?_; intro v2 w2 o2 b2))
        have m2 : Mem w w2 := Below.trans hmr b2
        have HL : Hid (l.length + 1 = (placesN b (k + 1)).length) := by show _ = _; rw [HS.out]; simp
        rw [HL.out, ← HS.out] at o2
        go_roundw
        case rel => exact ⟨k + 1, by omega, by go_num, o2, m2⟩
        case measure => simp [intOf]; omega
      · have hpn : place b k < 0 := by unfold place; rw [if_pos (by omega)]; omega
        have hpn' : ¬ (0 ≤ place b k) := by omega
        rw [if_neg hb, List.append_nil] at HS
        generalize place b k = q at *
        go_wp2_with (go_at_call 58; refine HP.out.mono ?_; rintro e w2 ⟨rfl, rfl⟩; skip)
        go_roundw
        case rel => exact ⟨k + 1, by omega, by go_num, by rw [HS.out]; exact hown, hmr⟩
        case measure => simp [intOf]; omega
    · have hke : k = 16 := by omega
      subst hke
      go_wp2_with fail
      go_ret
      exact ⟨⟨_, rfl, IntsIn.of_owns hown⟩, hmr⟩
end Go.Proofs.YtedopplldpcinaaGreat.Plan
/-
  Layer 12, the program: the write of a page's data; the write that tells which places sectors have.
-/
namespace Go.Proofs.YtedopplldpcinaaGreat.Plan
open Go.RowKit Go.Proofs.YtedopplldpcinaaGreat.Nand Go.Proofs.YtedopplldpcinaaGreat.Scan Go.Proofs.YtedopplldpcinaaGreat.Live Go.Proofs.YtedopplldpcinaaGreat.Replay

theorem size_write5 : (Tryz.prog.info? 56).map (·.size) = some 5 := by kernel_rfl
theorem ret_write {fn : Func} {p : Tmp} (h : fn.results = #[.cell p 56]) (tmps : Array Value) (w : World) {b : Nat} {a0 a1 a2 a3 a4 : Value} (hp : tmps.getD p undef = .pointer (some ⟨b, 0, none⟩)) (hb : Blk w b 56 #[a0, a1, a2, a3, a4]) :
    (results fn tmps).run Tryz.prog w = .ok (.agg #[a0, a1, a2, a3, a4]) w :=
  results_cell_row h tmps w b 56 #[a0, a1, a2, a3, a4] (0, 0) _ hp hb Tryz.underlying56 rfl size_write5
theorem blk_put5 {w : World} {b : Nat} {t : TypeId} {a0 a1 a2 a3 a4 : Value} (h : Blk w b t #[a0, a1, a2, a3, a4]) (x0 x1 x2 x3 x4 : Value) :
    Blk (((((w.setCell ⟨b, 0, none⟩ x0).setCell ⟨b, 1, none⟩ x1).setCell ⟨b, 2, none⟩ x2).setCell ⟨b, 3, none⟩ x3).setCell ⟨b, 4, none⟩ x4) b t #[x0, x1, x2, x3, x4] := ((((h.set 0 x0).set 1 x1).set 2 x2).set 3 x3).set 4 x4
theorem mem_put5 {a w : World} (m : Mem a w) {b : Nat} (hb : a.heap.size ≤ b) (x0 x1 x2 x3 x4 : Value) :
    Mem a (((((w.setCell ⟨b, 0, none⟩ x0).setCell ⟨b, 1, none⟩ x1).setCell ⟨b, 2, none⟩ x2).setCell ⟨b, 3, none⟩ x3).setCell ⟨b, 4, none⟩ x4) :=
  ((((Mem.setCell m (p := ⟨b, 0, none⟩) hb x0).setCell (p := ⟨b, 1, none⟩) hb x1).setCell (p := ⟨b, 2, none⟩) hb x2).setCell (p := ⟨b, 3, none⟩) hb x3).setCell (p := ⟨b, 4, none⟩) hb x4

set_option maxHeartbeats 4000000 in
set_option maxRecDepth 100000 in
theorem codeDataWrite (d : ByteArray) (ok : Option Addr) (n ck : Nat) (w : World) :
    Calls Tryz.prog 37 #[.string d, .slice ok n ck] w fun e w' => e = .returned (.agg #[.string d, .int .i64 1, .int .i64 0, .slice ok n ck, .slice none 0 0]) ∧ Mem w w' := by
  have hB := Blk.new w #[.string ⟨#[]⟩, .int .i64 0, .int .i64 0, .slice none 0 0, .slice none 0 0] 56
  have q0 := hB.cell (j := 0) rfl
  have q1 := hB.cell (j := 1) rfl
  have q2 := hB.cell (j := 2) rfl
  have q3 := hB.cell (j := 3) rfl
  have q4 := hB.cell (j := 4) rfl
  have r0 := hB.frozen 0
  have r1 := hB.frozen 1
  have r2 := hB.frozen 2
  have r3 := hB.frozen 3
  have r4 := hB.frozen 4
  go_enter Tryz.func37, Tryz.ntmps37
  go_wp2_with fail
  refine bodyPost_ret (ret_write rfl _ _ rfl (Blk.new w #[.string d, .int .i64 1, .int .i64 0, .slice ok n ck, .slice none 0 0] 56)) rfl ?_
  exact ⟨rfl, (Mem.refl w).alloc _⟩

set_option maxHeartbeats 4000000 in
set_option maxRecDepth 100000 in
theorem codeChangeWrite (t : TableT) (om ob : Option Addr) (cm lb cb : Nat) (ok : Option Addr) (ck : Nat) (ks : List Int) (w : World) (h1 : Ints .i64 w (.slice om t.1.length cm) t.1) (hk : Ints .i64 w (.slice ok ks.length ck) ks) (hl : ks.length ≤ 1000) :
    Calls Tryz.prog 40 #[.agg #[.slice om t.1.length cm, .slice ob lb cb], .slice ok ks.length ck] w fun e w' => (∃ ov cv, e = .returned (.agg #[.string ⟨#[]⟩, .int .i64 2, .int .i64 0, .slice ok ks.length ck, .slice ov ks.length cv]) ∧ IntsIn (fun x => w.heap.size ≤ x) w' (.slice ov ks.length cv) (ks.map (mapT t))) ∧ Mem w w' := by
  have m1 : Mem w (w.alloc (.cells #[.slice om t.1.length cm, .slice ob lb cb] 27)) := (Mem.refl w).alloc _
  have m2 : Mem w ((w.alloc (.cells #[.slice om t.1.length cm, .slice ob lb cb] 27)).alloc (.cells #[.string ⟨#[]⟩, .int .i64 0, .int .i64 0, .slice none 0 0, .slice none 0 0] 56)) := m1.alloc _
  have hT := (Blk.new w #[.slice om t.1.length cm, .slice ob lb cb] 27).alloc (.cells #[.string ⟨#[]⟩, .int .i64 0, .int .i64 0, .slice none 0 0, .slice none 0 0] 56)
  have hB := Blk.new (w.alloc (.cells #[.slice om t.1.length cm, .slice ob lb cb] 27)) #[.string ⟨#[]⟩, .int .i64 0, .int .i64 0, .slice none 0 0, .slice none 0 0] 56
  rw [World.size_alloc] at hB
  have h1' := hide (h1.mem m2)
  have hk' := hide (hk.mem m2)
  clear h1 hk
  go_enter Tryz.func40, Tryz.ntmps40
  go_wp2_with fail
  obtain ⟨w2, hw2⟩ : ∃ w2, ((w.alloc (.cells #[.slice om t.1.length cm, .slice ob lb cb] 27)).alloc (.cells #[.string ⟨#[]⟩, .int .i64 0, .int .i64 0, .slice none 0 0, .slice none 0 0] 56)) = w2 := ⟨_, rfl⟩
  rw [hw2] at m2 hT hB h1' hk' ⊢
  clear hw2 m1
  have hs2 := mem_le m2
  go_loopw [5, 10] (fun a i wr => ∃ k : Nat, k ≤ ks.length ∧ i = .int .i64 k ∧ wr.ownsRow w2.heap.size 3 1 a k (icells ((ks.take k).map (mapT t))) ∧ Mem w2 wr) (fun _ i _ => ks.length - (intOf i).toNat)
  case atStart => exact ⟨0, Nat.zero_le _, rfl, World.ownsRow_nil _ _ _ _, Mem.refl _⟩
  case round =>
    obtain ⟨k, hk, rfl, hown, hmr⟩ := hrel
    by_cases hlt : k < ks.length
    · have hlt' : (k : Int) < (ks.length : Int) := by omega
      have hk0 : (0 : Int) ≤ (k : Int) := by omega
      obtain ⟨zb, zo, rfl, hzc⟩ := (hk'.out.mem hmr).at (by omega)
      have d0 := hzc k hlt
      clear hzc
      have hTr := hT.mem hmr
      have t0 := hTr.cell (j := 0) rfl
      have t1 := hTr.cell (j := 1) rfl
      have HE : Hid ((ks.take (k + 1)).map (mapT t) = (ks.take k).map (mapT t) ++ [mapT t (ks.getD k 0)]) := by
        show _ = _
        rw [List.take_succ_eq_append_getElem hlt, List.map_append, List.getD_eq_getElem?_getD, List.getElem?_eq_getElem hlt]; rfl
      have HP := hide (codePlaceOf t om ob cm lb cb (ks.getD k 0) wr (h1'.out.mem hmr))
      generalize ks.getD k 0 = z at *
      go_wp2_with (first
        | (go_at_call 33; refine HP.out.mono ?_; rintro e w3 ⟨rfl, m3⟩; have mr3 := hmr.trans m3; have ms3 := mem_le mr3; have ho3 := owns_below hown m3)
        | (at_builtin; refine pushI rfl _ _ rfl w2.heap.size _ ((ks.take k).map (mapT t)) _ rfl ho3 ms3 (mapT t z) rfl (by omega) ?_; intro v2 w4 o4 b4))
      have m4 : Mem w2 w4 := Below.trans mr3 b4
      go_roundw
      case rel => exact ⟨k + 1, by omega, by go_num, by rw [HE.out]; exact o4, m4⟩
      case measure => simp [intOf]; omega
    · have hke : k = ks.length := by omega
      subst hke
      have hlt' : ¬ ((ks.length : Int) < (ks.length : Int)) := by omega
      rw [List.take_length] at hown
      have hv := IntsIn.of_owns hown
      obtain ⟨ov, cv, hsh⟩ := hv.ints.shape
      rw [List.length_map] at hsh
      subst hsh
      have hBr := hB.mem hmr
      have q0 := hBr.cell (j := 0) rfl
      have q1 := hBr.cell (j := 1) rfl
      have q2 := hBr.cell (j := 2) rfl
      have q3 := hBr.cell (j := 3) rfl
      have q4 := hBr.cell (j := 4) rfl
      have r0 := hBr.frozen 0
      have r1 := hBr.frozen 1
      have r2 := hBr.frozen 2
      have r3 := hBr.frozen 3
      have r4 := hBr.frozen 4
      go_wp2_with fail
      refine bodyPost_ret (ret_write rfl _ _ rfl (blk_put5 hBr (.string ⟨#[]⟩) (.int .i64 2) (.int .i64 0) (.slice ok ks.length ck) (.slice ov ks.length cv))) rfl ?_
      have hlt2 := hB.lt
      have hm := mem_put5 (m2.trans hmr) (b := w.heap.size + 1) (Nat.le_succ _) (.string ⟨#[]⟩) (.int .i64 2) (.int .i64 0) (.slice ok ks.length ck) (.slice ov ks.length cv)
      refine ⟨⟨ov, cv, rfl, ?_⟩, hm⟩
      have hne : ¬ (w2.heap.size ≤ w.heap.size + 1) := by omega
      have hv2 := ((((hv.setCell (p := ⟨w.heap.size + 1, 0, none⟩) hne (.string ⟨#[]⟩)).setCell (p := ⟨w.heap.size + 1, 1, none⟩) hne (.int .i64 2)).setCell (p := ⟨w.heap.size + 1, 2, none⟩) hne (.int .i64 0)).setCell (p := ⟨w.heap.size + 1, 3, none⟩) hne (.slice ok ks.length ck)).setCell (p := ⟨w.heap.size + 1, 4, none⟩) hne (.slice ov ks.length cv)
      exact hv2.mono fun g hg _ => Nat.le_trans hs2 hg
end Go.Proofs.YtedopplldpcinaaGreat.Plan
/-
  Layer 12, the program: the closure that tells what is moved; slices.IndexFunc, slices.DeleteFunc over a row of whole numbers; live.Says as a row of its own.
-/
namespace Go.Proofs.YtedopplldpcinaaGreat.Plan
open Go.RowKit Go.Proofs.YtedopplldpcinaaGreat.Nand Go.Proofs.YtedopplldpcinaaGreat.Scan Go.Proofs.YtedopplldpcinaaGreat.Live Go.Proofs.YtedopplldpcinaaGreat.Replay

set_option maxHeartbeats 4000000 in
set_option maxRecDepth 100000 in
/-- live.Says: a row of its own -/
theorem codeSaysOwn (t : TableT) (om ob : Option Addr) (cm cb : Nat) (p : Int) (w : World) (h1 : Ints .i64 w (.slice ob t.2.length cb) t.2) (hl : t.2.length ≤ 1000) :
    Calls Tryz.prog 39 #[.agg #[.slice om t.1.length cm, .slice ob t.2.length cb], .int .i64 p] w fun e w' => (∃ v, e = .returned v ∧ w'.ownsRow w.heap.size 3 1 v (which t.2 p).length (icells (which t.2 p))) ∧ Mem w w' := by
  have hY := Blk.new w #[.slice om t.1.length cm, .slice ob t.2.length cb] 27
  have ma : Mem w (w.alloc (.cells #[.slice om t.1.length cm, .slice ob t.2.length cb] 27)) := (Mem.refl w).alloc _
  replace h1 := h1.mem ma
  go_enter Tryz.func39, Tryz.ntmps39
  go_wp2_with fail
  generalize hW : w.alloc (.cells #[.slice om t.1.length cm, .slice ob t.2.length cb] 27) = W at *
  clear hW
  refine (codeSectors ob t.2.length cb p W).mono ?_
  rintro e w1 ⟨rfl, rfl⟩
  have ha : Mem W ((W.alloc (.cells #[.slice ob t.2.length cb] 25)).alloc (.cells #[.int .i64 p] 3)) := ((Mem.refl W).alloc _).alloc _
  have b1 := ((Blk.new W #[.slice ob t.2.length cb] 25).alloc (.cells #[.int .i64 p] 3)).cell (j := 0) rfl
  have b2 := (Blk.new (W.alloc (.cells #[.slice ob t.2.length cb] 25)) #[.int .i64 p] 3).cell (j := 0) rfl
  rw [World.size_alloc] at b2
  replace h1 := h1.mem ha
  have HX := hide b1
  have HZ := hide b2
  have hm := ma.trans ha
  have hs := Mem8.size hm
  clear b1 b2 ha
  go_wp2_with fail
  refine (codeCollect _ _ ob cb t.2 p _ HX.out HZ.out h1 hl).mono ?_
  rintro e w1 ⟨v, rfl, h2, m2⟩
  go_wp2_with fail
  go_ret
  refine ⟨⟨v, rfl, h2.1, ?_⟩, hm.trans m2⟩
  rcases h2.2 with h | ⟨g, cap, cur, h1, h2, h⟩
  · exact .inl h
  · exact .inr ⟨g, cap, cur, h1, Nat.le_trans hs h2, h⟩

set_option maxHeartbeats 4000000 in
set_option maxRecDepth 100000 in
/-- live.Owners: a row of its own -/
theorem codeOwnersOwn (t : TableT) (om ob : Option Addr) (cm cb : Nat) (p : Int) (w : World) (h1 : Ints .i64 w (.slice om t.1.length cm) t.1) (hl : t.1.length ≤ 1000) :
    Calls Tryz.prog 36 #[.agg #[.slice om t.1.length cm, .slice ob t.2.length cb], .int .i64 p] w fun e w' => (∃ v, e = .returned v ∧ w'.ownsRow w.heap.size 3 1 v (which t.1 p).length (icells (which t.1 p))) ∧ Mem w w' := by
  have hY := Blk.new w #[.slice om t.1.length cm, .slice ob t.2.length cb] 27
  have ma : Mem w (w.alloc (.cells #[.slice om t.1.length cm, .slice ob t.2.length cb] 27)) := (Mem.refl w).alloc _
  replace h1 := h1.mem ma
  go_enter Tryz.func36, Tryz.ntmps36
  go_wp2_with fail
  generalize hW : w.alloc (.cells #[.slice om t.1.length cm, .slice ob t.2.length cb] 27) = W at *
  clear hW
  refine (codeSectors om t.1.length cm p W).mono ?_
  rintro e w1 ⟨rfl, rfl⟩
  have ha : Mem W ((W.alloc (.cells #[.slice om t.1.length cm] 25)).alloc (.cells #[.int .i64 p] 3)) := ((Mem.refl W).alloc _).alloc _
  have b1 := ((Blk.new W #[.slice om t.1.length cm] 25).alloc (.cells #[.int .i64 p] 3)).cell (j := 0) rfl
  have b2 := (Blk.new (W.alloc (.cells #[.slice om t.1.length cm] 25)) #[.int .i64 p] 3).cell (j := 0) rfl
  rw [World.size_alloc] at b2
  replace h1 := h1.mem ha
  have HX := hide b1
  have HZ := hide b2
  have hm := ma.trans ha
  have hs := Mem8.size hm
  clear b1 b2 ha
  go_wp2_with fail
  refine (codeCollect _ _ om cm t.1 p _ HX.out HZ.out h1 hl).mono ?_
  rintro e w1 ⟨v, rfl, h2, m2⟩
  go_wp2_with fail
  go_ret
  refine ⟨⟨v, rfl, h2.1, ?_⟩, hm.trans m2⟩
  rcases h2.2 with h | ⟨g, cap, cur, h1, h2, h⟩
  · exact .inl h
  · exact .inr ⟨g, cap, cur, h1, Nat.le_trans hs h2, h⟩

/-- a function value that tells of a whole number, in whatever world behind w that has what lies ahead of the block B -/
def Tells1 (B : Nat) (g : Nat) (lb : Array Value) (p : Int → Bool) (w : World) : Prop :=
  ∀ (z : Int) (w' : World), Below B w w' → Calls Tryz.prog g (#[.int .i64 z] ++ lb) w' fun e w2 => e = .returned (.bool (p z)) ∧ Mem w' w2
theorem Tells1.later {B g : Nat} {lb : Array Value} {p : Int → Bool} {w w' : World} (h : Tells1 B g lb p w) (m : Below B w w') : Tells1 B g lb p w' := fun z w2 m2 => h z w2 (m.trans m2)

set_option maxHeartbeats 4000000 in
set_option maxRecDepth 100000 in
theorem codeMoved (B Bo Bt : Nat) (vo : Value) (own : List Int) (t : TableT) (om ob : Option Addr) (cm lb cb : Nat) (w : World) (hBo : Bo < B) (hBt : Bt < B) (bo : Blk w Bo 25 #[vo]) (bt : Blk w Bt 27 #[.slice om t.1.length cm, .slice ob lb cb])
    (h1 : IntsIn (fun x => x < B) w vo own) (h2 : IntsIn (fun x => x < B) w (.slice om t.1.length cm) t.1) : Tells1 B 31 #[.pointer (some ⟨Bo, 0, none⟩), .pointer (some ⟨Bt, 0, none⟩)] (fun z => decide (mapT t z ∈ own)) w := by
  intro z w1 m1
  have hk : ∀ {v : Value} {l : List Int}, IntsIn (fun x => x < B) w v l → IntsIn (fun x => x < B) w1 v l := fun h => h.kept fun g hg _ => ⟨hg, fun off => Below.cell m1 (p := ⟨g, off, none⟩) hg⟩
  have h1' := (hk h1).ints
  have h2' := (hk h2).ints
  obtain ⟨oo, co, rfl⟩ := h1'.shape
  have bo1 := bo.below m1 hBo
  have bt1 := bt.below m1 hBt
  have HQ := hide (fun (w' : World) (m : Mem w1 w') => codePlaceOf t om ob cm lb cb z w' (h2'.mem m))
  have HC := hide (fun (x : Int) (w' : World) (m : Mem w1 w') => codeContains _ own x w' (h1'.mem m))
  have HK : Hid (∀ w', Mem w1 w' → w'.cell? ⟨Bo, 0, none⟩ = some (.slice oo own.length co) ∧ w'.cell? ⟨Bt, 0, none⟩ = some (.slice om t.1.length cm) ∧ w'.cell? ⟨Bt, 1, none⟩ = some (.slice ob lb cb)) := fun w' m => ⟨(bo1.mem m).cell (j := 0) rfl, (bt1.mem m).cell (j := 0) rfl, (bt1.mem m).cell (j := 1) rfl⟩
  have N0 := hide (Mem.drew (Mem.refl w1))
  obtain ⟨k0, k1, k2⟩ := HK.out _ (Mem.refl w1)
  clear hk h1 h2 bo bt h1' h2' bo1 bt1
  simp only [List.append_toArray, List.cons_append, List.nil_append]
  generalize mapT t z = q at *
  go_enter Tryz.func31, Tryz.ntmps31
  go_wp2_with fail
  go_region_held3 (fun w' => w'.cell? ⟨Bo, 0, none⟩ = some (.slice oo own.length co) ∧ w'.cell? ⟨Bt, 0, none⟩ = some (.slice om t.1.length cm) ∧ w'.cell? ⟨Bt, 1, none⟩ = some (.slice ob lb cb))
    (first
      | with_reducible exact (HK.out _ N0.out)
      | with_reducible exact (HK.out _ N1.out))
    (first
      | (go_at_call 33; with_reducible refine (HQ.out _ N0.out).mono ?_; rintro e u1 ⟨rfl, nn1⟩; have N1 := hide (Mem.trans N0.out nn1))
      | (go_at_call 32; with_reducible refine (HC.out _ _ N1.out).mono ?_; rintro e u2 ⟨rfl, rfl⟩; skip))
  all_goals (go_wp2_with fail)
  all_goals go_ret
  all_goals exact ⟨rfl, N1.out⟩

set_option maxHeartbeats 4000000 in
set_option maxRecDepth 100000 in
theorem codeIndexF (B : Nat) (v : Value) (l : List Int) (g : Nat) (lb : Array Value) (eg : ∀ args w, (callFunc g args).run Tryz.prog w = .ok (.enter g args) w) (p : Int → Bool) (w : World) (h : Ints .i64 w v l) (hB : B ≤ w.heap.size) (hT : Tells1 B g lb p w) :
    Calls Tryz.prog 64 #[v, .func (.func g) #[] lb] w fun e w' => (∃ r : Int, e = .returned (.int .i64 r) ∧ ((r = -1 ∧ ∀ j, j < l.length → p (l.getD j 0) = false) ∨ ∃ k : Nat, k < l.length ∧ r = (k : Int) ∧ p (l.getD k 0) = true ∧ ∀ j, j < k → p (l.getD j 0) = false)) ∧ Mem w w' := by
  obtain ⟨oa, ca, rfl⟩ := h.shape
  have hml := h.1
  unfold maxLen at hml
  have HI := hide h
  have HT := hide hT
  clear h hT
  go_enter Tryz.func64, Tryz.ntmps64
  go_wp2_with fail
  go_loopw [8] (fun i wr => ∃ k : Nat, k ≤ l.length ∧ i = .int .i64 k ∧ (∀ j, j < k → p (l.getD j 0) = false) ∧ Mem w wr) (fun i _ => l.length - (intOf i).toNat)
  case atStart => exact ⟨0, Nat.zero_le _, rfl, fun j hj => absurd hj (Nat.not_lt_zero _), Mem.refl _⟩
  case round =>
    obtain ⟨k, hk, rfl, hno, hmr⟩ := hrel
    have HNO := hide hno
    clear hno
    by_cases hlt : k < l.length
    · have hlt' : (k : Int) < (l.length : Int) := by omega
      have hk0 : (0 : Int) ≤ (k : Int) := by omega
      obtain ⟨ab, ao, rfl, hc⟩ := (HI.out.mem hmr).at (by omega)
      have d0 := hc k hlt
      have HP : Hid (∀ b, p (l.getD k 0) = b → (b = false → ∀ j, j < k + 1 → p (l.getD j 0) = false)) := by
        intro b hb hf j hj
        by_cases e : j = k
        · subst e; rw [hb, hf]
        · exact HNO.out j (by omega)
      have HE : Hid (∃ b, p (l.getD k 0) = b) := ⟨_, rfl⟩
      have hcall := HT.out (l.getD k 0) wr (Below.mono (show Below w.heap.size w wr from hmr) hB)
      obtain ⟨b, hb⟩ := HE.out
      have HB := hide hb
      have HF : Hid (b = true → ∃ k' : Nat, k' < l.length ∧ (k : Int) = (k' : Int) ∧ p (l.getD k' 0) = true ∧ ∀ j, j < k' → p (l.getD j 0) = false) := fun e => ⟨k, hlt, rfl, hb.trans e, HNO.out⟩
      rw [hb] at hcall
      clear hc hb HE
      generalize l.getD k 0 = z at *
      cases b with
      | true =>
        go_wp2_with (go_at_fn g; refine hcall.mono ?_; rintro e w2 ⟨rfl, m2⟩)
        (try go_ret)
        exact ⟨⟨_, rfl, .inr (HF.out trivial)⟩, hmr.trans m2⟩
      | false =>
        go_wp2_with (go_at_fn g; refine hcall.mono ?_; rintro e w2 ⟨rfl, m2⟩)
        go_roundw
        case rel => exact ⟨k + 1, by omega, by go_num, HP.out _ HB.out rfl, hmr.trans m2⟩
        case measure => simp [intOf]; omega
    · have hke : k = l.length := by omega
      subst hke
      have hlt' : ¬ ((l.length : Int) < (l.length : Int)) := by omega
      go_wp2_with fail
      go_ret
      exact ⟨⟨_, rfl, .inl ⟨rfl, HNO.out⟩⟩, hmr⟩

theorem capOk_of {a : Option Addr} {n c : Nat} (h : n ≤ c) : CapOk (.slice a n c) := by
  intro a' n' c' e
  injection e with _ e1 e2
  omega
/-- j have been looked at; the i that stay lie ahead; from j on the row is as it was -/
def Kept (l : List Int) (q : Int → Bool) (j i : Nat) (dk : List Int) : Prop :=
  dk.length = l.length ∧ i < j ∧ j ≤ l.length ∧ dk.take i = (l.take j).filter q ∧ ∀ m, j ≤ m → dk.getD m 0 = l.getD m 0
theorem take_one {l : List Int} {j : Nat} (h : j < l.length) : l.take (j + 1) = l.take j ++ [l.getD j 0] := by
  rw [List.take_succ_eq_append_getElem h, List.getD_eq_getElem?_getD, List.getElem?_eq_getElem h]; rfl
theorem Kept.start {l : List Int} {q : Int → Bool} {k : Nat} (hk : k < l.length) (h : ∀ j, j < k → q (l.getD j 0) = true) (h0 : q (l.getD k 0) = false) : Kept l q (k + 1) k l := by
  refine ⟨rfl, Nat.lt_succ_self _, hk, ?_, fun _ _ => rfl⟩
  rw [take_one hk, List.filter_append, List.filter_cons_of_neg (by simpa using h0), List.filter_nil, List.append_nil, List.filter_eq_self.2]
  intro a ha
  obtain ⟨j, hj, rfl⟩ := List.getElem_of_mem ha
  have hj' : j < k := by rw [List.length_take] at hj; omega
  have := h j hj'
  rw [List.getD_eq_getElem?_getD, List.getElem?_eq_getElem (by omega)] at this
  rw [List.getElem_take]
  exact this
theorem Kept.keep {l dk : List Int} {q : Int → Bool} {j i : Nat} (h : Kept l q j i dk) (hj : j < l.length) (hq : q (l.getD j 0) = true) : Kept l q (j + 1) (i + 1) (dk.set i (l.getD j 0)) := by
  obtain ⟨h1, h2, h3, h4, h5⟩ := h
  have hi : i < (dk.set i (l.getD j 0)).length := by rw [List.length_set]; omega
  refine ⟨by rw [List.length_set, h1], by omega, hj, ?_, fun m hm => ?_⟩
  · rw [List.take_succ_eq_append_getElem hi, List.getElem_set_self, List.take_set_of_le (Nat.le_refl _), h4, take_one hj, List.filter_append, List.filter_cons_of_pos hq]
    rfl
  · rw [← h5 m (by omega), List.getD_eq_getElem?_getD, List.getElem?_set_ne (by omega), List.getD_eq_getElem?_getD]
theorem Kept.skip {l dk : List Int} {q : Int → Bool} {j i : Nat} (h : Kept l q j i dk) (hj : j < l.length) (hq : q (l.getD j 0) = false) : Kept l q (j + 1) i dk := by
  obtain ⟨h1, h2, h3, h4, h5⟩ := h
  refine ⟨h1, by omega, hj, ?_, fun m hm => h5 m (by omega)⟩
  rw [h4, take_one hj, List.filter_append, List.filter_cons_of_neg (by simpa using hq), List.filter_nil, List.append_nil]
theorem zero_int12 (w : World) : (zeroValue 3).run Tryz.prog w = .ok (.int .i64 0) w := by kernel_rfl

set_option maxHeartbeats 8000000 in
set_option maxRecDepth 100000 in
theorem codeDelete (B : Nat) (v : Value) (l : List Int) (g : Nat) (lb : Array Value) (eg : ∀ args w, (callFunc g args).run Tryz.prog w = .ok (.enter g args) w) (p : Int → Bool) (w : World) (h : w.ownsRow B 3 1 v l.length (icells l)) (hB : B ≤ w.heap.size) (hT : Tells1 B g lb p w) :
    Calls Tryz.prog 38 #[v, .func (.func g) #[] lb] w fun e w' => (∃ v, e = .returned v ∧ IntsIn (fun x => B ≤ x) w' v (l.filter fun z => !p z) ∧ CapOk v) ∧ Below B w w' := by
  have hIF := codeIndexF B v l g lb eg p w (Ints.of_owns h) hB hT
  rcases RowZ.of_owns h rfl with ⟨rfl, rfl⟩ | ⟨gb, cap, rfl, hbg, hrow⟩
  · go_enter Tryz.func38, Tryz.ntmps38
    go_wp2_with (go_at_call 64; refine hIF.mono ?_; rintro e w1 ⟨⟨r, rfl, hr⟩, m1⟩; obtain ⟨rfl, -⟩ | ⟨k, hk, -⟩ := hr; rotate_left; exact absurd hk (by simp))
    go_ret
    exact ⟨⟨_, rfl, ⟨by simp, .inl ⟨rfl, none, 0, rfl⟩⟩, CapOk.nil _ _⟩, Below.mono m1 hB⟩
  · have hn0 := hrow.cap
    have hml := hn0.2
    unfold maxLen at hml
    have HR := hide hrow
    have HT := hide hT
    clear hrow hT h
    go_enter Tryz.func38, Tryz.ntmps38
    go_wp2_with fail
    refine hIF.mono ?_
    rintro e w1 ⟨⟨r, rfl, hr⟩, m1⟩
    have mB : Below B w w1 := Below.mono (show Below w.heap.size w w1 from m1) hB
    have HR1 := hide (HR.out.mem m1)
    clear hIF HR
    rcases hr with ⟨rfl, hno⟩ | ⟨k, hk, rfl, hy, hno⟩
    · have HE : Hid (l.filter (fun z => !p z) = l) := by
        show _ = _
        rw [List.filter_eq_self]
        intro a ha
        obtain ⟨j, hj, rfl⟩ := List.getElem_of_mem ha
        have := hno j hj
        rw [List.getD_eq_getElem?_getD, List.getElem?_eq_getElem hj] at this
        rw [show p l[j] = false from this]
        rfl
      clear hno
      go_wp2_with fail
      go_ret
      have hI := HR1.out.ints (S := fun x => B ≤ x) hbg l.length (Nat.le_refl _)
      rw [List.take_length] at hI
      exact ⟨⟨_, rfl, by rw [HE.out]; exact hI, capOk_of hn0.1⟩, mB⟩
    · have HK := hide (Kept.start (q := fun z => !p z) hk (fun j hj => by rw [hno j hj]; rfl) (by rw [hy]; rfl))
      have hne1 : ((k : Int) == -1) = false := beq_eq_false_iff_ne.2 (by omega)
      clear hy hno
      go_wp2_with fail
      go_loopg [5, 6, 7] l.length (fun gg s5 s6 _ wr => ∃ (i j : Nat) (dk : List Int), s5 = .int .i64 i ∧ s6 = .int .i64 j ∧ j ≤ l.length ∧ l.length - j ≤ gg ∧ Hid (Kept l (fun z => !p z) j i dk) ∧ Hid (RowZ wr gb cap dk) ∧ Below B w wr)
      case atStart => exact ⟨k, k + 1, l, rfl, by go_num, by omega, by omega, HK, HR1, mB⟩
      case round =>
        clear HK HR1 mB m1
        obtain ⟨i, j, dk, rfl, rfl, hjd, hgg, HI, HRW, hmr⟩ := hrel
        have hI := HI.out
        have hds := hI.1
        have hij := hI.2.1
        by_cases hlt : j < l.length
        · have hltz : (j : Int) < (l.length : Int) := by omega
          have cj := HRW.out.cell (j := j) (by omega)
          have ci := HRW.out.cell (j := i) (by omega)
          have fi := HRW.out.frozen i
          rw [hI.2.2.2.2 j (Nat.le_refl _)] at cj
          have hcall := HT.out (l.getD j 0) wr hmr
          have HE : Hid (∃ b, p (l.getD j 0) = b) := ⟨_, rfl⟩
          obtain ⟨b, hb⟩ := HE.out
          have HKT : Hid (b = false → ∃ dk', Kept l (fun z => !p z) (j + 1) (i + 1) dk' ∧ ∀ w', RowZ w' gb cap dk → RowZ (w'.setCell ⟨gb, i, none⟩ (.int .i64 (l.getD j 0))) gb cap dk') := fun e => ⟨_, HI.out.keep hlt (by rw [hb, e]; rfl), fun w' h => h.set (by omega) _⟩
          have HKF : Hid (b = true → Kept l (fun z => !p z) (j + 1) i dk) := fun e => HI.out.skip hlt (by rw [hb, e]; rfl)
          rw [hb] at hcall
          clear hI hb HE
          generalize l.getD j 0 = u at *
          generalize dk.getD i 0 = old at ci
          have hwl := HRW.out.lt
          cases b with
          | false =>
            have hkeep : ∀ w2, Mem wr w2 → w2.cell? ⟨gb, i, none⟩ = some (.int .i64 old) ∧ w2.frozen? ⟨gb, i, none⟩ = false := fun w2 m => ⟨(Below.cell m (p := ⟨gb, i, none⟩) hwl).trans ci, (HRW.out.mem m).frozen i⟩
            have HKP := hide hkeep
            clear hkeep
            go_wp2_with (go_at_fn g; refine hcall.mono ?_; rintro e w2 ⟨rfl, m2⟩; obtain ⟨ci2, fi2⟩ := HKP.out w2 m2)
            obtain ⟨dk', hk', hs'⟩ := HKT.out trivial
            go_roundg (l.length - (j + 1))
            case measure => omega
            case rel => exact ⟨i + 1, j + 1, dk', by go_num, by go_num, by omega, Nat.le_refl _, hk', hs' _ (HRW.out.mem m2), Below.setCell (hmr.trans (Below.mono (show Below wr.heap.size wr w2 from m2) (Nat.le_trans hB hmr.size))) (p := ⟨gb, i, none⟩) hbg _⟩
          | true =>
            go_wp2_with (go_at_fn g; refine hcall.mono ?_; rintro e w2 ⟨rfl, m2⟩)
            go_roundg (l.length - (j + 1))
            case measure => omega
            case rel => exact ⟨i, j + 1, dk, rfl, by go_num, by omega, Nat.le_refl _, HKF.out trivial, HRW.out.mem m2, hmr.trans (Below.mono (show Below wr.heap.size wr w2 from m2) (Nat.le_trans hB hmr.size))⟩
        · obtain rfl : j = l.length := by omega
          have hltz : ¬ (l.length : Int) < (l.length : Int) := by omega
          have hcl : ∀ ty, (Builtin.clear_ #[25] ty #[.slice (some ⟨gb, i, none⟩) (l.length - i) (cap - i)]).run Tryz.prog wr = .ok (.tuple #[]) (wr.setCells gb i (List.replicate (l.length - i) (.int .i64 0))) :=
            fun ty => Lib.run_clear_slice wr _ _ ty _ Tryz.underlying25 zero_int12 rfl rfl gb i _ _ (by omega) (fun t ht => by rw [HRW.out.cell (by omega)]; rfl) (fun t ht => HRW.out.frozen _)
          have hcI := HRW.out.cap
          clear hI
          go_wp2_with fail
          go_ret
          have hI := HI.out
          have hR := cleared_ints HRW.out (S := fun x => B ≤ x) hbg i (by omega) (List.replicate (l.length - i) (.int .i64 0))
          rw [hI.2.2.2.1, List.take_length] at hR
          exact ⟨⟨_, rfl, hR, capOk_of (by omega)⟩, mem_setCells hbg _ _ _ hmr⟩
end Go.Proofs.YtedopplldpcinaaGreat.Plan
